/- What StateBytes does. Proved: for every two lists of transactions and every text, StateBytes returns true: a state is told as bytes, and read again, and goes on as it was; any bytes are one, or refused; the tables of the program start as its text lays them. No condition but the form's own reach. -/
import Derived.Test.YtdikilhobmkpkaaGreatDoorPur
import Derived.Test.YtdikilhobmkpkaaGreatDoorAws
import Derived.Test.YtdikilhobmkpkaaGreatDoorArg
import Derived.Test.YtdikilhobmkpkaaGreatDoorSGlb
import Derived.Test.YtdikilhobmkpkaaGreatDoorTie
import Derived.Test.YtdikilhobmkpkaaGreatDoorCards
import Derived.SevenTiedAt
import Derived.SizedLaws
namespace Go.Proofs.YtdikilhobmkpkaaGreatDoor
open Go Go.RowKit Go.Maps
/-- The transactions l lie at a. -/
def TA (w : World) (a : Option Addr) (l : List TX) : Prop := ∀ i (h : i < l.length), ∃ g o sa cap, a = some ⟨g, o, none⟩ ∧ w.rangeAt g (o + i * 3) (txc l[i].client l[i].nonce (.slice sa l[i].ops.length cap)).toList ∧ SL w sa l[i].ops ∧ l[i].client < 18446744073709551616 ∧ l[i].nonce < 18446744073709551616
theorem TA.below {w w' : World} {a : Option Addr} {l : List TX} (h : TA w a l) (hb : Below w.heap.size w w') : TA w' a l := fun i hi => by
  obtain ⟨g, o, sa, cap, ha, hr, hs, h1, h2⟩ := h i hi
  refine ⟨g, o, sa, cap, ha, fun j v hv => ?_, hs.below hb, h1, h2⟩
  have h3 := hr j v hv
  rw [hb.cell (World.block_lt_of_cell? _ _ h3)]
  exact h3
theorem ST.apart {w w' : World} {b b' : Nat} {m m' : List KV} (h : ST w b m) (h' : ST w b' m') (hg : w.grownBy w' (some b')) (hne : b ≠ b') : ST w' b m := by
  obtain ⟨mb, h1, _⟩ := h'.out
  exact h.kept hg h1 hne
theorem encM_length {m : List KV} (h : Good m) : (encM m).length ≤ 140737488355328 := by
  have h1 := kvsB_small (l := m) (fun p hp => (h.each p hp).2)
  have h2 := h.len
  unfold encM
  rw [List.length_append, num_length]
  omega
set_option maxRecDepth 100000 in
set_option maxHeartbeats 4000000 in
theorem stateBytes_any (l more : List TX) (b : List UInt8) (aL aM : Option Addr) (cL cM : Nat) (w : World) (hG : Sh.Glob w) (hl : TA w aL l) (hm : TA w aM more) (hb : b.length ≤ 140737488355328) :
    Calls Tryz.prog 3 #[.slice aL l.length cL, .slice aM more.length cM, .string ⟨b.toArray⟩] w fun e w' => e = .returned (.bool true) ∧ Below w.heap.size w w' := by
  have HW := fun w1 (hB : Below w.heap.size w w1) => awake_any w1 (hG.belowSize hB)
  have HA := fun (t : TX) sa cap sb m w1 (hS : ST w1 sb m) (hg : Good m) (hB : Below w.heap.size w w1) (hL : SL w1 sa t.ops) (h1 : t.client < 18446744073709551616) (h2 : t.nonce < 18446744073709551616) => apply_any t sa cap sb m w1 hS hL (hG.belowSize hB) hg.len h1 h2 (hg.val _)
  go_enter Tryz.func3, Tryz.ntmps3
  go_wp2_with (first
    | (go_at_call 5; refine (new_any _).mono ?_; rintro e w1 ⟨rfl, hw1, hS1, hz1⟩; replace hz1 := hz1.symm)
    | (go_at_call 6; refine (HW _ hw1).mono ?_; rintro e w2 ⟨rfl, hw2⟩; have hB2 := hw1.trans (hw2.mono hw1.size); have hS2 := hS1.below hw2))
  have hls : w.heap.size ≤ w.heap.size + 1 := Nat.le_succ _
  generalize w.heap.size + 1 = sb at *
  clear hw1 hw2 hS1 hz1 HW
  go_loopw [8] (fun v8 wl => ∃ (i : Nat) (m : List KV), i ≤ l.length ∧ i ≤ 40 ∧ v8 = .int .i64 i ∧ ST wl sb m ∧ Good m ∧ Below w.heap.size w wl) (fun v8 _ => l.length - (intOf v8).toNat)
  case atStart => exact ⟨0, [], by omega, by omega, rfl, hS2, Good.nil, hB2⟩
  case round =>
    obtain ⟨i, m, hi, hi4, rfl, hS, hg, hB⟩ := hrel
    clear hS2 hB2
    by_cases hlt : i < l.length
    · by_cases h40 : i < 40
      · obtain ⟨g, o, sa, cap, rfl, hr, hsl, hc, hn⟩ := hl i hlt
        have hr2 : wr.rangeAt g (o + i * 3) (txc l[i].client l[i].nonce (.slice sa l[i].ops.length cap)).toList := by
          intro j v hv
          have h1 := hr j v hv
          rw [hB.cell (World.block_lt_of_cell? _ _ h1)]
          exact h1
        have HAp := HA l[i] sa cap sb m wr hS hg hB (hsl.below hB) hc hn
        have hgn := hg.ap l[i] hn
        clear HA hr
        generalize l[i] = t at *
        have hz1 : (0 : Int) ≤ (i : Int) := by omega
        have hz2 : (i : Int) < (l.length : Int) := by omega
        go_wp2_with (first
          | (go_at_call 7; refine HAp.mono ?_; rintro e w3 ⟨⟨sl, cp, rfl⟩, hS3, hg3⟩)
          | (with_reducible refine at_list ?_; first
            | (refine wpList_loadOp (op := ⟨some 41, _, _, _, _, _⟩) rfl _ _ rfl g (o + i * 3) rfl (txc t.client t.nonce (.slice sa t.ops.length cap)) hr2 _ Tryz.underlying33 rfl (by rw [txc_size]; exact zTx.2) ?_)))
        go_roundw
        case rel => exact ⟨i + 1, apM m t, by omega, by omega, by go_num, hS3, hgn, hB.trans (below_of_grown hg3 hls hB.size)⟩
        case measure => simp [intOf]; omega
      · have hr := hS.ris
        obtain ⟨hd1, hd2⟩ := dec_enc hg hr
        have HEn := encode_st sb m wr hS (Nat.le_trans hg.len (by decide)) hg.sml
        have HDe := fun w1 => decode_any (encM m) w1 (encM_length hg)
        rw [hd1, hd2, mapD_ris hr] at HDe
        have HSm := fun ob w1 (h1 : ST w1 sb m) (h2 : ST w1 ob m) => same_st sb ob m m w1 h1 h2
        rw [show decide (m = m) = true from decide_eq_true rfl] at HSm
        have hsl := hS.lt
        clear hd1 hd2 hr hi hi4
        generalize encM m = en at *
        go_wp2_with (first
          | (go_at_call 9; refine HEn.mono ?_; rintro e w3 ⟨rfl, hw3⟩; have hB3 := hB.trans (hw3.mono hB.size); have hS3 := hS.below hw3)
          | (go_at_call 8; refine (HDe _).mono ?_; rintro e w4 ⟨p, rfl, hw4, -, hp4⟩; obtain ⟨ob, hlo, rfl, hO4⟩ := hp4 rfl; clear hp4; have hB4 := hB3.trans (hw4.mono hB3.size); have hS4 := hS3.below hw4; have hno : sb ≠ ob := Nat.ne_of_lt (Nat.lt_of_lt_of_le hS3.lt hlo))
          | (go_at_call 10; refine (HSm _ _ hS4 hO4).mono ?_; rintro e w5 ⟨rfl, hw5⟩; have hB5 := hB4.trans (hw5.mono hB4.size); have hS5 := hS4.below hw5; have hO5 := hO4.below hw5))
        have hlob : w.heap.size ≤ ob := Nat.le_trans hB3.size hlo
        have hg5 : Good m := hg
        clear hB hS hB3 hB4 hS3 hS4 hO4 hw3 hw4 hw5 HEn HDe HSm hsl hlo hlt hg
        go_loopw [11] (fun v11 wl => ∃ (j : Nat) (m : List KV), j ≤ more.length ∧ j ≤ 40 ∧ v11 = .int .i64 j ∧ ST wl sb m ∧ ST wl ob m ∧ Good m ∧ Below w.heap.size w wl) (fun v11 _ => more.length - (intOf v11).toNat)
        case atStart => exact ⟨0, m, by omega, by omega, rfl, hS5, hO5, hg5, hB5⟩
        case round =>
          clear hS5 hO5 hg5 hB5 m
          obtain ⟨j, m, hj, hj4, rfl, hS5, hO5, hg, hB5⟩ := hrel
          by_cases hlt2 : j < more.length
          · by_cases h402 : j < 40
            · obtain ⟨g, o, sa, cap, rfl, hr, hsl, hc, hn⟩ := hm j hlt2
              have hrr : ∀ w1, Below w.heap.size w w1 → w1.rangeAt g (o + j * 3) (txc more[j].client more[j].nonce (.slice sa more[j].ops.length cap)).toList := by
                intro w1 hB k v hv
                have h1 := hr k v hv
                rw [hB.cell (World.block_lt_of_cell? _ _ h1)]
                exact h1
              have HA1 := fun w1 (hS : ST w1 sb m) (hB : Below w.heap.size w w1) => HA more[j] sa cap sb m w1 hS hg hB (hsl.below hB) hc hn
              have HA2 := fun w1 (hS : ST w1 ob m) (hB : Below w.heap.size w w1) => HA more[j] sa cap ob m w1 hS hg hB (hsl.below hB) hc hn
              have hgn := hg.ap more[j] hn
              clear HA hr
              generalize more[j] = t at *
              have HP : ∀ sb w1 e w2, ApP m t sb w1 e w2 → ∃ sl cp, e = .returned (.tuple #[.slice sl (apL m t) cp, .int .i64 (apE m t)]) ∧ ST w2 sb (apM m t) ∧ w1.grownBy w2 (some sb) := fun sb w1 e w2 h => by
                obtain ⟨sl, cp, h1⟩ := h.out
                exact ⟨sl, cp, h1, h.st, h.grown⟩
              have HB1 := fun w1 (hS : ST w1 sb m) (hB : Below w.heap.size w w1) => (HA1 w1 hS hB).mono (HP sb w1)
              have HB2 := fun w1 (hS : ST w1 ob m) (hB : Below w.heap.size w w1) => (HA2 w1 hS hB).mono (HP ob w1)
              clear HA1 HA2 HP
              generalize apL m t = aL1 at *
              generalize apM m t = aM1 at *
              generalize apE m t = aE1 at *
              have hz1 : (0 : Int) ≤ (j : Int) := by omega
              have hz2 : (j : Int) < (more.length : Int) := by omega
              have hr5 := hrr _ hB5
              go_wp2_with (first
                | (go_at_call 7; refine (HB1 _ hS5 hB5).mono ?_; clear HB1; rintro e w6 ⟨sl, cp, rfl, hS6, hg6⟩; have hO6 := hO5.apart hS5 hg6 (Ne.symm hno); have hB6 := hB5.trans (below_of_grown hg6 hls hB5.size); have hr6 := hrr _ hB6)
                | (go_at_call 7; refine (HB2 _ hO6 hB6).mono ?_; rintro e w7 ⟨sl2, cp2, rfl, hO7, hg7⟩; have hS7 := hS6.apart hO6 hg7 hno; have hB7 := hB6.trans (below_of_grown hg7 hlob hB6.size))
                | (with_reducible refine at_list ?_; first
                  | (refine wpList_loadOp (op := ⟨some 72, _, _, _, _, _⟩) rfl _ _ rfl g (o + j * 3) rfl (txc t.client t.nonce (.slice sa t.ops.length cap)) hr5 _ Tryz.underlying33 rfl (by rw [txc_size]; exact zTx.2) ?_)
                  | (refine wpList_loadOp (op := ⟨some 81, _, _, _, _, _⟩) rfl _ _ rfl g (o + j * 3) rfl (txc t.client t.nonce (.slice sa t.ops.length cap)) hr6 _ Tryz.underlying33 rfl (by rw [txc_size]; exact zTx.2) ?_)))
              go_roundw
              case rel => exact ⟨j + 1, aM1, by omega, by omega, by go_num, hS7, hO7, hgn, hB7⟩
              case measure => simp [intOf]; omega
            · clear HA
              have HFd := fun w1 => decode_any b w1 hb
              have HRd := fun w1 => rdecode_any b w1 hb
              have HSm := fun w1 (h1 : ST w1 sb m) (h2 : ST w1 ob m) => same_st sb ob m m w1 h1 h2
              rw [show decide (m = m) = true from decide_eq_true rfl] at HSm
              by_cases he : dE b = 0
              · obtain ⟨hgD, hrD⟩ := dM_good he
                rw [he, mapD_ris hrD] at HFd
                rw [he] at HRd
                have HIs := fun xb w1 (h : ST w1 xb (dM b)) a cap (hK : KA w1 a (dM b)) => is_st xb (dM b) w1 h hgD.len (fun p hp => (hgD.each p hp).2) a cap hK
                clear he hrD
                generalize dM b = mD at *
                go_wp2_with (first
                  | (go_at_call 8; refine (HFd _).mono ?_; rintro e w6 ⟨p, rfl, hw6, -, hp6⟩; obtain ⟨xb, hlx, rfl, hX6⟩ := hp6 rfl; clear hp6; have hB6 := hB5.trans (hw6.mono hB5.size); have hS6 := hS5.below hw6; have hO6 := hO5.below hw6)
                  | (go_at_call 11; refine (HRd _).mono ?_; rintro e w7 ⟨p, rfl, hw7, hp7⟩; obtain ⟨ka, kc, rfl, hK7⟩ := hp7 rfl; clear hp7; have hB7 := hB6.trans (hw7.mono hB6.size); have hS7 := hS6.below hw7; have hO7 := hO6.below hw7; have hX7 := hX6.below hw7)
                  | (go_at_call 10; refine (HSm _ hS7 hO7).mono ?_; rintro e w8 ⟨rfl, hw8⟩; have hB8 := hB7.trans (hw8.mono hB7.size); have hX8 := hX7.below hw8; have hK8 := hK7.below hw8)
                  | (go_at_call 12; refine (HIs xb _ hX8 ka kc hK8).mono ?_; rintro e w9 ⟨rfl, hw9⟩; have hB9 := hB8.trans (hw9.mono hB8.size)))
                go_ret
                exact ⟨rfl, hB9⟩
              · generalize dM b = mD at *
                generalize mapD mD = mE at *
                have hbe : (dE b == 0) = false := by rw [beq_eq_false_iff_ne]; exact he
                replace he : Hid (dE b ≠ 0) := he
                generalize dE b = er at *
                go_wp2_with (first
                  | (go_at_call 8; refine (HFd _).mono ?_; rintro e w6 ⟨p, rfl, hw6, hp6, -⟩; have hp6 := hp6 he.out; subst hp6; have hB6 := hB5.trans (hw6.mono hB5.size); have hS6 := hS5.below hw6; have hO6 := hO5.below hw6)
                  | (go_at_call 11; refine (HRd _).mono ?_; rintro e w7 ⟨p, rfl, hw7, -⟩; have hB7 := hB6.trans (hw7.mono hB6.size); have hS7 := hS6.below hw7; have hO7 := hO6.below hw7)
                  | (go_at_call 10; refine (HSm _ hS7 hO7).mono ?_; rintro e w8 ⟨rfl, hw8⟩; have hB8 := hB7.trans (hw8.mono hB7.size)))
                go_ret
                exact ⟨rfl, hB8⟩
          · clear HA
            have HFd := fun w1 => decode_any b w1 hb
            have HRd := fun w1 => rdecode_any b w1 hb
            have HSm := fun w1 (h1 : ST w1 sb m) (h2 : ST w1 ob m) => same_st sb ob m m w1 h1 h2
            rw [show decide (m = m) = true from decide_eq_true rfl] at HSm
            by_cases he : dE b = 0
            · obtain ⟨hgD, hrD⟩ := dM_good he
              rw [he, mapD_ris hrD] at HFd
              rw [he] at HRd
              have HIs := fun xb w1 (h : ST w1 xb (dM b)) a cap (hK : KA w1 a (dM b)) => is_st xb (dM b) w1 h hgD.len (fun p hp => (hgD.each p hp).2) a cap hK
              clear he hrD
              generalize dM b = mD at *
              go_wp2_with (first
                | (go_at_call 8; refine (HFd _).mono ?_; rintro e w6 ⟨p, rfl, hw6, -, hp6⟩; obtain ⟨xb, hlx, rfl, hX6⟩ := hp6 rfl; clear hp6; have hB6 := hB5.trans (hw6.mono hB5.size); have hS6 := hS5.below hw6; have hO6 := hO5.below hw6)
                | (go_at_call 11; refine (HRd _).mono ?_; rintro e w7 ⟨p, rfl, hw7, hp7⟩; obtain ⟨ka, kc, rfl, hK7⟩ := hp7 rfl; clear hp7; have hB7 := hB6.trans (hw7.mono hB6.size); have hS7 := hS6.below hw7; have hO7 := hO6.below hw7; have hX7 := hX6.below hw7)
                | (go_at_call 10; refine (HSm _ hS7 hO7).mono ?_; rintro e w8 ⟨rfl, hw8⟩; have hB8 := hB7.trans (hw8.mono hB7.size); have hX8 := hX7.below hw8; have hK8 := hK7.below hw8)
                | (go_at_call 12; refine (HIs xb _ hX8 ka kc hK8).mono ?_; rintro e w9 ⟨rfl, hw9⟩; have hB9 := hB8.trans (hw9.mono hB8.size)))
              go_ret
              exact ⟨rfl, hB9⟩
            · generalize dM b = mD at *
              generalize mapD mD = mE at *
              have hbe : (dE b == 0) = false := by rw [beq_eq_false_iff_ne]; exact he
              replace he : Hid (dE b ≠ 0) := he
              generalize dE b = er at *
              go_wp2_with (first
                | (go_at_call 8; refine (HFd _).mono ?_; rintro e w6 ⟨p, rfl, hw6, hp6, -⟩; have hp6 := hp6 he.out; subst hp6; have hB6 := hB5.trans (hw6.mono hB5.size); have hS6 := hS5.below hw6; have hO6 := hO5.below hw6)
                | (go_at_call 11; refine (HRd _).mono ?_; rintro e w7 ⟨p, rfl, hw7, -⟩; have hB7 := hB6.trans (hw7.mono hB6.size); have hS7 := hS6.below hw7; have hO7 := hO6.below hw7)
                | (go_at_call 10; refine (HSm _ hS7 hO7).mono ?_; rintro e w8 ⟨rfl, hw8⟩; have hB8 := hB7.trans (hw8.mono hB7.size)))
              go_ret
              exact ⟨rfl, hB8⟩
    · have hr := hS.ris
      obtain ⟨hd1, hd2⟩ := dec_enc hg hr
      have HEn := encode_st sb m wr hS (Nat.le_trans hg.len (by decide)) hg.sml
      have HDe := fun w1 => decode_any (encM m) w1 (encM_length hg)
      rw [hd1, hd2, mapD_ris hr] at HDe
      have HSm := fun ob w1 (h1 : ST w1 sb m) (h2 : ST w1 ob m) => same_st sb ob m m w1 h1 h2
      rw [show decide (m = m) = true from decide_eq_true rfl] at HSm
      have hsl := hS.lt
      clear hd1 hd2 hr hi hi4
      generalize encM m = en at *
      go_wp2_with (first
        | (go_at_call 9; refine HEn.mono ?_; rintro e w3 ⟨rfl, hw3⟩; have hB3 := hB.trans (hw3.mono hB.size); have hS3 := hS.below hw3)
        | (go_at_call 8; refine (HDe _).mono ?_; rintro e w4 ⟨p, rfl, hw4, -, hp4⟩; obtain ⟨ob, hlo, rfl, hO4⟩ := hp4 rfl; clear hp4; have hB4 := hB3.trans (hw4.mono hB3.size); have hS4 := hS3.below hw4; have hno : sb ≠ ob := Nat.ne_of_lt (Nat.lt_of_lt_of_le hS3.lt hlo))
        | (go_at_call 10; refine (HSm _ _ hS4 hO4).mono ?_; rintro e w5 ⟨rfl, hw5⟩; have hB5 := hB4.trans (hw5.mono hB4.size); have hS5 := hS4.below hw5; have hO5 := hO4.below hw5))
      have hlob : w.heap.size ≤ ob := Nat.le_trans hB3.size hlo
      have hg5 : Good m := hg
      clear hB hS hB3 hB4 hS3 hS4 hO4 hw3 hw4 hw5 HEn HDe HSm hsl hlo hlt hg
      go_loopw [11] (fun v11 wl => ∃ (j : Nat) (m : List KV), j ≤ more.length ∧ j ≤ 40 ∧ v11 = .int .i64 j ∧ ST wl sb m ∧ ST wl ob m ∧ Good m ∧ Below w.heap.size w wl) (fun v11 _ => more.length - (intOf v11).toNat)
      case atStart => exact ⟨0, m, by omega, by omega, rfl, hS5, hO5, hg5, hB5⟩
      case round =>
        clear hS5 hO5 hg5 hB5 m
        obtain ⟨j, m, hj, hj4, rfl, hS5, hO5, hg, hB5⟩ := hrel
        by_cases hlt2 : j < more.length
        · by_cases h402 : j < 40
          · obtain ⟨g, o, sa, cap, rfl, hr, hsl, hc, hn⟩ := hm j hlt2
            have hrr : ∀ w1, Below w.heap.size w w1 → w1.rangeAt g (o + j * 3) (txc more[j].client more[j].nonce (.slice sa more[j].ops.length cap)).toList := by
              intro w1 hB k v hv
              have h1 := hr k v hv
              rw [hB.cell (World.block_lt_of_cell? _ _ h1)]
              exact h1
            have HA1 := fun w1 (hS : ST w1 sb m) (hB : Below w.heap.size w w1) => HA more[j] sa cap sb m w1 hS hg hB (hsl.below hB) hc hn
            have HA2 := fun w1 (hS : ST w1 ob m) (hB : Below w.heap.size w w1) => HA more[j] sa cap ob m w1 hS hg hB (hsl.below hB) hc hn
            have hgn := hg.ap more[j] hn
            clear HA hr
            generalize more[j] = t at *
            have HP : ∀ sb w1 e w2, ApP m t sb w1 e w2 → ∃ sl cp, e = .returned (.tuple #[.slice sl (apL m t) cp, .int .i64 (apE m t)]) ∧ ST w2 sb (apM m t) ∧ w1.grownBy w2 (some sb) := fun sb w1 e w2 h => by
              obtain ⟨sl, cp, h1⟩ := h.out
              exact ⟨sl, cp, h1, h.st, h.grown⟩
            have HB1 := fun w1 (hS : ST w1 sb m) (hB : Below w.heap.size w w1) => (HA1 w1 hS hB).mono (HP sb w1)
            have HB2 := fun w1 (hS : ST w1 ob m) (hB : Below w.heap.size w w1) => (HA2 w1 hS hB).mono (HP ob w1)
            clear HA1 HA2 HP
            generalize apL m t = aL1 at *
            generalize apM m t = aM1 at *
            generalize apE m t = aE1 at *
            have hz1 : (0 : Int) ≤ (j : Int) := by omega
            have hz2 : (j : Int) < (more.length : Int) := by omega
            have hr5 := hrr _ hB5
            go_wp2_with (first
              | (go_at_call 7; refine (HB1 _ hS5 hB5).mono ?_; clear HB1; rintro e w6 ⟨sl, cp, rfl, hS6, hg6⟩; have hO6 := hO5.apart hS5 hg6 (Ne.symm hno); have hB6 := hB5.trans (below_of_grown hg6 hls hB5.size); have hr6 := hrr _ hB6)
              | (go_at_call 7; refine (HB2 _ hO6 hB6).mono ?_; rintro e w7 ⟨sl2, cp2, rfl, hO7, hg7⟩; have hS7 := hS6.apart hO6 hg7 hno; have hB7 := hB6.trans (below_of_grown hg7 hlob hB6.size))
              | (with_reducible refine at_list ?_; first
                | (refine wpList_loadOp (op := ⟨some 72, _, _, _, _, _⟩) rfl _ _ rfl g (o + j * 3) rfl (txc t.client t.nonce (.slice sa t.ops.length cap)) hr5 _ Tryz.underlying33 rfl (by rw [txc_size]; exact zTx.2) ?_)
                | (refine wpList_loadOp (op := ⟨some 81, _, _, _, _, _⟩) rfl _ _ rfl g (o + j * 3) rfl (txc t.client t.nonce (.slice sa t.ops.length cap)) hr6 _ Tryz.underlying33 rfl (by rw [txc_size]; exact zTx.2) ?_)))
            go_roundw
            case rel => exact ⟨j + 1, aM1, by omega, by omega, by go_num, hS7, hO7, hgn, hB7⟩
            case measure => simp [intOf]; omega
          · clear HA
            have HFd := fun w1 => decode_any b w1 hb
            have HRd := fun w1 => rdecode_any b w1 hb
            have HSm := fun w1 (h1 : ST w1 sb m) (h2 : ST w1 ob m) => same_st sb ob m m w1 h1 h2
            rw [show decide (m = m) = true from decide_eq_true rfl] at HSm
            by_cases he : dE b = 0
            · obtain ⟨hgD, hrD⟩ := dM_good he
              rw [he, mapD_ris hrD] at HFd
              rw [he] at HRd
              have HIs := fun xb w1 (h : ST w1 xb (dM b)) a cap (hK : KA w1 a (dM b)) => is_st xb (dM b) w1 h hgD.len (fun p hp => (hgD.each p hp).2) a cap hK
              clear he hrD
              generalize dM b = mD at *
              go_wp2_with (first
                | (go_at_call 8; refine (HFd _).mono ?_; rintro e w6 ⟨p, rfl, hw6, -, hp6⟩; obtain ⟨xb, hlx, rfl, hX6⟩ := hp6 rfl; clear hp6; have hB6 := hB5.trans (hw6.mono hB5.size); have hS6 := hS5.below hw6; have hO6 := hO5.below hw6)
                | (go_at_call 11; refine (HRd _).mono ?_; rintro e w7 ⟨p, rfl, hw7, hp7⟩; obtain ⟨ka, kc, rfl, hK7⟩ := hp7 rfl; clear hp7; have hB7 := hB6.trans (hw7.mono hB6.size); have hS7 := hS6.below hw7; have hO7 := hO6.below hw7; have hX7 := hX6.below hw7)
                | (go_at_call 10; refine (HSm _ hS7 hO7).mono ?_; rintro e w8 ⟨rfl, hw8⟩; have hB8 := hB7.trans (hw8.mono hB7.size); have hX8 := hX7.below hw8; have hK8 := hK7.below hw8)
                | (go_at_call 12; refine (HIs xb _ hX8 ka kc hK8).mono ?_; rintro e w9 ⟨rfl, hw9⟩; have hB9 := hB8.trans (hw9.mono hB8.size)))
              go_ret
              exact ⟨rfl, hB9⟩
            · generalize dM b = mD at *
              generalize mapD mD = mE at *
              have hbe : (dE b == 0) = false := by rw [beq_eq_false_iff_ne]; exact he
              replace he : Hid (dE b ≠ 0) := he
              generalize dE b = er at *
              go_wp2_with (first
                | (go_at_call 8; refine (HFd _).mono ?_; rintro e w6 ⟨p, rfl, hw6, hp6, -⟩; have hp6 := hp6 he.out; subst hp6; have hB6 := hB5.trans (hw6.mono hB5.size); have hS6 := hS5.below hw6; have hO6 := hO5.below hw6)
                | (go_at_call 11; refine (HRd _).mono ?_; rintro e w7 ⟨p, rfl, hw7, -⟩; have hB7 := hB6.trans (hw7.mono hB6.size); have hS7 := hS6.below hw7; have hO7 := hO6.below hw7)
                | (go_at_call 10; refine (HSm _ hS7 hO7).mono ?_; rintro e w8 ⟨rfl, hw8⟩; have hB8 := hB7.trans (hw8.mono hB7.size)))
              go_ret
              exact ⟨rfl, hB8⟩
        · clear HA
          have HFd := fun w1 => decode_any b w1 hb
          have HRd := fun w1 => rdecode_any b w1 hb
          have HSm := fun w1 (h1 : ST w1 sb m) (h2 : ST w1 ob m) => same_st sb ob m m w1 h1 h2
          rw [show decide (m = m) = true from decide_eq_true rfl] at HSm
          by_cases he : dE b = 0
          · obtain ⟨hgD, hrD⟩ := dM_good he
            rw [he, mapD_ris hrD] at HFd
            rw [he] at HRd
            have HIs := fun xb w1 (h : ST w1 xb (dM b)) a cap (hK : KA w1 a (dM b)) => is_st xb (dM b) w1 h hgD.len (fun p hp => (hgD.each p hp).2) a cap hK
            clear he hrD
            generalize dM b = mD at *
            go_wp2_with (first
              | (go_at_call 8; refine (HFd _).mono ?_; rintro e w6 ⟨p, rfl, hw6, -, hp6⟩; obtain ⟨xb, hlx, rfl, hX6⟩ := hp6 rfl; clear hp6; have hB6 := hB5.trans (hw6.mono hB5.size); have hS6 := hS5.below hw6; have hO6 := hO5.below hw6)
              | (go_at_call 11; refine (HRd _).mono ?_; rintro e w7 ⟨p, rfl, hw7, hp7⟩; obtain ⟨ka, kc, rfl, hK7⟩ := hp7 rfl; clear hp7; have hB7 := hB6.trans (hw7.mono hB6.size); have hS7 := hS6.below hw7; have hO7 := hO6.below hw7; have hX7 := hX6.below hw7)
              | (go_at_call 10; refine (HSm _ hS7 hO7).mono ?_; rintro e w8 ⟨rfl, hw8⟩; have hB8 := hB7.trans (hw8.mono hB7.size); have hX8 := hX7.below hw8; have hK8 := hK7.below hw8)
              | (go_at_call 12; refine (HIs xb _ hX8 ka kc hK8).mono ?_; rintro e w9 ⟨rfl, hw9⟩; have hB9 := hB8.trans (hw9.mono hB8.size)))
            go_ret
            exact ⟨rfl, hB9⟩
          · generalize dM b = mD at *
            generalize mapD mD = mE at *
            have hbe : (dE b == 0) = false := by rw [beq_eq_false_iff_ne]; exact he
            replace he : Hid (dE b ≠ 0) := he
            generalize dE b = er at *
            go_wp2_with (first
              | (go_at_call 8; refine (HFd _).mono ?_; rintro e w6 ⟨p, rfl, hw6, hp6, -⟩; have hp6 := hp6 he.out; subst hp6; have hB6 := hB5.trans (hw6.mono hB5.size); have hS6 := hS5.below hw6; have hO6 := hO5.below hw6)
              | (go_at_call 11; refine (HRd _).mono ?_; rintro e w7 ⟨p, rfl, hw7, -⟩; have hB7 := hB6.trans (hw7.mono hB6.size); have hS7 := hS6.below hw7; have hO7 := hO6.below hw7)
              | (go_at_call 10; refine (HSm _ hS7 hO7).mono ?_; rintro e w8 ⟨rfl, hw8⟩; have hB8 := hB7.trans (hw8.mono hB7.size)))
            go_ret
            exact ⟨rfl, hB8⟩
end Go.Proofs.YtdikilhobmkpkaaGreatDoor
namespace Go.Proofs.YtdikilhobmkpkaaGreatDoor
open Go Go.ChangeShapes Go.WideShapes Go.ChangeAt Go.WideMaps Go.WideElems Go.RowKit
open Go.ChangeMaps (open_string shut_string)
set_option maxRecDepth 100000 in
/-- A transaction out of its cells. -/
theorem txc_of {H : Type} {enc : TypeId × Value → H} {W : World} {n : Nat} {cs : List Value} {x : DataW H × List MemPlace} (hf : DataW.trod enc Tryz.prog W 0 (fun _ => true) true n 33 cs = some x) :
    ∃ (t : TX) (a : Option Addr) (cap : Nat), cs = (txc t.client t.nonce (.slice a t.ops.length cap)).toList ∧ SL W a t.ops ∧ t.client < 18446744073709551616 ∧ t.nonce < 18446744073709551616 := by
  obtain ⟨xs, f, _, _, hl, hxl, hfd⟩ := DataW.trod_struct Tryz.underlying33 hf
  rw [clTx] at hl
  match xs, hxl, cs, hl with
  | [y0, y1, y2], _, [v0, v1, v2], _ =>
    have g0 := hfd 0 _ rfl
    have g1 := hfd 1 _ rfl
    have g2 := hfd 2 _ rfl
    simp [cl22, clSl] at g0 g1 g2
    obtain ⟨c, e0, _, w0⟩ := DataW.trod_int Tryz.underlying30 g0
    obtain ⟨n, e1, _, w1⟩ := DataW.trod_int Tryz.underlying30 g1
    have b0 : 0 ≤ c ∧ c ≤ 18446744073709551615 := by simpa [Lit.wf, IntKind.min, IntKind.max, IntKind.signed, IntKind.bits] using w0
    have b1 : 0 ≤ n ∧ n ≤ 18446744073709551615 := by simpa [Lit.wf, IntKind.min, IntKind.max, IntKind.signed, IntKind.bits] using w1
    simp at e0 e1
    subst e0 e1
    have hs2 : ∃ a len cap, v2 = .slice a len cap := by
      rcases DataW.trod_slice Tryz.underlying31 g2 with ⟨hcs, _⟩ | ⟨a, l, c, elems, rest, n, _, hcs, _⟩
      · simp at hcs; exact ⟨_, _, _, hcs⟩
      · simp at hcs; exact ⟨_, _, _, hcs⟩
    obtain ⟨a, len, cap, rfl⟩ := hs2
    obtain ⟨l, hll, hSL⟩ := ops_of g2
    refine ⟨⟨c.toNat, n.toNat, l⟩, a, cap, ?_, hSL, by dsimp only; omega, by dsimp only; omega⟩
    dsimp only
    rw [hll]
    unfold txc
    rw [show ((c.toNat : Nat) : Int) = c from by omega, show ((n.toNat : Nat) : Int) = n from by omega]
set_option maxRecDepth 100000 in
/-- The transactions of an argument's slice. -/
theorem txs_of {H : Type} {enc : TypeId × Value → H} {W : World} {n : Nat} {a0 : Option Addr} {len cap : Nat} {x : DataW H × List MemPlace} (hf : DataW.trod enc Tryz.prog W 0 (fun _ => true) true n 22 (Value.slice a0 len cap).cells.toList = some x) :
    ∃ l : List TX, l.length = len ∧ TA W a0 l := by
  rcases DataW.trod_slice Tryz.underlying22 hf with ⟨hcs, _⟩ | ⟨a, l, c, elems, rest, n, _, hcs, _, _, hl, hm, hel, hc, _, _⟩
  · simp [Value.cells] at hcs
    obtain ⟨_, rfl, _⟩ := hcs
    exact ⟨[], rfl, fun i hi => by simp at hi⟩
  · simp [Value.cells] at hcs
    obtain ⟨rfl, rfl, rfl⟩ := hcs
    by_cases hl0 : len = 0
    · exact ⟨[], by rw [hl0]; rfl, fun i hi => by simp at hi⟩
    have each : ∀ i, i < len → ∃ (t : TX) (sa : Option Addr) (sc : Nat), W.cells? 0 (a.add (i * 3)) 3 = some (txc t.client t.nonce (.slice sa t.ops.length sc)).toList ∧ SL W sa t.ops ∧ t.client < 18446744073709551616 ∧ t.nonce < 18446744073709551616 := by
      intro i hi
      have h1 := hc i hi
      rw [clTx, List.getElem?_eq_getElem (by omega)] at h1
      obtain ⟨cs', h2, h3⟩ := Option.bind_eq_some_iff.1 h1
      obtain ⟨t, sa, sc, rfl, h4⟩ := txc_of h3
      exact ⟨t, sa, sc, h2, h4⟩
    obtain ⟨g, o, spot⟩ := a
    obtain ⟨q0, _, _, hq0, _⟩ := each 0 (by omega)
    obtain ⟨_, _, hcell0⟩ := World.cells?_some hq0
    have c0 := hcell0 0 (by omega)
    have hspot : spot = none := by
      have e : W.cell? (((⟨g, o, spot⟩ : Addr).add (0 * 3)).add 0) = some (.int .u64 (q0.client : Nat)) := c0
      simpa [Addr.add] using World.cell?_spot e
    subst hspot
    have each2 : ∀ i, ∃ t : TX, i < len → ∃ sa sc, W.rangeAt g (o + i * 3) (txc t.client t.nonce (.slice sa t.ops.length sc)).toList ∧ SL W sa t.ops ∧ t.client < 18446744073709551616 ∧ t.nonce < 18446744073709551616 := by
      intro i
      by_cases hi : i < len
      · obtain ⟨t, sa, sc, hq, h4⟩ := each i hi
        refine ⟨t, fun _ => ⟨sa, sc, fun j v hv => ?_, h4⟩⟩
        obtain ⟨_, hlen, hcell⟩ := World.cells?_some hq
        have hj : j < 3 := (List.getElem?_eq_some_iff.1 hv).1
        have := hcell j hj
        rw [Addr.add_mid, Addr.add_mid] at this
        rw [this, hv]
      · exact ⟨⟨0, 0, []⟩, fun h => absurd h hi⟩
    obtain ⟨f, hf⟩ := Classical.skolem.1 each2
    refine ⟨(List.range len).map f, by simp, fun i hi => ?_⟩
    have hi' : i < len := by simpa using hi
    obtain ⟨sa, sc, h5⟩ := hf i hi'
    refine ⟨g, o, sa, sc, rfl, ?_⟩
    simpa using h5
set_option maxRecDepth 100000 in
theorem stateBytes_lifted (os : Os) (started : os.Started) (H : Type) (enc : TypeId × Value → H) :
    ReturnsInHanded {} Tryz.checked os 3 .any (fun w args => (Rows.stateBytesSpec.pre enc Tryz.prog Tryz.f3 [] false w args ∧ laidMetH Tryz.prog Rows.stateBytesRow.laid w) ∧ sizedMet enc Tryz.prog Tryz.f3 (OpenSpec.ofChange Rows.stateBytesSpec) false w args)
      (Rows.stateBytesSpec.post enc Tryz.prog Tryz.f3 false true false false) := by
  refine returnsInHanded_of_change_and (C := Tryz.checked) (X := fun w _ => laidMetH Tryz.prog Rows.stateBytesRow.laid w) (fun _ _ _ hh h => h.of_heap hh) Sh.ownK started (by kernel_rfl) Tryz.func3
    (ChangeSpec.witness_shaped (enc := enc) (C := Tryz.checked) (os := os) (X := fun w _ => laidMetH Tryz.prog Rows.stateBytesRow.laid w) false (World.doorLaid Tryz.prog 400 os) #[.slice none 0 0, .slice none 0 0, .string ⟨#[]⟩] 8 rfl (World.shaped_of_RefB (by kernel_rfl) (by kernel_rfl)) (by kernel_rfl) (by kernel_rfl) (by kernel_rfl) (Sh.door_met os _)) ?_
  intro W base args ds gs before hval0 hW _ hsz0 hL _
  have hsz : (DataW.weightsEach Tryz.prog (Tryz.f3.params.toList ++ Rows.stateBytesSpec.plain.varTypes Tryz.prog) (ds ++ gs)).all (· ≤ reachBytes) = true := hsz0
  clear hsz0
  have hval : ∀ (j : Nat) t v, Tryz.f3.params[j]? = some t → args[j]? = some v → Value.okWide Tryz.prog W .any base t v := hval0
  have hW' := hW
  obtain ⟨p, q, hA0, hV, rfl, hfz, hnd⟩ := hW
  have hA : DataW.TrodAll enc Tryz.prog W 0 (fun _ => true) true Tryz.f3.params.toList args.toList ds p := hA0
  rw [Tryz.params3] at hA hval hsz
  obtain ⟨v0, v1, v2, d0, d1, d2, p0, p1, p2, rfl, rfl, rfl, h0, h1, h2⟩ := trodAll_three hA
  obtain ⟨rfl, rfl⟩ := trodVars_none hV
  clear hA0 hval0
  have lt0 : ∀ x ∈ p0, x.block < W.heap.size := by obtain ⟨m, hm⟩ := h0; exact DataW.trod_lt m _ _ _ hm
  have lt1 : ∀ x ∈ p1, x.block < W.heap.size := by obtain ⟨m, hm⟩ := h1; exact DataW.trod_lt m _ _ _ hm
  obtain ⟨a0, len0, cap0, rfl⟩ := okWide_slice Tryz.underlying22 (hval 0 22 v0 rfl rfl)
  obtain ⟨a1, len1, cap1, rfl⟩ := okWide_slice Tryz.underlying22 (hval 1 22 v1 rfl rfl)
  obtain ⟨l, rfl, hL0⟩ : ∃ l : List TX, l.length = len0 ∧ TA W a0 l := by obtain ⟨m, hm⟩ := h0; exact txs_of hm
  obtain ⟨more, rfl, hL1⟩ : ∃ l : List TX, l.length = len1 ∧ TA W a1 l := by obtain ⟨m, hm⟩ := h1; exact txs_of hm
  obtain ⟨k, rfl, rfl, rfl, hk⟩ := open_string Tryz.underlying9 (hval 2 9 v2 rfl rfl) h2
  have hl : k.data.toList.length ≤ 140737488355328 := by
    have h1 := sized_string hsz (j := 2) (t := 9) (bytes := k.data.toList) rfl rfl
    exact Nat.le_trans h1 (by decide)
  have hcall : Calls Tryz.prog 3 #[.slice a0 l.length cap0, .slice a1 more.length cap1, .string ⟨k.data.toList.toArray⟩] W fun e w' => e = .returned (.bool true) ∧ Below W.heap.size W w' := stateBytes_any l more _ a0 a1 cap0 cap1 W (Sh.glob_of hL) hL0 hL1 hl
  refine hcall.mono fun e W' ⟨he, bel⟩ => ?_
  subst he
  exact ⟨_, rfl, _, _, _, [], _, [], hW', trodAll_mk1 (shut_bool Tryz.underlying4 _), trodAll_mk3 (Below.trod Sh.laidOutT (by kernel_rfl) (of_decide_eq_true (by kernel_rfl)) h0 bel lt0) (Below.trod Sh.laidOutT (by kernel_rfl) (of_decide_eq_true (by kernel_rfl)) h1 bel lt1) (shut_string Tryz.underlying9 hk), rfl, bel.frame _, fun h => by cases h⟩

theorem stateBytes_holds : Rows.StateBytesSaid :=
  OpenClaim.holds_of_wide 3 Tryz.f3 rfl rfl rfl rfl rfl rfl rfl ⟨rfl, rfl, rfl, rfl, rfl⟩ rfl rfl rfl rfl rfl (by kernel_rfl) Tryz.func3 (by kernel_rfl)
    (of_decide_eq_true (by kernel_rfl)) (by unfold Func.isWrapper; first | (rw [if_pos (by decide +kernel)]; kernel_rfl) | (rw [if_neg (by decide +kernel)]; exact ⟨rfl, rfl⟩))
    (fun os started H enc _ => stateBytes_lifted os started H enc)

theorem stateBytes_card : Rows.StateBytesCardSaid :=
  Claim7.holds_tied_plain_at .later [] [.data, .data] true (true, "b09ae902b1a8b310c558fc6b9dff6d7c51c8963619e9d20ae5b6a16ed9856118") false
    stateBytes_holds (fun _ h => by cases h) (by kernel_rfl) (fun _ h => by cases h) stateBytes_row_tie rfl ⟨rfl, rfl⟩ (by kernel_rfl) rfl
    (fun f fn hf hfn => by
      obtain rfl : f = 3 := Option.some.inj ((show Tryz.prog.funcNamed Rows.stateBytesRow.func = some 3 by kernel_rfl).symm.trans hf) |>.symm
      obtain rfl : fn = Tryz.f3 := (Option.some.inj (Tryz.func3.symm.trans hfn)).symm
      exact ⟨by kernel_rfl, fun j t ht => by
        rw [Tryz.params3] at ht
        have hm : t ∈ [22, 9] := by simpa using Array.mem_of_getElem? ht
        have hall : ([22, 9].all fun u => !Tryz.prog.wantsStandIn u) = true := by kernel_rfl
        exact (show Tryz.prog.wantsStandIn t = false by
          have := List.all_eq_true.1 hall t hm
          simpa using this)⟩)
    (by kernel_rfl)
end Go.Proofs.YtdikilhobmkpkaaGreatDoor
