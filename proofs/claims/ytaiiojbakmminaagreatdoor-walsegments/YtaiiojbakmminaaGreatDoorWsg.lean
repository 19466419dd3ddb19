/- What WalSegments tells: segments are followed by others when they are long, generations by others when all is laid anew. -/
import Derived.Test.YtaiiojbakmminaaGreatDoorWgs
namespace Go.Proofs.YtaiiojbakmminaaGreatDoor
open Go Go.RowKit
def segA (M : Int) (seg long : Nat) : Bool := decide (seg = 0) || decide (M ≤ (long : Int))
theorem ts_cell {w : World} {g o n cap i : Nat} {b : Option Nat} {l : List B} {x : B} (h : TS w (.slice (some ⟨g, o, none⟩) n cap) b l) (hx : l[i]? = some x) : w.cell? ⟨g, o + i, none⟩ = some (.string ⟨x.toArray⟩) := by
  obtain ⟨g', o', e, _, hc⟩ := h.ta.at i x hx
  simp only [Option.some.injEq, Addr.mk.injEq] at e
  obtain ⟨rfl, rfl, _⟩ := e
  exact hc
theorem ts_blk {w : World} {a : Option Addr} {n cap : Nat} {b : Option Nat} {l : List B} (h : TS w (.slice a n cap) b l) : ∀ x, a = some x → b = some x.block := fun x e => by
  rcases h.out with ⟨h1, _, _⟩ | ⟨g, o, cp, cur, h1, h2, _⟩
  · simp only [Value.slice.injEq] at h1
    rw [h1.1] at e; cases e
  · simp only [Value.slice.injEq] at h1
    rw [h1.1] at e
    obtain rfl := Option.some.inj e
    exact h2
theorem cutL_len (l : List B) : (cutL l).length ≤ 6 := by
  unfold cutL
  rw [List.length_map, List.length_take]
  omega
theorem cutL_x {l : List B} {x : B} (h : x ∈ cutL l) : x.length ≤ 200 := by
  obtain ⟨y, _, rfl⟩ := List.mem_map.1 h
  unfold c200
  rw [List.length_take]
  omega
/-- What WalSegments knows behind n Adds. -/
structure SgI (w wl : World) (q p : Nat) (M : Int) (fb : Option Nat) (vk : Value) (k : List B) (n seg long : Nat) : Prop where
  out : ∃ L P ls ch, Py L P [] ls ∧ L.most = M ∧ L.g = 1 ∧ L.segs = seg ∧ L.last = long ∧ usedP P ≤ 1000 + n * 300 ∧ ch ≤ 10 + n ∧ L.recs.length ≤ n ∧ Gs w wl q p L (cm P 0 ch) fb
  ts : TS wl vk fb k
  seg : seg ≤ n
  long : long ≤ n * 300
theorem SgI.below {w wl wa : World} {q p : Nat} {M : Int} {fb : Option Nat} {vk : Value} {k : List B} {n seg long : Nat} (h : SgI w wl q p M fb vk k n seg long) (hb : Below wl.heap.size wl wa) : SgI w wa q p M fb vk k n seg long := by
  obtain ⟨L, P, ls, ch, h1, h2, h3, h4, h5, h6, h7, h8, h9⟩ := h.out
  exact ⟨⟨L, P, ls, ch, h1, h2, h3, h4, h5, h6, h7, h8, h9.below hb⟩, h.ts.below hb, h.seg, h.long⟩
theorem sg_add {w wl wa : World} {q p : Nat} {M : Int} {fb : Option Nat} {vk : Value} {k : List B} {n seg long : Nat} (h : SgI w wl q p M fb vk k n seg long) (hG : Gw w) (hB : Below wl.heap.size wl wa) (x : B) (hx : x.length ≤ 200) (hn : n ≤ 50) (hT : TA wa (some ⟨wl.heap.size, 0, none⟩) [x]) (seg' long' : Nat)
    (hc : (segA M seg long = true ∧ seg' = seg + 1 ∧ long' = (frame x).length) ∨ (segA M seg long = false ∧ seg' = seg ∧ long' = long + (frame x).length)) :
    Calls Tryz.prog 16 #[.pointer (some ⟨q, 0, none⟩), .slice (some ⟨wl.heap.size, 0, none⟩) 1 1] wa fun e w' => e = .returned (.int .i64 0) ∧ SgI w w' q p M fb vk k (n + 1) seg' long' := by
  obtain ⟨L, P, ls, ch, h1, h2, h3, h4, h5, h6, h7, h8, h9⟩ := h.out
  have hfx := frame_len x
  have hsg := h.seg
  have hlo := h.long
  have hls := h1.segs
  have hf1 : (frs [x]).length ≤ 208 := by rw [frs_one, hfx]; omega
  have hA : addC L = segA M seg long := by unfold addC segA; rw [h2, h4, h5]
  refine (gs_add h9 hG h1 hB [x] (some ⟨wl.heap.size, 0, none⟩) 1 hT (fun a e => by cases e; exact .inr (Nat.le_refl _)) (by omega) (by omega) (by omega) (by simp; omega)).mono ?_
  rintro e w' ⟨rfl, hGs, hKp⟩
  obtain ⟨ls', hpy', _⟩ := py_add h1 [x] (fun y hy => by rw [List.mem_singleton.1 hy]; omega) (by omega)
  have hus := used_addP (L := L) h1.ld.ris [x]
  refine ⟨rfl, ⟨⟨addL L [x], addP L P [x], ls', ch + 1, hpy', h2, h3, ?_, ?_, by omega, by omega, ?_, hGs⟩, hKp.ts h.ts, ?_, ?_⟩⟩
  · show addK L = seg'
    unfold addK
    rw [hA]
    rcases hc with ⟨a, b, _⟩ | ⟨a, b, _⟩
    · rw [if_pos a, h4, b]
    · rw [if_neg (by rw [a]; decide), h4, b]
  · show addJ L + (frs [x]).length = long'
    unfold addJ
    rw [hA, frs_one]
    rcases hc with ⟨a, _, b⟩ | ⟨a, _, b⟩
    · rw [if_pos a, b]; omega
    · rw [if_neg (by rw [a]; decide), h5, b]
  · show (L.recs ++ [x]).length ≤ n + 1
    simp; omega
  · rcases hc with ⟨_, b, _⟩ | ⟨_, b, _⟩ <;> omega
  · rcases hc with ⟨_, _, b⟩ | ⟨_, _, b⟩ <;> omega
theorem SgI.wk {w wl : World} {q p : Nat} {M : Int} {fb : Option Nat} {vk : Value} {k : List B} {n seg long : Nat} (h : SgI w wl q p M fb vk k n seg long) : Calls Tryz.prog 31 #[.pointer (some ⟨q, 0, none⟩)] wl fun e w' => e = .returned (.int .i64 (seg : Nat)) ∧ w' = wl := by
  obtain ⟨L, P, ls, ch, h1, h2, h3, h4, h5, h6, h7, h8, h9⟩ := h.out
  obtain ⟨b, rb, hK⟩ := gs_wk h9
  have := segsL_log q p b rb L _ wl hK
  rw [h4] at this
  exact this
def snapB : B := [115, 110, 97, 112, 115, 104, 111, 116]
def base2 : B := [98, 97, 115, 101, 45, 50]
/-- What the log tells that was laid anew. -/
structure SgR (w wl : World) (q p : Nat) (fb : Option Nat) (vk : Value) (k : List B) : Prop where
  gs : ∃ L P ch, L.g = 2 ∧ L.segs = 0 ∧ L.snap = snapB ∧ L.recs = k ∧ namesL (cm P 0 ch).l = [base2] ∧ (cm P 0 ch).l.length ≤ 1 ∧ Gs w wl q p L (cm P 0 ch) fb
  ts : TS wl vk fb k
theorem sg_reset {w wl : World} {q p : Nat} {M : Int} {fb : Option Nat} {ak : Option Addr} {ck : Nat} {k : List B} {n seg long : Nat} (h : SgI w wl q p M fb (.slice ak k.length ck) k n seg long) (hG : Gw w) (hn : n ≤ 50) (hk : k.length ≤ 6) (hx : ∀ x ∈ k, x.length ≤ 200) :
    Calls Tryz.prog 12 #[.pointer (some ⟨q, 0, none⟩), .string ⟨#[115, 110, 97, 112, 115, 104, 111, 116]⟩, .slice ak k.length ck] wl fun e w' => e = .returned (.int .i64 0) ∧ SgR w w' q p fb (.slice ak k.length ck) k := by
  obtain ⟨L, P, ls, ch, h1, h2, h3, h4, h5, h6, h7, h8, h9⟩ := h.out
  have hfk : (frs k).length ≤ 208 * 6 := by
    have : ∀ m : List B, (∀ x ∈ m, x.length ≤ 200) → (frs m).length ≤ 208 * m.length := fun m => by
      induction m with
      | nil => intro _; exact Nat.le_refl 0
      | cons y r ih =>
        intro hm
        have e1 : frs (y :: r) = frs [y] ++ frs r := frs_app [y] r
        have := ih fun x hx => hm x (List.mem_cons_of_mem _ hx)
        have := hm y (List.mem_cons_self ..)
        rw [e1, frs_one, List.length_append, frame_len, List.length_cons]
        omega
    have := this k hx
    have := Nat.mul_le_mul_left 208 hk
    omega
  have hfs : (frs [snapB]).length ≤ 100 := by rw [frs_one, frame_len]; decide
  obtain ⟨ch', hc', HR⟩ := gs_reset h9 hG h1 (Below.refl _ _) snapB k ak ck h.ts.ta (fun a e => .inl (ts_blk h.ts a e)) (by omega) (by omega) (by omega) (by omega) (by omega)
  refine HR.mono ?_
  rintro e w' ⟨rfl, hGs, hKp⟩
  refine ⟨rfl, ⟨_, _, _, by show L.g + 1 = 2; omega, rfl, rfl, rfl, ?_, by show (mk _).length ≤ 1; rw [mk_len]; simp, hGs⟩, hKp.ts h.ts⟩
  show namesL (mk _) = _
  rw [names_mk, h3]
  rfl
theorem SgR.below {w wl wa : World} {q p : Nat} {fb : Option Nat} {vk : Value} {k : List B} (h : SgR w wl q p fb vk k) (hb : Below wl.heap.size wl wa) : SgR w wa q p fb vk k := by
  obtain ⟨L, P, ch, h1, h2, h3, h4, h5, h6, h7⟩ := h.gs
  exact ⟨⟨L, P, ch, h1, h2, h3, h4, h5, h6, h7.below hb⟩, h.ts.below hb⟩
theorem SgR.tell {w wl : World} {q p : Nat} {fb : Option Nat} {vk : Value} {k : List B} (h : SgR w wl q p fb vk k) (hk : k.length ≤ 6) :
    Calls Tryz.prog 28 #[.pointer (some ⟨q, 0, none⟩)] wl (fun e w' => e = .returned (.int .i64 2) ∧ w' = wl) ∧
    Calls Tryz.prog 31 #[.pointer (some ⟨q, 0, none⟩)] wl (fun e w' => e = .returned (.int .i64 0) ∧ w' = wl) ∧
    Calls Tryz.prog 17 #[.pointer (some ⟨q, 0, none⟩)] wl (fun e w' => e = .returned (.string ⟨#[115, 110, 97, 112, 115, 104, 111, 116]⟩) ∧ w' = wl) ∧
    Calls Tryz.prog 20 #[.pointer (some ⟨q, 0, none⟩)] wl (fun e w' => ∃ a c, e = .returned (.slice a k.length c) ∧ Below wl.heap.size wl w' ∧ TA w' a k) ∧
    Calls Tryz.prog 29 #[.pointer (some ⟨p, 0, none⟩)] wl (fun e w' => ∃ g c, e = .returned (.slice (some ⟨g, 0, none⟩) 1 c) ∧ Below wl.heap.size wl w' ∧ w'.cell? ⟨g, 0, none⟩ = some (.string ⟨#[98, 97, 115, 101, 45, 50]⟩)) := by
  obtain ⟨L, P, ch, h1, h2, h3, h4, h5, h6, h7⟩ := h.gs
  obtain ⟨b, rb, hK⟩ := gs_wk h7
  have k1 := genL_log q p b rb L _ wl hK
  have k2 := segsL_log q p b rb L _ wl hK
  have k3 := snapL_log q p b rb L _ wl hK
  have k4 := allL_log q p b rb L _ wl hK (by rw [h4]; omega)
  have k5 := gs_names h7 (by omega)
  rw [h1] at k1
  rw [h2] at k2
  rw [h3] at k3
  rw [h4] at k4
  rw [h5] at k5
  refine ⟨k1, k2, k3, k4.mono ?_, k5.mono ?_⟩
  · rintro e w' ⟨v, rb2, rfl, hb, hT, _⟩
    obtain ⟨a, c, rfl, _⟩ := hT.sl
    exact ⟨a, c, rfl, hb, hT.ta⟩
  · rintro e w' ⟨sl, rfl, hb, hX⟩
    obtain ⟨a, c, rfl⟩ := hX.sl
    obtain ⟨g, rfl, hc⟩ := hX.at 0 base2 rfl
    exact ⟨g, c, rfl, hb, hc⟩
set_option maxRecDepth 100000 in
set_option maxHeartbeats 8000000 in
theorem walSegments_any (z : Int) (l : List B) (ad : Option Addr) (cap : Nat) (w : World) (hG : Gw w) (hT : XA w ad l) (hcap : l.length ≤ cap) :
    Calls Tryz.prog 7 #[.int .i64 z, .slice ad l.length cap] w fun e w' => e = .returned (.bool true) ∧ Below w.heap.size w w' := by
  obtain ⟨cc, hcc⟩ : ∃ cc : Bool, Hid (cc = (decide (z < 1) || decide (1048576 < z))) := ⟨_, rfl⟩
  obtain ⟨M, hM⟩ : ∃ M : Int, Hid (M = if cc = true then 20 else z) := ⟨_, rfl⟩
  have hM1 : 1 ≤ M := by
    have h1 := hM.out
    have h2 := hcc.out
    rw [h1]
    split
    · decide
    · rename_i h3
      rw [h2] at h3
      simp at h3
      omega
  have h2g := hG.two
  have HN := newD w
  go_enter Tryz.func7, Tryz.ntmps7
  go_upto_region 1 with fail
  go_cut [19] from 14 to 19 (fun s19 wx => s19 = .bool cc ∧ wx = w)
  case first =>
    by_cases h1 : z < 1
    · have e : cc = true := by rw [hcc.out, decide_eq_true h1]; rfl
      subst e
      go_wp2_with fail
      go_meet
      case rel => exact ⟨rfl, rfl⟩
    · by_cases h2 : 1048576 < z
      · have e : cc = true := by rw [hcc.out, decide_eq_true h2, Bool.or_true]
        subst e
        go_wp2_with fail
        go_meet
        case rel => exact ⟨rfl, rfl⟩
      · have e : cc = false := by rw [hcc.out, decide_eq_false h1, decide_eq_false h2]; rfl
        subst e
        go_wp2_with fail
        go_meet
        case rel => exact ⟨rfl, rfl⟩
  case rest =>
    obtain ⟨e19, hwx⟩ := hcut
    subst e19
    have hwx2 := hwx.symm; subst hwx2; clear hwx
    go_upto_if 19 with fail
    go_cut [0] from 14 to 19 (fun s0 wx => s0 = .int .i64 M ∧ wx = w)
    case first =>
      cases cc with
      | true =>
        have e : M = 20 := hM.out
        subst e
        go_wp2_with fail
        go_meet
        case rel => exact ⟨rfl, rfl⟩
      | false =>
        have e : M = z := hM.out
        subst e
        go_wp2_with fail
        go_meet
        case rel => exact ⟨rfl, rfl⟩
    case rest =>
      obtain ⟨e0, hwx⟩ := hcut
      subst e0
      have hwx2 := hwx.symm; subst hwx2; clear hwx
      clear hcc hM
      go_upto_region 9 with (first
        | (go_at_call 9; refine HN.mono ?_; rintro e w1 ⟨rfl, hw1, hD1⟩; obtain ⟨ch1, hch1, HO1⟩ := open_new w.heap.size M hM1 w1 hD1 h2g (hG.below hw1))
        | (go_at_call 10; refine HO1.mono ?_; intro e w2 hop; obtain ⟨q, b2, rb2, rfl, hq, hW2, hK2⟩ := op_ok hop; clear hop HO1; have hGs2 := gs_first hw1 (Nat.le_refl _) hq hW2 hK2; have HA2 := awakeW w2 (hG.below hGs2.bel))
        | (go_at_call 11; refine HA2.mono ?_; rintro e w3 ⟨rfl, hw3⟩; have hGs3 := hGs2.below hw3; obtain ⟨b3, rb3, hK3⟩ := gs_wk hGs3; have HGe : Calls Tryz.prog 28 #[.pointer (some ⟨q, 0, none⟩)] w3 (fun e w' => e = .returned (.int .i64 1) ∧ w' = w3) := genL_log q _ b3 rb3 _ _ w3 hK3; have HSe : Calls Tryz.prog 31 #[.pointer (some ⟨q, 0, none⟩)] w3 (fun e w' => e = .returned (.int .i64 0) ∧ w' = w3) := segsL_log q _ b3 rb3 _ _ w3 hK3; have HCu := cut_any l ad cap w3 (hT.below hGs3.bel) hcap)
        | (go_at_call 28; refine HGe.mono ?_; rintro e wx ⟨rfl, hwx⟩; have hwx2 := hwx.symm; subst hwx2; clear hwx)
        | (go_at_call 31; refine HSe.mono ?_; rintro e wx ⟨rfl, hwx⟩; have hwx2 := hwx.symm; subst hwx2; clear hwx)
        | (go_at_call 13; refine HCu.mono ?_; rintro e w4 ⟨vk, fb, rfl, hw4, hT4, hn4⟩))
      obtain ⟨ak, ck, rfl, _, _⟩ := hT4.sl
      have hk6 := cutL_len l
      have hk200 : ∀ x ∈ cutL l, x.length ≤ 200 := fun x hx => cutL_x hx
      have hPy1 := py_reset ⟨M, 0, [], [], 0, 0⟩ [] [] (by show 0 < 99; omega)
      change Py ⟨M, 1, [], [], 0, 0⟩ [(baseN 1, frs [[]] ++ frs [])] [] [] at hPy1
      have hu1 : usedP [(baseN 1, frs [[]] ++ frs [])] ≤ 100 := by
        have e2 : frs [] = [] := rfl
        rw [e2, frs_one]
        simp [usedP, frame_len]
      have hGs4 := hGs3.other hw4 (fc := fb) (fun i e => ⟨.inr (hn4 i e), hT4.sb i e⟩)
      have hI4 : SgI w w4 q w.heap.size M fb (.slice ak (cutL l).length ck) (cutL l) 0 0 0 := ⟨⟨_, _, [], ch1, hPy1, rfl, rfl, rfl, rfl, by omega, by omega, Nat.le_refl _, hGs4⟩, hT4, Nat.le_refl _, Nat.le_refl _⟩
      clear hPy1 hu1 hGs4 hT4 hw4 HN HA2 HGe HSe HCu hGs3 hK3 hGs2 hK2 hW2 hD1 hw3
      generalize cutL l = k at *
      go_wp2_with fail
      go_loopw [9, 10, 12] (fun v9 v10 v12 wl => ∃ t n seg long : Nat, t ≤ 3 ∧ n ≤ t * 6 ∧ v9 = .int .i64 seg ∧ v10 = .int .i64 long ∧ v12 = .int .i64 t ∧ SgI w wl q w.heap.size M fb (.slice ak k.length ck) k n seg long) (fun _ _ v12 _ => 3 - (intOf v12).toNat)
      case atStart => exact ⟨0, 0, 0, 0, by omega, by omega, rfl, rfl, rfl, hI4⟩
      case round =>
        clear hI4
        obtain ⟨t, n0, seg0, long0, ht3, hn0, rfl, rfl, rfl, hI0⟩ := hrel
        by_cases htt : t < 3
        · have hzt : (t : Int) < (3 : Int) := by omega
          go_wp2_with fail
          go_loopw [9, 10, 13] (fun v9 v10 v13 wl => ∃ i n seg long : Nat, i ≤ k.length ∧ n ≤ t * 6 + i ∧ v9 = .int .i64 seg ∧ v10 = .int .i64 long ∧ v13 = .int .i64 i ∧ SgI w wl q w.heap.size M fb (.slice ak k.length ck) k n seg long) (fun _ _ v13 _ => k.length - (intOf v13).toNat)
          case atStart => exact ⟨0, n0, seg0, long0, by omega, by omega, rfl, rfl, rfl, hI0⟩
          case round =>
            clear hI0
            obtain ⟨i, n, seg, long, hil, hn, rfl, rfl, rfl, hI⟩ := hrel
            have hsb := hI.seg
            have hlb := hI.long
            by_cases hlt : i < k.length
            · have hz2 : (i : Int) < (k.length : Int) := by omega
              obtain ⟨x, hx⟩ : ∃ x, k[i]? = some x := ⟨_, List.getElem?_eq_getElem hlt⟩
              have hxl := hk200 x (List.mem_of_getElem? hx)
              have hfx := frame_len x
              obtain ⟨g, o, rfl, hgl, hc⟩ := hI.ts.ta.at i x hx
              have hc : wr.cell? ⟨g, o + i, none⟩ = some (.string ⟨x.toArray⟩) := hc
              have HF := fun w => rframe_any x w (by omega)
              by_cases hs0 : seg = 0
              · subst hs0
                have HA := fun w4 (hw : Below wr.heap.size wr w4) (hT : TA w4 (some ⟨wr.heap.size, 0, none⟩) [x]) => sg_add hI hG hw x hxl (by omega) hT 1 (frame x).length (.inl ⟨by unfold segA; simp, rfl, rfl⟩)
                go_wp2_with (first
                  | (with_reducible refine at_list ?_; refine wpList_tsl1 (op := ⟨some 70, _, _, _, _, _⟩) rfl _ rfl x rfl ?_; intro w4 hw4 hb4; have HA4 := HA w4 hw4 (ta_blk hb4); clear HA)
                  | (go_at_call 16; refine HA4.mono ?_; rintro e w5 ⟨rfl, hI5⟩; clear HA4; have HS5 := hI5.wk; have hc5 := ts_cell hI5.ts hx)
                  | (go_at_call 31; refine HS5.mono ?_; rintro e wx ⟨rfl, hwx⟩; have hwx2 := hwx.symm; subst hwx2; clear hwx; clear HS5)
                  | (go_at_call 24; refine (HF _).mono ?_; rintro e w6 ⟨rfl, hw6⟩; have hI6 := hI5.below hw6))
                go_roundw
                case rel => exact ⟨i + 1, n + 1, 1, (frame x).length, by omega, by omega, by go_num, by go_num, by go_num, hI6⟩
                case measure => simp [intOf]; omega
              · by_cases hml : M ≤ (long : Int)
                · have hz0 : ¬ (seg : Int) = 0 := by omega
                  have HA := fun w4 (hw : Below wr.heap.size wr w4) (hT : TA w4 (some ⟨wr.heap.size, 0, none⟩) [x]) => sg_add hI hG hw x hxl (by omega) hT (seg + 1) (frame x).length (.inl ⟨by unfold segA; simp [hml], rfl, rfl⟩)
                  go_wp2_with (first
                    | (with_reducible refine at_list ?_; refine wpList_tsl1 (op := ⟨some 70, _, _, _, _, _⟩) rfl _ rfl x rfl ?_; intro w4 hw4 hb4; have HA4 := HA w4 hw4 (ta_blk hb4); clear HA)
                    | (go_at_call 16; refine HA4.mono ?_; rintro e w5 ⟨rfl, hI5⟩; clear HA4; have HS5 := hI5.wk; have hc5 := ts_cell hI5.ts hx)
                    | (go_at_call 31; refine HS5.mono ?_; rintro e wx ⟨rfl, hwx⟩; have hwx2 := hwx.symm; subst hwx2; clear hwx; clear HS5)
                    | (go_at_call 24; refine (HF _).mono ?_; rintro e w6 ⟨rfl, hw6⟩; have hI6 := hI5.below hw6))
                  go_roundw
                  case rel => exact ⟨i + 1, n + 1, seg + 1, (frame x).length, by omega, by omega, by go_num, by go_num, by go_num, hI6⟩
                  case measure => simp [intOf]; omega
                · have hz0 : ¬ (seg : Int) = 0 := by omega
                  have HA := fun w4 (hw : Below wr.heap.size wr w4) (hT : TA w4 (some ⟨wr.heap.size, 0, none⟩) [x]) => sg_add hI hG hw x hxl (by omega) hT seg (long + (frame x).length) (.inr ⟨by unfold segA; simp [hml, hs0], rfl, rfl⟩)
                  go_wp2_with (first
                    | (with_reducible refine at_list ?_; refine wpList_tsl1 (op := ⟨some 70, _, _, _, _, _⟩) rfl _ rfl x rfl ?_; intro w4 hw4 hb4; have HA4 := HA w4 hw4 (ta_blk hb4); clear HA)
                    | (go_at_call 16; refine HA4.mono ?_; rintro e w5 ⟨rfl, hI5⟩; clear HA4; have HS5 := hI5.wk; have hc5 := ts_cell hI5.ts hx)
                    | (go_at_call 31; refine HS5.mono ?_; rintro e wx ⟨rfl, hwx⟩; have hwx2 := hwx.symm; subst hwx2; clear hwx; clear HS5)
                    | (go_at_call 24; refine (HF _).mono ?_; rintro e w6 ⟨rfl, hw6⟩; have hI6 := hI5.below hw6))
                  go_roundw
                  case rel => exact ⟨i + 1, n + 1, seg, long + (frame x).length, by omega, by omega, by go_num, by go_num, by go_num, hI6⟩
                  case measure => simp [intOf]; omega
            · have hz2 : ¬ (i : Int) < (k.length : Int) := by omega
              go_wp2_with fail
              go_roundw
              case rel => exact ⟨t + 1, n, seg, long, by omega, by omega, by go_num, by go_num, by go_num, hI⟩
              case measure => simp [intOf]; omega
        · have hzt : ¬ (t : Int) < (3 : Int) := by omega
          have HR := sg_reset hI0 hG (by omega) hk6 hk200
          go_wp2_with (first
            | (go_at_call 12; refine HR.mono ?_; rintro e w5 ⟨rfl, hR5⟩; clear HR; obtain ⟨HG5, HS5, HP5, HL5, _⟩ := hR5.tell hk6)
            | (go_at_call 28; refine HG5.mono ?_; rintro e wx ⟨rfl, hwx⟩; have hwx2 := hwx.symm; subst hwx2; clear hwx; clear HG5)
            | (go_at_call 31; refine HS5.mono ?_; rintro e wx ⟨rfl, hwx⟩; have hwx2 := hwx.symm; subst hwx2; clear hwx; clear HS5)
            | (go_at_call 17; refine HP5.mono ?_; rintro e wx ⟨rfl, hwx⟩; have hwx2 := hwx.symm; subst hwx2; clear hwx; clear HP5)
            | (go_at_call 20; refine HL5.mono ?_; rintro e w6 ⟨a6, c6, rfl, hw6, hT6⟩; clear HL5; have hR6 := hR5.below hw6; have HE6 := same_true k a6 ak c6 ck w6 hT6 hR6.ts.ta (by omega))
            | (go_at_call 19; refine HE6.mono ?_; rintro e w7 ⟨rfl, hw7⟩; clear HE6; have hR7 := hR6.below hw7; obtain ⟨_, _, _, _, HN7⟩ := hR7.tell hk6)
            | (go_at_call 29; refine HN7.mono ?_; rintro e w8 ⟨g8, c8, rfl, hw8, hc8⟩; clear HN7; have hR8 := hR7.below hw8; obtain ⟨_, _, _, _, HN8⟩ := hR8.tell hk6)
            | (go_at_call 29; refine HN8.mono ?_; rintro e w9 ⟨g9, c9, rfl, hw9, hc9⟩; clear HN8; have hR9 := hR8.below hw9))
          go_ret
          obtain ⟨_, _, _, _, _, _, _, _, _, hGs9⟩ := hR9.gs
          exact ⟨rfl, hGs9.bel⟩
end Go.Proofs.YtaiiojbakmminaaGreatDoor
