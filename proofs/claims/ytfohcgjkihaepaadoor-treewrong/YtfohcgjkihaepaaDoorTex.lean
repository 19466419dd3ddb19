/- TreeExtracts tells true. -/
import Derived.Test.YtfohcgjkihaepaaDoorTsh
import Derived.Deep.CutBlock
namespace Go.Proofs.YtfohcgjkihaepaaDoor.Sh
open Go Go.RowKit
/-- What is extracted are two unlike texts of one digest. -/
def GotP (A B : List UInt8) (ok : Bool) : Prop := A.length ≤ 1001 ∧ B.length ≤ 1001 ∧ (ok = true → A ≠ B ∧ digest A = digest B)
/-- Of one thing nothing is extracted; nor at no place. -/
theorem extract_no (a b : List UInt8) (i n : Int) (p q : List (List UInt8)) (ap aq : Option Addr) (cp cq : Nat) (w : World) (hn : n ≤ 100) (ha : a.length ≤ 1000) (hb : b.length ≤ 1000) (hX : XA w ap p) (hY : XA w aq q) (hG : Glob w) (h : a = b ∨ ¬ (0 ≤ i ∧ i < n)) :
    Calls Tryd.prog 18 #[.string ⟨a.toArray⟩, .string ⟨b.toArray⟩, .int .i64 i, .int .i64 n, .slice ap p.length cp, .slice aq q.length cq] w fun e w' => ∃ A B : List UInt8, e = .returned (.tuple #[.agg #[.string ⟨A.toArray⟩, .string ⟨B.toArray⟩], .bool false]) ∧ Below w.heap.size w w' := by
  refine (extract_any a b i n p q ap aq cp cq w hn ha hb hX hY hG).mono ?_
  rintro e w' ⟨A, B, ok, rfl, hbl, _, _, _, hok⟩
  have : ok = false := by
    rw [Bool.eq_false_iff]
    intro ht
    have := hok.1 ht
    rcases h with h | h
    · exact this.1 h
    · exact h ⟨this.2.1.1, this.2.1.2.1⟩
  subst this
  exact ⟨A, B, rfl, hbl⟩
theorem extract_got (a b : List UInt8) (i n : Int) (p q : List (List UInt8)) (ap aq : Option Addr) (cp cq : Nat) (w : World) (hn : n ≤ 100) (ha : a.length ≤ 1000) (hb : b.length ≤ 1000) (hX : XA w ap p) (hY : XA w aq q) (hG : Glob w) :
    Calls Tryd.prog 18 #[.string ⟨a.toArray⟩, .string ⟨b.toArray⟩, .int .i64 i, .int .i64 n, .slice ap p.length cp, .slice aq q.length cq] w fun e w' => ∃ (A B : List UInt8) (ok : Bool), e = .returned (.tuple #[.agg #[.string ⟨A.toArray⟩, .string ⟨B.toArray⟩], .bool ok]) ∧ Below w.heap.size w w' ∧ GotP A B ok := by
  refine (extract_any a b i n p q ap aq cp cq w hn ha hb hX hY hG).mono ?_
  rintro e w' ⟨A, B, ok, rfl, hbl, h1, h2, h3, _⟩
  exact ⟨A, B, ok, rfl, hbl, h1, h2, h3⟩
theorem set2_below {w0 w : World} {b : Nat} (h : Below b w0 w) (hs : b ≤ w.heap.size) : ∀ v v', Below b w0 ((w.setCell ⟨b, 0, none⟩ v).setCell ⟨b, 1, none⟩ v') := fun v v' =>
  (h.trans (below_of_grown (grown_setCell b v 0 w) (Nat.le_refl _) hs)).trans (below_of_grown (grown_setCell b v' 1 _) (Nat.le_refl _) (Nat.le_trans hs (grown_setCell b v 0 w).size))
theorem set2_blk {w : World} {b : Nat} {x y : Value} {t : TypeId} (h : Blk w b #[x, y] t) (v v' : Value) : Blk ((w.setCell ⟨b, 0, none⟩ v).setCell ⟨b, 1, none⟩ v') b #[v, v'] t := (h.setCell 0 v).setCell 1 v'
set_option maxRecDepth 100000 in
set_option maxHeartbeats 2000000 in
theorem treeExtracts_some (x : List (List UInt8)) (i : Int) (jk : List (List UInt8)) (ax aj : Option Addr) (cx cj : Nat) (w : World) (hG : Glob w) (hX : XA w ax x) (hJ : XA w aj jk) (hi : -9223372036854775808 ≤ i ∧ i ≤ 9223372036854775807) (h0 : 0 < (fewD x).length) :
    Calls Tryd.prog 6 #[.slice ax x.length cx, .int .i64 i, .slice aj jk.length cj] w fun e w' => e = .returned (.bool true) ∧ Below w.heap.size w w' := by
  have HF1 := few_any x ax cx w hX
  have HF2 := fun w1 (h : Below w.heap.size w w1) => few_any jk aj cj w1 (hJ.below h)
  have la := fewD_len x
  have hfs := few_small x
  have HW := fun w1 (hb : Below w.heap.size w w1) => awake_any w1 (hG.belowSize hb)
  obtain ⟨r, t, er, er1, er2, er3, ht⟩ := place_of i (fewD x).length h0 (by omega) hi
  have HP := fun w1 g c (h : SS w1 g c (fewD x)) (hb : Below w.heap.size w w1) => prove_any (fewD x) (some ⟨g, 0, none⟩) c t w1 h.xa h.le (by omega) (few_small x) (hG.belowSize hb) ht
  obtain ⟨s, hs⟩ : ∃ s, (fewD x)[t]? = some s := ⟨_, List.getElem?_eq_getElem ht⟩
  have hsl : s.length ≤ 1000 := few_small x s (List.mem_of_getElem? hs)
  generalize fewD x = A at *
  generalize fewD jk = J at *
  generalize pathD digest A t = P at *
  have HE1 := fun w1 ap cp (hb : Below w.heap.size w w1) (h : XA w1 ap P) => extract_no s s t A.length P P ap ap cp cp w1 (by omega) hsl hsl h h (hG.belowSize hb) (.inl rfl)
  have HE2 := fun w1 ap cp g2 c2 (hb : Below w.heap.size w w1) (h : XA w1 ap P) (h2 : SS w1 g2 c2 J) => extract_got s [111, 116, 104, 101, 114] t A.length P J ap (some ⟨g2, 0, none⟩) cp c2 w1 (by omega) hsl (by decide) h h2.xa (hG.belowSize hb)
  have HE3 := fun w1 ap cp (hb : Below w.heap.size w w1) (h : XA w1 ap P) => extract_no s [111, 116, 104, 101, 114] (-1) A.length P P ap ap cp cp w1 (by omega) hsl (by decide) h h (hG.belowSize hb) (.inr (by omega))
  have HCo := fun w1 X Y (hb : Below w.heap.size w w1) (h1 : X.length ≤ 1001) (h2 : Y.length ≤ 1001) (hc : X ≠ Y ∧ digest X = digest Y) => collide_any X Y true ⟨fun _ => hc, fun _ => rfl⟩ w1 (hG.belowSize hb) h1 h2
  unfold wit at HCo
  have hnz : ((A.length : Int) == 0) = false := by rw [beq_eq_false_iff_ne]; omega
  have hnz2 : ¬ A.length = 0 := by omega
  have ht1 : (0 : Int) ≤ (t : Int) := by omega
  have ht2 : (t : Int) < (A.length : Int) := by omega
  replace hs : Hid (A[t]? = some s) := hs
  clear hX hJ hi
  go_enter Tryd.func6, Tryd.ntmps6
  go_upto_region 8 with (first
    | (go_at_call 8; refine HF1.mono ?_; clear HF1; rintro e w1 ⟨g, c, rfl, hSa, hga, hw1⟩; have T : Lst w g c A w1 := ⟨hw1, hSa⟩)
    | (go_at_call 10; refine (HP _ _ _ T.sa T.bel).mono ?_; rintro e w3 ⟨sl, rfl, hV3, hw3⟩; obtain ⟨ap, cp, rfl⟩ := hV3.form; rw [List.length_map] at hV3 ⊢; have hXp := hV3.texts; replace T := T.to hw3))
  have c3 := T.sa.get hs.out
  have hW := zWit.1
  unfold wit at hW
  have hAl : ∀ o : Obj, Below w3.heap.size w3 (w3.alloc o).drew := fun o => ((Below.refl w3.heap.size w3).alloc (Nat.le_refl _) o).drew
  have hcAl : ∀ o : Obj, ((w3.alloc o).drew).cell? ⟨g, t, none⟩ = some (.string ⟨s.toArray⟩) := fun o => ((hAl o).cell (World.block_lt_of_cell? _ _ c3)).trans c3
  go_cut [14, 15] from 53 to 69 (fun _ s15 wx => s15 = .bool false ∧ Below w3.heap.size w3 wx)
  case first =>
    go_region_held3 (fun w' => w'.cell? ⟨g, t, none⟩ = some (.string ⟨s.toArray⟩)) (first | assumption | exact c3 | exact hcAl _ | exact k8a _ | exact k9 _ _) ((go_at_call 18; first
      | (refine (HE1 w3.drew _ _ T.bel.drew (hXp.below (Below.refl _ _).drew)).mono ?_; rintro e w8 ⟨A', B', rfl, hw8⟩; have hB8 : Below w3.heap.size w3 w8 := (Below.refl w3.heap.size w3).drew.trans hw8; have k8 := (hB8.cell (World.block_lt_of_cell? _ _ c3)).trans c3; have k8a : ∀ o, (w8.alloc o).cell? ⟨g, t, none⟩ = some (.string ⟨s.toArray⟩) := fun o => (((Below.refl w8.heap.size w8).alloc (Nat.le_refl _) o).cell (World.block_lt_of_cell? _ _ k8)).trans k8)
      | (refine (HE1 _ _ _ (T.to (hAl _)).bel (hXp.below (hAl _))).mono ?_; rintro e w8 ⟨A', B', rfl, hw8⟩; have hB8 : Below w3.heap.size w3 w8 := (hAl _).trans (hw8.mono (hAl _).size); have k8 := (hB8.cell (World.block_lt_of_cell? _ _ c3)).trans c3; have k8a : ∀ o, (w8.alloc o).cell? ⟨g, t, none⟩ = some (.string ⟨s.toArray⟩) := fun o => (((Below.refl w8.heap.size w8).alloc (Nat.le_refl _) o).cell (World.block_lt_of_cell? _ _ k8)).trans k8; have hb8 : Blk w8 w3.heap.size #[.string ⟨#[]⟩, .string ⟨#[]⟩] 36 := ((Blk.new w3 _ _).drew).belowSize hw8; have q0 : w8.cell? ⟨w3.heap.size, 0, none⟩ = some (.string ⟨#[]⟩) := hb8.cell 0; have q1 : w8.cell? ⟨w3.heap.size, 1, none⟩ = some (.string ⟨#[]⟩) := hb8.cell 1; have z0 : w8.frozen? ⟨w3.heap.size, 0, none⟩ = false := hb8.frozen 0; have z1 : w8.frozen? ⟨w3.heap.size, 1, none⟩ = false := hb8.frozen 1; have hB9 := set2_below hB8 hB8.size; have k9 : ∀ v v', ((w8.setCell ⟨w3.heap.size, 0, none⟩ v).setCell ⟨w3.heap.size, 1, none⟩ v').cell? ⟨g, t, none⟩ = some (.string ⟨s.toArray⟩) := fun v v' => ((hB9 v v').cell (World.block_lt_of_cell? _ _ c3)).trans c3)))
    all_goals go_wp2_with fail
    all_goals go_meet
    case rel => exact ⟨rfl, hB8.trans (((Below.refl w8.heap.size w8).alloc (Nat.le_refl _) _).mono hB8.size)⟩
    case rel => exact ⟨rfl, hB9 _ _⟩
  case rest =>
    obtain ⟨rfl, hBc⟩ := hcut
    replace T := T.to hBc
    replace hXp := hXp.below hBc
    clear hcAl hAl c3 hBc hV3
    have c3 := T.sa.get hs.out
    have kc : ∀ W, Below wc.heap.size wc W → W.cell? ⟨g, t, none⟩ = some (.string ⟨s.toArray⟩) := fun W h => (h.cell (World.block_lt_of_cell? _ _ c3)).trans c3
    go_upto_region 9 with fail
    have hD : Below wc.heap.size wc wc.drew := (Below.refl _ _).drew
    have hAl : ∀ o : Obj, Below wc.heap.size wc (wc.alloc o).drew := fun o => ((Below.refl wc.heap.size wc).alloc (Nat.le_refl _) o).drew
    go_cut [16, 17] from 70 to 84 (fun s16 s17 wx => ∃ (b : Nat) (X Y : List UInt8) (ok : Bool), s16 = .pointer (some ⟨b, 0, none⟩) ∧ s17 = .bool ok ∧ Blk wx b (wit X Y) 36 ∧ GotP X Y ok ∧ Below wc.heap.size wc wx)
    case first =>
      go_region_held3 (fun w' => w'.cell? ⟨g, t, none⟩ = some (.string ⟨s.toArray⟩)) (first | assumption | exact c3 | exact kc _ (hAl _) | exact kc _ (hA9 _) | exact kc _ (hA10 _) | exact kc _ (hS10 _ _)) (first
        | (go_at_call 8; first
          | (refine (HF2 wc.drew T.bel.drew).mono ?_; rintro e w9 ⟨gj, cj, rfl, hSj, hgj, hw9⟩; have hB9 := hD.trans hw9; have k9 := kc _ hB9; have hA9 : ∀ o, Below wc.heap.size wc (w9.alloc o) := fun o => hB9.trans (((Below.refl w9.heap.size w9).alloc (Nat.le_refl _) o).mono hB9.size))
          | (refine (HF2 (wc.alloc (.cells #[.string ⟨#[]⟩, .string ⟨#[]⟩] 36)).drew (T.to (hAl _)).bel).mono ?_; rintro e w9 ⟨gj, cj, rfl, hSj, hgj, hw9⟩; have hB9 := (hAl (.cells #[.string ⟨#[]⟩, .string ⟨#[]⟩] 36)).trans (hw9.mono (hAl _).size); have k9 := kc _ hB9; have hbz : Blk w9 wc.heap.size #[.string ⟨#[]⟩, .string ⟨#[]⟩] 36 := ((Blk.new wc _ _).drew).belowSize hw9))
        | (go_at_call 18; first
          | (have hb10 := hbz; refine (HE2 w9 _ _ _ _ (T.to hB9).bel (hXp.below hB9) hSj).mono ?_; rintro e w10 ⟨A', B', ok, rfl, hw10, hG10⟩; have hB10 := hB9.trans (hw10.mono hB9.size); have k10 := kc _ hB10; have hA10 : ∀ o, Below wc.heap.size wc (w10.alloc o) := fun o => hB10.trans (((Below.refl w10.heap.size w10).alloc (Nat.le_refl _) o).mono hB10.size); replace hb10 := hb10.belowSize hw10; have q0 : w10.cell? ⟨wc.heap.size, 0, none⟩ = some (.string ⟨#[]⟩) := hb10.cell 0; have q1 : w10.cell? ⟨wc.heap.size, 1, none⟩ = some (.string ⟨#[]⟩) := hb10.cell 1; have z0 : w10.frozen? ⟨wc.heap.size, 0, none⟩ = false := hb10.frozen 0; have z1 : w10.frozen? ⟨wc.heap.size, 1, none⟩ = false := hb10.frozen 1; have hS10 := set2_below hB10 hB10.size)
          | (refine (HE2 w9 _ _ _ _ (T.to hB9).bel (hXp.below hB9) hSj).mono ?_; rintro e w10 ⟨A', B', ok, rfl, hw10, hG10⟩; have hB10 := hB9.trans (hw10.mono hB9.size); have k10 := kc _ hB10; have hA10 : ∀ o, Below wc.heap.size wc (w10.alloc o) := fun o => hB10.trans (((Below.refl w10.heap.size w10).alloc (Nat.le_refl _) o).mono hB10.size))
          | (refine (HE2 (w9.alloc (.cells #[.string ⟨#[]⟩, .string ⟨#[]⟩] 36)) _ _ _ _ (T.to (hA9 _)).bel (hXp.below (hA9 _)) (hSj.belowSize ((Below.refl w9.heap.size w9).alloc (Nat.le_refl _) _))).mono ?_; rintro e w10 ⟨A', B', ok, rfl, hw10, hG10⟩; have hB10 := (hA9 (.cells #[.string ⟨#[]⟩, .string ⟨#[]⟩] 36)).trans (hw10.mono (hA9 _).size); have k10 := kc _ hB10; have hA10 : ∀ o, Below wc.heap.size wc (w10.alloc o) := fun o => hB10.trans (((Below.refl w10.heap.size w10).alloc (Nat.le_refl _) o).mono hB10.size); have hb10 := (Blk.new w9 #[.string ⟨#[]⟩, .string ⟨#[]⟩] 36).belowSize hw10; have q0 : w10.cell? ⟨w9.heap.size, 0, none⟩ = some (.string ⟨#[]⟩) := hb10.cell 0; have q1 : w10.cell? ⟨w9.heap.size, 1, none⟩ = some (.string ⟨#[]⟩) := hb10.cell 1; have z0 : w10.frozen? ⟨w9.heap.size, 0, none⟩ = false := hb10.frozen 0; have z1 : w10.frozen? ⟨w9.heap.size, 1, none⟩ = false := hb10.frozen 1; have hw9a : Below w9.heap.size w9 w10 := ((Below.refl w9.heap.size w9).alloc (Nat.le_refl _) _).trans (hw10.mono ((Below.refl w9.heap.size w9).alloc (Nat.le_refl _) (.cells #[.string ⟨#[]⟩, .string ⟨#[]⟩] 36)).size); have hS10 : ∀ v v', Below wc.heap.size wc ((w10.setCell ⟨w9.heap.size, 0, none⟩ v).setCell ⟨w9.heap.size, 1, none⟩ v') := fun v v' => hB9.trans ((set2_below hw9a hw9a.size v v').mono hB9.size))))
      all_goals go_wp2_with fail
      all_goals go_meet
      case rel => exact ⟨w10.heap.size, A', B', ok, rfl, rfl, Blk.new w10 _ _, hG10, hA10 _⟩
      case rel => exact ⟨w9.heap.size, A', B', ok, rfl, rfl, set2_blk hb10 _ _, hG10, hS10 _ _⟩
      case rel => exact ⟨wc.heap.size, A', B', ok, rfl, rfl, set2_blk hb10 _ _, hG10, hS10 _ _⟩
    case rest =>
      obtain ⟨b, X, Y, ok, rfl, rfl, hbX, hGot, hBc⟩ := hcut
      replace T := T.to hBc
      replace hXp := hXp.below hBc
      clear kc c3 hD hAl hBc
      have c3 := T.sa.get hs.out
      replace hGot : Hid (GotP X Y ok) := hGot
      cases ok
      · go_wp2_with (first
          | (go_at_call 18; refine (HE3 _ _ _ T.bel hXp).mono ?_; rintro e w11 ⟨A3, B3, rfl, hw11⟩; replace T := T.to hw11; replace hbX := hbX.belowSize hw11; have T11 := T; have hbX11 := hbX)
          | (go_at_call 11; refine (HW _ T.bel).mono ?_; rintro e w14 ⟨rfl, hw14⟩; replace T := T.to hw14; replace hbX := hbX.belowSize hw14; have x0 : w14.cell? ⟨b, 0, none⟩ = some (.string ⟨X.toArray⟩) := hbX.cell 0; have x1 : w14.cell? ⟨b, 1, none⟩ = some (.string ⟨Y.toArray⟩) := hbX.cell 1)
          | (with_reducible refine at_list ?_; first
            | (refine wpList_allocRow (op := ⟨some 18, _, _, _, _, _⟩) rfl _ rfl _ zWit.1 ?_; intro w12 hw12 hs12 hz12; replace hs12 := hs12.symm)
            | (refine wpList_storeRow (op := ⟨none, .store 36 (.tmp 18) (.tmp 96), _, _, _, _⟩) rfl _ _ _ rfl w11.heap.size #[.string ⟨A3.toArray⟩, .string ⟨B3.toArray⟩] rfl rfl _ _ hz12 (by simp [wit]) (by simpa using zWit.2) (by simp [Value.oneCell']) ?_; intro w13 hg13 hs13 hz13; replace T := T11.to (hw12.trans (below_of_grown hg13 (Nat.le_refl _) hw12.size)); replace hbX := hbX11.belowSize (hw12.trans (below_of_grown hg13 (Nat.le_refl _) hw12.size)))))
        go_ret
        exact ⟨rfl, T.bel⟩
      · have HCo := fun w1 (hb : Below w.heap.size w w1) => HCo w1 X Y hb hGot.out.1 hGot.out.2.1 (hGot.out.2.2 rfl)
        go_wp2_with (first
          | (go_at_call 18; refine (HE3 _ _ _ T.bel hXp).mono ?_; rintro e w11 ⟨A3, B3, rfl, hw11⟩; replace T := T.to hw11; replace hbX := hbX.belowSize hw11; have T11 := T; have hbX11 := hbX)
          | (go_at_call 11; refine (HW _ T.bel).mono ?_; rintro e w14 ⟨rfl, hw14⟩; replace T := T.to hw14; replace hbX := hbX.belowSize hw14; have x0 : w14.cell? ⟨b, 0, none⟩ = some (.string ⟨X.toArray⟩) := hbX.cell 0; have x1 : w14.cell? ⟨b, 1, none⟩ = some (.string ⟨Y.toArray⟩) := hbX.cell 1)
          | (go_at_call 19; refine (HCo _ T.bel).mono ?_; rintro e w15 ⟨rfl, hw15⟩; replace T := T.to hw15)
          | (with_reducible refine at_list ?_; first
            | (refine wpList_allocRow (op := ⟨some 18, _, _, _, _, _⟩) rfl _ rfl _ zWit.1 ?_; intro w12 hw12 hs12 hz12; replace hs12 := hs12.symm)
            | (refine wpList_storeRow (op := ⟨none, .store 36 (.tmp 18) (.tmp 96), _, _, _, _⟩) rfl _ _ _ rfl w11.heap.size #[.string ⟨A3.toArray⟩, .string ⟨B3.toArray⟩] rfl rfl _ _ hz12 (by simp [wit]) (by simpa using zWit.2) (by simp [Value.oneCell']) ?_; intro w13 hg13 hs13 hz13; replace T := T11.to (hw12.trans (below_of_grown hg13 (Nat.le_refl _) hw12.size)); replace hbX := hbX11.belowSize (hw12.trans (below_of_grown hg13 (Nat.le_refl _) hw12.size)))))
        go_ret
        exact ⟨rfl, T.bel⟩
set_option maxRecDepth 100000 in
set_option maxHeartbeats 1000000 in
theorem treeExtracts_nil (x : List (List UInt8)) (i : Int) (jk : List (List UInt8)) (ax aj : Option Addr) (cx cj : Nat) (w : World) (hG : Glob w) (hX : XA w ax x) (h0 : (fewD x).length = 0) :
    Calls Tryd.prog 6 #[.slice ax x.length cx, .int .i64 i, .slice aj jk.length cj] w fun e w' => e = .returned (.bool true) ∧ Below w.heap.size w w' := by
  have HF1 := few_any x ax cx w hX
  have HW := fun w1 (hb : Below w.heap.size w w1) => awake_any w1 (hG.belowSize hb)
  have HE := fun w1 (hb : Below w.heap.size w w1) => extract_no [111, 116, 104, 101, 114] [111, 116, 104, 101, 114] i 0 [] [] none none 0 0 w1 (by decide) (by decide) (by decide) (XA.nil _ _) (XA.nil _ _) (hG.belowSize hb) (.inl rfl)
  rw [h0] at HF1
  clear hX hG h0
  go_enter Tryd.func6, Tryd.ntmps6
  go_wp2_with (first
    | (go_at_call 8; refine HF1.mono ?_; rintro e w1 ⟨g, c, rfl, hSa, hga, hw1⟩)
    | (go_at_call 18; refine (HE _ hw1).mono ?_; rintro e w2 ⟨A3, B3, rfl, hw2⟩; have B2 := hw1.trans (hw2.mono hw1.size))
    | (go_at_call 11; refine (HW _ B4).mono ?_; rintro e w5 ⟨rfl, hw5⟩)
    | (with_reducible refine at_list ?_; first
      | (refine wpList_allocRow (op := ⟨some 9, _, _, _, _, _⟩) rfl _ rfl _ zWit.1 ?_; intro w3 hw3 hs3 hz3; replace hs3 := hs3.symm)
      | (refine wpList_storeRow (op := ⟨none, .store 36 (.tmp 9) (.tmp 30), _, _, _, _⟩) rfl _ _ _ rfl w2.heap.size #[.string ⟨A3.toArray⟩, .string ⟨B3.toArray⟩] rfl rfl _ _ hz3 (by simp [wit]) (by simpa using zWit.2) (by simp [Value.oneCell']) ?_; intro w4 hg4 hs4 hz4; have B4 := B2.trans ((hw3.trans (below_of_grown hg4 (Nat.le_refl _) hw3.size)).mono B2.size))))
  go_ret
  exact ⟨rfl, B4.trans (hw5.mono B4.size)⟩
theorem treeExtracts_any (x : List (List UInt8)) (i : Int) (jk : List (List UInt8)) (ax aj : Option Addr) (cx cj : Nat) (w : World) (hG : Glob w) (hX : XA w ax x) (hJ : XA w aj jk) (hi : -9223372036854775808 ≤ i ∧ i ≤ 9223372036854775807) :
    Calls Tryd.prog 6 #[.slice ax x.length cx, .int .i64 i, .slice aj jk.length cj] w fun e w' => e = .returned (.bool true) ∧ Below w.heap.size w w' := by
  by_cases h : (fewD x).length = 0
  · exact treeExtracts_nil x i jk ax aj cx cj w hG hX h
  · exact treeExtracts_some x i jk ax aj cx cj w hG hX hJ hi (by omega)
end Go.Proofs.YtfohcgjkihaepaaDoor.Sh
