/- What All does. -/
import Derived.Test.YtdikilhobmkpkaaGreatDoorKys
namespace Go.Proofs.YtdikilhobmkpkaaGreatDoor
open Go Go.RowKit Go.Maps
def valsTo (m : List KV) (i : Nat) : Nat → List UInt8 := fun j => if j < i then (m.map (·.2)).getD j [] else []
theorem valsTo_zero (m : List KV) (n : Nat) : row9 (valsTo m 0) n = row9 (fun _ => []) n := by
  unfold row9 valsTo
  simp
theorem valsTo_succ (m : List KV) (n i : Nat) (h : i < m.length) : row9 (upd9 (valsTo m i) i (m[i]).2) n = row9 (valsTo m (i + 1)) n := by
  unfold row9
  congr 1
  funext j
  unfold upd9 valsTo
  by_cases h1 : j.val = i
  · rw [if_pos h1, if_pos (by omega), h1]
    simp [h]
  · rw [if_neg h1]
    by_cases h2 : j.val < i
    · rw [if_pos h2, if_pos (by omega)]
    · rw [if_neg h2, if_neg (by omega)]
/-- What a call of All leaves: the texts, and what they have, in two boxes. -/
structure AllP (m : List KV) (w : World) (e : Ending) (w' : World) : Prop where
  out : ∃ (Bt Bv : Nat) (at' : Option Addr) (ct : Nat) (gv : Nat), e = .returned (.func (.func 50) #[] #[.pointer (some ⟨Bt, 0, none⟩), .pointer (some ⟨Bv, 0, none⟩)]) ∧ w.heap.size ≤ Bt ∧ w.heap.size ≤ Bv ∧ w.heap.size ≤ gv ∧
    Blk w' Bt #[.slice at' m.length ct] 26 ∧ LS w' at' (m.map (·.1)) ∧ Blk w' Bv #[.slice (some ⟨gv, 0, none⟩) m.length m.length] 26 ∧ Blk w' gv (row9 (valsTo m m.length) m.length) 9
  below : Below w.heap.size w w'
theorem zSl : (∀ w, (zeroValue 26).run Tryz.prog w = .ok (.slice none 0 0) w) := fun w => Tryz.zeroValue26 w
theorem getM_at {m : List KV} (h : Ris m) {p : KV} (hp : p ∈ m) : getM m p.1 = some p.2 := by
  unfold getM
  induction m with
  | nil => cases hp
  | cons q r ih =>
    rw [List.find?_cons]
    rcases List.mem_cons.1 hp with e | hr
    · subst e
      simp
    · have hne : (q.1 == p.1) = false := by
        rw [beq_eq_false_iff_ne]
        intro e
        have := (List.pairwise_cons.1 h).1 p hr
        rw [e, Go.WideAt.bytes_irrefl] at this
        cases this
      rw [hne]
      exact ih (List.pairwise_cons.1 h).2 hr
theorem valM_at {m : List KV} (h : Ris m) {p : KV} (hp : p ∈ m) : valM m p.1 = p.2 := by unfold valM; rw [getM_at h hp]; rfl
theorem hasM_at {m : List KV} (h : Ris m) {p : KV} (hp : p ∈ m) : hasM m p.1 = true := by unfold hasM; rw [getM_at h hp]; rfl
theorem ST.drewS {w : World} {b : Nat} {m : List KV} (h : ST w b m) : ST w.drew b m := by
  obtain ⟨mb, h1, h2⟩ := h.out
  exact ⟨mb, h1.drew, h2.drew⟩
section
variable {ops : Array Oper} {rest : List Oper} {op : Oper} {a : Act} {w : World} {Q : Exit → Act → World → Prop}
theorem wpList_allocSl (hgd : op.guard = none) (ho : op.op = .alloc 26)
    (h : ∀ w1 : World, Below w.heap.size w w1 → w1.heap.size = w.heap.size + 1 → Blk w1 w.heap.size #[.slice none 0 0] 26 → wpList Tryz.prog ops Q rest (a.put op.dst (.pointer (some ⟨w.heap.size, 0, none⟩))) w1) : wpList Tryz.prog ops Q (op :: rest) a w := by
  refine wpList_run hgd _ _ ?_ (h _ ((Below.refl _ _).alloc (Nat.le_refl _) _) (by simp) (Blk.new w #[.slice none 0 0] 26))
  unfold execOp
  simp only [ho, Instr.alloc, Sem.run_bind, zSl, Result.andThen_ok]
  rfl
theorem wpList_storeSl (hgd : op.guard = none) (x y : Operand) (ho : op.op = .store 26 x y) (b : Nat) (hx : a.eval x = .pointer (some ⟨b, 0, none⟩)) (at' : Option Addr) (n c : Nat) (hy : a.eval y = .slice at' n c) (u : Value) (hb : Blk w b #[u] 26)
    (h : ∀ w1 : World, w.grownBy w1 (some b) → w1.heap.size = w.heap.size → Blk w1 b #[.slice at' n c] 26 → wpList Tryz.prog ops Q rest (a.put op.dst undef) w1) : wpList Tryz.prog ops Q (op :: rest) a w :=
  wpList_storeCell hgd _ x y ho b 0 hx (.slice at' n c) hy _ _ hb (by kernel_rfl) rfl (by simp [Value.oneCell']) (Nat.zero_lt_one) (fun w1 h1 h2 h3 => h w1 h1 h2 h3)
theorem wpList_loadSl (hgd : op.guard = none) (x : Operand) (ho : op.op = .load 26 x) (b : Nat) (hx : a.eval x = .pointer (some ⟨b, 0, none⟩)) (v : Value) (hb : Blk w b #[v] 26)
    (h : wpList Tryz.prog ops Q rest (a.put op.dst v) w) : wpList Tryz.prog ops Q (op :: rest) a w :=
  wpList_loadCell hgd _ x ho b 0 hx _ _ hb _ Tryz.underlying26 rfl v rfl h
end
set_option maxRecDepth 100000 in
set_option maxHeartbeats 1000000 in
theorem all_nil (w : World) : Calls Tryz.prog 16 #[.pointer none] w (AllP [] w) := by
  have HT := texts_nil w
  have HK := keys_any none w
  have HS := sorted_nil w
  have tok1 : True := trivial
  obtain ⟨P, hP⟩ : ∃ P, P = AllP [] w := ⟨_, rfl⟩
  rw [← hP]
  have HP : Hid (P = AllP [] w) := hP
  clear hP
  go_enter Tryz.func16, Tryz.ntmps16
  go_wp2_with (first
    | (go_at_call 46; refine HT.mono ?_; rintro e w1 ⟨rfl, hw1⟩; have hw1 := hw1.symm; subst hw1)
    | (go_at_call 48; refine HS.mono ?_; rintro e w3 ⟨rfl, hw3⟩)
    | (go_at_call 49; refine HK.mono ?_; rintro e w2 ⟨rfl, rfl⟩)
    | (with_reducible refine at_list ?_; first
      | (refine wpList_allocSl (op := ⟨some 3, _, _, _, _, _⟩) rfl rfl ?_; intro w4 hw4 hs4 hb4; replace hs4 := hs4.symm; have hB4 := hw3.trans (hw4.mono hw3.size))
      | (have tk := tok1; refine wpList_storeSl (op := ⟨none, _, _, _, _, _⟩) rfl _ _ rfl w3.heap.size rfl none 0 0 rfl _ hb4 ?_; intro w5 hg5 hs5 hb5; replace hs5 := hs5.symm; clear tok1; have hB5 := hB4.trans (below_of_grown hg5 hw3.size hB4.size))
      | (refine wpList_loadSl (op := ⟨some 11, _, _, _, _, _⟩) rfl _ rfl w3.heap.size rfl _ hb5 ?_)
      | (refine wpList_makeS (op := ⟨some 13, _, _, _, _, _⟩) rfl _ _ rfl 0 rfl rfl (by omega) ?_; intro w6 hw6 hs6 hb6; replace hs6 := hs6.symm; have hB6 := hB5.trans (hw6.mono hB5.size); have hc6 := hb5.belowSize hw6)
      | (refine wpList_allocSl (op := ⟨some 4, _, _, _, _, _⟩) rfl rfl ?_; intro w7 hw7 hs7 hb7; replace hs7 := hs7.symm; have hB7 := hB6.trans (hw7.mono hB6.size); have hc7 := hc6.belowSize hw7; have hd7 := hb6.belowSize hw7)
      | (refine wpList_storeSl (op := ⟨none, _, _, _, _, _⟩) rfl _ _ rfl w6.heap.size rfl (some ⟨w5.heap.size, 0, none⟩) 0 0 rfl _ hb7 ?_; intro w8 hg8 hs8 hb8; replace hs8 := hs8.symm; have hB8 := hB7.trans (below_of_grown hg8 hB6.size hB7.size); have hc8 := hc7.grown hg8 (fun e => absurd (Option.some.inj e) (Nat.ne_of_lt hc6.lt)); have hd8 := hd7.grown hg8 (fun e => absurd (Option.some.inj e) (Nat.ne_of_lt hb6.lt)))
      | (refine wpList_loadSl (op := ⟨some 14, _, _, _, _, _⟩) rfl _ rfl w3.heap.size rfl _ hc8 ?_)))
  go_loopw [16] (fun v16 wl => v16 = .int .i64 0 ∧ wl = w8) (fun _ _ => 0)
  case atStart => exact ⟨rfl, rfl⟩
  case round =>
    obtain ⟨rfl, rfl⟩ := hrel
    go_wp2_with fail
    rw [HP.out]
    exact ⟨⟨_, _, none, 0, _, rfl, hw3.size, hB6.size, hB5.size, hc8, fun j hj => by simp at hj, hb8, hd8⟩, hB8⟩
set_option maxRecDepth 100000 in
set_option maxHeartbeats 1000000 in
theorem all_st (b : Nat) (m : List KV) (w : World) (h : ST w b m) (hm : m.length ≤ 100000) : Calls Tryz.prog 16 #[.pointer (some ⟨b, 0, none⟩)] w (AllP m w) := by
  obtain ⟨mb, h1, h2⟩ := h.out
  have HT := texts_any b mb w h1
  have HK := keys_any (some mb) w
  have HS := sorted_any mb m w h2 hm
  have tok1 : True := trivial
  have hmx := h.max
  obtain ⟨P, hP⟩ : ∃ P, P = AllP m w := ⟨_, rfl⟩
  rw [← hP]
  have HP : Hid (P = AllP m w) := hP
  clear hP
  go_enter Tryz.func16, Tryz.ntmps16
  go_wp2_with (first
    | (go_at_call 46; refine HT.mono ?_; rintro e w1 ⟨rfl, hw1⟩; have hw1 := hw1.symm; subst hw1)
    | (go_at_call 48; refine HS.mono ?_; rintro e w3 ⟨aT, cT, rfl, hL3, hw3⟩)
    | (go_at_call 49; refine HK.mono ?_; rintro e w2 ⟨rfl, rfl⟩)
    | (with_reducible refine at_list ?_; first
      | (refine wpList_allocSl (op := ⟨some 3, _, _, _, _, _⟩) rfl rfl ?_; intro w4 hw4 hs4 hb4; replace hs4 := hs4.symm; have hB4 := hw3.trans (hw4.mono hw3.size))
      | (have tk := tok1; refine wpList_storeSl (op := ⟨none, _, _, _, _, _⟩) rfl _ _ rfl w3.heap.size rfl aT m.length cT rfl _ hb4 ?_; intro w5 hg5 hs5 hb5; replace hs5 := hs5.symm; clear tok1; have hB5 := hB4.trans (below_of_grown hg5 hw3.size hB4.size))
      | (refine wpList_loadSl (op := ⟨some 11, _, _, _, _, _⟩) rfl _ rfl w3.heap.size rfl _ hb5 ?_)
      | (refine wpList_makeS (op := ⟨some 13, _, _, _, _, _⟩) rfl _ _ rfl m.length rfl rfl (by omega) ?_; intro w6 hw6 hs6 hb6; replace hs6 := hs6.symm; have hB6 := hB5.trans (hw6.mono hB5.size); have hc6 := hb5.belowSize hw6)
      | (refine wpList_allocSl (op := ⟨some 4, _, _, _, _, _⟩) rfl rfl ?_; intro w7 hw7 hs7 hb7; replace hs7 := hs7.symm; have hB7 := hB6.trans (hw7.mono hB6.size); have hc7 := hc6.belowSize hw7; have hd7 := hb6.belowSize hw7)
      | (refine wpList_storeSl (op := ⟨none, _, _, _, _, _⟩) rfl _ _ rfl w6.heap.size rfl (some ⟨w5.heap.size, 0, none⟩) m.length m.length rfl _ hb7 ?_; intro w8 hg8 hs8 hb8; replace hs8 := hs8.symm; have hB8 := hB7.trans (below_of_grown hg8 hB6.size hB7.size); have hc8 := hc7.grown hg8 (fun e => absurd (Option.some.inj e) (Nat.ne_of_lt hc6.lt)); have hd8 := hd7.grown hg8 (fun e => absurd (Option.some.inj e) (Nat.ne_of_lt hb6.lt)))
      | (refine wpList_loadSl (op := ⟨some 14, _, _, _, _, _⟩) rfl _ rfl w3.heap.size rfl _ hc8 ?_)))
  have hB38 : Below w3.heap.size w3 w8 := ((hw4.trans (below_of_grown hg5 (Nat.le_refl _) hw4.size)).trans ((hw6.mono (by omega)).trans (hw7.mono (by omega)))).trans (below_of_grown hg8 (by omega) (by omega))
  have e5 : w3.heap.size < w5.heap.size := by omega
  have e6 : w5.heap.size < w6.heap.size := by omega
  have l3 := hw3.size
  generalize w5.heap.size = gv at *
  generalize w6.heap.size = Bv at *
  have hw83 := hB38
  clear hB38 hw4 hw6 hw7 hg5 hg8 hs4 hs5 hs6 hs7 hs8 hB4 hB5 hB6 hB7 hb4 hb5 hb6 hb7 hc6 hc7 hd7 HT HK HS
  rw [← valsTo_zero m] at hd8
  have hR := h.ris
  go_loopw [16] (fun v16 wl => ∃ i : Nat, i ≤ m.length ∧ v16 = .int .i64 i ∧ Below w3.heap.size w3 wl ∧ Blk wl w3.heap.size #[.slice aT m.length cT] 26 ∧ Blk wl Bv #[.slice (some ⟨gv, 0, none⟩) m.length m.length] 26 ∧ Blk wl gv (row9 (valsTo m i) m.length) 9) (fun v16 _ => m.length - (intOf v16).toNat)
  case atStart => exact ⟨0, by omega, rfl, hw83, hc8, hb8, hd8⟩
  case round =>
    obtain ⟨i, hi, rfl, hBr, hx3, hxv, hxg⟩ := hrel
    clear hw83 hc8 hb8 hd8
    have hBw : Below w.heap.size w wr := hw3.trans (hBr.mono hw3.size)
    have hLr := hL3.below hBr
    by_cases hlt : i < m.length
    · obtain ⟨g, cur, rfl, hbk, hcu⟩ := hLr i (by rw [List.length_map]; exact hlt)
      have hck := (hbk.cell i).trans hcu
      clear hcu
      have hval := valM_at hR (List.getElem_mem hlt)
      have hmk := hmx _ (List.getElem_mem hlt)
      have hke : (m.map (·.1))[i]'(by rw [List.length_map]; exact hlt) = (m[i]).1 := by simp
      rw [hke] at hck
      have HV := fun w1 (hs : ST w1 b m) => value_st b m (m[i]).1 w1 hs hmk.1
      rw [hval] at HV
      have hsc := valsTo_succ m m.length i hlt
      have hi0 : (0 : Int) ≤ (i : Int) := Int.natCast_nonneg _
      have hi1 : (i : Int) < (m.length : Int) := by omega
      clear hval hke hmk
      generalize (m[i]).2 = vv at *
      generalize (m[i]).1 = kk at *
      have cv : wr.cell? ⟨Bv, 0, none⟩ = some (.slice (some ⟨gv, 0, none⟩) m.length m.length) := hxv.cell 0
      go_wp2_with fail
      have hcx : wr.cell? ⟨gv, i, none⟩ = some (.string ⟨(valsTo m i i).toArray⟩) := (hxg.cell i).trans (row9_get _ _ _ hlt)
      have hfx : wr.frozen? ⟨gv, i, none⟩ = false := hxg.frozen i
      go_region_held3 (fun w' => w'.cell? ⟨Bv, 0, none⟩ = some (.slice (some ⟨gv, 0, none⟩) m.length m.length)) ((go_split_ands; first | assumption | (refine ((hxv9.setCell_other ⟨gv, i, none⟩ (by show Bv ≠ gv; omega) _).cell 0)))) ((go_at_call 14; refine (HV _ (h.below hBw).drewS).mono ?_; rintro e w9 ⟨rfl, hw9⟩; have cv9 := cell_keep (w := wr.drew) hw9 cv; have hcx9 := cell_keep (w := wr.drew) hw9 hcx; have hxg9 : Blk w9 gv (row9 (valsTo m i) m.length) 9 := hxg.drew.belowSize hw9; have hfx9 := hxg9.frozen i; have hxv9 : Blk w9 Bv #[.slice (some ⟨gv, 0, none⟩) m.length m.length] 26 := hxv.drew.belowSize hw9))
      go_wp2_with fail
      have hg10 := (hxg9.setCell i (.string ⟨vv.toArray⟩))
      rw [row9_set, hsc] at hg10
      have hgr : w9.grownBy (w9.setCell ⟨gv, i, none⟩ (.string ⟨vv.toArray⟩)) (some gv) := grown_setCell gv _ i w9
      have hB9 : Below w3.heap.size w3 w9 := hBr.drew.trans (hw9.mono hBr.size)
      go_roundw
      case rel => exact ⟨i + 1, by omega, by go_num, hB9.trans (below_of_grown hgr (by omega) hB9.size), (hx3.drew.belowSize hw9).grown hgr (fun e => by have := Option.some.inj e; omega), hxv9.grown hgr (fun e => by have := Option.some.inj e; omega), hg10⟩
      case measure => simp [intOf]; omega
    · obtain rfl : i = m.length := by omega
      go_wp2_with fail
      rw [HP.out]
      exact ⟨⟨_, _, aT, cT, _, rfl, l3, by omega, by omega, hx3, hLr, hxv, hxg⟩, hBw⟩
end Go.Proofs.YtdikilhobmkpkaaGreatDoor
