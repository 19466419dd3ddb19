/- Laws for WireOne: bytes of an own slice that are read and put one by one. -/
import Derived.Test.YtaccklbijihppaaDoorFlp
import Derived.Test.YtaccklbijihppaaDoorWra
import Derived.Test.YtaccklbijihppaaDoorUf
namespace Go.Proofs.YtaccklbijihppaaDoor
open Go Go.RowKit
theorem ofInt_n8 (x : UInt8) : BitVec.ofInt 8 (n8 x) = x.toBitVec := by
  unfold n8
  apply BitVec.eq_of_toNat_eq
  simp
theorem wrap_n8 (x : UInt8) : IntKind.u8.wrap (n8 x) = n8 x := by
  rw [IntKind.wrap_u8']; have := n8_nonneg x; have := n8_le x; omega
theorem bits_xor8 (x y : UInt8) : bits .xor .u8 (n8 x) (n8 y) = n8 (x ^^^ y) := by
  show IntKind.u8.wrap ((BitVec.ofInt 8 (n8 x) ^^^ BitVec.ofInt 8 (n8 y)).toNat : Int) = _
  rw [ofInt_n8, ofInt_n8]; exact wrap_n8 (x ^^^ y)
section
variable {P : Program} {ops : Array Oper} {rest : List Oper} {op : Oper} {a : Act} {w : World} {Q : Exit → Act → World → Prop}
theorem wpList_loadBS (hgd : op.guard = none) (ty : TypeId) (x : Operand) (ho : op.op = .load ty x) (g cap j : Nat) (l : List UInt8) (hbs : BS w g cap l) (hj : j < l.length) (hx : a.eval x = .pointer (some ⟨g, j, none⟩))
    (d : TypeDesc) (hu : P.underlying ty = some d) (hd : d.isRow = false) (h : wpList P ops Q rest (a.put op.dst (.int .u8 (n8 (byteOf l j)))) w) : wpList P ops Q (op :: rest) a w := by
  refine wpList_run hgd _ w ?_ h
  have hc : w.cell? ⟨g, j, none⟩ = some (.int .u8 (n8 (byteOf l j))) := hbs.cell j hj
  unfold execOp
  simp only [ho, hx]
  simp [Instr.loadAt, Instr.sureAddr, Sem.run_bind, loadVar, isAgg_run hu hd, hc, go_sem]
theorem wpList_storeBS (hgd : op.guard = none) (ty : TypeId) (x y : Operand) (ho : op.op = .store ty x y) (g cap j : Nat) (l : List UInt8) (hbs : BS w g cap l) (hj : j < l.length) (hx : a.eval x = .pointer (some ⟨g, j, none⟩)) (v : UInt8) (hy : a.eval y = .int .u8 (n8 v))
    (hi : (P.info? ty).map (·.size) = some 1)
    (h : ∀ w1 : World, w.grownBy w1 (some g) → w1.heap.size = w.heap.size → BS w1 g cap (l.set j v) → wpList P ops Q rest (a.put op.dst undef) w1) : wpList P ops Q (op :: rest) a w := by
  obtain ⟨cur, fr, h1, h2, h3, h4, h5⟩ := hbs.out
  have hcell : (w.cell? ⟨g, j, none⟩).isSome = true := by
    simp only [World.cell?, h1]
    rw [Array.getElem?_eq_getElem (by omega)]; rfl
  have hfro : w.frozen? ⟨g, j, none⟩ = false := by
    simp only [World.frozen?, h1]
    rcases h4 with h4 | h4
    · rw [h4]; simp
    · simp; intro h; omega
  refine wpList_plain hgd fun K hK => ?_
  unfold Oper.wp execOp
  have hs : (storeVar ty ⟨g, j, none⟩ (.int .u8 (n8 v))).run P w = .ok () (w.setCells g j [.int .u8 (n8 v)]) := by
    have := run_storeCells_cells (P := P) g j [.int .u8 (n8 v)] 0 w (fun i hi => by
      have hi0 : i = 0 := by simpa using hi
      subst hi0; exact hcell) (fun i hi => by
      have hi0 : i = 0 := by simpa using hi
      subst hi0; exact hfro) (fun u hu => by simp at hu; subst hu; rfl)
    simp only [Nat.add_zero] at this
    simp [storeVar, Sem.run_bind, sizeOf_run hi, Value.cells, this]
  simp only [ho, hx, hy, Instr.storeAt, Instr.sureAddr, Sem.run_bind, Sem.run_pure, Result.andThen_ok, hs]
  refine hK _ _ (h _ (grown_setCells _ _ _ _) (size_setCells _ _ _ _) ?_)
  refine ⟨cur.setIfInBounds j (.int .u8 (n8 v)), fr, ?_, by rw [List.length_set]; exact h2, by simpa using h3, by simpa using h4, ?_⟩
  · rw [World.setCells, World.setCells]
    simp [World.setCell, Array.getElem?_modify, h1]
  · intro i hi
    rw [List.length_set] at hi
    rw [Array.getElem?_setIfInBounds, List.getD_eq_getElem?_getD]
    by_cases hij : j = i
    · subst hij
      rw [if_pos rfl, if_pos (by omega), List.getElem?_set_self hj]
      rfl
    · rw [if_neg hij, List.getElem?_set_ne hij, h5 i hi, List.getD_eq_getElem?_getD]
end
theorem set_mid (H A E : List UInt8) (j : Nat) (v : UInt8) (h : j < A.length) : (H ++ (A ++ E)).set (H.length + j) v = H ++ (A.set j v ++ E) := by
  rw [List.set_append_right _ _ (by omega), Nat.add_sub_cancel_left, List.set_append_left _ _ h]
theorem byteOf_mid (H A E : List UInt8) (j : Nat) (h : j < A.length) : byteOf (H ++ (A ++ E)) (H.length + j) = byteOf A j := by
  unfold byteOf
  rw [List.getD_eq_getElem?_getD, List.getD_eq_getElem?_getD, List.getElem?_append_right (by omega), Nat.add_sub_cancel_left, List.getElem?_append_left h]
theorem and1 (x : BitVec 32) : bits .and .u32 (n32 x) 1 = n32 (and32 x (BitVec.ofNat 32 1)) := bits_and32 x (BitVec.ofNat 32 1)
theorem low_bit (u : BitVec 32) (k : Nat) : n32 (and32 (shr32 u k) (BitVec.ofNat 32 1)) = if u.toNat.testBit k then 1 else 0 := by
  unfold n32 and32 shr32
  rw [BitVec.toNat_and, BitVec.toNat_ushiftRight]
  show ((u.toNat >>> k &&& 1 : Nat) : Int) = _
  rw [Nat.and_one_is_mod, Nat.testBit_eq_decide_div_mod_eq, Nat.shiftRight_eq_div_pow]
  by_cases h : u.toNat / 2 ^ k % 2 = 1
  · rw [h]; simp
  · rw [show u.toNat / 2 ^ k % 2 = 0 from by omega]; simp
theorem pow8 : ∀ i : Nat, i < 8 → (2 : Int) ^ i % 256 = n8 (bit8 i) := by decide
/-- Where the first of the bits stands. -/
theorem first_of (p : Int) (B : Nat) (hB : 0 < B) : ∃ f : Nat, f < B ∧ ((p.tdiv 2).tmod (B : Int) + (B : Int)).tmod (B : Int) = f ∧ -(B : Int) < (p.tdiv 2).tmod (B : Int) ∧ (p.tdiv 2).tmod (B : Int) < (B : Int) := by
  have hb : ∀ q : Int, -(B : Int) < q.tmod (B : Int) ∧ q.tmod (B : Int) < (B : Int) := fun q => by
    by_cases h : 0 ≤ q
    · rw [Int.tmod_eq_emod_of_nonneg h]
      have h1 := Int.emod_nonneg q (b := (B : Int)) (by omega)
      have h2 := Int.emod_lt_of_pos q (b := (B : Int)) (by omega)
      omega
    · have e : q.tmod (B : Int) = -((-q) % (B : Int)) := by
        rw [show q = -(-q) from by omega, Int.neg_tmod, Int.tmod_eq_emod_of_nonneg (by omega)]
        simp
      have h1 := Int.emod_nonneg (-q) (b := (B : Int)) (by omega)
      have h2 := Int.emod_lt_of_pos (-q) (b := (B : Int)) (by omega)
      omega
  obtain ⟨h1, h2⟩ := hb (p.tdiv 2)
  have h3 : 0 ≤ (p.tdiv 2).tmod (B : Int) + (B : Int) := by omega
  have h4 := Int.emod_nonneg ((p.tdiv 2).tmod (B : Int) + (B : Int)) (b := (B : Int)) (by omega)
  have h5 := Int.emod_lt_of_pos ((p.tdiv 2).tmod (B : Int) + (B : Int)) (b := (B : Int)) (by omega)
  refine ⟨(((p.tdiv 2).tmod (B : Int) + (B : Int)) % (B : Int)).toNat, by omega, ?_, h1, h2⟩
  rw [Int.tmod_eq_emod_of_nonneg h3]
  omega
end Go.Proofs.YtaccklbijihppaaDoor
