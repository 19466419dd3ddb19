/- What a writer's functions do. -/
import Derived.Test.YtncoifkchoiiaaaWra
import Derived.Test.YtncoifkchoiiaaaRc
namespace Go.Proofs.Ytncoifkchoiiaaa
open Go Go.RowKit
def strLen : Value → Nat | .string s => s.size | _ => 0
def putB (f : Nat → UInt8) (n : Nat) (l : List UInt8) : Nat → UInt8 := fun j => if n ≤ j ∧ j < n + l.length then l.getD (j - n) 0 else f j
theorem row8_splice (f : Nat → UInt8) (m n : Nat) (l : List UInt8) (h : n + l.length ≤ m) : spl (row8 f m) n (l.map fun b => Value.int .u8 (b.toNat : Int)) = row8 (putB f n l) m := by
  apply Array.ext_getElem?
  intro j
  rw [spl_get _ _ _ _ (by simp [row8_size]; omega)]
  simp only [List.length_map]
  by_cases h1 : n ≤ j ∧ j < n + l.length
  · rw [if_pos h1, row8_get _ _ _ (by omega), putB, if_pos h1, List.getElem?_map, List.getElem?_eq_getElem (by omega), List.getD_eq_getElem?_getD, List.getElem?_eq_getElem (by omega)]
    rfl
  · rw [if_neg h1]
    by_cases h2 : j < m
    · rw [row8_get _ _ _ h2, row8_get _ _ _ h2, putB, if_neg h1]
    · rw [row8_none _ _ _ (by omega), row8_none _ _ _ (by omega)]

section
variable {P : Program} {ops : Array Oper} {rest : List Oper} {op : Oper} {a : Act} {w : World} {Q : Exit → Act → World → Prop}
theorem wpList_copyStr (hgd : op.guard = none) (x y : Operand) (dT sT : TypeId) (ho : op.op = .call { callee := .builtin .copy, args := #[x, y], argTypes := #[dT, sT] })
    (b o len cap : Nat) (hx : a.eval x = .slice (some ⟨b, o, none⟩) len cap) (s : List UInt8) (hy : a.eval y = .string ⟨s.toArray⟩)
    (e : TypeId) (hu : P.underlying dT = some (.slice e)) (hse : (P.info? e).map (·.size) = some 1)
    (c : Array Value) (t : TypeId) (hb : Blk w b c t) (n : Nat) (hn : n = Nat.min s.length len) (hfit : o + n ≤ c.size)
    (h : ∀ w1 : World, w.grownBy w1 (some b) → w1.heap.size = w.heap.size → Blk w1 b (spl c o ((s.take n).map fun b => Value.int .u8 (b.toNat : Int))) t → wpList P ops Q rest (a.put op.dst (.int .i64 (n : Int))) w1) :
    wpList P ops Q (op :: rest) a w := by
  have hl : n ≤ s.length := by rw [hn]; exact Nat.min_le_left _ _
  have hr : (Builtin.copy_ #[dT, sT] op.type #[.slice (some ⟨b, o, none⟩) len cap, .string ⟨s.toArray⟩]).run P w = .ok (.int .i64 (n : Int)) (w.setCells b o ((s.take n).map fun b => Value.int .u8 (b.toNat : Int))) := by
    have hst := run_storeCells_cells (P := P) b o ((s.take n).map fun b => Value.int .u8 (b.toNat : Int)) 0 w
      (fun j hj => (hb.there o n hfit j (by simp at hj; omega)).1) (fun j hj => (hb.there o n hfit j (by simp at hj; omega)).2) (fun u hu => by
        obtain ⟨_, _, rfl⟩ := List.mem_map.1 hu
        rfl)
    simp only [Nat.add_zero] at hst
    have hsz : (ByteArray.mk s.toArray).size = s.length := by show s.toArray.size = _; simp
    simp [Builtin.copy_, run_underlying hu, Builtin.lenOf, Builtin.firstCells, sizeOf_run hse, Sem.run_bind, hsz, ← hn, goInt]
    rw [← List.map_take, hst]
    rfl
  refine wpList_run hgd _ _ ?_ (h _ (grown_setCells _ _ _ _) (size_setCells _ _ _ _) (hb.setCells _ _))
  unfold execOp
  simp only [ho]
  simp [resolve, invoke, builtin, hx, hy, hr, Result.andThen]

theorem wpList_sliceAll (hgd : op.guard = none) (ty : TypeId) (x : Operand) (ho : op.op = .slice ty x none none none) (b o : Nat) (hx : a.eval x = .pointer (some ⟨b, o, none⟩))
    (n : Nat) (e : TypeId) (hu : P.underlying ty = some (.array n e)) (hse : (P.info? e).map (·.size) = some 1)
    (h : wpList P ops Q rest (a.put op.dst (.slice (some ⟨b, o, none⟩) n n)) w) : wpList P ops Q (op :: rest) a w := by
  refine wpList_run hgd _ w ?_ h
  unfold execOp
  simp only [ho, Option.map_none, hx]
  simp [Instr.sliceAt, run_underlying hu, Instr.sureAddr, Instr.sliceBounds, sizeOf_run hse, Addr.add_mid, Sem.run_bind]
/-- A string of a nil slice. -/
theorem wpList_nilString (hgd : op.guard = none) (src dst : TypeId) (x : Operand) (ho : op.op = .convert src dst x) (hx : a.eval x = .slice none 0 0)
    (e : TypeId) (hs : P.underlying src = some (.slice e)) (he : P.underlying e = some (.int .u8)) (hd : P.underlying dst = some .string)
    (h : wpList P ops Q rest (a.put op.dst (.string ⟨#[]⟩)) w) : wpList P ops Q (op :: rest) a w := by
  refine wpList_run hgd _ w ?_ h
  unfold execOp
  simp only [ho, hx, Sem.run_bind, run_convert_bytes_string w src dst e _ _ _ hs he hd]
  rfl
end
theorem wall_any (b : Nat) (l : List UInt8) (w : World) (h : WR w b l) : Calls Try.prog 39 #[.pointer (some ⟨b, 0, none⟩)] w fun e w' => e = .returned (.string ⟨l.toArray⟩) ∧ w' = w := by
  obtain ⟨sl, hb, hsl⟩ := h.out
  rcases hsl with ⟨rfl, rfl⟩ | ⟨g, cap, h1, rfl, h3⟩
  · go_enter Try.func39, Try.ntmps39
    go_wp2_with (with_reducible refine at_list ?_; first
      | (refine wpList_loadCell (op := ⟨some 8, _, _, _, _, _⟩) rfl _ _ rfl b 0 rfl _ _ hb _ Try.underlying68 rfl _ rfl ?_)
      | (refine wpList_nilString (op := ⟨some 9, _, _, _, _, _⟩) rfl _ _ _ rfl rfl _ Try.underlying68 Try.underlying5 Try.underlying9 ?_))
    go_ret
    exact ⟨rfl, rfl⟩
  · go_enter Try.func39, Try.ntmps39
    go_wp2_with (with_reducible refine at_list ?_; first
      | (refine wpList_loadCell (op := ⟨some 8, _, _, _, _, _⟩) rfl _ _ rfl b 0 rfl _ _ hb _ Try.underlying68 rfl _ rfl ?_)
      | (refine wpList_bslString (op := ⟨some 9, _, _, _, _, _⟩) rfl _ _ _ rfl g _ cap l h3 rfl rfl _ Try.underlying68 Try.underlying5 Try.underlying9 ?_))
    go_ret
    exact ⟨rfl, rfl⟩
/-- What a call that puts t leaves. -/
structure Puts (w w' : World) (b : Nat) (l t : List UInt8) : Prop where
  below : Below b w w'
  keeps : Keeps w w'
  wr : WR w' b (l ++ t)
set_option maxRecDepth 100000 in
set_option maxHeartbeats 400000 in
theorem wbytes_any (b : Nat) (l s : List UInt8) (w : World) (h : WR w b l) (hlen : l.length + s.length ≤ 1099511627776) : Calls Try.prog 44 #[.pointer (some ⟨b, 0, none⟩), .string ⟨s.toArray⟩] w fun e w' => e = .returned (.tuple #[]) ∧ Puts w w' b l s := by
  obtain ⟨sl, hb, hsl⟩ := h.out
  obtain ⟨i5', hi5, hz5, hs5, hb5⟩ := info5
  have i57 : (Try.prog.info? 68).map (·.size) = some 1 := by kernel_rfl
  go_enter Try.func44, Try.ntmps44
  go_wp2_with (with_reducible refine at_list ?_; first
    | (refine wpList_loadCell (op := ⟨some 10, _, _, _, _, _⟩) rfl _ _ rfl b 0 rfl _ _ hb _ Try.underlying68 rfl sl rfl ?_)
    | (refine wpList_appendBL (op := ⟨some 12, _, _, _, _, _⟩) rfl _ _ _ _ rfl b sl l hb.lt rfl hsl s rfl _ Try.underlying68 Try.underlying9 hi5 hz5 hs5 hb5 hlen ?_; intro w1 sl1 hw1 hkp hsl1)
    | (refine wpList_storeCell (op := ⟨none, _, _, _, _, _⟩) rfl _ _ _ rfl b 0 rfl sl1 rfl _ _ (hb.below hw1 (by omega)) i57 hsl1.cells.1 hsl1.cells.2 (by simp) ?_; intro w2 hg2 hs2 hb2))
  refine bodyPost_end (results_none rfl _ _ _) rfl ⟨rfl, ?_, hkp.trans (Keeps.of_writer hg2 (hb.below hw1 (by omega))), ⟨sl1, hb2, hsl1.grown hg2⟩⟩
  have hB1 : Below b w w1 := hw1.mono (by omega)
  exact hB1.trans (below_of_grown hg2 (Nat.le_refl _) (Nat.le_trans (Nat.le_of_lt hb.lt) hB1.size))
theorem built73 : Try.prog.built 81 [] = some #[.slice none 0 0] := by kernel_rfl
set_option maxRecDepth 100000 in
theorem neww_any (w : World) : Calls Try.prog 37 #[] w fun e w' => e = .returned (.pointer (some ⟨w.heap.size, 0, none⟩)) ∧ Below w.heap.size w w' ∧ WR w' w.heap.size [] := by
  go_enter Try.func37, Try.ntmps37
  go_wp2_with (with_reducible refine at_list ?_; first
    | (refine wpList_boxRow (op := ⟨some 2, _, _, _, _, _⟩) rfl _ _ rfl #[.slice none 0 0] rfl ?_; intro w1 hw1 hs1 hb1; replace hs1 := hs1.symm))
  go_ret
  exact ⟨rfl, hw1, ⟨_, hb1, .inl ⟨rfl, rfl⟩⟩⟩
set_option maxHeartbeats 400000 in
theorem wnumber_any (b : Nat) (l : List UInt8) (n : Nat) (k : Int) (w : World) (h : WR w b l) (hlen : l.length ≤ 549755813888) : Calls Try.prog 41 #[.pointer (some ⟨b, 0, none⟩), .int .u64 n, .int .i64 k] w fun e w' => e = .returned (.tuple #[]) ∧ Puts w w' b l (num n (cut8 k)) := by
  have HN := number_any n k w
  have hc := cut8_le k
  have hl := num_length (cut8 k) n
  generalize num n (cut8 k) = t at *
  have HB := fun w (h : WR w b l) => wbytes_any b l t w h (by omega)
  have hbl := h.lt
  go_enter Try.func41, Try.ntmps41
  go_wp2_with (first
    | (go_at_call 45; refine HN.mono ?_; rintro e w1 ⟨rfl, hw1⟩)
    | (go_at_call 44; refine (HB _ (h.below hw1)).mono ?_; rintro e w2 ⟨rfl, hW2⟩))
  refine bodyPost_end (results_none rfl _ _ _) rfl ⟨rfl, (hw1.mono (by omega)).trans hW2.below, (Keeps.of_below hw1).trans hW2.keeps, hW2.wr⟩
theorem wcount_any (b : Nat) (l : List UInt8) (n : Int) (w : World) (h : WR w b l) (hlen : l.length ≤ 549755813888) (hn : n ≤ 9223372036854775807) : Calls Try.prog 42 #[.pointer (some ⟨b, 0, none⟩), .int .i64 n] w fun e w' => e = .returned (.tuple #[]) ∧ Puts w w' b l (num n.toNat 4) := by
  have HN := fun w (h : WR w b l) => wnumber_any b l n.toNat 4 w h hlen
  rw [cut8_4] at HN
  generalize num n.toNat 4 = t at *
  by_cases h0 : n < 0
  · rw [show n.toNat = 0 from by omega] at HN
    go_enter Try.func42, Try.ntmps42
    go_wp2_with (go_at_call 41; refine (HN _ h).mono ?_; rintro e w1 ⟨rfl, hP⟩)
    refine bodyPost_end (results_none rfl _ _ _) rfl ⟨rfl, hP⟩
  · obtain ⟨m, rfl⟩ : ∃ m : Nat, n = m := ⟨n.toNat, by omega⟩
    rw [Int.toNat_natCast] at HN
    have hd : decide ((m : Int) < 0) = false := by simp
    have hm := wrap_u64_nat m (by omega)
    go_enter Try.func42, Try.ntmps42
    go_wp2_with (go_at_call 41; refine (HN _ h).mono ?_; rintro e w1 ⟨rfl, hP⟩)
    refine bodyPost_end (results_none rfl _ _ _) rfl ⟨rfl, hP⟩
theorem wtext_any (b : Nat) (l s : List UInt8) (w : World) (h : WR w b l) (hlen : l.length + s.length ≤ 274877906944) : Calls Try.prog 43 #[.pointer (some ⟨b, 0, none⟩), .string ⟨s.toArray⟩] w fun e w' => e = .returned (.tuple #[]) ∧ Puts w w' b l (num s.length 4 ++ s) := by
  have HC := wcount_any b l s.length w h (by omega) (by omega)
  rw [Int.toNat_natCast] at HC
  have hl := num_length 4 s.length
  generalize num s.length 4 = t at *
  have HB := fun w (h : WR w b (l ++ t)) => wbytes_any b (l ++ t) s w h (by rw [List.length_append]; omega)
  go_enter Try.func43, Try.ntmps43
  go_wp2_with (first
    | (go_at_call 42; refine HC.mono ?_; rintro e w1 ⟨rfl, hP⟩)
    | (go_at_call 44; refine (HB _ hP.wr).mono ?_; rintro e w2 ⟨rfl, hW2⟩))
  refine bodyPost_end (results_none rfl _ _ _) rfl ⟨rfl, hP.below.trans hW2.below, hP.keeps.trans hW2.keeps, ?_⟩
  rw [← List.append_assoc]
  exact hW2.wr
/-- A digest's bytes. -/
def hash32 (s : List UInt8) : List UInt8 := (s ++ List.replicate (32 - s.length) 0).take 32
theorem hash32_length (s : List UInt8) : (hash32 s).length = 32 := by unfold hash32; rw [List.length_take, List.length_append, List.length_replicate]; omega
theorem hash_str (s : List UInt8) : strF (putB (fun _ => 0) 0 (s.take (Nat.min s.length 32))) 32 = ⟨(hash32 s).toArray⟩ := by
  unfold strF
  congr 2
  apply List.ext_getElem?
  intro j
  by_cases hj : j < 32
  · rw [List.getElem?_map, List.getElem?_range hj]
    unfold hash32 putB
    rw [List.getElem?_take_of_lt hj]
    simp only [Option.map_some, List.length_take, Nat.zero_le, true_and, Nat.zero_add, Nat.sub_zero]
    have hm : min (Nat.min s.length 32) s.length = min s.length 32 := by
      show min (min s.length 32) s.length = min s.length 32
      omega
    rw [hm]
    by_cases h1 : j < s.length
    · rw [if_pos (by omega), List.getElem?_append_left h1, List.getD_eq_getElem?_getD, List.getElem?_take_of_lt (by show j < min s.length 32; omega), List.getElem?_eq_getElem h1]
      rfl
    · rw [if_neg (by omega), List.getElem?_append_right (by omega), List.getElem?_replicate, if_pos (by omega)]
  · rw [List.getElem?_eq_none (by simp; omega), List.getElem?_eq_none (by rw [hash32_length]; omega)]
section
attribute [local go_sem] mkApp2
theorem rtext_str (s : List UInt8) (w : World) (hl : s.length ≤ 549755813888) : Calls Try.prog 19 #[.string ⟨s.toArray⟩] w fun e w' => e = .returned (.string ⟨(num s.length 4 ++ s).toArray⟩) ∧ Below w.heap.size w w' := by
  have HN := rnum_any s.length 4 w (by omega)
  rw [cut8_4] at HN
  have hnl := num_length 4 s.length
  generalize num s.length 4 = t at *
  go_enter Try.func19, Try.ntmps19
  go_wp2_with (go_at_call 18; refine HN.mono ?_; rintro e w1 ⟨rfl, hw1⟩)
  go_ret
  exact ⟨rfl, hw1⟩
end
section
attribute [local go_sem] mkApp2 extract_take
theorem mkApp0 (x : List UInt8) : (ByteArray.mk x.toArray ++ ByteArray.mk #[0]) = ByteArray.mk (x ++ [0]).toArray := mkApp2 x [0]
attribute [local go_sem] mkApp0
end
end Go.Proofs.Ytncoifkchoiiaaa
