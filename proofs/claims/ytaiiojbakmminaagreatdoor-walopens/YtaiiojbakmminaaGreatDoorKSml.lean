/- A disk in memory: its cells, the slice of its files, and what is put into it. What the small functions of a disk do: comparing, names, whether it is dead. -/
import Derived.Test.YtaiiojbakmminaaGreatDoorKPln
import Derived.Laws.Externs
namespace Go.Proofs.YtaiiojbakmminaaGreatDoor
open Go Go.RowKit
theorem flat_take {k : Nat} : ∀ {l : List (List Value)} (i : Nat), (∀ x ∈ l, x.length = k) → l.flatten.take (i * k) = (l.take i).flatten
  | [], i, _ => by simp
  | x :: r, 0, _ => by simp
  | x :: r, i + 1, h => by
    have hx := h x (List.mem_cons_self ..)
    rw [List.flatten_cons, List.take_succ_cons, List.flatten_cons, Nat.succ_mul, List.take_append, List.take_of_length_le (by omega), hx, show i * k + k - k = i * k by omega, flat_take i (fun y hy => h y (List.mem_cons_of_mem _ hy))]
theorem flat_drop {k : Nat} : ∀ {l : List (List Value)} (i : Nat), (∀ x ∈ l, x.length = k) → l.flatten.drop (i * k) = (l.drop i).flatten
  | [], i, _ => by simp
  | x :: r, 0, _ => by simp
  | x :: r, i + 1, h => by
    have hx := h x (List.mem_cons_self ..)
    rw [List.flatten_cons, List.drop_succ_cons, Nat.succ_mul, List.drop_append, List.drop_of_length_le (by omega), hx, show i * k + k - k = i * k by omega, flat_drop i (fun y hy => h y (List.mem_cons_of_mem _ hy)), List.nil_append]
/-- Cells are put from o on. -/
theorem GS.setCells {w : World} {t : TypeId} {k g cap : Nat} {l l' : List (List Value)} (h : GS w t k g cap l) (o : Nat) (vs : List Value) (ho : o ≤ l.flatten.length) (hc : o + vs.length ≤ cap * k) (hl : l'.length ≤ cap)
    (he : l'.flatten = l.flatten.take o ++ vs ++ l.flatten.drop (o + vs.length)) : GS (w.setCells g o vs) t k g cap l' := by
  obtain ⟨cur, h1, h2, h3, h4⟩ := h.out
  have hb : Blk w g cur t := ⟨h1⟩
  refine ⟨_, (hb.setCells vs o).out, hl, by rw [spl_size]; exact h3, fun j v hj => ?_⟩
  rw [spl_get _ _ _ _ (by omega)]
  rw [he] at hj
  by_cases c1 : j < o
  · rw [if_neg (by omega)]
    rw [List.getElem?_append_left (by rw [List.length_append, List.length_take]; omega), List.getElem?_append_left (by rw [List.length_take]; omega), List.getElem?_take, if_pos c1] at hj
    exact h4 j v hj
  · by_cases c2 : j < o + vs.length
    · rw [if_pos (by omega)]
      rw [List.getElem?_append_left (by rw [List.length_append, List.length_take]; omega), List.getElem?_append_right (by rw [List.length_take]; omega), List.length_take, Nat.min_eq_left ho] at hj
      exact hj
    · rw [if_neg (by omega)]
      rw [List.getElem?_append_right (by rw [List.length_append, List.length_take]; omega), List.getElem?_drop, List.length_append, List.length_take, Nat.min_eq_left ho, show o + vs.length + (j - (o + vs.length)) = j by omega] at hj
      exact h4 j v hj
/-- Whole things are put from the i-th on. -/
theorem GS.put {w : World} {t : TypeId} {k g cap : Nat} {l : List (List Value)} (h : GS w t k g cap l) (hk : ∀ x ∈ l, x.length = k) (i : Nat) (V : List (List Value)) (hV : ∀ x ∈ V, x.length = k) (hi : i ≤ l.length) (hc : i + V.length ≤ cap) :
    GS (w.setCells g (i * k) V.flatten) t k g cap (l.take i ++ V ++ l.drop (i + V.length)) := by
  have hf := flat_len hk
  have hv := flat_len hV
  have h2 := h.out.choose_spec.2.1
  refine h.setCells (i * k) V.flatten (by rw [hf]; exact Nat.mul_le_mul_right k hi) ?_ ?_ ?_
  · rw [hv, ← Nat.add_mul]
    exact Nat.mul_le_mul_right k hc
  · simp only [List.length_append, List.length_take, List.length_drop]
    omega
  · rw [flat_take i hk, hv, ← Nat.add_mul, flat_drop _ hk]
    simp
/-- A part of the i-th thing is put. -/
theorem GS.part {w : World} {t : TypeId} {k g cap : Nat} {l : List (List Value)} (h : GS w t k g cap l) (hk : ∀ x ∈ l, x.length = k) (i q : Nat) (x vs y : List Value) (hx : l[i]? = some x) (hq : q + vs.length ≤ k) (hy : y = x.take q ++ vs ++ x.drop (q + vs.length)) :
    GS (w.setCells g (i * k + q) vs) t k g cap (l.set i y) := by
  have hil := (List.getElem?_eq_some_iff.1 hx).1
  have hxk : x.length = k := hk x (List.mem_of_getElem? hx)
  have hf := flat_len hk
  have h2 := h.out.choose_spec.2.1
  have hik : i * k + k ≤ l.length * k := by
    rw [← Nat.succ_mul]
    exact Nat.mul_le_mul_right k hil
  have hlc : l.length * k ≤ cap * k := Nat.mul_le_mul_right k h2
  refine h.setCells (i * k + q) vs (by rw [hf]; omega) (by omega) (by simpa using h2) ?_
  have e : l = l.take i ++ x :: l.drop (i + 1) := by
    obtain ⟨hi, rfl⟩ := List.getElem?_eq_some_iff.1 hx
    rw [List.getElem_cons_drop, List.take_append_drop]
  have hA : (l.take i).flatten.length = i * k := by
    rw [flat_len (fun z hz => hk z (List.mem_of_mem_take hz)), List.length_take, Nat.min_eq_left (by omega)]
  have e2 : l.flatten = (l.take i).flatten ++ (x ++ (l.drop (i + 1)).flatten) := by
    conv => lhs; rw [e]
    simp
  have e3 : (l.set i y).flatten = (l.take i).flatten ++ (y ++ (l.drop (i + 1)).flatten) := by
    rw [List.set_eq_take_append_cons_drop, if_pos hil]
    simp
  rw [e3, e2]
  clear e3 e2 e
  generalize (l.take i).flatten = A at *
  generalize (l.drop (i + 1)).flatten = R at *
  have e4 : (A ++ (x ++ R)).take (i * k + q) = A ++ x.take q := by
    rw [List.take_append, List.take_of_length_le (by omega), hA, show i * k + q - i * k = q by omega, List.take_append_of_le_length (by omega)]
  have e5 : (A ++ (x ++ R)).drop (i * k + q + vs.length) = x.drop (q + vs.length) ++ R := by
    rw [List.drop_append, List.drop_of_length_le (by omega), hA, show i * k + q + vs.length - i * k = q + vs.length by omega, List.drop_append_of_le_length (by omega), List.nil_append]
  rw [e4, e5, hy]
  simp
theorem GS.first {w : World} {t : TypeId} {k g cap : Nat} {l : List (List Value)} (h : GS w t k g cap l) (r : List (List Value)) (hr : ∃ s, l = r ++ s) : GS w t k g cap r := by
  obtain ⟨cur, h1, h2, h3, h4⟩ := h.out
  obtain ⟨s, rfl⟩ := hr
  refine ⟨cur, h1, by simp at h2; omega, h3, fun j v hj => h4 j v ?_⟩
  rw [List.flatten_append, List.getElem?_append_left (List.getElem?_eq_some_iff.1 hj).1]
  exact hj
theorem GS.range {w : World} {t : TypeId} {k g cap : Nat} {l : List (List Value)} (h : GS w t k g cap l) (hk : ∀ x ∈ l, x.length = k) (i : Nat) (x : List Value) (hx : l[i]? = some x) : w.rangeAt g (i * k) x := fun j v hv => by
  obtain ⟨hi, rfl⟩ := List.getElem?_eq_some_iff.1 hx
  exact h.cell _ _ (flat_get hk i hi j v hv)
theorem GS.there {w : World} {t : TypeId} {k g cap : Nat} {l : List (List Value)} (h : GS w t k g cap l) (o n : Nat) (hn : o + n ≤ cap * k) : w.there g o n := by
  obtain ⟨cur, h1, h2, h3, h4⟩ := h.out
  exact Blk.there (⟨h1⟩ : Blk w g cur t) o n (by omega)
theorem rangeAt_part {w : World} {g o : Nat} {x : List Value} (h : w.rangeAt g o x) (q n : Nat) : w.rangeAt g (o + q) ((x.drop q).take n) := fun j v hv => by
  rw [Nat.add_assoc]
  refine h _ _ ?_
  rw [List.getElem?_take] at hv
  split at hv
  · rwa [List.getElem?_drop] at hv
  · cases hv
theorem zero_of_info {t : TypeId} {c : Array Value} {n : Nat} (h : (Tryz.prog.info? t).map (fun i => (i.zero, i.size)) = some (some (.agg c), n)) : (∀ w, (zeroValue t).run Tryz.prog w = .ok (.agg c) w) ∧ (Tryz.prog.info? t).map (·.size) = some n := by
  cases hq : Tryz.prog.info? t with
  | none => rw [hq] at h; cases h
  | some i =>
    rw [hq] at h
    simp at h
    refine ⟨fun w => ?_, by simp [h.2]⟩
    simp [zeroValue, typeInfo, hq, h.1]
/-- What a content's cells are. -/
def cC (c : Option B) : Array Value := #[.bool c.isSome, .string ⟨(kbyt c).toArray⟩]
def fC (f : F) : Array Value := #[.string ⟨f.name.toArray⟩, .bool f.is.isSome, .string ⟨(kbyt f.is).toArray⟩, .bool f.sure.isSome, .string ⟨(kbyt f.sure).toArray⟩, .int .i64 (f.last : Nat)]
abbrev fL (f : F) : List Value := (fC f).toList
theorem cC_size (c : Option B) : (cC c).size = 2 := rfl
theorem fC_size (f : F) : (fC f).size = 6 := rfl
theorem cC_one (c : Option B) : (cC c).all (·.oneCell') = true := by simp [cC, Value.oneCell']
theorem fC_one (f : F) : (fC f).all (·.oneCell') = true := by simp [fC, Value.oneCell']
theorem fC_g0 (f : F) : (fC f)[0]? = some (.string ⟨f.name.toArray⟩) := rfl
theorem fC_g1 (f : F) : (fC f)[1]? = some (.bool f.is.isSome) := rfl
theorem fC_g2 (f : F) : (fC f)[2]? = some (.string ⟨(kbyt f.is).toArray⟩) := rfl
theorem fC_g3 (f : F) : (fC f)[3]? = some (.bool f.sure.isSome) := rfl
theorem fC_g4 (f : F) : (fC f)[4]? = some (.string ⟨(kbyt f.sure).toArray⟩) := rfl
theorem fC_g5 (f : F) : (fC f)[5]? = some (.int .i64 (f.last : Nat)) := rfl
theorem cC_g0 (c : Option B) : (cC c)[0]? = some (.bool c.isSome) := rfl
theorem cC_g1 (c : Option B) : (cC c)[1]? = some (.string ⟨(kbyt c).toArray⟩) := rfl
theorem zFile : (∀ w, (zeroValue 93).run Tryz.prog w = .ok (.agg (fC ⟨[], none, none, 0⟩)) w) ∧ (Tryz.prog.info? 93).map (·.size) = some 6 := zero_of_info (by kernel_rfl)
theorem zCon : (∀ w, (zeroValue 91).run Tryz.prog w = .ok (.agg (cC none)) w) ∧ (Tryz.prog.info? 91).map (·.size) = some 2 := zero_of_info (by kernel_rfl)
theorem iFile (f : F) : (Tryz.prog.info? 93).map (·.size) = some (fC f).size := zFile.2
theorem iCon (c : Option B) : (Tryz.prog.info? 91).map (·.size) = some (cC c).size := zCon.2
theorem infoFile : ∃ i, Tryz.prog.info? 93 = some i ∧ i.zero = some (.agg (fC ⟨[], none, none, 0⟩)) ∧ i.size = 6 ∧ i.bytes ≤ 256 := by
  have h : (Tryz.prog.info? 93).map (fun i => (i.zero, i.size, decide (i.bytes ≤ 256))) = some (some (.agg (fC ⟨[], none, none, 0⟩)), 6, true) := by kernel_rfl
  cases hq : Tryz.prog.info? 93 with
  | none => rw [hq] at h; cases h
  | some i => rw [hq] at h; simp at h; exact ⟨i, rfl, h.1, h.2.1, h.2.2⟩
/-- A disk: its files, whether it is dead, whether room is short and how much there is, how many changes there were. -/
structure DM where
  l : List F
  dead : Bool
  lim : Bool
  room : Int
  ch : Nat
  pv : Value
def dC (sl : Value) (m : DM) : Array Value := #[sl, .bool m.dead, .bool m.lim, .int .i64 m.room, m.pv, .int .i64 (m.ch : Nat)]
theorem dC_size (sl : Value) (m : DM) : (dC sl m).size = 6 := rfl
theorem dC_g0 (sl : Value) (m : DM) : (dC sl m)[0]? = some sl := rfl
theorem dC_g1 (sl : Value) (m : DM) : (dC sl m)[1]? = some (.bool m.dead) := rfl
theorem dC_g2 (sl : Value) (m : DM) : (dC sl m)[2]? = some (.bool m.lim) := rfl
theorem dC_g3 (sl : Value) (m : DM) : (dC sl m)[3]? = some (.int .i64 m.room) := rfl
theorem dC_g4 (sl : Value) (m : DM) : (dC sl m)[4]? = some m.pv := rfl
theorem dC_g5 (sl : Value) (m : DM) : (dC sl m)[5]? = some (.int .i64 (m.ch : Nat)) := rfl
theorem dC_s0 (sl sl' : Value) (m : DM) (l' : List F) : (dC sl m).setIfInBounds 0 sl' = dC sl' { m with l := l' } := rfl
theorem dC_s1 (sl : Value) (m : DM) (b : Bool) : (dC sl m).setIfInBounds 1 (.bool b) = dC sl { m with dead := b } := rfl
theorem dC_s4 (sl : Value) (m : DM) (v : Value) : (dC sl m).setIfInBounds 4 v = dC sl { m with pv := v } := rfl
theorem dC_s5 (sl : Value) (m : DM) (n : Nat) : (dC sl m).setIfInBounds 5 (.int .i64 (n : Nat)) = dC sl { m with ch := n } := rfl
/-- The value sl is a slice of these files. -/
def FL (w : World) (sl : Value) (l : List F) : Prop := GL w 93 6 0 sl (l.map fL)
theorem fL_all (l : List F) : ∀ x ∈ l.map fL, x.length = 6 := fun x hx => by
  obtain ⟨f, _, rfl⟩ := List.mem_map.1 hx
  rfl
theorem fL_one (l : List F) : ∀ x ∈ l.map fL, ∀ u ∈ x, u.oneCell' = true := fun x hx u hu => by
  obtain ⟨f, _, rfl⟩ := List.mem_map.1 hx
  exact Array.all_eq_true_iff_forall_mem.1 (fC_one f) u (by simpa [fL] using hu)
theorem FL.sl {w : World} {sl : Value} {l : List F} (h : FL w sl l) : ∃ a cap, sl = .slice a l.length cap ∧ l.length ≤ cap := by
  rcases h.2 with ⟨h1, rfl⟩ | ⟨g, cap, _, rfl, hS⟩
  · have : l = [] := by simpa using h1
    subst this
    exact ⟨none, 0, rfl, Nat.le_refl _⟩
  · have h2 := hS.out.choose_spec.2.1
    exact ⟨_, cap, by rw [List.length_map], by simpa using h2⟩
/-- Where a file stands. -/
theorem FL.at {w : World} {a : Option Addr} {n cap : Nat} {l : List F} (h : FL w (.slice a n cap) l) (i : Nat) (f : F) (hf : l[i]? = some f) : ∃ g, a = some ⟨g, 0, none⟩ ∧ GS w 93 6 g cap (l.map fL) ∧ w.rangeAt g (i * 6) (fL f) := by
  have hf2 : (l.map fL)[i]? = some (fL f) := by rw [List.getElem?_map, hf]; rfl
  rcases h.2 with ⟨h1, _⟩ | ⟨g, cap', _, e, hS⟩
  · rw [h1] at hf2; simp at hf2
  · simp only [Value.slice.injEq] at e
    obtain ⟨rfl, _, rfl⟩ := e
    exact ⟨g, rfl, hS, hS.range (fL_all l) i _ hf2⟩
theorem FL.below {w w' : World} {sl : Value} {l : List F} (h : FL w sl l) (hb : Below w.heap.size w w') : FL w' sl l := GL.below h hb
theorem FL.drew {w : World} {sl : Value} {l : List F} (h : FL w sl l) : FL w.drew sl l := GL.drew h
theorem FL.grown {w w' : World} {sl : Value} {l : List F} {row : Option Nat} (h : FL w sl l) (hb : w.grownBy w' row) (hr : ∀ r, slBlk sl = some r → some r ≠ row) : FL w' sl l := GL.grown h hb hr
/-- Another block is not the files'. -/
theorem FL.ne {w : World} {ty : TypeId} {i : Nat} {sl : Value} {l : List F} {c : Array Value} (h : FL w sl l) (hb : Blk w i c ty) (ht : ty ≠ 93) : ∀ r, slBlk sl = some r → some r ≠ some i := GL.ne h hb (.inl ht)
/-- A disk lies at p, its files in block b. -/
structure DK (w : World) (p : Nat) (b : Option Nat) (m : DM) : Prop where
  out : ∃ sl, Blk w p (dC sl m) 61 ∧ FL w sl m.l ∧ slBlk sl = b
/-- What stays but a disk's own two blocks. -/
structure Chg (w w' : World) (p : Nat) (b b' : Option Nat) : Prop where
  os : w'.os = w.os
  tape : w'.tape = w.tape
  output : w'.output = w.output
  size : w.heap.size ≤ w'.heap.size
  block : ∀ k, k < w.heap.size → k ≠ p → some k ≠ b → w'.heap[k]? = w.heap[k]?
  new : ∀ r, b' = some r → b = some r ∨ w.heap.size ≤ r
theorem Chg.refl (w : World) (p : Nat) (b : Option Nat) : Chg w w p b b := ⟨rfl, rfl, rfl, Nat.le_refl _, fun _ _ _ _ => rfl, fun _ e => .inl e⟩
theorem Chg.trans {w w1 w2 : World} {p : Nat} {b b1 b2 : Option Nat} (h : Chg w w1 p b b1) (k : Chg w1 w2 p b1 b2) : Chg w w2 p b b2 := by
  refine ⟨k.os.trans h.os, k.tape.trans h.tape, k.output.trans h.output, Nat.le_trans h.size k.size, fun i hi h1 h2 => ?_, fun r e => ?_⟩
  · refine (k.block i (Nat.lt_of_lt_of_le hi h.size) h1 (fun e => ?_)).trans (h.block i hi h1 h2)
    rcases h.new i e.symm with h3 | h3
    · exact h2 h3.symm
    · omega
  · rcases k.new r e with h3 | h3
    · exact h.new r h3
    · exact .inr (Nat.le_trans h.size h3)
theorem Chg.below {w w' : World} {p : Nat} {b : Option Nat} (h : Below w.heap.size w w') : Chg w w' p b b := ⟨h.os, h.tape, h.output, h.size, fun i hi _ _ => h.block i hi, fun _ e => .inl e⟩
theorem Chg.own {w w' : World} {p : Nat} {b : Option Nat} (h : w.grownBy w' (some p)) : Chg w w' p b b := ⟨h.os, h.tape, h.output, h.size, fun i hi h1 _ => h.block i hi (fun e => h1 (Option.some.inj e)), fun _ e => .inl e⟩
theorem Chg.row {w w' : World} {p : Nat} {b b' : Option Nat} (h : w.grownBy w' b) (hn : ∀ r, b' = some r → b = some r ∨ w.heap.size ≤ r) : Chg w w' p b b' := ⟨h.os, h.tape, h.output, h.size, fun i hi _ h2 => h.block i hi h2, hn⟩
theorem DK.below {w w' : World} {p : Nat} {b : Option Nat} {m : DM} (h : DK w p b m) (hb : Below w.heap.size w w') : DK w' p b m := by
  obtain ⟨sl, h1, h2, h3⟩ := h.out
  exact ⟨sl, h1.belowSize hb, h2.below hb, h3⟩
/-- A block of another kind stays. -/
theorem Chg.blk {w w' : World} {p i : Nat} {b b' : Option Nat} {m : DM} {c : Array Value} {t : TypeId} (h : Chg w w' p b b') (hD : DK w p b m) (hB : Blk w i c t) (h1 : t ≠ 61) (h2 : t ≠ 93) : Blk w' i c t := by
  obtain ⟨sl, k1, k2, rfl⟩ := hD.out
  refine ⟨(h.block i hB.lt (fun e => ?_) (fun e => ?_)).trans hB.out⟩
  · subst e
    have := k1.out
    rw [hB.out] at this
    simp only [Option.some.injEq, Obj.cells.injEq] at this
    exact h1 this.2.1
  · exact k2.ne hB h2 i e.symm rfl
section
variable {P : Program} {ops : Array Oper} {rest : List Oper} {op : Oper} {a : Act} {w : World} {Q : Exit → Act → World → Prop}
theorem wpList_loadAt (hgd : op.guard = none) (ty : TypeId) (x : Operand) (ho : op.op = .load ty x) (b o : Nat) (hx : a.eval x = .pointer (some ⟨b, o, none⟩))
    (c : Array Value) (hb : w.rangeAt b o c.toList) (d : TypeDesc) (hu : P.underlying ty = some d) (hd : d.isRow = true) (hi : (P.info? ty).map (·.size) = some c.size)
    (h : wpList P ops Q rest (a.put op.dst (.agg c)) w) : wpList P ops Q (op :: rest) a w := by
  refine wpList_load_mid hgd ty x ho b o hx c.toList d hb hu hd (by simpa using hi) ?_
  simpa using h
end
end Go.Proofs.YtaiiojbakmminaaGreatDoor
namespace Go.Proofs.YtaiiojbakmminaaGreatDoor
open Go Go.RowKit
set_option maxRecDepth 100000 in
theorem cmpS_any (a b : B) (w : World) : Calls Tryz.prog 156 #[.string ⟨a.toArray⟩, .string ⟨b.toArray⟩] w fun e w' => e = .returned (.int .i64 (Lib.compareBytes a b)) ∧ w' = w := by
  go_enter Tryz.func156, Tryz.ntmps156
  go_wp2
  rw [run_callFunc_extern Tryz.func175 (by kernel_rfl) (by kernel_rfl) (by kernel_rfl) (e := Extern.BytealgCompare.compare) (by kernel_rfl), Lib.run_compareString]
  simp only [Result.andThen]
  rw [Oper.upon_value]
  go_wp2
  go_ret
  exact ⟨rfl, rfl⟩
set_option maxRecDepth 100000 in
theorem compare_any (a b : B) (w : World) : Calls Tryz.prog 124 #[.string ⟨a.toArray⟩, .string ⟨b.toArray⟩] w fun e w' => e = .returned (.int .i64 (Lib.compareBytes a b)) ∧ w' = w := by
  go_enter Tryz.func124, Tryz.ntmps124
  go_wp2_with (go_at_call 156; refine (cmpS_any a b w).mono ?_; rintro e w' ⟨rfl, rfl⟩)
  go_ret
  exact ⟨rfl, rfl⟩
set_option maxRecDepth 100000 in
theorem place1_any (f : F) (n : B) (w : World) : Calls Tryz.prog 123 #[.agg (fC f), .string ⟨n.toArray⟩] w fun e w' => e = .returned (.int .i64 (Lib.compareBytes f.name n)) ∧ Below w.heap.size w w' := by
  go_enter Tryz.func123, Tryz.ntmps123
  go_wp2_with (first
    | (go_at_call 124; refine (compare_any f.name n _).mono ?_; rintro e w' ⟨rfl, hw'⟩; subst hw')
    | (with_reducible refine at_list ?_; first
      | (refine wpList_boxRow (op := ⟨some 2, _, _, _, _, _⟩) rfl _ _ rfl _ rfl ?_; intro w1 hw1 hs1 hb1; clear hs1)
      | (refine wpList_loadCell (op := ⟨some 6, _, _, _, _, _⟩) rfl _ _ rfl w.heap.size 0 rfl _ _ hb1 _ Tryz.underlying9 rfl _ (fC_g0 f) ?_)))
  go_ret
  exact ⟨rfl, hw1⟩
/-- May a byte stand in a name? -/
def okB (b : UInt8) : Bool := (decide (97 ≤ b) && decide (b ≤ 122)) || (decide (48 ≤ b) && decide (b ≤ 57)) || b == 46 || b == 45
def okN (s : B) : Bool := s.all okB && decide (0 < s.length) && decide (s.length ≤ 32)
set_option maxRecDepth 100000 in
set_option maxHeartbeats 1000000 in
theorem ofName_any (b : UInt8) (w : World) : Calls Tryz.prog 100 #[.int .u8 (b.toNat : Int)] w fun e w' => e = .returned (.bool (okB b)) ∧ w' = w := by
  have h1 : decide (97 ≤ b) = decide ((97 : Int) ≤ (b.toNat : Int)) := by simp only [UInt8.le_iff_toNat_le, decide_eq_decide]; show 97 ≤ _ ↔ _; omega
  have h2 : decide (b ≤ 122) = decide ((b.toNat : Int) ≤ 122) := by simp only [UInt8.le_iff_toNat_le, decide_eq_decide]; show _ ≤ 122 ↔ _; omega
  have h3 : decide (48 ≤ b) = decide ((48 : Int) ≤ (b.toNat : Int)) := by simp only [UInt8.le_iff_toNat_le, decide_eq_decide]; show 48 ≤ _ ↔ _; omega
  have h4 : decide (b ≤ 57) = decide ((b.toNat : Int) ≤ 57) := by simp only [UInt8.le_iff_toNat_le, decide_eq_decide]; show _ ≤ 57 ↔ _; omega
  have h5 : (b == 46) = decide ((b.toNat : Int) = 46) := by rw [Bool.eq_iff_iff]; simp only [beq_iff_eq, ← UInt8.toNat_inj, decide_eq_true_eq]; show _ = 46 ↔ _; omega
  have h6 : (b == 45) = decide ((b.toNat : Int) = 45) := by rw [Bool.eq_iff_iff]; simp only [beq_iff_eq, ← UInt8.toNat_inj, decide_eq_true_eq]; show _ = 45 ↔ _; omega
  have e : okB b = ((decide ((97 : Int) ≤ (b.toNat : Int)) && decide ((b.toNat : Int) ≤ 122)) || (decide ((48 : Int) ≤ (b.toNat : Int)) && decide ((b.toNat : Int) ≤ 57)) || decide ((b.toNat : Int) = 46) || decide ((b.toNat : Int) = 45)) := by
    unfold okB
    rw [h1, h2, h3, h4, h5, h6]
  rw [e]
  clear h1 h2 h3 h4 h5 h6 e
  generalize (b.toNat : Int) = z
  go_enter Tryz.func100, Tryz.ntmps100
  go_wp2
  all_goals (go_ret; refine ⟨congrArg (fun b => Ending.returned (.bool b)) ?_, rfl⟩; first | rfl | (rw [Bool.eq_iff_iff]; simp <;> omega))
/-- The k-th byte of a text. -/
def kbyteOf (l : B) (k : Nat) : UInt8 := l.getD k 0
theorem kidx8 (l : B) (k : Nat) (h : k < (ByteArray.mk l.toArray).size) : (((ByteArray.mk l.toArray)[k]'h).toNat : Int) = ((kbyteOf l k).toNat : Int) := by
  have hk : k < l.length := by
    have : (ByteArray.mk l.toArray).size = l.length := by show l.toArray.size = _; simp
    omega
  have e : (ByteArray.mk l.toArray)[k]'h = kbyteOf l k := by
    rw [kbyteOf, List.getD_eq_getElem?_getD, List.getElem?_eq_getElem hk]
    rfl
  rw [e]
theorem all_take {l : B} {p : UInt8 → Bool} {n : Nat} (h : n < l.length) : (l.take (n + 1)).all p = ((l.take n).all p && p (kbyteOf l n)) := by
  rw [List.take_succ_eq_append_getElem h, List.all_append, kbyteOf, List.getD_eq_getElem?_getD, List.getElem?_eq_getElem h]
  simp
theorem all_no {l : B} {p : UInt8 → Bool} {n : Nat} (h : n < l.length) (hp : p (kbyteOf l n) = false) : l.all p = false := by
  rw [Bool.eq_false_iff]
  intro ha
  have := List.all_eq_true.1 ha (kbyteOf l n) (by
    rw [kbyteOf, List.getD_eq_getElem?_getD, List.getElem?_eq_getElem h]
    simp)
  rw [hp] at this
  cases this
section
attribute [local go_sem] kidx8
set_option maxRecDepth 100000 in
set_option maxHeartbeats 1000000 in
theorem name_any (s : B) (w : World) (hs : s.length ≤ 9223372036854775807) : Calls Tryz.prog 73 #[.string ⟨s.toArray⟩] w fun e w' => e = .returned (.bool (okN s)) ∧ w' = w := by
  obtain ⟨R, hR⟩ : ∃ R, Hid (R = okN s) := ⟨_, rfl⟩
  rw [← hR.out]
  go_enter Tryz.func73, Tryz.ntmps73
  go_wp2_with fail
  go_loopw [3, 6] (fun _ v6 wl => ∃ n : Nat, n ≤ s.length ∧ v6 = .int .i64 n ∧ Hid ((s.take n).all okB = true) ∧ wl = w) (fun _ v6 _ => s.length - (intOf v6).toNat)
  case atStart => exact ⟨0, by omega, rfl, rfl, rfl⟩
  case round =>
    obtain ⟨n, hn, rfl, hI, hw⟩ := hrel
    have hw2 := hw.symm
    subst hw2
    clear hw
    by_cases hlt : n < s.length
    · have hd : decide ((n : Int) < (s.length : Int)) = true := decide_eq_true (by omega)
      have HO := ofName_any (kbyteOf s n)
      cases hb : okB (kbyteOf s n)
      · have hRf : R = false := by
          rw [hR.out]
          unfold okN
          rw [all_no hlt hb]
          rfl
        subst hRf
        rw [hb] at HO
        clear hI hR hb
        go_wp2_with (go_at_call 100; refine (HO _).mono ?_; rintro e w' ⟨rfl, hw'⟩; subst hw')
        go_ret
        exact ⟨rfl, rfl⟩
      · have hI2 : Hid ((s.take (n + 1)).all okB = true) := by
          show _ = _
          rw [all_take hlt, hI.out, hb]
          rfl
        rw [hb] at HO
        clear hI hb
        go_wp2_with (go_at_call 100; refine (HO _).mono ?_; rintro e w' ⟨rfl, hw'⟩; subst hw')
        go_roundw
        case rel => exact ⟨n + 1, by omega, by go_num, hI2, trivial⟩
        case measure => simp [intOf]; omega
    · have hRl : Hid (R = (decide (0 < s.length) && decide (s.length ≤ 32))) := by
        have := hI.out
        rw [List.take_of_length_le (by omega)] at this
        show _ = _
        rw [hR.out, okN, this, Bool.true_and]
      have hz2 : ¬ (n : Int) < (s.length : Int) := by omega
      clear hI hR
      by_cases h0 : s = []
      · subst h0
        have hRf : R = false := by rw [hRl.out]; rfl
        subst hRf
        clear hRl
        go_wp2_with fail
        go_ret
        exact ⟨rfl, rfl⟩
      · have hpos : 0 < s.length := List.length_pos_iff.2 h0
        have hRm : R = decide (s.length ≤ 32) := by rw [hRl.out, decide_eq_true hpos, Bool.true_and]
        have hRi : R = decide ((s.length : Int) ≤ 32) := by rw [hRm, decide_eq_decide]; omega
        subst hRi
        have he : s.isEmpty = false := by simp [h0]
        clear hRl hRm h0
        go_wp2_with fail
        all_goals (go_ret; exact ⟨rfl, rfl⟩)
end
end Go.Proofs.YtaiiojbakmminaaGreatDoor
