/- A state's keys, sorted: what Keys and Sorted do; rows of texts. -/
import Derived.Test.YtdikilhobmkpkaaGreatDoorApr
namespace Go.Proofs.YtdikilhobmkpkaaGreatDoor
open Go Go.RowKit Go.Maps Go.Sort Go.Shelf
theorem before_lt : ∀ (a b : List UInt8), bytesBefore a b = true ↔ a < b
  | [], [] => by simp [bytesBefore]
  | [], _ :: _ => by simp [bytesBefore]
  | _ :: _, [] => by simp [bytesBefore]
  | x :: r, y :: s => by
    rw [List.cons_lt_cons_iff]
    simp only [bytesBefore, Bool.or_eq_true, Bool.and_eq_true, decide_eq_true_eq, beq_iff_eq, before_lt r s]
theorem before_le {a b : List UInt8} (h : bytesBefore a b = true) : a ≤ b := List.le_of_lt ((before_lt a b).1 h)
theorem srt_ris {m : List KV} (h : Ris m) : srt (m.map (·.1)) = m.map (·.1) := by
  unfold srt
  apply List.mergeSort_of_pairwise
  rw [List.pairwise_map]
  exact h.imp fun hab => decide_eq_true (before_le hab)
theorem strKeys_dm (m : List KV) : strKeys (dm m) = m.map (·.1) := by
  unfold dm strKeys
  simp only [List.map_map]
  rfl
/-- A slice of texts lies at an address. -/
def LS (w : World) (a : Option Addr) (l : List (List UInt8)) : Prop := ∀ j (h : j < l.length), ∃ g cur, a = some ⟨g, 0, none⟩ ∧ Blk w g cur 9 ∧ cur[j]? = some (.string ⟨(l[j]).toArray⟩)
theorem LS.below {w w' : World} {a : Option Addr} {l : List (List UInt8)} (h : LS w a l) (hb : Below w.heap.size w w') : LS w' a l := fun j hj => by
  obtain ⟨g, cur, h1, h2, h3⟩ := h j hj
  exact ⟨g, cur, h1, h2.belowSize hb, h3⟩
theorem LS.of_row {w : World} {lo : Nat} {v : Value} {l : List (List UInt8)} (h : w.ownsRow lo 9 1 v l.length (l.map encStr)) (hn : v = .slice none 0 0 ↔ l = []) : ∃ a cap, v = .slice a l.length cap ∧ LS w a l ∧ (l ≠ [] → ∃ g, a = some ⟨g, 0, none⟩ ∧ lo ≤ g) := by
  have hc := h
  rcases h.2 with ⟨rfl, h0⟩ | ⟨g, cap, cur, rfl, hb, hcur, h1, h2, h3, h4⟩
  · have hl := hn.1 rfl
    subst hl
    exact ⟨none, 0, rfl, fun j hj => by simp at hj, fun h => absurd rfl h⟩
  · refine ⟨some ⟨g, 0, none⟩, cap, rfl, fun j hj => ⟨g, cur, rfl, ⟨hcur⟩, ?_⟩, fun _ => ⟨g, rfl, hb⟩⟩
    have h5 : (cur.toList.take (l.length * 1))[j]? = (l.map encStr)[j]? := by rw [h4]
    rw [Nat.mul_one, List.getElem?_take_of_lt hj, Array.getElem?_toList] at h5
    rw [h5]
    simp [hj]
theorem sorts_wide (n : Nat) : AnyZ.SortsIn Tryz.prog laySorted_ren Fence.wide n :=
  ⟨fun blk off cap ss W hH hblk hsz => callsIn_wide.2 (AnyM.slices_Sort_string laySort blk off cap ss W hH hblk hsz),
   fun p cap W => callsIn_wide.2 (AnyM.slices_Sort_string_none laySort p cap W)⟩
theorem keys_any (mb : Option Nat) (w : World) : Calls Tryz.prog 49 #[.map mb] w fun e w' => e = .returned (.func (.func 77) #[] #[.pointer (some ⟨w.heap.size, 0, none⟩)]) ∧ w' = w.alloc (.cells #[.map mb] 55) :=
  callsIn_wide.1 (AnyZ.keys_in layKeys Fence.wide 5 trivial rfl mb w)
set_option maxHeartbeats 1000000 in
theorem sorted_any (b : Nat) (m : List KV) (w : World) (hM : MB w b m) (hm : m.length ≤ 100000) :
    Calls Tryz.prog 48 #[.func (.func 77) #[] #[.pointer (some ⟨w.heap.size, 0, none⟩)]] (w.alloc (.cells #[.map (some b)] 55)) fun e w' => ∃ a cap, e = .returned (.slice a m.length cap) ∧ LS w' a (m.map (·.1)) ∧ Below w.heap.size w w' := by
  have hown : w.ownsMap Tryz.prog 9 hld b m.length (dm m) := hM
  have hsz := dm_size m
  have hbl := hown.lt
  have hseq : SeqGives Fence.wide 2 Tryz.prog 77 #[.pointer (some ⟨w.heap.size, 0, none⟩)] encStr (fun ss => ss.Perm (strKeys (dm m))) (Maps.size (dm m)) (w.alloc (.cells #[.map (some b)] 55)) :=
    AnyZ.keys_gives (ρ := layKeys_ren) { layKeys with } Fence.wide _ trivial rfl (by omega) w.heap.size b m.length (dm m) _ (by simp) (by simp) (by
      obtain ⟨es, clock, hb, Ft, hs, hD⟩ := hown
      exact ⟨es, clock, (Below.heap_alloc _ _ b hbl).trans hb, Ft, hs, hD⟩)
  have hS := callsIn_wide.1 (AnyZ.sorted_in laySorted Fence.wide 5 trivial trivial trivial trivial rfl (by omega) (sorts_wide _) (enters_of Tryz.func28 (by kernel_rfl) rfl) 77 #[.pointer (some ⟨w.heap.size, 0, none⟩)] trivial (enters_of Tryz.func77 (by kernel_rfl) rfl) _ _ (by rw [hsz]; unfold maxLen; omega) (by rw [hsz]; omega) _ hseq)
  refine hS.mono ?_
  rintro e w' ⟨v, ss, rfl, hP, hrow, hnil, hb⟩
  rw [strKeys_dm] at hP
  have hlen : ss.length = m.length := by rw [hP.length_eq, List.length_map]
  have hss : ss.mergeSort (fun x y => decide (x ≤ y)) = m.map (·.1) := (mergeSort_of_perm hP).trans (srt_ris (hM.ris K9))
  rw [hss, show ss.length = (m.map (·.1)).length from by rw [hlen, List.length_map]] at hrow
  obtain ⟨a, cap, rfl, hLS, _⟩ := LS.of_row hrow (by
    rw [hnil]
    constructor
    · intro h; subst h; exact (List.nil_perm.1 hP)
    · intro h; rw [h] at hP; exact List.perm_nil.1 hP)
  refine ⟨a, cap, by rw [List.length_map], hLS, ?_⟩
  exact ((Below.refl _ w).alloc (Nat.le_refl _) _).trans (hb.mono (by simp))
set_option maxHeartbeats 1000000 in
theorem sorted_nil (w : World) :
    Calls Tryz.prog 48 #[.func (.func 77) #[] #[.pointer (some ⟨w.heap.size, 0, none⟩)]] (w.alloc (.cells #[.map none] 55)) fun e w' => e = .returned (.slice none 0 0) ∧ Below w.heap.size w w' := by
  have hseq : SeqGives Fence.wide 2 Tryz.prog 77 #[.pointer (some ⟨w.heap.size, 0, none⟩)] encStr (fun ss : List (List UInt8) => ss = []) 0 (w.alloc (.cells #[.map none] 55)) :=
    AnyZ.keys_gives_nil (ρ := layKeys_ren) { layKeys with } Fence.wide _ trivial rfl w.heap.size _ (by simp) (by simp)
  have hS := callsIn_wide.1 (AnyZ.sorted_in laySorted Fence.wide 5 trivial trivial trivial trivial rfl (by omega) (sorts_wide _) (enters_of Tryz.func28 (by kernel_rfl) rfl) 77 #[.pointer (some ⟨w.heap.size, 0, none⟩)] trivial (enters_of Tryz.func77 (by kernel_rfl) rfl) _ 0 (Nat.zero_le _) (by omega) _ hseq)
  refine hS.mono ?_
  rintro e w' ⟨v, ss, rfl, hP, hrow, hnil, hb⟩
  have hv := hnil.2 hP
  subst hv
  exact ⟨rfl, ((Below.refl _ w).alloc (Nat.le_refl _) _).trans (hb.mono (by simp))⟩
/-- A row of texts. -/
def row9 (f : Nat → List UInt8) (n : Nat) : Array Value := Array.ofFn (fun i : Fin n => Value.string ⟨(f i).toArray⟩)
def upd9 (f : Nat → List UInt8) (i : Nat) (v : List UInt8) : Nat → List UInt8 := fun j => if j = i then v else f j
theorem row9_size (f : Nat → List UInt8) (n : Nat) : (row9 f n).size = n := by simp [row9]
theorem row9_get (f : Nat → List UInt8) (n j : Nat) (h : j < n) : (row9 f n)[j]? = some (.string ⟨(f j).toArray⟩) := by simp [row9, h]
theorem row9_none (f : Nat → List UInt8) (n j : Nat) (h : n ≤ j) : (row9 f n)[j]? = none := by simp [row9, h]
theorem row9_set (f : Nat → List UInt8) (n i : Nat) (v : List UInt8) : (row9 f n).setIfInBounds i (.string ⟨v.toArray⟩) = row9 (upd9 f i v) n := by
  apply Array.ext_getElem?
  intro j
  rw [Array.getElem?_setIfInBounds]
  by_cases hj : j < n
  · rw [row9_get _ _ _ hj, row9_get _ _ _ hj, row9_size]
    by_cases h : i = j
    · subst h; simp [upd9, hj]
    · rw [if_neg h, upd9, if_neg (fun e => h e.symm)]
  · rw [row9_none _ _ _ (by omega), row9_none _ _ _ (by omega), row9_size]
    by_cases h : i = j
    · subst h; rw [if_pos rfl, if_neg hj]
    · rw [if_neg h]
theorem madeCells_row9 (n : Nat) : madeCells #[Value.string ⟨#[]⟩] n = row9 (fun _ => []) n := by
  apply Array.ext_getElem?
  intro j
  by_cases hj : j < n
  · rw [row9_get _ _ _ hj]; simp [madeCells, hj, Nat.mod_one]
  · rw [row9_none _ _ _ (by omega)]; simp [madeCells]; omega
theorem wpList_makeS {ops : Array Oper} {rest : List Oper} {op : Oper} {a : Act} {w : World} {Q : Exit → Act → World → Prop} (hgd : op.guard = none) (x y : Operand) (ho : op.op = .makeSlice 26 x y) (n : Nat) (hx : a.eval x = .int .i64 (n : Int)) (hy : a.eval y = .int .i64 (n : Int)) (hn : n ≤ 1000000)
    (h : ∀ w1 : World, Below w.heap.size w w1 → w1.heap.size = w.heap.size + 1 → Blk w1 w.heap.size (row9 (fun _ => []) n) 9 → wpList Tryz.prog ops Q rest (a.put op.dst (.slice (some ⟨w.heap.size, 0, none⟩) n n)) w1) :
    wpList Tryz.prog ops Q (op :: rest) a w := by
  obtain ⟨i, hi, hz, hs, hb⟩ := info9
  have hr := run_make (P := Tryz.prog) w 26 9 i _ Tryz.underlying26 hi hz .i64 .i64 (n : Int) (n : Int) (by omega) (by omega) (by rw [hb]; omega) (by omega)
  rw [Int.toNat_natCast, hs, Nat.mul_one, show (Value.string ⟨#[]⟩).cells = #[Value.string ⟨#[]⟩] from rfl, madeCells_row9] at hr
  refine wpList_run hgd _ _ ?_ (h _ ((Below.refl _ _).alloc (Nat.le_refl _) _) (by simp) (Blk.new _ _ _))
  unfold execOp
  simp only [ho, hx, hy, Sem.run_bind, hr, Result.andThen_ok]
  rfl
end Go.Proofs.YtdikilhobmkpkaaGreatDoor
