/- What ConfNext does, out of what Next does. -/
import Derived.Test.YtcaoibdimeajfaaCli
namespace Go.Proofs.Ytcaoibdimeajfaa
open Go Go.RowKit
/-- How many of one list another one lacks. -/
def lack (l m : List Int) : Nat := (l.filter fun x => decide (x ∉ m)).length
/-- May the one follow the other? -/
def nx (l m : List Int) : Bool := okM l && (okM m && decide (lack l m + lack m l = 1))
theorem nx_bad {l m : List Int} (h : okM l = false ∨ okM m = false) : nx l m = false := by
  unfold nx
  rcases h with h | h <;> simp [h]
theorem mem_lsI {a : Nat} {x : Int} : x ∈ lsI a ↔ ∃ i : Nat, i < 16 ∧ a.testBit i = true ∧ x = (i : Int) := by
  unfold lsI
  simp only [List.mem_map, mem_lsB]
  exact ⟨fun ⟨i, ⟨h1, h2⟩, h3⟩ => ⟨i, h1, h2, h3.symm⟩, fun ⟨i, h1, h2, h3⟩ => ⟨i, ⟨h1, h2⟩, h3.symm⟩⟩
theorem lsI_ris (a : Nat) : (lsI a).Pairwise (· < ·) := by
  unfold lsI
  rw [List.pairwise_map]
  exact (lsB_ris a).imp fun h => by omega
theorem lsI_len (a : Nat) : (lsI a).length = cnt a := by unfold lsI cnt; rw [List.length_map]
theorem lsI_16 (a : Nat) : (lsI a).length ≤ 16 := by rw [lsI_len]; exact lsB_len a
theorem okM_lsI (a : Nat) (ha : a < 65536) : okM (lsI a) = decide (a ≠ 0) := by
  by_cases h : a = 0
  · subst h
    rw [decide_eq_false (by simp)]
    decide
  · rw [decide_eq_true h, okM_iff]
    refine ⟨fun e => h ((lsB_nil ha).1 (List.map_eq_nil_iff.1 e)), fun m hm => ?_, lsI_ris a⟩
    obtain ⟨i, h1, _, rfl⟩ := mem_lsI.1 hm
    omega
theorem lack_lsI (a b : Nat) : lack (lsI a) (lsI b) = ((lsB a).filter fun i => !b.testBit i).length := by
  unfold lack
  rw [show lsI a = (lsB a).map fun (j : Nat) => (j : Int) from rfl, List.filter_map, List.length_map]
  congr 1
  refine List.filter_congr fun i hi => ?_
  have hi16 := lsB_lt hi
  show decide (((i : Nat) : Int) ∉ lsI b) = _
  by_cases hb : b.testBit i = true
  · rw [hb, decide_eq_false]
    · rfl
    · exact fun h => h (mem_lsI.2 ⟨i, hi16, hb, rfl⟩)
  · rw [Bool.not_eq_true] at hb
    rw [hb, decide_eq_true]
    · rfl
    · intro h
      obtain ⟨j, _, h2, h3⟩ := mem_lsI.1 h
      obtain rfl : i = j := by omega
      rw [h2] at hb
      cases hb
theorem nx_lsI (a b : Nat) (ha : a < 65536) (hb : b < 65536) : nx (lsI a) (lsI b) = (decide (a ≠ 0) && (decide (b ≠ 0) && decide (cnt (a ^^^ b) = 1))) := by
  unfold nx
  rw [okM_lsI a ha, okM_lsI b hb, lack_lsI, lack_lsI, cnt_xor]
/-- What Next is asked to do. -/
def NextC : Prop := ∀ (l m : List Int) (a b : Option Addr) (ca cb : Nat) (w : World), IA w a l → IA w b m → l.length ≤ 20 → m.length ≤ 20 → Calls Try.prog 14 #[.slice a l.length ca, .slice b m.length cb] w fun e w' => e = .returned (.bool (nx l m)) ∧ Below w.heap.size w w'
theorem ia_new {w : World} {g : Nat} {l : List Int} (h : Blk w g (l.map fun x => Value.int .i64 x).toArray 3) : IA w (some ⟨g, 0, none⟩) l := fun i x hx => by
  refine ⟨g, 0, rfl, ?_⟩
  rw [Nat.zero_add]
  have := h.out
  simp [World.cell?, this, hx]
theorem two_new (w : World) (l m : List Int) :
    IA ((w.alloc (.cells (l.map fun x => Value.int .i64 x).toArray 3)).alloc (.cells (m.map fun x => Value.int .i64 x).toArray 3)) (some ⟨w.heap.size, 0, none⟩) l ∧
    IA ((w.alloc (.cells (l.map fun x => Value.int .i64 x).toArray 3)).alloc (.cells (m.map fun x => Value.int .i64 x).toArray 3)) (some ⟨w.heap.size + 1, 0, none⟩) m ∧
    Below w.heap.size w ((w.alloc (.cells (l.map fun x => Value.int .i64 x).toArray 3)).alloc (.cells (m.map fun x => Value.int .i64 x).toArray 3)) := by
  have b1 : Below w.heap.size w (w.alloc (.cells (l.map fun x => Value.int .i64 x).toArray 3)) := (Below.refl _ _).alloc (Nat.le_refl _) _
  have h1 := ia_new (Blk.new w (l.map fun x => Value.int .i64 x).toArray 3)
  have e1 : (w.alloc (.cells (l.map fun x => Value.int .i64 x).toArray 3)).heap.size = w.heap.size + 1 := by simp
  generalize w.alloc (.cells (l.map fun x => Value.int .i64 x).toArray 3) = w1 at *
  have b2 : Below w1.heap.size w1 (w1.alloc (.cells (m.map fun x => Value.int .i64 x).toArray 3)) := (Below.refl _ _).alloc (Nat.le_refl _) _
  have h2 := ia_new (Blk.new w1 (m.map fun x => Value.int .i64 x).toArray 3)
  refine ⟨h1.below b2, ?_, b1.trans (b2.mono b1.size)⟩
  rw [e1] at h2
  exact h2
set_option maxRecDepth 100000 in
set_option maxHeartbeats 800000 in
theorem awakeC_any (HN : NextC) (w : World) : Calls Try.prog 8 #[] w fun e w' => e = .returned (.bool true) ∧ Below w.heap.size w w' := by
  have n1 : nx [0, 1] [0, 1, 2] = true := by decide
  have n2 : nx [0, 1] [0, 2] = false := by decide
  have H1 := fun w : World => HN [0, 1] [0, 1, 2] _ _ 2 3 _ (two_new w [0, 1] [0, 1, 2]).1 (two_new w [0, 1] [0, 1, 2]).2.1 (by decide) (by decide)
  have H2 := fun w : World => HN [0, 1] [0, 2] _ _ 2 2 _ (two_new w [0, 1] [0, 2]).1 (two_new w [0, 1] [0, 2]).2.1 (by decide) (by decide)
  rw [n1] at H1
  rw [n2] at H2
  clear n1 n2 HN
  go_enter Try.func8, Try.ntmps8
  go_wp2_with (first
    | (go_at_call 14; refine (H1 _).mono ?_; rintro e w1 ⟨rfl, h1⟩; clear H1)
    | (go_at_call 14; refine (H2 _).mono ?_; rintro e w2 ⟨rfl, h2⟩; clear H2))
  go_ret
  have b1 := (two_new w [0, 1] [0, 1, 2]).2.2
  have b1' := b1.trans (h1.mono b1.size)
  have b2 := (two_new w1 [0, 1] [0, 2]).2.2
  exact ⟨rfl, (b1'.trans (b2.mono b1'.size)).trans (h2.mono (b1'.trans (b2.mono b1'.size)).size)⟩
end Go.Proofs.Ytcaoibdimeajfaa
