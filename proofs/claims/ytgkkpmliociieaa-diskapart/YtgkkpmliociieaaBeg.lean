/- The pair of disks: its cells, and how it begins. -/
import Derived.Test.YtgkkpmliociieaaSmb
namespace Go.Proofs.Ytgkkpmliociieaa
open Go Go.RowKit
/-- The cells of a pair. -/
def pC (p : Nat) (m : RD) (x y : Value) : Array Value := #[.pointer (some ⟨p, 0, none⟩), x, y, .int .i64 m.room, .slice none 0 0, .int .i64 m.ch, .bool m.off]
theorem pC_size (p : Nat) (m : RD) (x y : Value) : (pC p m x y).size = 7 := rfl
theorem pC_one (p : Nat) (m : RD) (x y : Value) (hx : x.oneCell' = true) (hy : y.oneCell' = true) : (pC p m x y).all (·.oneCell') = true := Array.all_eq_true_iff_forall_mem.2 fun v hv => by
  simp only [pC, List.mem_toArray, List.mem_cons, List.not_mem_nil, or_false] at hv
  rcases hv with rfl | rfl | rfl | rfl | rfl | rfl | rfl <;> first | exact hx | exact hy | rfl
theorem pC_g0 (p : Nat) (m : RD) (x y : Value) : (pC p m x y)[0]? = some (.pointer (some ⟨p, 0, none⟩)) := rfl
theorem pC_disk {w : World} {b : Nat} {p : Nat} {m : RD} {x y : Value} {t : TypeId} (h : Blk w b (pC p m x y) t) : w.rangeAt b 1 (rdC m x y).toList := rangeAt_part (o := 0) h.rangeAll 1 6
def rd1 : RD := ⟨[], [], -1, 0, false⟩
def dm1 : DM := ⟨[], false, false, 0, 0⟩
theorem sam_begun : Sam dm1 rd1 := ⟨rfl, rfl, rfl, rfl, rfl, fun e => nomatch e⟩
theorem iPr (p : Nat) (m : RD) (x y : Value) : (Try.prog.info? 29).map (·.size) = some (pC p m x y).size := by kernel_rfl
theorem zPr : (∀ w, (zeroValue 29).run Try.prog w = .ok (.agg #[.pointer none, .slice none 0 0, .slice none 0 0, .int .i64 0, .slice none 0 0, .int .i64 0, .bool false]) w) ∧ (Try.prog.info? 29).map (·.size) = some 7 := zero_of_info (by kernel_rfl)
theorem built1D : Try.prog.built 27 [(2, .int .i64 (-1))] = some (rdC rd1 (.slice none 0 0) (.slice none 0 0)) := by kernel_rfl
theorem built2P (p : Nat) : Try.prog.built 29 [(0, .pointer (some ⟨p, 0, none⟩)), (1, .agg (rdC rd1 (.slice none 0 0) (.slice none 0 0)))] = some (pC p rd1 (.slice none 0 0) (.slice none 0 0)) := by kernel_rfl
set_option maxRecDepth 100000 in
set_option maxHeartbeats 1000000 in
theorem begun_any (w : World) : Calls Try.prog 7 #[] w fun e w' => ∃ p, e = .returned (.agg (pC p rd1 (.slice none 0 0) (.slice none 0 0))) ∧ Below w.heap.size w w' ∧ DK w' p none dm1 ∧ w.heap.size ≤ p := by
  have HN := fun w1 => new_any w1
  go_enter Try.func7, Try.ntmps7
  go_wp2_with (first
    | (go_at_call 21; refine (HN _).mono ?_; rintro e w2 ⟨rfl, hw2, hD2⟩; clear HN; have hB2 := hw1.trans (hw2.mono hw1.size); have l1 := h1.lt; replace h1 := h1.belowSize hw2)
    | (with_reducible refine at_list ?_; first
      | (refine wpList_allocRow (op := ⟨some 0, _, _, _, _, _⟩) rfl _ rfl _ zPr.1 ?_; intro w1 hw1 hs1 h1; clear hs1)
      | (refine wpList_run (op := ⟨some 2, _, _, _, _, _⟩) rfl _ _ (run_built1 _ _ _ rfl _ rfl _ built1D) ?_)
      | (refine wpList_run (op := ⟨some 3, _, _, _, _, _⟩) rfl _ _ (run_built2 _ _ _ _ _ rfl _ _ rfl rfl _ (built2P w1.heap.size)) ?_)
      | (refine wpList_storeRow (op := ⟨none, .store 29 (.tmp 0) (.tmp 3), _, _, _, _⟩) rfl _ _ _ rfl w.heap.size (pC w1.heap.size rd1 (.slice none 0 0) (.slice none 0 0)) rfl rfl _ _ h1 rfl (iPr _ _ _ _) (pC_one _ _ _ _ rfl rfl) ?_; intro w3 hg3 hs3 h3; clear hs3)))
  have hB3 := hB2.trans (below_of_grown hg3 (Nat.le_refl _) hB2.size)
  obtain ⟨sl, k1, k2, k3⟩ := hD2.out
  have hD3 : DK w3 w1.heap.size none dm1 := ⟨sl, k1.grown hg3 (fun e => by have := Option.some.inj e; omega), k2.grown hg3 (k2.ne h1 (by decide)), k3⟩
  refine bodyPost_ret (v := .agg (pC w1.heap.size rd1 (.slice none 0 0) (.slice none 0 0))) ?_ rfl ⟨_, rfl, hB3, hD3, hw1.size⟩
  exact results_cell_row rfl _ _ w.heap.size _ _ _ _ rfl h3.out Try.underlying29 rfl (iPr _ _ _ _)
end Go.Proofs.Ytgkkpmliociieaa
