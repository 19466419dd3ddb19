/- What gone, loose, Used, Loose and Names of a disk do. -/
import Derived.Test.YtgkkpmliociieaaRdg
namespace Go.Proofs.Ytgkkpmliociieaa
open Go Go.RowKit
set_option maxRecDepth 100000 in
theorem gone_any (f : F) (w : World) : Calls Try.prog 58 #[.agg (fC f)] w fun e w' => e = .returned (.bool (gone f)) ∧ Below w.heap.size w w' := by
  unfold gone
  cases hi : f.is.isSome <;> cases hs : f.sure.isSome <;>
  · have g1 := fC_g1 f
    have g3 := fC_g3 f
    rw [hi] at g1
    rw [hs] at g3
    clear hi hs
    go_enter Try.func58, Try.ntmps58
    go_wp2_with (with_reducible refine at_list ?_; first
        | (refine wpList_boxRow (op := ⟨some 1, _, _, _, _, _⟩) rfl _ _ rfl _ rfl ?_; intro w1 hw1 hs1 hb1; clear hs1; have c3 := (hb1.cell 3).trans g3)
        | (refine wpList_loadCell (op := ⟨some 5, _, _, _, _, _⟩) rfl _ _ rfl w.heap.size 1 rfl _ _ hb1 _ Try.underlying4 rfl _ g1 ?_))
    go_ret
    exact ⟨rfl, hw1⟩
/-- Is a file otherwise than it is sure to be? -/
def isLoose (f : F) : Bool := !decide (f.is = f.sure)
theorem cC_inj {c d : Option B} : cC c = cC d ↔ c = d := by
  constructor
  · intro h
    have h0 := congrArg (·[0]?) h
    have h1 := congrArg (·[1]?) h
    simp only [cC_g0, cC_g1, Option.some.injEq, Value.bool.injEq, Value.string.injEq, ByteArray.mk.injEq] at h0 h1
    cases c <;> cases d <;> simp_all [byt]
  · rintro rfl; rfl
theorem eqStr (a b : B) (w : World) : (Op.equalIn 9999 9 (.string ⟨a.toArray⟩) (.string ⟨b.toArray⟩)).run Try.prog w = .ok (decide (a = b)) w := by
  go_simp
  rw [Bool.eq_iff_iff]; simp
theorem eqBool (a b : Bool) (w : World) : (Op.equalIn 9999 4 (.bool a) (.bool b)).run Try.prog w = .ok (decide (a = b)) w := by
  go_simp
  rw [Bool.eq_iff_iff]; simp
theorem run_neqC {op : Oper} {a : Act} (x y : Operand) (ho : op.op = .binOp .neq 75 x y 75) (c d : Option B) (hx : a.eval x = .agg (cC c)) (hy : a.eval y = .agg (cC d)) (w : World) :
    (execOp a.eval op).run Try.prog w = .ok (.value (.bool (!decide (c = d)))) w := by
  unfold execOp
  simp only [ho, hx, hy]
  go_simp
  simp only [cC_g0, cC_g1, Sem.run_pure, Result.andThen_ok, eqBool, eqStr]
  cases c with
  | none => cases d with
    | none => simp [byt]
    | some t => simp
  | some s => cases d with
    | none => simp
    | some t => by_cases h : s = t <;> simp [byt, h]
set_option maxRecDepth 100000 in
theorem loose_any (f : F) (w : World) : Calls Try.prog 51 #[.agg (fC f)] w fun e w' => e = .returned (.bool (isLoose f)) ∧ Below w.heap.size w w' := by
  go_enter Try.func51, Try.ntmps51
  go_wp2_with (with_reducible refine at_list ?_; first
    | (refine wpList_boxRow (op := ⟨some 1, _, _, _, _, _⟩) rfl _ _ rfl _ rfl ?_; intro w1 hw1 hs1 hb1; clear hs1; have hra := hb1.rangeAll; have h1 := fL_is hra; have h2 := fL_sure hra)
    | (refine wpList_loadAt (op := ⟨some 4, _, _, _, _, _⟩) rfl _ _ rfl w.heap.size 1 rfl (cC f.is) h1 _ Try.underlying75 rfl (iCon _) ?_)
    | (refine wpList_loadAt (op := ⟨some 6, _, _, _, _, _⟩) rfl _ _ rfl w.heap.size 3 rfl (cC f.sure) h2 _ Try.underlying75 rfl (iCon _) ?_)
    | (refine wpList_run (op := ⟨some 7, _, _, _, _, _⟩) rfl _ _ (run_neqC _ _ rfl f.is f.sure rfl rfl _) ?_))
  go_ret
  exact ⟨rfl, hw1⟩
/-- The error of a room that is too small comes of the bytes of all files. -/
theorem used_take (l : List F) (i : Nat) (f : F) (h : l[i]? = some f) : usedL (l.take (i + 1)) = usedL (l.take i) + (byt f.is).length := by
  obtain ⟨hi, rfl⟩ := List.getElem?_eq_some_iff.1 h
  unfold usedL
  rw [List.take_succ_eq_append_getElem hi, List.map_append, List.sum_append]
  simp
theorem used_le (l : List F) (i : Nat) : usedL (l.take i) ≤ usedL l := by
  unfold usedL
  conv => rhs; rw [← List.take_append_drop i l]
  rw [List.map_append, List.sum_append]
  omega
set_option maxRecDepth 100000 in
set_option maxHeartbeats 1000000 in
theorem used_any (p : Nat) (b : Option Nat) (m : DM) (w : World) (h : DK w p b m) (hl : m.l.length ≤ 1000000) (hu : usedL m.l ≤ 1000000000000) :
    Calls Try.prog 18 #[.pointer (some ⟨p, 0, none⟩)] w fun e w' => e = .returned (.int .i64 (usedL m.l : Nat)) ∧ Below w.heap.size w w' := by
  obtain ⟨sl, hD, hF, _⟩ := h.out
  obtain ⟨a, cap, rfl, _⟩ := hF.sl
  obtain ⟨U, hU⟩ : ∃ U, Hid (U = usedL m.l) := ⟨_, rfl⟩
  rw [← hU.out] at hu ⊢
  go_enter Try.func18, Try.ntmps18
  go_wp2_with (with_reducible refine at_list ?_; refine wpList_loadCell (op := ⟨some 11, _, _, _, _, _⟩) rfl _ _ rfl p 0 rfl _ _ hD _ Try.underlying71 rfl _ (dC_g0 _ _) ?_)
  go_loopw [3, 5, 13] (fun v3 _ v13 wl => ∃ i : Nat, i ≤ m.l.length ∧ v13 = .int .i64 i ∧ v3 = .int .i64 (usedL (m.l.take i) : Nat) ∧ Below w.heap.size w wl) (fun _ _ v13 _ => m.l.length - (intOf v13).toNat)
  case atStart => exact ⟨0, by omega, rfl, rfl, Below.refl _ _⟩
  case round =>
    obtain ⟨i, hil, rfl, rfl, hB⟩ := hrel
    have hsz := hB.size
    by_cases hlt : i < m.l.length
    · have hz2 : (i : Int) < (m.l.length : Int) := by omega
      obtain ⟨f, hf⟩ : ∃ f, m.l[i]? = some f := ⟨_, List.getElem?_eq_getElem hlt⟩
      obtain ⟨g, rfl, hS, hg⟩ := hF.at i f hf
      have hg2 := rangeAt_below hg hB hS.lt
      have e1 := used_take m.l i f hf
      have e2 := used_le m.l (i + 1)
      rw [← hU.out] at e2
      have e3 : Hid (usedL (m.l.take (i + 1)) = usedL (m.l.take i) + (byt f.is).length) := e1
      rw [e1] at e2
      clear e1 hf hg
      generalize usedL (m.l.take i) = u at *
      have hw1 : IntKind.i64.wrap ((u : Int) + ((byt f.is).length : Int)) = (u : Int) + ((byt f.is).length : Int) := by rw [IntKind.wrap_i64]; omega
      go_wp2_with (with_reducible refine at_list ?_; first
        | (refine wpList_loadAt (op := ⟨some 16, _, _, _, _, _⟩) rfl _ _ rfl g (i * 6) rfl (fC f) hg2 _ Try.underlying80 rfl (iFile f) ?_)
        | (refine wpList_allocRow (op := ⟨some 5, _, _, _, _, _⟩) rfl _ rfl _ zFile.1 ?_; intro w2 hw2 hs2 h5; clear hs2; have hB2 := hB.trans (hw2.mono hB.size))
        | (refine wpList_storeRow (op := ⟨none, .store 80 (.tmp 5) (.tmp 16), _, _, _, _⟩) rfl _ _ _ rfl wr.heap.size (fC f) rfl rfl _ _ h5 rfl (iFile _) (fC_one _) ?_; intro w3 hg3 hs3 h5b; clear hs3)
        | (refine wpList_loadCell (op := ⟨some 20, _, _, _, _, _⟩) rfl _ _ rfl wr.heap.size 2 rfl _ _ h5b _ Try.underlying9 rfl _ (fC_g2 _) ?_))
      go_roundw
      case rel => exact ⟨i + 1, by omega, by go_num, by rw [e3.out]; simp, hB2.trans (below_of_grown hg3 (by omega) hB2.size)⟩
      case measure => simp [intOf]; omega
    · have hz2 : ¬ (i : Int) < (m.l.length : Int) := by omega
      have e1 : usedL (m.l.take i) = U := by rw [List.take_of_length_le (by omega), hU.out]
      rw [e1]
      go_wp2_with fail
      go_ret
      exact ⟨rfl, hB⟩
set_option maxRecDepth 100000 in
theorem used_nil (w : World) : Calls Try.prog 18 #[.pointer none] w fun e w' => e = .returned (.int .i64 0) ∧ w' = w := by
  go_enter Try.func18, Try.ntmps18
  go_wp2_with fail
  go_ret
  exact ⟨rfl, rfl⟩
/-- How many files are loose. -/
def nLoose (l : List F) : Nat := (l.filter isLoose).length
theorem nLoose_take (l : List F) (i : Nat) (f : F) (h : l[i]? = some f) : nLoose (l.take (i + 1)) = nLoose (l.take i) + (if isLoose f = true then 1 else 0) := by
  obtain ⟨hi, rfl⟩ := List.getElem?_eq_some_iff.1 h
  unfold nLoose
  rw [List.take_succ_eq_append_getElem hi, List.filter_append, List.length_append]
  congr 1
  cases hq : isLoose l[i] <;> simp [hq]
theorem nLoose_le (l : List F) : nLoose l ≤ l.length := List.length_filter_le ..
set_option maxRecDepth 100000 in
set_option maxHeartbeats 1000000 in
theorem nloose_any (p : Nat) (b : Option Nat) (m : DM) (w : World) (h : DK w p b m) (hl : m.l.length ≤ 1000000) :
    Calls Try.prog 30 #[.pointer (some ⟨p, 0, none⟩)] w fun e w' => e = .returned (.int .i64 (nLoose m.l : Nat)) ∧ Below w.heap.size w w' := by
  obtain ⟨sl, hD, hF, _⟩ := h.out
  obtain ⟨a, cap, rfl, _⟩ := hF.sl
  obtain ⟨U, hU⟩ : ∃ U, Hid (U = nLoose m.l) := ⟨_, rfl⟩
  rw [← hU.out]
  go_enter Try.func30, Try.ntmps30
  go_wp2_with (with_reducible refine at_list ?_; refine wpList_loadCell (op := ⟨some 11, _, _, _, _, _⟩) rfl _ _ rfl p 0 rfl _ _ hD _ Try.underlying71 rfl _ (dC_g0 _ _) ?_)
  go_loopw [3, 5, 13] (fun v3 _ v13 wl => ∃ i : Nat, i ≤ m.l.length ∧ v13 = .int .i64 i ∧ v3 = .int .i64 (nLoose (m.l.take i) : Nat) ∧ Below w.heap.size w wl) (fun _ _ v13 _ => m.l.length - (intOf v13).toNat)
  case atStart => exact ⟨0, by omega, rfl, rfl, Below.refl _ _⟩
  case round =>
    obtain ⟨i, hil, rfl, rfl, hB⟩ := hrel
    have hsz := hB.size
    by_cases hlt : i < m.l.length
    · have hz2 : (i : Int) < (m.l.length : Int) := by omega
      obtain ⟨f, hf⟩ : ∃ f, m.l[i]? = some f := ⟨_, List.getElem?_eq_getElem hlt⟩
      obtain ⟨g, rfl, hS, hg⟩ := hF.at i f hf
      have hg2 := rangeAt_below hg hB hS.lt
      have e3 : Hid _ := nLoose_take m.l i f hf
      have e4 : nLoose (m.l.take i) ≤ 1000000 := Nat.le_trans (nLoose_le _) (by rw [List.length_take]; omega)
      have HLo := fun w' => loose_any f w'
      clear hf hg
      generalize nLoose (m.l.take i) = u at *
      have hw1 : IntKind.i64.wrap ((u : Int) + 1) = (u : Int) + 1 := by rw [IntKind.wrap_i64]; omega
      cases hq : isLoose f <;>
      · rw [hq] at HLo e3
        go_wp2_with (first
          | (go_at_call 51; refine (HLo _).mono ?_; rintro e w4 ⟨rfl, hw4⟩)
          | (with_reducible refine at_list ?_; first
            | (refine wpList_loadAt (op := ⟨some 16, _, _, _, _, _⟩) rfl _ _ rfl g (i * 6) rfl (fC f) hg2 _ Try.underlying80 rfl (iFile f) ?_)
            | (refine wpList_allocRow (op := ⟨some 5, _, _, _, _, _⟩) rfl _ rfl _ zFile.1 ?_; intro w2 hw2 hs2 h5; clear hs2; have hB2 := hB.trans (hw2.mono hB.size))
            | (refine wpList_storeRow (op := ⟨none, .store 80 (.tmp 5) (.tmp 16), _, _, _, _⟩) rfl _ _ _ rfl wr.heap.size (fC f) rfl rfl _ _ h5 rfl (iFile _) (fC_one _) ?_; intro w3 hg3 hs3 h5b; clear hs3; have hB3 := hB2.trans (below_of_grown hg3 (by omega) hB2.size))
            | (refine wpList_loadRow (op := ⟨some 17, _, _, _, _, _⟩) rfl _ _ rfl wr.heap.size rfl _ _ h5b _ Try.underlying80 rfl (iFile _) ?_)))
        go_roundw
        case rel => exact ⟨i + 1, by omega, by go_num, by rw [e3.out]; simp, hB3.trans (hw4.mono hB3.size)⟩
        case measure => simp [intOf]; omega
    · have hz2 : ¬ (i : Int) < (m.l.length : Int) := by omega
      have e1 : nLoose (m.l.take i) = U := by rw [List.take_of_length_le (by omega), hU.out]
      rw [e1]
      go_wp2_with fail
      go_ret
      exact ⟨rfl, hB⟩
set_option maxRecDepth 100000 in
theorem nloose_nil (w : World) : Calls Try.prog 30 #[.pointer none] w fun e w' => e = .returned (.int .i64 0) ∧ w' = w := by
  go_enter Try.func30, Try.ntmps30
  go_wp2_with fail
  go_ret
  exact ⟨rfl, rfl⟩
end Go.Proofs.Ytgkkpmliociieaa
