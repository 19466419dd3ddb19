/- What few, change and awake of the statements do, and the plain Name. -/
import Derived.Test.YtgkkpmliociieaaCln
namespace Go.Proofs.Ytgkkpmliociieaa
open Go Go.RowKit
section
attribute [local go_sem] extract_take
set_option maxRecDepth 100000 in
theorem few_any (s : B) (w : World) : Calls Try.prog 32 #[.string ⟨s.toArray⟩] w fun e w' => e = .returned (.string ⟨(s.take 50).toArray⟩) ∧ w' = w := by
  by_cases h : 50 < s.length
  · have h1 : (50 : Int) < (s.length : Int) := by omega
    have h2 : (50 : Int) ≤ (s.length : Int) := by omega
    have h3 : 50 ≤ s.length := by omega
    go_enter Try.func32, Try.ntmps32
    go_wp2_with fail
    go_ret
    exact ⟨rfl, rfl⟩
  · have h1 : ¬ (50 : Int) < (s.length : Int) := by omega
    rw [List.take_of_length_le (by omega)]
    go_enter Try.func32, Try.ntmps32
    go_wp2_with fail
    go_ret
    exact ⟨rfl, rfl⟩
end
/-- Something that is done. -/
structure AC where
  kind : Int
  name : B
  to : B
  s : B
  n : Int
  at_ : Int
  keep : Int
  torn : Int
def aC (a : AC) : Array Value := #[.int .i64 a.kind, .string ⟨a.name.toArray⟩, .string ⟨a.to.toArray⟩, .string ⟨a.s.toArray⟩, .int .i64 a.n, .int .i64 a.at_, .int .i64 a.keep, .int .i64 a.torn]
theorem aC_size (a : AC) : (aC a).size = 8 := rfl
theorem aC_one (a : AC) : (aC a).all (·.oneCell') = true := by simp [aC, Value.oneCell']
theorem aC_g0 (a : AC) : (aC a)[0]? = some (.int .i64 a.kind) := rfl
theorem aC_g1 (a : AC) : (aC a)[1]? = some (.string ⟨a.name.toArray⟩) := rfl
theorem aC_g2 (a : AC) : (aC a)[2]? = some (.string ⟨a.to.toArray⟩) := rfl
theorem aC_g3 (a : AC) : (aC a)[3]? = some (.string ⟨a.s.toArray⟩) := rfl
theorem aC_g4 (a : AC) : (aC a)[4]? = some (.int .i64 a.n) := rfl
theorem iAct (a : AC) : (Try.prog.info? 36).map (·.size) = some (aC a).size := by kernel_rfl
/-- What a function that changes a disk is to leave. -/
def ChQ (w : World) (a : AC) (R : Value → World → Prop) (e : Ending) (w' : World) : Prop := ∃ v, e = .returned v ∧ R v w' ∧ Blk w' w.heap.size (aC a) 36
/-- What change of the statements calls. -/
def CalQ (f : FuncId) (xs : Array Value) (w : World) (a : AC) (R : Value → World → Prop) : Prop := ∀ w1, Below w.heap.size w w1 → Blk w1 w.heap.size (aC a) 36 → Calls Try.prog f xs w1 (ChQ w a R)
set_option maxRecDepth 100000 in
set_option maxHeartbeats 1000000 in
theorem change_gen (pv : Value) (hpv : ∃ q, pv = .pointer q) (a : AC) (R : Value → World → Prop) (w : World)
    (HW : a.kind = 1 → CalQ 22 #[pv, .string ⟨a.name.toArray⟩, .string ⟨(a.s.take 50).toArray⟩] w a R)
    (HM : a.kind = 2 → CalQ 48 #[pv, .string ⟨a.name.toArray⟩, .string ⟨a.to.toArray⟩] w a R)
    (HR : a.kind = 3 → CalQ 49 #[pv, .string ⟨a.name.toArray⟩] w a R)
    (HT : a.kind = 4 → CalQ 50 #[pv, .string ⟨a.name.toArray⟩, .int .i64 a.n] w a R)
    (HA : ¬ a.kind = 1 → ¬ a.kind = 2 → ¬ a.kind = 3 → ¬ a.kind = 4 → CalQ 35 #[pv, .string ⟨a.name.toArray⟩, .string ⟨(a.s.take 50).toArray⟩] w a R) :
    Calls Try.prog 27 #[pv, .agg (aC a)] w fun e w' => ∃ v, e = .returned v ∧ R v w' := by
  obtain ⟨q, rfl⟩ := hpv
  have HF := fun w' => few_any a.s w'
  generalize a.s.take 50 = fs at *
  by_cases k1 : a.kind = 1
  · have HC := HW k1
    clear HW HM HR HT HA
    have g0 := aC_g0 a
    rw [k1] at g0
    go_enter Try.func27, Try.ntmps27
    go_wp2_with (with_reducible refine at_list ?_; first
      | (refine wpList_boxRow (op := ⟨some 3, _, _, _, _, _⟩) rfl _ _ rfl _ rfl ?_; intro w1 hw1 hs1 h3; clear hs1)
      | (refine wpList_loadCell (op := ⟨some 6, _, _, _, _, _⟩) rfl _ _ rfl w.heap.size 0 rfl _ _ h3 _ Try.underlying3 rfl _ g0 ?_))
    have hH0 : Blk w1.drew w.heap.size (aC a) 36 := h3.drew
    refine wp_region_held_drew (S := fun w' : World => Blk w' w.heap.size (aC a) 36) (by kernel_rfl) hH0 (fun hH => ?_)
    try go_frame
    refine wpAnyH_take (i := 0) (oi := ⟨some 9, _, _, _, _, _⟩) (v := .pointer q) rfl (by kernel_rfl) (by kernel_rfl) (by kernel_rfl) (fun _ _ _ h => h) (Or.inl ⟨by rfl, fun w hSw => by go_simp⟩) hH ?_
    try simp only [Act.put, List.setIfInBounds_toArray, List.set_cons_zero, List.set_cons_succ]
    refine wpAnyH_take (i := 1) (oi := ⟨some 10, _, _, _, _, _⟩) (v := .pointer (some ⟨w.heap.size, 1, none⟩)) rfl (by kernel_rfl) (by kernel_rfl) (by kernel_rfl) (fun _ _ _ h => h) (Or.inl ⟨by rfl, fun w hSw => by go_simp⟩) hH ?_
    try simp only [Act.put, List.setIfInBounds_toArray, List.set_cons_zero, List.set_cons_succ]
    refine wpAnyH_take (i := 2) (oi := ⟨some 11, _, _, _, _, _⟩) (v := .string ⟨a.name.toArray⟩) rfl (by kernel_rfl) (by kernel_rfl) (by kernel_rfl) (fun _ _ _ h => h) (Or.inl ⟨by rfl, fun w hSw => run_loadCellB _ _ rfl _ 1 rfl _ _ hSw _ Try.underlying9 rfl _ (aC_g1 a)⟩) hH ?_
    try simp only [Act.put, List.setIfInBounds_toArray, List.set_cons_zero, List.set_cons_succ]
    refine wpAnyH_take (i := 3) (oi := ⟨some 12, _, _, _, _, _⟩) (v := .pointer (some ⟨w.heap.size, 3, none⟩)) rfl (by kernel_rfl) (by kernel_rfl) (by kernel_rfl) (fun _ _ _ h => h) (Or.inl ⟨by rfl, fun w hSw => by go_simp⟩) hH ?_
    try simp only [Act.put, List.setIfInBounds_toArray, List.set_cons_zero, List.set_cons_succ]
    refine wpAnyH_take (i := 4) (oi := ⟨some 13, _, _, _, _, _⟩) (v := .string ⟨a.s.toArray⟩) rfl (by kernel_rfl) (by kernel_rfl) (by kernel_rfl) (fun _ _ _ h => h) (Or.inl ⟨by rfl, fun w hSw => run_loadCellB _ _ rfl _ 3 rfl _ _ hSw _ Try.underlying9 rfl _ (aC_g3 a)⟩) hH ?_
    try simp only [Act.put, List.setIfInBounds_toArray, List.set_cons_zero, List.set_cons_succ]
    refine wpAnyH_solo (i := 5) (o := ⟨some 14, _, _, _, _, _⟩) rfl (by kernel_rfl) (fun K hK => ?_)
    refine wpList_callR Try.func32 (by kernel_rfl) (by kernel_rfl) rfl _ _ rfl #[.string ⟨a.s.toArray⟩] (args1 rfl) _ (HF _) ?_
    rintro e w2 ⟨rfl, hw2⟩
    have hw2 := hw2.symm
    subst hw2
    refine ⟨_, rfl, ?_⟩
    refine hK _ _ hH ?_
    clear hK K
    try simp only [Act.put, List.setIfInBounds_toArray, List.set_cons_zero, List.set_cons_succ]
    refine wpAnyH_solo (i := 6) (o := ⟨some 15, _, _, _, _, _⟩) rfl (by kernel_rfl) (fun K hK => ?_)
    have hcc := HC _ hw1.drew hH
    unfold ChQ at hcc
    refine wpList_callR Try.func22 (by kernel_rfl) (by kernel_rfl) rfl _ _ rfl #[.pointer q, .string ⟨a.name.toArray⟩, .string ⟨fs.toArray⟩] (args3 rfl rfl rfl) _ hcc ?_
    rintro e w3 ⟨v, rfl, hR, hB3⟩
    refine ⟨_, rfl, ?_⟩
    refine hK _ _ hB3 ?_
    clear hK K
    try simp only [Act.put, List.setIfInBounds_toArray, List.set_cons_zero, List.set_cons_succ]
    refine wpAnyH_solo (i := 7) (o := ⟨some 4, _, _, _, _, _⟩) rfl (by kernel_rfl) (fun K hK => ?_)
    refine wpList_pure rfl v (run_assignV _ rfl _ rfl) ?_
    refine hK _ _ hB3 ?_
    clear hK K
    try simp only [Act.put, List.setIfInBounds_toArray, List.set_cons_zero, List.set_cons_succ]
    refine wpAnyH_done (by kernel_rfl) ?_ _
    go_simp
    go_wp2_with fail
    go_ret
    exact ⟨_, rfl, hR⟩
  · by_cases k2 : a.kind = 2
    · have HC := HM k2
      clear HW HM HR HT HA k1
      have g0 := aC_g0 a
      rw [k2] at g0
      go_enter Try.func27, Try.ntmps27
      go_wp2_with (first
        | (go_at_call 48; refine (HC _ hw1 h3).mono ?_; rintro e w3 ⟨v, rfl, hR, hB3⟩)
        | (with_reducible refine at_list ?_; first
          | (refine wpList_boxRow (op := ⟨some 3, _, _, _, _, _⟩) rfl _ _ rfl _ rfl ?_; intro w1 hw1 hs1 h3; clear hs1)
          | (refine wpList_loadCell (op := ⟨some 6, _, _, _, _, _⟩) rfl _ _ rfl w.heap.size 0 rfl _ _ h3 _ Try.underlying3 rfl _ g0 ?_)
          | (refine wpList_loadCell (op := ⟨some 20, _, _, _, _, _⟩) rfl _ _ rfl w.heap.size 1 rfl _ _ h3 _ Try.underlying9 rfl _ (aC_g1 a) ?_)
          | (refine wpList_loadCell (op := ⟨some 22, _, _, _, _, _⟩) rfl _ _ rfl w.heap.size 2 rfl _ _ h3 _ Try.underlying9 rfl _ (aC_g2 a) ?_)))
      go_ret
      exact ⟨_, rfl, hR⟩
    · by_cases k3 : a.kind = 3
      · have HC := HR k3
        clear HW HM HR HT HA k1 k2
        have g0 := aC_g0 a
        rw [k3] at g0
        go_enter Try.func27, Try.ntmps27
        go_wp2_with (first
          | (go_at_call 49; refine (HC _ hw1 h3).mono ?_; rintro e w3 ⟨v, rfl, hR, hB3⟩)
          | (with_reducible refine at_list ?_; first
            | (refine wpList_boxRow (op := ⟨some 3, _, _, _, _, _⟩) rfl _ _ rfl _ rfl ?_; intro w1 hw1 hs1 h3; clear hs1)
            | (refine wpList_loadCell (op := ⟨some 6, _, _, _, _, _⟩) rfl _ _ rfl w.heap.size 0 rfl _ _ h3 _ Try.underlying3 rfl _ g0 ?_)
            | (refine wpList_loadCell (op := ⟨some 28, _, _, _, _, _⟩) rfl _ _ rfl w.heap.size 1 rfl _ _ h3 _ Try.underlying9 rfl _ (aC_g1 a) ?_)))
        go_ret
        exact ⟨_, rfl, hR⟩
      · by_cases k4 : a.kind = 4
        · have HC := HT k4
          clear HW HM HR HT HA k1 k2 k3
          have g0 := aC_g0 a
          rw [k4] at g0
          go_enter Try.func27, Try.ntmps27
          go_wp2_with (first
            | (go_at_call 50; refine (HC _ hw1 h3).mono ?_; rintro e w3 ⟨v, rfl, hR, hB3⟩)
            | (with_reducible refine at_list ?_; first
              | (refine wpList_boxRow (op := ⟨some 3, _, _, _, _, _⟩) rfl _ _ rfl _ rfl ?_; intro w1 hw1 hs1 h3; clear hs1)
              | (refine wpList_loadCell (op := ⟨some 6, _, _, _, _, _⟩) rfl _ _ rfl w.heap.size 0 rfl _ _ h3 _ Try.underlying3 rfl _ g0 ?_)
              | (refine wpList_loadCell (op := ⟨some 34, _, _, _, _, _⟩) rfl _ _ rfl w.heap.size 1 rfl _ _ h3 _ Try.underlying9 rfl _ (aC_g1 a) ?_)
              | (refine wpList_loadCell (op := ⟨some 36, _, _, _, _, _⟩) rfl _ _ rfl w.heap.size 4 rfl _ _ h3 _ Try.underlying3 rfl _ (aC_g4 a) ?_)))
          go_ret
          exact ⟨_, rfl, hR⟩
        · have HC := HA k1 k2 k3 k4
          clear HW HM HR HT HA
          have g0 := aC_g0 a
          have b1 : (a.kind == 1) = false := beq_eq_false_iff_ne.2 k1
          have b2 : (a.kind == 2) = false := beq_eq_false_iff_ne.2 k2
          have b3 : (a.kind == 3) = false := beq_eq_false_iff_ne.2 k3
          have b4 : (a.kind == 4) = false := beq_eq_false_iff_ne.2 k4
          go_enter Try.func27, Try.ntmps27
          go_wp2_with (with_reducible refine at_list ?_; first
            | (refine wpList_boxRow (op := ⟨some 3, _, _, _, _, _⟩) rfl _ _ rfl _ rfl ?_; intro w1 hw1 hs1 h3; clear hs1)
            | (refine wpList_loadCell (op := ⟨some 6, _, _, _, _, _⟩) rfl _ _ rfl w.heap.size 0 rfl _ _ h3 _ Try.underlying3 rfl _ g0 ?_))
          have hH0 : Blk w1.drew w.heap.size (aC a) 36 := h3.drew
          refine wp_region_held_drew (S := fun w' : World => Blk w' w.heap.size (aC a) 36) (by kernel_rfl) hH0 (fun hH => ?_)
          try go_frame
          refine wpAnyH_take (i := 0) (oi := ⟨some 38, _, _, _, _, _⟩) (v := .pointer q) rfl (by kernel_rfl) (by kernel_rfl) (by kernel_rfl) (fun _ _ _ h => h) (Or.inl ⟨by rfl, fun w hSw => by go_simp⟩) hH ?_
          try simp only [Act.put, List.setIfInBounds_toArray, List.set_cons_zero, List.set_cons_succ]
          refine wpAnyH_take (i := 1) (oi := ⟨some 39, _, _, _, _, _⟩) (v := .pointer (some ⟨w.heap.size, 1, none⟩)) rfl (by kernel_rfl) (by kernel_rfl) (by kernel_rfl) (fun _ _ _ h => h) (Or.inl ⟨by rfl, fun w hSw => by go_simp⟩) hH ?_
          try simp only [Act.put, List.setIfInBounds_toArray, List.set_cons_zero, List.set_cons_succ]
          refine wpAnyH_take (i := 2) (oi := ⟨some 40, _, _, _, _, _⟩) (v := .string ⟨a.name.toArray⟩) rfl (by kernel_rfl) (by kernel_rfl) (by kernel_rfl) (fun _ _ _ h => h) (Or.inl ⟨by rfl, fun w hSw => run_loadCellB _ _ rfl _ 1 rfl _ _ hSw _ Try.underlying9 rfl _ (aC_g1 a)⟩) hH ?_
          try simp only [Act.put, List.setIfInBounds_toArray, List.set_cons_zero, List.set_cons_succ]
          refine wpAnyH_take (i := 3) (oi := ⟨some 41, _, _, _, _, _⟩) (v := .pointer (some ⟨w.heap.size, 3, none⟩)) rfl (by kernel_rfl) (by kernel_rfl) (by kernel_rfl) (fun _ _ _ h => h) (Or.inl ⟨by rfl, fun w hSw => by go_simp⟩) hH ?_
          try simp only [Act.put, List.setIfInBounds_toArray, List.set_cons_zero, List.set_cons_succ]
          refine wpAnyH_take (i := 4) (oi := ⟨some 42, _, _, _, _, _⟩) (v := .string ⟨a.s.toArray⟩) rfl (by kernel_rfl) (by kernel_rfl) (by kernel_rfl) (fun _ _ _ h => h) (Or.inl ⟨by rfl, fun w hSw => run_loadCellB _ _ rfl _ 3 rfl _ _ hSw _ Try.underlying9 rfl _ (aC_g3 a)⟩) hH ?_
          try simp only [Act.put, List.setIfInBounds_toArray, List.set_cons_zero, List.set_cons_succ]
          refine wpAnyH_solo (i := 5) (o := ⟨some 43, _, _, _, _, _⟩) rfl (by kernel_rfl) (fun K hK => ?_)
          refine wpList_callR Try.func32 (by kernel_rfl) (by kernel_rfl) rfl _ _ rfl #[.string ⟨a.s.toArray⟩] (args1 rfl) _ (HF _) ?_
          rintro e w2 ⟨rfl, hw2⟩
          have hw2 := hw2.symm
          subst hw2
          refine ⟨_, rfl, ?_⟩
          refine hK _ _ hH ?_
          clear hK K
          try simp only [Act.put, List.setIfInBounds_toArray, List.set_cons_zero, List.set_cons_succ]
          refine wpAnyH_solo (i := 6) (o := ⟨some 44, _, _, _, _, _⟩) rfl (by kernel_rfl) (fun K hK => ?_)
          have hcc := HC _ hw1.drew hH
          unfold ChQ at hcc
          refine wpList_callR Try.func35 (by kernel_rfl) (by kernel_rfl) rfl _ _ rfl #[.pointer q, .string ⟨a.name.toArray⟩, .string ⟨fs.toArray⟩] (args3 rfl rfl rfl) _ hcc ?_
          rintro e w3 ⟨v, rfl, hR, hB3⟩
          refine ⟨_, rfl, ?_⟩
          refine hK _ _ hB3 ?_
          clear hK K
          try simp only [Act.put, List.setIfInBounds_toArray, List.set_cons_zero, List.set_cons_succ]
          refine wpAnyH_solo (i := 7) (o := ⟨some 4, _, _, _, _, _⟩) rfl (by kernel_rfl) (fun K hK => ?_)
          refine wpList_pure rfl v (run_assignV _ rfl _ rfl) ?_
          refine hK _ _ hB3 ?_
          clear hK K
          try simp only [Act.put, List.setIfInBounds_toArray, List.set_cons_zero, List.set_cons_succ]
          refine wpAnyH_done (by kernel_rfl) ?_ _
          go_simp
          go_wp2_with fail
          go_ret
          exact ⟨_, rfl, hR⟩
end Go.Proofs.Ytgkkpmliociieaa
