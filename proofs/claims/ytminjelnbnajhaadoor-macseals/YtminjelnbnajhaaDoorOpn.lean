/- What Open does with a text of 32 bytes or more. -/
import Derived.Test.YtminjelnbnajhaaDoorMa
namespace Go.Proofs.YtminjelnbnajhaaDoor
open Go.RowKit
def openV (k x t : List UInt8) : Value := if hmac k x = t then .tuple #[.string ⟨x.toArray⟩, .int .i64 0] else .tuple #[.string ⟨#[]⟩, .int .i64 20]
attribute [local go_sem] ext_left ext_right
set_option maxRecDepth 100000 in
set_option maxHeartbeats 400000 in
theorem open_any (k x t : List UInt8) (w : World) (hG : Glob w) (hk : k.length ≤ 549755813888) (hs : x.length ≤ 274877906944) (ht : t.length = 32) :
    Calls Tryd.prog 19 #[.string ⟨k.toArray⟩, .string ⟨(x ++ t).toArray⟩] w fun e w' => e = .returned (openV k x t) ∧ Below w.heap.size w w' := by
  have hx1 := ext_left x t
  have hx2 := ext_right x t (x.length + 32) (by rw [ht])
  go_enter Tryd.func19, Tryd.ntmps19
  go_wp2_with fail
  refine wp_region_any (by kernel_rfl) ?_
  change wpAny _ _ _ _ _ _ _ (World.drew _)
  refine wpAny_take (i := 0) (oi := ⟨some 12, _, _, _, _, _⟩) (v := .string ⟨k.toArray⟩) rfl (by kernel_rfl) (by kernel_rfl) (by kernel_rfl) (fun _ _ _ h => h) (Or.inl ⟨by rfl, fun w => by go_simp⟩) ?_
  refine wpAny_take (i := 1) (oi := ⟨some 13, _, _, _, _, _⟩) (v := .string ⟨(x ++ t).toArray⟩) rfl (by kernel_rfl) (by kernel_rfl) (by kernel_rfl) (fun _ _ _ h => h) (Or.inl ⟨by rfl, fun w => by go_simp⟩) ?_
  refine wpAny_take (i := 2) (oi := ⟨some 14, _, _, _, _, _⟩) (v := .int .i64 (x.length : Int)) rfl (by kernel_rfl) (by kernel_rfl) (by kernel_rfl) (fun _ _ _ h => h) (Or.inl ⟨by rfl, fun w => by go_simp⟩) ?_
  refine wpAny_take (i := 3) (oi := ⟨some 15, _, _, _, _, _⟩) (v := .string ⟨x.toArray⟩) rfl (by kernel_rfl) (by kernel_rfl) (by kernel_rfl) (fun _ _ _ h => h) (Or.inl ⟨by rfl, fun w => by go_simp; intro h; omega⟩) ?_
  refine wpAny_take (i := 4) (oi := ⟨some 16, _, _, _, _, _⟩) (v := .string ⟨(x ++ t).toArray⟩) rfl (by kernel_rfl) (by kernel_rfl) (by kernel_rfl) (fun _ _ _ h => h) (Or.inl ⟨by rfl, fun w => by go_simp⟩) ?_
  refine wpAny_take (i := 5) (oi := ⟨some 17, _, _, _, _, _⟩) (v := .int .i64 (x.length : Int)) rfl (by kernel_rfl) (by kernel_rfl) (by kernel_rfl) (fun _ _ _ h => h) (Or.inl ⟨by rfl, fun w => by go_simp⟩) ?_
  refine wpAny_take (i := 6) (oi := ⟨some 18, _, _, _, _, _⟩) (v := .string ⟨t.toArray⟩) rfl (by kernel_rfl) (by kernel_rfl) (by kernel_rfl) (fun _ _ _ h => h) (Or.inl ⟨by rfl, fun w => by go_simp; intro h; omega⟩) ?_
  simp only [Act.put, List.setIfInBounds_toArray, List.set_cons_zero, List.set_cons_succ]
  refine wpAny_ready (rs := [7]) (by kernel_rfl) (by simp) ?_
  refine AllReady.cons (o := ⟨some 19, .call ⟨.value (.func 17), #[.tmp 12, .tmp 15, .tmp 18], #[9, 9, 9]⟩, _, _, _, _⟩) rfl (fun K hK => ?_) AllReady.nil
  rw [if_pos (by rfl)]
  go_simp
  refine (check_any k x t _ hG.drew hk hs).mono ?_
  rintro e w4 ⟨rfl, hw4⟩
  refine hK _ _ ?_
  clear hK K
  refine wpAny_take (i := 8) (oi := ⟨some 20, _, _, _, _, _⟩) (v := .bool (!(decide (hmac k x = t)))) rfl (by kernel_rfl) (by kernel_rfl) (by kernel_rfl) (fun _ _ _ h => h) (Or.inl ⟨by rfl, fun w => by go_simp⟩) ?_
  refine wpAny_done (by kernel_rfl) ?_ _
  have hB := (Below.refl w.heap.size w).drew.trans (show Below w.heap.size w.drew w4 from hw4)
  clear hw4
  simp only [Act.put, List.setIfInBounds_toArray, List.set_cons_zero, List.set_cons_succ]
  by_cases hq : hmac k x = t
  · have e1 : decide (hmac k x = t) = true := decide_eq_true hq
    have HQ : Hid (openV k x t = .tuple #[.string ⟨x.toArray⟩, .int .i64 0]) := by unfold openV; rw [if_pos hq]; exact rfl
    rw [e1]
    clear hq e1
    go_simp
    go_wp2_with fail
    go_ret2
    refine ⟨?_, hB⟩
    rw [HQ.out]
    rfl
  · have e1 : decide (hmac k x = t) = false := decide_eq_false hq
    have HQ : Hid (openV k x t = .tuple #[.string ⟨#[]⟩, .int .i64 20]) := by unfold openV; rw [if_neg hq]; exact rfl
    rw [e1]
    clear hq e1
    go_simp
    go_wp2_with fail
    go_ret2
    refine ⟨?_, hB⟩
    rw [HQ.out]
    rfl
end Go.Proofs.YtminjelnbnajhaaDoor
