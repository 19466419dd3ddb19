/- A reader's memory; what Err, At, Left, Fail and refuse do. -/
import Derived.Test.YtncoifkchoiiaaaWc
namespace Go.Proofs.Ytncoifkchoiiaaa
open Go.RowKit
theorem i3 : (Try.prog.info? 3).map (·.size) = some 1 := by kernel_rfl
theorem i29 : (Try.prog.info? 26).map (·.size) = some 1 := by kernel_rfl
/-- w' is w with draws. -/
structure Draws (w w' : World) : Prop where
  out : ∃ n, w' = w.drewN n
theorem Draws.refl (w : World) : Draws w w := ⟨0, rfl⟩
theorem Draws.drewN {w w' : World} (h : Draws w w') (n : Nat) : Draws w (w'.drewN n) := by
  obtain ⟨m, rfl⟩ := h.out
  exact ⟨m + n, by simp [World.drewN, Nat.add_assoc]⟩
theorem Draws.trans {a b c : World} (h : Draws a b) (k : Draws b c) : Draws a c := by
  obtain ⟨n, rfl⟩ := k.out
  exact h.drewN n
theorem Draws.grown {w w' : World} {row : Option Nat} (h : Draws w w') : w.grownBy w' row := by
  obtain ⟨n, rfl⟩ := h.out
  exact ⟨rfl, rfl, rfl, Nat.le_refl _, fun _ _ _ => rfl⟩
theorem Draws.below {w w' : World} {B : Nat} (h : Draws w w') : Below B w w' := by
  obtain ⟨n, rfl⟩ := h.out
  exact ⟨rfl, rfl, rfl, Nat.le_refl _, fun _ _ => rfl⟩
theorem Draws.blk {w w' : World} {b : Nat} {c : Array Value} {t : TypeId} (h : Draws w w') (k : Blk w b c t) : Blk w' b c t := by
  obtain ⟨n, rfl⟩ := h.out
  exact k.drewN n
theorem Draws.size {w w' : World} (h : Draws w w') : w'.heap.size = w.heap.size := by
  obtain ⟨n, rfl⟩ := h.out
  rfl
/-- The cells of a reader. -/
def rc (s : List UInt8) (pos : Nat) (err : Int) : Array Value := #[.string ⟨s.toArray⟩, .int .i64 (pos : Nat), .int .i64 err]
/-- Block b is the reader r. -/
structure RD (w : World) (b : Nat) (r : R) : Prop where
  blk : Blk w b (rc r.s r.pos r.err) 60
theorem RD.c0 {w : World} {b : Nat} {s : List UInt8} {pos : Nat} {err : Int} (h : RD w b ⟨s, pos, err⟩) : w.cell? ⟨b, 0, none⟩ = some (.string ⟨s.toArray⟩) := (h.blk.cell 0).trans rfl
theorem RD.c1 {w : World} {b : Nat} {s : List UInt8} {pos : Nat} {err : Int} (h : RD w b ⟨s, pos, err⟩) : w.cell? ⟨b, 1, none⟩ = some (.int .i64 (pos : Nat)) := (h.blk.cell 1).trans rfl
theorem RD.c2 {w : World} {b : Nat} {s : List UInt8} {pos : Nat} {err : Int} (h : RD w b ⟨s, pos, err⟩) : w.cell? ⟨b, 2, none⟩ = some (.int .i64 err) := (h.blk.cell 2).trans rfl
theorem RD.drew {w w' : World} {b : Nat} {r : R} (h : RD w b r) (hd : Draws w w') : RD w' b r := ⟨hd.blk h.blk⟩
theorem RD.below {w w' : World} {b : Nat} {r : R} (h : RD w b r) (hd : Below w.heap.size w w') : RD w' b r := ⟨h.blk.belowSize hd⟩
/-- What a call on the reader in block b leaves. -/
structure To (w w' : World) (b : Nat) (r : R) : Prop where
  grown : w.grownBy w' (some b)
  rd : RD w' b r
theorem To.trans {w w1 w2 : World} {b : Nat} {r r2 : R} (h : To w w1 b r) (k : To w1 w2 b r2) : To w w2 b r2 := ⟨grown_trans h.grown k.grown, k.rd⟩
theorem To.refl {w : World} {b : Nat} {r : R} (h : RD w b r) : To w w b r := ⟨grown_refl w _, h⟩
theorem To.draws {w w1 w2 : World} {b : Nat} {r : R} (h : To w w1 b r) (k : Draws w1 w2) : To w w2 b r := ⟨grown_trans h.grown k.grown, h.rd.drew k⟩
theorem To.of_draws {w w1 : World} {b : Nat} {r : R} (h : RD w b r) (k : Draws w w1) : To w w1 b r := (To.refl h).draws k
theorem err_any (b : Nat) (r : R) (w : World) (h : RD w b r) : Calls Try.prog 25 #[.pointer (some ⟨b, 0, none⟩)] w fun e w' => e = .returned (.int .i64 r.err) ∧ w' = w := by
  obtain ⟨s, pos, err⟩ := r
  have c2 := h.c2
  go_enter Try.func25, Try.ntmps25
  go_wp2_with fail
  go_ret
  exact ⟨rfl, rfl⟩
theorem at_any (b : Nat) (r : R) (w : World) (h : RD w b r) : Calls Try.prog 31 #[.pointer (some ⟨b, 0, none⟩)] w fun e w' => e = .returned (.int .i64 (r.pos : Nat)) ∧ w' = w := by
  obtain ⟨s, pos, err⟩ := r
  have c1 := h.c1
  go_enter Try.func31, Try.ntmps31
  go_wp2_with fail
  go_ret
  exact ⟨rfl, rfl⟩
set_option maxHeartbeats 400000 in
theorem left_any (b : Nat) (r : R) (w : World) (h : RD w b r) (hk : r.pos ≤ r.s.length) (hl : r.s.length ≤ 140737488355328) : Calls Try.prog 26 #[.pointer (some ⟨b, 0, none⟩)] w fun e w' => e = .returned (.int .i64 ((r.s.length : Int) - (r.pos : Nat))) ∧ Draws w w' := by
  obtain ⟨s, pos, err⟩ := r
  have c0 := h.c0
  have c1 := h.c1
  replace hk : pos ≤ s.length := hk
  replace hl : s.length ≤ 140737488355328 := hl
  go_enter Try.func26, Try.ntmps26
  go_wp2_with fail
  go_quiet (fail)
  go_wp2_with fail
  go_ret
  exact ⟨rfl, ⟨_, rfl⟩⟩
set_option maxHeartbeats 400000 in
theorem fail_any (b : Nat) (r : R) (x : Int) (w : World) (h : RD w b r) : Calls Try.prog 23 #[.pointer (some ⟨b, 0, none⟩), .int .i64 x] w fun e w' => e = .returned (.tuple #[]) ∧ To w w' b (r.fail x) := by
  obtain ⟨s, pos, err⟩ := r
  have c2 := h.c2
  by_cases he : err = 0
  · subst he
    go_enter Try.func23, Try.ntmps23
    go_wp2_with (with_reducible refine at_list ?_; refine wpList_storeCell rfl _ _ _ rfl b 2 rfl (.int .i64 x) rfl _ _ h.blk i29 rfl rfl (by simp [rc]) ?_; intro w1 hg1 hs1 hb1)
    refine bodyPost_end (results_none rfl _ _ _) rfl ⟨rfl, hg1, ⟨hb1⟩⟩
  · have hd : decide (err = 0) = false := decide_eq_false he
    go_enter Try.func23, Try.ntmps23
    go_wp2_with fail
    refine bodyPost_end (results_none rfl _ _ _) rfl ⟨rfl, ?_⟩
    rw [show R.fail ⟨s, pos, err⟩ x = ⟨s, pos, err⟩ from if_neg he]
    exact To.refl h
/-- What refuse leaves. -/
def R.refuse (r : R) (n : Nat) (e : Int) : R := ⟨r.s, n, (r.fail e).err⟩
set_option maxHeartbeats 400000 in
theorem refuse_any (b : Nat) (r : R) (n : Nat) (x : Int) (w : World) (h : RD w b r) : Calls Try.prog 32 #[.pointer (some ⟨b, 0, none⟩), .int .i64 (n : Nat), .int .i64 x] w fun e w' => e = .returned (.tuple #[]) ∧ To w w' b (r.refuse n x) := by
  have hs := r.fail_s x
  have HF := fail_any b r x w h
  have HR : Hid (r.refuse n x = ⟨(r.fail x).s, n, (r.fail x).err⟩) := by rw [hs]; exact rfl
  clear hs
  generalize r.fail x = q at *
  obtain ⟨s, pos, err⟩ := q
  go_enter Try.func32, Try.ntmps32
  go_wp2_with (first
    | (go_at_call 23; refine HF.mono ?_; rintro e w1 ⟨rfl, hT⟩)
    | (with_reducible refine at_list ?_; refine wpList_storeCell rfl _ _ _ rfl b 1 rfl (.int .i64 (n : Nat)) rfl _ _ hT.rd.blk i3 rfl rfl (by simp [rc]) ?_; intro w2 hg2 hs2 hb2))
  refine bodyPost_end (results_none rfl _ _ _) rfl ⟨rfl, ?_⟩
  rw [HR.out]
  exact ⟨grown_trans hT.grown hg2, ⟨hb2⟩⟩
end Go.Proofs.Ytncoifkchoiiaaa
