/- Who takes part as bytes, plainly. What the plain MembersBytes does. What PutMembers does. Slices of numbers that grow; readers beside them. What a reader meets at the bytes of who takes part. -/
import Derived.Test.YtnhlejdilldfaaaGreatWgo
import Derived.Test.YtnhlejdilldfaaaGreatRcn
import Derived.Deep.RegionHeld3
import Derived.Test.YtnhlejdilldfaaaGreatVsi
namespace Go.Proofs.YtnhlejdilldfaaaGreat
open Go
def memsB (l : List Int) : List UInt8 := l.flatMap fun m => num m.toNat 1
def memB (l : List Int) : List UInt8 := num l.length 1 ++ memsB l
theorem memsB_nil : memsB [] = [] := rfl
theorem memsB_snoc (l : List Int) (m : Int) : memsB (l ++ [m]) = memsB l ++ num m.toNat 1 := by simp [memsB]
theorem memsB_len : ∀ l : List Int, (memsB l).length = l.length
  | [] => rfl
  | x :: r => by
    rw [memsB, List.flatMap_cons, List.length_append, num_length, List.length_cons]
    have := memsB_len r
    rw [memsB] at this
    omega
theorem memB_len (l : List Int) : (memB l).length = 1 + l.length := by rw [memB, List.length_append, num_length, memsB_len]
end Go.Proofs.YtnhlejdilldfaaaGreat
namespace Go.Proofs.YtnhlejdilldfaaaGreat
open Go Go.RowKit
theorem rnum1 (n : Nat) (w : World) (hn : n < 18446744073709551616) : Calls Tryz.prog 44 #[.int .u64 n, .int .i64 1] w fun e w' => e = .returned (.string ⟨(num n 1).toArray⟩) ∧ Below w.heap.size w w' := rnum_nat 1 (by decide) n w hn
theorem memsB_take {l : List Int} {i : Nat} (h : i < l.length) : memsB (l.take (i + 1)) = memsB (l.take i) ++ num (l.getD i 0).toNat 1 := by
  rw [List.take_succ_eq_append_getElem h, memsB_snoc, List.getD_eq_getElem?_getD, List.getElem?_eq_getElem h]
  rfl
section
attribute [local go_sem] mkApp2
set_option maxRecDepth 100000 in
set_option maxHeartbeats 2000000 in
theorem rmemB_any (l : List Int) (a : Option Addr) (cap : Nat) (w : World) (hA : IA w a l) (hm : ∀ x ∈ l, 0 ≤ x ∧ x ≤ 15) (hl : l.length ≤ 16) :
    Calls Tryz.prog 50 #[.slice a l.length cap] w fun e w' => e = .returned (.string ⟨(memB l).toArray⟩) ∧ Below w.heap.size w w' := by
  have HN := fun w1 => rnum1 l.length w1 (by omega)
  have hwr : IntKind.u64.wrap (l.length : Int) = (l.length : Int) := by rw [IntKind.wrap_u64]; omega
  go_enter Tryz.func50, Tryz.ntmps50
  go_wp2_with (go_at_call 44; refine (HN _).mono ?_; rintro e w1 ⟨rfl, hw1⟩)
  clear HN hwr
  go_loopw [3, 4] (fun v3 v4 wl => ∃ i : Nat, i ≤ l.length ∧ v4 = .int .i64 i ∧ v3 = .string ⟨(num l.length 1 ++ memsB (l.take i)).toArray⟩ ∧ Below w.heap.size w wl) (fun _ v4 _ => l.length - (intOf v4).toNat)
  case atStart => exact ⟨0, by omega, rfl, by rw [List.take_zero, memsB_nil, List.append_nil], hw1⟩
  case round =>
    obtain ⟨i, hil, rfl, rfl, hB⟩ := hrel
    clear hw1
    by_cases hlt : i < l.length
    · obtain ⟨g, o, rfl⟩ := hA.ex (by omega)
      have c0 := (hA.below hB).cell hlt
      have hz1 : (0 : Int) ≤ (i : Int) := by omega
      have hz2 : (i : Int) < (l.length : Int) := by omega
      have hz3 : i < l.length := hlt
      have hs : Hid (num l.length 1 ++ memsB (l.take (i + 1)) = (num l.length 1 ++ memsB (l.take i)) ++ num (l.getD i 0).toNat 1) := by rw [memsB_take hlt, List.append_assoc]; exact rfl
      have hlen : (num l.length 1 ++ memsB (l.take i)).length ≤ 17 := by rw [List.length_append, num_length, memsB_len, List.length_take]; omega
      have hx := hm (l.getD i 0) (by rw [List.getD_eq_getElem?_getD, List.getElem?_eq_getElem hlt]; exact List.getElem_mem hlt)
      generalize num l.length 1 ++ memsB (l.take i) = t at *
      obtain ⟨k, hk⟩ : ∃ k : Nat, l.getD i 0 = (k : Int) := ⟨(l.getD i 0).toNat, by omega⟩
      rw [hk] at c0 hx
      rw [hk, Int.toNat_natCast] at hs
      have HN := fun w1 => rnum1 k w1 (by omega)
      have hwr : IntKind.u64.wrap (k : Int) = (k : Int) := by rw [IntKind.wrap_u64]; omega
      have hnl := num_length 1 k
      generalize num k 1 = u at *
      clear hk
      go_wp2_with (go_at_call 44; refine (HN _).mono ?_; rintro e w2 ⟨rfl, hw2⟩)
      go_roundw
      case rel => exact ⟨i + 1, by omega, by go_num, by rw [hs.out], hB.trans (hw2.mono hB.size)⟩
      case measure => simp [intOf]; omega
    · have hz2 : ¬ (i : Int) < (l.length : Int) := by omega
      have he : num l.length 1 ++ memsB (l.take i) = memB l := by rw [List.take_of_length_le (by omega)]; rfl
      rw [he]
      go_wp2_with fail
      go_ret
      exact ⟨rfl, hB⟩
end
end Go.Proofs.YtnhlejdilldfaaaGreat
namespace Go.Proofs.YtnhlejdilldfaaaGreat
open Go Go.RowKit
theorem Blk.puts {w w' : World} {b i : Nat} {l t : List UInt8} {c : Array Value} {ty : TypeId} (h : Blk w i c ty) (hP : Puts w w' b l t) (h1 : ty ≠ 99) (h2 : ty ≠ 5) : Blk w' i c ty := hP.keeps.out i c ty h h1 h2
theorem Puts.behind {w w1 w2 : World} {b : Nat} {x t : List UInt8} (h : Below w.heap.size w w1) (hb : b ≤ w.heap.size) (k : Puts w1 w2 b x t) : Puts w w2 b x t := ⟨(h.mono hb).trans k.below, (Keeps.of_below h).trans k.keeps, k.wr⟩
theorem Puts.trans {w w1 w2 : World} {b : Nat} {x t u : List UInt8} (h : Puts w w1 b x t) (k : Puts w1 w2 b (x ++ t) u) : Puts w w2 b x (t ++ u) := ⟨h.below.trans k.below, h.keeps.trans k.keeps, by rw [← List.append_assoc]; exact k.wr⟩
set_option maxRecDepth 100000 in
set_option maxHeartbeats 1000000 in
theorem putM_any (l : List Int) (hl : OkM l) (a : Option Addr) (cap b : Nat) (x : List UInt8) (w w0 : World) (hB : Below w0.heap.size w0 w) (hb : w0.heap.size ≤ b) (h : IA w0 a l) (hW : WR w b x) (hx : x.length ≤ 274877906944) :
    Calls Tryz.prog 59 #[.pointer (some ⟨b, 0, none⟩), .slice a l.length cap] w fun e w' => e = .returned (.tuple #[]) ∧ Puts w w' b x (memB l) := by
  have hl16 := hl.len
  have hall := hl.each
  have HT : Hid (memB l = num l.length 1 ++ memsB l) := by exact rfl
  rw [HT.out]
  clear HT hl
  have H1 := fun w x (h : WR w b x) (hx : x.length ≤ 274877906944) => wnumber_any b x l.length 1 w h (by omega)
  rw [show cut8 1 = 1 from rfl] at H1
  have hwr : IntKind.u64.wrap (l.length : Int) = (l.length : Int) := by rw [IntKind.wrap_u64]; omega
  have hnl := num_length 1 l.length
  generalize hnn : num l.length 1 = nn at *
  go_enter Tryz.func59, Tryz.ntmps59
  go_wp2_with (go_at_call 83; refine (H1 _ x hW hx).mono ?_; rintro e w2 ⟨rfl, hP0⟩; clear H1)
  clear hwr
  go_loopw [13] (fun v13 wl => ∃ i : Nat, i ≤ l.length ∧ v13 = .int .i64 i ∧ Puts w wl b x (nn ++ memsB (l.take i))) (fun v13 _ => l.length - (intOf v13).toNat)
  case atStart => exact ⟨0, by omega, rfl, by rw [List.take_zero, memsB_nil, List.append_nil]; exact hP0⟩
  case round =>
    obtain ⟨i, hi, rfl, hP⟩ := hrel
    clear hP0
    by_cases hlt : i < l.length
    · obtain ⟨g, o, rfl⟩ := h.ex (by omega)
      have c0 := (h.below (hB.trans (hP.below.mono hb))).cell hlt
      have hz1 : (0 : Int) ≤ (i : Int) := by omega
      have hz2 : (i : Int) < (l.length : Int) := by omega
      have hz3 : i < l.length := hlt
      have hT : Hid (memsB (l.take (i + 1)) = memsB (l.take i) ++ num (l.getD i 0).toNat 1) := memsB_take hlt
      have hlen : (nn ++ memsB (l.take i)).length ≤ 17 := by rw [List.length_append, hnl, memsB_len, List.length_take]; omega
      have hx2 := hall (l.getD i 0) (by rw [List.getD_eq_getElem?_getD, List.getElem?_eq_getElem hlt]; exact List.getElem_mem hlt)
      obtain ⟨k, hk⟩ : ∃ k : Nat, l.getD i 0 = (k : Int) := ⟨(l.getD i 0).toNat, by omega⟩
      rw [hk] at c0 hx2
      rw [hk, Int.toNat_natCast] at hT
      have HN := fun w x (h : WR w b x) (hx : x.length ≤ 274877907044) => wnumber_any b x k 1 w h (by omega)
      rw [show cut8 1 = 1 from rfl] at HN
      have hwr : IntKind.u64.wrap (k : Int) = (k : Int) := by rw [IntKind.wrap_u64]; omega
      clear hk
      generalize num k 1 = u at *
      generalize memsB (l.take i) = t at *
      go_wp2_with (go_at_call 83; refine (HN _ _ hP.wr (by rw [List.length_append]; omega)).mono ?_; rintro e w3 ⟨rfl, hP3⟩)
      go_roundw
      case rel =>
        refine ⟨i + 1, by omega, by go_num, ?_⟩
        rw [hT.out, ← List.append_assoc]
        exact hP.trans hP3
      case measure => simp [intOf]; omega
    · have hT : Hid (l.take i = l) := List.take_of_length_le (by omega)
      rw [hT.out] at hP
      clear hT
      have hz2 : ¬ (i : Int) < (l.length : Int) := by omega
      go_wp2_with fail
      refine bodyPost_end (results_none rfl _ _ _) rfl ⟨rfl, hP⟩
end Go.Proofs.YtnhlejdilldfaaaGreat
namespace Go.Proofs.YtnhlejdilldfaaaGreat
open Go Go.RowKit
theorem number1_lt (r : R) : (r.number 1).2 < 256 := by
  have h2 : ((r.early 1).bytes 1).2.length ≤ 1 := by
    unfold R.bytes
    split
    · simp
    · split
      · simp
      · split
        · simp
        · simp only [List.length_take]; omega
  have h3 := val_lt _ ((r.early 1).bytes 1).2 rfl
  have h4 : 256 ^ ((r.early 1).bytes 1).2.length ≤ 256 ^ 1 := Nat.pow_le_pow_right (by decide) h2
  unfold R.number
  simp only
  omega
theorem VL.grown7 {w w' : World} {t : TypeId} {lo b : Nat} {sl : Value} {l : List Value} (h : VL w t lo sl l) (hg : w.grownBy w' (some b)) (hb : b < lo) : VL w' t lo sl l := by
  rcases h with h | ⟨g, cap, h1, h2, h3⟩
  · exact .inl h
  · exact .inr ⟨g, cap, h1, h2, h3.grown hg (fun e => by have := Option.some.inj e; omega)⟩
theorem Blk.to {w w' : World} {b i : Nat} {r : R} {c : Array Value} {ty : TypeId} (h : Blk w i c ty) (hT : To w w' b r) (hi : i ≠ b) : Blk w' i c ty := h.grown hT.grown (fun e => hi (Option.some.inj e))
theorem To.behind {w w1 w2 : World} {b : Nat} {r : R} (h : Below w.heap.size w w1) (k : To w1 w2 b r) : To w w2 b r := ⟨grown_trans (grown_of_below h) k.grown, k.rd⟩
theorem RD.lt {w : World} {b : Nat} {r : R} (h : RD w b r) : b < w.heap.size := h.blk.lt
theorem RD.grown {w w' : World} {b i : Nat} {r : R} (h : RD w b r) (hg : w.grownBy w' (some i)) (hi : b ≠ i) : RD w' b r := ⟨h.blk.grown hg (fun e => hi (Option.some.inj e))⟩
/-- What is written into a block that is new since w leaves a reader's step. -/
theorem To.write {w w1 w2 : World} {b i : Nat} {r : R} (k : To w w1 b r) (hg : w1.grownBy w2 (some i)) (hb : b < w.heap.size) (hi : w.heap.size ≤ i) : To w w2 b r :=
  ⟨⟨hg.os.trans k.grown.os, hg.tape.trans k.grown.tape, hg.output.trans k.grown.output, Nat.le_trans k.grown.size hg.size, fun j hj hr => (hg.block j (Nat.lt_of_lt_of_le hj k.grown.size) (fun e => by have := Option.some.inj e; omega)).trans (k.grown.block j hj hr)⟩, k.rd.grown hg (by omega)⟩
theorem To.low {w w1 w2 : World} {b : Nat} {r : R} (k : To w w1 b r) (h : Below w.heap.size w1 w2) (hr : RD w2 b r) : To w w2 b r :=
  ⟨⟨h.os.trans k.grown.os, h.tape.trans k.grown.tape, h.output.trans k.grown.output, Nat.le_trans k.grown.size h.size, fun j hj hne => (h.block j hj).trans (k.grown.block j hj hne)⟩, hr⟩
theorem RD.lowB {w w' : World} {b lo : Nat} {r : R} (h : RD w b r) (hB : Below lo w w') (hb : b < lo) : RD w' b r := ⟨h.blk.below hB hb⟩
end Go.Proofs.YtnhlejdilldfaaaGreat
namespace Go.Proofs.YtnhlejdilldfaaaGreat
open Go Go.RowKit
theorem OkM.take {l : List Int} (h : OkM l) {i : Nat} (h0 : 0 < i) : OkM (l.take i) :=
  ⟨fun e => by
    have := congrArg List.length e
    rw [List.length_take, List.length_nil] at this
    have := h.pos
    omega, fun m hm => h.each m (List.mem_of_mem_take hm), h.up.sublist (List.take_sublist _ _)⟩
/-- A reader at the next of who takes part. -/
theorem mem_at (a c : List UInt8) (l : List Int) (hl : ∀ m ∈ l, 0 ≤ m ∧ m ≤ 15) (i : Nat) (hlt : i < l.length) :
    (⟨a ++ (memB l ++ c), a.length + 1 + i, 0⟩ : R).number 1 = (⟨a ++ (memB l ++ c), a.length + 1 + (i + 1), 0⟩, (l.getD i 0).toNat) := by
  have hd : memsB l = memsB (l.take i) ++ (num l[i].toNat 1 ++ memsB (l.drop (i + 1))) := by
    conv => lhs; rw [← List.take_append_drop i l, List.drop_eq_getElem_cons hlt]
    unfold memsB
    rw [List.flatMap_append, List.flatMap_cons]
  obtain ⟨hm0, hm1⟩ := hl _ (List.getElem_mem hlt)
  have h3 := R.number_at (a ++ num l.length 1 ++ memsB (l.take i)) (num l[i].toNat 1) (memsB (l.drop (i + 1)) ++ c) 1 (by rw [num_length]; rfl) (by rw [num_length]; omega)
  have e : a ++ num l.length 1 ++ memsB (l.take i) ++ (num l[i].toNat 1 ++ (memsB (l.drop (i + 1)) ++ c)) = a ++ (memB l ++ c) := by rw [memB, hd]; simp only [List.append_assoc]
  rw [e, List.length_append, List.length_append, num_length, memsB_len, List.length_take, Nat.min_eq_left (Nat.le_of_lt hlt), num_length, val_num, show l[i].toNat % 256 ^ 1 = l[i].toNat from Nat.mod_eq_of_lt (by omega)] at h3
  rw [h3, List.getD_eq_getElem?_getD, List.getElem?_eq_getElem hlt]
  rfl
theorem many_at (a c : List UInt8) (l : List Int) (hl : l.length ≤ 16) :
    (⟨a ++ (memB l ++ c), a.length, 0⟩ : R).number 1 = (⟨a ++ (memB l ++ c), a.length + 1 + 0, 0⟩, l.length) := by
  have h1 := R.number_at a (num l.length 1) (memsB l ++ c) 1 (by rw [num_length]; rfl) (by rw [num_length]; omega)
  have e : a ++ (memB l ++ c) = a ++ (num l.length 1 ++ (memsB l ++ c)) := by rw [memB]; simp only [List.append_assoc]
  rw [num_length, val_num, show l.length % 256 ^ 1 = l.length from Nat.mod_eq_of_lt (by omega)] at h1
  rw [e, h1]
/-- What TakeMembers leaves. -/
def TakeMP (b : Nat) (w : World) (r : R) (l : List Int) (e : Ending) (w' : World) : Prop :=
  ∃ sl, e = .returned sl ∧ VL w' 3 w.heap.size sl (l.map fun x => .int .i64 x) ∧ To w w' b r
end Go.Proofs.YtnhlejdilldfaaaGreat
