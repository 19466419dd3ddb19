/- What Bool of a writer and of a reader do. What PutEntry does. -/
import Derived.Test.YtnhlejdilldfaaaGreatRcx
import Derived.Test.YtnhlejdilldfaaaGreatWrb
import Derived.Test.YtnhlejdilldfaaaGreatHmd
import Derived.Test.YtnhlejdilldfaaaGreatRce
namespace Go.Proofs.YtnhlejdilldfaaaGreat
open Go Go.RowKit
set_option maxRecDepth 100000 in
theorem wbool_any (b : Nat) (l : List UInt8) (y : Bool) (w : World) (h : WR w b l) (hlen : l.length ≤ 549755813888) : Calls Tryz.prog 57 #[.pointer (some ⟨b, 0, none⟩), .bool y] w fun e w' => e = .returned (.tuple #[]) ∧ Puts w w' b l (num y.toNat 1) := by
  have HN := fun w (h : WR w b l) => wnumber_any b l y.toNat 1 w h hlen
  rw [show cut8 1 = 1 from rfl] at HN
  cases y
  · go_enter Tryz.func57, Tryz.ntmps57
    go_wp2_with (go_at_call 83; refine (HN _ h).mono ?_; rintro e w1 ⟨rfl, hP⟩)
    refine bodyPost_end (results_none rfl _ _ _) rfl ⟨rfl, hP⟩
  · go_enter Tryz.func57, Tryz.ntmps57
    go_wp2_with (go_at_call 83; refine (HN _ h).mono ?_; rintro e w1 ⟨rfl, hP⟩)
    refine bodyPost_end (results_none rfl _ _ _) rfl ⟨rfl, hP⟩
set_option maxRecDepth 100000 in
set_option maxHeartbeats 400000 in
theorem bool_any (b : Nat) (r : R) (w : World) (h : RD w b r) (hk : r.ok) (hl : r.s.length ≤ 140737488355328) :
    Calls Tryz.prog 53 #[.pointer (some ⟨b, 0, none⟩)] w fun e w' => e = .returned (.bool r.bool.2) ∧ To w w' b r.bool.1 := by
  have HA := at_any b r w h
  have HN := fun w (h : RD w b r) => number_r b r 1 w h hk hl
  have HC1 := @R.bool_out r
  have HC2 := @R.bool_in r
  obtain ⟨q, hq⟩ : ∃ q, q = r.number 1 := ⟨_, rfl⟩
  rw [← hq] at HN HC1 HC2
  clear hq
  obtain ⟨q, n⟩ := q
  simp only at HN HC1 HC2
  by_cases h1 : 1 < n
  · rw [HC1 h1]
    have HR := fun w (h : RD w b q) => refuse_any b q r.pos 6 w h
    have hd1 : decide ((n : Int) = 1) = false := decide_eq_false (by omega)
    have hd2 : ((n : Int) == 1) = false := by rw [beq_eq_false_iff_ne]; omega
    clear HC1 HC2
    generalize q.refuse r.pos 6 = z at *
    generalize r.pos = p at *
    go_enter Tryz.func53, Tryz.ntmps53
    go_wp2_with (first
      | (go_at_call 19; refine HA.mono ?_; rintro e w' ⟨rfl, hw'⟩; have hw2 := hw'.symm; subst hw2; clear hw')
      | (go_at_call 79; refine (HN _ h).mono ?_; rintro e w1 ⟨rfl, hT⟩)
      | (go_at_call 80; refine (HR _ hT.rd).mono ?_; rintro e w3 ⟨rfl, hV⟩))
    go_ret
    exact ⟨rfl, hT.trans hV⟩
  · rw [HC2 h1]
    have hd : decide ((1 : Int) < (n : Int)) = false := decide_eq_false (by omega)
    clear HC1 HC2
    generalize r.pos = p at *
    have hn : n = 0 ∨ n = 1 := by omega
    rcases hn with rfl | rfl
    · go_enter Tryz.func53, Tryz.ntmps53
      go_wp2_with (first
        | (go_at_call 19; refine HA.mono ?_; rintro e w' ⟨rfl, hw'⟩; have hw2 := hw'.symm; subst hw2; clear hw')
        | (go_at_call 79; refine (HN _ h).mono ?_; rintro e w1 ⟨rfl, hT⟩))
      go_ret
      exact ⟨rfl, hT⟩
    · go_enter Tryz.func53, Tryz.ntmps53
      go_wp2_with (first
        | (go_at_call 19; refine HA.mono ?_; rintro e w' ⟨rfl, hw'⟩; have hw2 := hw'.symm; subst hw2; clear hw')
        | (go_at_call 79; refine (HN _ h).mono ?_; rintro e w1 ⟨rfl, hT⟩))
      go_ret
      exact ⟨rfl, hT⟩
end Go.Proofs.YtnhlejdilldfaaaGreat
namespace Go.Proofs.YtnhlejdilldfaaaGreat
open Go Go.RowKit
/-- An entry's bytes. -/
def lB (e : LE) : List UInt8 := num e.term.toNat 4 ++ (num e.conf.toNat 1 ++ (if e.conf = true then memB e.mem else num e.s.length 4 ++ e.s))
theorem lB_len (e : LE) : (lB e).length = 5 + if e.conf = true then 1 + e.mem.length else 4 + e.s.length := by
  unfold lB
  split <;> simp only [List.length_append, num_length, memB_len] <;> omega
set_option maxRecDepth 100000 in
set_option maxHeartbeats 1000000 in
theorem putEntry_any (e : LE) (hc : e.conf = true → OkM e.mem) (ht : e.term ≤ 9223372036854775807) (ma : Option Addr) (mc b : Nat) (x : List UInt8) (w w0 : World) (hB : Below w0.heap.size w0 w) (hb : w0.heap.size ≤ b) (hI : IA w0 ma e.mem) (hW : WR w b x) (hx : x.length + e.s.length ≤ 137438953472) :
    Calls Tryz.prog 47 #[.pointer (some ⟨b, 0, none⟩), .agg (lec e (.slice ma e.mem.length mc))] w fun o w' => o = .returned (.tuple #[]) ∧ Puts w w' b x (lB e) := by
  have hlt : b < w.heap.size := by obtain ⟨sl, h1, _⟩ := hW.out; exact h1.lt
  obtain ⟨t, s, c, l⟩ := e
  unfold lec
  dsimp only at *
  have hb1 := bl_al (Below.refl w.heap.size w) (.cells #[.int .i64 t, .string ⟨s.toArray⟩, .bool c, .slice ma l.length mc] 29)
  have hX1 := Blk.new w #[.int .i64 t, .string ⟨s.toArray⟩, .bool c, .slice ma l.length mc] 29
  have HC := fun W (h : WR W b x) => wcount_any b x t W h (by omega) ht
  have hn4 := num_length 4 t.toNat
  have hn1 := num_length 1 c.toNat
  have HE : Hid (lB ⟨t, s, c, l⟩ = num t.toNat 4 ++ (num c.toNat 1 ++ (if c = true then memB l else num s.length 4 ++ s))) := by exact rfl
  rw [HE.out]
  clear HE
  generalize num t.toNat 4 = n4 at *
  have HO := fun W (h : WR W b (x ++ n4)) => wbool_any b (x ++ n4) c W h (by rw [List.length_append]; omega)
  cases c with
  | true =>
    generalize num true.toNat 1 = n1 at *
    have HM := fun W (hW : Below w0.heap.size w0 W) (h : WR W b ((x ++ n4) ++ n1)) => putM_any l (hc rfl) ma mc b ((x ++ n4) ++ n1) W w0 hW hb hI h (by rw [List.length_append, List.length_append]; omega)
    clear hc
    go_enter Tryz.func47, Tryz.ntmps47
    go_upto_region 1 with fail
    generalize w.alloc (.cells #[.int .i64 t, .string ⟨s.toArray⟩, .bool true, .slice ma l.length mc] 29) = w1 at *
    have e0 := hX1.cell 0
    go_wp2_with (first
      | (go_at_call 56; refine (HC _ (hW.below hb1)).mono ?_; rintro o w2 ⟨rfl, hP2⟩; clear HC; have hX2 := hX1.puts hP2 (by decide) (by decide); have e2 := hX2.cell 2)
      | (go_at_call 57; refine (HO _ hP2.wr).mono ?_; rintro o w3 ⟨rfl, hP3⟩; clear HO; have hX3 := hX2.puts hP3 (by decide) (by decide); have e2 := hX3.cell 2; have e3 := hX3.cell 3)
      | (go_at_call 59; refine (HM _ (((hB.trans (hb1.mono hB.size)).trans (hP2.below.mono hb)).trans (hP3.below.mono hb)) hP3.wr).mono ?_; rintro o w4 ⟨rfl, hP4⟩; clear HM))
    refine bodyPost_end (results_none rfl _ _ _) rfl ⟨rfl, ?_⟩
    exact Puts.behind hb1 (by omega) (hP2.trans (hP3.trans hP4))
  | false =>
    clear hc
    generalize num false.toNat 1 = n1 at *
    have HM := fun W (h : WR W b ((x ++ n4) ++ n1)) => wtext_any b ((x ++ n4) ++ n1) s W h (by rw [List.length_append, List.length_append]; omega)
    generalize hu : num s.length 4 ++ s = u at *
    clear hu
    go_enter Tryz.func47, Tryz.ntmps47
    go_upto_region 1 with fail
    generalize w.alloc (.cells #[.int .i64 t, .string ⟨s.toArray⟩, .bool false, .slice ma l.length mc] 29) = w1 at *
    have e0 := hX1.cell 0
    go_wp2_with (first
      | (go_at_call 56; refine (HC _ (hW.below hb1)).mono ?_; rintro o w2 ⟨rfl, hP2⟩; clear HC; have hX2 := hX1.puts hP2 (by decide) (by decide); have e2 := hX2.cell 2)
      | (go_at_call 57; refine (HO _ hP2.wr).mono ?_; rintro o w3 ⟨rfl, hP3⟩; clear HO; have hX3 := hX2.puts hP3 (by decide) (by decide); have e2 := hX3.cell 2; have e1 := hX3.cell 1)
      | (go_at_call 58; refine (HM _ hP3.wr).mono ?_; rintro o w4 ⟨rfl, hP4⟩; clear HM))
    refine bodyPost_end (results_none rfl _ _ _) rfl ⟨rfl, ?_⟩
    exact Puts.behind hb1 (by omega) (hP2.trans (hP3.trans hP4))
end Go.Proofs.YtnhlejdilldfaaaGreat
