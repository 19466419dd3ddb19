/- The single cells of a replica in memory: what they hold, and what it is behind a store. What draw and begin do. -/
import Derived.Test.YtnhlejdilldfaaaGreatRmm
namespace Go.Proofs.YtnhlejdilldfaaaGreat
open Go Go.RowKit Go.Maps
section
variable {nb : Nat} {M : NM} {F : Nat → Prop} {lb : Option Nat} {w : World} {N : RN}
theorem ND.frz (h : ND F nb M lb w N) (o : Nat) : w.frozen? ⟨nb, o, none⟩ = false := by
  obtain ⟨c, hc⟩ := h.nbBlk
  exact hc.frozen o
theorem ND.c0 (h : ND F nb M lb w N) : w.cell? ⟨nb, 0, none⟩ = some (.int .i64 N.me) := by
  obtain ⟨ba, ca, lv, da, dc, k1, _⟩ := h.out
  rw [k1.cell]; rfl
theorem ND.c1 (h : ND F nb M lb w N) : w.cell? ⟨nb, 1, none⟩ = some (.int .i64 N.k.term) := by
  obtain ⟨ba, ca, lv, da, dc, k1, _⟩ := h.out
  rw [k1.cell]; rfl
theorem ND.c2 (h : ND F nb M lb w N) : w.cell? ⟨nb, 2, none⟩ = some (.int .i64 N.k.vote) := by
  obtain ⟨ba, ca, lv, da, dc, k1, _⟩ := h.out
  rw [k1.cell]; rfl
theorem ND.c3 (h : ND F nb M lb w N) : w.cell? ⟨nb, 3, none⟩ = some (.int .i64 N.k.bi) := by
  obtain ⟨ba, ca, lv, da, dc, k1, _⟩ := h.out
  rw [k1.cell]; rfl
theorem ND.c4 (h : ND F nb M lb w N) : w.cell? ⟨nb, 4, none⟩ = some (.int .i64 N.k.bt) := by
  obtain ⟨ba, ca, lv, da, dc, k1, _⟩ := h.out
  rw [k1.cell]; rfl
theorem ND.c8 (h : ND F nb M lb w N) : w.cell? ⟨nb, 8, none⟩ = some (.int .i64 N.role) := by
  obtain ⟨ba, ca, lv, da, dc, k1, _⟩ := h.out
  rw [k1.cell]; rfl
theorem ND.c9 (h : ND F nb M lb w N) : w.cell? ⟨nb, 9, none⟩ = some (.int .i64 N.leader) := by
  obtain ⟨ba, ca, lv, da, dc, k1, _⟩ := h.out
  rw [k1.cell]; rfl
theorem ND.c10 (h : ND F nb M lb w N) : w.cell? ⟨nb, 10, none⟩ = some (.int .i64 N.commit) := by
  obtain ⟨ba, ca, lv, da, dc, k1, _⟩ := h.out
  rw [k1.cell]; rfl
theorem ND.c12 (h : ND F nb M lb w N) : w.cell? ⟨nb, 12, none⟩ = some (.int .i64 N.wait) := by
  obtain ⟨ba, ca, lv, da, dc, k1, _⟩ := h.out
  rw [k1.cell]; rfl
theorem ND.c13 (h : ND F nb M lb w N) : w.cell? ⟨nb, 13, none⟩ = some (.int .i64 N.ticks) := by
  obtain ⟨ba, ca, lv, da, dc, k1, _⟩ := h.out
  rw [k1.cell]; rfl
theorem ND.c14 (h : ND F nb M lb w N) : w.cell? ⟨nb, 14, none⟩ = some (.int .i64 N.quiet) := by
  obtain ⟨ba, ca, lv, da, dc, k1, _⟩ := h.out
  rw [k1.cell]; rfl
theorem ND.c5 (h : ND F nb M lb w N) : w.cell? ⟨nb, 5, none⟩ = some (.string ⟨N.k.base.toArray⟩) := by
  obtain ⟨ba, ca, lv, da, dc, k1, _⟩ := h.out
  rw [k1.cell]; rfl
theorem ND.c15 (h : ND F nb M lb w N) : w.cell? ⟨nb, 15, none⟩ = some (.map (some M.bv)) := by
  obtain ⟨ba, ca, lv, da, dc, k1, _⟩ := h.out
  rw [k1.cell]; rfl
theorem ND.c16 (h : ND F nb M lb w N) : w.cell? ⟨nb, 16, none⟩ = some (.map (some M.bn)) := by
  obtain ⟨ba, ca, lv, da, dc, k1, _⟩ := h.out
  rw [k1.cell]; rfl
theorem ND.c17 (h : ND F nb M lb w N) : w.cell? ⟨nb, 17, none⟩ = some (.map (some M.bh)) := by
  obtain ⟨ba, ca, lv, da, dc, k1, _⟩ := h.out
  rw [k1.cell]; rfl
theorem ND.c18 (h : ND F nb M lb w N) : w.cell? ⟨nb, 18, none⟩ = some (.map (some M.be)) := by
  obtain ⟨ba, ca, lv, da, dc, k1, _⟩ := h.out
  rw [k1.cell]; rfl
theorem ND.c6 (h : ND F nb M lb w N) : ∃ a c, w.cell? ⟨nb, 6, none⟩ = some (.slice a N.k.bconf.length c) ∧ IF F w a N.k.bconf := by
  obtain ⟨ba, ca, lv, da, dc, k1, _, k3, _⟩ := h.out
  exact ⟨ba, ca, by rw [k1.cell]; rfl, k3⟩
theorem ND.c7 (h : ND F nb M lb w N) : ∃ lv, w.cell? ⟨nb, 7, none⟩ = some lv ∧ LG F w lv N.k.log ∧ slBlk lv = lb := by
  obtain ⟨ba, ca, lv, da, dc, k1, k2, k3, k4, _⟩ := h.out
  exact ⟨lv, by rw [k1.cell]; rfl, k4, k2⟩
theorem ND.c11 (h : ND F nb M lb w N) : ∃ a c, w.cell? ⟨nb, 11, none⟩ = some (.slice a N.draws.length c) ∧ IF F w a N.draws ∧ N.draws.length ≤ c := by
  obtain ⟨ba, ca, lv, da, dc, k1, k2, k3, k4, k5, k6⟩ := h.out
  exact ⟨da, dc, by rw [k1.cell]; rfl, k5, k6⟩
theorem ND.p1 (h : ND F nb M lb w N) (x : Int) : ND F nb M lb (w.setCell ⟨nb, 1, none⟩ (.int .i64 x)) { N with k := { N.k with term := x } } :=
  h.cellsTo (grown_setCell nb _ 1 w) _ rfl rfl rfl rfl rfl rfl rfl rfl (fun _ _ _ _ _ hB => hB.setCell 1 _)
theorem ND.p2 (h : ND F nb M lb w N) (x : Int) : ND F nb M lb (w.setCell ⟨nb, 2, none⟩ (.int .i64 x)) { N with k := { N.k with vote := x } } :=
  h.cellsTo (grown_setCell nb _ 2 w) _ rfl rfl rfl rfl rfl rfl rfl rfl (fun _ _ _ _ _ hB => hB.setCell 2 _)
theorem ND.p8 (h : ND F nb M lb w N) (x : Int) : ND F nb M lb (w.setCell ⟨nb, 8, none⟩ (.int .i64 x)) { N with role := x } :=
  h.cellsTo (grown_setCell nb _ 8 w) _ rfl rfl rfl rfl rfl rfl rfl rfl (fun _ _ _ _ _ hB => hB.setCell 8 _)
theorem ND.p9 (h : ND F nb M lb w N) (x : Int) : ND F nb M lb (w.setCell ⟨nb, 9, none⟩ (.int .i64 x)) { N with leader := x } :=
  h.cellsTo (grown_setCell nb _ 9 w) _ rfl rfl rfl rfl rfl rfl rfl rfl (fun _ _ _ _ _ hB => hB.setCell 9 _)
theorem ND.p10 (h : ND F nb M lb w N) (x : Int) : ND F nb M lb (w.setCell ⟨nb, 10, none⟩ (.int .i64 x)) { N with commit := x } :=
  h.cellsTo (grown_setCell nb _ 10 w) _ rfl rfl rfl rfl rfl rfl rfl rfl (fun _ _ _ _ _ hB => hB.setCell 10 _)
theorem ND.p12 (h : ND F nb M lb w N) (x : Int) : ND F nb M lb (w.setCell ⟨nb, 12, none⟩ (.int .i64 x)) { N with wait := x } :=
  h.cellsTo (grown_setCell nb _ 12 w) _ rfl rfl rfl rfl rfl rfl rfl rfl (fun _ _ _ _ _ hB => hB.setCell 12 _)
theorem ND.p13 (h : ND F nb M lb w N) (x : Int) : ND F nb M lb (w.setCell ⟨nb, 13, none⟩ (.int .i64 x)) { N with ticks := x } :=
  h.cellsTo (grown_setCell nb _ 13 w) _ rfl rfl rfl rfl rfl rfl rfl rfl (fun _ _ _ _ _ hB => hB.setCell 13 _)
theorem ND.p14 (h : ND F nb M lb w N) (x : Int) : ND F nb M lb (w.setCell ⟨nb, 14, none⟩ (.int .i64 x)) { N with quiet := x } :=
  h.cellsTo (grown_setCell nb _ 14 w) _ rfl rfl rfl rfl rfl rfl rfl rfl (fun _ _ _ _ _ hB => hB.setCell 14 _)
/-- Other draws are put. -/
theorem ND.p11 (h : ND F nb M lb w N) (a : Option Addr) (c : Nat) (l : List Int) (hI : IF F w a l) (hc : l.length ≤ c) : ND F nb M lb (w.setCell ⟨nb, 11, none⟩ (.slice a l.length c)) { N with draws := l } := by
  have hn := h.ne
  obtain ⟨ba, ca, lv, da, dc, k1, k2, k3, k4, k5, k6⟩ := h.out
  have hg := grown_setCell nb (.slice a l.length c) 11 w
  have hk : ∀ k, k < w.heap.size → k ≠ nb → (w.setCell ⟨nb, 11, none⟩ (.slice a l.length c)).heap[k]? = w.heap[k]? := fun k hk hn => hg.block k hk (fun e => hn (Option.some.inj e))
  have hF : ∀ k, F k → (w.setCell ⟨nb, 11, none⟩ (.slice a l.length c)).heap[k]? = w.heap[k]? := fun k hF => hk k (h.flt k hF) (fun e => h.off k hF (.inl e))
  exact ⟨⟨ba, ca, lv, a, c, k1.setCell 11 _, k2, k3.kept hF (fun _ h => h), k4.kept (fun k e => hk k (h.lbLt k (k2.symm.trans e)) (hn.2.2.2.2 k (k2.symm.trans e)).1) hF (fun _ h => h), hI.kept hF (fun _ h => h), hc⟩,
    h.votes.block (hk _ h.votes.lt hn.1), h.next.block (hk _ h.next.lt hn.2.1), h.had.block (hk _ h.had.lt hn.2.2.1), h.ends.block (hk _ h.ends.lt hn.2.2.2.1), h.apart, h.off, fun k hk => Nat.lt_of_lt_of_le (h.flt k hk) hg.size⟩
end
end Go.Proofs.YtnhlejdilldfaaaGreat
namespace Go.Proofs.YtnhlejdilldfaaaGreat
open Go Go.RowKit Go.Maps
def DrP (F : Nat → Prop) (nb : Nat) (M : NM) (lb : Option Nat) (w : World) (r : Value) (N' : RN) (e : Ending) (w' : World) : Prop := e = .returned r ∧ Stp nb M F F lb lb w w' ∧ ND F nb M lb w' N'
theorem IF.tail {F : Nat → Prop} {w : World} {g o : Nat} {d : Int} {l : List Int} (h : IF F w (some ⟨g, o, none⟩) (d :: l)) : IF F w (some ⟨g, o + 1, none⟩) l := fun i x hx => by
  obtain ⟨g', o', h1, h2, h3⟩ := h (i + 1) x (by rw [List.getElem?_cons_succ]; exact hx)
  simp only [Option.some.injEq, Addr.mk.injEq, and_true] at h1
  obtain ⟨rfl, rfl⟩ := h1
  exact ⟨g, o + 1, rfl, h2, by rw [Nat.add_assoc, Nat.add_comm 1 i]; exact h3⟩
set_option maxRecDepth 100000 in
theorem draw_none (F : Nat → Prop) (nb : Nat) (M : NM) (lb : Option Nat) (w : World) (N : RN) (h : ND F nb M lb w N) (hm : 0 ≤ N.me ∧ N.me < 16) (ht : 0 ≤ N.k.term ∧ N.k.term ≤ 1152921504606846976) (hd : N.draws = []) :
    Calls Tryz.prog 86 #[.pointer (some ⟨nb, 0, none⟩)] w (DrP F nb M lb w (.int .i64 N.drawV) { N with draws := N.draws.tail }) := by
  have hv : N.drawV = (7 * N.me + 3 * N.k.term) % 20 := by unfold RN.drawV; rw [hd]
  have hN : ({ N with draws := N.draws.tail } : RN) = N := by rw [hd]; cases N; cases hd; rfl
  rw [hN]
  have c0 := h.c0
  have c1 := h.c1
  obtain ⟨a, c, c11, hI, hc⟩ := h.c11
  rw [hd] at c11
  have hw1 : IntKind.i64.wrap (7 * N.me) = 7 * N.me := by rw [IntKind.wrap_i64]; omega
  have hw2 : IntKind.i64.wrap (3 * N.k.term) = 3 * N.k.term := by rw [IntKind.wrap_i64]; omega
  have hw3 : IntKind.i64.wrap (7 * N.me + 3 * N.k.term) = 7 * N.me + 3 * N.k.term := by rw [IntKind.wrap_i64]; omega
  have hw4 : Int.tmod (7 * N.me + 3 * N.k.term) 20 = N.drawV := by rw [hv]; exact Int.tmod_eq_emod_of_nonneg (by omega)
  have hw5 : IntKind.i64.wrap N.drawV = N.drawV := by rw [IntKind.wrap_i64]; omega
  clear hv
  generalize N.drawV = z at *
  go_enter Tryz.func86, Tryz.ntmps86
  go_wp2_with fail
  go_quiet (fail)
  go_wp2_with fail
  go_ret
  exact ⟨rfl, Stp.refl.drewN _, h.drewN _⟩
set_option maxRecDepth 100000 in
theorem draw_some (F : Nat → Prop) (nb : Nat) (M : NM) (lb : Option Nat) (w : World) (N : RN) (h : ND F nb M lb w N) (d : Int) (l : List Int) (hd : N.draws = d :: l) :
    Calls Tryz.prog 86 #[.pointer (some ⟨nb, 0, none⟩)] w (DrP F nb M lb w (.int .i64 N.drawV) { N with draws := N.draws.tail }) := by
  have hv : N.drawV = if Int.tmod d 20 < 0 then Int.tmod d 20 + 20 else Int.tmod d 20 := by unfold RN.drawV; rw [hd]
  obtain ⟨a, c, c11, hI, hc⟩ := h.c11
  have f11 := h.frz 11
  rw [hd] at c11 hI hc
  have hI0 := hI 0 d rfl
  obtain ⟨g, o, rfl, hg, cd⟩ := hI0
  have hP := h.p11 (some ⟨g, o + 1, none⟩) (c - 1) l hI.tail (by rw [List.length_cons] at hc; omega)
  have hc1 : 1 ≤ c := by rw [List.length_cons] at hc; omega
  rw [hd, List.tail_cons]
  rw [Nat.add_zero] at cd
  have hb1 : -20 < Int.tmod d 20 := by have := Int.lt_tmod_of_pos d (show (0 : Int) < 20 by decide); omega
  have hb2 : Int.tmod d 20 < 20 := Int.tmod_lt_of_pos d (by decide)
  have hw1 : IntKind.i64.wrap (Int.tmod d 20) = Int.tmod d 20 := by rw [IntKind.wrap_i64]; omega
  have hlen : (d :: l).length = l.length + 1 := rfl
  rw [hlen] at c11 hc
  clear hI
  rw [hv]
  clear hv
  have hP0 : l = [] → ND F nb M lb (w.setCell ⟨nb, 11, none⟩ (.slice (some ⟨g, o, none⟩) l.length 0)) { N with draws := l } := fun e => by subst e; exact h.p11 _ 0 [] (IF.nil _ _ _) (Nat.le_refl _)
  have hl0 : c = 1 → l = [] := fun e => by subst e; exact List.length_eq_zero_iff.1 (by omega)
  by_cases hz : Int.tmod d 20 < 0
  · rw [if_pos hz]
    have hw2 : IntKind.i64.wrap (Int.tmod d 20 + 20) = Int.tmod d 20 + 20 := by rw [IntKind.wrap_i64]; omega
    have hdz : decide (Int.tmod d 20 < 0) = true := decide_eq_true hz
    by_cases hc2 : c = 1
    · have hl := hl0 hc2
      have hP1 := hP0 hl
      subst hl hc2
      clear hP hP0 hl0
      go_enter Tryz.func86, Tryz.ntmps86
      go_wp2_with fail
      go_ret
      exact ⟨rfl, Stp.refl.set _ _, hP1⟩
    · clear hP0 hl0
      have hc3 : ¬ c - 1 = 0 := by omega
      go_enter Tryz.func86, Tryz.ntmps86
      go_wp2_with fail
      go_ret
      exact ⟨rfl, Stp.refl.set _ _, hP⟩
  · rw [if_neg hz]
    have hdz : decide (Int.tmod d 20 < 0) = false := decide_eq_false hz
    by_cases hc2 : c = 1
    · have hl := hl0 hc2
      have hP1 := hP0 hl
      subst hl hc2
      clear hP hP0 hl0
      go_enter Tryz.func86, Tryz.ntmps86
      go_wp2_with fail
      go_ret
      exact ⟨rfl, Stp.refl.set _ _, hP1⟩
    · clear hP0 hl0
      have hc3 : ¬ c - 1 = 0 := by omega
      go_enter Tryz.func86, Tryz.ntmps86
      go_wp2_with fail
      go_ret
      exact ⟨rfl, Stp.refl.set _ _, hP⟩
/-- What a replica's numbers keep to. -/
structure Bnd (N : RN) : Prop where
  me : 0 ≤ N.me ∧ N.me < 16
  term : 0 ≤ N.k.term ∧ N.k.term ≤ 1152921504606846976
  bi : 0 ≤ N.k.bi
  last : N.k.bi + (N.k.log.length : Nat) ≤ 1152921504606846976
  bt : -9223372036854775808 ≤ N.k.bt ∧ N.k.bt ≤ 9223372036854775807
  base : N.k.base.length ≤ 140737488355328
  bconf : N.k.bconf.length ≤ 17592186044416
  log : N.k.log.length ≤ 68719476736
  keys : N.keys.length ≤ 16
  commit : N.k.bi ≤ N.commit ∧ N.commit ≤ N.last
  next : ∀ x, 0 ≤ N.next x ∧ N.next x ≤ 1152921504606846977
  had : ∀ x, 0 ≤ N.had x ∧ N.had x ≤ 1152921504606846977
  ends : ∀ x, 0 ≤ N.ends x ∧ N.ends x ≤ 2147483647
theorem drawV_lt {N : RN} (h : Bnd N) : 0 ≤ N.drawV ∧ N.drawV < 20 := by
  have h1 := h.me
  have h2 := h.term
  unfold RN.drawV
  split
  · omega
  · rename_i d l _
    have hb1 : -20 < Int.tmod d 20 := by have := Int.lt_tmod_of_pos d (show (0 : Int) < 20 by decide); omega
    have hb2 : Int.tmod d 20 < 20 := Int.tmod_lt_of_pos d (by decide)
    split <;> omega
theorem draw_any (F : Nat → Prop) (nb : Nat) (M : NM) (lb : Option Nat) (w : World) (N : RN) (h : ND F nb M lb w N) (hb : Bnd N) :
    Calls Tryz.prog 86 #[.pointer (some ⟨nb, 0, none⟩)] w (DrP F nb M lb w (.int .i64 N.drawV) { N with draws := N.draws.tail }) := by
  cases hd : N.draws with
  | nil => rw [← hd]; exact draw_none F nb M lb w N h hb.me hb.term hd
  | cons d l => rw [← hd]; exact draw_some F nb M lb w N h d l hd
set_option maxRecDepth 100000 in
theorem begin_any (F : Nat → Prop) (nb : Nat) (M : NM) (lb : Option Nat) (w : World) (N : RN) (h : ND F nb M lb w N) (hb : Bnd N) :
    Calls Tryz.prog 62 #[.pointer (some ⟨nb, 0, none⟩)] w (DrP F nb M lb w (.tuple #[]) N.begin) := by
  have HD := draw_any F nb M lb w N h hb
  have hd := drawV_lt hb
  have hw1 : IntKind.i64.wrap (10 + N.drawV) = 10 + N.drawV := by rw [IntKind.wrap_i64]; omega
  have hbg : N.begin = { N with ticks := 0, wait := 10 + N.drawV, draws := N.draws.tail } := rfl
  rw [hbg]
  clear hbg
  generalize N.drawV = z at *
  go_enter Tryz.func62, Tryz.ntmps62
  go_wp2_with (go_at_call 86; refine HD.mono ?_; rintro e w1 ⟨rfl, hS, hN⟩; have c12 := hN.c12; have c13 := hN.c13; have f12 := hN.frz 12; have f13 := hN.frz 13; clear HD)
  go_end0
  exact ⟨rfl, (hS.set _ _).set _ _, (hN.p13 0).p12 _⟩
end Go.Proofs.YtnhlejdilldfaaaGreat
