/- What copyCheck and WriteString of a strings.Builder do at this program. What inTurn does: step behind step, up to the first one that fails. What struck and isFull of a disk do, where no fall is planned. -/
import Derived.Test.YtaiiojbakmminaaGreatDoorWsh
import Derived.Test.YtaiiojbakmminaaGreatDoorUfr
import Derived.Test.YtaiiojbakmminaaGreatDoorTsl
import Derived.Test.YtaiiojbakmminaaGreatDoorChecked
import Derived.Test.YtaiiojbakmminaaGreatDoorKUse
namespace Go.Proofs.YtaiiojbakmminaaGreatDoor
open Go Go.RowKit Go.Shelf
theorem bSize : (Tryz.prog.info? 100).map (·.size) = some 2 := by kernel_rfl
theorem bLies : liesAt Tryz.prog Tryz.prog.depth 100 (2 / Tryz.prog.cellsOf 100) 0 100 1 = true := by kernel_rfl
theorem bByte : (Tryz.prog.info? 5).map (fun i => (i.zero, i.size, i.bytes)) = some (some (.int .u8 0), 1, 1) := by kernel_rfl
set_option maxHeartbeats 1000000 in
set_option maxRecDepth 100000 in
theorem bCheck_used (b : Nat) (w : World) (h0 : w.cell? ⟨b, 0, none⟩ = some (.pointer (some ⟨b, 0, none⟩))) :
    Calls Tryz.prog 97 #[.pointer (some ⟨b, 0, none⟩)] w fun e w' => e = .returned (.tuple #[]) ∧ w' = w := by
  obtain ⟨j, hj, _⟩ := Option.map_eq_some_iff.1 bSize
  go_enter Tryz.func97, Tryz.ntmps97
  go_wp2
  rw [Lib.run_neq_ptr_same w _ Tryz.underlying98 hj]
  go_wp2
  go_end0
  exact ⟨rfl, rfl⟩
set_option maxHeartbeats 1000000 in
set_option maxRecDepth 100000 in
theorem bCheck_fresh (b : Nat) (w : World) (h0 : w.cell? ⟨b, 0, none⟩ = some (.pointer none)) (hsh : w.shape? b = some (100, 2)) (hfz : w.frozen? ⟨b, 0, none⟩ = false) :
    Calls Tryz.prog 97 #[.pointer (some ⟨b, 0, none⟩)] w fun e w' => e = .returned (.tuple #[]) ∧ w' = w.setCell ⟨b, 0, none⟩ (.pointer (some ⟨b, 0, none⟩)) := by
  obtain ⟨j, hj, hjs⟩ := Option.map_eq_some_iff.1 bSize
  go_enter Tryz.func97, Tryz.ntmps97
  go_wp2
  rw [Lib.run_to_unsafe w ⟨b, 0, none⟩ Tryz.underlying98 Tryz.underlying144 hj (by rw [hjs]; decide) hsh (Nat.zero_lt_succ 1)]
  simp only [Result.andThen]
  rw [Oper.upon_value]
  go_wp2
  rw [run_callFunc_extern Tryz.func119 (by kernel_rfl) (by kernel_rfl) (by kernel_rfl) (e := Extern.AbiNoEscape.same) (by kernel_rfl)]
  rw [Lib.run_noEscape]
  simp only [Result.andThen]
  rw [Oper.upon_value]
  go_wp2
  rw [Lib.run_from_unsafe w ⟨b, 0, none⟩ Tryz.underlying144 Tryz.underlying98 hj hsh bLies]
  simp only [Result.andThen]
  rw [Oper.upon_value]
  go_wp2
  go_end0
  exact ⟨rfl, rfl⟩
theorem bCheck (B b : Nat) (bs : List Value) (w : World) (h : Lib.IsBuilder 100 5 B b bs w) :
    Calls Tryz.prog 97 #[.pointer (some ⟨b, 0, none⟩)] w fun e w' => e = .returned (.tuple #[]) ∧ (Lib.BuilderAt 100 5 B b (.pointer (some ⟨b, 0, none⟩)) bs w' ∧ Below B w w') := by
  rcases h with h | h
  · refine (bCheck_fresh b w h.cell0 h.shape h.frozen0).mono ?_
    rintro e w' ⟨rfl, rfl⟩
    exact ⟨rfl, h.used _, (Below.refl B w).setCell (p := ⟨b, 0, none⟩) h.1 _⟩
  · refine (bCheck_used b w h.cell0).mono ?_
    rintro e w' ⟨rfl, rfl⟩
    exact ⟨rfl, h, Below.refl B _⟩
set_option maxHeartbeats 2000000 in
set_option maxRecDepth 100000 in
theorem bWrite (B b : Nat) (bs : List Value) (s : ByteArray) (w : World) (h : Lib.IsBuilder 100 5 B b bs w) (hlen : bs.length + s.size ≤ 140737488355328) (hBw : B ≤ w.heap.size) :
    Calls Tryz.prog 69 #[.pointer (some ⟨b, 0, none⟩), .string s] w fun e w' => e = .returned (.tuple #[.int .i64 s.size, .nilIface]) ∧ (Lib.BuilderAt 100 5 B b (.pointer (some ⟨b, 0, none⟩)) (bs ++ Lib.strCells s) w' ∧ Below B w w') := by
  obtain ⟨i0, hi, hz0, hz1, hz2⟩ := info_parts bByte
  have HC := bCheck B b bs w h
  go_enter Tryz.func69, Tryz.ntmps69
  go_wp2_with (go_at_call 97; refine HC.mono ?_)
  rintro e w1 ⟨rfl, h1, hb1⟩
  obtain ⟨hB, v, hbk, hown, hne⟩ := h1
  have c0 : w1.cell? ⟨b, 0, none⟩ = some (.pointer (some ⟨b, 0, none⟩)) := by rw [Lib.cell_of_heap hbk]; rfl
  have c1 : w1.cell? ⟨b, 1, none⟩ = some v := by rw [Lib.cell_of_heap hbk]; rfl
  go_wp2_with (at_builtin; refine Lib.wpList_append_own_string _ rfl _ _ 50 9 rfl B 5 i0 Tryz.underlying50 Tryz.underlying9 hi hz0 hz1 hz2 _ _ _ rfl hown s rfl ?c3 ?c4 ?c5 ?_)
  case c3 => unfold maxLen; omega
  case c4 => omega
  case c5 => have := hb1.size; omega
  intro v' w2 hown' hgrow _
  have hlt : b < w1.heap.size := by
    rcases Nat.lt_or_ge b w1.heap.size with h' | h'
    · exact h'
    · simp [Array.getElem?_eq_none h'] at hbk
  have hb2 : w2.heap[b]? = some (.cells #[.pointer (some ⟨b, 0, none⟩), v] 100 (0, 0)) := by
    rw [hgrow.block b hlt (fun e => hne e.symm)]
    exact hbk
  have d0 : w2.cell? ⟨b, 0, none⟩ = some (.pointer (some ⟨b, 0, none⟩)) := by rw [Lib.cell_of_heap hb2]; rfl
  have d1 : w2.cell? ⟨b, 1, none⟩ = some v := by rw [Lib.cell_of_heap hb2]; rfl
  have f1 : w2.frozen? ⟨b, 1, none⟩ = false := Lib.frozen_of_heap hb2 1
  obtain ⟨ao, n', cap, rfl⟩ : ∃ ao n' cap, v' = .slice ao n' cap := by
    rcases hown'.2 with ⟨hv, _⟩ | ⟨g, cap, cur, hv, _⟩
    · exact ⟨_, _, _, hv⟩
    · exact ⟨_, _, _, hv⟩
  go_wp2
  go_ret2
  refine ⟨rfl, ?_, ?_⟩
  · exact Lib.BuilderAt.put (T := 100) (e := 5) hB hb2 (bs' := bs ++ Lib.strCells s) (by simpa [Lib.strCells_length] using hown') (by decide)
  · exact (hb1.grown hgrow (by have := hb1.size; omega) (fun k hk => (hown.lt k hk).1)).setCell (p := ⟨b, 1, none⟩) hB _
end Go.Proofs.YtaiiojbakmminaaGreatDoor
namespace Go.Proofs.YtaiiojbakmminaaGreatDoor
open Go Go.RowKit
/-- A function of the program that can be called. -/
structure Fn1 (P : Program) (g : Nat) : Prop where
  out : ∃ fn, P.funcs[g]? = some fn ∧ (fn.name == "runtime.NumGoroutine") = false ∧ fn.body.isNone = false
theorem run_callV {P : Program} {g : FuncId} {op : Oper} {a : Act} {w : World} (hf : Fn1 P g) (x : Operand) (ho : op.op = .call { callee := .value x, args := #[], argTypes := #[] }) (fs lb : Array Value) (hx : a.eval x = .func (.func g) fs lb) :
    (execOp a.eval op).run P w = .ok (.enter g (fs ++ lb)) w := by
  obtain ⟨fn, h1, h2, h3⟩ := hf.out
  unfold execOp
  simp only [ho]
  have hn' : ¬ fn.name = "runtime.NumGoroutine" := by simpa using h2
  have hb' : ¬ fn.body = none := fun e => by rw [e] at h3; cases h3
  simp [resolve, invoke, Deferred.ofValue, callFunc, hx, h1, hn', hb']
theorem wpList_callV {P : Program} {ops : Array Oper} {Q : Exit → Act → World → Prop} {rest : List Oper} {op : Oper} {a : Act} {w : World} {g : FuncId} (hf : Fn1 P g) (hgd : op.guard = none) (x : Operand) (ho : op.op = .call { callee := .value x, args := #[], argTypes := #[] }) (fs lb : Array Value) (hx : a.eval x = .func (.func g) fs lb)
    (R : Ending → World → Prop) (hc : Calls P g (fs ++ lb) w R) (h : ∀ e w', R e w' → ∃ v, e = .returned v ∧ wpList P ops Q rest (a.put op.dst v) w') : wpList P ops Q (op :: rest) a w := by
  refine wpList_plain hgd fun K hK => ?_
  unfold Oper.wp
  rw [run_callV hf x ho fs lb hx, Oper.upon_enter]
  refine hc.mono fun e w'' hh => ?_
  obtain ⟨v, rfl, h2⟩ := h e w'' hh
  exact hK _ _ h2
/-- A step's value, and what is called by it. -/
structure Stp (P : Program) (v : Value) (g : Nat) (args : Array Value) : Prop where
  fn : Fn1 P g
  out : ∃ fs lb, v = .func (.func g) fs lb ∧ fs ++ lb = args
theorem fn1_of {P : Program} {g : Nat} {fn : Func} (h : P.funcs[g]? = some fn) (h2 : (fn.name == "runtime.NumGoroutine") = false) (h3 : fn.body.isNone = false) : Fn1 P g := ⟨fn, h, h2, h3⟩
set_option maxRecDepth 100000 in
set_option maxHeartbeats 1000000 in
theorem inTurn_rule (ad : Option Addr) (n cap : Nat) (vs : Nat → Value) (Rel : Nat → World → Prop) (Post : Nat → World → Prop) (w : World) (hn : n ≤ 1000000)
    (hcells : ∀ i w, Rel i w → i < n → ∃ b o, ad = some ⟨b, o, none⟩ ∧ w.cell? ⟨b, o + i, none⟩ = some (vs i))
    (hstep : ∀ i w, Rel i w → i < n → ∃ g args, Stp Tryz.prog (vs i) g args ∧ Calls Tryz.prog g args w (fun e w' => ∃ c : Nat, e = .returned (.int .i64 (c : Nat)) ∧ (c = 0 → Rel (i + 1) w') ∧ (c ≠ 0 → Post c w')))
    (hend : ∀ w, Rel n w → Post 0 w) (h0 : Rel 0 w) :
    Calls Tryz.prog 37 #[.slice ad n cap] w (fun e w' => ∃ c : Nat, e = .returned (.int .i64 (c : Nat)) ∧ Post c w') := by
  go_enter Tryz.func37, Tryz.ntmps37
  go_wp2_with fail
  go_loopw [4, 5, 8] (fun _ _ v8 wl => ∃ i : Nat, i ≤ n ∧ v8 = .int .i64 i ∧ Rel i wl) (fun _ _ v8 _ => n - (intOf v8).toNat)
  case atStart => exact ⟨0, by omega, rfl, h0⟩
  case round =>
    obtain ⟨i, hin, rfl, hR⟩ := hrel
    by_cases hlt : i < n
    · have hz2 : (i : Int) < (n : Int) := by omega
      obtain ⟨b, o, rfl, hc⟩ := hcells i wr hR hlt
      obtain ⟨g, args, hs, hC⟩ := hstep i wr hR hlt
      obtain ⟨fs, lb, hv, hargs⟩ := hs.out
      have hfn := hs.fn
      rw [hv] at hc
      rw [← hargs] at hC
      clear hs hR hargs
      go_wp2_with (with_reducible refine at_list ?_; refine wpList_callV (op := ⟨some 13, _, _, _, _, _⟩) hfn rfl _ rfl fs lb rfl _ hC ?_; rintro e w2 ⟨c, rfl, h1, h2⟩; refine ⟨_, rfl, ?_⟩)
      · go_ret
        exact ⟨c, rfl, h2 (fun e => by subst e; simp_all)⟩
      · have hc0 : c = 0 := by
          apply Classical.byContradiction
          intro hne
          have : ¬ (c : Int) = 0 := by omega
          simp_all
        exact ⟨⟨i + 1, by omega, by go_num, h1 hc0⟩, by simp [intOf]; omega⟩
    · have hin2 : i = n := by omega
      subst hin2
      clear hstep hcells
      go_wp2_with fail
      go_ret
      exact ⟨0, rfl, hend _ hR⟩
end Go.Proofs.YtaiiojbakmminaaGreatDoor
namespace Go.Proofs.YtaiiojbakmminaaGreatDoor
open Go Go.RowKit
/-- A fall that is planned: when, which are kept, how much of one is torn. -/
structure FA where
  at_ : Int
  keep : Int
  torn : Int
def faC (f : FA) : List Value := [.int .i64 f.at_, .int .i64 f.keep, .int .i64 f.torn]
/-- The value v is a slice of that one fall. -/
structure PlA (w : World) (v : Value) (f : FA) : Prop where
  out : ∃ g o cap cur fr, v = .slice (some ⟨g, o, none⟩) 1 cap ∧ 1 ≤ cap ∧ w.heap[g]? = some (.cells cur 32 fr) ∧ ∀ j u, (faC f)[j]? = some u → cur[o + j]? = some u
theorem PlA.below {w w' : World} {v : Value} {f : FA} (h : PlA w v f) (hb : Below w.heap.size w w') : PlA w' v f := by
  obtain ⟨g, o, cap, cur, fr, h1, h2, h3, h4⟩ := h.out
  exact ⟨g, o, cap, cur, fr, h1, h2, (hb.block g (Array.getElem?_eq_some_iff.1 h3).1).trans h3, h4⟩
/-- No fall strikes at the next change. -/
def Calm (w : World) (m : DM) : Prop := (∃ a c, m.pv = .slice a 0 c) ∨ ∃ f : FA, PlA w m.pv f ∧ (m.ch : Int) < f.at_
theorem Calm.below {w w' : World} {m : DM} (h : Calm w m) (hb : Below w.heap.size w w') : Calm w' m := by
  rcases h with h | ⟨f, h1, h2⟩
  · exact .inl h
  · exact .inr ⟨f, h1.below hb, h2⟩
set_option maxRecDepth 100000 in
set_option maxHeartbeats 2000000 in
theorem struck_none (p : Nat) (b : Option Nat) (m : DM) (w : World) (h : DK w p b m) (hc : m.ch ≤ 1000000) (a : Option Addr) (cp : Nat) (hpv : m.pv = .slice a 0 cp) :
    Calls Tryz.prog 74 #[.pointer (some ⟨p, 0, none⟩)] w fun e w' => e = .returned (.bool false) ∧ Chg w w' p b b ∧ DK w' p b { m with ch := m.ch + 1 } := by
  obtain ⟨sl, hD, hF, hb⟩ := h.out
  have c4 : w.cell? ⟨p, 4, none⟩ = some (.slice a 0 cp) := (hD.cell 4).trans ((dC_g4 _ _).trans (congrArg some hpv))
  have hw1 : IntKind.i64.wrap ((m.ch : Int) + 1) = ((m.ch + 1 : Nat) : Int) := by rw [IntKind.wrap_i64]; omega
  clear hpv
  go_enter Tryz.func74, Tryz.ntmps74
  go_wp2_with fail
  go_loopw [4] (fun _ wl => wl = w) (fun _ _ => 0)
  case atStart => rfl
  case round =>
    have hw2 := hrel.symm
    subst hw2
    clear hrel
    go_wp2_with fail
    go_region
    go_wp2_with fail
    go_region
    have hD2 := hD.drew.drew
    have hF2 := hF.drew.drew
    have hB2 : Below w.heap.size w w.drew.drew := (Below.refl _ w).drew.drew
    go_wp2_with (with_reducible refine at_list ?_; first
      | (refine wpList_loadCell (op := ⟨some 55, _, _, _, _, _⟩) rfl _ _ rfl p 5 rfl _ _ hD2 _ Tryz.underlying3 rfl _ (dC_g5 _ _) ?_)
      | (refine wpList_storeCell (op := ⟨none, .store 3 (.tmp 58) (.tmp 56), _, _, _, _⟩) rfl _ _ _ rfl p 5 rfl (.int .i64 ((m.ch + 1 : Nat) : Int)) rfl _ _ hD2 iInt rfl rfl (by rw [dC_size]; decide) ?_; intro w1 hg1 hs1 hD3; rw [dC_s5] at hD3))
    go_ret
    exact ⟨rfl, (Chg.below hB2).trans (Chg.own hg1), ⟨sl, hD3, hF2.grown hg1 (hF2.ne hD2 (by decide)), hb⟩⟩
set_option maxRecDepth 100000 in
set_option maxHeartbeats 2000000 in
theorem struck_later (p : Nat) (b : Option Nat) (m : DM) (w : World) (h : DK w p b m) (hc : m.ch ≤ 1000000) (f : FA) (hP : PlA w m.pv f) (hlt : (m.ch : Int) < f.at_) :
    Calls Tryz.prog 74 #[.pointer (some ⟨p, 0, none⟩)] w fun e w' => e = .returned (.bool false) ∧ Chg w w' p b b ∧ DK w' p b { m with ch := m.ch + 1 } := by
  obtain ⟨sl, hD, hF, hb⟩ := h.out
  obtain ⟨g, o, cap, cur, fr, hpv, hcap, hg, hcell⟩ := hP.out
  have c4 : w.cell? ⟨p, 4, none⟩ = some (.slice (some ⟨g, o, none⟩) 1 cap) := (hD.cell 4).trans ((dC_g4 _ _).trans (congrArg some hpv))
  have c5 : w.cell? ⟨p, 5, none⟩ = some (.int .i64 (m.ch : Nat)) := (hD.cell 5).trans (dC_g5 _ _)
  have cA : w.cell? ⟨g, o, none⟩ = some (.int .i64 f.at_) := by
    simp only [World.cell?, hg]
    exact hcell 0 _ rfl
  have hw1 : IntKind.i64.wrap ((m.ch : Int) + 1) = ((m.ch + 1 : Nat) : Int) := by rw [IntKind.wrap_i64]; omega
  have d1 : decide (f.at_ < (m.ch : Int)) = false := decide_eq_false (by omega)
  have d2 : decide ((m.ch : Int) < f.at_) = true := decide_eq_true hlt
  clear hpv hcell hg hP
  go_enter Tryz.func74, Tryz.ntmps74
  go_wp2_with fail
  go_loopw [4] (fun _ wl => wl = w) (fun _ _ => 0)
  case atStart => rfl
  case round =>
    have hw2 := hrel.symm
    subst hw2
    clear hrel
    go_wp2_with fail
    go_region
    go_wp2_with fail
    go_region
    have hD2 := hD.drew.drew
    have hF2 := hF.drew.drew
    have hB2 : Below w.heap.size w w.drew.drew := (Below.refl _ w).drew.drew
    go_wp2_with (with_reducible refine at_list ?_; first
      | (refine wpList_loadCell (op := ⟨some 55, _, _, _, _, _⟩) rfl _ _ rfl p 5 rfl _ _ hD2 _ Tryz.underlying3 rfl _ (dC_g5 _ _) ?_)
      | (refine wpList_storeCell (op := ⟨none, .store 3 (.tmp 58) (.tmp 56), _, _, _, _⟩) rfl _ _ _ rfl p 5 rfl (.int .i64 ((m.ch + 1 : Nat) : Int)) rfl _ _ hD2 iInt rfl rfl (by rw [dC_size]; decide) ?_; intro w1 hg1 hs1 hD3; rw [dC_s5] at hD3))
    go_ret
    exact ⟨rfl, (Chg.below hB2).trans (Chg.own hg1), ⟨sl, hD3, hF2.grown hg1 (hF2.ne hD2 (by decide)), hb⟩⟩
theorem struck_any (p : Nat) (b : Option Nat) (m : DM) (w : World) (h : DK w p b m) (hc : m.ch ≤ 1000000) (hp : Calm w m) :
    Calls Tryz.prog 74 #[.pointer (some ⟨p, 0, none⟩)] w fun e w' => e = .returned (.bool false) ∧ Chg w w' p b b ∧ DK w' p b { m with ch := m.ch + 1 } := by
  rcases hp with ⟨a, c, e⟩ | ⟨f, h1, h2⟩
  · exact struck_none p b m w h hc a c e
  · exact struck_later p b m w h hc f h1 h2
/-- Is there no room for so many bytes more? -/
def fullE (m : DM) (d : Int) : Bool := m.lim && decide (0 < d) && decide (m.room - (usedL m.l : Nat) < d)
set_option maxRecDepth 100000 in
set_option maxHeartbeats 2000000 in
theorem isFull_any (p : Nat) (b : Option Nat) (m : DM) (d : Int) (w : World) (h : DK w p b m) (hl : m.l.length ≤ 1000000) (hu : usedL m.l ≤ 1000000000000) (hr : m.lim = true → 0 ≤ m.room ∧ m.room ≤ 9223372036854775807) :
    Calls Tryz.prog 86 #[.pointer (some ⟨p, 0, none⟩), .int .i64 d] w fun e w' => e = .returned (.bool (fullE m d)) ∧ Below w.heap.size w w' := by
  have HU := fun w1 (hB : Below w.heap.size w w1) => used_any p b m w1 (h.below hB) hl hu
  obtain ⟨sl, hD, hF, hb⟩ := h.out
  have c2 : w.cell? ⟨p, 2, none⟩ = some (.bool m.lim) := (hD.cell 2).trans (dC_g2 _ _)
  have c3 : w.cell? ⟨p, 3, none⟩ = some (.int .i64 m.room) := (hD.cell 3).trans (dC_g3 _ _)
  unfold fullE
  have hp := hD.lt
  clear hD hF hb h
  generalize m.lim = li at *
  cases li with
  | false =>
    simp only [Bool.false_and]
    clear HU c3 hr
    go_enter Tryz.func86, Tryz.ntmps86
    go_wp2_with fail
    go_region
    go_wp2_with fail
    go_ret
    exact ⟨rfl, (Below.refl _ _).drew⟩
  | true =>
    simp only [Bool.true_and]
    obtain ⟨hr1, hr2⟩ := hr rfl
    clear hr
    by_cases hd : 0 < d
    · have hd0 : decide (0 < d) = true := decide_eq_true hd
      rw [hd0, Bool.true_and]
      generalize usedL m.l = u at *
      generalize m.room = r at *
      have hw1 : IntKind.i64.wrap (r - (u : Int)) = r - (u : Int) := by rw [IntKind.wrap_i64]; omega
      go_enter Tryz.func86, Tryz.ntmps86
      go_wp2_with fail
      go_region_held3 (fun w' => w'.cell? ⟨p, 2, none⟩ = some (.bool true) ∧ w'.cell? ⟨p, 3, none⟩ = some (.int .i64 r)) ((go_split_ands; first | exact ⟨c2, c3⟩ | exact ⟨(hw1'.cell (by simpa using hp)).trans c2, (hw1'.cell (by simpa using hp)).trans c3⟩)) ((go_at_call 33; refine (HU _ ((Below.refl _ w).drew)).mono ?_; rintro e w1 ⟨rfl, hw1'⟩))
      go_wp2_with fail
      go_ret
      exact ⟨rfl, (Below.refl _ w).drew.trans hw1'⟩
    · have hd0 : decide (0 < d) = false := decide_eq_false hd
      rw [hd0, Bool.false_and]
      clear HU c3
      go_enter Tryz.func86, Tryz.ntmps86
      go_wp2_with fail
      go_region
      go_wp2_with fail
      go_ret
      exact ⟨rfl, (Below.refl _ _).drew⟩
end Go.Proofs.YtaiiojbakmminaaGreatDoor
