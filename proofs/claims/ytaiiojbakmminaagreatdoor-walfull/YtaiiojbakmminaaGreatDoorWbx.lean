/- What may be of a disk stays through its changes; sweeping plainly. Variables of one cell that are boxed, and slices of functions. -/
import Derived.Test.YtaiiojbakmminaaGreatDoorKNd
import Derived.Test.YtaiiojbakmminaaGreatDoorWre
namespace Go.Proofs.YtaiiojbakmminaaGreatDoor
open Go Go.RowKit
theorem lay_mem {n : B} {c : Option B} {h : Nat} {l : List F} (hr : Ris l) {f : F} (hf : f ∈ lay n c h l) : f ∈ l ∨ (f.is = c ∧ f.name = n ∧ (f.sure = none ∨ ∃ f0 ∈ l, f.sure = f0.sure)) := by
  obtain ⟨A, T, rfl, hp, hA, ⟨hfn, f0, R, rfl, hn2, hR⟩ | ⟨hfn, hT⟩⟩ := split_at n l hr
  · rw [lay_found hfn hp] at hf
    split at hf
    · exact .inl (mem_skip hf)
    · rcases List.mem_append.1 hf with h1 | h1
      · exact .inl (List.mem_append_left _ h1)
      · rcases List.mem_cons.1 h1 with rfl | h1
        · exact .inr ⟨rfl, hn2, .inr ⟨f0, by simp, rfl⟩⟩
        · exact .inl (by simp [h1])
  · rw [lay_new hfn hp] at hf
    split at hf
    · exact .inl hf
    · rcases List.mem_append.1 hf with h1 | h1
      · exact .inl (List.mem_append_left _ h1)
      · rcases List.mem_cons.1 h1 with rfl | h1
        · exact .inr ⟨rfl, rfl, .inl rfl⟩
        · exact .inl (List.mem_append_right _ h1)
theorem lay_used (n : B) (c : Option B) (h : Nat) (l : List F) (hr : Ris l) : usedL (lay n c h l) + (kbyt (atL n l)).length = usedL l + (kbyt c).length := by
  rw [used_now, lay_now n c h l hr, used_now, at_now n l hr]
  exact usedP_put (now_ris hr)
theorem at_lay {n x : B} {c : Option B} {h : Nat} {l : List F} {ok : B → Bool} (hl : Okl ok l) (hn : ok n = true) : atL x (lay n c h l) = if x = n then c else atL x l := by
  rw [at_now x _ (lay_ok (c := c) (h := h) hl hn).ris, lay_now n c h l hl.ris, getP_put, at_now x l hl.ris]
theorem okn_chg {m : DN} {n : B} {c : Option B} {h : Nat} (hm : Okn m) (hh : hitN m = none) (hn : okN n = true) (hlen : m.l.length + 1 ≤ 999000) (hch : m.ch + 1 ≤ 999000) (hu : usedL m.l + (kbyt c).length ≤ 100000000000) : Okn { m with ch := m.ch + 1, l := lay n c h m.l } := by
  have h1 := lay_used n c h m.l hm.l.ris
  have h2 := lay_len n c h m.l hm.l.ris
  refine ⟨lay_ok hm.l hn, ?_, ?_, hch, hm.room, fun f hf => ?_, fun f hf => ?_⟩
  · show (lay n c h m.l).length ≤ _
    omega
  · show usedL (lay n c h m.l) ≤ _
    omega
  · rcases lay_mem hm.l.ris hf with h3 | ⟨h3, _, h4⟩
    · exact hm.by_ f h3
    · refine ⟨by rw [h3]; omega, ?_⟩
      rcases h4 with h4 | ⟨f0, h5, h6⟩
      · rw [h4]; simp [kbyt]
      · rw [h6]; exact (hm.by_ f0 h5).2
  · have h3 := hm.pl f hf
    refine ⟨?_, h3.2⟩
    have h4 := h3.1
    unfold hitN at hh
    rw [show m.pl = some f from hf] at hh
    dsimp only at hh
    split at hh
    · cases hh
    · show ((m.ch + 1 : Nat) : Int) ≤ _
      omega
theorem okn_syn {m : DN} (hm : Okn m) : Okn (synN m).1 := by
  unfold synN
  split
  · exact hm
  · have h1 := settle_len m.l
    have h2 := hm.len
    refine ⟨settle_ok hm.l, ?_, ?_, hm.ch, hm.room, fun f hf => ?_, hm.pl⟩
    · show (settleL m.l).length ≤ _
      omega
    · show usedL (settleL m.l) ≤ _
      rw [settle_mk, used_mk, ← used_now]
      exact hm.used
    · change f ∈ settleL m.l at hf
      unfold settleL liveL at hf
      obtain ⟨f0, h3, rfl⟩ := List.mem_map.1 (List.mem_filter.1 hf).1
      exact ⟨(hm.by_ f0 h3).1, (hm.by_ f0 h3).1⟩
/-- A change that is told as done: no fall struck, there was power. -/
theorem chg_ok {m : DN} {l' : List F} (h : (chgN m l').2 = 0) : hitN m = none ∧ chgN m l' = ({ m with ch := m.ch + 1, l := l' }, 0) := by
  unfold chgN at *
  cases hh : hitN m with
  | none => exact ⟨rfl, rfl⟩
  | some f => rw [hh] at h; cases h
theorem rem_ok {m : DN} {x : B} (h : (remN m x).2 = 0) : m.dead = false ∧ hitN m = none ∧ remN m x = ({ m with ch := m.ch + 1, l := lay x none 4 m.l }, 0) := by
  unfold remN at *
  by_cases hd : m.dead = true
  · rw [if_pos hd] at h; cases h
  · rw [if_neg hd] at h ⊢
    exact ⟨by simpa using hd, chg_ok h⟩
/-- Files taken away, up to the first one that fails. -/
def swpN : DN → List B → DN × Nat
  | m, [] => (m, 0)
  | m, x :: r => if (remN m x).2 = 0 then swpN (remN m x).1 r else remN m x
def othL (g : Nat) (m : DN) : List B := (namesL m.l).filter (othK g)
/-- What sweep leaves. -/
def sweepN (g : Nat) (m : DN) : DN × Nat := if othL g m = [] then (m, 0) else if (swpN m (othL g m)).2 = 0 then synN (swpN m (othL g m)).1 else swpN m (othL g m)
theorem names_at {l : List F} (hr : Ris l) {x : B} : x ∈ namesL l ↔ (atL x l).isSome = true := by
  rw [at_now x l hr]
  exact getP_name.symm
theorem names_ris {l : List F} (hr : Ris l) : (namesL l).Pairwise (· < ·) := by
  have := now_ris hr
  unfold namesL
  rw [List.pairwise_map]
  exact this
theorem swp_app : ∀ (m : DN) (l r : List B), swpN m (l ++ r) = if (swpN m l).2 = 0 then swpN (swpN m l).1 r else swpN m l
  | m, [], r => by simp [swpN]
  | m, x :: l, r => by
    rw [List.cons_append, swpN, swpN]
    by_cases h : (remN m x).2 = 0
    · rw [if_pos h, if_pos h, swp_app]
    · rw [if_neg h, if_neg h, if_neg h]
theorem swp_one (m : DN) (x : B) : swpN m [x] = remN m x := by
  rw [swpN]
  by_cases h : (remN m x).2 = 0
  · rw [if_pos h, swpN, ← h]
  · rw [if_neg h]
/-- Behind each step of the sweep that was told as done. -/
theorem swp_take {m : DN} {xs : List B} (hm : Okn m) (hx : ∀ x ∈ xs, okN x = true) (hch : m.ch + xs.length ≤ 990000) (hln : m.l.length + xs.length ≤ 990000) : ∀ i, i ≤ xs.length → (swpN m (xs.take i)).2 = 0 → Okn (swpN m (xs.take i)).1 ∧ (swpN m (xs.take i)).1.ch ≤ m.ch + i ∧ (swpN m (xs.take i)).1.l.length ≤ m.l.length + i ∧ ∀ x, atL x (swpN m (xs.take i)).1.l = if x ∈ xs.take i then none else atL x m.l
  | 0, _, _ => ⟨hm, by simp [swpN], by simp [swpN], fun x => by simp [swpN]⟩
  | i + 1, hi, h0 => by
    have hlt : i < xs.length := hi
    have e1 : xs.take (i + 1) = xs.take i ++ [xs[i]] := List.take_succ_eq_append_getElem hlt
    rw [e1, swp_app] at h0 ⊢
    by_cases hp : (swpN m (xs.take i)).2 = 0
    · rw [if_pos hp, swp_one] at h0 ⊢
      obtain ⟨k1, k2, k3, k4⟩ := swp_take hm hx hch hln i (Nat.le_of_lt hlt) hp
      generalize (swpN m (xs.take i)).1 = mi at *
      obtain ⟨r1, r2, r3⟩ := rem_ok h0
      have hxo := hx xs[i] (List.getElem_mem hlt)
      have hu := k1.used
      rw [r3]
      refine ⟨okn_chg k1 r2 hxo (by omega) (by omega) (by simp [kbyt]; omega), by show mi.ch + 1 ≤ _; omega, ?_, fun x => ?_⟩
      · have := lay_len xs[i] none 4 mi.l k1.l.ris
        show (lay xs[i] none 4 mi.l).length ≤ _
        omega
      · show atL x (lay xs[i] none 4 mi.l) = _
        rw [at_lay k1.l hxo, k4 x]
        by_cases hxi : x = xs[i]
        · rw [if_pos hxi, if_pos (List.mem_append_right _ (List.mem_singleton.2 hxi))]
        · rw [if_neg hxi]
          by_cases hm2 : x ∈ xs.take i
          · rw [if_pos hm2, if_pos (List.mem_append_left _ hm2)]
          · rw [if_neg hm2, if_neg (fun e => (List.mem_append.1 e).elim hm2 (fun e => hxi (List.mem_singleton.1 e)))]
    · rw [if_neg hp] at h0
      exact absurd h0 hp
end Go.Proofs.YtaiiojbakmminaaGreatDoor
namespace Go.Proofs.YtaiiojbakmminaaGreatDoor
open Go Go.RowKit
section
variable {P : Program} {ops : Array Oper} {rest : List Oper} {op : Oper} {a : Act} {w : World} {Q : Exit → Act → World → Prop}
theorem wpList_box1 (hgd : op.guard = none) (ty : TypeId) (x : Operand) (ho : op.op = .box ty x) (v : Value) (hx : a.eval x = v) (hv : v.cells = #[v])
    (h : ∀ w1 : World, Below w.heap.size w w1 → Blk w1 w.heap.size #[v] ty → wpList P ops Q rest (a.put op.dst (.pointer (some ⟨w.heap.size, 0, none⟩))) w1) :
    wpList P ops Q (op :: rest) a w := by
  refine wpList_run hgd (.pointer (some ⟨w.heap.size, 0, none⟩)) (w.alloc (.cells #[v] ty)) ?_ (h _ ((Below.refl _ _).alloc (Nat.le_refl _) _) (Blk.new _ _ _))
  unfold execOp
  simp only [ho, hx, Instr.box, newVar, hv]
  rfl
theorem wpList_alloc1 (hgd : op.guard = none) (ty : TypeId) (ho : op.op = .alloc ty) (v : Value) (hz : ∀ w, (zeroValue ty).run P w = .ok v w) (hv : v.cells = #[v])
    (h : ∀ w1 : World, Below w.heap.size w w1 → Blk w1 w.heap.size #[v] ty → wpList P ops Q rest (a.put op.dst (.pointer (some ⟨w.heap.size, 0, none⟩))) w1) :
    wpList P ops Q (op :: rest) a w := by
  refine wpList_run hgd (.pointer (some ⟨w.heap.size, 0, none⟩)) (w.alloc (.cells #[v] ty)) ?_ (h _ ((Below.refl _ _).alloc (Nat.le_refl _) _) (Blk.new _ _ _))
  unfold execOp
  simp only [ho, Instr.alloc, Sem.run_bind, hz, Result.andThen_ok, newVar, hv]
  rfl
end
abbrev TF : TypeId := 53
abbrev TFS : TypeId := 97
theorem infoFn : ∃ i, Tryz.prog.info? TF = some i ∧ i.zero = some .nilFunc ∧ i.size = 1 ∧ i.bytes ≤ 256 := by
  have h : (Tryz.prog.info? TF).map (fun i => (i.zero, i.size, decide (i.bytes ≤ 256))) = some (some .nilFunc, 1, true) := by kernel_rfl
  cases hq : Tryz.prog.info? TF with
  | none => rw [hq] at h; cases h
  | some i => rw [hq] at h; simp at h; exact ⟨i, rfl, h.1, h.2.1, h.2.2⟩
theorem iFn : (Tryz.prog.info? TF).map (·.size) = some 1 := by kernel_rfl
/-- A slice of functions that the call has made. -/
def FNL (w : World) (lo : Nat) (sl : Value) (l : List Value) : Prop := GL w TF 1 lo sl (l.map fun f => [f])
theorem FNL.below {w w' : World} {lo : Nat} {sl : Value} {l : List Value} (h : FNL w lo sl l) (hb : Below w.heap.size w w') : FNL w' lo sl l := GL.below h hb
theorem FNL.grow {w w' : World} {lo : Nat} {sl : Value} {l : List Value} (h : FNL w lo sl l) (hg : w.grownBy w' (slBlk sl)) (hlo : lo ≤ w.heap.size) : Below lo w w' := ⟨hg.os, hg.tape, hg.output, hg.size, fun k hk => hg.block k (by omega) (fun e => by have := (GL.lt h k e.symm).1; omega)⟩
theorem FNL.other {w w' : World} {lo i : Nat} {sl : Value} {l : List Value} {c : Array Value} {t : TypeId} (h : FNL w lo sl l) (hg : w.grownBy w' (some i)) (hb : Blk w i c t) (ht : t ≠ TF) : FNL w' lo sl l := GL.grown h hg (GL.ne h hb (.inl ht))
theorem FNL.at {w : World} {lo : Nat} {a : Option Addr} {n cap : Nat} {l : List Value} (h : FNL w lo (.slice a n cap) l) (i : Nat) (x : Value) (hx : l[i]? = some x) : ∃ g, a = some ⟨g, 0, none⟩ ∧ g < w.heap.size ∧ lo ≤ g ∧ w.cell? ⟨g, i, none⟩ = some x := by
  obtain ⟨a', cap', e, h1⟩ := GL.sl h
  simp only [Value.slice.injEq] at e
  obtain ⟨rfl, _, rfl⟩ := e
  obtain ⟨hi, rfl⟩ := List.getElem?_eq_some_iff.1 hx
  obtain ⟨g, ha, h2⟩ := h1 i (by simpa using hi)
  have h3 := GL.lt h g (by rw [ha]; rfl)
  refine ⟨g, ha, h3.2, h3.1, ?_⟩
  have := h2 0 l[i] (by simp)
  simpa using this
theorem FNL.sl {w : World} {lo : Nat} {sl : Value} {l : List Value} (h : FNL w lo sl l) : ∃ a cap, sl = .slice a l.length cap := by
  obtain ⟨a, cap, e, _⟩ := GL.sl h
  exact ⟨a, cap, by rw [e, List.length_map]⟩
theorem fsl1 (f : Fn) (x y : Array Value) (w : World) : (Instr.buildSlice TFS 1 #[(0, .func f x y)]).run Tryz.prog w = .ok (.slice (some ⟨w.heap.size, 0, none⟩) 1 1) (w.alloc (.cells #[.func f x y] TF)) := by
  simp [Instr.buildSlice, run_underlying Tryz.underlying97, sizeOf_run iFn, Sem.run_bind, Instr.fill, newRow, Value.cells, krange1]
section
variable {ops : Array Oper} {rest : List Oper} {op : Oper} {a : Act} {w : World} {Q : Exit → Act → World → Prop}
theorem wpList_fsl1 (hgd : op.guard = none) (x : Operand) (ho : op.op = .buildSlice TFS 1 #[(0, x)]) (f : Fn) (x1 y1 : Array Value) (hx : a.eval x = .func f x1 y1)
    (h : ∀ w1 : World, Below w.heap.size w w1 → Blk w1 w.heap.size #[.func f x1 y1] TF → wpList Tryz.prog ops Q rest (a.put op.dst (.slice (some ⟨w.heap.size, 0, none⟩) 1 1)) w1) : wpList Tryz.prog ops Q (op :: rest) a w := by
  have e : (#[(0, x)] : Array (Nat × Operand)).map (fun (i, x) => (i, a.eval x)) = #[(0, .func f x1 y1)] := by simp [hx]
  refine wpList_run hgd _ _ ?_ (h _ ((Below.refl _ _).alloc (Nat.le_refl _) _) (Blk.new _ _ _))
  unfold execOp
  simp only [ho, Sem.run_bind, e, fsl1 f x1 y1, Result.andThen_ok]
  rfl
theorem wpList_appF (hgd : op.guard = none) (x y : Operand) (ho : op.op = .call { callee := .builtin .append, args := #[x, y], argTypes := #[TFS, TFS] })
    (lo : Nat) (sl : Value) (l : List Value) (hlo : lo ≤ w.heap.size) (hx : a.eval x = sl) (hsl : FNL w lo sl l) (g2 : Nat) (hy : a.eval y = .slice (some ⟨g2, 0, none⟩) 1 1) (v : Value) (hv : v.oneCell' = true) (hb2 : Blk w g2 #[v] TF) (hlen : l.length ≤ 1000000)
    (h : ∀ (w1 : World) (sl1 : Value), w.grownBy w1 (slBlk sl) → FNL w1 lo sl1 (l ++ [v]) → wpList Tryz.prog ops Q rest (a.put op.dst sl1) w1) : wpList Tryz.prog ops Q (op :: rest) a w := by
  obtain ⟨i, hi, hz, hs, hby⟩ := infoFn
  refine wpList_appendGL hgd x y TFS TF ho 1 lo sl _ hlo hx hsl g2 1 hy [v] rfl (fun u hu => by rw [List.mem_singleton.1 hu]; exact hv) TF hb2 i _ rfl Tryz.underlying97 hi hz hs hby (by simpa using hlen) (fun w1 sl1 h1 h2 => h w1 sl1 h1 ?_)
  unfold FNL
  rw [List.map_append]
  exact h2
end
/-- The step of sweep that takes a file away; the step that syncs. -/
def swF (bl bn : Nat) : Value := .func (.func 77) #[] #[.pointer (some ⟨bl, 0, none⟩), .pointer (some ⟨bn, 0, none⟩)]
def syF (p : Nat) : Value := .func (.func 27) #[.pointer (some ⟨p, 0, none⟩)] #[]
theorem sw_stp (bl bn : Nat) : Stp Tryz.prog (swF bl bn) 77 #[.pointer (some ⟨bl, 0, none⟩), .pointer (some ⟨bn, 0, none⟩)] := ⟨fn1_of Tryz.func77 (by kernel_rfl) (by kernel_rfl), #[], _, rfl, by simp⟩
theorem sy_stp (p : Nat) : Stp Tryz.prog (syF p) 27 #[.pointer (some ⟨p, 0, none⟩)] := ⟨fn1_of Tryz.func27 (by kernel_rfl) (by kernel_rfl), _, #[], rfl, by simp⟩
/-- Sync as a step. -/
theorem syncS (q p : Nat) (b rb : Option Nat) (L : LG) (m : DN) (w : World) (hK : WK w q p b rb L m) (hG : Gw w) (hm : Okn m) : Calls Tryz.prog 27 #[.pointer (some ⟨p, 0, none⟩)] w (StP w q p b rb L (synN m)) := by
  obtain ⟨rv, _, _, hD⟩ := hK.out
  refine (syncN p b m w hD hm).mono ?_
  rintro e w' ⟨h1, b', h2, h3⟩
  exact ⟨h1, b', Wch.chg h2, hK.disk hG.two h2 h3⟩
end Go.Proofs.YtaiiojbakmminaaGreatDoor
