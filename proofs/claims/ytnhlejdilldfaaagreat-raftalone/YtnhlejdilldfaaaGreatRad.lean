/- Regions that draw their order: a load may be taken first although the region's last operation writes its cell. A leader puts an entry behind its log, and tells all others. -/
import Derived.Test.YtnhlejdilldfaaaGreatRrg
import Derived.OrdersHeld
import Derived.Test.YtnhlejdilldfaaaGreatRse
namespace Go.Proofs.YtnhlejdilldfaaaGreat
open Go Go.RowKit
section
variable {P : Program} {ops : Array Oper} {Q : Exit → Act → World → Prop} {md : Region.Mode} {S : World → Prop} {z : Nat}
/-- Whatever order is picked from here on, and S holds behind every operation that is carried out, but number z. -/
def wpAnyL (P : Program) (md : Region.Mode) (ops : Array Oper) (Q : Exit → Act → World → Prop) (S : World → Prop) (z : Nat) : Nat → Array Bool → Act → World → Prop
  | 0, listed, a, w => Region.ready md ops listed = [] ∧ Q .normal a w
  | fuel + 1, listed, a, w =>
    (Region.ready md ops listed = [] → Q .normal a w) ∧
    ∀ i ∈ Region.ready md ops listed, wpOp P ops Q i (fun a' w' => (i ≠ z → S w') ∧ wpAnyL P md ops Q S z fuel (listed.setIfInBounds i true) a' w') a w
theorem wpAny_of_L : ∀ (fuel : Nat) (listed : Array Bool) (a : Act) (w : World), wpAnyL P md ops Q S z fuel listed a w → wpAny P md ops Q fuel listed a w
  | 0, _, _, _, h => h
  | fuel + 1, _, _, _, h => ⟨h.1, fun i hi => wpOp_mono (fun a' w' h' => wpAny_of_L fuel _ a' w' h'.2) (h.2 i hi)⟩
/-- Operation number z waits for number i. -/
def waitsFor (md : Region.Mode) (ops : Array Oper) (z i : Nat) : Bool := match ops[z]? with
  | some o => o.after.any fun e => Region.binds md e && e.on == i
  | none => false
theorem wpAnyL_first {i : Nat} {oi : Oper} {v : Value} (hi : ops[i]? = some oi) (hsel : ∀ (j : Nat) (o : Oper) cs b, ops[j]? = some o → o.op ≠ .select cs b)
    (hQ : ∀ c a w, Q (.panic c) (a.put oi.dst v) w → Q (.panic c) a w) (hz : waitsFor md ops z i = true) :
    ∀ (fuel : Nat) (listed : Array Bool) (a : Act) (w : World),
      (∀ j oj, ops[j]? = some oj → j ≠ i → listed.getD j true = false → (∀ e ∈ oj.after, Region.binds md e = true → e.on ≠ i) → oi.apart ops oj = true) →
      i ∈ Region.ready md ops listed → YieldsIf P ops S oi v a → S w →
      wpAnyL P md ops Q S z fuel (listed.setIfInBounds i true) (a.put oi.dst v) w → wpAnyL P md ops Q S z (fuel + 1) listed a w := by
  intro fuel
  induction fuel with
  | zero =>
    intro listed a w _ hr hy hS H
    refine ⟨fun h => (by rw [h] at hr; cases hr), fun j hj => ?_⟩
    by_cases hji : j = i
    · subst hji; exact hy.wpOp hi hS ⟨fun _ => hS, H⟩
    · have := ready_mono hj hji
      rw [H.1] at this
      cases this
  | succ fuel ih =>
    intro listed a w hfree hr hy hS H
    refine ⟨fun h => (by rw [h] at hr; cases hr), fun j hj => ?_⟩
    by_cases hji : j = i
    · subst hji; exact hy.wpOp hi hS ⟨fun _ => hS, H⟩
    · have h1 := H.2 j (ready_mono hj hji)
      obtain ⟨hjun, oj, hoj, hall⟩ := mem_ready.1 hj
      have hnot : ∀ e ∈ oj.after, Region.binds md e = true → e.on ≠ i := fun e he hb heq => by
        have h1 := hall e he hb
        have h0 := (mem_ready.1 hr).1
        rw [heq] at h1
        rcases Nat.lt_or_ge i listed.size with h' | h'
        · simp [h'] at h0 h1; rw [h0] at h1; cases h1
        · simp [Array.getElem?_eq_none h'] at h1
      have hjz : j ≠ z := fun e => by
        subst e
        unfold waitsFor at hz
        rw [hoj] at hz
        obtain ⟨e, he, h2⟩ := Array.any_eq_true'.1 hz
        rw [Bool.and_eq_true, beq_iff_eq] at h2
        exact hnot e he h2.1 h2.2
      have h2 := wpOp_putIf hoj (hfree j oj hoj hji hjun hnot) (fun cs b => hsel i oi cs b hi) (fun cs b => hsel j oj cs b hoj) hQ hy h1
      have hfree' : ∀ k ok, ops[k]? = some ok → k ≠ i → (listed.setIfInBounds j true).getD k true = false →
          (∀ e ∈ ok.after, Region.binds md e = true → e.on ≠ i) → oi.apart ops ok = true := fun k ok hk hki hun hno => by
        refine hfree k ok hk hki ?_ hno
        by_cases hjk : j = k
        · subst hjk; exact hjun
        · rw [getD_set_ne true hjk] at hun; exact hun
      refine wpOp_mono (fun a' w' h3 => ⟨h3.2.1, ih (listed.setIfInBounds j true) a' w' hfree' (ready_mono hr (Ne.symm hji)) h3.1 (h3.2.1 hjz) ?_⟩) h2
      rw [Array.setIfInBounds_comm _ _ hji]
      exact h3.2.2
theorem wpAnyL_take {i : Nat} {oi : Oper} {v : Value} {fuel : Nat} {listed : Array Bool} {a : Act} {w : World} (hi : ops[i]? = some oi)
    (hs : Region.noSelect ops = true) (hf : Region.free md ops listed i = true) (hr : (Region.ready md ops listed).contains i = true) (hz : waitsFor md ops z i = true)
    (hQ : ∀ c a w, Q (.panic c) (a.put oi.dst v) w → Q (.panic c) a w) (hy : YieldsIf P ops S oi v a) (hS : S w)
    (h : wpAnyL P md ops Q S z fuel (listed.setIfInBounds i true) (a.put oi.dst v) w) : wpAnyL P md ops Q S z (fuel + 1) listed a w :=
  wpAnyL_first hi (Region.noSelect_spec hs) hQ hz fuel listed a w (Region.free_spec hi hf) (by simpa using hr) hy hS h
theorem wpAnyL_done {listed : Array Bool} {a : Act} {w : World} (hr : Region.ready md ops listed = []) (h : Q .normal a w) : ∀ fuel, wpAnyL P md ops Q S z fuel listed a w
  | 0 => ⟨hr, h⟩
  | _ + 1 => ⟨fun _ => h, by rw [hr]; simp⟩
theorem wp_region_L {id : Nat} {a : Act} {w : World} (hm : P.follows .mixedOrders = true) (h : wpAnyL P .any ops Q S z ops.size (Array.replicate ops.size false) a w.drew) : (Code.region id ops true).wp P Q a w :=
  wp_region_any hm (wpAny_of_L _ _ _ _ h)
theorem wpAnyL_solo {i : Nat} {o : Oper} {fuel : Nat} {listed : Array Bool} {a : Act} {w : World} (ho : ops[i]? = some o) (hr : Region.ready md ops listed = [i])
    (h : ∀ K : Act → World → Prop, (∀ a w, (i ≠ z → S w) → wpAnyL P md ops Q S z fuel (listed.setIfInBounds i true) a w → K a w) → wpList P ops (QK Q K) [o] a w) : wpAnyL P md ops Q S z (fuel + 1) listed a w :=
  ⟨(fun h0 => absurd (hr ▸ h0) (List.cons_ne_nil _ _)), fun j hj => by
    rw [hr] at hj
    obtain rfl := List.mem_singleton.1 hj
    exact wpOp_list ho (h _ (fun a w hS hW => ⟨hS, hW⟩))⟩
end
end Go.Proofs.YtnhlejdilldfaaaGreat
namespace Go.Proofs.YtnhlejdilldfaaaGreat
open Go Go.RowKit Go.Maps
/-- Another log is kept. -/
theorem ND.relog {nb : Nat} {M : NM} {F : Nat → Prop} {lb lb' : Option Nat} {w w' : World} {N N' : RN} (h : ND F nb M lb w N) (hsz : w.heap.size ≤ w'.heap.size) (hk : ∀ k, k < w.heap.size → k ≠ nb → lb ≠ some k → w'.heap[k]? = w.heap[k]?)
    (hc : ∃ ba ca lv da dc, Blk w' nb (ncells M N' ba ca lv da dc) 109 ∧ slBlk lv = lb' ∧ IF F w' ba N'.k.bconf ∧ LG F w' lv N'.k.log ∧ IF F w' da N'.draws ∧ N'.draws.length ≤ dc) (hn : ∀ k, lb' = some k → lb = some k ∨ w.heap.size ≤ k)
    (h4 : N'.votes = N.votes) (h5 : N'.next = N.next) (h6 : N'.had = N.had) (h7 : N'.ends = N.ends) (h8 : N'.keys = N.keys) : ND F nb M lb' w' N' := by
  have hne := h.ne
  have hm : ∀ b, b < w.heap.size → b ≠ nb → (∀ k, lb = some k → b ≠ k) → w'.heap[b]? = w.heap[b]? := fun b hb h1 h2 => hk b hb h1 (fun e => h2 b e rfl)
  refine ⟨hc, ?_, ?_, ?_, ?_, h.apart, fun k hF ho => ?_, fun k hF => Nat.lt_of_lt_of_le (h.flt k hF) hsz⟩
  · rw [h4]; exact h.votes.block (hm _ h.votes.lt hne.1 (fun k e => (hne.2.2.2.2 k e).2.1))
  · rw [h5, h8]; exact h.next.block (hm _ h.next.lt hne.2.1 (fun k e => (hne.2.2.2.2 k e).2.2.1))
  · rw [h6]; exact h.had.block (hm _ h.had.lt hne.2.2.1 (fun k e => (hne.2.2.2.2 k e).2.2.2.1))
  · rw [h7]; exact h.ends.block (hm _ h.ends.lt hne.2.2.2.1 (fun k e => (hne.2.2.2.2 k e).2.2.2.2))
  · rcases ho with e | e | e | e | e | e
    · exact h.off k hF (.inl e)
    · exact h.off k hF (.inr (.inl e))
    · exact h.off k hF (.inr (.inr (.inl e)))
    · exact h.off k hF (.inr (.inr (.inr (.inl e))))
    · exact h.off k hF (.inr (.inr (.inr (.inr (.inl e)))))
    · rcases hn k e with e | e
      · exact h.off k hF (.inr (.inr (.inr (.inr (.inr e)))))
      · have := h.flt k hF; omega
theorem bsl1E (t : Int) (s : ByteArray) (c : Bool) (a : Option Addr) (n m : Nat) (w : World) : (Instr.buildSlice 22 1 #[(0, .agg #[.int .i64 t, .string s, .bool c, .slice a n m])]).run Tryz.prog w = .ok (.slice (some ⟨w.heap.size, 0, none⟩) 1 1) (w.alloc (.cells #[.int .i64 t, .string s, .bool c, .slice a n m] 29)) := by
  have range4 : Array.range 4 = #[0, 1, 2, 3] := by decide
  simp [Instr.buildSlice, run_underlying Tryz.underlying22, sizeOf_run iE4, Sem.run_bind, Instr.fill, newRow, Tryz.zeroValue29, Value.cells, range4]
section
variable {ops : Array Oper} {rest : List Oper} {op : Oper} {a : Act} {w : World} {Q : Exit → Act → World → Prop}
theorem wpList_bsl1E (hgd : op.guard = none) (x : Operand) (ho : op.op = .buildSlice 22 1 #[(0, x)]) (t : Int) (s : ByteArray) (c : Bool) (b : Option Addr) (n m : Nat) (hx : a.eval x = .agg #[.int .i64 t, .string s, .bool c, .slice b n m])
    (h : ∀ w1 : World, Below w.heap.size w w1 → w1.heap.size = w.heap.size + 1 → Blk w1 w.heap.size #[.int .i64 t, .string s, .bool c, .slice b n m] 29 → wpList Tryz.prog ops Q rest (a.put op.dst (.slice (some ⟨w.heap.size, 0, none⟩) 1 1)) w1) : wpList Tryz.prog ops Q (op :: rest) a w := by
  refine wpList_run hgd _ _ ?_ (h _ ((Below.refl _ _).alloc (Nat.le_refl _) _) (by simp) (Blk.new w _ _))
  unfold execOp
  have e : (#[(0, x)] : Array (Nat × Operand)).map (fun (i, x) => (i, a.eval x)) = #[(0, .agg #[.int .i64 t, .string s, .bool c, .slice b n m])] := by simp [hx]
  have hr := bsl1E t s c b n m w
  rw [← e] at hr
  simp only [ho, Sem.run_bind, hr, Result.andThen_ok]
  rfl
theorem wpList_appE (hgd : op.guard = none) (x y : Operand) (ho : op.op = .call { callee := .builtin .append, args := #[x, y], argTypes := #[22, 22] }) {lo : Nat} {sl : Value} {l : List (List Value)} (hlo : lo ≤ w.heap.size) (hx : a.eval x = sl) (hsl : GL w 29 4 lo sl l) (hlen : l.length ≤ 274877906944) {g2 : Nat} (hy : a.eval y = .slice (some ⟨g2, 0, none⟩) 1 1) (t : Int) (s : ByteArray) (c : Bool) (b : Option Addr) (n m : Nat) (hB : Blk w g2 #[.int .i64 t, .string s, .bool c, .slice b n m] 29)
    (h : ∀ (w1 : World) (sl1 : Value), w.grownBy w1 (slBlk sl) → GL w1 29 4 lo sl1 (l ++ [[.int .i64 t, .string s, .bool c, .slice b n m]]) → (∀ r, slBlk sl1 = some r → slBlk sl = some r ∨ w.heap.size ≤ r) → wpList Tryz.prog ops Q rest (a.put op.dst sl1) w1) : wpList Tryz.prog ops Q (op :: rest) a w := by
  obtain ⟨iM, hi, hz, hs, hby⟩ := infoE
  exact wpList_appendGLR hgd x y _ 29 ho 4 lo sl l hlo hx hsl g2 1 hy _ rfl (fun u hu => by
    simp only [List.mem_cons, List.not_mem_nil, or_false] at hu
    rcases hu with rfl | rfl | rfl | rfl <;> rfl) 29 hB iM _ zE4 Tryz.underlying22 hi hz hs hby hlen h
theorem wpList_stC (hgd : op.guard = none) (ty : TypeId) (x y : Operand) (ho : op.op = .store ty x y) (b o : Nat) (hx : a.eval x = .pointer (some ⟨b, o, none⟩)) (v : Value) (hy : a.eval y = v) (c : Array Value) (t : TypeId) (hb : Blk w b c t) (hi : (Tryz.prog.info? ty).map (·.size) = some 1) (hv : v.cells = #[v]) (h1 : v.oneCell' = true) (hn : o < c.size)
    (h : wpList Tryz.prog ops Q rest (a.put op.dst undef) (w.setCell ⟨b, o, none⟩ v)) : wpList Tryz.prog ops Q (op :: rest) a w := by
  refine wpList_plain hgd fun K hK => ?_
  unfold Oper.wp execOp
  have hs : (storeVar ty ⟨b, o, none⟩ v).run Tryz.prog w = .ok () (w.setCells b o [v]) := by
    have := run_storeCells_cells (P := Tryz.prog) b o [v] 0 w (fun j hj => (hb.there o 1 (by omega) j (by simpa using hj)).1) (fun j hj => (hb.there o 1 (by omega) j (by simpa using hj)).2) (fun u hu => by simp at hu; subst hu; exact h1)
    simp only [Nat.add_zero] at this
    simp [storeVar, Sem.run_bind, sizeOf_run hi, hv, this]
  simp only [ho, hx, hy, Instr.storeAt, Instr.sureAddr, Sem.run_bind, Sem.run_pure, Result.andThen_ok, hs]
  exact hK _ _ h
end
theorem iSE : (Tryz.prog.info? 22).map (·.size) = some 1 := by kernel_rfl
theorem mcells_size13 (m : MSG) (a b : Value) : (mcells m a b).size = (#[.int .i64 0, .int .i64 0, .int .i64 0, .int .i64 0, .int .i64 0, .int .i64 0, .int .i64 0, .bool false, .slice none 0 0, .int .i64 0, .string ⟨#[]⟩, .bool false, .slice none 0 0] : Array Value).size := rfl
theorem mcells_all (m : MSG) (x1 : Option Addr) (n1 c1 : Nat) (x2 : Option Addr) (n2 c2 : Nat) : (mcells m (.slice x1 n1 c1) (.slice x2 n2 c2)).all (·.oneCell') = true := by simp [mcells, Value.oneCell']
section
variable (F : Nat → Prop) (nb : Nat) (M : NM) (lb : Option Nat) (w : World) (N : RN)
set_option maxRecDepth 100000 in
set_option maxHeartbeats 1000000 in
theorem tell_pc (h : ND F nb M lb w N) (hb : Bnd N) (x : Int) (hx : (Lit.int .i64 x).wf = true) (hla : N.lacksAhead x = true) : Calls Tryz.prog 94 #[.pointer (some ⟨nb, 0, none⟩), .int .i64 x] w (TlP w (N.tell x)) := by
  have hA0 := Below.refl w.heap.size w
  have hBA := Blk.new w #[.int .i64 0, .int .i64 0, .int .i64 0, .int .i64 0, .int .i64 0, .int .i64 0, .int .i64 0, .bool false, .slice none 0 0, .int .i64 0, .string ⟨#[]⟩, .bool false, .slice none 0 0] 25
  have hwA : Below w.heap.size w (w.alloc (.cells #[.int .i64 0, .int .i64 0, .int .i64 0, .int .i64 0, .int .i64 0, .int .i64 0, .int .i64 0, .bool false, .slice none 0 0, .int .i64 0, .string ⟨#[]⟩, .bool false, .slice none 0 0] 25)) := bl_al hA0 _
  have ht : N.tell x = N.piece x := by unfold RN.tell; rw [hla]; rfl
  have HL := fun W (hW : ND F nb M lb W N) => lacksAhead_any F nb M lb W N hW hb x hx
  rw [hla] at HL
  have HP := fun W (hW : ND F nb M lb W N) => piece_any F nb M lb W N hW hb x hx
  rw [ht]
  generalize N.piece x = m at *
  clear hla ht
  go_enter Tryz.func94, Tryz.ntmps94
  go_upto_region 1 with fail
  generalize w.alloc (.cells #[.int .i64 0, .int .i64 0, .int .i64 0, .int .i64 0, .int .i64 0, .int .i64 0, .int .i64 0, .bool false, .slice none 0 0, .int .i64 0, .string ⟨#[]⟩, .bool false, .slice none 0 0] 25) = A at *
  replace h := h.below hwA
  go_wp2_with (first
    | (go_at_call 114; refine (HL _ h).mono ?_; rintro e w1 ⟨rfl, hw1⟩; clear HL)
    | (go_at_call 115; refine (HP _ (h.below hw1)).mono ?_; rintro e w2 ⟨ev, mv, rfl, hmf, hw2⟩; clear HP; have hR := hBA.belowSize (bl_ca hw1 hw2); obtain ⟨xa, xn, hevx, _⟩ := hmf.ents; obtain ⟨ya, yn, hmvx, _⟩ := hmf.mems; subst hevx hmvx)
    | (with_reducible refine at_list ?_; refine wpList_storeRow (op := ⟨none, .store 25 (.tmp 4) (.tmp 11), _, _, _, _⟩) rfl _ _ _ rfl w.heap.size (mcells m (.slice xa m.ents.length xn) (.slice ya m.mems.length yn)) rfl rfl _ _ hR (mcells_size13 _ _ _) (mcells_info ..) (mcells_all _ _ _ _ _ _ _) ?_; intro w5 hg5 hs5 hB5))
  have hb2 := bl_ca hw1 hw2
  have hws := hwA.size
  have hw1s := hw1.size
  have hAl : w.heap.size < A.heap.size := hBA.lt
  refine bodyPost_ret (v := .agg (mcells m (.slice xa m.ents.length xn) (.slice ya m.mems.length yn))) ?_ rfl ⟨_, _, rfl, hmf.kept (fun k hk => hg5.block k hk.2 (fun e => by have := Option.some.inj e; have := hk.1; omega)) (fun k hk => ⟨by have := hk.1; omega, by rw [hs5]; exact hk.2⟩), bl_gr (bl_ca hwA hb2) hg5 (Nat.le_refl _)⟩
  exact results_cell_row rfl _ _ w.heap.size _ _ _ _ rfl hB5.out Tryz.underlying25 rfl (mcells_info ..)
theorem tell_any (h : ND F nb M lb w N) (hb : Bnd N) (x : Int) (hx : 0 ≤ x ∧ x < 16) (hn : 1 ≤ N.next x ∧ N.next x ≤ N.last + 1) : Calls Tryz.prog 94 #[.pointer (some ⟨nb, 0, none⟩), .int .i64 x] w (TlP w (N.tell x)) := by
  have hwf : (Lit.int .i64 x).wf = true := WalkArith.wf_i64 (by omega)
  cases hla : N.lacksAhead x with
  | true => exact tell_pc F nb M lb w N h hb x hwf hla
  | false =>
    have h1 : ¬ (N.next x - 1 < N.k.bi) := of_decide_eq_false hla
    have h2 := hn.2
    unfold RN.last at h2
    exact tell_app F nb M lb w N h hb x hwf (N.next x - N.k.bi - 1).toNat (by omega) (by omega)
theorem others_tell (h : ND F nb M lb w N) (hb : Bnd N) (hg : Gm N) (hn : ∀ x ∈ N.mems, x ≠ N.me → 1 ≤ N.next x ∧ N.next x ≤ N.last + 1) : Calls Tryz.prog 93 #[.pointer (some ⟨nb, 0, none⟩), .func (.func 94) #[.pointer (some ⟨nb, 0, none⟩)] #[]] w (OtP w (N.others N.tell)) :=
  toOthers_tell F nb M lb w N h hb hg.mems.1 N.tell (fun x hx hne W hW => tell_any F nb M lb W N hW hb x (hg.mems.2 x hx) (hn x hx hne))
theorem others_ask (h : ND F nb M lb w N) (hb : Bnd N) (hg : Gm N) : Calls Tryz.prog 93 #[.pointer (some ⟨nb, 0, none⟩), .func (.func 120) #[.pointer (some ⟨nb, 0, none⟩)] #[]] w (OtP w (N.others N.ask)) :=
  toOthers_ask F nb M lb w N h hb hg.mems.1 N.ask (fun x _ _ W hW => ask_any F nb M lb W N hW hb x)
end
end Go.Proofs.YtnhlejdilldfaaaGreat
