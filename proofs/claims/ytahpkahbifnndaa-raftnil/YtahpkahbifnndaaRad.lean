/- A leader puts an entry behind its log, and tells all others. -/
import Derived.Test.YtahpkahbifnndaaRse
import Derived.Test.YtahpkahbifnndaaRlf
namespace Go.Proofs.Ytahpkahbifnndaa
open Go Go.RowKit Go.Maps
/-- Another log is kept. -/
theorem ND.relog {nb : Nat} {M : NM} {F : Nat → Prop} {lb lb' : Option Nat} {w w' : World} {N N' : RN} (h : ND F nb M lb w N) (hsz : w.heap.size ≤ w'.heap.size) (hk : ∀ k, k < w.heap.size → k ≠ nb → lb ≠ some k → w'.heap[k]? = w.heap[k]?)
    (hc : ∃ ba ca lv da dc, Blk w' nb (ncells M N' ba ca lv da dc) 67 ∧ slBlk lv = lb' ∧ IF F w' ba N'.k.bconf ∧ LG F w' lv N'.k.log ∧ IF F w' da N'.draws ∧ N'.draws.length ≤ dc) (hn : ∀ k, lb' = some k → lb = some k ∨ w.heap.size ≤ k)
    (h4 : N'.votes = N.votes) (h5 : N'.next = N.next) (h6 : N'.had = N.had) (h7 : N'.ends = N.ends) (h8 : N'.keys = N.keys) : ND F nb M lb' w' N' := by
  have hne := h.ne
  have hm : ∀ b, b < w.heap.size → b ≠ nb → (∀ k, lb = some k → b ≠ k) → w'.heap[b]? = w.heap[b]? := fun b hb h1 h2 => hk b hb h1 (fun e => h2 b e rfl)
  refine ⟨hc, ?_, ?_, ?_, ?_, h.apart, fun k hF ho => ?_, fun k hF => Nat.lt_of_lt_of_le (h.flt k hF) hsz⟩
  · rw [h4]; exact h.votes.block (hm _ h.votes.lt hne.1 (fun k e => (hne.2.2.2.2 k e).2.1))
  · rw [h5, h8]; exact h.next.block (hm _ h.next.lt hne.2.1 (fun k e => (hne.2.2.2.2 k e).2.2.1))
  · rw [h6]; exact h.had.block (hm _ h.had.lt hne.2.2.1 (fun k e => (hne.2.2.2.2 k e).2.2.2.1))
  · rw [h7]; exact h.ends.block (hm _ h.ends.lt hne.2.2.2.1 (fun k e => (hne.2.2.2.2 k e).2.2.2.2))
  · rcases ho with e | e | e | e | e | e
    · exact h.off k hF (.inl e)
    · exact h.off k hF (.inr (.inl e))
    · exact h.off k hF (.inr (.inr (.inl e)))
    · exact h.off k hF (.inr (.inr (.inr (.inl e))))
    · exact h.off k hF (.inr (.inr (.inr (.inr (.inl e)))))
    · rcases hn k e with e | e
      · exact h.off k hF (.inr (.inr (.inr (.inr (.inr e)))))
      · have := h.flt k hF; omega
theorem bsl1E (t : Int) (s : ByteArray) (c : Bool) (a : Option Addr) (n m : Nat) (w : World) : (Instr.buildSlice 22 1 #[(0, .agg #[.int .i64 t, .string s, .bool c, .slice a n m])]).run Try.prog w = .ok (.slice (some ⟨w.heap.size, 0, none⟩) 1 1) (w.alloc (.cells #[.int .i64 t, .string s, .bool c, .slice a n m] 31)) := by
  have range4 : Array.range 4 = #[0, 1, 2, 3] := by decide
  simp [Instr.buildSlice, run_underlying Try.underlying22, sizeOf_run iE4, Sem.run_bind, Instr.fill, newRow, Try.zeroValue31, Value.cells, range4]
section
variable {ops : Array Oper} {rest : List Oper} {op : Oper} {a : Act} {w : World} {Q : Exit → Act → World → Prop}
theorem wpList_bsl1E (hgd : op.guard = none) (x : Operand) (ho : op.op = .buildSlice 22 1 #[(0, x)]) (t : Int) (s : ByteArray) (c : Bool) (b : Option Addr) (n m : Nat) (hx : a.eval x = .agg #[.int .i64 t, .string s, .bool c, .slice b n m])
    (h : ∀ w1 : World, Below w.heap.size w w1 → w1.heap.size = w.heap.size + 1 → Blk w1 w.heap.size #[.int .i64 t, .string s, .bool c, .slice b n m] 31 → wpList Try.prog ops Q rest (a.put op.dst (.slice (some ⟨w.heap.size, 0, none⟩) 1 1)) w1) : wpList Try.prog ops Q (op :: rest) a w := by
  refine wpList_run hgd _ _ ?_ (h _ ((Below.refl _ _).alloc (Nat.le_refl _) _) (by simp) (Blk.new w _ _))
  unfold execOp
  have e : (#[(0, x)] : Array (Nat × Operand)).map (fun (i, x) => (i, a.eval x)) = #[(0, .agg #[.int .i64 t, .string s, .bool c, .slice b n m])] := by simp [hx]
  have hr := bsl1E t s c b n m w
  rw [← e] at hr
  simp only [ho, Sem.run_bind, hr, Result.andThen_ok]
  rfl
theorem wpList_appE (hgd : op.guard = none) (x y : Operand) (ho : op.op = .call { callee := .builtin .append, args := #[x, y], argTypes := #[22, 22] }) {lo : Nat} {sl : Value} {l : List (List Value)} (hlo : lo ≤ w.heap.size) (hx : a.eval x = sl) (hsl : GL w 31 4 lo sl l) (hlen : l.length ≤ 274877906944) {g2 : Nat} (hy : a.eval y = .slice (some ⟨g2, 0, none⟩) 1 1) (t : Int) (s : ByteArray) (c : Bool) (b : Option Addr) (n m : Nat) (hB : Blk w g2 #[.int .i64 t, .string s, .bool c, .slice b n m] 31)
    (h : ∀ (w1 : World) (sl1 : Value), w.grownBy w1 (slBlk sl) → GL w1 31 4 lo sl1 (l ++ [[.int .i64 t, .string s, .bool c, .slice b n m]]) → (∀ r, slBlk sl1 = some r → slBlk sl = some r ∨ w.heap.size ≤ r) → wpList Try.prog ops Q rest (a.put op.dst sl1) w1) : wpList Try.prog ops Q (op :: rest) a w := by
  obtain ⟨iM, hi, hz, hs, hby⟩ := infoE
  exact wpList_appendGLR hgd x y _ 31 ho 4 lo sl l hlo hx hsl g2 1 hy _ rfl (fun u hu => by
    simp only [List.mem_cons, List.not_mem_nil, or_false] at hu
    rcases hu with rfl | rfl | rfl | rfl <;> rfl) 31 hB iM _ zE4 Try.underlying22 hi hz hs hby hlen h
theorem wpList_stC (hgd : op.guard = none) (ty : TypeId) (x y : Operand) (ho : op.op = .store ty x y) (b o : Nat) (hx : a.eval x = .pointer (some ⟨b, o, none⟩)) (v : Value) (hy : a.eval y = v) (c : Array Value) (t : TypeId) (hb : Blk w b c t) (hi : (Try.prog.info? ty).map (·.size) = some 1) (hv : v.cells = #[v]) (h1 : v.oneCell' = true) (hn : o < c.size)
    (h : wpList Try.prog ops Q rest (a.put op.dst undef) (w.setCell ⟨b, o, none⟩ v)) : wpList Try.prog ops Q (op :: rest) a w := by
  refine wpList_plain hgd fun K hK => ?_
  unfold Oper.wp execOp
  have hs : (storeVar ty ⟨b, o, none⟩ v).run Try.prog w = .ok () (w.setCells b o [v]) := by
    have := run_storeCells_cells (P := Try.prog) b o [v] 0 w (fun j hj => (hb.there o 1 (by omega) j (by simpa using hj)).1) (fun j hj => (hb.there o 1 (by omega) j (by simpa using hj)).2) (fun u hu => by simp at hu; subst hu; exact h1)
    simp only [Nat.add_zero] at this
    simp [storeVar, Sem.run_bind, sizeOf_run hi, hv, this]
  simp only [ho, hx, hy, Instr.storeAt, Instr.sureAddr, Sem.run_bind, Sem.run_pure, Result.andThen_ok, hs]
  exact hK _ _ h
end
theorem iSE : (Try.prog.info? 22).map (·.size) = some 1 := by kernel_rfl
theorem mcells_size13 (m : MSG) (a b : Value) : (mcells m a b).size = (#[.int .i64 0, .int .i64 0, .int .i64 0, .int .i64 0, .int .i64 0, .int .i64 0, .int .i64 0, .bool false, .slice none 0 0, .int .i64 0, .string ⟨#[]⟩, .bool false, .slice none 0 0] : Array Value).size := rfl
theorem mcells_all (m : MSG) (x1 : Option Addr) (n1 c1 : Nat) (x2 : Option Addr) (n2 c2 : Nat) : (mcells m (.slice x1 n1 c1) (.slice x2 n2 c2)).all (·.oneCell') = true := by simp [mcells, Value.oneCell']
section
variable (F : Nat → Prop) (nb : Nat) (M : NM) (lb : Option Nat) (w : World) (N : RN)
set_option maxRecDepth 100000 in
set_option maxHeartbeats 1000000 in
theorem tell_pc (h : ND F nb M lb w N) (hb : Bnd N) (x : Int) (hx : (Lit.int .i64 x).wf = true) (hla : N.lacksAhead x = true) : Calls Try.prog 47 #[.pointer (some ⟨nb, 0, none⟩), .int .i64 x] w (TlP w (N.tell x)) := by
  have hA0 := Below.refl w.heap.size w
  have hBA := Blk.new w #[.int .i64 0, .int .i64 0, .int .i64 0, .int .i64 0, .int .i64 0, .int .i64 0, .int .i64 0, .bool false, .slice none 0 0, .int .i64 0, .string ⟨#[]⟩, .bool false, .slice none 0 0] 25
  have hwA : Below w.heap.size w (w.alloc (.cells #[.int .i64 0, .int .i64 0, .int .i64 0, .int .i64 0, .int .i64 0, .int .i64 0, .int .i64 0, .bool false, .slice none 0 0, .int .i64 0, .string ⟨#[]⟩, .bool false, .slice none 0 0] 25)) := bl_al hA0 _
  have ht : N.tell x = N.piece x := by unfold RN.tell; rw [hla]; rfl
  have HL := fun W (hW : ND F nb M lb W N) => lacksAhead_any F nb M lb W N hW hb x hx
  rw [hla] at HL
  have HP := fun W (hW : ND F nb M lb W N) => piece_any F nb M lb W N hW hb x hx
  rw [ht]
  generalize N.piece x = m at *
  clear hla ht
  go_enter Try.func47, Try.ntmps47
  go_upto_region 1 with fail
  generalize w.alloc (.cells #[.int .i64 0, .int .i64 0, .int .i64 0, .int .i64 0, .int .i64 0, .int .i64 0, .int .i64 0, .bool false, .slice none 0 0, .int .i64 0, .string ⟨#[]⟩, .bool false, .slice none 0 0] 25) = A at *
  replace h := h.below hwA
  go_wp2_with (first
    | (go_at_call 65; refine (HL _ h).mono ?_; rintro e w1 ⟨rfl, hw1⟩; clear HL)
    | (go_at_call 66; refine (HP _ (h.below hw1)).mono ?_; rintro e w2 ⟨ev, mv, rfl, hmf, hw2⟩; clear HP; have hR := hBA.belowSize (bl_ca hw1 hw2); obtain ⟨xa, xn, hevx, _⟩ := hmf.ents; obtain ⟨ya, yn, hmvx, _⟩ := hmf.mems; subst hevx hmvx)
    | (with_reducible refine at_list ?_; refine wpList_storeRow (op := ⟨none, .store 25 (.tmp 4) (.tmp 11), _, _, _, _⟩) rfl _ _ _ rfl w.heap.size (mcells m (.slice xa m.ents.length xn) (.slice ya m.mems.length yn)) rfl rfl _ _ hR (mcells_size13 _ _ _) (mcells_info ..) (mcells_all _ _ _ _ _ _ _) ?_; intro w5 hg5 hs5 hB5))
  have hb2 := bl_ca hw1 hw2
  have hws := hwA.size
  have hw1s := hw1.size
  have hAl : w.heap.size < A.heap.size := hBA.lt
  refine bodyPost_ret (v := .agg (mcells m (.slice xa m.ents.length xn) (.slice ya m.mems.length yn))) ?_ rfl ⟨_, _, rfl, hmf.kept (fun k hk => hg5.block k hk.2 (fun e => by have := Option.some.inj e; have := hk.1; omega)) (fun k hk => ⟨by have := hk.1; omega, by rw [hs5]; exact hk.2⟩), bl_gr (bl_ca hwA hb2) hg5 (Nat.le_refl _)⟩
  exact results_cell_row rfl _ _ w.heap.size _ _ _ _ rfl hB5.out Try.underlying25 rfl (mcells_info ..)
theorem tell_any (h : ND F nb M lb w N) (hb : Bnd N) (x : Int) (hx : 0 ≤ x ∧ x < 16) (hn : 1 ≤ N.next x ∧ N.next x ≤ N.last + 1) : Calls Try.prog 47 #[.pointer (some ⟨nb, 0, none⟩), .int .i64 x] w (TlP w (N.tell x)) := by
  have hwf : (Lit.int .i64 x).wf = true := WalkArith.wf_i64 (by omega)
  cases hla : N.lacksAhead x with
  | true => exact tell_pc F nb M lb w N h hb x hwf hla
  | false =>
    have h1 : ¬ (N.next x - 1 < N.k.bi) := of_decide_eq_false hla
    have h2 := hn.2
    unfold RN.last at h2
    exact tell_app F nb M lb w N h hb x hwf (N.next x - N.k.bi - 1).toNat (by omega) (by omega)
theorem others_tell (h : ND F nb M lb w N) (hb : Bnd N) (hg : Gm N) (hn : ∀ x ∈ N.mems, x ≠ N.me → 1 ≤ N.next x ∧ N.next x ≤ N.last + 1) : Calls Try.prog 46 #[.pointer (some ⟨nb, 0, none⟩), .func (.func 47) #[.pointer (some ⟨nb, 0, none⟩)] #[]] w (OtP w (N.others N.tell)) :=
  toOthers_tell F nb M lb w N h hb hg.mems.1 N.tell (fun x hx hne W hW => tell_any F nb M lb W N hW hb x (hg.mems.2 x hx) (hn x hx hne))
theorem others_ask (h : ND F nb M lb w N) (hb : Bnd N) (hg : Gm N) : Calls Try.prog 46 #[.pointer (some ⟨nb, 0, none⟩), .func (.func 72) #[.pointer (some ⟨nb, 0, none⟩)] #[]] w (OtP w (N.others N.ask)) :=
  toOthers_ask F nb M lb w N h hb hg.mems.1 N.ask (fun x _ _ W hW => ask_any F nb M lb W N hW hb x)
end
end Go.Proofs.Ytahpkahbifnndaa
