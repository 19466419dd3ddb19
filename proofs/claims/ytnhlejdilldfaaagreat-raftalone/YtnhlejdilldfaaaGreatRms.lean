/- What the small functions of a replica do. Messages in memory. -/
import Derived.Test.YtnhlejdilldfaaaGreatRdr
import Derived.WalkSpells
namespace Go.Proofs.YtnhlejdilldfaaaGreat
open Go Go.RowKit Go.Maps
section
variable (F : Nat → Prop) (nb : Nat) (M : NM) (lb : Option Nat) (w : World) (N : RN)
set_option maxRecDepth 100000 in
theorem none_any (h : ND F nb M lb w N) : Calls Tryz.prog 63 #[.pointer (some ⟨nb, 0, none⟩)] w fun e w' => e = .returned (.bool false) ∧ w' = w := by
  have c15 := h.c15
  have he := run_eql_map_nil (P := Tryz.prog) w 105 _ _ (some M.bv) Tryz.underlying105
  go_enter Tryz.func63, Tryz.ntmps63
  go_wp2_with fail
  go_ret
  exact ⟨rfl, rfl⟩
set_option maxRecDepth 100000 in
theorem last_any (h : ND F nb M lb w N) (hb : Bnd N) : Calls Tryz.prog 99 #[.pointer (some ⟨nb, 0, none⟩)] w fun e w' => e = .returned (.int .i64 N.last) ∧ Below w.heap.size w w' := by
  have c3 := h.c3
  obtain ⟨lv, c7, hL, _⟩ := h.c7
  obtain ⟨a, cap, rfl, _⟩ := hL.sl
  have hw : IntKind.i64.wrap (N.k.bi + (N.k.log.length : Nat)) = N.last := by
    have h1 := hb.bi
    have h2 := hb.last
    rw [IntKind.wrap_i64]
    show _ = N.k.bi + (N.k.log.length : Nat)
    omega
  generalize N.last = z at *
  go_enter Tryz.func99, Tryz.ntmps99
  go_wp2_with fail
  go_quiet (fail)
  go_wp2_with fail
  go_ret
  exact ⟨rfl, below_draws (Below.refl _ _) _⟩
/-- A message of a kind, at first. -/
theorem msg0_info (k m d t : Int) : (Tryz.prog.info? 25).map (·.size) = some (#[Value.int .i64 k, .int .i64 m, .int .i64 d, .int .i64 t, .int .i64 0, .int .i64 0, .int .i64 0, .bool false, .slice none 0 0, .int .i64 0, .string ⟨#[]⟩, .bool false, .slice none 0 0] : Array Value).size := by kernel_rfl
set_option maxRecDepth 100000 in
theorem message_any (h : ND F nb M lb w N) (k d : Int) : Calls Tryz.prog 106 #[.pointer (some ⟨nb, 0, none⟩), .int .i64 k, .int .i64 d] w fun e w' => e = .returned (.agg #[.int .i64 k, .int .i64 N.me, .int .i64 d, .int .i64 N.k.term, .int .i64 0, .int .i64 0, .int .i64 0, .bool false, .slice none 0 0, .int .i64 0, .string ⟨#[]⟩, .bool false, .slice none 0 0]) ∧ Below w.heap.size w w' := by
  have c0 := fun o => (h.below ((Below.refl _ _).alloc (Nat.le_refl _) o)).c0
  have c1 := fun o => (h.below ((Below.refl _ _).alloc (Nat.le_refl _) o)).c1
  go_enter Tryz.func106, Tryz.ntmps106
  go_wp2_with fail
  go_region
  go_wp2_with fail
  refine bodyPost_ret (v := .agg _) ?_ rfl ⟨rfl, ((Below.refl _ _).alloc (Nat.le_refl _) _).drew⟩
  exact results_cell_row rfl _ _ w.heap.size _ _ _ _ rfl (heap_alloc_last w _) Tryz.underlying25 rfl (msg0_info _ _ _ _)
theorem lec_info (e : LE) (v : Value) : (Tryz.prog.info? 29).map (·.size) = some (lec e v).size := by kernel_rfl
set_option maxRecDepth 100000 in
theorem entry_any (h : ND F nb M lb w N) (hb : Bnd N) (j : Nat) (hj : j < N.k.log.length) : Calls Tryz.prog 65 #[.pointer (some ⟨nb, 0, none⟩), .int .i64 (N.k.bi + 1 + j)] w fun e w' => ∃ ma mc, e = .returned (.agg #[.int .i64 N.k.log[j].term, .string ⟨N.k.log[j].s.toArray⟩, .bool N.k.log[j].conf, .slice ma N.k.log[j].mem.length mc]) ∧ IF F w ma N.k.log[j].mem ∧ N.k.log[j].mem.length ≤ 17592186044416 ∧ Below w.heap.size w w' := by
  have hB := fun o => (Below.refl w.heap.size w).alloc (Nat.le_refl _) o
  have c3 := fun o => (h.below (hB o)).c3
  obtain ⟨lv, c7, hL, _⟩ := h.c7
  have c7 := fun o => ((hB o).cell (World.block_lt_of_cell? _ _ c7)).trans c7
  obtain ⟨ls, hG, hll, hls⟩ := hL
  obtain ⟨ma, mc, he, hI, hml⟩ := hls j hj
  rcases hG.2 with ⟨rfl, rfl⟩ | ⟨g, cap, _, rfl, hS⟩
  · rw [List.length_nil] at hll; omega
  have hjl : j < ls.length := by omega
  have he' : ls[j] = (lec N.k.log[j] (.slice ma N.k.log[j].mem.length mc)).toList := by
    rw [List.getElem?_eq_getElem hjl] at he
    exact Option.some.inj he
  have hc : ∀ (o : Obj) (i : Nat) (v : Value), (lec N.k.log[j] (.slice ma N.k.log[j].mem.length mc)).toList[i]? = some v → (w.alloc o).cell? ⟨g, j * 4 + i, none⟩ = some v := fun o i v hv => by
    have := hS.cell (j * 4 + i) v (flat_get hG.1 j hjl i v (by rw [he']; exact hv))
    exact ((hB o).cell (World.block_lt_of_cell? _ _ this)).trans this
  rw [hll] at c7
  generalize N.k.log[j] = x at *
  have e0 : ∀ o : Obj, (w.alloc o).cell? ⟨g, j * 4, none⟩ = _ := fun o => hc o 0 _ rfl
  have e1 := fun o => hc o 1 _ rfl
  have e2 := fun o => hc o 2 _ rfl
  have e3 := fun o => hc o 3 _ rfl
  have h1 := hb.bi
  have h2 := hb.last
  have hw1 : IntKind.i64.wrap (N.k.bi + 1 + (j : Int) - N.k.bi) = 1 + (j : Int) := by rw [IntKind.wrap_i64]; omega
  have hw2 : IntKind.i64.wrap (1 + (j : Int) - 1) = (j : Int) := by rw [IntKind.wrap_i64]; omega
  have hz1 : (0 : Int) ≤ (j : Int) := by omega
  have hz2 : (j : Int) < (N.k.log.length : Int) := by omega
  clear hc he he' hls hS hG
  go_enter Tryz.func65, Tryz.ntmps65
  go_wp2_with fail
  go_region
  go_wp2_with fail
  refine bodyPost_ret (v := .agg _) ?_ rfl ⟨ma, mc, rfl, hI, hml, ((Below.refl _ _).alloc (Nat.le_refl _) _).drew⟩
  exact results_cell_row rfl _ _ w.heap.size _ _ _ _ rfl (heap_alloc_last w _) Tryz.underlying29 rfl (lec_info _ _)
theorem fieldE0 (t : Int) (s : ByteArray) (c : Bool) (v : Value) (w : World) : (Instr.field 29 (.agg #[.int .i64 t, .string s, .bool c, v]) 0).run Tryz.prog w = .ok (.int .i64 t) w := by kernel_rfl
theorem RN.entry_at {N : RN} (j : Nat) (hj : j < N.k.log.length) : N.entry (N.k.bi + 1 + j) = N.k.log[j] := by
  unfold RN.entry
  rw [show (N.k.bi + 1 + (j : Int) - N.k.bi - 1).toNat = j by omega, List.getD_eq_getElem?_getD, List.getElem?_eq_getElem hj]
  rfl
set_option maxRecDepth 100000 in
theorem termAt_any (h : ND F nb M lb w N) (hb : Bnd N) (i : Int) (hi : N.k.bi ≤ i) (hl : i ≤ N.last) : Calls Tryz.prog 72 #[.pointer (some ⟨nb, 0, none⟩), .int .i64 i] w fun e w' => e = .returned (.int .i64 (N.termAt i)) ∧ Below w.heap.size w w' := by
  have c3 := h.c3
  have c4 := h.c4
  by_cases hi0 : i = N.k.bi
  · have ht : N.termAt i = N.k.bt := if_pos hi0
    rw [ht]
    have hd : (i == N.k.bi) = true := beq_iff_eq.2 hi0
    clear ht hi hl
    generalize N.k.bi = z at *
    generalize N.k.bt = y at *
    go_enter Tryz.func72, Tryz.ntmps72
    go_wp2_with fail
    go_ret
    exact ⟨rfl, Below.refl _ _⟩
  · have ht : N.termAt i = (N.entry i).term := if_neg hi0
    obtain ⟨j, rfl⟩ : ∃ j : Nat, i = N.k.bi + 1 + j := ⟨(i - N.k.bi - 1).toNat, by omega⟩
    have hj : j < N.k.log.length := by unfold RN.last at hl; omega
    rw [RN.entry_at j hj] at ht
    rw [ht]
    have HE := entry_any F nb M lb w N h hb j hj
    have hd : (N.k.bi + 1 + (j : Int) == N.k.bi) = false := beq_eq_false_iff_ne.2 hi0
    clear ht hi hl
    have hf := fieldE0
    generalize N.k.log[j] = x at *
    generalize N.k.bi + 1 + (j : Int) = i at *
    go_enter Tryz.func72, Tryz.ntmps72
    go_wp2_with (go_at_call 65; refine HE.mono ?_; rintro e w1 ⟨ma, mc, rfl, _, _, hw1⟩; clear HE)
    go_ret
    exact ⟨rfl, hw1⟩
end
end Go.Proofs.YtnhlejdilldfaaaGreat
namespace Go.Proofs.YtnhlejdilldfaaaGreat
open Go Go.RowKit Go.Maps
theorem Blk.of_eq {w w' : World} {b : Nat} {c : Array Value} {t : TypeId} (h : Blk w b c t) (e : w'.heap[b]? = w.heap[b]?) : Blk w' b c t := ⟨e.trans h.out⟩
theorem bl_al {a w : World} (h : Below a.heap.size a w) (o : Obj) : Below a.heap.size a (w.alloc o) := h.alloc h.size o
theorem bl_dr {a w : World} (h : Below a.heap.size a w) : Below a.heap.size a w.drew := h.drew
theorem bl_drn {a w : World} (h : Below a.heap.size a w) (n : Nat) : Below a.heap.size a (w.drewN n) := below_draws h n
theorem bl_ca {a w w' : World} (h : Below a.heap.size a w) (k : Below w.heap.size w w') : Below a.heap.size a w' := h.trans (k.mono h.size)
theorem bl_gr {a w w' : World} {b : Nat} (h : Below a.heap.size a w) (hg : w.grownBy w' (some b)) (hb : a.heap.size ≤ b) : Below a.heap.size a w' := h.trans (below_of_grown hg hb h.size)
theorem bl_st {a w : World} {b : Nat} (h : Below a.heap.size a w) (hb : a.heap.size ≤ b) (o : Nat) (v : Value) : Below a.heap.size a (w.setCell ⟨b, o, none⟩ v) := bl_gr h (grown_setCell b v o w) hb
/-- A message's cells. -/
def mcells (m : MSG) (ev mv : Value) : Array Value := #[.int .i64 m.kind, .int .i64 m.frm, .int .i64 m.dst, .int .i64 m.term, .int .i64 m.index, .int .i64 m.logTerm, .int .i64 m.commit, .bool m.yes, ev, .int .i64 m.off, .string ⟨m.piece.toArray⟩, .bool m.done, mv]
/-- What a message points at lies in blocks of F. -/
structure MF (F : Nat → Prop) (w : World) (m : MSG) (ev mv : Value) : Prop where
  ents : ∃ a c, ev = .slice a m.ents.length c ∧ m.ents.length ≤ c ∧ EF F w a m.ents
  mems : ∃ a c, mv = .slice a m.mems.length c ∧ m.mems.length ≤ 17592186044416 ∧ IF F w a m.mems
theorem MF.kept {F F' : Nat → Prop} {w w' : World} {m : MSG} {ev mv : Value} (h : MF F w m ev mv) (hk : ∀ k, F k → w'.heap[k]? = w.heap[k]?) (hF : ∀ k, F k → F' k) : MF F' w' m ev mv := by
  obtain ⟨⟨a, c, h1, h2, h3⟩, b, d, h4, h5, h6⟩ := h
  exact ⟨⟨a, c, h1, h2, h3.kept hk hF⟩, b, d, h4, h5, h6.kept hk hF⟩
/-- The messages l lie in the slice v. -/
def MS (F : Nat → Prop) (w : World) (v : Value) (l : List MSG) : Prop := ∃ a c, v = .slice a l.length c ∧ l.length ≤ c ∧ ∀ i (h : i < l.length), ∃ g o ev mv, a = some ⟨g, o, none⟩ ∧ F g ∧ w.rangeAt g (o + i * 13) (mcells l[i] ev mv).toList ∧ MF F w l[i] ev mv
theorem MS.kept {F F' : Nat → Prop} {w w' : World} {v : Value} {l : List MSG} (h : MS F w v l) (hk : ∀ k, F k → w'.heap[k]? = w.heap[k]?) (hF : ∀ k, F k → F' k) : MS F' w' v l := by
  obtain ⟨a, c, h1, h2, h3⟩ := h
  refine ⟨a, c, h1, h2, fun i hi => ?_⟩
  obtain ⟨g, o, ev, mv, k1, k2, k3, k4⟩ := h3 i hi
  exact ⟨g, o, ev, mv, k1, hF g k2, range_of_block (hk g k2) k3, k4.kept hk hF⟩
theorem MS.nil (F : Nat → Prop) (w : World) : MS F w (.slice none 0 0) [] := ⟨none, 0, rfl, Nat.le_refl _, fun i hi => by simp at hi⟩
section
variable (F : Nat → Prop) (nb : Nat) (M : NM) (lb : Option Nat) (w : World) (N : RN)
set_option maxRecDepth 100000 in
theorem role_any (h : ND F nb M lb w N) : Calls Tryz.prog 28 #[.pointer (some ⟨nb, 0, none⟩)] w fun e w' => e = .returned (.int .i64 N.role) ∧ w' = w := by
  have c := h.c8
  have HN := none_any F nb M lb w N h
  go_enter Tryz.func28, Tryz.ntmps28
  go_wp2_with (go_at_call 63; refine HN.mono ?_; rintro e w1 ⟨rfl, hw1⟩; replace hw1 := hw1.symm; subst hw1; clear HN)
  go_ret
  exact ⟨rfl, rfl⟩
set_option maxRecDepth 100000 in
theorem leader_any (h : ND F nb M lb w N) : Calls Tryz.prog 29 #[.pointer (some ⟨nb, 0, none⟩)] w fun e w' => e = .returned (.int .i64 N.leader) ∧ w' = w := by
  have c := h.c9
  have HN := none_any F nb M lb w N h
  go_enter Tryz.func29, Tryz.ntmps29
  go_wp2_with (go_at_call 63; refine HN.mono ?_; rintro e w1 ⟨rfl, hw1⟩; replace hw1 := hw1.symm; subst hw1; clear HN)
  go_ret
  exact ⟨rfl, rfl⟩
set_option maxRecDepth 100000 in
theorem commit_any (h : ND F nb M lb w N) : Calls Tryz.prog 21 #[.pointer (some ⟨nb, 0, none⟩)] w fun e w' => e = .returned (.int .i64 N.commit) ∧ w' = w := by
  have c := h.c10
  have HN := none_any F nb M lb w N h
  go_enter Tryz.func21, Tryz.ntmps21
  go_wp2_with (go_at_call 63; refine HN.mono ?_; rintro e w1 ⟨rfl, hw1⟩; replace hw1 := hw1.symm; subst hw1; clear HN)
  go_ret
  exact ⟨rfl, rfl⟩
set_option maxRecDepth 100000 in
theorem term_any (h : ND F nb M lb w N) : Calls Tryz.prog 30 #[.pointer (some ⟨nb, 0, none⟩)] w fun e w' => e = .returned (.int .i64 N.k.term) ∧ w' = w := by
  have c := h.c1
  have HN := none_any F nb M lb w N h
  go_enter Tryz.func30, Tryz.ntmps30
  go_wp2_with (go_at_call 63; refine HN.mono ?_; rintro e w1 ⟨rfl, hw1⟩; replace hw1 := hw1.symm; subst hw1; clear HN)
  go_ret
  exact ⟨rfl, rfl⟩
set_option maxRecDepth 100000 in
theorem lacksAhead_any (h : ND F nb M lb w N) (hb : Bnd N) (x : Int) (hx : (Lit.int .i64 x).wf = true) : Calls Tryz.prog 114 #[.pointer (some ⟨nb, 0, none⟩), .int .i64 x] w fun e w' => e = .returned (.bool (N.lacksAhead x)) ∧ Below w.heap.size w w' := by
  have c3 := h.drew.c3
  have c16 := h.drew.c16
  have hg := h.drew.next.get x hx
  have h1 := hb.next x
  have h2 := hb.bi
  have hw1 : IntKind.i64.wrap (N.next x - 1) = N.next x - 1 := by rw [IntKind.wrap_i64]; omega
  have he : N.lacksAhead x = decide (N.next x - 1 < N.k.bi) := rfl
  rw [he]
  clear he
  generalize N.next x = z at *
  go_enter Tryz.func114, Tryz.ntmps114
  go_wp2_with fail
  go_region
  go_wp2_with fail
  go_ret
  exact ⟨rfl, (Below.refl _ _).drew⟩
set_option maxRecDepth 100000 in
theorem hadBy_any (h : ND F nb M lb w N) (hb : Bnd N) (x : Int) (hx : (Lit.int .i64 x).wf = true) : Calls Tryz.prog 125 #[.pointer (some ⟨nb, 0, none⟩), .int .i64 x] w fun e w' => e = .returned (.int .i64 (N.hadBy x)) ∧ Below w.heap.size w w' := by
  have c0 := h.c0
  have c17 := h.c17
  have hg := h.had.get x hx
  have HL := last_any F nb M lb w N h hb
  by_cases hm : x = N.me
  · have he : N.hadBy x = N.last := if_pos hm
    rw [he]
    have hd : (x == N.me) = true := beq_iff_eq.2 hm
    clear hm he hg
    generalize N.me = y at *
    generalize N.last = z at *
    go_enter Tryz.func125, Tryz.ntmps125
    go_wp2_with (go_at_call 99; refine HL.mono ?_; rintro e w1 ⟨rfl, hw1⟩; clear HL)
    go_ret
    exact ⟨rfl, hw1⟩
  · have he : N.hadBy x = N.had x := if_neg hm
    rw [he]
    have hd : (x == N.me) = false := beq_eq_false_iff_ne.2 hm
    go_enter Tryz.func125, Tryz.ntmps125
    go_wp2_with fail
    go_ret
    exact ⟨rfl, Below.refl _ _⟩
theorem isReplica_any (x : Int) : Calls Tryz.prog 43 #[.int .i64 x] w fun e w' => e = .returned (.bool (decide (0 ≤ x ∧ x < 16))) ∧ w' = w := by
  by_cases h1 : 0 ≤ x
  · have d1 := decide_eq_true h1
    have e : decide (0 ≤ x ∧ x < 16) = decide (x < 16) := by simp [h1]
    rw [e]
    go_enter Tryz.func43, Tryz.ntmps43
    go_wp2_with fail
    go_ret
    exact ⟨rfl, rfl⟩
  · have d1 := decide_eq_false h1
    have e : decide (0 ≤ x ∧ x < 16) = false := decide_eq_false (by omega)
    rw [e]
    go_enter Tryz.func43, Tryz.ntmps43
    go_wp2_with fail
    go_ret
    exact ⟨rfl, rfl⟩
theorem isCount_any (x : Int) : Calls Tryz.prog 42 #[.int .i64 x] w fun e w' => e = .returned (.bool (MSG.cnt x)) ∧ w' = w := by
  unfold MSG.cnt
  by_cases h1 : 0 ≤ x
  · have d1 := decide_eq_true h1
    have e : decide (0 ≤ x ∧ x ≤ 2147483647) = decide (x ≤ 2147483647) := by simp [h1]
    rw [e]
    go_enter Tryz.func42, Tryz.ntmps42
    go_wp2_with fail
    go_ret
    exact ⟨rfl, rfl⟩
  · have d1 := decide_eq_false h1
    have e : decide (0 ≤ x ∧ x ≤ 2147483647) = false := decide_eq_false (by omega)
    rw [e]
    go_enter Tryz.func42, Tryz.ntmps42
    go_wp2_with fail
    go_ret
    exact ⟨rfl, rfl⟩
end
end Go.Proofs.YtnhlejdilldfaaaGreat
