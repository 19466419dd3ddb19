/- What Entry tells. May a message be? What is kept, as one of its own: cloneHard. -/
import Derived.Test.YtnhlejdilldfaaaGreatRpo
import Derived.Laws.ResultCell
import Derived.Test.YtnhlejdilldfaaaGreatRmh
namespace Go.Proofs.YtnhlejdilldfaaaGreat
open Go Go.RowKit Go.Maps
theorem results_celltmp {P : Program} {fn : Func} {p u : Tmp} {ty : TypeId} (h : fn.results = #[.cell p ty, .tmp u]) (tmps : Array Value) (w : World) (g : Nat) (t : TypeId) (cs : Array Value) (fr : Nat × Nat) (d : TypeDesc)
    (hp : tmps.getD p undef = .pointer (some ⟨g, 0, none⟩)) (hg : w.heap[g]? = some (.cells cs t fr))
    (hu : P.underlying ty = some d) (hd : (match d with | .struct _ | .array _ _ => true | _ => false) = true) (hi : (P.info? ty).map (·.size) = some cs.size) :
    (results fn tmps).run P w = .ok (.tuple #[.agg cs, tmps.getD u undef]) w := by
  have hp' : tmps[p]?.getD undef = .pointer (some ⟨g, 0, none⟩) := by simpa using hp
  simp [results, h, hp', asAddr, run_loadVar_row w g t ty cs fr d hg hu hd hi]
section
variable (F : Nat → Prop) (nb : Nat) (M : NM) (lb : Option Nat) (w : World) (N : RN)
set_option maxRecDepth 100000 in
set_option maxHeartbeats 1000000 in
theorem entryYes_any (h : ND F nb M lb w N) (hb : Bnd N) (j : Nat) (hj : j < N.k.log.length) (hc : N.k.bi + 1 + j ≤ N.commit) : Calls Tryz.prog 23 #[.pointer (some ⟨nb, 0, none⟩), .int .i64 (N.k.bi + 1 + j)] w fun e w' => ∃ a c, e = .returned (.tuple #[.agg #[.int .i64 N.k.log[j].term, .string ⟨N.k.log[j].s.toArray⟩, .bool N.k.log[j].conf, .slice a N.k.log[j].mem.length c], .bool true]) ∧ IF (NewB w w') w' a N.k.log[j].mem ∧ Below w.heap.size w w' := by
  have HE := fun W (hW : ND F nb M lb W N) => entry_any F nb M lb W N hW hb j hj
  have d1 : decide (N.k.bi + 1 + (j : Int) ≤ N.k.bi) = false := decide_eq_false (by omega)
  have d2 : decide (N.k.bi + 1 + (j : Int) > N.commit) = false := decide_eq_false (by omega)
  clear hc
  have HCl := fun (ma : Option Addr) (mc : Nat) W (hA : IA W ma N.k.log[j].mem) (hl : N.k.log[j].mem.length ≤ 17592186044416) => cloneEntry_any N.k.log[j] ma mc W hA hl
  generalize N.k.log[j] = x at *
  generalize hi : N.k.bi + 1 + (j : Int) = i at *
  clear hi hj
  go_enter Tryz.func23, Tryz.ntmps23
  go_upto_region 1 with fail
  have hA0 := bl_al (Below.refl w.heap.size w) (.cells #[.int .i64 0, .string ⟨#[]⟩, .bool false, .slice none 0 0] 29)
  have hBA := Blk.new w #[.int .i64 0, .string ⟨#[]⟩, .bool false, .slice none 0 0] 29
  have hsz : (w.alloc (.cells #[.int .i64 0, .string ⟨#[]⟩, .bool false, .slice none 0 0] 29)).heap.size = w.heap.size + 1 := World.size_alloc ..
  replace hsz : Hid (_ = _) := hsz
  generalize w.alloc (.cells #[.int .i64 0, .string ⟨#[]⟩, .bool false, .slice none 0 0] 29) = A at *
  have hN := h.below hA0
  have c3 := hN.c3
  have c10 := hN.c10
  have HNo := none_any F nb M lb A N hN
  go_wp2_with (first
    | (go_at_call 63; refine HNo.mono ?_; rintro e w1 ⟨rfl, hw1⟩; replace hw1 := hw1.symm; subst hw1; clear HNo)
    | (go_at_call 65; refine (HE _ hN).mono ?_; rintro e w2 ⟨ma, mc, rfl, hI2, hl2, hw2⟩; clear HE)
    | (go_at_call 64; refine (HCl ma mc _ (hI2.ia.below hw2) hl2).mono ?_; rintro e w3 ⟨a, c, rfl, hI3, hw3⟩; clear HCl; have hw3a := bl_ca hw2 hw3; have hB3 := hBA.belowSize hw3a)
    | (with_reducible refine at_list ?_; refine wpList_storeRow (op := ⟨none, .store 29 (.tmp 4) (.tmp 29), _, _, _, _⟩) rfl _ _ _ rfl w.heap.size #[.int .i64 x.term, .string ⟨x.s.toArray⟩, .bool x.conf, .slice a x.mem.length c] rfl rfl _ _ hB3 (lecS ..) (lecI x _) (lecO ..) ?_; intro w4 hg4 hs4 h4b))
  have hwA := bl_ca hA0 hw3a
  refine bodyPost_ret (v := .tuple #[.agg #[.int .i64 x.term, .string ⟨x.s.toArray⟩, .bool x.conf, .slice a x.mem.length c], .bool true]) ?_ rfl ⟨a, c, rfl, ?_, bl_gr hwA hg4 (Nat.le_refl _)⟩
  · exact results_celltmp (p := 4) (u := 5) rfl _ _ w.heap.size _ _ _ _ rfl h4b.out Tryz.underlying29 rfl (lecI x _)
  · have hs2 := hw2.size
    have hsA := hA0.size
    have hgA : A.heap.size = w.heap.size + 1 := hsz.out
    refine hI3.kept (fun k hk => hg4.block k hk.2 (fun e => by have := hk.1; cases e; omega)) (fun k hk => ⟨by have := hk.1; omega, Nat.lt_of_lt_of_le hk.2 (by omega)⟩)
end
end Go.Proofs.YtnhlejdilldfaaaGreat
namespace Go.Proofs.YtnhlejdilldfaaaGreat
open Go Go.RowKit Go.Maps
theorem idx5_0 (a b c d e : Int) (w : World) : (Instr.index 83 (.agg #[.int .i64 a, .int .i64 b, .int .i64 c, .int .i64 d, .int .i64 e]) (.int .i64 0)).run Tryz.prog w = .ok (.int .i64 a) w := by kernel_rfl
theorem idx5_1 (a b c d e : Int) (w : World) : (Instr.index 83 (.agg #[.int .i64 a, .int .i64 b, .int .i64 c, .int .i64 d, .int .i64 e]) (.int .i64 1)).run Tryz.prog w = .ok (.int .i64 b) w := by kernel_rfl
theorem idx5_2 (a b c d e : Int) (w : World) : (Instr.index 83 (.agg #[.int .i64 a, .int .i64 b, .int .i64 c, .int .i64 d, .int .i64 e]) (.int .i64 2)).run Tryz.prog w = .ok (.int .i64 c) w := by kernel_rfl
theorem idx5_3 (a b c d e : Int) (w : World) : (Instr.index 83 (.agg #[.int .i64 a, .int .i64 b, .int .i64 c, .int .i64 d, .int .i64 e]) (.int .i64 3)).run Tryz.prog w = .ok (.int .i64 d) w := by kernel_rfl
theorem idx5_4 (a b c d e : Int) (w : World) : (Instr.index 83 (.agg #[.int .i64 a, .int .i64 b, .int .i64 c, .int .i64 d, .int .i64 e]) (.int .i64 4)).run Tryz.prog w = .ok (.int .i64 e) w := by kernel_rfl
end Go.Proofs.YtnhlejdilldfaaaGreat
namespace Go.Proofs.YtnhlejdilldfaaaGreat
open Go Go.RowKit Go.Maps
theorem hd_info (a b c d : Int) (s : ByteArray) (v u : Value) : (Tryz.prog.info? 43).map (·.size) = some (#[Value.int .i64 a, .int .i64 b, .int .i64 c, .int .i64 d, .string s, v, u] : Array Value).size := by kernel_rfl
theorem hd_size (a b c d : Int) (s : ByteArray) (v u : Value) (a' b' c' d' : Int) (s' : ByteArray) (v' u' : Value) : (#[Value.int .i64 a, .int .i64 b, .int .i64 c, .int .i64 d, .string s, v, u] : Array Value).size = (#[Value.int .i64 a', .int .i64 b', .int .i64 c', .int .i64 d', .string s', v', u'] : Array Value).size := rfl
theorem hd_one (a b c d : Int) (s : ByteArray) (x1 : Option Addr) (n1 c1 : Nat) (x2 : Option Addr) (n2 c2 : Nat) : (#[Value.int .i64 a, .int .i64 b, .int .i64 c, .int .i64 d, .string s, .slice x1 n1 c1, .slice x2 n2 c2] : Array Value).all (·.oneCell') = true := by simp [Value.oneCell']
/-- What cloneHard tells. -/
def HdP (w : World) (k : HD) (e : Ending) (w' : World) : Prop := ∃ x c v, e = .returned (.agg #[.int .i64 k.term, .int .i64 k.vote, .int .i64 k.bi, .int .i64 k.bt, .string ⟨k.base.toArray⟩, .slice x k.bconf.length c, v]) ∧ Below w.heap.size w w' ∧ (∀ r, slBlk v = some r → w.heap.size ≤ r) ∧ IF (fun q => NewB w w' q ∧ slBlk v ≠ some q) w' x k.bconf ∧ LG (fun q => NewB w w' q ∧ slBlk v ≠ some q) w' v k.log
set_option maxRecDepth 100000 in
set_option maxHeartbeats 1000000 in
theorem cloneHard_any (k : HD) (ba la : Option Addr) (bc lc : Nat) (w : World) (hB : IA w ba k.bconf) (hL : EA w la k.log) (hbl : k.bconf.length ≤ 17592186044416) (hll : k.log.length ≤ 137438953472) : Calls Tryz.prog 60 #[.agg #[.int .i64 k.term, .int .i64 k.vote, .int .i64 k.bi, .int .i64 k.bt, .string ⟨k.base.toArray⟩, .slice ba k.bconf.length bc, .slice la k.log.length lc]] w (HdP w k) := by
  have hb := bl_al (bl_al (Below.refl w.heap.size w) (.cells #[.int .i64 k.term, .int .i64 k.vote, .int .i64 k.bi, .int .i64 k.bt, .string ⟨k.base.toArray⟩, .slice ba k.bconf.length bc, .slice la k.log.length lc] 43)) (.cells #[.int .i64 0, .int .i64 0, .int .i64 0, .int .i64 0, .string ⟨#[]⟩, .slice none 0 0, .slice none 0 0] 43)
  have hB1 := (Blk.new w #[.int .i64 k.term, .int .i64 k.vote, .int .i64 k.bi, .int .i64 k.bt, .string ⟨k.base.toArray⟩, .slice ba k.bconf.length bc, .slice la k.log.length lc] 43).alloc (.cells #[.int .i64 0, .int .i64 0, .int .i64 0, .int .i64 0, .string ⟨#[]⟩, .slice none 0 0, .slice none 0 0] 43)
  have hB2 := Blk.new (w.alloc (.cells #[.int .i64 k.term, .int .i64 k.vote, .int .i64 k.bi, .int .i64 k.bt, .string ⟨k.base.toArray⟩, .slice ba k.bconf.length bc, .slice la k.log.length lc] 43)) #[.int .i64 0, .int .i64 0, .int .i64 0, .int .i64 0, .string ⟨#[]⟩, .slice none 0 0, .slice none 0 0] 43
  rw [World.size_alloc] at hB2
  have hne : Hid (w.heap.size + 1 ≠ w.heap.size) := (fun e => by omega)
  go_enter Tryz.func60, Tryz.ntmps60
  go_upto_region 1 with fail
  generalize (w.alloc (.cells #[.int .i64 k.term, .int .i64 k.vote, .int .i64 k.bi, .int .i64 k.bt, .string ⟨k.base.toArray⟩, .slice ba k.bconf.length bc, .slice la k.log.length lc] 43)).alloc (.cells #[.int .i64 0, .int .i64 0, .int .i64 0, .int .i64 0, .string ⟨#[]⟩, .slice none 0 0, .slice none 0 0] 43) = A at *
  have e5 := hB1.cell 5
  go_upto_region 2 with (go_at_call 61; refine (sclF ba k.bconf bc _ (hB.below hb) hbl).mono ?_; rintro e w1 ⟨x, c, rfl, hI1, hw1⟩; have hX1 := hB1.belowSize hw1; have hY1 := hB2.belowSize hw1; have hb1 := bl_ca hb hw1; have e5 := hX1.cell 5; have f5 := hX1.frozen 5)
  have hX2 := hX1.setCell 5 (.slice x k.bconf.length c)
  have hY2 := hY1.setCell_other ⟨w.heap.size, 5, none⟩ hne.out (.slice x k.bconf.length c)
  have hb2 := bl_st hb1 (Nat.le_refl _) 5 (.slice x k.bconf.length c)
  have hI2 := hI1.kept (F' := NewB A w1) (w' := w1.setCell ⟨w.heap.size, 5, none⟩ (.slice x k.bconf.length c)) (fun q hq => Below.heap_setCell _ _ _ _ (fun e => by have := hq.1; have h9 := hB1.lt; have e : q = w.heap.size := e; omega)) (fun _ h => h)
  have hs2 : (w1.setCell ⟨w.heap.size, 5, none⟩ (.slice x k.bconf.length c)).heap.size = w1.heap.size := by simp
  replace hs2 : Hid (_ = _) := hs2
  generalize w1.setCell ⟨w.heap.size, 5, none⟩ (.slice x k.bconf.length c) = w2 at *
  clear e5 f5
  have e6 := hX2.cell 6
  go_upto_region 3 with (go_at_call 85; refine (cloneEntries_any la k.log lc _ (hL.below hb2) hll).mono ?_; rintro e w3 hce; obtain ⟨v, rfl, hw3, hv3, hG3⟩ := hce; obtain ⟨a3, c3, rfl, _⟩ := hG3.sl; have hX3 := hX2.belowSize hw3; have hY3 := hY2.belowSize hw3; have hb3 := bl_ca hb2 hw3; have e6 := hX3.cell 6; have f6 := hX3.frozen 6)
  have hlt3 := hY3.lt
  have hX4 := hX3.setCell 6 (.slice a3 k.log.length c3)
  have hY4 := hY3.setCell_other ⟨w.heap.size, 6, none⟩ hne.out (.slice a3 k.log.length c3)
  have hb4 := bl_st hb3 (Nat.le_refl _) 6 (.slice a3 k.log.length c3)
  have hk4 : ∀ q, w.heap.size + 2 ≤ q → (w3.setCell ⟨w.heap.size, 6, none⟩ (.slice a3 k.log.length c3)).heap[q]? = w3.heap[q]? := fun q hq => Below.heap_setCell _ _ _ _ (fun e => by have e : q = w.heap.size := e; omega)
  have hs4 : (w3.setCell ⟨w.heap.size, 6, none⟩ (.slice a3 k.log.length c3)).heap.size = w3.heap.size := by simp
  replace hs4 : Hid (_ = _) := hs4
  generalize w3.setCell ⟨w.heap.size, 6, none⟩ (.slice a3 k.log.length c3) = w4 at *
  clear e6 f6
  have e0 := hX4.cell 0; have e1 := hX4.cell 1; have e2 := hX4.cell 2; have e3 := hX4.cell 3; have e4 := hX4.cell 4; have e5 := hX4.cell 5; have e6 := hX4.cell 6
  go_wp2_with (with_reducible refine at_list ?_; refine wpList_storeRow (op := ⟨none, .store 43 (.tmp 2) (.tmp 11), _, _, _, _⟩) rfl _ _ _ rfl (w.heap.size + 1) #[.int .i64 k.term, .int .i64 k.vote, .int .i64 k.bi, .int .i64 k.bt, .string ⟨k.base.toArray⟩, .slice x k.bconf.length c, .slice a3 k.log.length c3] rfl rfl _ _ hY4 (hd_size ..) (hd_info ..) (hd_one ..) ?_; intro w5 hg5 hs5 h5b)
  refine bodyPost_ret (v := .agg #[.int .i64 k.term, .int .i64 k.vote, .int .i64 k.bi, .int .i64 k.bt, .string ⟨k.base.toArray⟩, .slice x k.bconf.length c, .slice a3 k.log.length c3]) ?_ rfl ⟨x, c, _, rfl, bl_gr hb4 hg5 (Nat.le_succ _), ?_, ?_, ?_⟩
  · exact results_cell_row rfl _ _ (w.heap.size + 1) _ _ _ _ rfl h5b.out Tryz.underlying43 rfl (hd_info ..)
  · intro r hr
    have := hv3 r hr
    have := hs2.out
    have := hw1.size
    have := hb.size
    omega
  · have h1 := hs2.out
    have h2 := hw1.size
    have h3 := hw3.size
    have h4 := hs4.out
    have h5 := hg5.size
    have h6 := hB2.lt
    have h7 := hb.size
    refine hI2.kept (fun q hq => ?_) (fun q hq => ⟨⟨by have := hq.1; omega, by have := hq.2; omega⟩, fun e => by have := hv3 q e; have := hq.2; omega⟩)
    have k1 := hq.1
    have k2 := hq.2
    rw [hg5.block q (by omega) (fun e => by have := Option.some.inj e; omega), hk4 q (by omega), hw3.block q (by omega)]
  · have h1 := hs2.out
    have h2 := hw1.size
    have h3 := hw3.size
    have h4 := hs4.out
    have h5 := hg5.size
    have h6 := hB2.lt
    have h7 := hb.size
    have hlt : ∀ q, slBlk (.slice a3 k.log.length c3) = some q → q < w3.heap.size := fun q e => by
      obtain ⟨ls, hl, _⟩ := hG3
      exact (hl.lt q e).2
    have hkq : ∀ q, w2.heap.size ≤ q → q < w3.heap.size → w5.heap[q]? = w3.heap[q]? := fun q k1 k2 => by
      rw [hg5.block q (by omega) (fun e => by have := Option.some.inj e; omega), hk4 q (by omega)]
    exact hG3.kept (fun q e => hkq q (hv3 q e) (hlt q e)) (fun q hq => hkq q hq.1.1 hq.1.2) (fun q hq => ⟨⟨by have := hq.1.1; omega, by have := hq.1.2; omega⟩, hq.2⟩)
end Go.Proofs.YtnhlejdilldfaaaGreat
