/- What Check does, of any block whose header may be. What Clone of a block does. -/
import Derived.Test.YtmbdhngoldganaaGreatDoorChk2
import Derived.Test.YtmbdhngoldganaaGreatDoorChk1
import Derived.Test.YtmbdhngoldganaaGreatDoorExm
import Derived.Deep.RegionHeld3
namespace Go.Proofs.YtmbdhngoldganaaGreatDoor
open Go Go.RowKit
set_option maxRecDepth 100000 in
set_option maxHeartbeats 2000000 in
theorem check_wrong (h : HH) (hok : chkH h = 0) (l : List TX) (hl0 : 0 < l.length) (p : List UInt8) (hp : p.length = 32) (ht : Nat) (hh : ht ≠ 0) (mem : List Int) (hmem : okM mem = true) (hne : h.mem ≠ mem) (hml : h.mem.length ≤ 1000000) (am ah a : Option Addr) (cm ch cap : Nat) (bs bt : Nat) (w : World) (hIh : IA w ah h.mem) (hI : IA w am mem) :
    Calls Tryz.prog 69 #[.string ⟨p.toArray⟩, .int .u64 (ht : Nat), .slice am mem.length cm, .pointer (some ⟨bs, 0, none⟩), .pointer (some ⟨bt, 0, none⟩), .agg (bk h.height h.prev h.txr h.str (.slice ah h.mem.length ch) (.slice a l.length cap))] w fun e w' => e = .returned (.int .i64 90) ∧ Below w.heap.size w w' := by
  have HP := fun w1 (h : IA w1 am mem) => place_any p ht mem am cm (some ⟨bs, 0, none⟩) (some ⟨bt, 0, none⟩) w1 h
  have hpl : plE (some ⟨bs, 0, none⟩) (some ⟨bt, 0, none⟩) ht p mem = 0 := if_neg (by simp [hh, hp, hmem])
  rw [hpl] at HP
  have HH := fun w1 (k : IA w1 ah h.mem) => checkH_any h ah ch w1 k
  change ∀ w1, IA w1 ah h.mem → Calls Tryz.prog 117 #[.agg (hA h.height h.prev h.txr h.str (.slice ah h.mem.length ch))] w1 _ at HH
  rw [hok] at HH
  have HBO : ∀ w1, IA w1 ah h.mem → IA w1 am mem → Calls Tryz.prog 118 #[.agg (bk h.height h.prev h.txr h.str (.slice ah h.mem.length ch) (.slice a l.length cap)), .slice am mem.length cm] w1 (fun e w' => e = .returned (.tuple #[.agg (bc (.slice none 0 0) false (.slice none 0 0)), .bool false]) ∧ Below w1.heap.size w1 w') := fun w1 k1 k2 => (batchOf_any _ _ _ _ _ _ hml ah am ch cm a l.length cap w1 k1 k2).mono fun e w' hb => by
    unfold boP at hb
    obtain ⟨hb, hb2⟩ := hb
    rcases hb2 with ⟨e1, _⟩ | ⟨_, _, e1⟩ | ⟨_, e1, _⟩
    · exact absurd e1 hne
    · exact ⟨e1, hb⟩
    · omega
  clear hpl hok hne
  go_enter Tryz.func69, Tryz.ntmps69
  go_wp2_with (first
    | (go_at_call 105; refine (HP _ (hI.below hB)).mono ?_; rintro e w' ⟨rfl, hw'⟩; have hw6 := hw'.symm; subst hw6; clear HP hw')
    | (go_at_call 117; refine (HH _ (hIh.below hB)).mono ?_; rintro e w2 ⟨rfl, hw2⟩; clear HH; replace h1 := h1.belowSize hw2; replace hB := hB.trans (hw2.mono hB.size); clear hw2)
    | (go_at_call 118; refine (HBO _ (hIh.below hB) (hI.below hB)).mono ?_; rintro e w3 ⟨rfl, hw3⟩; clear HBO; replace h1 := h1.belowSize hw3; replace hB := hB.trans (hw3.mono hB.size); clear hw3)
    | (with_reducible refine at_list ?_; first
      | (refine wpList_boxRow (op := ⟨some 11, _, _, _, _, _⟩) rfl _ _ rfl _ rfl ?_; intro w1 hw1 hs1 h1; replace hs1 := hs1.symm; have hB := hw1)
      | (refine wpList_loadOp (op := ⟨some 30, _, _, _, _, _⟩) rfl _ _ rfl w.heap.size 0 rfl (hA h.height h.prev h.txr h.str (.slice ah h.mem.length ch)) (bk_head h1) _ Tryz.underlying50 rfl (hA_info _ _ _ _ _) ?_)
      | (refine wpList_loadRow (op := ⟨some 36, _, _, _, _, _⟩) rfl _ _ rfl w.heap.size rfl _ _ h1 _ Tryz.underlying53 rfl (bk_info _ _ _ _ _ _) ?_)
      | (refine wpList_allocRow (op := ⟨some 15, _, _, _, _, _⟩) rfl _ rfl _ zB.1 ?_; intro w4 hw4 hs4 h15; clear hs4; have hB4 := hB.trans (hw4.mono hB.size); clear hw4)
      | (refine wpList_storeRow (op := ⟨none, .store 58 (.tmp 15) (.tmp 39), _, _, _, _⟩) rfl _ _ _ rfl w3.heap.size (bc (.slice none 0 0) false (.slice none 0 0)) rfl rfl _ _ h15 (by simp only [bc_size]) (bc_info _ _ _) (bc_one _ _ _ _ _ _ _) ?_; intro wc hg5 hs5 hb15; clear hs5; have hBc := hB4.trans (below_of_grown hg5 hB.size hB4.size); clear hg5 h15 hB4)))
  go_ret
  exact ⟨rfl, hBc⟩
/-- Is a block right behind p, at ht, where mem take part, in that state? -/
structure RightB (m : List KV) (t : Tr) (ht : Nat) (p : List UInt8) (mem : List Int) (h : HH) (l : List TX) : Prop where
  kind : h.mem = mem ∨ l = []
  ok : ∀ x ∈ l, okTx x = true
  len : l.length ≤ 16
  head : hMk m t l ht p h.mem = h
  all : exD m l = l
/-- What Check leaves. -/
def CkP (w : World) (bs bt : Nat) (m : List KV) (t : Tr) (ht : Nat) (p : List UInt8) (mem : List Int) (h : HH) (l : List TX) (e : Ending) (w' : World) : Prop :=
  (RightB m t ht p mem h l ∧ e = .returned (.int .i64 0) ∧ EX w' bs bt (exS m l) (exR m t l) ∧ Two bs bt w w') ∨ (¬ RightB m t ht p mem h l ∧ ∃ er, er ≠ 0 ∧ e = .returned (.int .i64 er) ∧ Below w.heap.size w w')
theorem checkBlk_any (h : HH) (hok : OkH h) (l : List TX) (p : List UInt8) (hp : p.length = 32) (ht : Nat) (hh : ht ≠ 0) (mem : List Int) (hmem : okM mem = true) (am ah a : Option Addr) (cm ch cap : Nat) (bs bt : Nat) (m : List KV) (t : Tr) (w : World) (hE : EX w bs bt m t) (hS : Sz m) (hC : Tr.Canon 0 t) (hn : t.cnt ≤ 3300) (hT : TA w a l) (hIh : IA w ah h.mem) (hI : IA w am mem) :
    Calls Tryz.prog 69 #[.string ⟨p.toArray⟩, .int .u64 (ht : Nat), .slice am mem.length cm, .pointer (some ⟨bs, 0, none⟩), .pointer (some ⟨bt, 0, none⟩), .agg (bk h.height h.prev h.txr h.str (.slice ah h.mem.length ch) (.slice a l.length cap))] w (CkP w bs bt m t ht p mem h l) := by
  have hml : h.mem.length ≤ 1000000 := by have := hok.m.len; omega
  have hok0 : chkH h = 0 := if_pos (okH_iff.2 hok)
  by_cases hmm : h.mem = mem
  · have HBO : ∀ w1, Below w.heap.size w w1 → Calls Tryz.prog 118 #[.agg (bk h.height h.prev h.txr h.str (.slice ah h.mem.length ch) (.slice a l.length cap)), .slice am mem.length cm] w1 (fun e w' => e = .returned (.tuple #[.agg (bc (.slice a l.length cap) false (.slice none ([] : List Int).length 0)), .bool true]) ∧ Below w1.heap.size w1 w') := fun w1 k => (batchOf_any _ _ _ _ _ _ hml ah am ch cm a l.length cap w1 (hIh.below k) (hI.below k)).mono fun e w' hb => by
      unfold boP at hb
      obtain ⟨hb, hb2⟩ := hb
      rcases hb2 with ⟨_, e1⟩ | ⟨e1, _⟩ | ⟨e1, _⟩
      · exact ⟨e1, hb⟩
      · exact absurd hmm e1
      · exact absurd hmm e1
    by_cases hc : chkB ⟨l, false, []⟩ = 0
    · obtain ⟨h1, h2, _⟩ := chkB_zero hc
      by_cases hs : hMk m t l ht p h.mem = h ∧ exD m l = l
      · exact (check_good h hok0 l false [] p hp ht hh mem hmem am ah a cm ch cap a none cap 0 bs bt m t w hE hS hT hIh hI hT (fun i x hx => by cases hx) HBO hC hn hc (by rw [if_neg (by exact Bool.noConfusion), ← hmm]; exact hs)).mono fun e w' h3 => .inl ⟨⟨.inl hmm, h1, h2, hs.1, hs.2⟩, h3⟩
      · exact (check_other h hok0 l false [] p hp ht hh mem hmem am ah a cm ch cap a none cap 0 bs bt m t w hE hS hT hIh hI hT (fun i x hx => by cases hx) HBO hC hn hc (by rw [if_neg (by exact Bool.noConfusion), ← hmm]; exact hs)).mono fun e w' h3 => .inr ⟨fun r => hs ⟨r.head, r.all⟩, 90, by decide, h3⟩
    · exact (check_bad h hok0 l false [] p hp ht hh mem hmem am ah a cm ch cap a none cap 0 bs bt m t w hE hS hT hIh hI hT (fun i x hx => by cases hx) HBO hc).mono fun e w' h3 => .inr ⟨fun r => hc (by
        rw [chkB_ag, if_pos (show agB ⟨l, false, []⟩ = true from rfl), if_neg (by have := r.len; dsimp only; omega), if_pos (List.all_eq_true.2 r.ok)]), _, hc, h3⟩
  · by_cases hl : l = []
    · subst hl
      have HBO : ∀ w1, Below w.heap.size w w1 → Calls Tryz.prog 118 #[.agg (bk h.height h.prev h.txr h.str (.slice ah h.mem.length ch) (.slice a ([] : List TX).length cap)), .slice am mem.length cm] w1 (fun e w' => e = .returned (.tuple #[.agg (bc (.slice none ([] : List TX).length 0) true (.slice ah h.mem.length ch)), .bool true]) ∧ Below w1.heap.size w1 w') := fun w1 k => (batchOf_any _ _ _ _ _ _ hml ah am ch cm a _ cap w1 (hIh.below k) (hI.below k)).mono fun e w' hb => by
        unfold boP at hb
        obtain ⟨hb, hb2⟩ := hb
        rcases hb2 with ⟨e1, _⟩ | ⟨_, e1, _⟩ | ⟨_, _, e1⟩
        · exact absurd e1 hmm
        · simp at e1
        · exact ⟨e1, hb⟩
      have hc : chkB ⟨[], true, h.mem⟩ = 0 := by
        rw [chkB_ag, if_pos (show agB ⟨[], true, h.mem⟩ = true from okM_iff.2 hok.m)]
        rfl
      by_cases hs : hMk m t [] ht p h.mem = h ∧ exD m [] = []
      · exact (check_good h hok0 [] true h.mem p hp ht hh mem hmem am ah a cm ch cap none ah 0 ch bs bt m t w hE hS hT hIh hI (TA.nil _ _) hIh HBO hC hn hc (by rw [if_pos rfl]; exact hs)).mono fun e w' h3 => .inl ⟨⟨.inr rfl, fun x hx => (by cases hx), by decide, hs.1, hs.2⟩, h3⟩
      · exact (check_other h hok0 [] true h.mem p hp ht hh mem hmem am ah a cm ch cap none ah 0 ch bs bt m t w hE hS hT hIh hI (TA.nil _ _) hIh HBO hC hn hc (by rw [if_pos rfl]; exact hs)).mono fun e w' h3 => .inr ⟨fun r => hs ⟨r.head, r.all⟩, 90, by decide, h3⟩
    · exact (check_wrong h hok0 l (List.length_pos_iff.2 hl) p hp ht hh mem hmem hmm hml am ah a cm ch cap bs bt w hIh hI).mono fun e w' h3 => .inr ⟨fun r => r.kind.elim hmm hl, 90, by decide, h3⟩
/-- What was done can be done again: what fails changes nothing. -/
theorem ex_again (m : List KV) (t : Tr) (l : List TX) : exS m (exD m l) = exS m l ∧ exR m t (exD m l) = exR m t l ∧ exD m (exD m l) = exD m l := by
  induction l generalizing m t with
  | nil => exact ⟨rfl, rfl, rfl⟩
  | cons x r ih =>
    by_cases he : apE m x = 0
    · have e : exD m (x :: r) = x :: exD (apM m x) r := if_pos he
      rw [e]
      obtain ⟨h1, h2, h3⟩ := ih (apM m x) (exT m t x)
      refine ⟨h1, h2, ?_⟩
      show (if apE m x = 0 then x :: exD (apM m x) (exD (apM m x) r) else _) = _
      rw [if_pos he, h3]
    · have e : exD m (x :: r) = exD m r := by
        show (if apE m x = 0 then _ else exD (apM m x) r) = _
        rw [if_neg he, apM_err he]
      obtain ⟨h1, h2, h3⟩ := ih m t
      rw [e]
      refine ⟨?_, ?_, h3⟩
      · show _ = exS (apM m x) r
        rw [apM_err he]
        exact h1
      · show _ = exR (apM m x) (exT m t x) r
        rw [apM_err he, show exT m t x = t from if_neg he]
        exact h2
end Go.Proofs.YtmbdhngoldganaaGreatDoor
namespace Go.Proofs.YtmbdhngoldganaaGreatDoor
open Go Go.RowKit
/-- Numbers stay where a slice of another kind grows. -/
theorem CB.row {w w1 : World} {g : Nat} {l : List Int} {t : TypeId} {k lo : Nat} {sl : Value} {ls : List (List Value)} (h : CB w g l) (hG : Sh.GL w t k lo sl ls) (ht : 3 ≠ t) (hg : w.grownBy w1 (Sh.slBlk sl)) : CB w1 g l := by
  obtain ⟨c, fr, k1, k2⟩ := h.out
  refine ⟨c, fr, (hg.block g h.lt (fun e => ?_)).trans k1, k2⟩
  rcases hG.2 with ⟨_, rfl⟩ | ⟨g2, cap, h1, rfl, h3⟩
  · cases e
  · cases e
    obtain ⟨cur, h4, _⟩ := h3.out
    rw [k1] at h4
    simp only [Option.some.injEq, Obj.cells.injEq] at h4
    exact ht h4.2.1
theorem builtBk1 (ht : Nat) (p t s : List UInt8) (a2 : Option Addr) (n2 cap2 : Nat) : Tryz.prog.built 53 [(0, .agg (hA ht p t s (.slice a2 n2 cap2)))] = some (bk ht p t s (.slice a2 n2 cap2) (.slice none 0 0)) := by kernel_rfl
theorem bk_set5 (ht : Nat) (p t s : List UInt8) (sm st st' : Value) : (bk ht p t s sm st).setIfInBounds 5 st' = bk ht p t s sm st' := rfl
theorem run_bslTx {op : Oper} {a : Act} {w : World} (x : Operand) (ho : op.op = .buildSlice 51 1 #[(0, x)]) (c n : Nat) (sa : Option Addr) (k cap : Nat) (hx : a.eval x = .agg (txc c n (.slice sa k cap))) : (execOp a.eval op).run Tryz.prog w = .ok (.value (.slice (some ⟨w.heap.size, 0, none⟩) 1 1)) (w.alloc (.cells (txc c n (.slice sa k cap)) 95)) := by
  unfold execOp
  have e : (#[(0, x)] : Array (Nat × Operand)).map (fun (i, x) => (i, a.eval x)) = #[(0, .agg (txc c n (.slice sa k cap)))] := by simp [hx]
  have hr := bslTx c n sa k cap w
  rw [← e] at hr
  simp only [ho, Sem.run_bind, hr, Result.andThen_ok]
  rfl
/-- What is kept while transactions are cloned. -/
structure CLN (w0 w : World) (B2 B3 lo gm cm : Nat) (ht : Nat) (p t s : List UInt8) (mem : List Int) (sl : Value) (dls : List (List Value)) (D : List TX) : Prop where
  b2 : Blk w B2 (bk 0 [] [] [] (.slice none 0 0) (.slice none 0 0)) 53
  b3 : Blk w B3 (bk ht p t s (.slice (some ⟨gm, 0, none⟩) mem.length cm) sl) 53
  gl : Sh.GL w 95 3 lo sl dls
  tx : TXL w 0 97 dls D
  cb : CB w gm mem
  bel : Below w0.heap.size w0 w
  o1 : w0.heap.size ≤ B2 ∧ B2 < B3 ∧ B3 < lo ∧ lo ≤ w.heap.size
theorem CLN.below {w0 w w' : World} {B2 B3 lo gm cm ht : Nat} {p t s : List UInt8} {mem : List Int} {sl : Value} {dls : List (List Value)} {D : List TX} (h : CLN w0 w B2 B3 lo gm cm ht p t s mem sl dls D) (hb : Below w.heap.size w w') : CLN w0 w' B2 B3 lo gm cm ht p t s mem sl dls D :=
  ⟨h.b2.belowSize hb, h.b3.belowSize hb, h.gl.below hb, h.tx.below hb, h.cb.below hb, h.bel.trans (hb.mono h.bel.size), h.o1.1, h.o1.2.1, h.o1.2.2.1, Nat.le_trans h.o1.2.2.2 hb.size⟩
theorem CLN.app {w0 w w1 w2 : World} {B2 B3 lo gm cm ht : Nat} {p t s : List UInt8} {mem : List Int} {sl sl1 : Value} {dls : List (List Value)} {D : List TX} (h : CLN w0 w B2 B3 lo gm cm ht p t s mem sl dls D) (x : TX) (sa : Option Addr) (cap : Nat) (hs : SL w sa x.ops) (hn : NB w 0 97 sa) (h1 : x.client < 18446744073709551616) (h2 : x.nonce < 18446744073709551616)
    (hg : w.grownBy w1 (Sh.slBlk sl)) (hG : Sh.GL w1 95 3 lo sl1 (dls ++ [(txc x.client x.nonce (.slice sa x.ops.length cap)).toList]))
    (hg2 : w1.grownBy w2 (some B3)) (hb2 : Blk w2 B3 (bk ht p t s (.slice (some ⟨gm, 0, none⟩) mem.length cm) sl1) 53) : CLN w0 w2 B2 B3 lo gm cm ht p t s mem sl1 (dls ++ [(txc x.client x.nonce (.slice sa x.ops.length cap)).toList]) (D ++ [x]) := by
  obtain ⟨o1, o2, o3, o4⟩ := h.o1
  have hrow : ∀ i, i < lo → some i ≠ Sh.slBlk sl := fun i hi e => by have := (h.gl.lt i e.symm).1; omega
  have hbs : Beside w 0 97 (Sh.slBlk sl) := GLbeside h.gl (Nat.zero_le _) (by decide)
  have hx1 := (h.tx.snoc x sa cap hs hn h1 h2).grown hg hbs
  have b31 := h.b3.grown hg (hrow _ o3)
  have hc1 : CB w1 gm mem := h.cb.row h.gl (by decide) hg
  have hbel : Below w0.heap.size w w1 := below_row hg (fun r e => by have := (h.gl.lt r e).1; omega) h.bel.size
  have hB1 := h.bel.trans hbel
  exact ⟨(h.b2.grown hg (hrow _ (by omega))).grown hg2 (by simp; omega), hb2, hG.grown hg2 (hG.ne (Blk.sh b31) (.inl (by decide))), hx1.grown hg2 (Beside.blk b31 (by decide)), hc1.other hg2 b31 (by decide), hB1.trans (below_of_grown hg2 (by omega) hB1.size), o1, o2, o3, Nat.le_trans o4 (Nat.le_trans hg.size hg2.size)⟩
/-- What Clone leaves. -/
def ClnP (w : World) (ht : Nat) (p t s : List UInt8) (mem : List Int) (l : List TX) (e : Ending) (w' : World) : Prop :=
  ∃ gm cm lo a cap dls, e = .returned (.agg (bk ht p t s (.slice (some ⟨gm, 0, none⟩) mem.length cm) (.slice a l.length cap))) ∧ Sh.GL w' 95 3 lo (.slice a l.length cap) dls ∧ TXL w' 0 97 dls l ∧ CB w' gm mem ∧ Below w.heap.size w w' ∧ w.heap.size ≤ lo ∧ lo ≤ w'.heap.size
set_option maxRecDepth 100000 in
set_option maxHeartbeats 4000000 in
theorem cloneB_any (ht : Nat) (p t s : List UInt8) (mem : List Int) (h0 : 0 < mem.length) (hml : mem.length ≤ 1000000) (l : List TX) (hok : ∀ x ∈ l, okTx x = true) (hl : l.length ≤ 1000) (a2 : Option Addr) (cap2 : Nat) (a : Option Addr) (cap : Nat) (w : World) (hI : IA w a2 mem) (hT : TA w a l) :
    Calls Tryz.prog 62 #[.agg (bk ht p t s (.slice a2 mem.length cap2) (.slice a l.length cap))] w (ClnP w ht p t s mem l) := by
  have HH := fun w1 (h : IA w1 a2 mem) => cloneH_any ht p t s mem a2 cap2 w1 h h0 hml
  obtain ⟨ie, ei, ez, es, eb⟩ := infoTx
  go_enter Tryz.func62, Tryz.ntmps62
  go_wp2_with (first
    | (go_at_call 110; refine (HH _ (hI.below hB)).mono ?_; rintro e w3 ⟨gm, cm, rfl, hgm, hw3, hCB⟩; clear HH; replace h1 := h1.belowSize hw3; replace h2 := h2.belowSize hw3; have hB3 := hB.trans (hw3.mono hB.size); have hz3 := hw3.size; clear hw3)
    | (with_reducible refine at_list ?_; first
      | (refine wpList_boxRow (op := ⟨some 1, _, _, _, _, _⟩) rfl _ _ rfl _ rfl ?_; intro w1 hw1 hs1 h1; replace hs1 := hs1.symm)
      | (refine wpList_allocRow (op := ⟨some 2, _, _, _, _, _⟩) rfl _ rfl _ zBlk.1 ?_; intro w2 hw2 hs2 h2; replace hs2 := hs2.symm; replace h1 := h1.belowSize hw2; have hB := hw1.trans (hw2.mono hw1.size); clear hw2)
      | (refine wpList_loadOp (op := ⟨some 7, _, _, _, _, _⟩) rfl _ _ rfl w.heap.size 0 rfl (hA ht p t s (.slice a2 mem.length cap2)) (bk_head h1) _ Tryz.underlying50 rfl (hA_info _ _ _ _ _) ?_)
      | (refine wpList_run (op := ⟨some 9, _, _, _, _, _⟩) rfl _ _ (run_built1 _ _ _ rfl _ rfl _ (builtBk1 ht p t s (some ⟨gm, 0, none⟩) mem.length cm)) ?_)
      | (refine wpList_allocRow (op := ⟨some 3, _, _, _, _, _⟩) rfl _ rfl _ zBlk.1 ?_; intro w4 hw4 hs4 h3; replace hs4 := hs4.symm; replace h1 := h1.belowSize hw4; replace h2 := h2.belowSize hw4; replace hCB := hCB.below hw4; have hB4 := hB3.trans (hw4.mono hB3.size); clear hw4)
      | (refine wpList_storeRow (op := ⟨none, .store 53 (.tmp 3) (.tmp 9), _, _, _, _⟩) rfl _ _ _ rfl w3.heap.size (bk ht p t s (.slice (some ⟨gm, 0, none⟩) mem.length cm) (.slice none 0 0)) rfl rfl _ _ h3 (by simp only [bk_size]) (bk_info _ _ _ _ _ _) (bk_one _ _ _ _ _ _ _ _ _ _) ?_; intro w5 hg5 hs5 hb5; replace hs5 := hs5.symm; have hn1 : w.heap.size < w3.heap.size := (by omega); have hn2 : w1.heap.size < w3.heap.size := (by omega); replace h1 := h1.grown hg5 (fun e => absurd (Option.some.inj e) (Nat.ne_of_lt hn1)); replace h2 := h2.grown hg5 (fun e => absurd (Option.some.inj e) (Nat.ne_of_lt hn2)); replace hCB := hCB.other hg5 h3 (by decide); have hB5 := hB4.trans (below_of_grown hg5 hB3.size hB4.size); clear hg5 h3; have c5 := (h1.cell 5).trans (bk_g5 _ _ _ _ _ _))))
  obtain ⟨B2, hB2⟩ : ∃ y, y = w1.heap.size := ⟨_, rfl⟩
  obtain ⟨B3, hB3e⟩ : ∃ y, y = w3.heap.size := ⟨_, rfl⟩
  obtain ⟨lo, hlo⟩ : ∃ y, y = w5.heap.size := ⟨_, rfl⟩
  rw [← hB2] at h2 ⊢
  rw [← hB3e] at hb5 ⊢
  have hst : CLN w w5 B2 B3 lo gm cm ht p t s mem (.slice none 0 0) [] [] := ⟨h2, hb5, Sh.GL.nil _ _ _ _, TXL.nil _ _ _, hCB, hB5, by omega, by omega, by omega, by omega⟩
  have hlw : w.heap.size ≤ lo := by omega
  clear h1 h2 hb5 hCB hB5 hB4 hB3 hB hs1 hs2 hs4 hs5 hz3 hn1 hn2 hw1 hgm c5 hB2 hB3e hlo
  go_loopw [13] (fun v13 wl => ∃ (i : Nat) (sl : Value) (dls : List (List Value)), i ≤ l.length ∧ v13 = .int .i64 i ∧ CLN w wl B2 B3 lo gm cm ht p t s mem sl dls (l.take i)) (fun v13 _ => l.length - (intOf v13).toNat)
  case atStart => exact ⟨0, _, [], by omega, rfl, by rw [List.take_zero]; exact hst⟩
  case round =>
    obtain ⟨i, sl, dls, hil, rfl, hN⟩ := hrel
    clear hst
    by_cases hlt : i < l.length
    · obtain ⟨g, o, rfl⟩ := hT.ex (by omega)
      obtain ⟨sa, sc, hr, hs, hx1, hx2⟩ := (hT.below hN.bel).at i hlt
      have hop := okTx_of (hok _ (List.getElem_mem hlt))
      have hsn : Hid (l.take (i + 1) = l.take i ++ [l[i]]) := by rw [List.take_succ_eq_append_getElem hlt]; exact rfl
      have HC := fun w1 (d : SL w1 sa l[i].ops) => tclone_any l[i] sa sc w1 d (Nat.lt_of_lt_of_le Nat.zero_lt_one hop.len0) (Nat.le_trans hop.len1 (by decide))
      have hz1 : (0 : Int) ≤ (i : Int) := by omega
      have hz2 : (i : Int) < (l.length : Int) := by omega
      have hltH : Hid (i < l.length) := hlt
      have hlo6 : lo ≤ wr.heap.size := hN.o1.2.2.2
      have hlt50 := fun r e => (hN.gl.lt r e).2
      have hdl : dls.length ≤ 1000000 := by rw [hN.tx.len, List.length_take]; omega
      generalize l[i] = x at *
      generalize l.take i = Li at *
      go_upto_region 5 with (with_reducible refine at_list ?_; first
        | (refine wpList_loadOp (op := ⟨some 16, _, _, _, _, _⟩) rfl _ _ rfl g (o + i * 3) rfl (txc x.client x.nonce (.slice sa x.ops.length sc)) hr _ Tryz.underlying95 rfl (by rw [txc_size]; exact zTx.2) ?_)
        | (refine wpList_allocRow (op := ⟨some 5, _, _, _, _, _⟩) rfl _ rfl _ zTx.1 ?_; intro w6 hw6 hs6 h5; replace hs6 := hs6.symm; clear hr)
        | (refine wpList_storeRow (op := ⟨none, .store 95 (.tmp 5) (.tmp 16), _, _, _, _⟩) rfl _ _ _ rfl wr.heap.size (txc x.client x.nonce (.slice sa x.ops.length sc)) rfl rfl _ _ h5 (by simp only [txc_size]) (by rw [txc_size]; exact zTx.2) (txc_one _ _ _ _ _) ?_; intro w7 hg7 hs7 hb7; clear hs7; have hx7 := hw6.trans (below_of_grown hg7 (Nat.le_refl _) hw6.size); replace hs := hs.below hx7; replace hN := hN.below hx7; clear hx7 hg7 hw6 h5))
      have hdr : Below w7.heap.size w7 w7.drew := (Below.refl _ _).drew
      replace hN := hN.below hdr
      replace hs := hs.below hdr
      replace hb7 := hb7.belowSize hdr
      have hlt7 := hb7.lt
      obtain ⟨B5, hB5⟩ : ∃ y, y = wr.heap.size := ⟨_, rfl⟩
      rw [← hB5] at hb7 ⊢
      have hlt5 : ∀ r, Sh.slBlk sl = some r → r < B5 := by rw [hB5]; exact hlt50
      have hlo5 : lo ≤ B5 := by rw [hB5]; exact hlo6
      have hHeld : (fun w' : World => Blk w' B3 (bk ht p t s (.slice (some ⟨gm, 0, none⟩) mem.length cm) sl) 53 ∧ Blk w' B5 (txc x.client x.nonce (.slice sa x.ops.length sc)) 95) w7.drew := ⟨hN.b3, hb7⟩
      refine Sh.wp_region_L (S := fun w' : World => Blk w' B3 (bk ht p t s (.slice (some ⟨gm, 0, none⟩) mem.length cm) sl) 53 ∧ Blk w' B5 (txc x.client x.nonce (.slice sa x.ops.length sc)) 95) (z := 7) (by kernel_rfl) ?_
      refine Sh.wpAnyL_take (i := 0) (oi := ⟨some 17, _, _, _, _, _⟩) (v := .pointer (some ⟨B3, 5, none⟩)) rfl (by kernel_rfl) (by kernel_rfl) (by kernel_rfl) (by kernel_rfl) (fun _ _ _ h => h) (Or.inl ⟨by rfl, fun w hSw => by go_simp⟩) hHeld ?_
      simp only [Act.put, List.setIfInBounds_toArray, List.set_cons_zero, List.set_cons_succ]
      refine Sh.wpAnyL_take (i := 1) (oi := ⟨some 18, _, _, _, _, _⟩) (v := sl) rfl (by kernel_rfl) (by kernel_rfl) (by kernel_rfl) (by kernel_rfl) (fun _ _ _ h => h) (Or.inl ⟨by rfl, fun w hSw => run_loadCellB _ _ rfl _ 5 rfl _ _ hSw.1 _ Tryz.underlying51 rfl _ (bk_g5 _ _ _ _ _ _)⟩) hHeld ?_
      simp only [Act.put, List.setIfInBounds_toArray, List.set_cons_zero, List.set_cons_succ]
      refine Sh.wpAnyL_take (i := 2) (oi := ⟨some 19, _, _, _, _, _⟩) (v := .agg (txc x.client x.nonce (.slice sa x.ops.length sc))) rfl (by kernel_rfl) (by kernel_rfl) (by kernel_rfl) (by kernel_rfl) (fun _ _ _ h => h) (Or.inl ⟨by rfl, fun w hSw => run_loadMid _ _ rfl _ 0 rfl _ hSw.2.rangeAll _ Tryz.underlying95 rfl (by rw [txc_size]; exact zTx.2)⟩) hHeld ?_
      simp only [Act.put, List.setIfInBounds_toArray, List.set_cons_zero, List.set_cons_succ]
      refine Sh.wpAnyL_one (i := 3) (o := ⟨some 20, .call ⟨.value (.func 111), #[.tmp 19], #[95]⟩, _, _, _, _⟩) rfl (by kernel_rfl) (fun K hK => ?_)
      rw [if_pos (by rfl)]
      go_simp
      refine (HC _ hs).mono ?_
      rintro e wA ⟨g7, cp7, rfl, hg7, hwA, hO7⟩
      have hH2 : (_ ∧ _) := ⟨hHeld.1.belowSize hwA, hHeld.2.belowSize hwA⟩
      refine hK.out _ _ (fun _ => hH2) ?_
      clear hK K hHeld HC
      replace hN := hN.below hwA
      clear hwA
      try simp only [Act.put, List.setIfInBounds_toArray, List.set_cons_zero, List.set_cons_succ]
      refine Sh.wpAnyL_one (i := 4) (o := ⟨some 21, .buildSlice 51 1 #[(0, .tmp 20)], _, _, _, _⟩) rfl (by kernel_rfl) (fun K hK => ?_)
      rw [if_pos (by rfl)]
      refine wp_run _ _ (run_bslTx _ rfl x.client x.nonce (some ⟨g7, 0, none⟩) x.ops.length cp7 rfl) ?_
      have hwB : Below wA.heap.size wA (wA.alloc (.cells (txc x.client x.nonce (.slice (some ⟨g7, 0, none⟩) x.ops.length cp7)) 95)) := (Below.refl _ _).alloc (Nat.le_refl _) _
      have hbB := Blk.new wA (txc x.client x.nonce (.slice (some ⟨g7, 0, none⟩) x.ops.length cp7)) 95
      generalize hWB : wA.alloc (.cells (txc x.client x.nonce (.slice (some ⟨g7, 0, none⟩) x.ops.length cp7)) 95) = wB at *
      have hH3 : (_ ∧ _) := ⟨hH2.1.belowSize hwB, hH2.2.belowSize hwB⟩
      refine hK.out _ _ (fun _ => hH3) ?_
      clear hK K hH2 hWB
      replace hN := hN.below hwB
      replace hO7 := hO7.below hwB
      clear hwB
      try simp only [Act.put, List.setIfInBounds_toArray, List.set_cons_zero, List.set_cons_succ]
      refine Sh.wpAnyL_one (i := 5) (o := ⟨some 22, .call ⟨.builtin .append, #[.tmp 18, .tmp 21], #[51, 51]⟩, _, _, _, _⟩) rfl (by kernel_rfl) (fun K hK => ?_)
      refine Sh.step_appGL rfl _ _ _ _ rfl 3 lo sl dls hN.o1.2.2.2 rfl hN.gl _ 1 rfl (txc x.client x.nonce (.slice (some ⟨g7, 0, none⟩) x.ops.length cp7)).toList (txc_len _ _ _) (txc_all _ _ _ _ _) _ (Blk.sh hbB) ie _ rfl Tryz.underlying51 ei ez es eb hdl ?_
      intro wC sl1 hgC hG1
      obtain ⟨o1, o2, o3, o4⟩ := hN.o1
      have hrow3 : some B3 ≠ Sh.slBlk sl := fun e => (by have := (hN.gl.lt B3 e.symm).1; omega)
      have hrow5 : some B5 ≠ Sh.slBlk sl := fun e => by
        have h9 := hlt5 B5 e.symm
        omega
      have hH4 : (_ ∧ _) := ⟨hH3.1.grown hgC hrow3, hH3.2.grown hgC hrow5⟩
      refine hK.out _ _ (fun _ => hH4) ?_
      clear hK K hH3
      obtain ⟨sb, sbc, rfl, _⟩ := hG1.sl
      try simp only [Act.put, List.setIfInBounds_toArray, List.set_cons_zero, List.set_cons_succ]
      refine Sh.wpAnyL_take (i := 6) (oi := ⟨some 23, _, _, _, _, _⟩) (v := .pointer (some ⟨B3, 5, none⟩)) rfl (by kernel_rfl) (by kernel_rfl) (by kernel_rfl) (by kernel_rfl) (fun _ _ _ h => h) (Or.inl ⟨by rfl, fun w hSw => by go_simp⟩) hH4 ?_
      try simp only [Act.put, List.setIfInBounds_toArray, List.set_cons_zero, List.set_cons_succ]
      refine Sh.wpAnyL_one (i := 7) (o := ⟨none, .store 51 (.tmp 23) (.tmp 22), _, _, _, _⟩) rfl (by kernel_rfl) (fun K hK => ?_)
      rw [if_pos (by rfl)]
      refine wp_storeCellB _ _ _ rfl B3 5 rfl (.slice sb (dls ++ [(txc x.client x.nonce (.slice (some ⟨g7, 0, none⟩) x.ops.length cp7)).toList]).length sbc) rfl _ _ hH4.1 iSlT rfl rfl (by rw [bk_size]; decide) ?_
      intro wD hgD hsD hbD
      rw [bk_set5] at hbD
      clear hsD
      have hN2 := hN.app x (some ⟨g7, 0, none⟩) cp7 hO7.toSL hO7.nb hx1 hx2 hgC hG1 hgD hbD
      refine hK.out _ _ (fun e => absurd rfl e) ?_
      clear hK K hH4
      refine Sh.wpAnyL_done (by kernel_rfl) ?_ _
      simp only [Act.put]
      go_simp
      go_wp2_with fail
      go_roundw
      case rel => exact ⟨i + 1, _, _, hltH.out, by go_num, by rw [hsn.out]; exact hN2⟩
      case measure => have := hltH.out; simp [intOf]; omega
    · have hz2 : ¬ (i : Int) < (l.length : Int) := by omega
      rw [List.take_of_length_le (by omega)] at hN
      obtain ⟨ax, cx, rfl, -⟩ := TXL.ta hN.gl hN.tx
      have hb2 := hN.b2
      have hb3 := hN.b3
      go_wp2_with (with_reducible refine at_list ?_; first
        | (refine wpList_loadRow (op := ⟨some 25, _, _, _, _, _⟩) rfl _ _ rfl B3 rfl _ _ hb3 _ Tryz.underlying53 rfl (bk_info _ _ _ _ _ _) ?_)
        | (refine wpList_storeRow (op := ⟨none, .store 53 (.tmp 2) (.tmp 25), _, _, _, _⟩) rfl _ _ _ rfl B2 (bk ht p t s (.slice (some ⟨gm, 0, none⟩) mem.length cm) (.slice ax l.length cx)) rfl rfl _ _ hb2 (by simp only [bk_size]) (bk_info _ _ _ _ _ _) (bk_one _ _ _ _ _ _ _ _ _ _) ?_; intro w8 hg8 hs8 hb8; clear hs8))
      refine bodyPost_ret (v := .agg (bk ht p t s (.slice (some ⟨gm, 0, none⟩) mem.length cm) (.slice ax l.length cx))) ?_ rfl ⟨gm, cm, lo, ax, cx, dls, rfl, hN.gl.grown hg8 (hN.gl.ne (Blk.sh hb2) (.inl (by decide))), hN.tx.grown hg8 (Beside.blk hb2 (by decide)), hN.cb.other hg8 hb2 (by decide), hN.bel.trans (below_of_grown hg8 hN.o1.1 hN.bel.size), hlw, Nat.le_trans hN.o1.2.2.2 hg8.size⟩
      exact results_cell_row rfl _ _ B2 _ _ _ _ rfl hb8.out Tryz.underlying53 rfl (bk_info _ _ _ _ _ _)
end Go.Proofs.YtmbdhngoldganaaGreatDoor
