/- What is kept in a region that makes a block and forgets it. What is kept in a region that makes a block, and keeps it. What is kept in a region that makes a block: with what stands ahead of it, each by itself. What Equal and Same do. What EqualFunc of transactions, Same of blocks and batchOf do. -/
import Derived.Test.YtmbdhngoldganaaGreatDoorRgn
import Derived.Test.YtmbdhngoldganaaGreatDoorRef
import Derived.Test.YtmbdhngoldganaaGreatDoorHcl
import Derived.Test.YtmbdhngoldganaaGreatDoorBcc
import Derived.Test.YtmbdhngoldganaaGreatDoorChk
import Derived.Deep.RegionHeld3
import Derived.Test.YtmbdhngoldganaaGreatDoorMka
import Derived.Deep.Cut
namespace Go.Proofs.YtmbdhngoldganaaGreatDoor
open Go Go.RowKit
/-- Blocks of the type Block stay, whatever they have. -/
def Keep46 (w w' : World) : Prop := ∀ b c, Blk w b c 53 → c.size = 6 → ∃ c', Blk w' b c' 53 ∧ c'.size = 6
theorem Keep46.below {w w' : World} (h : Below w.heap.size w w') : Keep46 w w' := fun _ c hb hc => ⟨c, hb.belowSize h, hc⟩
theorem Keep46.two {bs bt : Nat} {w w' : World} {m : List KV} {t : Tr} (hE : EX w bs bt m t) (h : Two bs bt w w') : Keep46 w w' := fun b c hb hc => by
  obtain ⟨mb, h6, _⟩ := hE.st.out
  obtain ⟨q, h4, _⟩ := hE.tr
  exact ⟨c, hb.two h (hb.neT h6 (by decide)) (hb.neT (Blk.of_sh h4) (by decide)), hc⟩
theorem Keep46.store {w w' : World} {g : Nat} {c' : Array Value} (hg : w.grownBy w' (some g)) (hb : Blk w' g c' 53) (hc : c'.size = 6) : Keep46 w w' := fun b c h hs => by
  by_cases e : b = g
  · subst e; exact ⟨c', hb, hc⟩
  · exact ⟨c, h.grown hg (fun e2 => e (Option.some.inj e2)), hs⟩
def AlcP (N : Nat) (w : World) (v : Value) : Prop := ∃ g c, v = .pointer (some ⟨g, 0, none⟩) ∧ N ≤ g ∧ Blk w g c 53 ∧ c.size = 6
end Go.Proofs.YtmbdhngoldganaaGreatDoor
namespace Go.Proofs.YtmbdhngoldganaaGreatDoor
open Go Go.RowKit
/-- What Make has left, in a world that has gone on. -/
def MkQ (w : World) (bs bt : Nat) (m : List KV) (t : Tr) (ht : Nat) (p : List UInt8) (l : List TX) (mem : List Int) (v : Value) (w' : World) : Prop :=
  ∃ lo a cap st dls gm cm, v = .tuple #[.agg (bk ht p (rootD Sh.digest (bys (exD m l))) ((exR m t l).hash Sh.TgD) (.slice (some ⟨gm, 0, none⟩) mem.length cm) (.slice a (exD m l).length cap)), st, .int .i64 0] ∧
    DN w w' bs bt lo (exS m l) (exR m t l) (.slice a (exD m l).length cap) st dls (exD m l) (exE m l) ∧ CB w' gm mem ∧ w.heap.size ≤ gm
theorem MkQ.below {w w1 w2 : World} {bs bt : Nat} {m : List KV} {t : Tr} {ht : Nat} {p : List UInt8} {l : List TX} {mem : List Int} {v : Value} (h : MkQ w bs bt m t ht p l mem v w1) (hb : Below w1.heap.size w1 w2) : MkQ w bs bt m t ht p l mem v w2 := by
  obtain ⟨lo, a, cap, st, dls, gm, cm, e, h1, h2, h3⟩ := h
  exact ⟨lo, a, cap, st, dls, gm, cm, e, h1.below hb, h2.below hb, h3⟩
theorem MkQ.store {w w1 w2 : World} {bs bt : Nat} {m : List KV} {t : Tr} {ht : Nat} {p : List UInt8} {l : List TX} {mem : List Int} {v : Value} {g : Nat} {c : Array Value} (h : MkQ w bs bt m t ht p l mem v w1) (hg : w1.grownBy w2 (some g)) (hb : Blk w1 g c 53) (hN : w.heap.size ≤ g) : MkQ w bs bt m t ht p l mem v w2 := by
  obtain ⟨lo, a, cap, st, dls, gm, cm, e, h1, h2, h3⟩ := h
  exact ⟨lo, a, cap, st, dls, gm, cm, e, h1.other hg hb hN (by decide) (hne7 h1 hb), h2.other hg hb (by decide), h3⟩
theorem MkP.mkQ {w w0 w1 : World} {bs bt : Nat} {m : List KV} {t : Tr} {ht : Nat} {p : List UInt8} {l : List TX} {mem : List Int} {e : Ending} (h : MkP w0 bs bt m t ht p l mem e w1) (hb : Below w.heap.size w w0) (h2 : 2 ≤ w.heap.size) : ∃ v, e = .returned v ∧ MkQ w bs bt m t ht p l mem v w1 := by
  obtain ⟨lo, a, cap, st, dls, gm, cm, e, h1, h3, h4⟩ := h
  exact ⟨_, e, lo, a, cap, st, dls, gm, cm, rfl, h1.start hb h2, h3, Nat.le_trans hb.size h4⟩
theorem MkP.keep {w w' : World} {bs bt : Nat} {m : List KV} {t : Tr} {ht : Nat} {p : List UInt8} {l : List TX} {mem : List Int} {e : Ending} (hE : EX w bs bt m t) (h : MkP w bs bt m t ht p l mem e w') : Keep46 w w' ∧ w.heap.size ≤ w'.heap.size := by
  obtain ⟨lo, a, cap, st, dls, gm, cm, e, h1, _⟩ := h
  exact ⟨Keep46.two hE h1.two, h1.two.size⟩
def KP (N ia ist ie : Nat) (B : Nat → (Nat → Value) → Value → Prop) (i : Nat) (vs : Nat → Value) (w : World) (v : Value) : Prop :=
  (i = ia → AlcP N w v) ∧ (i = ist → ∃ g c, vs ia = .pointer (some ⟨g, 0, none⟩) ∧ vs ie = .agg c ∧ N ≤ g ∧ Blk w g c 53) ∧ B i vs v
end Go.Proofs.YtmbdhngoldganaaGreatDoor
namespace Go.Proofs.YtmbdhngoldganaaGreatDoor
open Go Go.RowKit
def K2E (N im ist : Nat) (Sp : Nat → World → Value → Prop) (QM : Value → World → Prop) (i : Nat) (_ : Nat → Value) (w w' : World) (v : Value) : Prop :=
  (i ≠ im → i ≠ ist → Below w.heap.size w w') ∧ (i = ist → ∃ g c, N ≤ g ∧ Blk w g c 53 ∧ w.grownBy w' (some g)) ∧ Keep46 w w' ∧ Sp i w' v ∧ (i = im → QM v w') ∧ w.heap.size ≤ w'.heap.size
def K2G (N : Nat) (w0 : World) (im : Nat) (Sp : Nat → World → Value → Prop) (QM : Value → World → Prop) (L : Nat → Bool) (vs : Nat → Value) (w : World) : Prop :=
  N ≤ w.heap.size ∧ (L im = false → Below N w0 w ∧ ∀ i, L i = true → Sp i w (vs i)) ∧ (L im = true → QM (vs im) w)
theorem K2G.step {N : Nat} {w0 : World} {im ist : Nat} {Sp : Nat → World → Value → Prop} {QM : Value → World → Prop} {L : Nat → Bool} {vs : Nat → Value} {w w' : World} {i : Nat} {v : Value}
    (hsp : ∀ i w w' v, Sp i w v → Below w.heap.size w w' → Sp i w' v)
    (hq1 : ∀ v w w', QM v w → Below w.heap.size w w' → QM v w') (hq2 : ∀ v w w' g c, QM v w → w.grownBy w' (some g) → Blk w g c 53 → N ≤ g → N ≤ w.heap.size → QM v w')
    (h : K2G N w0 im Sp QM L vs w) (hs : i = ist → L im = true) (hE : K2E N im ist Sp QM i vs w w' v) : K2G N w0 im Sp QM (fun k => k == i || L k) (updV vs i v) w' := by
  obtain ⟨h1, h2, h3⟩ := h
  obtain ⟨e1, e2, _, e4, e5, e6⟩ := hE
  refine ⟨Nat.le_trans h1 e6, fun hf => ?_, fun hf => ?_⟩
  · simp only [Bool.or_eq_false_iff, beq_eq_false_iff_ne] at hf
    obtain ⟨hi, hL⟩ := hf
    have hi2 : i ≠ ist := fun e => by rw [hs e] at hL; cases hL
    have b := e1 (Ne.symm hi) hi2
    obtain ⟨k1, k2⟩ := h2 hL
    refine ⟨k1.trans (b.mono h1), fun j hb => ?_⟩
    by_cases e : j = i
    · subst e; rw [updV_same]; exact e4
    · rw [updV_other e]
      simp [e] at hb
      exact hsp _ _ _ _ (k2 j hb) b
  · by_cases e : im = i
    · subst e; rw [updV_same]; exact e5 rfl
    · rw [updV_other e]
      simp [e] at hf
      by_cases e3 : i = ist
      · obtain ⟨g, c, g1, g2, g3⟩ := e2 e3
        exact hq2 _ _ _ _ _ (h3 hf) g3 g2 g1 h1
      · exact hq1 _ _ _ (h3 hf) (e1 (Ne.symm e) e3)
theorem KP.stay2 {N im ist ia ie : Nat} {Sp : Nat → World → Value → Prop} {QM : Value → World → Prop} {B : Nat → (Nat → Value) → Value → Prop} {i j : Nat} {vs vs' : Nat → Value} {w w' : World} {u v : Value} (hE : K2E N im ist Sp QM i vs w w' u) (hij : i ≠ j) (him : j = ist → i ≠ im) (h : KP N ia ist ie B j vs' w v) : KP N ia ist ie B j vs' w' v := ⟨fun e => by
  obtain ⟨g, c, h1, h2, h3, h4⟩ := h.1 e
  obtain ⟨c', h5, h6⟩ := hE.2.2.1 g c h3 h4
  exact ⟨g, c', h1, h2, h5, h6⟩, fun e => by
  obtain ⟨g, c, h1, h2, h3, h4⟩ := h.2.1 e
  exact ⟨g, c, h1, h2, h3, h4.belowSize (hE.1 (him e) (fun e2 => hij (e2.trans e.symm)))⟩, h.2.2⟩
/-- A state of one's own, a tree of one's own. -/
def SqS (N : Nat) (m : List KV) (w : World) (v : Value) : Prop := ∃ b, v = .pointer (some ⟨b, 0, none⟩) ∧ N ≤ b ∧ ST w b m
def SqT (N : Nat) (t : Tr) (w : World) (v : Value) : Prop := ∃ b q, v = .pointer (some ⟨b, 0, none⟩) ∧ N ≤ b ∧ Sh.Blk w b #[.pointer q] 215 ∧ Sh.HF w t q
theorem SqS.below {N : Nat} {m : List KV} {w w' : World} {v : Value} (h : SqS N m w v) (hb : Below w.heap.size w w') : SqS N m w' v := by
  obtain ⟨g, h1, h2, h3⟩ := h
  exact ⟨g, h1, h2, h3.below hb⟩
theorem SqT.below {N : Nat} {t : Tr} {w w' : World} {v : Value} (h : SqT N t w v) (hb : Below w.heap.size w w') : SqT N t w' v := by
  obtain ⟨g, q, h1, h2, h3, h4⟩ := h
  exact ⟨g, q, h1, h2, h3.belowSize hb, h4.below hb⟩
/-- What Make has left, on a state and a tree that were made behind w. -/
def MkO (w : World) (m : List KV) (t : Tr) (ht : Nat) (p : List UInt8) (l : List TX) (mem : List Int) (v : Value) (w' : World) : Prop := ∃ bu bv, w.heap.size ≤ bu ∧ w.heap.size ≤ bv ∧ MkQ w bu bv m t ht p l mem v w'
theorem MkO.below {w w1 w2 : World} {m : List KV} {t : Tr} {ht : Nat} {p : List UInt8} {l : List TX} {mem : List Int} {v : Value} (h : MkO w m t ht p l mem v w1) (hb : Below w1.heap.size w1 w2) : MkO w m t ht p l mem v w2 := by
  obtain ⟨bu, bv, h1, h2, h3⟩ := h
  exact ⟨bu, bv, h1, h2, h3.below hb⟩
theorem MkO.store {w w1 w2 : World} {m : List KV} {t : Tr} {ht : Nat} {p : List UInt8} {l : List TX} {mem : List Int} {v : Value} {g : Nat} {c : Array Value} (h : MkO w m t ht p l mem v w1) (hg : w1.grownBy w2 (some g)) (hb : Blk w1 g c 53) (hN : w.heap.size ≤ g) : MkO w m t ht p l mem v w2 := by
  obtain ⟨bu, bv, h1, h2, h3⟩ := h
  exact ⟨bu, bv, h1, h2, h3.store hg hb hN⟩
/-- What Make has left that made nothing. -/
def MkN (w : World) (er : Int) (v : Value) (w' : World) : Prop := v = .tuple #[.agg (bk 0 [] [] [] (.slice none 0 0) (.slice none 0 0)), .slice none 0 0, .int .i64 er] ∧ Below w.heap.size w w'
theorem MkN.below {w w1 w2 : World} {er : Int} {v : Value} (h : MkN w er v w1) (hb : Below w1.heap.size w1 w2) : MkN w er v w2 := ⟨h.1, h.2.trans (hb.mono h.2.size)⟩
theorem MkN.store {w w1 w2 : World} {er : Int} {v : Value} {g : Nat} (h : MkN w er v w1) (hg : w1.grownBy w2 (some g)) (hN : w.heap.size ≤ g) : MkN w er v w2 := ⟨h.1, h.2.trans (below_of_grown hg hN h.2.size)⟩
end Go.Proofs.YtmbdhngoldganaaGreatDoor
namespace Go.Proofs.YtmbdhngoldganaaGreatDoor
open Go Go.RowKit
def sameO (x y : O) : Bool := decide (x.kind = y.kind) && decide (x.key = y.key) && decide (x.val = y.val)
theorem sameO_iff (x y : O) : sameO x y = true ↔ x = y := by
  obtain ⟨a, b, c⟩ := x
  obtain ⟨d, e, f⟩ := y
  simp [sameO, and_assoc]
theorem eqInt (a b : Int) (w : World) : (Op.equalIn 9999 3 (.int .i64 a) (.int .i64 b)).run Tryz.prog w = .ok (decide (a = b)) w := by
  go_simp
  rw [Bool.eq_iff_iff]; simp
theorem eqStr (a b : List UInt8) (w : World) : (Op.equalIn 9999 9 (.string ⟨a.toArray⟩) (.string ⟨b.toArray⟩)).run Tryz.prog w = .ok (decide (a = b)) w := by
  go_simp
  rw [Bool.eq_iff_iff]; simp
theorem run_neqOp {op : Oper} {a : Act} (x y : Operand) (ho : op.op = .binOp .neq 97 x y 97) (p q : O) (hx : a.eval x = .agg (opc p)) (hy : a.eval y = .agg (opc q)) (w : World) :
    (execOp a.eval op).run Tryz.prog w = .ok (.value (.bool (!sameO p q))) w := by
  unfold execOp
  simp only [ho, hx, hy]
  obtain ⟨k, key, vv⟩ := p
  obtain ⟨k2, key2, vv2⟩ := q
  go_simp
  simp only [opc_g0, opc_g1, opc_g2, Sem.run_pure, Result.andThen_ok, eqInt, eqStr]
  by_cases h1 : k = k2
  · by_cases h2 : key = key2
    · by_cases h3 : vv = vv2 <;> simp [h1, h2, h3, sameO]
    · simp [h1, h2, sameO]
  · simp [h1, sameO]
set_option maxRecDepth 100000 in
set_option maxHeartbeats 400000 in
theorem equalO_any (a a2 : Option Addr) (l m : List O) (cap cap2 : Nat) (w : World) (h : SL w a l) (h2 : SL w a2 m) (hl : l.length ≤ 1000000) : Calls Tryz.prog 112 #[.slice a l.length cap, .slice a2 m.length cap2] w (EqP w (l = m)) := by
  by_cases hlm : l.length = m.length
  · rw [← hlm]
    have hle1 : l.length ≤ m.length := by omega
    have hle2 : m.length ≤ l.length := by omega
    clear hlm
    go_enter Tryz.func112, Tryz.ntmps112
    go_wp2_with fail
    go_loopw [13] (fun v13 wl => ∃ i : Nat, i ≤ l.length ∧ v13 = .int .i64 i ∧ Below w.heap.size w wl ∧ Hid (l.take i = m.take i)) (fun v13 _ => l.length - (intOf v13).toNat)
    case atStart => exact ⟨0, by omega, rfl, Below.refl _ _, by exact rfl⟩
    case round =>
      obtain ⟨i, hi, rfl, hB, hA⟩ := hrel
      by_cases hlt : i < l.length
      · obtain ⟨g, o, rfl⟩ := h.ex (by omega)
        obtain ⟨g2, o2, rfl⟩ := h2.ex (by omega)
        have hr := (h.below hB).at i hlt
        have hr2 := (h2.below hB).at i (by omega)
        have hlt2 : i < m.length := by omega
        have hT : Hid (l.take (i + 1) = l.take i ++ [l[i]]) := List.take_succ_eq_append_getElem hlt
        have hT2 : Hid (m.take (i + 1) = m.take i ++ [m[i]]) := List.take_succ_eq_append_getElem hlt2
        have hne : Hid (l[i] ≠ m[i] → l ≠ m) := fun hd e => hd (by subst e; rfl)
        generalize l[i] = x at *
        generalize m[i] = y at *
        have hz1 : (0 : Int) ≤ (i : Int) := by omega
        have hz2 : (i : Int) < (l.length : Int) := by omega
        go_wp2_with fail
        refine wp_region_held_drew (S := fun w' => w'.rangeAt g (o + i * 3) (opc x).toList ∧ w'.rangeAt g2 (o2 + i * 3) (opc y).toList) (by kernel_rfl) ⟨hr, hr2⟩ (fun hHeld => ?_)
        clear hr hr2
        refine wpAnyH_take (i := 0) (oi := ⟨some 16, _, _, _, _, _⟩) (v := .slice (some ⟨g, o, none⟩) l.length cap) rfl (by kernel_rfl) (by kernel_rfl) (by kernel_rfl) (fun _ _ _ h => h) (Or.inl ⟨by rfl, fun w hSw => by go_simp⟩) hHeld ?_
        refine wpAnyH_take (i := 1) (oi := ⟨some 17, _, _, _, _, _⟩) (v := .int .i64 (i : Nat)) rfl (by kernel_rfl) (by kernel_rfl) (by kernel_rfl) (fun _ _ _ h => h) (Or.inl ⟨by rfl, fun w hSw => by go_simp⟩) hHeld ?_
        refine wpAnyH_take (i := 2) (oi := ⟨some 18, _, _, _, _, _⟩) (v := .pointer (some ⟨g, o + i * 3, none⟩)) rfl (by kernel_rfl) (by kernel_rfl) (by kernel_rfl) (fun _ _ _ h => h) (Or.inl ⟨by rfl, fun w hSw => by go_simp⟩) hHeld ?_
        simp only [Act.put, List.setIfInBounds_toArray, List.set_cons_zero, List.set_cons_succ]
        refine wpAnyH_take (i := 3) (oi := ⟨some 19, _, _, _, _, _⟩) (v := .agg (opc x)) rfl (by kernel_rfl) (by kernel_rfl) (by kernel_rfl) (fun _ _ _ h => h) (Or.inl ⟨by rfl, fun w hSw => run_loadMid _ _ rfl _ _ rfl _ hSw.1 _ Tryz.underlying97 rfl (by rw [opc_size]; exact zOp.2)⟩) hHeld ?_
        simp only [Act.put, List.setIfInBounds_toArray, List.set_cons_zero, List.set_cons_succ]
        refine wpAnyH_take (i := 4) (oi := ⟨some 20, _, _, _, _, _⟩) (v := .slice (some ⟨g2, o2, none⟩) l.length cap2) rfl (by kernel_rfl) (by kernel_rfl) (by kernel_rfl) (fun _ _ _ h => h) (Or.inl ⟨by rfl, fun w hSw => by go_simp⟩) hHeld ?_
        refine wpAnyH_take (i := 5) (oi := ⟨some 21, _, _, _, _, _⟩) (v := .int .i64 (i : Nat)) rfl (by kernel_rfl) (by kernel_rfl) (by kernel_rfl) (fun _ _ _ h => h) (Or.inl ⟨by rfl, fun w hSw => by go_simp⟩) hHeld ?_
        refine wpAnyH_take (i := 6) (oi := ⟨some 22, _, _, _, _, _⟩) (v := .pointer (some ⟨g2, o2 + i * 3, none⟩)) rfl (by kernel_rfl) (by kernel_rfl) (by kernel_rfl) (fun _ _ _ h => h) (Or.inl ⟨by rfl, fun w hSw => by go_simp⟩) hHeld ?_
        simp only [Act.put, List.setIfInBounds_toArray, List.set_cons_zero, List.set_cons_succ]
        refine wpAnyH_take (i := 7) (oi := ⟨some 23, _, _, _, _, _⟩) (v := .agg (opc y)) rfl (by kernel_rfl) (by kernel_rfl) (by kernel_rfl) (fun _ _ _ h => h) (Or.inl ⟨by rfl, fun w hSw => run_loadMid _ _ rfl _ _ rfl _ hSw.2 _ Tryz.underlying97 rfl (by rw [opc_size]; exact zOp.2)⟩) hHeld ?_
        simp only [Act.put, List.setIfInBounds_toArray, List.set_cons_zero, List.set_cons_succ]
        refine wpAnyH_take (i := 8) (oi := ⟨some 24, _, _, _, _, _⟩) (v := .bool (!sameO x y)) rfl (by kernel_rfl) (by kernel_rfl) (by kernel_rfl) (fun _ _ _ h => h) (Or.inl ⟨by rfl, fun w hSw => run_neqOp _ _ rfl x y rfl rfl w⟩) hHeld ?_
        refine wpAnyH_done (by kernel_rfl) ?_ _
        simp only [Act.put]
        clear hHeld
        have hBd := hB.trans ((Below.refl w.heap.size wr).drew)
        by_cases hxy : x = y
        · have hs : sameO x y = true := (sameO_iff x y).2 hxy
          have hA2 : Hid (l.take (i + 1) = m.take (i + 1)) := by rw [hT.out, hT2.out, hA.out, hxy]; exact rfl
          rw [hs]
          clear hT hT2 hA hne
          go_simp
          go_wp2_with fail
          go_roundw
          case rel => exact ⟨i + 1, by omega, by go_num, hBd, hA2⟩
          case measure => simp [intOf]; omega
        · have hs : sameO x y = false := by rw [← Bool.not_eq_true, sameO_iff]; exact hxy
          have hn := hne.out hxy
          rw [hs]
          clear hT hT2 hA hne
          go_simp
          go_wp2_with fail
          go_ret
          exact ⟨false, rfl, by simp [hn], hBd⟩
      · have hA2 := hA.out
        rw [List.take_of_length_le (show l.length ≤ i by omega), List.take_of_length_le (show m.length ≤ i by omega)] at hA2
        have hA3 : Hid (l = m) := hA2
        clear hA2 hA
        go_wp2_with fail
        go_ret
        exact ⟨true, rfl, by simp [hA3.out], hB⟩
  · have hne : ((l.length : Int) != (m.length : Int)) = true := by simp; omega
    have hn : Hid (l ≠ m) := fun e => hlm (by rw [e])
    go_enter Tryz.func112, Tryz.ntmps112
    go_wp2_with fail
    go_ret
    exact ⟨false, rfl, by simp [hn.out], Below.refl _ _⟩
set_option maxRecDepth 100000 in
set_option maxHeartbeats 400000 in
theorem sameT_any (s t : TX) (a a2 : Option Addr) (cap cap2 : Nat) (w : World) (h : SL w a s.ops) (h2 : SL w a2 t.ops) (hl : s.ops.length ≤ 1000000) :
    Calls Tryz.prog 65 #[.agg (txc s.client s.nonce (.slice a s.ops.length cap)), .agg (txc t.client t.nonce (.slice a2 t.ops.length cap2))] w (EqP w (s = t)) := by
  obtain ⟨c, n, l⟩ := s
  obtain ⟨c', n', m⟩ := t
  dsimp only at *
  by_cases hc : c = c'
  · subst hc
    by_cases hn : n = n'
    · subst hn
      have HQ := fun w' (hB : Below w.heap.size w w') => equalO_any a a2 l m cap cap2 w' (h.below hB) (h2.below hB) hl
      have HP : Hid ((⟨c, n, l⟩ : TX) = ⟨c, n, m⟩ ↔ l = m) := by simp; trivial
      go_enter Tryz.func65, Tryz.ntmps65
      go_wp2_with (first
      | (go_at_call 112; refine (HQ _ (hw1.trans (hw2.mono hw1.size))).mono ?_; rintro e w3 ⟨y, rfl, hy, hw3⟩; clear HQ)
      | (with_reducible refine at_list ?_; first
        | (refine wpList_boxRow (op := ⟨some 2, _, _, _, _, _⟩) rfl _ _ rfl _ rfl ?_; intro w1 hw1 hs1 hb1; replace hs1 := hs1.symm)
        | (refine wpList_boxRow (op := ⟨some 3, _, _, _, _, _⟩) rfl _ _ rfl _ rfl ?_; intro w2 hw2 hs2 hb2; replace hs2 := hs2.symm; replace hb1 := hb1.belowSize hw2; have c0 := (hb1.cell 0).trans (txc_g0 _ _ _); have c1 := (hb1.cell 1).trans (txc_g1 _ _ _); have c2 := (hb1.cell 2).trans (txc_g2 _ _ _); have d0 := (hb2.cell 0).trans (txc_g0 _ _ _); have d1 := (hb2.cell 1).trans (txc_g1 _ _ _); have d2 := (hb2.cell 2).trans (txc_g2 _ _ _))))
      go_ret
      exact ⟨y, rfl, hy.trans HP.out.symm, (hw1.trans (hw2.mono hw1.size)).trans (hw3.mono (Nat.le_trans hw1.size hw2.size))⟩
    · have hb0 : ((n : Int) == (n' : Int)) = false := by rw [beq_eq_false_iff_ne]; omega
      have HP : Hid (¬ (⟨c, n, l⟩ : TX) = ⟨c, n', m⟩) := fun e => hn (by injection e)
      go_enter Tryz.func65, Tryz.ntmps65
      go_wp2_with (first
      | (with_reducible refine at_list ?_; first
        | (refine wpList_boxRow (op := ⟨some 2, _, _, _, _, _⟩) rfl _ _ rfl _ rfl ?_; intro w1 hw1 hs1 hb1; replace hs1 := hs1.symm)
        | (refine wpList_boxRow (op := ⟨some 3, _, _, _, _, _⟩) rfl _ _ rfl _ rfl ?_; intro w2 hw2 hs2 hb2; replace hs2 := hs2.symm; replace hb1 := hb1.belowSize hw2; have c0 := (hb1.cell 0).trans (txc_g0 _ _ _); have c1 := (hb1.cell 1).trans (txc_g1 _ _ _); have c2 := (hb1.cell 2).trans (txc_g2 _ _ _); have d0 := (hb2.cell 0).trans (txc_g0 _ _ _); have d1 := (hb2.cell 1).trans (txc_g1 _ _ _); have d2 := (hb2.cell 2).trans (txc_g2 _ _ _))))
      go_ret
      exact ⟨false, rfl, by simp [HP.out], hw1.trans (hw2.mono hw1.size)⟩
  · have hb0 : ((c : Int) == (c' : Int)) = false := by rw [beq_eq_false_iff_ne]; omega
    have HP : Hid (¬ (⟨c, n, l⟩ : TX) = ⟨c', n', m⟩) := fun e => hc (by injection e)
    go_enter Tryz.func65, Tryz.ntmps65
    go_wp2_with (first
      | (with_reducible refine at_list ?_; first
        | (refine wpList_boxRow (op := ⟨some 2, _, _, _, _, _⟩) rfl _ _ rfl _ rfl ?_; intro w1 hw1 hs1 hb1; replace hs1 := hs1.symm)
        | (refine wpList_boxRow (op := ⟨some 3, _, _, _, _, _⟩) rfl _ _ rfl _ rfl ?_; intro w2 hw2 hs2 hb2; replace hs2 := hs2.symm; replace hb1 := hb1.belowSize hw2; have c0 := (hb1.cell 0).trans (txc_g0 _ _ _); have c1 := (hb1.cell 1).trans (txc_g1 _ _ _); have c2 := (hb1.cell 2).trans (txc_g2 _ _ _); have d0 := (hb2.cell 0).trans (txc_g0 _ _ _); have d1 := (hb2.cell 1).trans (txc_g1 _ _ _); have d2 := (hb2.cell 2).trans (txc_g2 _ _ _))))
    go_ret
    exact ⟨false, rfl, by simp [HP.out], hw1.trans (hw2.mono hw1.size)⟩
end Go.Proofs.YtmbdhngoldganaaGreatDoor
namespace Go.Proofs.YtmbdhngoldganaaGreatDoor
open Go Go.RowKit
section
attribute [local go_sem] Oper.semAt_some
set_option maxRecDepth 100000 in
set_option maxHeartbeats 2000000 in
theorem equalF_any (l m : List TX) (hll : l.length ≤ 1000000) (hok : ∀ x ∈ l, x.ops.length ≤ 1000000) (a a2 : Option Addr) (cap cap2 : Nat) (w : World) (h : TA w a l) (h2 : TA w a2 m) :
    Calls Tryz.prog 64 #[.slice a l.length cap, .slice a2 m.length cap2, .func (.func 65) #[] #[]] w (EqP w (l = m)) := by
  by_cases hlm : l.length = m.length
  · have hne : ((l.length : Int) != (m.length : Int)) = false := by simp; omega
    have hm1 : l.length ≤ m.length := by omega
    have hm2 : m.length ≤ l.length := by omega
    clear hlm
    go_enter Tryz.func64, Tryz.ntmps64
    go_wp2_with fail
    go_loopw [17] (fun v17 wl => ∃ i : Nat, i ≤ l.length ∧ v17 = .int .i64 i ∧ Below w.heap.size w wl ∧ Hid (l.take i = m.take i)) (fun v17 _ => l.length - (intOf v17).toNat)
    case atStart => exact ⟨0, by omega, rfl, Below.refl _ _, by rw [List.take_zero, List.take_zero]; exact rfl⟩
    case round =>
      obtain ⟨i, hi, rfl, hB, hA⟩ := hrel
      by_cases hlt : i < l.length
      · have hlt2 : i < m.length := by omega
        obtain ⟨g, o, rfl⟩ := h.ex (by omega)
        obtain ⟨g2, o2, rfl⟩ := h2.ex (by omega)
        obtain ⟨sa, sc, hr, hs, _, _⟩ := (h.below hB).at i hlt
        obtain ⟨sa2, sc2, hr2, hs2, _, _⟩ := (h2.below hB).at i hlt2
        have HS := fun w1 (k1 : SL w1 sa l[i].ops) (k2 : SL w1 sa2 m[i].ops) => sameT_any l[i] m[i] sa sa2 sc sc2 w1 k1 k2 (hok _ (List.getElem_mem hlt))
        have hT : Hid (l.take (i + 1) = l.take i ++ [l[i]]) := by rw [List.take_succ_eq_append_getElem hlt]; exact rfl
        have hT2 : Hid (m.take (i + 1) = m.take i ++ [m[i]]) := by rw [List.take_succ_eq_append_getElem hlt2]; exact rfl
        have hn : Hid (¬ l[i] = m[i] → l ≠ m) := fun hx e => hx (by subst e; rfl)
        have hz1 : (0 : Int) ≤ (i : Int) := by omega
        have hz2 : (i : Int) < (l.length : Int) := by omega
        have hz3 : (i : Int) < (m.length : Int) := by omega
        unfold EqP at HS
        have hltH : Hid (i < l.length) := hlt
        have hgl2 : g2 ≠ wr.heap.size := Nat.ne_of_lt (World.block_lt_of_cell? _ _ (hr2 0 _ rfl))
        generalize l[i] = x at *
        generalize m[i] = y at *
        go_upto_if 30 with (first
          | (go_at_call 65; refine (HS _ hs hs2).mono ?_; rintro e w7 ⟨yb, rfl, hyb, hw7⟩; clear HS hs hs2; replace hB := hB.trans (hw7.mono hB.size); clear hw7)
          | (with_reducible refine at_list ?_; first
            | (refine wpList_loadOp (op := ⟨some 21, _, _, _, _, _⟩) rfl _ _ rfl g (o + i * 3) rfl (txc x.client x.nonce (.slice sa x.ops.length sc)) hr _ Tryz.underlying95 rfl (by rw [txc_size]; exact zTx.2) ?_)
            | (refine wpList_allocRow (op := ⟨some 8, _, _, _, _, _⟩) rfl _ rfl _ zTx.1 ?_; intro w3 hw3 hs3 h8; replace hs3 := hs3.symm; clear hr; replace hr2 := range_keep hw3 hr2)
            | (refine wpList_storeRow (op := ⟨none, .store 95 (.tmp 8) (.tmp 21), _, _, _, _⟩) rfl _ _ _ rfl wr.heap.size (txc x.client x.nonce (.slice sa x.ops.length sc)) rfl rfl _ _ h8 (by simp only [txc_size]) (by rw [txc_size]; exact zTx.2) (txc_one _ _ _ _ _) ?_; intro w4 hg4 hs4 hb4; clear hs4; have hx4 := hw3.trans (below_of_grown hg4 (Nat.le_refl _) hw3.size); replace hs := hs.below hx4; replace hs2 := hs2.below hx4; replace hr2 := rangeAt_grown hr2 hg4 hgl2; replace hB := hB.trans (hx4.mono hB.size); clear hx4 hg4 hw3 h8)
            | (refine wpList_loadOp (op := ⟨some 25, _, _, _, _, _⟩) rfl _ _ rfl g2 (o2 + i * 3) rfl (txc y.client y.nonce (.slice sa2 y.ops.length sc2)) hr2 _ Tryz.underlying95 rfl (by rw [txc_size]; exact zTx.2) ?_)
            | (refine wpList_allocRow (op := ⟨some 9, _, _, _, _, _⟩) rfl _ rfl _ zTx.1 ?_; intro w5 hw5 hs5 h9; replace hs5 := hs5.symm; clear hr2; have hl4 := hb4.lt; replace hb4 := hb4.belowSize hw5)
            | (refine wpList_storeRow (op := ⟨none, .store 95 (.tmp 9) (.tmp 25), _, _, _, _⟩) rfl _ _ _ rfl w4.heap.size (txc y.client y.nonce (.slice sa2 y.ops.length sc2)) rfl rfl _ _ h9 (by simp only [txc_size]) (by rw [txc_size]; exact zTx.2) (txc_one _ _ _ _ _) ?_; intro w6 hg6 hs6 hb6; clear hs6; have hx6 := hw5.trans (below_of_grown hg6 (Nat.le_refl _) hw5.size); replace hs := hs.below hx6; replace hs2 := hs2.below hx6; replace hb4 := hb4.grown hg6 (fun e => absurd (Option.some.inj e) (Nat.ne_of_lt hl4)); replace hB := hB.trans (hx6.mono hB.size); clear hx6 hg6 hw5 h9)
            | (refine wpList_loadRow (op := ⟨some 27, _, _, _, _, _⟩) rfl _ _ rfl wr.heap.size rfl _ _ hb4 _ Tryz.underlying95 rfl (by rw [txc_size]; exact zTx.2) ?_)
            | (refine wpList_loadRow (op := ⟨some 28, _, _, _, _, _⟩) rfl _ _ rfl w4.heap.size rfl _ _ hb6 _ Tryz.underlying95 rfl (by rw [txc_size]; exact zTx.2) ?_)))
        cases yb
        · have hn2 : Hid (l ≠ m) := hn.out (fun e => by have := hyb.2 e; cases this)
          clear hyb hn hT hT2 hA
          go_wp2_with fail
          go_ret
          exact ⟨false, rfl, ⟨fun e => (by cases e), fun e => absurd e hn2.out⟩, hB⟩
        · have hxy := hyb.1 rfl
          subst hxy
          have hA2 : Hid (l.take (i + 1) = m.take (i + 1)) := by rw [hT.out, hT2.out, hA.out]; exact rfl
          clear hyb hn hT hT2 hA
          go_wp2_with fail
          go_roundw
          case rel => exact ⟨i + 1, hltH.out, by go_num, hB, hA2⟩
          case measure => have := hltH.out; simp [intOf]; omega
      · have hend : Hid (l = m) := by
          have := hA.out
          rw [List.take_of_length_le (by omega), List.take_of_length_le (by omega)] at this
          exact this
        have hz2 : ¬ (i : Int) < (l.length : Int) := by omega
        clear hA hne
        go_wp2_with fail
        go_ret
        exact ⟨true, rfl, ⟨fun _ => hend.out, fun _ => rfl⟩, hB⟩
  · have hne : ((l.length : Int) != (m.length : Int)) = true := by simp; omega
    have hlm2 : Hid (l ≠ m) := fun e => hlm (by rw [e])
    clear hlm
    go_enter Tryz.func64, Tryz.ntmps64
    go_wp2_with fail
    go_ret
    exact ⟨false, rfl, ⟨fun e => (by cases e), fun e => absurd e hlm2.out⟩, Below.refl _ _⟩
set_option maxRecDepth 100000 in
set_option maxHeartbeats 2000000 in
theorem sameB_any (x y : HH) (l m : List TX) (hll : l.length ≤ 1000000) (hok : ∀ x ∈ l, x.ops.length ≤ 1000000) (a a2 b b2 : Option Addr) (cap cap2 cb cb2 : Nat) (w : World) (h : IA w a x.mem) (h2 : IA w a2 y.mem) (hl : x.mem.length ≤ 1000000) (k : TA w b l) (k2 : TA w b2 m) :
    Calls Tryz.prog 22 #[.agg (bk x.height x.prev x.txr x.str (.slice a x.mem.length cap) (.slice b l.length cb)), .agg (bk y.height y.prev y.txr y.str (.slice a2 y.mem.length cap2) (.slice b2 m.length cb2))] w (EqP w (x = y ∧ l = m)) := by
  have HH := fun w1 (h : IA w1 a x.mem) (h2 : IA w1 a2 y.mem) => sameH_any x y a a2 cap cap2 w1 h h2 hl
  unfold EqP at HH
  have HE := fun w1 (h : TA w1 b l) (h2 : TA w1 b2 m) => equalF_any l m hll hok b b2 cb cb2 w1 h h2
  unfold EqP at HE
  by_cases hxy : x = y
  · have HH1 : ∀ w1, IA w1 a x.mem → IA w1 a2 y.mem → Calls Tryz.prog 63 #[.agg (hA x.height x.prev x.txr x.str (.slice a x.mem.length cap)), .agg (hA y.height y.prev y.txr y.str (.slice a2 y.mem.length cap2))] w1 (fun e w' => e = .returned (.bool true) ∧ Below w1.heap.size w1 w') := fun w1 k1 k2 => (HH w1 k1 k2).mono fun e w' ⟨yb, he, hy, hb⟩ => by rw [hy.2 hxy] at he; exact ⟨he, hb⟩
    have hxy2 : Hid (x = y) := hxy
    clear HH hxy
    go_enter Tryz.func22, Tryz.ntmps22
    go_wp2_with (first
      | (go_at_call 63; refine (HH1 _ (h.below hB) (h2.below hB)).mono ?_; rintro e w3 ⟨rfl, hw3⟩; clear HH1; replace hb1 := hb1.belowSize hw3; replace hb2 := hb2.belowSize hw3; replace hB := hB.trans (hw3.mono hB.size); clear hw3; have c1 := (hb1.cell 5).trans (bk_g5 _ _ _ _ _ _); have c2 := (hb2.cell 5).trans (bk_g5 _ _ _ _ _ _))
      | (go_at_call 64; refine (HE _ (k.below hB) (k2.below hB)).mono ?_; rintro e w4 ⟨yb, rfl, hyb, hw4⟩; clear HE)
      | (with_reducible refine at_list ?_; first
        | (refine wpList_boxRow (op := ⟨some 2, _, _, _, _, _⟩) rfl _ _ rfl _ rfl ?_; intro w1 hw1 hs1 hb1; replace hs1 := hs1.symm)
        | (refine wpList_boxRow (op := ⟨some 3, _, _, _, _, _⟩) rfl _ _ rfl _ rfl ?_; intro w2 hw2 hs2 hb2; replace hs2 := hs2.symm; replace hb1 := hb1.belowSize hw2; have hB := hw1.trans (hw2.mono hw1.size))
        | (refine wpList_loadOp (op := ⟨some 6, _, _, _, _, _⟩) rfl _ _ rfl w.heap.size 0 rfl (hA x.height x.prev x.txr x.str (.slice a x.mem.length cap)) (bk_head hb1) _ Tryz.underlying50 rfl (hA_info _ _ _ _ _) ?_)
        | (refine wpList_loadOp (op := ⟨some 8, _, _, _, _, _⟩) rfl _ _ rfl w1.heap.size 0 rfl (hA y.height y.prev y.txr y.str (.slice a2 y.mem.length cap2)) (bk_head hb2) _ Tryz.underlying50 rfl (hA_info _ _ _ _ _) ?_)))
    go_ret
    exact ⟨yb, rfl, ⟨fun e => ⟨hxy2.out, hyb.1 e⟩, fun e => hyb.2 e.2⟩, hB.trans (hw4.mono hB.size)⟩
  · have HH1 : ∀ w1, IA w1 a x.mem → IA w1 a2 y.mem → Calls Tryz.prog 63 #[.agg (hA x.height x.prev x.txr x.str (.slice a x.mem.length cap)), .agg (hA y.height y.prev y.txr y.str (.slice a2 y.mem.length cap2))] w1 (fun e w' => e = .returned (.bool false) ∧ Below w1.heap.size w1 w') := fun w1 k1 k2 => (HH w1 k1 k2).mono fun e w' ⟨yb, he, hy, hb⟩ => by
      cases yb
      · exact ⟨he, hb⟩
      · exact absurd (hy.1 rfl) hxy
    have hxy2 : Hid (¬ x = y) := hxy
    clear HH hxy HE
    go_enter Tryz.func22, Tryz.ntmps22
    go_wp2_with (first
      | (go_at_call 63; refine (HH1 _ (h.below hB) (h2.below hB)).mono ?_; rintro e w3 ⟨rfl, hw3⟩; clear HH1)
      | (with_reducible refine at_list ?_; first
        | (refine wpList_boxRow (op := ⟨some 2, _, _, _, _, _⟩) rfl _ _ rfl _ rfl ?_; intro w1 hw1 hs1 hb1; replace hs1 := hs1.symm)
        | (refine wpList_boxRow (op := ⟨some 3, _, _, _, _, _⟩) rfl _ _ rfl _ rfl ?_; intro w2 hw2 hs2 hb2; replace hs2 := hs2.symm; replace hb1 := hb1.belowSize hw2; have hB := hw1.trans (hw2.mono hw1.size))
        | (refine wpList_loadOp (op := ⟨some 6, _, _, _, _, _⟩) rfl _ _ rfl w.heap.size 0 rfl (hA x.height x.prev x.txr x.str (.slice a x.mem.length cap)) (bk_head hb1) _ Tryz.underlying50 rfl (hA_info _ _ _ _ _) ?_)
        | (refine wpList_loadOp (op := ⟨some 8, _, _, _, _, _⟩) rfl _ _ rfl w1.heap.size 0 rfl (hA y.height y.prev y.txr y.str (.slice a2 y.mem.length cap2)) (bk_head hb2) _ Tryz.underlying50 rfl (hA_info _ _ _ _ _) ?_)))
    go_ret
    exact ⟨false, rfl, ⟨fun e => (by cases e), fun e => absurd e.1 hxy2.out⟩, hB.trans (hw3.mono hB.size)⟩
/-- The batch of a block, and whether there is one. -/
def boP (w : World) (hm mem : List Int) (a ah : Option Addr) (n cap ch : Nat) (e : Ending) (w' : World) : Prop :=
  Below w.heap.size w w' ∧ ((hm = mem ∧ e = .returned (.tuple #[.agg (bc (.slice a n cap) false (.slice none 0 0)), .bool true])) ∨ (hm ≠ mem ∧ 0 < n ∧ e = .returned (.tuple #[.agg (bc (.slice none 0 0) false (.slice none 0 0)), .bool false])) ∨ (hm ≠ mem ∧ n = 0 ∧ e = .returned (.tuple #[.agg (bc (.slice none 0 0) true (.slice ah hm.length ch)), .bool true])))
theorem builtBconf (ah : Option Addr) (n ch : Nat) : Tryz.prog.built 58 [(1, .bool true), (2, .slice ah n ch)] = some (bc (.slice none 0 0) true (.slice ah n ch)) := by kernel_rfl
theorem builtBnil : Tryz.prog.built 58 [] = some (bc (.slice none 0 0) false (.slice none 0 0)) := by kernel_rfl
end
end Go.Proofs.YtmbdhngoldganaaGreatDoor
