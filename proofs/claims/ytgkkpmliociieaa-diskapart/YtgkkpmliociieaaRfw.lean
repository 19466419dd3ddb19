/- What the plain with and Size do. -/
import Derived.Test.YtgkkpmliociieaaRef
namespace Go.Proofs.Ytgkkpmliociieaa
open Go Go.RowKit
def wstep (f : RF) (st : List RF × Bool) (x : RF) : List RF × Bool := if st.2 = false ∧ f.name < x.name then (st.1 ++ [f] ++ [x], true) else (st.1 ++ [x], st.2)
def wst (f : RF) (l : List RF) : List RF × Bool := l.foldl (wstep f) ([], false)
theorem wst_true (f : RF) : ∀ (r A : List RF), r.foldl (wstep f) (A, true) = (A ++ r, true)
  | [], A => by simp
  | x :: r, A => by
    rw [List.foldl_cons, show wstep f (A, true) x = (A ++ [x], true) by simp [wstep], wst_true f r]
    simp
theorem wst_ins (f : RF) : ∀ (r A : List RF), (if (r.foldl (wstep f) (A, false)).2 = true then (r.foldl (wstep f) (A, false)).1 else (r.foldl (wstep f) (A, false)).1 ++ [f]) = A ++ insR f r
  | [], A => by simp [insR]
  | x :: r, A => by
    rw [List.foldl_cons, insR]
    by_cases h : f.name < x.name
    · rw [show wstep f (A, false) x = (A ++ [f] ++ [x], true) by simp [wstep, h], wst_true, if_pos h]
      simp
    · rw [show wstep f (A, false) x = (A ++ [x], false) by simp [wstep, h], wst_ins f r, if_neg h]
      simp
theorem wst_take (f : RF) (l : List RF) (i : Nat) (x : RF) (h : l[i]? = some x) : wst f (l.take (i + 1)) = wstep f (wst f (l.take i)) x := by
  obtain ⟨hi, rfl⟩ := List.getElem?_eq_some_iff.1 h
  unfold wst
  rw [List.take_succ_eq_append_getElem hi, List.foldl_append]
  rfl
theorem wst_len (f : RF) : ∀ (r : List RF) (st : List RF × Bool), (r.foldl (wstep f) st).1.length ≤ st.1.length + 2 * r.length
  | [], st => by simp
  | x :: r, st => by
    have h1 := wst_len f r (wstep f st x)
    have h2 : (wstep f st x).1.length ≤ st.1.length + 2 := by unfold wstep; split <;> simp
    rw [List.foldl_cons, List.length_cons]
    omega
theorem RLltS {w : World} {lo g n cap : Nat} {l : List RF} (h : RL w lo (.slice (some ⟨g, 0, none⟩) n cap) l) : Hid (g < w.heap.size) := (GL.lt h g rfl).2
theorem GLle {w : World} {lo K3 : Nat} {sl : Value} {l : List RF} (_ : RL w lo sl l) (h : lo ≤ K3) (hK : Hid (K3 ≤ w.heap.size)) : lo ≤ w.heap.size := Nat.le_trans h hK.out
theorem RL.drew {w : World} {lo : Nat} {sl : Value} {l : List RF} (h : RL w lo sl l) : RL w.drew lo sl l := GL.drew h
theorem RLrng {w : World} {lo g n cap i : Nat} {l : List RF} {x : RF} (h : RL w lo (.slice (some ⟨g, 0, none⟩) n cap) l) (hx : Hid (l[i]? = some x)) : w.rangeAt g (i * 3) (rC x).toList := by
  obtain ⟨g', e, h1, _⟩ := h.at i x hx.out
  simp only [Option.some.injEq, Addr.mk.injEq, and_true] at e
  rw [e]
  exact h1
theorem keepRest {w w' : World} {M N K3 : Nat} {rs sl : Value} {L : List RF} (hL : RL w M rs L) (hg : w.grownBy w' (slBlk sl)) (hO : Hid (∀ r, slBlk sl = some r → r = N ∨ K3 ≤ r)) (hRb : Hid (∀ r, slBlk rs = some r → M ≤ r ∧ r < K3)) (hNM : N < M) : RL w' M rs L := GL.grown hL hg (fun r e e2 => by
  have h1 := hRb.out r e
  rcases hO.out r e2.symm with h2 | h2 <;> omega)
theorem keepF {w w' : World} {G0 N : Nat} {sl : Value} {l : List RF} {c : Array Value} {t : TypeId} (h : Blk w G0 c t) (hg : w.grownBy w' (slBlk sl)) (hX : RL w N sl l) (hNf : G0 < N) : Blk w' G0 c t := h.grown hg (fun e => by have := (GL.lt hX G0 e.symm).1; omega)
theorem keepO {w : World} {N K3 : Nat} {sl sl1 : Value} (hO : Hid (∀ r, slBlk sl = some r → r = N ∨ K3 ≤ r)) (hz : ∀ r, slBlk sl1 = some r → slBlk sl = some r ∨ w.heap.size ≤ r) (hK : Hid (K3 ≤ w.heap.size)) : Hid (∀ r, slBlk sl1 = some r → r = N ∨ K3 ≤ r) := fun r e => by
  rcases hz r e with h | h
  · exact hO.out r h
  · exact .inr (Nat.le_trans hK.out h)
theorem keepB {w0 w w' : World} {G0 N : Nat} {sl : Value} {l : List RF} (hB : Below G0 w0 w) (hX : RL w N sl l) (hg : w.grownBy w' (slBlk sl)) (hNf : G0 < N) (hs : G0 ≤ w.heap.size) : Below G0 w0 w' := hB.trans ⟨hg.os, hg.tape, hg.output, hg.size, fun k hk => hg.block k (by omega) (fun e => by have := (GL.lt hX k e.symm).1; omega)⟩
theorem keepK {w w' : World} {K3 : Nat} (hK : Hid (K3 ≤ w.heap.size)) (h : w.heap.size ≤ w'.heap.size) : Hid (K3 ≤ w'.heap.size) := Nat.le_trans hK.out h
section
variable {ops : Array Oper} {rest : List Oper} {op : Oper} {a : Act} {w : World} {Q : Exit → Act → World → Prop}
theorem wpList_appRR (hgd : op.guard = none) (x y : Operand) (ho : op.op = .call { callee := .builtin .append, args := #[x, y], argTypes := #[24, 24] })
    (lo : Nat) (sl : Value) (l : List RF) (hlo : lo ≤ w.heap.size) (hx : a.eval x = sl) (hsl : RL w lo sl l) (g2 : Nat) (hy : a.eval y = .slice (some ⟨g2, 0, none⟩) 1 1) (f : RF) (hb2 : Blk w g2 (rC f) 49) (hlen : l.length ≤ 1000000)
    (h : ∀ (w1 : World) (sl1 : Value), w.grownBy w1 (slBlk sl) → RL w1 lo sl1 (l ++ [f]) → (∀ r, slBlk sl1 = some r → slBlk sl = some r ∨ w.heap.size ≤ r) → wpList Try.prog ops Q rest (a.put op.dst sl1) w1) : wpList Try.prog ops Q (op :: rest) a w := by
  obtain ⟨i, hi, hz, hs, hby⟩ := infoRf
  refine wpList_appendGLR hgd x y 24 49 ho 3 lo sl _ hlo hx hsl g2 1 hy (rL f) rfl (fun u hu => Array.all_eq_true_iff_forall_mem.1 (rC_one f) u (by simpa using hu)) 49 (by simpa using hb2) i _ rfl Try.underlying24 hi hz hs hby (by simpa using hlen) (fun w1 sl1 h1 h2 h3 => h w1 sl1 h1 ?_ h3)
  unfold RL
  rw [List.map_append]
  exact h2
end
theorem gtr_eq (x f : B) : (Op.bytesLess x f || x == f) = !decide (f < x) := by
  rw [bytesLess_eq]
  by_cases h : f < x
  · rw [decide_eq_true h, decide_eq_false (lt_as h)]
    simp
    exact fun e => lt_ne h e.symm
  · rw [decide_eq_false h]
    by_cases e : x = f
    · simp [e]
    · simp [lt_tot (fun e2 => e e2.symm) h]
theorem gtrS (x f : B) (w : World) : (binOp .gtr 9 (.string ⟨x.toArray⟩) (.string ⟨f.toArray⟩)).run Try.prog w = .ok (.bool (decide (f < x))) w := by
  have h := gtr_eq x f
  have e : ∀ l : B, (ByteArray.mk l.toArray).toList = l := fun l => by simp
  simp only [binOp, Op.stringOp, e]
  rw [h, Bool.not_not]
  rfl
section
attribute [local go_sem] gtrS
set_option maxRecDepth 100000 in
set_option maxHeartbeats 1000000 in
theorem with_any (l : List RF) (f : RF) (sl : Value) (lo : Nat) (w : World) (hL : RL w lo sl l) (hl : l.length ≤ 100000) :
    Calls Try.prog 37 #[sl, .agg (rC f)] w (NewP w (wiR f l)) := by
  have HW := fun w1 (hB : Below w.heap.size w w1) => without_any l f.name sl lo w1 (hL.below hB) (by omega)
  obtain ⟨a0, cap0, rfl⟩ := hL.sl
  have hwl := wo_len f.name l
  have hfin : Hid ((if (wst f (woR f.name l)).2 = true then (wst f (woR f.name l)).1 else (wst f (woR f.name l)).1 ++ [f]) = wiR f l) := by
    have := wst_ins f (woR f.name l) []
    rw [List.nil_append] at this
    exact this
  obtain ⟨R, hR⟩ : ∃ R, Hid (R = wiR f l) := ⟨_, rfl⟩
  rw [← hR.out] at hfin ⊢
  generalize woR f.name l = L at *
  clear hR hL
  go_enter Try.func37, Try.ntmps37
  go_wp2_with (first
    | (go_at_call 52; refine (HW _ hB2).mono ?_; rintro e w3 ⟨sl3, rfl, hw3, hL3⟩; have hB3 := hB2.trans (hw3.mono hB2.size); replace h3 := h3.belowSize hw3; replace hX2 := hX2.below hw3; obtain ⟨a3, cap3, rfl⟩ := hL3.sl)
    | (with_reducible refine at_list ?_; first
      | (refine wpList_boxRow (op := ⟨some 3, _, _, _, _, _⟩) rfl _ _ rfl _ rfl ?_; intro w1 hw1 hs1 h3; clear hs1)
      | (refine wpList_rsl0 (op := ⟨some 9, _, _, _, _, _⟩) rfl rfl ?_; intro w2 hw2 hX2; have hB2 := hw1.trans (hw2.mono hw1.size); have hl12 := hw1.size; have hf1 := h3.lt; replace h3 := h3.belowSize hw2; have hNN := RLltS hX2)
      | (refine wpList_loadCell (op := ⟨some 12, _, _, _, _, _⟩) rfl _ _ rfl w.heap.size 0 rfl _ _ h3 _ Try.underlying9 rfl _ (rC_g0 f) ?_)))
  have hl23 := hw3.size
  have hRb : ∀ r, slBlk (.slice a3 L.length cap3) = some r → w2.heap.size ≤ r ∧ r < w3.heap.size := GL.lt hL3
  have hN2 : w1.heap.size < w2.heap.size := hNN.out
  obtain ⟨N, hN⟩ : ∃ N, N = w1.heap.size := ⟨_, rfl⟩
  obtain ⟨M, hM⟩ : ∃ M, M = w2.heap.size := ⟨_, rfl⟩
  obtain ⟨K3, hK3⟩ : ∃ K3, K3 = w3.heap.size := ⟨_, rfl⟩
  obtain ⟨G0, hG0⟩ : ∃ G0, G0 = w.heap.size := ⟨_, rfl⟩
  have hNf : G0 < N := by omega
  rw [← hM] at hL3
  rw [← hM, ← hK3] at hRb
  rw [← hN] at hX2 hN2 ⊢
  rw [← hM] at hN2
  rw [← hG0] at h3 hB3 ⊢
  have hBs := hB3.size
  have hNK : N ≤ K3 := by omega
  have hGle : G0 ≤ w.heap.size := by omega
  have hP : Hid (∀ w' sl', Below G0 w w' → RL w' N sl' R → NewP w R (.returned sl') w') := fun w' sl' h1 h2 => ⟨sl', rfl, by rw [← hG0]; exact h1, by rw [← hG0]; exact h2.lo (Nat.le_of_lt hNf)⟩
  have hKK : Hid (K3 = w3.heap.size) := hK3
  clear hw1 hw2 hw3 hB2 hl12 hf1 hl23 hNN HW hN hM hK3 hG0
  generalize NewP w R = PP at *
  go_loopw [5, 6, 8] (fun v5 v6 v8 wl => ∃ i : Nat, i ≤ L.length ∧ v8 = .int .i64 i ∧ v6 = .bool (wst f (L.take i)).2 ∧ RL wl N v5 (wst f (L.take i)).1 ∧ Hid (∀ r, slBlk v5 = some r → r = N ∨ K3 ≤ r) ∧ RL wl M (.slice a3 L.length cap3) L ∧ Blk wl G0 (rC f) 49 ∧ Below G0 w wl ∧ Hid (K3 ≤ wl.heap.size)) (fun _ _ v8 _ => L.length - (intOf v8).toNat)
  case atStart => exact ⟨0, by omega, rfl, rfl, hX2, fun r e => .inl (Option.some.inj e).symm, hL3, h3, hB3, by rw [hKK.out]; exact Nat.le_refl _⟩
  case round =>
    obtain ⟨i, hil, rfl, rfl, hX, hO, hL4, h4, hB, hKs⟩ := hrel
    have hBN := hB.size
    clear hX2 hL3 h3 hB3
    by_cases hlt : i < L.length
    · have hz2 : (i : Int) < (L.length : Int) := by omega
      obtain ⟨x, hx⟩ : ∃ x, L[i]? = some x := ⟨_, List.getElem?_eq_getElem hlt⟩
      have hT := wst_take f L i x hx
      have hle : (wst f (L.take i)).1.length ≤ 300000 := by
        have := wst_len f (L.take i) ([], false)
        rw [List.length_take] at this
        unfold wst
        simp at this
        omega
      obtain ⟨g, rfl, hg, hgl, hgM⟩ := hL4.at i x hx
      have c0 := rL_nm hg
      have c1 : wr.cell? ⟨G0, 0, none⟩ = some (.string ⟨f.name.toArray⟩) := (h4.cell 0).trans (rC_g0 f)
      have hxx : Hid (L[i]? = some x) := hx
      have hRb2 : Hid (∀ r, slBlk (.slice (some ⟨g, 0, none⟩) L.length cap3) = some r → M ≤ r ∧ r < K3) := hRb
      clear hx hg hgl hgM
      generalize wst f (L.take i) = st at *
      obtain ⟨A, b⟩ := st
      dsimp only at hX hle hT ⊢
      have hA1 : A.length ≤ 1000000 := by omega
      have hA2 : (A ++ [f]).length ≤ 1000000 := by simp; omega
      clear hle hRb
      cases b with
      | true =>
        have hS : Hid (wst f (L.take (i + 1)) = (A ++ [x], true)) := by
          show _ = _
          rw [hT, wstep]
          rw [if_neg (by simp)]
        clear hT
        go_wp2_with fail
        go_region
        have hXd := hX.drew
        have hLd := hL4.drew
        have h4d := h4.drew
        have hBd : Below G0 w wr.drew := hB.drew
        have hKd : Hid (K3 ≤ wr.drew.heap.size) := hKs
        have hXq := hXd
        have hLq := hLd
        have h4q := h4d
        have hBq := hBd
        have hKq := hKd
        have hOq := hO
        go_wp2_with (with_reducible refine at_list ?_; first | (refine wpList_loadAt (op := ⟨some 40, _, _, _, _, _⟩) rfl _ _ rfl g (i * 3) rfl (rC x) (RLrng hLq hxx) _ Try.underlying49 rfl (iRf x) ?_) | (refine wpList_rsl1 (op := ⟨some 41, _, _, _, _, _⟩) rfl _ rfl x rfl ?_; intro w6 hw6 h6; have hX6 := hXq.below hw6; have hL6 := hLq.below hw6; have h46 := h4q.belowSize hw6; have hB6 := hBq.trans (hw6.mono (Nat.le_trans hGle hBq.size)); have hK6 := keepK hKq hw6.size) | (refine wpList_appRR (op := ⟨some 42, _, _, _, _, _⟩) rfl _ _ rfl N u5 A (GLle hX6 hNK hK6) (by with_unfolding_all exact rfl) hX6 wr.drew.heap.size (by with_unfolding_all exact rfl) x h6 hA1 ?_; intro w7 sl7 hg7 hX7 hz7; have hL7 := keepRest hL6 hg7 hOq hRb2 hN2; have h47 := keepF h46 hg7 hX6 hNf; have hO7 := keepO hOq hz7 hK6; have hB7 := keepB hB6 hX6 hg7 hNf (Nat.le_trans hGle hB6.size); have hK7 := keepK hK6 hg7.size))
        go_roundw
        case rel => exact ⟨i + 1, by omega, by go_num, by rw [hS.out], by rw [hS.out]; exact hX7, hO7, hL7, h47, hB7, hK7⟩
        case measure => simp [intOf]; omega
      | false =>
        by_cases hlt2 : f.name < x.name
        · have hS : Hid (wst f (L.take (i + 1)) = (A ++ [f] ++ [x], true)) := by
            show _ = _
            rw [hT, wstep]
            rw [if_pos ⟨rfl, hlt2⟩]
          clear hT
          have hb : decide (f.name < x.name) = true := decide_eq_true hlt2
          go_wp2_with fail
          go_region
          have hXd := hX.drew
          have hLd := hL4.drew
          have h4d := h4.drew
          have hBd : Below G0 w wr.drew := hB.drew
          have hKd : Hid (K3 ≤ wr.drew.heap.size) := hKs
          go_wp2_with (with_reducible refine at_list ?_; first | (refine wpList_loadRow (op := ⟨some 33, _, _, _, _, _⟩) rfl _ _ rfl G0 rfl _ _ h4d _ Try.underlying49 rfl (iRf f) ?_) | (refine wpList_rsl1 (op := ⟨some 34, _, _, _, _, _⟩) rfl _ rfl f rfl ?_; intro w4 hw4 h64; have hX4 := hXd.below hw4; have hL44 := hLd.below hw4; have h44 := h4d.belowSize hw4; have hB4 := hBd.trans (hw4.mono (Nat.le_trans hGle hBd.size)); have hK4 := keepK hKd hw4.size) | (refine wpList_appRR (op := ⟨some 35, _, _, _, _, _⟩) rfl _ _ rfl N u5 A (GLle hX4 hNK hK4) (by with_unfolding_all exact rfl) hX4 wr.drew.heap.size (by with_unfolding_all exact rfl) f h64 hA1 ?_; intro w5 sl5 hg5 hXq hz5; have hLq := keepRest hL44 hg5 hO hRb2 hN2; have h4q := keepF h44 hg5 hX4 hNf; have hOq := keepO hO hz5 hK4; have hBq := keepB hB4 hX4 hg5 hNf (Nat.le_trans hGle hB4.size); have hKq := keepK hK4 hg5.size) | (refine wpList_loadAt (op := ⟨some 40, _, _, _, _, _⟩) rfl _ _ rfl g (i * 3) rfl (rC x) (RLrng hLq hxx) _ Try.underlying49 rfl (iRf x) ?_) | (refine wpList_rsl1 (op := ⟨some 41, _, _, _, _, _⟩) rfl _ rfl x rfl ?_; intro w6 hw6 h6; have hX6 := hXq.below hw6; have hL6 := hLq.below hw6; have h46 := h4q.belowSize hw6; have hB6 := hBq.trans (hw6.mono (Nat.le_trans hGle hBq.size)); have hK6 := keepK hKq hw6.size) | (refine wpList_appRR (op := ⟨some 42, _, _, _, _, _⟩) rfl _ _ rfl N sl5 (A ++ [f]) (GLle hX6 hNK hK6) (by with_unfolding_all exact rfl) hX6 w5.heap.size (by with_unfolding_all exact rfl) x h6 hA2 ?_; intro w7 sl7 hg7 hX7 hz7; have hL7 := keepRest hL6 hg7 hOq hRb2 hN2; have h47 := keepF h46 hg7 hX6 hNf; have hO7 := keepO hOq hz7 hK6; have hB7 := keepB hB6 hX6 hg7 hNf (Nat.le_trans hGle hB6.size); have hK7 := keepK hK6 hg7.size))
          go_roundw
          case rel => exact ⟨i + 1, by omega, by go_num, by rw [hS.out], by rw [hS.out]; exact hX7, hO7, hL7, h47, hB7, hK7⟩
          case measure => simp [intOf]; omega
        · have hS : Hid (wst f (L.take (i + 1)) = (A ++ [x], false)) := by
            show _ = _
            rw [hT, wstep]
            rw [if_neg (fun h => hlt2 h.2)]
          clear hT
          have hb : decide (f.name < x.name) = false := decide_eq_false hlt2
          go_wp2_with fail
          go_region
          have hXd := hX.drew
          have hLd := hL4.drew
          have h4d := h4.drew
          have hBd : Below G0 w wr.drew := hB.drew
          have hKd : Hid (K3 ≤ wr.drew.heap.size) := hKs
          have hXq := hXd
          have hLq := hLd
          have h4q := h4d
          have hBq := hBd
          have hKq := hKd
          have hOq := hO
          go_wp2_with (with_reducible refine at_list ?_; first | (refine wpList_loadAt (op := ⟨some 40, _, _, _, _, _⟩) rfl _ _ rfl g (i * 3) rfl (rC x) (RLrng hLq hxx) _ Try.underlying49 rfl (iRf x) ?_) | (refine wpList_rsl1 (op := ⟨some 41, _, _, _, _, _⟩) rfl _ rfl x rfl ?_; intro w6 hw6 h6; have hX6 := hXq.below hw6; have hL6 := hLq.below hw6; have h46 := h4q.belowSize hw6; have hB6 := hBq.trans (hw6.mono (Nat.le_trans hGle hBq.size)); have hK6 := keepK hKq hw6.size) | (refine wpList_appRR (op := ⟨some 42, _, _, _, _, _⟩) rfl _ _ rfl N u5 A (GLle hX6 hNK hK6) (by with_unfolding_all exact rfl) hX6 wr.drew.heap.size (by with_unfolding_all exact rfl) x h6 hA1 ?_; intro w7 sl7 hg7 hX7 hz7; have hL7 := keepRest hL6 hg7 hOq hRb2 hN2; have h47 := keepF h46 hg7 hX6 hNf; have hO7 := keepO hOq hz7 hK6; have hB7 := keepB hB6 hX6 hg7 hNf (Nat.le_trans hGle hB6.size); have hK7 := keepK hK6 hg7.size))
          go_roundw
          case rel => exact ⟨i + 1, by omega, by go_num, by rw [hS.out], by rw [hS.out]; exact hX7, hO7, hL7, h47, hB7, hK7⟩
          case measure => simp [intOf]; omega
    · have hz2 : ¬ (i : Int) < (L.length : Int) := by omega
      have hle : (wst f L).1.length ≤ 300000 := by
        have := wst_len f L ([], false)
        unfold wst
        simp at this
        omega
      have e1 : L.take i = L := List.take_of_length_le (by omega)
      rw [e1] at hX ⊢
      clear e1
      generalize wst f L = st at *
      obtain ⟨A, b⟩ := st
      dsimp only at hX hle hfin ⊢
      have hA1 : A.length ≤ 1000000 := by omega
      clear hle
      cases b with
      | true =>
        have hRA : R = A := by have := hfin.out; rw [if_pos rfl] at this; exact this.symm
        rw [hRA] at hP
        clear hfin hRA
        go_wp2_with fail
        all_goals exact hP.out _ _ hB hX
      | false =>
        have hRA : R = A ++ [f] := by have := hfin.out; rw [if_neg (by simp)] at this; exact this.symm
        rw [hRA] at hP
        clear hfin hRA
        go_wp2_with (with_reducible refine at_list ?_; first
          | (refine wpList_loadRow (op := ⟨some 46, _, _, _, _, _⟩) rfl _ _ rfl G0 rfl _ _ h4 _ Try.underlying49 rfl (iRf f) ?_)
          | (refine wpList_rsl1 (op := ⟨some 47, _, _, _, _, _⟩) rfl _ rfl f rfl ?_; intro w6 hw6 h6; have hX6 := hX.below hw6; have hB6 := hB.trans (hw6.mono (Nat.le_trans hGle hB.size)); have hK6 := keepK hKs hw6.size)
          | (refine wpList_appRR (op := ⟨some 48, _, _, _, _, _⟩) rfl _ _ rfl N u5 A (GLle hX6 hNK hK6) (by with_unfolding_all exact rfl) hX6 wr.heap.size (by with_unfolding_all exact rfl) f h6 hA1 ?_; intro w7 sl7 hg7 hX7 hz7; have hB7 := keepB hB6 hX6 hg7 hNf (Nat.le_trans hGle hB6.size)))
        all_goals exact hP.out _ _ hB7 hX7
end
end Go.Proofs.Ytgkkpmliociieaa
