/- A message, out of what its argument reads as. What TakeMembers does, whatever the bytes. -/
import Derived.Test.YtnhlejdilldfaaaGreatRld
import Derived.Test.YtnhlejdilldfaaaGreatHmd
import Derived.Test.YtnhlejdilldfaaaGreatRcx
namespace Go.Proofs.YtnhlejdilldfaaaGreat
open Go Go.ChangeShapes Go.WideShapes Go.ChangeAt Go.WideMaps Go.WideElems Go.RowKit
theorem clMsg : Tryz.prog.cellsOf 25 = 13 := by kernel_rfl
theorem clSlE : Tryz.prog.cellsOf 22 = 1 := by kernel_rfl
/-- The numbers of a message are such as there are. -/
structure MsgI (m : MSG) : Prop where
  kind : (Lit.int .i64 m.kind).wf = true
  frm : (Lit.int .i64 m.frm).wf = true
  dst : (Lit.int .i64 m.dst).wf = true
  term : (Lit.int .i64 m.term).wf = true
  index : (Lit.int .i64 m.index).wf = true
  logTerm : (Lit.int .i64 m.logTerm).wf = true
  commit : (Lit.int .i64 m.commit).wf = true
  off : (Lit.int .i64 m.off).wf = true
/-- The entries and the members of a message lie in memory. -/
structure MsgA (w : World) (m : MSG) (ea : Option Addr) (ec : Nat) (ma : Option Addr) (mc : Nat) : Prop where
  ints : MsgI m
  ents : EA w ea m.ents
  entc : m.ents.length ≤ ec
  entl : m.ents.length ≤ 17592186044416
  mems : IA w ma m.mems
  memc : m.mems.length ≤ mc
  meml : m.mems.length ≤ 17592186044416
  piece : m.piece.length ≤ maxLen
set_option maxRecDepth 100000 in
theorem ents_len {H : Type} {enc : TypeId × Value → H} {W : World} {n : Nat} {a0 : Option Addr} {len cap : Nat} {x : DataW H × List MemPlace} (hf : DataW.trod enc Tryz.prog W 0 (fun _ => true) true n 22 [.slice a0 len cap] = some x) (hlg : Lgt 22 x.1) : len ≤ 17592186044416 := by
  rcases DataW.trod_slice Tryz.underlying22 hf with ⟨hcs, _⟩ | ⟨a, l, c, elems, rest, n, _, hcs, hx, _, hl, hm, hel, hc, _, _⟩
  · simp at hcs
    obtain ⟨_, rfl, _⟩ := hcs
    exact Nat.zero_le _
  · simp at hcs
    obtain ⟨rfl, rfl, rfl⟩ := hcs
    have hbe : 8 ≤ Tryz.prog.bytesOf 29 := by
      have : Tryz.prog.bytesOf 29 = 56 := by kernel_rfl
      omega
    unfold Lgt at hlg
    rw [hx] at hlg
    have h2 := List.all_eq_true.1 hlg ((elems.length + rest.length) * Tryz.prog.bytesOf 29) (by simp [DataW.weights, Tryz.underlying22])
    have h3 := of_decide_eq_true h2
    unfold reachBytes at h3
    have h4 : (elems.length + rest.length) * 8 ≤ (elems.length + rest.length) * Tryz.prog.bytesOf 29 := Nat.mul_le_mul (Nat.le_refl _) hbe
    omega
set_option maxRecDepth 100000 in
/-- The cells of a message. -/
theorem msg_cs {H : Type} {enc : TypeId × Value → H} {W : World} {n : Nat} {cs : List Value} {x : DataW H × List MemPlace} (hf : DataW.trod enc Tryz.prog W 0 (fun _ => true) true n 25 cs = some x) (hlg : Lgt 25 x.1) :
    ∃ (m : MSG) (ea : Option Addr) (ec : Nat) (ma : Option Addr) (mc : Nat), cs = (mcells m (.slice ea m.ents.length ec) (.slice ma m.mems.length mc)).toList ∧ MsgA W m ea ec ma mc := by
  obtain ⟨xs, f, _, hx, hl, hxl, hfd⟩ := DataW.trod_struct Tryz.underlying25 hf
  rw [clMsg] at hl
  match xs, hxl, cs, hl with
  | [y0, y1, y2, y3, y4, y5, y6, y7, y8, y9, y10, y11, y12], _, [v0, v1, v2, v3, v4, v5, v6, v7, v8, v9, v10, v11, v12], _ =>
    have g0 := hfd 0 _ rfl
    have g1 := hfd 1 _ rfl
    have g2 := hfd 2 _ rfl
    have g3 := hfd 3 _ rfl
    have g4 := hfd 4 _ rfl
    have g5 := hfd 5 _ rfl
    have g6 := hfd 6 _ rfl
    have g7 := hfd 7 _ rfl
    have g8 := hfd 8 _ rfl
    have g9 := hfd 9 _ rfl
    have g10 := hfd 10 _ rfl
    have g11 := hfd 11 _ rfl
    have g12 := hfd 12 _ rfl
    simp [cl3, cl9, clBool, clSlI, clSlE] at g0 g1 g2 g3 g4 g5 g6 g7 g8 g9 g10 g11 g12
    obtain ⟨c0, e0, _, w0⟩ := DataW.trod_int Tryz.underlying3 g0
    obtain ⟨c1, e1, _, w1⟩ := DataW.trod_int Tryz.underlying3 g1
    obtain ⟨c2, e2, _, w2⟩ := DataW.trod_int Tryz.underlying3 g2
    obtain ⟨c3, e3, _, w3⟩ := DataW.trod_int Tryz.underlying3 g3
    obtain ⟨c4, e4, _, w4⟩ := DataW.trod_int Tryz.underlying3 g4
    obtain ⟨c5, e5, _, w5⟩ := DataW.trod_int Tryz.underlying3 g5
    obtain ⟨c6, e6, _, w6⟩ := DataW.trod_int Tryz.underlying3 g6
    obtain ⟨c7, e7, _⟩ := DataW.trod_bool Tryz.underlying4 g7
    obtain ⟨c9, e9, _, w9⟩ := DataW.trod_int Tryz.underlying3 g9
    obtain ⟨c10, e10, _, w10⟩ := DataW.trod_string Tryz.underlying9 g10
    obtain ⟨c11, e11, _⟩ := DataW.trod_bool Tryz.underlying4 g11
    simp at e0 e1 e2 e3 e4 e5 e6 e7 e9 e10 e11
    subst e0 e1 e2 e3 e4 e5 e6 e7 e9 e10 e11
    have hs8 : ∃ a len cap, v8 = .slice a len cap := by
      rcases DataW.trod_slice Tryz.underlying22 g8 with ⟨hcs, _⟩ | ⟨a, l, c, elems, rest, n, _, hcs, _⟩
      · simp at hcs; exact ⟨_, _, _, hcs⟩
      · simp at hcs; exact ⟨_, _, _, hcs⟩
    have hs12 : ∃ a len cap, v12 = .slice a len cap := by
      rcases DataW.trod_slice Tryz.underlying23 g12 with ⟨hcs, _⟩ | ⟨a, l, c, elems, rest, n, _, hcs, _⟩
      · simp at hcs; exact ⟨_, _, _, hcs⟩
      · simp at hcs; exact ⟨_, _, _, hcs⟩
    obtain ⟨a8, len8, cap8, rfl⟩ := hs8
    obtain ⟨a12, len12, cap12, rfl⟩ := hs12
    have hwts : ∀ (j : Nat) (t : TypeId) (d : DataW H), ([3, 3, 3, 3, 3, 3, 3, 4, 22, 3, 9, 4, 23] : List TypeId)[j]? = some t → [y0.1, y1.1, y2.1, y3.1, y4.1, y5.1, y6.1, y7.1, y8.1, y9.1, y10.1, y11.1, y12.1][j]? = some d → Lgt t d := fun j t d h1 h2 => by
      unfold Lgt at hlg ⊢
      rw [List.all_eq_true] at hlg ⊢
      intro z hz
      refine hlg z ?_
      rw [hx]
      show z ∈ DataW.weights Tryz.prog 25 (DataW.agg [y0.1, y1.1, y2.1, y3.1, y4.1, y5.1, y6.1, y7.1, y8.1, y9.1, y10.1, y11.1, y12.1])
      unfold DataW.weights
      rw [Tryz.underlying25]
      exact DataW.weights_mem_each (j := j) (t := t) (d := d) h1 h2 z hz
    obtain ⟨l12, hl12, hI12, hc12, hw12⟩ := ints_of g12
    have hlg8 : Lgt 22 y8.1 := hwts 8 _ _ rfl rfl
    obtain ⟨l8, hl8, hE8, hc8⟩ := ents_of g8 hlg8
    have hn8 := ents_len g8 hlg8
    refine ⟨⟨c0, c1, c2, c3, c4, c5, c6, c7, l8, c9, c10.data.toList, c11, l12⟩, a8, cap8, a12, cap12, ?_, ⟨⟨w0, w1, w2, w3, w4, w5, w6, w9⟩, hE8, ?_, ?_, hI12, ?_, ?_, ?_⟩⟩
    · unfold mcells
      dsimp only
      rw [hl8, hl12]
    · show l8.length ≤ _; omega
    · show l8.length ≤ _; omega
    · show l12.length ≤ _; omega
    · have h12 := hw12 (hwts 12 _ _ rfl rfl)
      show l12.length ≤ _
      omega
    · show c10.data.toList.length ≤ _
      have : c10.size = c10.data.toList.length := rfl
      omega
set_option maxRecDepth 100000 in
/-- A message out of its argument. -/
theorem msg_of {H : Type} {enc : TypeId × Value → H} {W : World} {r : Reach} {base : Nat} {v : Value} {d : DataW H} {p : List MemPlace} (hv : Value.okWide Tryz.prog W r base 25 v) (h : DataW.Trod enc Tryz.prog W 0 (fun _ => true) true 25 v d p) (hlg : Lgt 25 d) :
    ∃ (m : MSG) (ea : Option Addr) (ec : Nat) (ma : Option Addr) (mc : Nat), v = .agg (mcells m (.slice ea m.ents.length ec) (.slice ma m.mems.length mc)) ∧ MsgA W m ea ec ma mc := by
  obtain ⟨cs, rfl, hsz⟩ := okWide_struct Tryz.underlying25 hv
  obtain ⟨fuel, hf⟩ := h
  obtain ⟨m, ea, ec, ma, mc, h1, h2⟩ := msg_cs hf hlg
  refine ⟨m, ea, ec, ma, mc, ?_, h2⟩
  obtain ⟨cl⟩ := cs
  have h1 : cl = _ := h1
  rw [h1]
end Go.Proofs.YtnhlejdilldfaaaGreat
namespace Go.Proofs.YtnhlejdilldfaaaGreat
open Go Go.RowKit
/-- The reader, and who was read, behind so many rounds. -/
def tkS (r : R) : Nat → R × List Int
  | 0 => (r, [])
  | n + 1 => (bif okM ((tkS r n).2 ++ [(((tkS r n).1.number 1).2 : Int)]) then ((tkS r n).1.number 1).1 else ((tkS r n).1.number 1).1.fail 6, (tkS r n).2 ++ [(((tkS r n).1.number 1).2 : Int)])
/-- The reader behind, and who was read. -/
def tkM (r : R) : R × List Int :=
  bif decide ((r.number 1).2 = 0 ∨ 16 < (r.number 1).2) then ((r.number 1).1.fail 6, [])
  else ((tkS (r.number 1).1 (r.number 1).2).1, if (tkS (r.number 1).1 (r.number 1).2).1.err = 0 then (tkS (r.number 1).1 (r.number 1).2).2 else [])
theorem tkS_len (r : R) : ∀ n, (tkS r n).2.length = n
  | 0 => rfl
  | n + 1 => by simp [tkS, tkS_len r n]
theorem tkS_ok {r : R} (h : r.ok) : ∀ n, (tkS r n).1.ok
  | 0 => h
  | n + 1 => by
    have h2 := R.ok_number (tkS_ok h n) 1
    unfold tkS
    cases okM ((tkS r n).2 ++ [(((tkS r n).1.number 1).2 : Int)])
    · exact R.ok_fail h2 6
    · exact h2
theorem tkS_s (r : R) : ∀ n, (tkS r n).1.s = r.s
  | 0 => rfl
  | n + 1 => by
    have h2 := tkS_s r n
    unfold tkS
    cases okM ((tkS r n).2 ++ [(((tkS r n).1.number 1).2 : Int)])
    · simp only [cond_false, R.fail_s, R.number_s, h2]
    · simp only [cond_true, R.number_s, h2]
theorem tkM_ok {r : R} (h : r.ok) : (tkM r).1.ok := by
  unfold tkM
  cases decide ((r.number 1).2 = 0 ∨ 16 < (r.number 1).2)
  · exact tkS_ok (R.ok_number h 1) _
  · exact R.ok_fail (R.ok_number h 1) 6
theorem tkM_s (r : R) : (tkM r).1.s = r.s := by
  unfold tkM
  cases decide ((r.number 1).2 = 0 ∨ 16 < (r.number 1).2)
  · rw [cond_false]
    exact (tkS_s _ _).trans (R.number_s _ _)
  · rw [cond_true]
    exact (R.fail_s _ _).trans (R.number_s _ _)
theorem tkS_goes {r : R} (hk : r.ok) : ∀ n, (tkS r n).1.err = 0 → Goes r (tkS r n).1 (memsB (tkS r n).2) ∧ (0 < n → OkM (tkS r n).2)
  | 0, h => ⟨⟨h, h, rfl, by rw [show (tkS r 0).2 = [] from rfl, memsB_nil, List.append_nil]; rfl⟩, fun e => absurd e (by decide)⟩
  | n + 1, h => by
    have e : tkS r (n + 1) = (bif okM ((tkS r n).2 ++ [(((tkS r n).1.number 1).2 : Int)]) then ((tkS r n).1.number 1).1 else ((tkS r n).1.number 1).1.fail 6, (tkS r n).2 ++ [(((tkS r n).1.number 1).2 : Int)]) := rfl
    rw [e] at h ⊢
    cases hb : okM ((tkS r n).2 ++ [(((tkS r n).1.number 1).2 : Int)])
    · rw [hb, cond_false] at h
      exact absurd (R.fail_zero h).2 (by decide)
    · rw [hb, cond_true] at h
      rw [cond_true]
      have h1 := number_goes (k := 1) (tkS_ok hk n) (by omega) h
      refine ⟨?_, fun _ => okM_iff.1 hb⟩
      rw [memsB_snoc, Int.toNat_natCast]
      exact (tkS_goes hk n h1.e0).1.trans h1
theorem tkM_goes {r : R} (hk : r.ok) (h : (tkM r).1.err = 0) : Goes r (tkM r).1 (memB (tkM r).2) ∧ OkM (tkM r).2 := by
  unfold tkM at h ⊢
  cases hd : decide ((r.number 1).2 = 0 ∨ 16 < (r.number 1).2)
  · rw [hd, cond_false] at h
    rw [cond_false]
    have hn := of_decide_eq_false hd
    simp only at h ⊢
    rw [if_pos h]
    obtain ⟨g2, h2⟩ := tkS_goes (R.ok_number hk 1) _ h
    have g1 := number_goes (k := 1) hk (by omega) g2.e0
    refine ⟨?_, h2 (by omega)⟩
    rw [memB, tkS_len]
    exact g1.trans g2
  · rw [hd, cond_true] at h
    exact absurd (R.fail_zero h).2 (by decide)
theorem tkM_len (r : R) : (tkM r).2.length ≤ 16 := by
  unfold tkM
  cases hd : decide ((r.number 1).2 = 0 ∨ 16 < (r.number 1).2)
  · have := of_decide_eq_false hd
    rw [cond_false]
    simp only
    split
    · rw [tkS_len]; omega
    · exact Nat.zero_le _
  · exact Nat.zero_le _
set_option maxRecDepth 100000 in
set_option maxHeartbeats 4000000 in
theorem takeMem_any (b : Nat) (r : R) (w : World) (h : RD w b r) (hk : r.ok) (hs : r.s.length ≤ 140737488355328) :
    Calls Tryz.prog 55 #[.pointer (some ⟨b, 0, none⟩)] w (TakeMP b w (tkM r).1 (tkM r).2) := by
  have hbl := h.lt
  obtain ⟨ii, hi, hz, hsz, hby⟩ := infoI
  have H1 := fun w (h : RD w b r) => number_r b r 1 w h hk hs
  have hn2 := number1_lt r
  have hqk := R.ok_number hk 1
  have hqs := R.number_s r 1
  unfold tkM
  generalize r.number 1 = q0 at *
  obtain ⟨q, n⟩ := q0
  dsimp only at *
  by_cases hd : n = 0 ∨ 16 < n
  · rw [decide_eq_true hd, cond_true]
    have HF := fun w (h : RD w b q) => fail_any b q 6 w h
    dsimp only
    generalize q.fail 6 = u at *
    by_cases h0 : n = 0
    · subst h0
      go_enter Tryz.func55, Tryz.ntmps55
      go_wp2_with (first
        | (go_at_call 79; refine (H1 _ h).mono ?_; rintro e w1 ⟨rfl, hT1⟩; clear H1)
        | (go_at_call 78; refine (HF _ hT1.rd).mono ?_; rintro e w2 ⟨rfl, hT2⟩; clear HF))
      go_ret
      exact ⟨_, rfl, VL.nil _ _ _, hT1.trans hT2⟩
    · have hd0 : ((n : Int) == 0) = false := by rw [beq_eq_false_iff_ne]; omega
      have hd1 : decide (16 < (n : Int)) = true := decide_eq_true (by omega)
      have h0 : Hid (¬ n = 0) := h0
      have hd : Hid (n = 0 ∨ 16 < n) := hd
      go_enter Tryz.func55, Tryz.ntmps55
      go_wp2_with (first
        | (go_at_call 79; refine (H1 _ h).mono ?_; rintro e w1 ⟨rfl, hT1⟩; clear H1)
        | (go_at_call 78; refine (HF _ hT1.rd).mono ?_; rintro e w2 ⟨rfl, hT2⟩; clear HF))
      go_ret
      exact ⟨_, rfl, VL.nil _ _ _, hT1.trans hT2⟩
  · rw [decide_eq_false hd, cond_false]
    dsimp only
    have hd0 : ((n : Int) == 0) = false := by rw [beq_eq_false_iff_ne]; omega
    have hd1 : decide (16 < (n : Int)) = false := decide_eq_false (by omega)
    have h16 : n ≤ 16 := by omega
    replace hd : Hid (¬ (n = 0 ∨ 16 < n)) := hd
    clear hn2
    obtain ⟨LL, hLL⟩ : ∃ LL, Hid (LL = if (tkS q n).1.err = 0 then (tkS q n).2 else []) := ⟨_, rfl⟩
    rw [← hLL.out]
    go_enter Tryz.func55, Tryz.ntmps55
    go_wp2_with (go_at_call 79; refine (H1 _ h).mono ?_; rintro e w1 ⟨rfl, hT1⟩; clear H1)
    clear hd0 hd1
    go_loopw [4, 16] (fun v4 v16 wl => ∃ i : Nat, i ≤ n ∧ v16 = .int .u64 i ∧ VL wl 3 w.heap.size v4 ((tkS q i).2.map fun x => .int .i64 x) ∧ To w wl b (tkS q i).1) (fun _ v16 _ => n - (intOf v16).toNat)
    case atStart => exact ⟨0, by omega, rfl, by exact VL.nil _ _ _, hT1⟩
    case round =>
      obtain ⟨i, hil, rfl, hV, hT⟩ := hrel
      clear hT1 h
      by_cases hlt : i < n
      · have hok := tkS_ok hqk i
        have hss := (tkS_s q i).trans hqs
        have hlen := tkS_len q i
        have HN := fun w (h : RD w b (tkS q i).1) => number_r b _ 1 w h hok (by rw [hss]; exact hs)
        have hm256 := number1_lt (tkS q i).1
        have HS : Hid (tkS q (i + 1) = (bif okM ((tkS q i).2 ++ [(((tkS q i).1.number 1).2 : Int)]) then ((tkS q i).1.number 1).1 else ((tkS q i).1.number 1).1.fail 6, (tkS q i).2 ++ [(((tkS q i).1.number 1).2 : Int)])) := rfl
        generalize tkS q i = x at *
        obtain ⟨r1, L⟩ := x
        dsimp only at *
        generalize r1.number 1 = y at *
        obtain ⟨r2, k⟩ := y
        dsimp only at *
        obtain ⟨L1, hE1⟩ : ∃ L1, Hid (L1 = L ++ [(k : Int)]) := ⟨_, rfl⟩
        rw [← hE1.out] at HS
        have hL : Hid (L1.map (fun x => Value.int .i64 x) = L.map (fun x => Value.int .i64 x) ++ [.int .i64 (k : Int)]) := by show L1.map _ = _; rw [hE1.out, List.map_append]; rfl
        have hll : (L.map (fun x => Value.int .i64 x)).length ≤ 16 := by rw [List.length_map]; omega
        have HM := fun B (hB : Hid (okM L1 = B)) a cap w (hA : IA w a L1) => members_any L1 a cap w hA B hB
        have HF := fun w (h : RD w b r2) => fail_any b r2 6 w h
        have hwr : IntKind.i64.wrap (k : Int) = (k : Int) := by rw [IntKind.wrap_i64]; omega
        have hz2 : (i : Int) < (n : Int) := by omega
        have hgl : Hid (w.heap.size ≤ wr.heap.size) := hT.grown.size
        generalize hLi : L.map (fun x => Value.int .i64 x) = Li at *
        clear hLi hm256 hlen hok hss
        cases hB : okM L1
        · have hB' : Hid (okM L1 = false) := hB
          replace HM := HM false hB'
          rw [hB, cond_false] at HS
          clear hB
          go_wp2_with (first
            | (go_at_call 79; refine (HN _ hT.rd).mono ?_; rintro e w2 ⟨rfl, hT2⟩; clear HN; have hV2 := hV.grown7 hT2.grown hbl; have hT3 := hT.trans hT2)
            | (go_at_call 82; refine (HM _ _ _ hIA).mono ?_; rintro e w5 ⟨rfl, hw5⟩; have hw5 := hw5.symm; subst hw5; clear HM hIA)
            | (go_at_call 78; refine (HF _ hT5.rd).mono ?_; rintro e w6 ⟨rfl, hT6⟩; clear HF; have hV6 := hV4.grown7 hT6.grown hbl; have hT7 := hT5.trans hT6)
            | (with_reducible refine at_list ?_; first
              | (refine wpList_bsl1I (op := ⟨some 22, _, _, _, _, _⟩) rfl _ rfl (k : Int) rfl ?_; intro w3 hw3 hs3 hb3; replace hs3 := hs3.symm; have hV3 := hV2.below hw3; have hT4 : To w w3 b _ := ⟨grown_trans hT3.grown (grown_of_below hw3), hT3.rd.below hw3⟩)
              | (refine wpList_appendVL (op := ⟨some 23, _, _, _, _, _⟩) rfl _ _ _ _ rfl w.heap.size u4 Li hT4.grown.size rfl hV3 w2.heap.size 1 rfl (.int .i64 (k : Int)) 3 rfl hb3 ii (.int .i64 0) rfl Tryz.underlying23 hi hz hsz hby (Nat.le_trans hll (by decide)) ?_; intro w4 sl4 hw4 hV4; have hT5 := hT4.low hw4 (hT4.rd.lowB hw4 hbl); rw [← hL.out] at hV4; obtain ⟨a4, cap4, rfl, hIA⟩ := hV4.ia)))
          go_roundw
          case rel => exact ⟨i + 1, by omega, by go_num, by rw [HS.out]; exact hV6, by rw [HS.out]; exact hT7⟩
          case measure => simp [intOf]; omega
        · have hB' : Hid (okM L1 = true) := hB
          replace HM := HM true hB'
          rw [hB, cond_true] at HS
          clear hB HF
          go_wp2_with (first
            | (go_at_call 79; refine (HN _ hT.rd).mono ?_; rintro e w2 ⟨rfl, hT2⟩; clear HN; have hV2 := hV.grown7 hT2.grown hbl; have hT3 := hT.trans hT2)
            | (go_at_call 82; refine (HM _ _ _ hIA).mono ?_; rintro e w5 ⟨rfl, hw5⟩; have hw5 := hw5.symm; subst hw5; clear HM hIA)
            | (with_reducible refine at_list ?_; first
              | (refine wpList_bsl1I (op := ⟨some 22, _, _, _, _, _⟩) rfl _ rfl (k : Int) rfl ?_; intro w3 hw3 hs3 hb3; replace hs3 := hs3.symm; have hV3 := hV2.below hw3; have hT4 : To w w3 b _ := ⟨grown_trans hT3.grown (grown_of_below hw3), hT3.rd.below hw3⟩)
              | (refine wpList_appendVL (op := ⟨some 23, _, _, _, _, _⟩) rfl _ _ _ _ rfl w.heap.size u4 Li hT4.grown.size rfl hV3 w2.heap.size 1 rfl (.int .i64 (k : Int)) 3 rfl hb3 ii (.int .i64 0) rfl Tryz.underlying23 hi hz hsz hby (Nat.le_trans hll (by decide)) ?_; intro w4 sl4 hw4 hV4; have hT5 := hT4.low hw4 (hT4.rd.lowB hw4 hbl); rw [← hL.out] at hV4; obtain ⟨a4, cap4, rfl, hIA⟩ := hV4.ia)))
          go_roundw
          case rel => exact ⟨i + 1, by omega, by go_num, by rw [HS.out]; exact hV4, by rw [HS.out]; exact hT5⟩
          case measure => simp [intOf]; omega
      · have hz2 : ¬ (i : Int) < (n : Int) := by omega
        have hie : i = n := by omega
        subst hie
        have HE := fun w (h : RD w b (tkS q i).1) => err_any b (tkS q i).1 w h
        generalize tkS q i = x at *
        obtain ⟨r1, L⟩ := x
        dsimp only at *
        by_cases he : r1.err = 0
        · replace hLL := hLL.out.trans (if_pos he)
          subst hLL
          rw [he] at HE
          go_wp2_with (go_at_call 15; refine (HE _ hT.rd).mono ?_; rintro e w2 ⟨rfl, hw2⟩; have hw2 := hw2.symm; subst hw2)
          go_ret
          exact ⟨u4, rfl, hV, hT⟩
        · replace hLL := hLL.out.trans (if_neg he)
          subst hLL
          have he2 : (r1.err != 0) = true := by simpa using he
          have he3 : (r1.err == 0) = false := by simpa using he
          replace he : Hid (¬ r1.err = 0) := he
          generalize hy : r1.err = y at *
          go_wp2_with (go_at_call 15; refine (HE _ hT.rd).mono ?_; rintro e w2 ⟨rfl, hw2⟩; have hw2 := hw2.symm; subst hw2)
          go_ret
          exact ⟨_, rfl, VL.nil _ _ _, hT⟩
end Go.Proofs.YtnhlejdilldfaaaGreat
