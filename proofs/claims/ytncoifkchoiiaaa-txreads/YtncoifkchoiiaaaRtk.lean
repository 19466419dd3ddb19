/- What the plain Take does. -/
import Derived.Test.YtncoifkchoiiaaaTk
import Derived.Test.YtncoifkchoiiaaaRg
import Derived.Test.YtncoifkchoiiaaaRck
import Derived.Test.YtncoifkchoiiaaaRef
namespace Go.Proofs.Ytncoifkchoiiaaa
open Go Go.RowKit
/-- The cells of a plain reader. -/
def rcR (r : R) : Array Value := rc r.s r.pos r.err
theorem rcR_size (r : R) : (rcR r).size = 3 := rfl
theorem rcR_one (r : R) : (rcR r).all (·.oneCell') = true := rc_one _ _ _
theorem rcR_g2 (r : R) : (rcR r)[2]? = some (.int .i64 r.err) := rfl
theorem rcR_set2 (r : R) (x : Int) : (rcR r).setIfInBounds 2 (.int .i64 x) = rcR ⟨r.s, r.pos, x⟩ := rfl
theorem zRd : (∀ w, (zeroValue 30).run Try.prog w = .ok (.agg (rcR ⟨[], 0, 0⟩)) w) ∧ (Try.prog.info? 30).map (·.size) = some 3 := z39
theorem res_cc {fn : Func} {p u : Tmp} {t t2 : TypeId} (h : fn.results = #[.cell p t, .cell u t2]) (tmps : Array Value) (w : World) (b b2 : Nat) (c c2 : Array Value) (ty ty2 : TypeId) (d d2 : TypeDesc)
    (hp : tmps.getD p undef = .pointer (some ⟨b, 0, none⟩)) (hv : tmps.getD u undef = .pointer (some ⟨b2, 0, none⟩)) (hb : Blk w b c ty) (hb2 : Blk w b2 c2 ty2) (hu : Try.prog.underlying t = some d) (hd : d.isRow = true) (hi : (Try.prog.info? t).map (·.size) = some c.size)
    (hu2 : Try.prog.underlying t2 = some d2) (hd2 : d2.isRow = true) (hi2 : (Try.prog.info? t2).map (·.size) = some c2.size) :
    (results fn tmps).run Try.prog w = .ok (.tuple #[.agg c, .agg c2]) w := by
  rw [Array.getD_eq_getD_getElem?] at hp hv
  unfold results
  rw [h]
  simp [hp, hv, asAddr, hb.loadVar d hu hd hi, hb2.loadVar d2 hu2 hd2 hi2, Sem.run_bind]
theorem number1_lt (r : R) : (r.number 1).2 < 256 := by
  have h2 : ((r.early 1).bytes 1).2.length ≤ 1 := by
    unfold R.bytes
    split
    · simp
    · split
      · simp
      · split
        · simp
        · simp only [List.length_take]; omega
  have h3 := val_lt _ ((r.early 1).bytes 1).2 rfl
  have h4 : 256 ^ ((r.early 1).bytes 1).2.length ≤ 256 ^ 1 := Nat.pow_le_pow_right (by decide) h2
  unfold R.number
  simp only
  omega
/-- What the plain Take leaves. -/
def RtakeP (w : World) (rE : R) (rT : TX) (e : Ending) (w' : World) : Prop := ∃ (c n : Nat) (sl : Value) (l : List O), e = .returned (.tuple #[.agg (rcR rE), .agg (txc c n sl)]) ∧ Below w.heap.size w w' ∧ OL w' 52 w.heap.size sl l ∧ (rE.err = 0 → c = rT.client ∧ n = rT.nonce ∧ l = rT.ops)
set_option maxRecDepth 100000 in
set_option maxHeartbeats 2000000 in
theorem rtake_any (r : R) (w : World) (hk : r.ok) (hl : r.s.length ≤ 140737488355328) : Calls Try.prog 5 #[.agg (rcR r)] w (RtakeP w (rdE r) (rdT r)) := by
  obtain ⟨iop, hi, hz, hs, hby⟩ := infoRop
  have H1 := fun w => rnumber_any r 8 w hk hl
  have H2 := fun w => rnumber_any (r.number 8).1 8 w (R.ok_number hk 8) (by rw [R.number_s]; exact hl)
  have H3 := fun w => rcount_any ((r.number 8).1.number 8).1 8 w (R.ok_number (R.ok_number hk 8) 8) (by rw [R.number_s, R.number_s]; exact hl) (by decide)
  have hn8 := rdC_le r
  have hqk := rdC_ok hk
  have hqs := rdC_s r
  have HT : Hid (rdT r = ⟨(r.number 8).2, ((r.number 8).1.number 8).2, opsTo (rdC r).1 (rdC r).2⟩) := by exact rfl
  have HR : Hid (rdE r = (stR (rdC r).1 (rdC r).2).fail (chk (rdT r))) := by exact rfl
  change ∀ w, Calls Try.prog 13 #[.agg (rcR r), .int .i64 8] w fun e w' => e = .returned (.tuple #[.agg (rcR (r.number 8).1), .int .u64 ((r.number 8).2 : Nat)]) ∧ Below w.heap.size w w' at H1
  change ∀ w, Calls Try.prog 13 #[.agg (rcR (r.number 8).1), .int .i64 8] w fun e w' => e = .returned (.tuple #[.agg (rcR ((r.number 8).1.number 8).1), .int .u64 (((r.number 8).1.number 8).2 : Nat)]) ∧ Below w.heap.size w w' at H2
  change ∀ w, Calls Try.prog 14 #[.agg (rcR ((r.number 8).1.number 8).1), .int .i64 8] w fun e w' => e = .returned (.tuple #[.agg (rcR (rdC r).1), .int .i64 ((rdC r).2 : Nat)]) ∧ Below w.heap.size w w' at H3
  generalize rdE r = rE at *
  generalize rdT r = rT at *
  generalize rdC r = q0 at *
  generalize (r.number 8).1.number 8 = q2 at *
  generalize r.number 8 = q1 at *
  obtain ⟨r1, cl⟩ := q1
  obtain ⟨r2, nn⟩ := q2
  obtain ⟨q, n⟩ := q0
  dsimp only at *
  go_enter Try.func5, Try.ntmps5
  go_wp2_with (first
    | (go_at_call 13; refine (H1 _).mono ?_; rintro e w6 ⟨rfl, hw6⟩; clear H1; replace h1 := h1.belowSize hw6; replace h2 := h2.belowSize hw6; replace h3 := h3.belowSize hw6; replace h4 := h4.belowSize hw6; replace HB := HB.trans (hw6.mono HB.size); clear hw6)
    | (go_at_call 13; refine (H2 _).mono ?_; rintro e w9 ⟨rfl, hw9⟩; clear H2; replace h1 := h1.belowSize hw9; replace h2 := h2.belowSize hw9; replace h3 := h3.belowSize hw9; replace h4 := h4.belowSize hw9; replace HB := HB.trans (hw9.mono HB.size); clear hw9)
    | (go_at_call 14; refine (H3 _).mono ?_; rintro e w12 ⟨rfl, hw12⟩; clear H3; replace h1 := h1.belowSize hw12; replace h2 := h2.belowSize hw12; replace h3 := h3.belowSize hw12; replace h4 := h4.belowSize hw12; replace HB := HB.trans (hw12.mono HB.size); clear hw12)
    | (with_reducible refine at_list ?_; first
      | (refine wpList_boxRow (op := ⟨some 1, _, _, _, _, _⟩) rfl _ _ rfl _ rfl ?_; intro w1 hw1 hs1 h1; replace hs1 := hs1.symm; have HB := hw1; clear hw1)
      | (refine wpList_allocRow (op := ⟨some 2, _, _, _, _, _⟩) rfl _ rfl _ zRd.1 ?_; intro w2 hw2 hs2 h2; replace hs2 := hs2.symm; replace h1 := h1.belowSize hw2; replace HB := HB.trans (hw2.mono HB.size); clear hw2)
      | (refine wpList_allocRow (op := ⟨some 3, _, _, _, _, _⟩) rfl _ rfl _ zRtx.1 ?_; intro w3 hw3 hs3 h3; replace hs3 := hs3.symm; replace h1 := h1.belowSize hw3; replace h2 := h2.belowSize hw3; replace HB := HB.trans (hw3.mono HB.size); clear hw3)
      | (refine wpList_allocRow (op := ⟨some 4, _, _, _, _, _⟩) rfl _ rfl _ zRtx.1 ?_; intro w4 hw4 hs4 h4; replace hs4 := hs4.symm; replace h1 := h1.belowSize hw4; replace h2 := h2.belowSize hw4; replace h3 := h3.belowSize hw4; replace HB := HB.trans (hw4.mono HB.size); clear hw4)
      | (refine wpList_storeRow (op := ⟨none, .store 33 (.tmp 4) (.tmp 11), _, _, _, _⟩) rfl _ _ _ rfl w3.heap.size #[.int .u64 0, .int .u64 0, .slice none 0 0] rfl rfl _ _ h4 (by simp [txc]) (by simpa using zRtx.2) (by simp [Value.oneCell']) ?_; intro w5 hg5 hs5 hb5; clear hs5; rw [← txc_nil] at hb5; replace h1 := h1.grown hg5 (by simp; omega); replace h2 := h2.grown hg5 (by simp; omega); replace h3 := h3.grown hg5 (by simp; omega); replace HB := HB.trans (below_of_grown hg5 (by omega) HB.size); replace h4 := hb5; clear hg5 hb5)
      | (refine wpList_loadRow (op := ⟨some 13, _, _, _, _, _⟩) rfl _ _ rfl w.heap.size rfl _ _ h1 _ Try.underlying30 rfl (by rw [rcR_size]; exact z39.2) ?_)
      | (refine wpList_loadRow (op := ⟨some 19, _, _, _, _, _⟩) rfl _ _ rfl w.heap.size rfl _ _ h1 _ Try.underlying30 rfl (by rw [rcR_size]; exact z39.2) ?_)
      | (refine wpList_loadRow (op := ⟨some 25, _, _, _, _, _⟩) rfl _ _ rfl w.heap.size rfl _ _ h1 _ Try.underlying30 rfl (by rw [rcR_size]; exact z39.2) ?_)
      | (refine wpList_storeRow (op := ⟨none, .store 30 (.tmp 1) (.tmp 15), _, _, _, _⟩) rfl _ _ _ rfl w.heap.size (rcR r1) rfl rfl _ _ h1 (by simp only [rcR_size]) (by rw [rcR_size]; exact z39.2) (rcR_one _) ?_; intro w7 hg7 hs hb; clear hs; replace h2 := h2.grown hg7 (by simp; omega); replace h3 := h3.grown hg7 (by simp; omega); replace h4 := h4.grown hg7 (by simp; omega); replace HB := HB.trans (below_of_grown hg7 (by omega) HB.size); replace h1 := hb; clear hg7 hb)
      | (refine wpList_storeRow (op := ⟨none, .store 30 (.tmp 1) (.tmp 21), _, _, _, _⟩) rfl _ _ _ rfl w.heap.size (rcR r2) rfl rfl _ _ h1 (by simp only [rcR_size]) (by rw [rcR_size]; exact z39.2) (rcR_one _) ?_; intro w10 hg10 hs hb; clear hs; replace h2 := h2.grown hg10 (by simp; omega); replace h3 := h3.grown hg10 (by simp; omega); replace h4 := h4.grown hg10 (by simp; omega); replace HB := HB.trans (below_of_grown hg10 (by omega) HB.size); replace h1 := hb; clear hg10 hb)
      | (refine wpList_storeRow (op := ⟨none, .store 30 (.tmp 1) (.tmp 27), _, _, _, _⟩) rfl _ _ _ rfl w.heap.size (rcR q) rfl rfl _ _ h1 (by simp only [rcR_size]) (by rw [rcR_size]; exact z39.2) (rcR_one _) ?_; intro w13 hg13 hs hb; clear hs; replace h2 := h2.grown hg13 (by simp; omega); replace h3 := h3.grown hg13 (by simp; omega); replace h4 := h4.grown hg13 (by simp; omega); replace HB := HB.trans (below_of_grown hg13 (by omega) HB.size); replace h1 := hb; clear hg13 hb)
      | (refine wpList_storeCell (op := ⟨none, .store 22 (.tmp 17) (.tmp 16), _, _, _, _⟩) rfl _ _ _ rfl w3.heap.size 0 rfl (.int .u64 (cl : Nat)) rfl _ _ h4 i22 rfl rfl (by simp [txc]) ?_; intro w8 hg8 hs8 hb8; rw [txc_set0] at hb8; clear hs8; replace h1 := h1.grown hg8 (by simp; omega); replace h2 := h2.grown hg8 (by simp; omega); replace h3 := h3.grown hg8 (by simp; omega); replace HB := HB.trans (below_of_grown hg8 (by omega) HB.size); replace h4 := hb8; clear hg8 hb8)
      | (refine wpList_storeCell (op := ⟨none, .store 22 (.tmp 23) (.tmp 22), _, _, _, _⟩) rfl _ _ _ rfl w3.heap.size 1 rfl (.int .u64 (nn : Nat)) rfl _ _ h4 i22 rfl rfl (by simp [txc]) ?_; intro w11 hg11 hs11 hb11; rw [txc_set1] at hb11; clear hs11; replace h1 := h1.grown hg11 (by simp; omega); replace h2 := h2.grown hg11 (by simp; omega); replace h3 := h3.grown hg11 (by simp; omega); replace HB := HB.trans (below_of_grown hg11 (by omega) HB.size); replace h4 := hb11; clear hg11 hb11)))
  obtain ⟨B2, hB20⟩ : ∃ B, B = w1.heap.size := ⟨_, rfl⟩
  obtain ⟨B3, hB30⟩ : ∃ B, B = w2.heap.size := ⟨_, rfl⟩
  obtain ⟨B4, hB40⟩ : ∃ B, B = w3.heap.size := ⟨_, rfl⟩
  have hB2 : w.heap.size < B2 := by omega
  have hB3 : B2 < B3 := by omega
  have hB4 : B3 < B4 := by omega
  rw [← hB20] at h2 ⊢
  rw [← hB30] at h3 ⊢
  rw [← hB40] at h4 ⊢
  clear hs1 hs2 hs3 hs4 hB20 hB30 hB40
  go_loopw [6] (fun v6 wl => ∃ (i : Nat) (sl : Value), i ≤ n ∧ v6 = .int .i64 i ∧ Below w.heap.size w wl ∧ OL wl 52 w.heap.size sl (opsTo q i) ∧ Blk wl w.heap.size (rcR (stR q i)) 30 ∧ Blk wl B2 (rcR ⟨[], 0, 0⟩) 30 ∧ Blk wl B3 (txc 0 0 (.slice none 0 0)) 33 ∧ Blk wl B4 (txc cl nn sl) 33) (fun v6 _ => n - (intOf v6).toNat)
  case atStart => exact ⟨0, _, by omega, rfl, HB, .inl ⟨rfl, rfl⟩, h1, h2, h3, h4⟩
  case round =>
    clear HB h1 h2 h3 h4
    obtain ⟨i, sl, hin, rfl, HB, hO, h1, h2, h3, h4⟩ := hrel
    have e2 := (h1.cell 2).trans (rcR_g2 _)
    by_cases hlt : i < n
    · by_cases he : (stR q i).err = 0
      · have hik := stR_ok hqk i
        have his : (stR q i).s.length ≤ 140737488355328 := by rw [stR_s, hqs]; exact hl
        have G1 := fun w => rnumber_any (stR q i) 1 w hik his
        have hm256 : ((stR q i).number 1).2 < 256 := number1_lt _
        have G2 := fun w => rtext_any ((stR q i).number 1).1 32 w (R.ok_number hik 1) (by rw [R.number_s]; exact his) (by decide)
        have G3 := fun w => rtext_any (((stR q i).number 1).1.text 32).1 64 w (R.ok_text (R.ok_number hik 1) 32) (by rw [R.text_s, R.number_s]; exact his) (by decide)
        have opsL := opsTo_length q i
        have HS1 : Hid (stR q (i + 1) = ((((stR q i).number 1).1.text 32).1.text 64).1) := by exact rfl
        have HS2 : Hid (opsTo q (i + 1) = opsTo q i ++ [⟨(((stR q i).number 1).2 : Nat), (((stR q i).number 1).1.text 32).2, ((((stR q i).number 1).1.text 32).1.text 64).2⟩]) := opsTo_succ q i
        change ∀ w, Calls Try.prog 13 #[.agg (rcR (stR q i)), .int .i64 1] w fun e w' => e = .returned (.tuple #[.agg (rcR ((stR q i).number 1).1), .int .u64 (((stR q i).number 1).2 : Nat)]) ∧ Below w.heap.size w w' at G1
        change ∀ w, Calls Try.prog 15 #[.agg (rcR ((stR q i).number 1).1), .int .i64 32] w fun e w' => e = .returned (.tuple #[.agg (rcR (((stR q i).number 1).1.text 32).1), .string ⟨(((stR q i).number 1).1.text 32).2.toArray⟩]) ∧ Below w.heap.size w w' at G2
        change ∀ w, Calls Try.prog 15 #[.agg (rcR (((stR q i).number 1).1.text 32).1), .int .i64 64] w fun e w' => e = .returned (.tuple #[.agg (rcR ((((stR q i).number 1).1.text 32).1.text 64).1), .string ⟨((((stR q i).number 1).1.text 32).1.text 64).2.toArray⟩]) ∧ Below w.heap.size w w' at G3
        rw [he] at e2
        generalize opsTo q i = L at *
        generalize (((stR q i).number 1).1.text 32).1.text 64 = p3 at *
        generalize ((stR q i).number 1).1.text 32 = p2 at *
        generalize (stR q i).number 1 = p1 at *
        generalize stR q i = qi at *
        obtain ⟨a1, m⟩ := p1
        obtain ⟨a2, key⟩ := p2
        obtain ⟨a3, vv⟩ := p3
        dsimp only at *
        have hm := show IntKind.i64.wrap (m : Int) = (m : Int) by rw [IntKind.wrap_i64]; omega
        clear hik his he
        go_wp2_with (first
          | (go_at_call 13; refine (G1 _).mono ?_; rintro e w1 ⟨rfl, hw1⟩; clear G1 e2; replace h1 := h1.belowSize hw1; replace h2 := h2.belowSize hw1; replace h3 := h3.belowSize hw1; replace h4 := h4.belowSize hw1; replace hO := hO.below hw1; replace HB := HB.trans (hw1.mono HB.size); clear hw1)
          | (go_at_call 15; refine (G2 _).mono ?_; rintro e w4 ⟨rfl, hw4⟩; clear G2; replace h1 := h1.belowSize hw4; replace h2 := h2.belowSize hw4; replace h3 := h3.belowSize hw4; replace h4 := h4.belowSize hw4; replace h7 := h7.belowSize hw4; replace hO := hO.below hw4; replace HB := HB.trans (hw4.mono HB.size); clear hw4)
          | (go_at_call 15; refine (G3 _).mono ?_; rintro e w6 ⟨rfl, hw6⟩; clear G3; replace h1 := h1.belowSize hw6; replace h2 := h2.belowSize hw6; replace h3 := h3.belowSize hw6; replace h4 := h4.belowSize hw6; replace h7 := h7.belowSize hw6; replace hO := hO.below hw6; replace HB := HB.trans (hw6.mono HB.size); clear hw6)
          | (with_reducible refine at_list ?_; first
            | (refine wpList_allocRow (op := ⟨some 7, _, _, _, _, _⟩) rfl _ rfl _ zRd.1 ?_; intro w2 hw2 hs2 h7; replace hs2 := hs2.symm; have hl2 := h1.lt; have hl22 := h2.lt; have hl23 := h3.lt; have hl24 := h4.lt; replace h1 := h1.belowSize hw2; replace h2 := h2.belowSize hw2; replace h3 := h3.belowSize hw2; replace h4 := h4.belowSize hw2; replace hO := hO.below hw2; replace HB := HB.trans (hw2.mono HB.size); clear hw2 hs2)
            | (refine wpList_loadRow (op := ⟨some 40, _, _, _, _, _⟩) rfl _ _ rfl w.heap.size rfl _ _ h1 _ Try.underlying30 rfl (by rw [rcR_size]; exact z39.2) ?_)
            | (refine wpList_loadRow (op := ⟨some 45, _, _, _, _, _⟩) rfl _ _ rfl w1.heap.size rfl _ _ h7 _ Try.underlying30 rfl (by rw [rcR_size]; exact z39.2) ?_)
            | (refine wpList_loadRow (op := ⟨some 50, _, _, _, _, _⟩) rfl _ _ rfl w1.heap.size rfl _ _ h7 _ Try.underlying30 rfl (by rw [rcR_size]; exact z39.2) ?_)
            | (refine wpList_loadRow (op := ⟨some 54, _, _, _, _, _⟩) rfl _ _ rfl w1.heap.size rfl _ _ h7 _ Try.underlying30 rfl (by rw [rcR_size]; exact z39.2) ?_)
            | (refine wpList_storeRow (op := ⟨none, .store 30 (.tmp 7) (.tmp 42), _, _, _, _⟩) rfl _ _ _ rfl w1.heap.size (rcR a1) rfl rfl _ _ h7 (by simp only [rcR_size]) (by rw [rcR_size]; exact z39.2) (rcR_one _) ?_; intro w3 hg3 hs hb; clear hs; replace h1 := h1.grown hg3 (by simp; omega); replace h2 := h2.grown hg3 (by simp; omega); replace h3 := h3.grown hg3 (by simp; omega); replace h4 := h4.grown hg3 (by simp; omega); replace hO := hO.grown hg3 h7 (by decide); replace HB := HB.trans (below_of_grown hg3 (by omega) HB.size); replace h7 := hb; clear hg3 hb)
            | (refine wpList_storeRow (op := ⟨none, .store 30 (.tmp 7) (.tmp 47), _, _, _, _⟩) rfl _ _ _ rfl w1.heap.size (rcR a2) rfl rfl _ _ h7 (by simp only [rcR_size]) (by rw [rcR_size]; exact z39.2) (rcR_one _) ?_; intro w5 hg5 hs hb; clear hs; replace h1 := h1.grown hg5 (by simp; omega); replace h2 := h2.grown hg5 (by simp; omega); replace h3 := h3.grown hg5 (by simp; omega); replace h4 := h4.grown hg5 (by simp; omega); replace hO := hO.grown hg5 h7 (by decide); replace HB := HB.trans (below_of_grown hg5 (by omega) HB.size); replace h7 := hb; clear hg5 hb)
            | (refine wpList_storeRow (op := ⟨none, .store 30 (.tmp 7) (.tmp 52), _, _, _, _⟩) rfl _ _ _ rfl w1.heap.size (rcR a3) rfl rfl _ _ h7 (by simp only [rcR_size]) (by rw [rcR_size]; exact z39.2) (rcR_one _) ?_; intro w7 hg7 hs hb; clear hs; replace h1 := h1.grown hg7 (by simp; omega); replace h2 := h2.grown hg7 (by simp; omega); replace h3 := h3.grown hg7 (by simp; omega); replace h4 := h4.grown hg7 (by simp; omega); replace hO := hO.grown hg7 h7 (by decide); replace HB := HB.trans (below_of_grown hg7 (by omega) HB.size); replace h7 := hb; clear hg7 hb)
            | (refine wpList_storeRow (op := ⟨none, .store 30 (.tmp 1) (.tmp 54), _, _, _, _⟩) rfl _ _ _ rfl w.heap.size (rcR a3) rfl rfl _ _ h1 (by simp only [rcR_size]) (by rw [rcR_size]; exact z39.2) (rcR_one _) ?_; intro w8 hg8 hs hb; clear hs; replace h2 := h2.grown hg8 (by simp; omega); replace h3 := h3.grown hg8 (by simp; omega); replace h4 := h4.grown hg8 (by simp; omega); replace h7 := h7.grown hg8 (by simp; omega); replace hO := hO.grown hg8 h1 (by decide); replace HB := HB.trans (below_of_grown hg8 (by omega) HB.size); replace h1 := hb; clear hg8 hb)
            | (refine wpList_loadCell (op := ⟨some 56, _, _, _, _, _⟩) rfl _ _ rfl B4 2 rfl _ _ h4 _ Try.underlying31 rfl sl (txc_g2 _ _ _) ?_)
            | (refine wpList_build (o := ⟨some 61, _, _, _, _, _⟩) rfl _ _ rfl (builtRop (m : Nat) key vv) ?_)
            | (refine wpList_bslRop (op := ⟨some 62, _, _, _, _, _⟩) rfl _ rfl ⟨(m : Nat), key, vv⟩ rfl ?_; intro wb hwb hsb hbb; clear hsb; replace h1 := h1.belowSize hwb; replace h2 := h2.belowSize hwb; replace h3 := h3.belowSize hwb; replace h4 := h4.belowSize hwb; replace hO := hO.below hwb; replace HB := HB.trans (hwb.mono HB.size); clear hwb)
            | (refine wpList_appendOL (op := ⟨some 63, _, _, _, _, _⟩) rfl _ _ _ _ rfl w.heap.size sl _ HB.size rfl hO _ 1 rfl ⟨(m : Nat), key, vv⟩ _ hbb _ _ Try.underlying31 hi hz hs hby (by rw [opsL]; omega) ?_; intro wa sl1 hwa hkp hO1; replace h1 := hkp.out _ _ _ h1 (by decide); replace h2 := hkp.out _ _ _ h2 (by decide); replace h3 := hkp.out _ _ _ h3 (by decide); replace h4 := hkp.out _ _ _ h4 (by decide); replace HB := HB.trans hwa; clear hwa hkp hO hbb h7)
            | (refine wpList_storeCell (op := ⟨none, .store 31 (.tmp 64) (.tmp 63), _, _, _, _⟩) rfl _ _ _ rfl B4 2 rfl sl1 rfl _ _ h4 iSlR hO1.cells.1 hO1.cells.2 (by simp [txc]) ?_; intro ws hgs hss hbs; rw [txc_set2] at hbs; clear hss; replace h1 := h1.grown hgs (by simp; omega); replace h2 := h2.grown hgs (by simp; omega); replace h3 := h3.grown hgs (by simp; omega); have hO2 := hO1.grown hgs h4 (by decide); replace HB := HB.trans (below_of_grown hgs (by omega) HB.size))))
        refine ⟨⟨i + 1, sl1, by omega, by go_num, HB, by rw [HS2.out]; exact hO2, by rw [HS1.out]; exact h1, h2, h3, hbs⟩, by simp [intOf]; omega⟩
      · have hRE : Hid (rE = stR q i) := by
          have h9 := stR_keep q i he (n - i)
          rw [show i + (n - i) = n from by omega] at h9
          rw [HR.out, h9, R.fail, if_neg he]
          exact rfl
        obtain ⟨a1, cap1, rfl, hSL⟩ := hO.sl
        have hb0 : ((stR q i).err == 0) = false := by simpa using he
        go_wp2_with fail
        replace HB := HB.drew
        replace h2 := h2.drew
        replace h3 := h3.drew
        replace hO := hO.drew
        refine wp_region_held_drew (S := fun w' => Blk w' w.heap.size (rcR (stR q i)) 30 ∧ Blk w' B4 (txc cl nn (.slice a1 (opsTo q i).length cap1)) 33) (by kernel_rfl) ⟨h1.drew, h4.drew⟩ (fun hHeld => ?_)
        clear h1 h4
        refine wpAnyH_take (i := 0) (oi := ⟨some 71, _, _, _, _, _⟩) (v := .agg (rcR (stR q i))) rfl (by kernel_rfl) (by kernel_rfl) (by kernel_rfl) (fun _ _ _ h => h) (Or.inl ⟨by rfl, fun w hSw => run_loadRow _ _ rfl _ rfl _ _ hSw.1 _ Try.underlying30 rfl (by rw [rcR_size]; exact z39.2)⟩) hHeld ?_
        refine wpAnyH_take (i := 1) (oi := ⟨some 72, _, _, _, _, _⟩) (v := .agg (txc cl nn (.slice a1 (opsTo q i).length cap1))) rfl (by kernel_rfl) (by kernel_rfl) (by kernel_rfl) (fun _ _ _ h => h) (Or.inl ⟨by rfl, fun w hSw => run_loadRow _ _ rfl _ rfl _ _ hSw.2 _ Try.underlying33 rfl (by rw [txc_size]; exact zRtx.2)⟩) hHeld ?_
        simp only [Act.put, List.setIfInBounds_toArray, List.set_cons_zero, List.set_cons_succ]
        refine wpAnyH_ready (rs := [2]) (by kernel_rfl) (by simp) ?_
        refine AllReadyH.cons (o := ⟨none, .store 30 (.tmp 2) (.tmp 71), _, _, _, _⟩) rfl (fun K hK => ?_) AllReadyH.nil
        rw [if_pos (by rfl)]
        refine wp_storeRow _ _ _ rfl B2 (rcR (stR q i)) rfl rfl _ _ h2 (by simp only [rcR_size]) (by rw [rcR_size]; exact z39.2) (rcR_one _) ?_
        intro wx hgx hsx hbx
        clear hsx
        replace h3 := h3.grown hgx (by simp; omega)
        replace hO := hO.grown hgx h2 (by decide)
        replace HB := HB.trans (below_of_grown hgx (by omega) HB.size)
        have hHx := And.intro (hHeld.1.grown hgx (by simp; omega)) (hHeld.2.grown hgx (by simp; omega))
        refine hK.out _ _ hHx (fun _ => ?_)
        clear hK K hHeld hgx
        have hHeld := hHx
        clear hHx
        replace h2 := hbx
        clear hbx
        refine wpAnyH_ready (rs := [3]) (by kernel_rfl) (by simp) ?_
        refine AllReadyH.cons (o := ⟨none, .store 33 (.tmp 3) (.tmp 72), _, _, _, _⟩) rfl (fun K hK => ?_) AllReadyH.nil
        rw [if_pos (by rfl)]
        refine wp_storeRow _ _ _ rfl B3 (txc cl nn (.slice a1 (opsTo q i).length cap1)) rfl rfl _ _ h3 (by simp only [txc_size]) (by rw [txc_size]; exact zRtx.2) (txc_one _ _ _ _ _) ?_
        intro wy hgy hsy hby2
        clear hsy
        replace h2 := h2.grown hgy (by simp; omega)
        replace hO := hO.grown hgy h3 (by decide)
        replace HB := HB.trans (below_of_grown hgy (by omega) HB.size)
        have hHx := And.intro (hHeld.1.grown hgy (by simp; omega)) (hHeld.2.grown hgy (by simp; omega))
        refine hK.out _ _ hHx (fun _ => ?_)
        clear hK K hHeld hgy
        have hHeld := hHx
        clear hHx
        replace h3 := hby2
        clear hby2
        refine wpAnyH_done (by kernel_rfl) ?_ _
        simp only [Act.put]
        go_simp
        go_wp2_with fail
        refine bodyPost_ret (v := .tuple #[.agg (rcR (stR q i)), .agg (txc cl nn (.slice a1 (opsTo q i).length cap1))]) ?_ rfl ⟨cl, nn, _, _, by rw [hRE.out], HB, hO, fun h0 => absurd (by rw [hRE.out] at h0; exact h0) he⟩
        exact res_cc rfl _ _ B2 B3 _ _ _ _ _ _ rfl rfl h2 h3 Try.underlying30 rfl (by exact z39.2) Try.underlying33 rfl (by exact zRtx.2)
    · have hin2 : i = n := by omega
      subst hin2
      by_cases he : (stR q i).err = 0
      · have hRE : Hid (rE = ⟨(stR q i).s, (stR q i).pos, chk rT⟩) := by
          rw [HR.out, R.fail, if_pos he]
          exact rfl
        obtain ⟨a1, cap1, rfl, hSL⟩ := hO.sl
        have HC := fun w (h : SL w a1 (opsTo q i)) => rcheck_any ⟨cl, nn, opsTo q i⟩ a1 cap1 w h
        have hTT := HT.out
        subst hTT
        clear HT HR
        rw [he] at e2
        dsimp only at HC
        generalize chk ⟨cl, nn, opsTo q i⟩ = cz at *
        go_wp2_with (first
          | (go_at_call 16; refine (HC _ hSL).mono ?_; rintro e w2 ⟨rfl, hw2⟩; clear HC e2; replace h1 := h1.belowSize hw2; replace h2 := h2.belowSize hw2; replace h3 := h3.belowSize hw2; replace h4 := h4.belowSize hw2; replace hO := hO.below hw2; replace HB := HB.trans (hw2.mono HB.size); clear hw2)
          | (with_reducible refine at_list ?_; first
            | (refine wpList_loadRow (op := ⟨some 68, _, _, _, _, _⟩) rfl _ _ rfl B4 rfl _ _ h4 _ Try.underlying33 rfl (by rw [txc_size]; exact zRtx.2) ?_)
            | (refine wpList_storeCell (op := ⟨none, .store 3 (.tmp 70) (.tmp 69), _, _, _, _⟩) rfl _ _ _ rfl w.heap.size 2 rfl (.int .i64 cz) rfl _ _ h1 i3 rfl rfl (by rw [rcR_size]; omega) ?_; intro w3 hg3 hs3 hb3; rw [rcR_set2] at hb3; clear hs3; replace h2 := h2.grown hg3 (by simp; omega); replace h3 := h3.grown hg3 (by simp; omega); replace h4 := h4.grown hg3 (by simp; omega); replace hO := hO.grown hg3 h1 (by decide); replace HB := HB.trans (below_of_grown hg3 (Nat.le_refl _) HB.size); replace h1 := hb3; clear hg3 hb3)))
        replace HB := HB.drew
        replace h2 := h2.drew
        replace h3 := h3.drew
        replace hO := hO.drew
        refine wp_region_held_drew (S := fun w' => Blk w' w.heap.size (rcR ⟨(stR q i).s, (stR q i).pos, cz⟩) 30 ∧ Blk w' B4 (txc cl nn (.slice a1 (opsTo q i).length cap1)) 33) (by kernel_rfl) ⟨h1.drew, h4.drew⟩ (fun hHeld => ?_)
        clear h1 h4
        refine wpAnyH_take (i := 0) (oi := ⟨some 71, _, _, _, _, _⟩) (v := .agg (rcR ⟨(stR q i).s, (stR q i).pos, cz⟩)) rfl (by kernel_rfl) (by kernel_rfl) (by kernel_rfl) (fun _ _ _ h => h) (Or.inl ⟨by rfl, fun w hSw => run_loadRow _ _ rfl _ rfl _ _ hSw.1 _ Try.underlying30 rfl (by rw [rcR_size]; exact z39.2)⟩) hHeld ?_
        refine wpAnyH_take (i := 1) (oi := ⟨some 72, _, _, _, _, _⟩) (v := .agg (txc cl nn (.slice a1 (opsTo q i).length cap1))) rfl (by kernel_rfl) (by kernel_rfl) (by kernel_rfl) (fun _ _ _ h => h) (Or.inl ⟨by rfl, fun w hSw => run_loadRow _ _ rfl _ rfl _ _ hSw.2 _ Try.underlying33 rfl (by rw [txc_size]; exact zRtx.2)⟩) hHeld ?_
        simp only [Act.put, List.setIfInBounds_toArray, List.set_cons_zero, List.set_cons_succ]
        refine wpAnyH_ready (rs := [2]) (by kernel_rfl) (by simp) ?_
        refine AllReadyH.cons (o := ⟨none, .store 30 (.tmp 2) (.tmp 71), _, _, _, _⟩) rfl (fun K hK => ?_) AllReadyH.nil
        rw [if_pos (by rfl)]
        refine wp_storeRow _ _ _ rfl B2 (rcR ⟨(stR q i).s, (stR q i).pos, cz⟩) rfl rfl _ _ h2 (by simp only [rcR_size]) (by rw [rcR_size]; exact z39.2) (rcR_one _) ?_
        intro wx hgx hsx hbx
        clear hsx
        replace h3 := h3.grown hgx (by simp; omega)
        replace hO := hO.grown hgx h2 (by decide)
        replace HB := HB.trans (below_of_grown hgx (by omega) HB.size)
        have hHx := And.intro (hHeld.1.grown hgx (by simp; omega)) (hHeld.2.grown hgx (by simp; omega))
        refine hK.out _ _ hHx (fun _ => ?_)
        clear hK K hHeld hgx
        have hHeld := hHx
        clear hHx
        replace h2 := hbx
        clear hbx
        refine wpAnyH_ready (rs := [3]) (by kernel_rfl) (by simp) ?_
        refine AllReadyH.cons (o := ⟨none, .store 33 (.tmp 3) (.tmp 72), _, _, _, _⟩) rfl (fun K hK => ?_) AllReadyH.nil
        rw [if_pos (by rfl)]
        refine wp_storeRow _ _ _ rfl B3 (txc cl nn (.slice a1 (opsTo q i).length cap1)) rfl rfl _ _ h3 (by simp only [txc_size]) (by rw [txc_size]; exact zRtx.2) (txc_one _ _ _ _ _) ?_
        intro wy hgy hsy hby2
        clear hsy
        replace h2 := h2.grown hgy (by simp; omega)
        replace hO := hO.grown hgy h3 (by decide)
        replace HB := HB.trans (below_of_grown hgy (by omega) HB.size)
        have hHx := And.intro (hHeld.1.grown hgy (by simp; omega)) (hHeld.2.grown hgy (by simp; omega))
        refine hK.out _ _ hHx (fun _ => ?_)
        clear hK K hHeld hgy
        have hHeld := hHx
        clear hHx
        replace h3 := hby2
        clear hby2
        refine wpAnyH_done (by kernel_rfl) ?_ _
        simp only [Act.put]
        go_simp
        go_wp2_with fail
        refine bodyPost_ret (v := .tuple #[.agg (rcR ⟨(stR q i).s, (stR q i).pos, cz⟩), .agg (txc cl nn (.slice a1 (opsTo q i).length cap1))]) ?_ rfl ⟨cl, nn, _, _, by rw [hRE.out], HB, hO, fun _ => ⟨rfl, rfl, rfl⟩⟩
        exact res_cc rfl _ _ B2 B3 _ _ _ _ _ _ rfl rfl h2 h3 Try.underlying30 rfl (by exact z39.2) Try.underlying33 rfl (by exact zRtx.2)
      · have hRE : Hid (rE = stR q i) := by
          rw [HR.out, R.fail, if_neg he]
          exact rfl
        obtain ⟨a1, cap1, rfl, hSL⟩ := hO.sl
        have hb0 : ((stR q i).err == 0) = false := by simpa using he
        go_wp2_with fail
        replace HB := HB.drew
        replace h2 := h2.drew
        replace h3 := h3.drew
        replace hO := hO.drew
        refine wp_region_held_drew (S := fun w' => Blk w' w.heap.size (rcR (stR q i)) 30 ∧ Blk w' B4 (txc cl nn (.slice a1 (opsTo q i).length cap1)) 33) (by kernel_rfl) ⟨h1.drew, h4.drew⟩ (fun hHeld => ?_)
        clear h1 h4
        refine wpAnyH_take (i := 0) (oi := ⟨some 71, _, _, _, _, _⟩) (v := .agg (rcR (stR q i))) rfl (by kernel_rfl) (by kernel_rfl) (by kernel_rfl) (fun _ _ _ h => h) (Or.inl ⟨by rfl, fun w hSw => run_loadRow _ _ rfl _ rfl _ _ hSw.1 _ Try.underlying30 rfl (by rw [rcR_size]; exact z39.2)⟩) hHeld ?_
        refine wpAnyH_take (i := 1) (oi := ⟨some 72, _, _, _, _, _⟩) (v := .agg (txc cl nn (.slice a1 (opsTo q i).length cap1))) rfl (by kernel_rfl) (by kernel_rfl) (by kernel_rfl) (fun _ _ _ h => h) (Or.inl ⟨by rfl, fun w hSw => run_loadRow _ _ rfl _ rfl _ _ hSw.2 _ Try.underlying33 rfl (by rw [txc_size]; exact zRtx.2)⟩) hHeld ?_
        simp only [Act.put, List.setIfInBounds_toArray, List.set_cons_zero, List.set_cons_succ]
        refine wpAnyH_ready (rs := [2]) (by kernel_rfl) (by simp) ?_
        refine AllReadyH.cons (o := ⟨none, .store 30 (.tmp 2) (.tmp 71), _, _, _, _⟩) rfl (fun K hK => ?_) AllReadyH.nil
        rw [if_pos (by rfl)]
        refine wp_storeRow _ _ _ rfl B2 (rcR (stR q i)) rfl rfl _ _ h2 (by simp only [rcR_size]) (by rw [rcR_size]; exact z39.2) (rcR_one _) ?_
        intro wx hgx hsx hbx
        clear hsx
        replace h3 := h3.grown hgx (by simp; omega)
        replace hO := hO.grown hgx h2 (by decide)
        replace HB := HB.trans (below_of_grown hgx (by omega) HB.size)
        have hHx := And.intro (hHeld.1.grown hgx (by simp; omega)) (hHeld.2.grown hgx (by simp; omega))
        refine hK.out _ _ hHx (fun _ => ?_)
        clear hK K hHeld hgx
        have hHeld := hHx
        clear hHx
        replace h2 := hbx
        clear hbx
        refine wpAnyH_ready (rs := [3]) (by kernel_rfl) (by simp) ?_
        refine AllReadyH.cons (o := ⟨none, .store 33 (.tmp 3) (.tmp 72), _, _, _, _⟩) rfl (fun K hK => ?_) AllReadyH.nil
        rw [if_pos (by rfl)]
        refine wp_storeRow _ _ _ rfl B3 (txc cl nn (.slice a1 (opsTo q i).length cap1)) rfl rfl _ _ h3 (by simp only [txc_size]) (by rw [txc_size]; exact zRtx.2) (txc_one _ _ _ _ _) ?_
        intro wy hgy hsy hby2
        clear hsy
        replace h2 := h2.grown hgy (by simp; omega)
        replace hO := hO.grown hgy h3 (by decide)
        replace HB := HB.trans (below_of_grown hgy (by omega) HB.size)
        have hHx := And.intro (hHeld.1.grown hgy (by simp; omega)) (hHeld.2.grown hgy (by simp; omega))
        refine hK.out _ _ hHx (fun _ => ?_)
        clear hK K hHeld hgy
        have hHeld := hHx
        clear hHx
        replace h3 := hby2
        clear hby2
        refine wpAnyH_done (by kernel_rfl) ?_ _
        simp only [Act.put]
        go_simp
        go_wp2_with fail
        refine bodyPost_ret (v := .tuple #[.agg (rcR (stR q i)), .agg (txc cl nn (.slice a1 (opsTo q i).length cap1))]) ?_ rfl ⟨cl, nn, _, _, by rw [hRE.out], HB, hO, fun h0 => absurd (by rw [hRE.out] at h0; exact h0) he⟩
        exact res_cc rfl _ _ B2 B3 _ _ _ _ _ _ rfl rfl h2 h3 Try.underlying30 rfl (by exact z39.2) Try.underlying33 rfl (by exact zRtx.2)
end Go.Proofs.Ytncoifkchoiiaaa
