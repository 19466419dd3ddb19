/- What is put has room: the statement DiskSpace walked. -/
import Derived.Test.YtgkkpmliociieaaStp
import Derived.Test.YtgkkpmliociieaaDo8
import Derived.Test.YtgkkpmliociieaaEqu
namespace Go.Proofs.Ytgkkpmliociieaa
open Go Go.RowKit
theorem and127 (z : Int) : ∃ n : Nat, n ≤ 127 ∧ bits BinOp.and IntKind.i64 z 127 = (n : Int) := by
  refine ⟨(BitVec.ofInt 64 z &&& BitVec.ofInt 64 127).toNat, ?_, ?_⟩
  · rw [BitVec.toNat_and]
    exact Nat.and_le_right
  · have h : (BitVec.ofInt 64 z &&& BitVec.ofInt 64 127).toNat ≤ 127 := by
      rw [BitVec.toNat_and]
      exact Nat.and_le_right
    show IntKind.i64.wrap ((BitVec.ofInt 64 z &&& BitVec.ofInt 64 127).toNat : Int) = _
    generalize (BitVec.ofInt 64 z &&& BitVec.ofInt 64 127).toNat = k at *
    rw [IntKind.wrap_i64]
    omega
def acR (n : Nat) : AC := ⟨8, [], [], [], n, 0, 0, 0⟩
theorem builtA8 (n : Nat) : Try.prog.built 36 [(0, .int .i64 8), (4, .int .i64 (n : Nat))] = some (aC (acR n)) := by kernel_rfl
def dmR (n : Nat) : DM := { dm1 with lim := decide (0 ≤ (acR n).n), room := (acR n).n }
def rdR (n : Nat) : RD := { rd1 with room := (acR n).n }
theorem inv0 (n : Nat) (hn : n ≤ 127) : Inv (dmR n) (rdR n) 0 := by
  refine ⟨⟨rfl, rfl, rfl, rfl, rfl, fun _ => rfl⟩, ⟨List.Pairwise.nil, fun f hf => (by cases hf), fun f hf => (by cases hf)⟩, Nat.le_refl _, Nat.le_refl _, Nat.le_refl _, rfl, fun _ => ?_, ?_⟩
  · show 0 ≤ (n : Int) ∧ (n : Int) ≤ _
    omega
  · show (n : Int) ≤ _
    omega
section
variable {P : Program} {ops : Array Oper} {rest : List Oper} {op : Oper} {a : Act} {w : World} {Q : Exit → Act → World → Prop}
theorem wpList_runG (hw : Region.wanted op (yielded ops a.tmps) = true) (v : Value) (w1 : World) (hr : (execOp a.eval op).run P w = .ok (.value v) w1) (h : wpList P ops Q rest (a.put op.dst v) w1) : wpList P ops Q (op :: rest) a w := by
  refine wpList_step fun K hK => ?_
  rw [if_pos hw]
  unfold Oper.wp
  rw [hr]
  exact hK _ _ h
theorem wpList_loadRowG (hw : Region.wanted op (yielded ops a.tmps) = true) (ty : TypeId) (x : Operand) (ho : op.op = .load ty x) (b : Nat) (hx : a.eval x = .pointer (some ⟨b, 0, none⟩))
    (c : Array Value) (t : TypeId) (hb : Blk w b c t) (d : TypeDesc) (hu : P.underlying ty = some d) (hd : d.isRow = true) (hi : (P.info? ty).map (·.size) = some c.size)
    (h : wpList P ops Q rest (a.put op.dst (.agg c)) w) : wpList P ops Q (op :: rest) a w :=
  wpList_runG hw _ _ (by
    unfold execOp
    simp only [ho, hx]
    simp [Instr.loadAt, Instr.sureAddr, hb.loadVar d hu hd hi]) h
end
/-- What stands at a round's head. -/
structure SpS (w : World) (P5 p n : Nat) (wl : World) (i : Nat) (d : DM) (m : RD) (x y : Value) (b : Option Nat) : Prop where
  pair : Blk wl P5 (pC p m x y) 29
  dk : DK wl p b d
  now : RL wl 0 x m.now
  sure : RL wl 0 y m.sure
  inv : Inv d m i
  lim : d.lim = true
  room : d.room = n
  used : usedL d.l ≤ n
  below : Below w.heap.size w wl
  lo : ∀ r, b = some r → w.heap.size ≤ r
theorem SpS.more {w wl : World} {P5 p n i j : Nat} {d : DM} {m : RD} {x y : Value} {b : Option Nat} (h : SpS w P5 p n wl i d m x y b) (hj : i ≤ j) : SpS w P5 p n wl j d m x y b := ⟨h.pair, h.dk, h.now, h.sure, h.inv.more hj, h.lim, h.room, h.used, h.below, h.lo⟩
set_option maxRecDepth 100000 in
set_option maxHeartbeats 8000000 in
theorem diskSpace_any (l : List AC) (ad : Option Addr) (cap : Nat) (z : Int) (w : World) (hA : AA w ad l) (hl : l.length ≤ maxLen) (ok : ∀ x ∈ l, AcOk x) :
    Calls Try.prog 5 #[.slice ad l.length cap, .int .i64 z] w fun e w' => e = .returned (.bool true) ∧ Below w.heap.size w w' := by
  obtain ⟨n, hn, hz⟩ := and127 z
  have HB := fun w1 => begun_any w1
  have HW := fun w1 => awake_any w1
  have hI0 := inv0 n hn
  have HR := fun w1 p (hD : DK w1 p none dm1) => do_room p none dm1 rd1 (.slice none 0 0) (.slice none 0 0) (acR n) w1 hD (RL.nil _ _) (RL.nil _ _) rfl
  change ∀ (w1 : World) (p : Nat), DK w1 p none dm1 → Calls Try.prog 8 #[.agg (pC p rd1 (.slice none 0 0) (.slice none 0 0)), .agg (aC (acR n))] w1 (DoP w1 p none (dmR n) (rdR n)) at HR
  have hus0 : usedL (dmR n).l ≤ n := Nat.zero_le _
  have hlm0 : (dmR n).lim = true := by
    show decide (0 ≤ (n : Int)) = true
    exact decide_eq_true (by omega)
  have hrm0 : (dmR n).room = n := rfl
  have hl6 : l.length ≤ 9223372036854775807 := hl
  obtain ⟨d0, hd0⟩ : ∃ d, Hid (d = dmR n) := ⟨_, rfl⟩
  obtain ⟨m0, hm0⟩ : ∃ m, Hid (m = rdR n) := ⟨_, rfl⟩
  rw [← hd0.out] at hI0 HR hus0 hlm0 hrm0
  rw [← hm0.out] at hI0 HR
  obtain ⟨aR, haR⟩ : ∃ a : Array Value, Hid (a = aC (acR n)) := ⟨_, rfl⟩
  have hbA : Hid (Try.prog.built 36 [(0, .int .i64 8), (4, .int .i64 (n : Nat))] = some aR) := by
    have := builtA8 n
    rw [← haR.out] at this
    exact this
  rw [← haR.out] at HR
  clear hd0 hm0 haR
  go_enter Try.func5, Try.ntmps5
  go_wp2_with (first
    | (go_at_call 7; refine (HB _).mono ?_; rintro e w1 ⟨p, rfl, hw1, hD1, hpl⟩; clear HB)
    | (go_at_call 8; refine (HR _ _ hD3).mono ?_; rintro e w4 ⟨x, y, b, rfl, hC4, hD4, hx4, hy4⟩; clear HR; have h5c := hC4.blk hD3 h5b (by decide) (by decide); have hx41 := hx4.cells.2; have hy41 := hy4.cells.2)
    | (with_reducible refine at_list ?_; first
      | (refine wpList_allocRow (op := ⟨some 5, _, _, _, _, _⟩) rfl _ rfl _ zPr.1 ?_; intro w2 hw2 hs2 h5; clear hs2; have hB2 := hw1.trans (hw2.mono hw1.size); have hD2 := hD1.below hw2)
      | (refine wpList_storeRow (op := ⟨none, .store 29 (.tmp 5) (.tmp 10), _, _, _, _⟩) rfl _ _ _ rfl w1.heap.size (pC p rd1 (.slice none 0 0) (.slice none 0 0)) rfl rfl _ _ h5 rfl (iPr _ _ _ _) (pC_one _ _ _ _ rfl rfl) ?_; intro w3 hg3 hs3 h5b; clear hs3; have hB3 := hB2.trans (below_of_grown hg3 hw1.size hB2.size); have hD3 := hD2.own hg3 h5 (by decide) (by decide))
      | (refine wpList_loadRow (op := ⟨some 14, _, _, _, _, _⟩) rfl _ _ rfl w1.heap.size rfl _ _ h5b _ Try.underlying29 rfl (iPr _ _ _ _) ?_)
      | (refine wpList_run (op := ⟨some 16, _, _, _, _, _⟩) rfl _ _ (run_built2 _ _ _ _ _ rfl _ _ rfl rfl _ hbA.out) ?_)
      | (refine wpList_storeRow (op := ⟨none, .store 29 (.tmp 5) (.tmp 18), _, _, _, _⟩) rfl _ _ _ rfl w1.heap.size (pC p m0 x y) rfl rfl _ _ h5c rfl (iPr _ _ _ _) (pC_one _ _ _ _ hx41 hy41) ?_; intro w5 hg5 hs5 h5d; clear hs5)))
  have hB4 : Below w.heap.size w w4 := hB3.trans (hC4.to hpl (fun r e => nomatch e) hB3.size)
  have hB5 := hB4.trans (below_of_grown hg5 hw1.size hB4.size)
  have hst : SpS w w1.heap.size p n w5 0 d0 m0 x y b := ⟨h5d, hD4.own hg5 h5c (by decide) (by decide), hx4.other hg5 h5c (.inl (by decide)), hy4.other hg5 h5c (.inl (by decide)), hI0, hlm0, hrm0, hus0, hB5, hC4.lo (fun r e => nomatch e) hB3.size⟩
  have hP5 := hw1.size
  obtain ⟨P5, hPe⟩ : ∃ k, Hid (k = w1.heap.size) := ⟨_, rfl⟩
  rw [← hPe.out] at hst hP5 ⊢
  clear hB4 hB5 h5d hD4 h5c hx4 hy4 hI0 hlm0 hrm0 hus0 hC4 hB3 hg5 hD3 h5b hg3 hD2 hB2 h5 hw2 hw1 hD1 hPe hx41 hy41 hbA
  go_loopw [7, 8, 9] (fun v7 _ _ wl => ∃ (i : Nat) (d : DM) (m : RD) (x y : Value) (b : Option Nat), i ≤ l.length ∧ i ≤ 40 ∧ v7 = .int .i64 i ∧ SpS w P5 p n wl i d m x y b) (fun v7 _ _ _ => 40 - (intOf v7).toNat)
  case atStart => exact ⟨0, d0, m0, x, y, b, Nat.zero_le _, Nat.zero_le _, rfl, hst⟩
  case round =>
    obtain ⟨i, d, m, x, y, b, hil, hi40, rfl, hS⟩ := hrel
    clear hst
    have hin : Hid (Inv d m i) := hS.inv
    have hBr := hS.below
    have END : ∀ (e : Ending) (w' : World), (e = .returned (.bool true) ∧ Below wr.heap.size wr w') → (e = .returned (.bool true) ∧ Below w.heap.size w w') := fun e w' h => ⟨h.1, hBr.trans (h.2.mono hBr.size)⟩
    by_cases hlt : i < l.length
    · have hz1 : (i : Int) < (l.length : Int) := by omega
      by_cases h40 : i < 40
      · have hz2 : (i : Int) < 40 := by omega
        obtain ⟨g, o, rfl, hr⟩ := (hA.below hBr) i hlt
        have hac : AcOk l[i] := ok _ (List.getElem_mem hlt)
        obtain ⟨a, ha⟩ : ∃ a, Hid (a = l[i]) := ⟨l[i], rfl⟩
        rw [← ha.out] at hr hac
        clear ha
        have c0 : wr.cell? ⟨g, o + i * 8, none⟩ = some (.int .i64 a.kind) := hr 0 _ (aC_g0 a)
        have hglt : g < wr.heap.size := World.block_lt_of_cell? _ _ c0
        have hgw : g < w.heap.size := by
          obtain ⟨g2, o2, e2, hr2⟩ := hA i hlt
          cases e2
          exact World.block_lt_of_cell? _ _ (hr2 0 _ (aC_g0 _))
        by_cases k1 : a.kind < 0
        · go_wp2_with fail
          go_roundw
          case rel => exact ⟨i + 1, d, m, x, y, b, by omega, by omega, by go_num, hS.more (Nat.le_succ _)⟩
          case measure => simp [intOf]; omega
        · by_cases k2 : 5 < a.kind
          · go_wp2_with fail
            go_roundw
            case rel => exact ⟨i + 1, d, m, x, y, b, by omega, by omega, by go_num, hS.more (Nat.le_succ _)⟩
            case measure => simp [intOf]; omega
          · go_wp2_with fail
            clear c0
            have hx1 := hS.now.cells.2
            have hy1 := hS.sure.cells.2
            have hDd := hS.dk.drew
            have hxd := hS.now.drew
            have hyd := hS.sure.drew
            have hBd := hBr.drew
            have hHd : Blk wr.drew P5 (pC p m x y) 29 ∧ wr.drew.rangeAt g (o + i * 8) (aC a).toList := ⟨hS.pair.drew, rangeAt_drew hr⟩
            have hm' := fun h => Inv.step hin.out a h
            have hk : 0 ≤ a.kind ∧ a.kind ≤ 5 := by omega
            have hIn := hm' hk
            have hus := used_step hin.out.ok hS.lim (by rw [hS.room]; exact Int.ofNat_le.2 hS.used) a
            rw [hS.room] at hus
            obtain ⟨hlm, hrm⟩ := st_same hin.out.ok a
            rw [hS.lim] at hlm
            rw [hS.room] at hrm
            have HD := fun w1 (hD1 : DK w1 p b d) (hx1 : RL w1 0 x m.now) (hy1 : RL w1 0 y m.sure) => do_step p b d m x y a i w1 hD1 hx1 hy1 hin.out (by omega) hk hac.name hac.to
            generalize stD d a = d' at *
            generalize stR m a = m' at *
            have hlo := hS.lo
            have hpp := hS.dk.lt
            clear hm' hin hr hac
            refine wp_region_held_drew (S := fun w' : World => Blk w' P5 (pC p m x y) 29 ∧ w'.rangeAt g (o + i * 8) (aC a).toList) (by kernel_rfl) hHd (fun hH => ?_)
            try go_frame
            refine wpAnyH_take (i := 0) (oi := ⟨some 45, _, _, _, _, _⟩) (v := .agg (pC p m x y)) rfl (by kernel_rfl) (by kernel_rfl) (by kernel_rfl) (fun _ _ _ h => h) (Or.inl ⟨by rfl, fun w hSw => run_loadMid _ _ rfl _ 0 rfl _ hSw.1.rangeAll _ Try.underlying29 rfl (iPr _ _ _ _)⟩) hH ?_
            try simp only [Act.put, List.setIfInBounds_toArray, List.set_cons_zero, List.set_cons_succ]
            refine wpAnyH_take (i := 1) (oi := ⟨some 46, _, _, _, _, _⟩) (v := .slice (some ⟨g, o, none⟩) l.length cap) rfl (by kernel_rfl) (by kernel_rfl) (by kernel_rfl) (fun _ _ _ h => h) (Or.inl ⟨by rfl, fun w hSw => by go_simp⟩) hH ?_
            try simp only [Act.put, List.setIfInBounds_toArray, List.set_cons_zero, List.set_cons_succ]
            refine wpAnyH_take (i := 2) (oi := ⟨some 47, _, _, _, _, _⟩) (v := .int .i64 i) rfl (by kernel_rfl) (by kernel_rfl) (by kernel_rfl) (fun _ _ _ h => h) (Or.inl ⟨by rfl, fun w hSw => by go_simp⟩) hH ?_
            try simp only [Act.put, List.setIfInBounds_toArray, List.set_cons_zero, List.set_cons_succ]
            refine wpAnyH_take (i := 3) (oi := ⟨some 48, _, _, _, _, _⟩) (v := .pointer (some ⟨g, o + i * 8, none⟩)) rfl (by kernel_rfl) (by kernel_rfl) (by kernel_rfl) (fun _ _ _ h => h) (Or.inl ⟨by rfl, fun w hSw => by go_simp⟩) hH ?_
            try simp only [Act.put, List.setIfInBounds_toArray, List.set_cons_zero, List.set_cons_succ]
            refine wpAnyH_take (i := 4) (oi := ⟨some 49, _, _, _, _, _⟩) (v := .agg (aC a)) rfl (by kernel_rfl) (by kernel_rfl) (by kernel_rfl) (fun _ _ _ h => h) (Or.inl ⟨by rfl, fun w hSw => run_loadMid _ _ rfl _ _ rfl _ hSw.2 _ Try.underlying36 rfl (iAct _)⟩) hH ?_
            try simp only [Act.put, List.setIfInBounds_toArray, List.set_cons_zero, List.set_cons_succ]
            refine wpAnyH_duo (i := 5) (k := 9) (o := ⟨some 50, _, _, _, _, _⟩) (p := ⟨some 8, _, _, _, _, _⟩) rfl rfl (by kernel_rfl) (fun K hK => ?_) (fun K hK => ?_)
            · refine wpList_callR Try.func8 (by kernel_rfl) (by kernel_rfl) rfl _ _ rfl #[.agg (pC p m x y), .agg (aC a)] (args2 rfl rfl) _ (HD _ hDd hxd hyd) ?_
              rintro e w8 ⟨x', y', b', rfl, hC8, hD8, hx8, hy8⟩
              refine ⟨_, rfl, ?_⟩
              have hlo' := hC8.lo hlo hBd.size
              have hT8 := hC8.to hpl hlo hBd.size
              have hB8 := hBd.trans hT8
              have hx91 := hx8.cells.2
              have hy91 := hy8.cells.2
              have hH8 := And.intro (hC8.blk hDd hH.1 (by decide) (by decide)) (rangeAt_below hH.2 hT8 hgw)
              refine hK _ _ hH8 ?_
              clear hK K
              try simp only [Act.put, List.setIfInBounds_toArray, List.set_cons_zero, List.set_cons_succ]
              refine wpAnyH_take (i := 6) (oi := ⟨some 44, _, _, _, _, _⟩) (v := .tuple #[.agg (pC p m' x' y'), .bool true]) rfl (by kernel_rfl) (by kernel_rfl) (by kernel_rfl) (fun _ _ _ h => h) (Or.inl ⟨by rfl, fun w hSw => by go_simp⟩) hH8 ?_
              try simp only [Act.put, List.setIfInBounds_toArray, List.set_cons_zero, List.set_cons_succ]
              refine wpAnyH_take (i := 7) (oi := ⟨some 51, _, _, _, _, _⟩) (v := .agg (pC p m' x' y')) rfl (by kernel_rfl) (by kernel_rfl) (by kernel_rfl) (fun _ _ _ h => h) (Or.inl ⟨by rfl, fun w hSw => run_extract _ _ rfl _ rfl _ rfl⟩) hH8 ?_
              try simp only [Act.put, List.setIfInBounds_toArray, List.set_cons_zero, List.set_cons_succ]
              refine wpAnyH_take (i := 8) (oi := ⟨some 52, _, _, _, _, _⟩) (v := .bool true) rfl (by kernel_rfl) (by kernel_rfl) (by kernel_rfl) (fun _ _ _ h => h) (Or.inl ⟨by rfl, fun w hSw => run_extract _ _ rfl _ rfl _ rfl⟩) hH8 ?_
              try simp only [Act.put, List.setIfInBounds_toArray, List.set_cons_zero, List.set_cons_succ]
              refine wpAnyH_solo (i := 9) (o := ⟨some 8, _, _, _, _, _⟩) rfl (by kernel_rfl) (fun K hK => ?_)
              refine wpList_allocRow rfl _ rfl _ zPr.1 ?_
              intro w9 hw9 hs9 h8
              clear hs9
              have hH9 := And.intro (hH8.1.belowSize hw9) (rangeAt_below hH8.2 hw9 (Nat.lt_of_lt_of_le hgw hB8.size))
              have hD9 := hD8.below hw9
              have hx9 := hx8.below hw9
              have hy9 := hy8.below hw9
              have hB9 := hB8.trans (hw9.mono hB8.size)
              have hQ8 := hB8.size
              have hP5l := hH8.1.lt
              refine hK _ _ hH9 ?_
              clear hK K
              try simp only [Act.put, List.setIfInBounds_toArray, List.set_cons_zero, List.set_cons_succ]
              obtain ⟨Q8, hQe⟩ : ∃ k, Hid (k = w8.heap.size) := ⟨_, rfl⟩
              rw [← hQe.out] at h8 hQ8 hP5l ⊢
              clear hQe
              refine wpAnyH_solo (i := 10) (o := ⟨none, _, _, _, _, _⟩) rfl (by kernel_rfl) (fun K hK => ?_)
              refine wpList_storeRow rfl _ _ _ rfl Q8 (pC p m' x' y') rfl rfl _ _ h8 rfl (iPr _ _ _ _) (pC_one _ _ _ _ hx91 hy91) ?_
              intro wb hgb hsb h8b
              clear hsb
              have hHb := And.intro (hH9.1.grown hgb (fun e => by have := Option.some.inj e; omega)) (rangeAt_below hH9.2 (below_of_grown hgb hQ8 hB9.size) hgw)
              have hDb := hD9.own hgb h8 (by decide) (by decide)
              have hxb := hx9.other hgb h8 (.inl (by decide))
              have hyb := hy9.other hgb h8 (.inl (by decide))
              have hBb := hB9.trans (below_of_grown hgb hQ8 hB9.size)
              refine hK _ _ hHb ?_
              clear hK K
              try simp only [Act.put]
              refine wpAnyH_solo (i := 11) (o := ⟨some 9, _, _, _, _, _⟩) rfl (by kernel_rfl) (fun K hK => ?_)
              refine wpList_pure rfl (.bool true) (run_assignV _ rfl _ rfl) ?_
              refine hK _ _ hHb ?_
              clear hK K
              try simp only [Act.put, List.setIfInBounds_toArray, List.set_cons_zero, List.set_cons_succ]
              refine wpAnyH_done (by kernel_rfl) ?_ _
              go_simp
              clear hH9 hH8 hw9
              have hPb := hHb.1
              clear hHb hH hgb
              have HE := fun w1 (hD1 : DK w1 p b' d') (hx1 : RL w1 0 x' m'.now) (hy1 : RL w1 0 y' m'.sure) => equal_any p b' d' m' x' y' w1 hD1 hx1 hy1 hIn.sam (hIn.okd (by omega)) hIn.dead (by have := hIn.nowLen; have := hIn.sureLen; omega)
              have HU := fun w1 (hD1 : DK w1 p b' d') => used_any p b' d' w1 hD1 (by have := hIn.len; omega) (by have := hIn.used; omega)
              have hus2 : ¬ (n : Int) < (usedL d'.l : Int) := by omega
              have husn : usedL d'.l ≤ n := by omega
              have hinv : Hid (Inv d' m' (i + 1)) := hIn
              clear hIn hus
              generalize usedL d'.l = U at HU hus2
              go_wp2_with (first
                | (go_at_call 9; refine (HE _ hDc hxc hyc).mono ?_; rintro e wd ⟨rfl, hwd⟩; clear HE; have hDd2 := hDc.below hwd; have hxd2 := hxc.below hwd; have hyd2 := hyc.below hwd; have hPd := hPc.belowSize hwd; have hBd2 := hBc.trans (hwd.mono hBc.size); have cd0 := (hPd.cell 0).trans (pC_g0 _ _ _ _))
                | (go_at_call 18; refine (HU _ hDd2).mono ?_; rintro e we ⟨rfl, hwe⟩; clear HU cd0; have hDe := hDd2.below hwe; have hxe := hxd2.below hwe; have hye := hyd2.below hwe; have hPe := hPd.belowSize hwe; have hBe := hBd2.trans (hwe.mono hBd2.size))
                | (with_reducible refine at_list ?_; first
                  | (refine wpList_loadRow (op := ⟨some 53, _, _, _, _, _⟩) rfl _ _ rfl Q8 rfl _ _ h8b _ Try.underlying29 rfl (iPr _ _ _ _) ?_)
                  | (refine wpList_storeRow (op := ⟨none, .store 29 (.tmp 5) (.tmp 53), _, _, _, _⟩) rfl _ _ _ rfl P5 (pC p m' x' y') rfl rfl _ _ hPb rfl (iPr _ _ _ _) (pC_one _ _ _ _ hx91 hy91) ?_; intro wc hgc hsc hPc; clear hsc; have hDc := hDb.own hgc hPb (by decide) (by decide); have hxc := hxb.other hgc hPb (.inl (by decide)); have hyc := hyb.other hgc hPb (.inl (by decide)); have hBc := hBb.trans (below_of_grown hgc hP5 hBb.size))
                  | (refine wpList_loadRowG (op := ⟨some 57, _, _, _, _, _⟩) rfl _ _ rfl P5 rfl _ _ hPc _ Try.underlying29 rfl (iPr _ _ _ _) ?_)))
              go_roundw
              case rel => exact ⟨i + 1, d', m', x', y', b', by omega, by omega, by go_num, ⟨hPe, hDe, hxe, hye, hinv.out, hlm, hrm, husn, hBe, hlo'⟩⟩
              case measure => simp [intOf]; omega
            · refine wpList_allocRow rfl _ rfl _ zPr.1 ?_
              intro w8 hw8 hs8 h8
              clear hs8
              have hH8 := And.intro (hH.1.belowSize hw8) (rangeAt_below hH.2 hw8 (Nat.lt_of_lt_of_le hgw hBd.size))
              have hD8 := hDd.below hw8
              have hx8 := hxd.below hw8
              have hy8 := hyd.below hw8
              have hB8 := hBd.trans (hw8.mono hBd.size)
              have hQ8 := hBd.size
              have hP5l := hH.1.lt
              refine hK _ _ hH8 ?_
              clear hK K
              try simp only [Act.put, List.setIfInBounds_toArray, List.set_cons_zero, List.set_cons_succ]
              obtain ⟨Q8, hQe⟩ : ∃ k, Hid (k = wr.drew.heap.size) := ⟨_, rfl⟩
              rw [← hQe.out] at h8 hQ8 hP5l ⊢
              clear hQe
              refine wpAnyH_solo (i := 5) (o := ⟨some 50, _, _, _, _, _⟩) rfl (by kernel_rfl) (fun K hK => ?_)
              refine wpList_callR Try.func8 (by kernel_rfl) (by kernel_rfl) rfl _ _ rfl #[.agg (pC p m x y), .agg (aC a)] (args2 rfl rfl) _ (HD _ hD8 hx8 hy8) ?_
              rintro e w9 ⟨x', y', b', rfl, hC9, hD9, hx9, hy9⟩
              refine ⟨_, rfl, ?_⟩
              have hlo' := hC9.lo hlo hB8.size
              have hT9 := hC9.to hpl hlo hB8.size
              have hB9 := hB8.trans hT9
              have hx91 := hx9.cells.2
              have hy91 := hy9.cells.2
              have h8a := hC9.blk hD8 h8 (by decide) (by decide)
              have hH9 := And.intro (hC9.blk hD8 hH8.1 (by decide) (by decide)) (rangeAt_below hH8.2 hT9 hgw)
              refine hK _ _ hH9 ?_
              clear hK K
              try simp only [Act.put, List.setIfInBounds_toArray, List.set_cons_zero, List.set_cons_succ]
              refine wpAnyH_take (i := 6) (oi := ⟨some 44, _, _, _, _, _⟩) (v := .tuple #[.agg (pC p m' x' y'), .bool true]) rfl (by kernel_rfl) (by kernel_rfl) (by kernel_rfl) (fun _ _ _ h => h) (Or.inl ⟨by rfl, fun w hSw => by go_simp⟩) hH9 ?_
              try simp only [Act.put, List.setIfInBounds_toArray, List.set_cons_zero, List.set_cons_succ]
              refine wpAnyH_take (i := 7) (oi := ⟨some 51, _, _, _, _, _⟩) (v := .agg (pC p m' x' y')) rfl (by kernel_rfl) (by kernel_rfl) (by kernel_rfl) (fun _ _ _ h => h) (Or.inl ⟨by rfl, fun w hSw => run_extract _ _ rfl _ rfl _ rfl⟩) hH9 ?_
              try simp only [Act.put, List.setIfInBounds_toArray, List.set_cons_zero, List.set_cons_succ]
              refine wpAnyH_take (i := 8) (oi := ⟨some 52, _, _, _, _, _⟩) (v := .bool true) rfl (by kernel_rfl) (by kernel_rfl) (by kernel_rfl) (fun _ _ _ h => h) (Or.inl ⟨by rfl, fun w hSw => run_extract _ _ rfl _ rfl _ rfl⟩) hH9 ?_
              try simp only [Act.put, List.setIfInBounds_toArray, List.set_cons_zero, List.set_cons_succ]
              refine wpAnyH_solo (i := 10) (o := ⟨none, _, _, _, _, _⟩) rfl (by kernel_rfl) (fun K hK => ?_)
              refine wpList_storeRow rfl _ _ _ rfl Q8 (pC p m' x' y') rfl rfl _ _ h8a rfl (iPr _ _ _ _) (pC_one _ _ _ _ hx91 hy91) ?_
              intro wb hgb hsb h8b
              clear hsb
              have hHb := And.intro (hH9.1.grown hgb (fun e => by have := Option.some.inj e; omega)) (rangeAt_below hH9.2 (below_of_grown hgb hQ8 hB9.size) hgw)
              have hDb := hD9.own hgb h8a (by decide) (by decide)
              have hxb := hx9.other hgb h8a (.inl (by decide))
              have hyb := hy9.other hgb h8a (.inl (by decide))
              have hBb := hB9.trans (below_of_grown hgb hQ8 hB9.size)
              refine hK _ _ hHb ?_
              clear hK K
              try simp only [Act.put]
              refine wpAnyH_solo (i := 11) (o := ⟨some 9, _, _, _, _, _⟩) rfl (by kernel_rfl) (fun K hK => ?_)
              refine wpList_pure rfl (.bool true) (run_assignV _ rfl _ rfl) ?_
              refine hK _ _ hHb ?_
              clear hK K
              try simp only [Act.put, List.setIfInBounds_toArray, List.set_cons_zero, List.set_cons_succ]
              refine wpAnyH_done (by kernel_rfl) ?_ _
              go_simp
              clear hH9 hH8 hw8 h8 h8a
              have hPb := hHb.1
              clear hHb hH hgb
              have HE := fun w1 (hD1 : DK w1 p b' d') (hx1 : RL w1 0 x' m'.now) (hy1 : RL w1 0 y' m'.sure) => equal_any p b' d' m' x' y' w1 hD1 hx1 hy1 hIn.sam (hIn.okd (by omega)) hIn.dead (by have := hIn.nowLen; have := hIn.sureLen; omega)
              have HU := fun w1 (hD1 : DK w1 p b' d') => used_any p b' d' w1 hD1 (by have := hIn.len; omega) (by have := hIn.used; omega)
              have hus2 : ¬ (n : Int) < (usedL d'.l : Int) := by omega
              have husn : usedL d'.l ≤ n := by omega
              have hinv : Hid (Inv d' m' (i + 1)) := hIn
              clear hIn hus
              generalize usedL d'.l = U at HU hus2
              go_wp2_with (first
                | (go_at_call 9; refine (HE _ hDc hxc hyc).mono ?_; rintro e wd ⟨rfl, hwd⟩; clear HE; have hDd2 := hDc.below hwd; have hxd2 := hxc.below hwd; have hyd2 := hyc.below hwd; have hPd := hPc.belowSize hwd; have hBd2 := hBc.trans (hwd.mono hBc.size); have cd0 := (hPd.cell 0).trans (pC_g0 _ _ _ _))
                | (go_at_call 18; refine (HU _ hDd2).mono ?_; rintro e we ⟨rfl, hwe⟩; clear HU cd0; have hDe := hDd2.below hwe; have hxe := hxd2.below hwe; have hye := hyd2.below hwe; have hPe := hPd.belowSize hwe; have hBe := hBd2.trans (hwe.mono hBd2.size))
                | (with_reducible refine at_list ?_; first
                  | (refine wpList_loadRow (op := ⟨some 53, _, _, _, _, _⟩) rfl _ _ rfl Q8 rfl _ _ h8b _ Try.underlying29 rfl (iPr _ _ _ _) ?_)
                  | (refine wpList_storeRow (op := ⟨none, .store 29 (.tmp 5) (.tmp 53), _, _, _, _⟩) rfl _ _ _ rfl P5 (pC p m' x' y') rfl rfl _ _ hPb rfl (iPr _ _ _ _) (pC_one _ _ _ _ hx91 hy91) ?_; intro wc hgc hsc hPc; clear hsc; have hDc := hDb.own hgc hPb (by decide) (by decide); have hxc := hxb.other hgc hPb (.inl (by decide)); have hyc := hyb.other hgc hPb (.inl (by decide)); have hBc := hBb.trans (below_of_grown hgc hP5 hBb.size))
                  | (refine wpList_loadRowG (op := ⟨some 57, _, _, _, _, _⟩) rfl _ _ rfl P5 rfl _ _ hPc _ Try.underlying29 rfl (iPr _ _ _ _) ?_)))
              go_roundw
              case rel => exact ⟨i + 1, d', m', x', y', b', by omega, by omega, by go_num, ⟨hPe, hDe, hxe, hye, hinv.out, hlm, hrm, husn, hBe, hlo'⟩⟩
              case measure => simp [intOf]; omega
      · have hz2 : ¬ (i : Int) < 40 := by omega
        go_wp2_with (go_at_call 10; refine (HW _).mono ?_; rintro e w9 ⟨rfl, hw9⟩)
        go_ret
        exact END _ _ ⟨rfl, hw9⟩
    · have hz1 : ¬ (i : Int) < (l.length : Int) := by omega
      go_wp2_with (go_at_call 10; refine (HW _).mono ?_; rintro e w9 ⟨rfl, hw9⟩)
      go_ret
      exact END _ _ ⟨rfl, hw9⟩
end Go.Proofs.Ytgkkpmliociieaa
