/- What WalFalls tells: wherever the power fails, what is there behind is what was told, or what was being done. -/
import Derived.Test.YtaiiojbakmminaaGreatDoorWfx
namespace Go.Proofs.YtaiiojbakmminaaGreatDoor
open Go Go.RowKit
theorem ge_changes_cm {w wl : World} {q p : Nat} {b rb : Option Nat} {L : LG} {P : PP} {room : Int} {ch : Nat} (h : Ge w wl q p b rb L (cm P room ch)) :
    Calls Tryz.prog 21 #[.pointer (some ⟨p, 0, none⟩)] wl fun e w' => e = .returned (.int .i64 (ch : Nat)) ∧ w' = wl := ge_changes h
theorem iStr1 : (Tryz.prog.info? 9).map (·.size) = some 1 := by kernel_rfl
theorem bsl0S (w : World) : (Instr.buildSlice 30 0 #[]).run Tryz.prog w = .ok (.slice (some ⟨w.heap.size, 0, none⟩) 0 0) (w.alloc (.cells #[] 9)) := by
  simp [Instr.buildSlice, run_underlying Tryz.underlying30, sizeOf_run iStr1, Sem.run_bind, Instr.fill, newRow, range0]
theorem run_bsl0S {op : Oper} {a : Act} {w : World} (ho : op.op = .buildSlice 30 0 #[]) : (execOp a.eval op).run Tryz.prog w = .ok (.value (.slice (some ⟨w.heap.size, 0, none⟩) 0 0)) (w.alloc (.cells #[] 9)) := by
  unfold execOp
  simp only [ho, Sem.run_bind, Array.map_empty, bsl0S, Result.andThen_ok]
  rfl
theorem faA_g0 (f : FA) : (faA f)[0]? = some (.int .i64 f.at_) := rfl
theorem bslF (f : FA) (w : World) : (Instr.buildSlice 45 1 #[(0, .agg (faA f))]).run Tryz.prog w = .ok (.slice (some ⟨w.heap.size, 0, none⟩) 1 1) (w.alloc (.cells (faA f) 32)) := by
  simp [Instr.buildSlice, run_underlying Tryz.underlying45, sizeOf_run zFall.2, Sem.run_bind, Instr.fill, newRow, zFall.1, Value.cells, range3, faA]
theorem wpList_bslF {ops : Array Oper} {rest : List Oper} {op : Oper} {a : Act} {w : World} {Q : Exit → Act → World → Prop} (hgd : op.guard = none) (x : Operand) (ho : op.op = .buildSlice 45 1 #[(0, x)]) (f : FA) (hx : a.eval x = .agg (faA f))
    (h : ∀ w1 : World, Below w.heap.size w w1 → Blk w1 w.heap.size (faA f) 32 → wpList Tryz.prog ops Q rest (a.put op.dst (.slice (some ⟨w.heap.size, 0, none⟩) 1 1)) w1) : wpList Tryz.prog ops Q (op :: rest) a w := by
  have e : (#[(0, x)] : Array (Nat × Operand)).map (fun (i, x) => (i, a.eval x)) = #[(0, .agg (faA f))] := by simp [hx]
  refine wpList_run hgd _ _ ?_ (h _ ((Below.refl _ _).alloc (Nat.le_refl _) _) (Blk.new _ _ _))
  unfold execOp
  simp only [ho, Sem.run_bind, e, bslF, Result.andThen_ok]
  rfl
theorem wpList_bsl0S {ops : Array Oper} {rest : List Oper} {op : Oper} {a : Act} {w : World} {Q : Exit → Act → World → Prop} (hgd : op.guard = none) (ho : op.op = .buildSlice 30 0 #[])
    (h : ∀ w1 : World, Below w.heap.size w w1 → TS w1 (.slice (some ⟨w.heap.size, 0, none⟩) 0 0) (some w.heap.size) [] → wpList Tryz.prog ops Q rest (a.put op.dst (.slice (some ⟨w.heap.size, 0, none⟩) 0 0)) w1) : wpList Tryz.prog ops Q (op :: rest) a w :=
  wpList_run hgd _ _ (run_bsl0S ho) (h _ ((Below.refl _ _).alloc (Nat.le_refl _) _) ⟨.inr ⟨w.heap.size, 0, 0, #[], rfl, rfl, (Blk.new _ _ _).out, by simp, by simp, fun j x hx => by simp at hx⟩⟩)
theorem sep_new {w : World} {N n c : Nat} {a : Option Addr} {fb rb : Option Nat} {l : List B} (hn : ∀ i, fb = some i → N ≤ i) (hrb : ∀ i, rb = some i → i < N) (hT : TS w (.slice a n c) fb l) : ∀ x, a = some x → some x.block ≠ rb := fun x e e2 => by
  have h1 := hn _ (ts_blk hT x e)
  have h2 := hrb _ e2.symm
  omega
theorem apart_of {N : Nat} {fb rb : Option Nat} (hn : ∀ i, fb = some i → N ≤ i) (hrb : ∀ i, rb = some i → i < N) : Apart fb rb := fun i e e2 => by
  have := hn i e
  have := hrb i e2.symm
  omega
/-- A fall's own block is written beside a log on whose disk nothing is planned. -/
theorem ge_fall {w wl w1 : World} {q p i : Nat} {b rb : Option Nat} {L : LG} {m : DN} {c : Array Value} (h : Ge w wl q p b rb L m) (hpl : m.pl = none) (hg : wl.grownBy w1 (some i)) (hb : Blk wl i c 32) (hi : w.heap.size ≤ i) : Ge w w1 q p b rb L m := by
  obtain ⟨rv, k1, k2, k3⟩ := h.k.out
  obtain ⟨v, kD, kP⟩ := k3.out
  obtain ⟨sl, d1, d2, d3⟩ := kD.out
  rw [hpl] at kP
  have nq : some q ≠ some i := fun e => by
    have := Option.some.inj e
    subst this
    exact kind_ne k1.out hb.out (by decide) rfl
  have np : some p ≠ some i := fun e => by
    have := Option.some.inj e
    subst this
    exact kind_ne d1.out hb.out (by decide) rfl
  refine ⟨⟨⟨rv, k1.grown hg nq, k2.grown hg (fun k e e2 => ?_), ⟨v, ⟨sl, d1.grown hg np, d2.grown hg (d2.ne hb (by decide)), d3⟩, ?_⟩⟩, h.k.q2, h.k.p2, h.k.b2, h.k.r2⟩, below_loc h.bel hg hi h.bel.size, h.q, h.p, h.b, h.rb⟩
  · have := Option.some.inj e2
    subst this
    obtain ⟨c2, f2, h5⟩ := k2.sb k e
    exact kind_ne h5 hb.out (by decide) rfl
  · rw [hpl]; exact kP
theorem ge_first {w w0 w1 w2 : World} {q p : Nat} {b2 rb2 : Option Nat} {L : LG} {m : DN} (h0 : Below w.heap.size w w0) (h1 : Below w0.heap.size w0 w1) (hp : w0.heap.size ≤ p) (hq : w1.heap.size ≤ q) (hW : Wch w1 w2 q p none none b2 rb2) (hK : WK w2 q p b2 rb2 L m) : Ge w w2 q p b2 rb2 L m := by
  have hB := h0.trans (h1.mono h0.size)
  obtain ⟨hlo, hbl, hrl⟩ := wch_low hW hB.size (Nat.le_trans hB.size hq) (Nat.le_trans h0.size hp) (fun k e => by cases e) (fun k e => by cases e)
  exact ⟨hK, hB.trans hlo, Nat.le_trans hB.size hq, Nat.le_trans h0.size hp, hbl, hrl⟩
theorem fa_first {w wl : World} {q p : Nat} {b rb : Option Nat} {M : Int} {f : FA} {ch : Nat} (hP : Py ⟨M, 1, [], [], 0, 0⟩ [(baseN 1, frs [[]] ++ frs [])] [] []) (hc : ch ≤ 4) (hf : (ch : Int) ≤ f.at_) (h : Ge w wl q p b rb ⟨M, 1, [], [], 0, 0⟩ (pm [(baseN 1, frs [[]] ++ frs [])] 0 ch f)) : FaA w wl q p f rb [] [] 0 := by
  have hu1 : usedP [(baseN 1, frs [[]] ++ frs [])] ≤ 100 := by
    have e2 : frs [] = [] := rfl
    rw [e2, frs_one]
    simp [usedP, frame_len]
  exact ⟨⟨b, _, _, [], [], ch, hP, rfl, rfl, Nat.le_refl _, Nat.le_refl _, by omega, by omega, hf, h⟩, Nat.le_refl _⟩
theorem ts_fresh (w : World) : TS (w.alloc (.cells #[] 9)) (.slice (some ⟨w.heap.size, 0, none⟩) 0 0) (some w.heap.size) [] := ⟨.inr ⟨w.heap.size, 0, 0, #[], rfl, rfl, (Blk.new _ _ _).out, by simp, by simp, fun j x hx => by simp at hx⟩⟩
/-- What the loop of WalFalls knows. -/
structure FaL (w wl : World) (q p : Nat) (f : FA) (v11 v12 v13 v14 : Value) (i : Nat) (dead : Bool) : Prop where
  out : ∃ (s : B) (k : List B) (fa : Option Nat), v11 = .string ⟨s.toArray⟩ ∧ TS wl v12 fa k ∧ Blk wl w.heap.size (faA f) 32 ∧ (dead = false → ∃ rb, FaA w wl q p f rb s k i ∧ Apart fa rb) ∧ (dead = true → ∃ s2 k2 fm, FaD w wl q p s k s2 k2 ∧ v13 = .string ⟨s2.toArray⟩ ∧ TS wl v14 fm k2)
theorem fal_ends {w wl : World} {q p i : Nat} {f : FA} {s : B} {k : List B} {fa : Option Nat} {v13 v14 : Value} {dead : Bool} (hAl : dead = false → ∃ rb, FaA w wl q p f rb s k i ∧ Apart fa rb) (hDd : dead = true → ∃ s2 k2 fm, FaD w wl q p s k s2 k2 ∧ v13 = .string ⟨s2.toArray⟩ ∧ TS wl v14 fm k2) (hi : i ≤ 40) : FaE w wl q p s k v13 v14 := by
  cases dead with
  | false =>
    obtain ⟨rb, h1, _⟩ := hAl rfl
    exact h1.ends hi _ _
  | true =>
    obtain ⟨s2, k2, fm, h1, h2, h3⟩ := hDd rfl
    rw [h2]
    exact h1.ends _ fm h3
set_option maxRecDepth 100000 in
set_option maxHeartbeats 16000000 in
theorem walFalls_any (z : Int) (acts : List AC) (ad : Option Addr) (cap : Nat) (f0 : FA) (w : World) (hG : Gw w) (hA : AA w ad acts) (hS : ∀ x ∈ acts, x.s.length ≤ 1048576) (hf0 : f0.at_ ≤ 9223372036854775807) :
    Calls Tryz.prog 4 #[.int .i64 z, .slice ad acts.length cap, .agg (faA f0)] w fun e w' => e = .returned (.bool true) ∧ Below w.heap.size w w' := by
  obtain ⟨cc, hcc⟩ : ∃ cc : Bool, Hid (cc = decide (z < 1)) := ⟨_, rfl⟩
  obtain ⟨M, hM⟩ : ∃ M : Int, Hid (M = if cc = true then 1 else z) := ⟨_, rfl⟩
  have hM1 : 1 ≤ M := by
    have h1 := hM.out
    have h2 := hcc.out
    rw [h1]
    split
    · decide
    · rename_i h3
      rw [h2] at h3
      simp at h3
      omega
  have h2g := hG.two
  go_enter Tryz.func4, Tryz.ntmps4
  go_upto_region 1 with ((with_reducible (refine at_list ?_; refine wpList_boxRow (op := ⟨some 5, _, _, _, _, _⟩) rfl _ _ rfl (faA f0) rfl ?_)); intro w0 hw0 hs0 hb0)
  have hlt0 : w.heap.size < w0.heap.size := by omega
  clear hs0
  have HN := newD w0
  go_cut [25] from 24 to 25 (fun s25 wx => s25 = .bool cc ∧ wx = w0)
  case first =>
    by_cases h1 : z < 1
    · have e : cc = true := by rw [hcc.out, decide_eq_true h1]
      subst e
      go_wp2_with fail
      go_meet
      case rel => exact ⟨rfl, rfl⟩
    · have e : cc = false := by rw [hcc.out, decide_eq_false h1]
      subst e
      go_wp2_with fail
      go_meet
      case rel => exact ⟨rfl, rfl⟩
  case rest =>
    obtain ⟨e25, hwx⟩ := hcut
    subst e25
    have hwx2 := hwx.symm; subst hwx2; clear hwx
    go_upto_if 25 with fail
    go_cut [0] from 24 to 25 (fun s0 wx => s0 = .int .i64 M ∧ wx = w0)
    case first =>
      cases cc with
      | true =>
        have e : M = 1 := hM.out
        subst e
        go_wp2_with fail
        go_meet
        case rel => exact ⟨rfl, rfl⟩
      | false =>
        have e : M = z := hM.out
        subst e
        go_wp2_with fail
        go_meet
        case rel => exact ⟨rfl, rfl⟩
    case rest =>
      obtain ⟨e0, hwx⟩ := hcut
      subst e0
      have hwx2 := hwx.symm; subst hwx2; clear hwx
      clear hcc hM
      have hG0 := hG.below hw0
      have h2w0 : 2 ≤ w0.heap.size := Nat.le_trans h2g hw0.size
      go_upto_region 7 with (first
        | (go_at_call 9; refine HN.mono ?_; rintro e w1 ⟨rfl, hw1, hD1⟩; obtain ⟨ch1, hch1, HO1⟩ := open_new w0.heap.size M hM1 w1 hD1 h2w0 (hG0.below hw1))
        | (go_at_call 10; refine HO1.mono ?_; intro e w2 hop; obtain ⟨q, b2, rb2, rfl, hq, hW2, hK2⟩ := op_ok hop; clear hop HO1; have hE2 := ge_first hw0 hw1 (Nat.le_refl _) hq hW2 hK2; have HA2 := awakeW w2 (hG.below hE2.bel))
        | (go_at_call 11; refine HA2.mono ?_; rintro e w3 ⟨rfl, hw3⟩; have hE3 := hE2.below hw3))
      have hb1 := hb0.belowSize hw1
      have hb2 : Blk w2 w.heap.size (faA f0) 32 := ⟨(hW2.block w.heap.size hb1.lt (by have := hw1.size; omega) (by omega) (fun e => by cases e) (fun e => by cases e)).trans hb1.out⟩
      have hb3 := hb2.belowSize hw3
      have hPy1 := py_reset ⟨M, 0, [], [], 0, 0⟩ [] [] (by show 0 < 99; omega)
      change Py ⟨M, 1, [], [], 0, 0⟩ [(baseN 1, frs [[]] ++ frs [])] [] [] at hPy1
      have HF1 := fun wl b rb f ch hc hf h => fa_first (w := w) (wl := wl) (q := q) (p := w0.heap.size) (b := b) (rb := rb) (f := f) (ch := ch) hPy1 hc hf h
      clear HN HA2 hE2 hW2 hK2 hD1 hb0 hb1 hb2 hw3 hw1 hPy1
      generalize [(baseN 1, frs [[]] ++ frs [])] = P1 at *
      go_upto_if 46 with ((with_reducible (refine at_list ?_; refine wpList_loadCell (op := ⟨some 45, _, _, _, _, _⟩) rfl _ _ rfl w.heap.size 0 rfl _ _ hb3 _ Tryz.underlying3 rfl _ (faA_g0 _) ?_)))
      go_cut [] from 44 to 47 (fun wx => ∃ a0 : Int, 0 ≤ a0 ∧ a0 ≤ 9223372036854775807 ∧ Ge w wx q w0.heap.size b2 rb2 ⟨M, 1, [], [], 0, 0⟩ (cm P1 0 ch1) ∧ Blk wx w.heap.size (faA ⟨a0, f0.keep, f0.torn⟩) 32)
      case first =>
        by_cases hn : f0.at_ < 0
        · go_wp2_with ((with_reducible (refine at_list ?_; refine wpList_storeCell (op := ⟨none, .store 3 (.tmp 47) _, _, _, _, _⟩) rfl _ _ _ rfl w.heap.size 0 rfl (.int .i64 0) rfl _ _ hb3 iInt rfl rfl (by simp [faA]) ?_)); intro w4 hg4 hs4 hb4; clear hs4)
          go_meet
          case rel => exact ⟨0, by omega, by omega, ge_fall hE3 rfl hg4 hb3 (Nat.le_refl _), hb4⟩
        · go_wp2_with fail
          go_meet
          case rel => exact ⟨f0.at_, by omega, hf0, hE3, hb3⟩
      case rest =>
        obtain ⟨a0, ha0, ha1, hE5, hb5⟩ := hcut
        clear hE3 hb3
        go_upto_region 9 with fail
        obtain ⟨r0, hr0, hr1, hr2⟩ : ∃ r0 : Int, a0.tmod 40 = r0 ∧ 0 ≤ r0 ∧ r0 ≤ 39 := ⟨_, rfl, by have := Int.tmod_eq_emod_of_nonneg (b := 40) ha0; omega, by have := Int.tmod_eq_emod_of_nonneg (b := 40) ha0; omega⟩
        go_cut [] from 48 to 54 (fun wx => Ge w wx q w0.heap.size b2 rb2 ⟨M, 1, [], [], 0, 0⟩ (cm P1 0 ch1) ∧ Blk wx w.heap.size (faA ⟨(ch1 : Nat) + r0, f0.keep, f0.torn⟩) 32)
        case first =>
          have hbd := hb5.belowSize (Below.drewS wc)
          have hwr : IntKind.i64.wrap ((ch1 : Int) + r0) = (ch1 : Int) + r0 := by rw [IntKind.wrap_i64]; omega
          refine wp_region_held_drew (S := fun w' : World => Ge w w' q w0.heap.size b2 rb2 ⟨M, 1, [], [], 0, 0⟩ (cm P1 0 ch1)) (by kernel_rfl) (hE5.below (Below.drewS wc)) (fun hH => ?_)
          try go_frame
          refine wpAnyH_take (i := 0) (oi := ⟨some 48, _, _, _, _, _⟩) (v := .pointer (some ⟨w0.heap.size, 0, none⟩)) rfl (by kernel_rfl) (by kernel_rfl) (by kernel_rfl) (fun _ _ _ h => h) (Or.inl ⟨by rfl, fun w hSw => by go_simp⟩) hH ?_
          try simp only [Act.put, List.setIfInBounds_toArray, List.set_cons_zero, List.set_cons_succ]
          refine wpAnyH_take (i := 2) (oi := ⟨some 50, _, _, _, _, _⟩) (v := .pointer (some ⟨w.heap.size, 0, none⟩)) rfl (by kernel_rfl) (by kernel_rfl) (by kernel_rfl) (fun _ _ _ h => h) (Or.inl ⟨by rfl, fun w hSw => by go_simp⟩) hH ?_
          try simp only [Act.put, List.setIfInBounds_toArray, List.set_cons_zero, List.set_cons_succ]
          refine wpAnyH_duo (i := 1) (k := 3) (o := ⟨some 49, _, _, _, _, _⟩) (p := ⟨some 51, _, _, _, _, _⟩) rfl rfl (by kernel_rfl) (fun K hK => ?_) (fun K hK => ?_)
          · refine wpList_callR Tryz.func21 (by kernel_rfl) (by kernel_rfl) rfl _ _ rfl #[.pointer (some ⟨w0.heap.size, 0, none⟩)] (args1 rfl) _ (ge_changes_cm hH) ?_
            rintro e wx ⟨rfl, hwx⟩
            have hwx2 := hwx.symm; subst hwx2; clear hwx
            refine ⟨_, rfl, ?_⟩
            refine hK _ _ hH ?_
            clear hK K
            try simp only [Act.put, List.setIfInBounds_toArray, List.set_cons_zero, List.set_cons_succ]
            refine wpAnyH_solo (i := 3) (o := ⟨some 51, _, _, _, _, _⟩) rfl (by kernel_rfl) (fun K hK => ?_)
            refine wpList_loadCell rfl _ _ rfl w.heap.size 0 rfl _ _ hbd _ Tryz.underlying3 rfl (.int .i64 a0) (faA_g0 _) ?_
            refine hK _ _ hH ?_
            clear hK K
            try simp only [Act.put, List.setIfInBounds_toArray, List.set_cons_zero, List.set_cons_succ]
            refine wpAnyH_solo (i := 4) (o := ⟨some 52, _, _, _, _, _⟩) rfl (by kernel_rfl) (fun K hK => ?_)
            refine wpList_pure rfl (.int .i64 r0) (by go_simp) ?_
            refine hK _ _ hH ?_
            clear hK K
            try simp only [Act.put, List.setIfInBounds_toArray, List.set_cons_zero, List.set_cons_succ]
            refine wpAnyH_solo (i := 5) (o := ⟨some 53, _, _, _, _, _⟩) rfl (by kernel_rfl) (fun K hK => ?_)
            refine wpList_pure rfl (.int .i64 ((ch1 : Nat) + r0)) (by go_simp) ?_
            refine hK _ _ hH ?_
            clear hK K
            try simp only [Act.put, List.setIfInBounds_toArray, List.set_cons_zero, List.set_cons_succ]
            refine wpAnyH_solo (i := 6) (o := ⟨some 54, _, _, _, _, _⟩) rfl (by kernel_rfl) (fun K hK => ?_)
            refine wpList_pure rfl (.pointer (some ⟨w.heap.size, 0, none⟩)) (by go_simp) ?_
            refine hK _ _ hH ?_
            clear hK K
            try simp only [Act.put, List.setIfInBounds_toArray, List.set_cons_zero, List.set_cons_succ]
            refine wpAnyH_solo (i := 7) (o := ⟨none, _, _, _, _, _⟩) rfl (by kernel_rfl) (fun K hK => ?_)
            refine wpList_storeCell rfl _ _ _ rfl w.heap.size 0 rfl (.int .i64 ((ch1 : Nat) + r0)) rfl _ _ hbd iInt rfl rfl (by simp [faA]) ?_
            intro w6 hg6 hs6 hb6
            clear hs6
            have hH6 := ge_fall hH rfl hg6 hbd (Nat.le_refl _)
            refine hK _ _ hH6 ?_
            clear hK K
            try simp only [Act.put]
            refine wpAnyH_done (by kernel_rfl) ?_ _
            try simp only [Act.put]
            try go_simp
            go_wp2_with fail
            go_meet
            case rel => exact ⟨hH6, hb6⟩
          · refine wpList_loadCell rfl _ _ rfl w.heap.size 0 rfl _ _ hbd _ Tryz.underlying3 rfl (.int .i64 a0) (faA_g0 _) ?_
            refine hK _ _ hH ?_
            clear hK K
            try simp only [Act.put, List.setIfInBounds_toArray, List.set_cons_zero, List.set_cons_succ]
            refine wpAnyH_take (i := 4) (oi := ⟨some 52, _, _, _, _, _⟩) (v := .int .i64 r0) rfl (by kernel_rfl) (by kernel_rfl) (by kernel_rfl) (fun _ _ _ h => h) (Or.inl ⟨by rfl, fun w hSw => by go_simp⟩) hH ?_
            try simp only [Act.put, List.setIfInBounds_toArray, List.set_cons_zero, List.set_cons_succ]
            refine wpAnyH_solo (i := 1) (o := ⟨some 49, _, _, _, _, _⟩) rfl (by kernel_rfl) (fun K hK => ?_)
            refine wpList_callR Tryz.func21 (by kernel_rfl) (by kernel_rfl) rfl _ _ rfl #[.pointer (some ⟨w0.heap.size, 0, none⟩)] (args1 rfl) _ (ge_changes_cm hH) ?_
            rintro e wx ⟨rfl, hwx⟩
            have hwx2 := hwx.symm; subst hwx2; clear hwx
            refine ⟨_, rfl, ?_⟩
            refine hK _ _ hH ?_
            clear hK K
            try simp only [Act.put, List.setIfInBounds_toArray, List.set_cons_zero, List.set_cons_succ]
            refine wpAnyH_solo (i := 5) (o := ⟨some 53, _, _, _, _, _⟩) rfl (by kernel_rfl) (fun K hK => ?_)
            refine wpList_pure rfl (.int .i64 ((ch1 : Nat) + r0)) (by go_simp) ?_
            refine hK _ _ hH ?_
            clear hK K
            try simp only [Act.put, List.setIfInBounds_toArray, List.set_cons_zero, List.set_cons_succ]
            refine wpAnyH_solo (i := 6) (o := ⟨some 54, _, _, _, _, _⟩) rfl (by kernel_rfl) (fun K hK => ?_)
            refine wpList_pure rfl (.pointer (some ⟨w.heap.size, 0, none⟩)) (by go_simp) ?_
            refine hK _ _ hH ?_
            clear hK K
            try simp only [Act.put, List.setIfInBounds_toArray, List.set_cons_zero, List.set_cons_succ]
            refine wpAnyH_solo (i := 7) (o := ⟨none, _, _, _, _, _⟩) rfl (by kernel_rfl) (fun K hK => ?_)
            refine wpList_storeCell rfl _ _ _ rfl w.heap.size 0 rfl (.int .i64 ((ch1 : Nat) + r0)) rfl _ _ hbd iInt rfl rfl (by simp [faA]) ?_
            intro w6 hg6 hs6 hb6
            clear hs6
            have hH6 := ge_fall hH rfl hg6 hbd (Nat.le_refl _)
            refine hK _ _ hH6 ?_
            clear hK K
            try simp only [Act.put]
            refine wpAnyH_done (by kernel_rfl) ?_ _
            try simp only [Act.put]
            try go_simp
            go_wp2_with fail
            go_meet
            case rel => exact ⟨hH6, hb6⟩
        case rest =>
          obtain ⟨hE6, hb6⟩ := hcut
          clear hE5 hb5
          have hfa : (ch1 : Int) ≤ (FA.mk ((ch1 : Nat) + r0) f0.keep f0.torn).at_ := by show (ch1 : Int) ≤ (ch1 : Nat) + r0; omega
          generalize (FA.mk ((ch1 : Nat) + r0) f0.keep f0.torn) = fv at *
          go_upto_region 11 with (first
            | ((with_reducible (refine at_list ?_; refine wpList_loadRow (op := ⟨some 56, _, _, _, _, _⟩) rfl _ _ rfl w.heap.size rfl _ _ hb6 _ Tryz.underlying32 rfl (iFa fv) ?_)))
            | ((with_reducible (refine at_list ?_; refine wpList_bslF (op := ⟨some 57, _, _, _, _, _⟩) rfl _ rfl fv rfl ?_)); intro w7 hw7 hb7; have HPl := ge_plan1 (hE6.below hw7) hG fv hb7)
            | (go_at_call 22; refine HPl.mono ?_; rintro e w8 ⟨rfl, hE8, hK8⟩; clear HPl))
          have hb8 := hK8.b (hb6.belowSize hw7) (by decide) (by decide)
          have hF8 := HF1 w8 b2 rb2 fv ch1 hch1 hfa hE8
          have hB9 : Below w8.heap.size w8 (w8.alloc (.cells #[] 9)) := (Below.refl _ _).alloc (Nat.le_refl _) _
          have hB10 : Below (w8.alloc (.cells #[] 9)).heap.size (w8.alloc (.cells #[] 9)) ((w8.alloc (.cells #[] 9)).alloc (.cells #[] 9)) := (Below.refl _ _).alloc (Nat.le_refl _) _
          have hF10 := (hF8.below hB9).below hB10
          have hb10 := (hb8.belowSize hB9).belowSize hB10
          have hT12 := (ts_fresh w8).below hB10
          have hAp0 : Apart (some w8.heap.size) rb2 := apart_of (N := w8.heap.size) (fun i e => by cases e; exact Nat.le_refl _) hF8.bel.2
          have hL0 : FaL w ((w8.alloc (.cells #[] 9)).alloc (.cells #[] 9)) q w0.heap.size fv (.string ⟨#[]⟩) (.slice (some ⟨w8.heap.size, 0, none⟩) 0 0) (.string ⟨#[]⟩) (.slice (some ⟨(w8.alloc (.cells #[] 9)).heap.size, 0, none⟩) 0 0) 0 false := ⟨[], [], some w8.heap.size, rfl, hT12, hb10, fun _ => ⟨rb2, hF10, hAp0⟩, fun e => (by cases e)⟩
          clear HF1 hF8 hE8 hK8 hb8 hE6 hb6 hb7 hw7 hF10 hb10 hT12 hAp0
          go_wp2_with fail
          go_loopw [11, 12, 13, 14, 15] (fun v11 v12 v13 v14 v15 wl => ∃ (i : Nat) (dead : Bool), i ≤ acts.length ∧ i ≤ 30 ∧ v15 = .int .i64 i ∧ FaL w wl q w0.heap.size fv v11 v12 v13 v14 i dead) (fun _ _ _ _ v15 _ => 30 - (intOf v15).toNat)
          case atStart => first | exact ⟨0, false, by omega, by omega, rfl, hL0⟩ | (refine ⟨0, false, by omega, by omega, rfl, ?_⟩; simpa using hL0)
          case round =>
            clear hL0 hB9 hB10
            obtain ⟨i, dead, hil, hi30, rfl, hI⟩ := hrel
            obtain ⟨s, k, fa, e11, hU, hbF, hAl, hDd⟩ := hI.out
            subst e11
            obtain ⟨ak, ck, e12, _, _⟩ := hU.sl
            subst e12
            by_cases hlt : i < acts.length ∧ i < 30 ∧ dead = false
            · obtain ⟨hlt1, hlt2, hdd⟩ := hlt
              subst hdd
              obtain ⟨rb, hF, hAp⟩ := hAl rfl
              clear hAl hDd hI
              have hkl := hF.len
              have HD := hF.dead
              have hz1 : (i : Int) < (acts.length : Int) := by omega
              have hz2 : (i : Int) < (30 : Int) := by omega
              obtain ⟨x, hx⟩ : ∃ x, acts[i]? = some x := ⟨_, List.getElem?_eq_getElem hlt1⟩
              obtain ⟨g, o, rfl, hrg0, hxa, hxc⟩ := hA.out i x hx
              have hxs := hS x (List.mem_of_getElem? hx)
              have hrg := range_below hrg0 hF.bel.1
              obtain ⟨c, HC, hcl, hcx⟩ : ∃ c : List B, (∀ wx, XA wx x.la x.l → Calls Tryz.prog 13 #[.slice x.la x.l.length x.lc] wx fun e w' => ∃ v rb, e = .returned v ∧ Below wx.heap.size wx w' ∧ TS w' v rb c ∧ ∀ k, rb = some k → wx.heap.size ≤ k) ∧ c.length ≤ 6 ∧ ∀ y ∈ c, y.length ≤ 200 := ⟨cutL x.l, fun wx h => cut_any x.l x.la x.lc wx h hxc, cutL_len _, fun y hy => cutL_x hy⟩
              go_upto_region 17 with (first
                | (go_at_call 23; refine HD.mono ?_; rintro e wx ⟨rfl, hwx⟩; have hwx2 := hwx.symm; subst hwx2; clear hwx)
                | ((with_reducible (refine at_list ?_; refine wpList_run (op := ⟨some 79, _, _, _, _, _⟩) rfl _ _ (run_loadMid 34 _ rfl g (o + i * 6) rfl (aC x) hrg _ Tryz.underlying34 rfl (iAct x)) ?_)))
                | ((with_reducible (refine at_list ?_; refine wpList_allocRow (op := ⟨some 16, _, _, _, _, _⟩) rfl _ rfl _ zAct.1 ?_)); intro w2 hw2 hs2 h12; clear hs2)
                | ((with_reducible (refine at_list ?_; refine wpList_storeRow (op := ⟨none, .store 34 (.tmp 16) (.tmp 79), _, _, _, _⟩) rfl _ _ _ rfl wr.heap.size (aC x) rfl rfl _ _ h12 rfl (iAct _) (aC_one _) ?_)); intro w3 hg3 hs3 h12b; clear hs3))
              have hB3 := hw2.trans (below_of_grown hg3 (Nat.le_refl _) hw2.size)
              have hF3 := hF.below hB3
              have hU3 := hU.below hB3
              have hbF3 := hbF.belowSize hB3
              clear hF hU hbF hrg hw2 hg3 h12 hB3 HD
              by_cases hk3 : x.kind = 3
              · go_upto_region 18 with ((with_reducible (refine at_list ?_; refine wpList_loadCell (op := ⟨some 81, _, _, _, _, _⟩) rfl _ _ rfl wr.heap.size 0 rfl _ _ h12b _ Tryz.underlying3 rfl _ (aC_g0 _) ?_)))
                have hd3 := Below.drewS w3
                have hF3d := hF3.below hd3
                have HC3 := HC w3.drew (hxa.below hF3d.bel.1)
                refine wp_region_held_drew (S := fun w' : World => Blk w' wr.heap.size (aC x) 34) (by kernel_rfl) (h12b.drew) (fun hH => ?_)
                try go_frame
                refine wpAnyH_take (i := 0) (oi := ⟨some 83, _, _, _, _, _⟩) (v := .pointer (some ⟨wr.heap.size, 1, none⟩)) rfl (by kernel_rfl) (by kernel_rfl) (by kernel_rfl) (fun _ _ _ h => h) (Or.inl ⟨by rfl, fun w hSw => by go_simp⟩) hH ?_
                try simp only [Act.put, List.setIfInBounds_toArray, List.set_cons_zero, List.set_cons_succ]
                refine wpAnyH_take (i := 1) (oi := ⟨some 84, _, _, _, _, _⟩) (v := .string ⟨x.s.toArray⟩) rfl (by kernel_rfl) (by kernel_rfl) (by kernel_rfl) (fun _ _ _ h => h) (Or.inl ⟨by rfl, fun w hSw => run_loadCellB _ _ rfl _ 1 rfl _ _ hSw _ Tryz.underlying9 rfl _ (aC_g1 _)⟩) hH ?_
                try simp only [Act.put, List.setIfInBounds_toArray, List.set_cons_zero, List.set_cons_succ]
                refine wpAnyH_take (i := 2) (oi := ⟨some 85, _, _, _, _, _⟩) (v := .pointer (some ⟨wr.heap.size, 2, none⟩)) rfl (by kernel_rfl) (by kernel_rfl) (by kernel_rfl) (fun _ _ _ h => h) (Or.inl ⟨by rfl, fun w hSw => by go_simp⟩) hH ?_
                try simp only [Act.put, List.setIfInBounds_toArray, List.set_cons_zero, List.set_cons_succ]
                refine wpAnyH_take (i := 3) (oi := ⟨some 86, _, _, _, _, _⟩) (v := .slice x.la x.l.length x.lc) rfl (by kernel_rfl) (by kernel_rfl) (by kernel_rfl) (fun _ _ _ h => h) (Or.inl ⟨by rfl, fun w hSw => run_loadCellB _ _ rfl _ 2 rfl _ _ hSw _ Tryz.underlying30 rfl _ (aC_g2 _)⟩) hH ?_
                try simp only [Act.put, List.setIfInBounds_toArray, List.set_cons_zero, List.set_cons_succ]
                refine wpAnyH_solo (i := 4) (o := ⟨some 87, _, _, _, _, _⟩) rfl (by kernel_rfl) (fun K hK => ?_)
                refine wpList_callR Tryz.func13 (by kernel_rfl) (by kernel_rfl) rfl _ _ rfl #[.slice x.la x.l.length x.lc] (args1 rfl) _ (HC3) ?_
                rintro e w4 ⟨v4, fm, rfl, hw4, hT4, hn4⟩
                obtain ⟨am, cm4, eam, _, _⟩ := hT4.sl
                subst eam
                have hH4 := hH.belowSize hw4
                refine ⟨_, rfl, ?_⟩
                refine hK _ _ hH4 ?_
                clear hK K
                try simp only [Act.put, List.setIfInBounds_toArray, List.set_cons_zero, List.set_cons_succ]
                refine wpAnyH_solo (i := 5) (o := ⟨some 13, _, _, _, _, _⟩) rfl (by kernel_rfl) (fun K hK => ?_)
                refine wpList_pure rfl (.string ⟨x.s.toArray⟩) (by go_simp) ?_
                refine hK _ _ hH4 ?_
                clear hK K
                try simp only [Act.put, List.setIfInBounds_toArray, List.set_cons_zero, List.set_cons_succ]
                refine wpAnyH_solo (i := 6) (o := ⟨some 14, _, _, _, _, _⟩) rfl (by kernel_rfl) (fun K hK => ?_)
                refine wpList_pure rfl (.slice am c.length cm4) (by go_simp) ?_
                refine hK _ _ hH4 ?_
                clear hK K
                try simp only [Act.put, List.setIfInBounds_toArray, List.set_cons_zero, List.set_cons_succ]
                refine wpAnyH_done (by kernel_rfl) ?_ _
                try simp only [Act.put]
                try go_simp
                clear HC3
                go_upto_region 19 with fail
                have hd4 := (hw4.trans ((Below.drewS w4).mono hw4.size))
                have hF4d := hF3d.below hd4
                have hU4d := (hU3.below hd3).below hd4
                have hM4d := hT4.below (Below.drewS w4)
                have hbF4d := (hbF3.belowSize hd3).belowSize hd4
                have HC4 := HC w4.drew (hxa.below hF4d.bel.1)
                refine wp_region_held_drew (S := fun w' : World => Blk w' wr.heap.size (aC x) 34) (by kernel_rfl) (hH4.drew) (fun hH => ?_)
                try go_frame
                refine wpAnyH_take (i := 0) (oi := ⟨some 88, _, _, _, _, _⟩) (v := .pointer (some ⟨q, 0, none⟩)) rfl (by kernel_rfl) (by kernel_rfl) (by kernel_rfl) (fun _ _ _ h => h) (Or.inl ⟨by rfl, fun w hSw => by go_simp⟩) hH ?_
                try simp only [Act.put, List.setIfInBounds_toArray, List.set_cons_zero, List.set_cons_succ]
                refine wpAnyH_take (i := 1) (oi := ⟨some 89, _, _, _, _, _⟩) (v := .pointer (some ⟨wr.heap.size, 1, none⟩)) rfl (by kernel_rfl) (by kernel_rfl) (by kernel_rfl) (fun _ _ _ h => h) (Or.inl ⟨by rfl, fun w hSw => by go_simp⟩) hH ?_
                try simp only [Act.put, List.setIfInBounds_toArray, List.set_cons_zero, List.set_cons_succ]
                refine wpAnyH_take (i := 2) (oi := ⟨some 90, _, _, _, _, _⟩) (v := .string ⟨x.s.toArray⟩) rfl (by kernel_rfl) (by kernel_rfl) (by kernel_rfl) (fun _ _ _ h => h) (Or.inl ⟨by rfl, fun w hSw => run_loadCellB _ _ rfl _ 1 rfl _ _ hSw _ Tryz.underlying9 rfl _ (aC_g1 _)⟩) hH ?_
                try simp only [Act.put, List.setIfInBounds_toArray, List.set_cons_zero, List.set_cons_succ]
                refine wpAnyH_take (i := 3) (oi := ⟨some 91, _, _, _, _, _⟩) (v := .pointer (some ⟨wr.heap.size, 2, none⟩)) rfl (by kernel_rfl) (by kernel_rfl) (by kernel_rfl) (fun _ _ _ h => h) (Or.inl ⟨by rfl, fun w hSw => by go_simp⟩) hH ?_
                try simp only [Act.put, List.setIfInBounds_toArray, List.set_cons_zero, List.set_cons_succ]
                refine wpAnyH_take (i := 4) (oi := ⟨some 92, _, _, _, _, _⟩) (v := .slice x.la x.l.length x.lc) rfl (by kernel_rfl) (by kernel_rfl) (by kernel_rfl) (fun _ _ _ h => h) (Or.inl ⟨by rfl, fun w hSw => run_loadCellB _ _ rfl _ 2 rfl _ _ hSw _ Tryz.underlying30 rfl _ (aC_g2 _)⟩) hH ?_
                try simp only [Act.put, List.setIfInBounds_toArray, List.set_cons_zero, List.set_cons_succ]
                refine wpAnyH_solo (i := 5) (o := ⟨some 93, _, _, _, _, _⟩) rfl (by kernel_rfl) (fun K hK => ?_)
                refine wpList_callR Tryz.func13 (by kernel_rfl) (by kernel_rfl) rfl _ _ rfl #[.slice x.la x.l.length x.lc] (args1 rfl) _ (HC4) ?_
                rintro e w6 ⟨v6, rb6, rfl, hw6, hT6, hn6⟩
                obtain ⟨a6, c6, ea6, _, _⟩ := hT6.sl
                subst ea6
                have hH6 := hH.belowSize hw6
                have hF6 := hF4d.below hw6
                have HR6 := fa_reset hF6 hG (by omega) x.s c a6 c6 hT6.ta (sep_new hn6 hF4d.bel.2 hT6) hxs hcl hcx
                have hU6 := hU4d.below hw6
                have hM6 := hM4d.below hw6
                have hbF6 := hbF4d.belowSize hw6
                refine ⟨_, rfl, ?_⟩
                refine hK _ _ hH6 ?_
                clear hK K
                try simp only [Act.put, List.setIfInBounds_toArray, List.set_cons_zero, List.set_cons_succ]
                refine wpAnyH_solo (i := 6) (o := ⟨some 94, _, _, _, _, _⟩) rfl (by kernel_rfl) (fun K hK => ?_)
                refine wpList_callR Tryz.func12 (by kernel_rfl) (by kernel_rfl) rfl _ _ rfl #[.pointer (some ⟨q, 0, none⟩), .string ⟨x.s.toArray⟩, .slice a6 c.length c6] (args3 rfl rfl rfl) _ (HR6) ?_
                rintro e w7 ⟨ok, rb7, rfl, hKw, hok, hno⟩
                clear HR6
                have hH7 := hKw.blk _ _ _ hH6 (by decide) (by decide) (by decide) (by decide)
                have hbF7 := hKw.blk _ _ _ hbF6 (by decide) (by decide) (by decide) (by decide)
                have hU7 := hKw.ts _ _ _ hU6 hAp
                have hM7 := hKw.ts _ _ _ hM6 (apart_of hn4 hF3d.bel.2)
                refine ⟨_, rfl, ?_⟩
                refine hK _ _ hH7 ?_
                clear hK K
                try simp only [Act.put, List.setIfInBounds_toArray, List.set_cons_zero, List.set_cons_succ]
                refine wpAnyH_solo (i := 7) (o := ⟨some 95, _, _, _, _, _⟩) rfl (by kernel_rfl) (fun K hK => ?_)
                refine wpList_pure rfl (.bool ok) (by cases ok <;> go_simp) ?_
                refine hK _ _ hH7 ?_
                clear hK K
                try simp only [Act.put, List.setIfInBounds_toArray, List.set_cons_zero, List.set_cons_succ]
                refine wpAnyH_done (by kernel_rfl) ?_ _
                try simp only [Act.put]
                try go_simp
                cases ok with
                | true =>
                  go_wp2_with fail
                  go_roundw
                  case rel => exact ⟨i + 1, false, by omega, by omega, by go_num, ⟨x.s, c, fm, rfl, hM7.1, hbF7, fun _ => ⟨rb7, hok rfl, hM7.2⟩, fun e => (by cases e)⟩⟩
                  case measure => simp [intOf]; omega
                | false =>
                  go_wp2_with fail
                  go_roundw
                  case rel => exact ⟨i + 1, true, by omega, by omega, by go_num, ⟨s, k, fa, rfl, hU7.1, hbF7, fun e => (by cases e), fun _ => ⟨x.s, c, fm, hno rfl, rfl, hM7.1⟩⟩⟩
                  case measure => simp [intOf]; omega
              · go_upto_region 21 with ((with_reducible (refine at_list ?_; refine wpList_loadCell (op := ⟨some 81, _, _, _, _, _⟩) rfl _ _ rfl wr.heap.size 0 rfl _ _ h12b _ Tryz.underlying3 rfl _ (aC_g0 _) ?_)))
                have hd3 := Below.drewS w3
                have hF3d := hF3.below hd3
                have hU3d := hU3.below hd3
                have hbF3d := hbF3.belowSize hd3
                refine wp_region_held_drew (S := fun w' : World => Blk w' wr.heap.size (aC x) 34) (by kernel_rfl) (h12b.drew) (fun hH => ?_)
                try go_frame
                refine wpAnyH_take (i := 0) (oi := ⟨some 98, _, _, _, _, _⟩) (v := .string ⟨s.toArray⟩) rfl (by kernel_rfl) (by kernel_rfl) (by kernel_rfl) (fun _ _ _ h => h) (Or.inl ⟨by rfl, fun w hSw => by go_simp⟩) hH ?_
                try simp only [Act.put, List.setIfInBounds_toArray, List.set_cons_zero, List.set_cons_succ]
                refine wpAnyH_take (i := 2) (oi := ⟨some 100, _, _, _, _, _⟩) (v := .slice ak k.length ck) rfl (by kernel_rfl) (by kernel_rfl) (by kernel_rfl) (fun _ _ _ h => h) (Or.inl ⟨by rfl, fun w hSw => by go_simp⟩) hH ?_
                try simp only [Act.put, List.setIfInBounds_toArray, List.set_cons_zero, List.set_cons_succ]
                refine wpAnyH_take (i := 4) (oi := ⟨some 102, _, _, _, _, _⟩) (v := .pointer (some ⟨wr.heap.size, 2, none⟩)) rfl (by kernel_rfl) (by kernel_rfl) (by kernel_rfl) (fun _ _ _ h => h) (Or.inl ⟨by rfl, fun w hSw => by go_simp⟩) hH ?_
                try simp only [Act.put, List.setIfInBounds_toArray, List.set_cons_zero, List.set_cons_succ]
                refine wpAnyH_take (i := 5) (oi := ⟨some 103, _, _, _, _, _⟩) (v := .slice x.la x.l.length x.lc) rfl (by kernel_rfl) (by kernel_rfl) (by kernel_rfl) (fun _ _ _ h => h) (Or.inl ⟨by rfl, fun w hSw => run_loadCellB _ _ rfl _ 2 rfl _ _ hSw _ Tryz.underlying30 rfl _ (aC_g2 _)⟩) hH ?_
                try simp only [Act.put, List.setIfInBounds_toArray, List.set_cons_zero, List.set_cons_succ]
                refine wpAnyH_solo (i := 1) (o := ⟨some 99, _, _, _, _, _⟩) rfl (by kernel_rfl) (fun K hK => ?_)
                refine wpList_bsl0S rfl rfl ?_
                intro w4 hw4 hT4
                have hH4 := hH.belowSize hw4
                refine hK _ _ hH4 ?_
                clear hK K
                try simp only [Act.put, List.setIfInBounds_toArray, List.set_cons_zero, List.set_cons_succ]
                have hU4 := hU3d.below hw4
                refine wpAnyH_solo (i := 3) (o := ⟨some 101, _, _, _, _, _⟩) rfl (by kernel_rfl) (fun K hK => ?_)
                refine wpList_appTS rfl _ _ rfl (.slice (some ⟨w3.drew.heap.size, 0, none⟩) 0 0) (some w3.drew.heap.size) [] hT4 rfl ak ck k hU4.ta rfl (by simp; omega) ?_
                intro w5 v5 fb5 hg5 hn5 hT5
                have hB5 : Below w3.drew.heap.size w3.drew w5 := below_loc hw4 hg5 (Nat.le_refl _) hw4.size
                have hH5 := hH.belowSize hB5
                refine hK _ _ hH5 ?_
                clear hK K
                try simp only [Act.put, List.setIfInBounds_toArray, List.set_cons_zero, List.set_cons_succ]
                have hnb5 : ∀ i, fb5 = some i → w3.drew.heap.size ≤ i := fun i e => by rcases hn5 i e with h | h; exact Nat.le_of_eq (Option.some.inj h); exact Nat.le_trans hw4.size h
                have HC5 := HC w5 (hxa.below (hF3d.bel.1.trans (hB5.mono hF3d.bel.1.size)))
                refine wpAnyH_solo (i := 6) (o := ⟨some 104, _, _, _, _, _⟩) rfl (by kernel_rfl) (fun K hK => ?_)
                refine wpList_callR Tryz.func13 (by kernel_rfl) (by kernel_rfl) rfl _ _ rfl #[.slice x.la x.l.length x.lc] (args1 rfl) _ (HC5) ?_
                rintro e w6 ⟨v6, rb6, rfl, hw6, hT6, hn6⟩
                obtain ⟨a6, c6, ea6, _, _⟩ := hT6.sl
                subst ea6
                have hB6 := hB5.trans (hw6.mono hB5.size)
                have hH6 := hH.belowSize hB6
                have hT56 := hT5.below hw6
                refine ⟨_, rfl, ?_⟩
                refine hK _ _ hH6 ?_
                clear hK K
                try simp only [Act.put, List.setIfInBounds_toArray, List.set_cons_zero, List.set_cons_succ]
                refine wpAnyH_solo (i := 7) (o := ⟨some 105, _, _, _, _, _⟩) rfl (by kernel_rfl) (fun K hK => ?_)
                refine wpList_appTS rfl _ _ rfl v5 fb5 _ hT56 rfl a6 c6 c hT6.ta rfl (by simp; omega) ?_
                intro w7 v7 fb7 hg7 hn7 hT7
                have hB7 : Below w3.drew.heap.size w3.drew w7 := ⟨hg7.os.trans hB6.os, hg7.tape.trans hB6.tape, hg7.output.trans hB6.output, Nat.le_trans hB6.size hg7.size, fun j hj => (hg7.block j (Nat.lt_of_lt_of_le hj hB6.size) (fun e => by have := hnb5 j e.symm; omega)).trans (hB6.block j hj)⟩
                have hH7 := hH.belowSize hB7
                refine hK _ _ hH7 ?_
                clear hK K
                try simp only [Act.put, List.setIfInBounds_toArray, List.set_cons_zero, List.set_cons_succ]
                have hnb7 : ∀ i, fb7 = some i → w3.drew.heap.size ≤ i := fun i e => by rcases hn7 i e with h | h; exact hnb5 i h; exact Nat.le_trans hB6.size h
                refine wpAnyH_solo (i := 8) (o := ⟨some 13, _, _, _, _, _⟩) rfl (by kernel_rfl) (fun K hK => ?_)
                refine wpList_pure rfl (.string ⟨s.toArray⟩) (by go_simp) ?_
                refine hK _ _ hH7 ?_
                clear hK K
                try simp only [Act.put, List.setIfInBounds_toArray, List.set_cons_zero, List.set_cons_succ]
                refine wpAnyH_solo (i := 9) (o := ⟨some 14, _, _, _, _, _⟩) rfl (by kernel_rfl) (fun K hK => ?_)
                refine wpList_pure rfl (v7) (by go_simp) ?_
                refine hK _ _ hH7 ?_
                clear hK K
                try simp only [Act.put, List.setIfInBounds_toArray, List.set_cons_zero, List.set_cons_succ]
                refine wpAnyH_done (by kernel_rfl) ?_ _
                try simp only [Act.put]
                try go_simp
                obtain ⟨k', hk2⟩ : ∃ k', Hid (k ++ c = k') := ⟨_, rfl⟩
                have hT7 : TS w7 v7 fb7 k' := by rw [← hk2.out]; simpa using hT7
                obtain ⟨a7, c7, e7, _, _⟩ := hT7.sl
                subst e7
                have hF7 := hF3d.below hB7
                have hU7 := hU3d.below hB7
                have hbF7 := hbF3d.belowSize hB7
                have hAp7 : Apart fb7 rb := apart_of hnb7 hF3d.bel.2
                have HC7 := HC w7 (hxa.below hF7.bel.1)
                go_upto_if 111 with (first
                  | ((with_reducible (refine at_list ?_; refine wpList_loadCell (op := ⟨some 108, _, _, _, _, _⟩) rfl _ _ rfl wr.heap.size 2 rfl _ _ hH7 _ Tryz.underlying30 rfl _ (aC_g2 _) ?_)))
                  | (go_at_call 13; refine HC7.mono ?_; rintro e w8 ⟨v8, rb8, rfl, hw8, hT8, hn8⟩; clear HC7; obtain ⟨a8, c8, e8, _, _⟩ := hT8.sl; subst e8; have hF8 := hF7.below hw8; have HA8 := fa_add hF8 hG (by omega) c a8 c8 hT8.ta (sep_new hn8 hF7.bel.2 hT8) hcl hcx)
                  | (go_at_call 16; refine HA8.mono ?_; rintro e w9 ⟨ok, rb9, rfl, hKw, hok, hno⟩; clear HA8; have hU9 := hKw.ts _ _ _ (hU7.below hw8) hAp; have hM9 := hKw.ts _ _ _ (hT7.below hw8) hAp7; have hbF9 := hKw.blk _ _ _ (hbF7.belowSize hw8) (by decide) (by decide) (by decide) (by decide)))
                rw [hk2.out] at hok hno
                cases ok with
                | true =>
                  go_wp2_with fail
                  go_roundw
                  case rel => exact ⟨i + 1, false, by omega, by omega, by go_num, ⟨s, k', fb7, rfl, hM9.1, hbF9, fun _ => ⟨rb9, hok rfl, hM9.2⟩, fun e => (by cases e)⟩⟩
                  case measure => simp [intOf]; omega
                | false =>
                  go_wp2_with fail
                  go_roundw
                  case rel => exact ⟨i + 1, true, by omega, by omega, by go_num, ⟨s, k, fa, rfl, hU9.1, hbF9, fun e => (by cases e), fun _ => ⟨s, k', fb7, hno rfl, rfl, hM9.1⟩⟩⟩
                  case measure => simp [intOf]; omega
            · have hend : (¬ (i : Int) < (acts.length : Int)) ∨ ((i : Int) < (acts.length : Int) ∧ ¬ (i : Int) < 30) ∨ ((i : Int) < (acts.length : Int) ∧ (i : Int) < 30 ∧ dead = true) := by
                cases dead with
                | true => simp at hlt ⊢; omega
                | false => simp at hlt ⊢; omega
              go_upto_region 14 with fail
              go_cut [73] from 61 to 112 (fun c wx => c = .bool false ∧ wx = wr)
              case first =>
                clear hlt
                rcases hend with hz1 | ⟨hz1, hz2⟩ | ⟨hz1, hz2, hdd⟩
                · go_wp2_with fail
                  go_meet
                  case rel => exact ⟨rfl, rfl⟩
                · go_wp2_with fail
                  go_meet
                  case rel => exact ⟨rfl, rfl⟩
                · have HD : Calls Tryz.prog 23 #[.pointer (some ⟨w0.heap.size, 0, none⟩)] wr fun e w' => e = .returned (.bool true) ∧ w' = wr := by
                    obtain ⟨s2, k2, fm, h1, _, _⟩ := hDd hdd
                    exact h1.dead
                  clear hdd
                  go_wp2_with (go_at_call 23; refine HD.mono ?_; rintro e wx ⟨rfl, hwx⟩; have hwx2 := hwx.symm; subst hwx2; clear hwx)
                  go_meet
                  case rel => exact ⟨rfl, rfl⟩
              case rest =>
                obtain ⟨e73, hwx⟩ := hcut
                subst e73
                have hwx2 := hwx.symm; subst hwx2; clear hwx
                clear hend hlt hI
                have hE := fal_ends hAl hDd (by omega)
                obtain ⟨dead2, pl2, S, K, hM, hSK⟩ := fe_pick hE
                have hKl := hM.len
                have hkl := hE.len
                clear hAl hDd hE
                go_upto_region 34 with (first
                  | ((with_reducible (refine at_list ?_; refine wpList_loadCell (op := ⟨some 115, _, _, _, _, _⟩) rfl _ _ rfl w.heap.size 1 rfl _ _ hbF _ Tryz.underlying3 rfl _ (faA_g1 _) ?_)))
                  | ((with_reducible (refine at_list ?_; refine wpList_loadCell (op := ⟨some 117, _, _, _, _, _⟩) rfl _ _ rfl w.heap.size 2 rfl _ _ hbF _ Tryz.underlying3 rfl _ (faA_g2 _) ?_)))
                  | (go_at_call 14; refine (fm_crash hM hG _ _).mono ?_; rintro e w4 ⟨rfl, hM4, hK4⟩; have HUp := fm_up hM4 hG)
                  | (go_at_call 15; refine HUp.mono ?_; rintro e w5 ⟨rfl, hM5, hK5⟩; clear HUp; have HPl := fm_plan0 hM5 hG)
                  | (go_at_call 22; refine HPl.mono ?_; rintro e w6 ⟨rfl, hO6, hK6⟩; clear HPl; have HO6 := fo_open hO6 (by omega) hG M hM1)
                  | (go_at_call 10; refine HO6.mono ?_; rintro e w7 ⟨q7, rfl, hO7, hS7, hK7, HA7⟩; clear HO6)
                  | (go_at_call 20; refine HA7.mono ?_; rintro e w8 ⟨a8, c8, fg, rfl, hw8, hT8⟩; clear HA7; have hO8 := hO7.below hw8; have HO8 := fo_open hO8 (by omega) hG M hM1)
                  | (go_at_call 10; refine HO8.mono ?_; rintro e w9 ⟨q9, rfl, hO9, hS9, hK9, HA9⟩; clear HO8; have HS9 := hS9.snap; have hS79 := (hS7.below hw8).ko hK9; have HS79 := hS79.snap; have hT9 := hK9.ts hT8)
                  | (go_at_call 17; refine HS9.mono ?_; rintro e wx ⟨rfl, hwx⟩; have hwx2 := hwx.symm; subst hwx2; clear hwx; clear HS9)
                  | (go_at_call 17; refine HS79.mono ?_; rintro e wx ⟨rfl, hwx⟩; have hwx2 := hwx.symm; subst hwx2; clear hwx; clear HS79)
                  | (go_at_call 20; refine HA9.mono ?_; rintro e w10 ⟨a10, c10, fh, rfl, hw10, hT10⟩; clear HA9; have HE10 := same_true K a10 a8 c10 c8 w10 hT10.ta (hT9.below hw10).ta (by omega))
                  | (go_at_call 19; refine HE10.mono ?_; rintro e w11 ⟨rfl, hw11⟩; clear HE10))
                have hO11 := (hO9.below hw10).below hw11
                have hS11 := (hS79.below hw10).below hw11
                have hT11 := (hT9.below hw10).below hw11
                have hKo : Ko wr w11 := ((((((hK4.trans hK5).trans hK6).trans hK7).trans (Ko.of hw8)).trans hK9).trans (Ko.of hw10)).trans (Ko.of hw11)
                have hU11 := hKo.ts hU
                have HS11 := hS11.snap
                rcases hSK with ⟨rfl, rfl⟩ | ⟨fm, h13, h14⟩
                · have HE := same_true K a8 ak c8 ck w11 hT11.ta hU11.ta (by omega)
                  go_wp2_with (first
                    | (go_at_call 17; refine HS11.mono ?_; rintro e wx ⟨rfl, hwx⟩; have hwx2 := hwx.symm; subst hwx2; clear hwx)
                    | (go_at_call 19; refine HE.mono ?_; rintro e w12 ⟨rfl, hw12⟩; have hO12 := hO11.below hw12))
                  go_ret
                  exact ⟨rfl, hO12.bel⟩
                · have hM11 := hKo.ts h14
                  obtain ⟨am, cmm, e14, _, _⟩ := hM11.sl
                  rw [e14] at hM11
                  subst h13
                  subst e14
                  by_cases hSs : S = s
                  · subst hSs
                    have HE := same_any K k a8 ak c8 ck w11 hT11.ta hU11.ta (by omega) (by omega)
                    go_upto_if 173 with (first
                      | (go_at_call 17; refine HS11.mono ?_; rintro e wx ⟨rfl, hwx⟩; have hwx2 := hwx.symm; subst hwx2; clear hwx)
                      | (go_at_call 19; refine HE.mono ?_; rintro e w12 ⟨r, rfl, _, hw12⟩; have hO12 := hO11.below hw12; have HS12 := (hS11.below hw12).snap; have HE12 := same_true K a8 am c8 cmm w12 (hT11.below hw12).ta (hM11.below hw12).ta (by omega)))
                    cases r with
                    | true =>
                      go_wp2_with fail
                      go_ret
                      exact ⟨rfl, hO12.bel⟩
                    | false =>
                      go_wp2_with (first
                        | (go_at_call 17; refine HS12.mono ?_; rintro e wx ⟨rfl, hwx⟩; have hwx2 := hwx.symm; subst hwx2; clear hwx)
                        | (go_at_call 19; refine HE12.mono ?_; rintro e w13 ⟨rfl, hw13⟩; have hO13 := hO12.below hw13))
                      go_ret
                      exact ⟨rfl, hO13.bel⟩
                  · have HE := same_true K a8 am c8 cmm w11 hT11.ta hM11.ta (by omega)
                    go_wp2_with (first
                      | (go_at_call 17; refine HS11.mono ?_; rintro e wx ⟨rfl, hwx⟩; have hwx2 := hwx.symm; subst hwx2; clear hwx)
                      | (go_at_call 19; refine HE.mono ?_; rintro e w12 ⟨rfl, hw12⟩; have hO12 := hO11.below hw12))
                    go_ret
                    exact ⟨rfl, hO12.bel⟩
end Go.Proofs.YtaiiojbakmminaaGreatDoor
