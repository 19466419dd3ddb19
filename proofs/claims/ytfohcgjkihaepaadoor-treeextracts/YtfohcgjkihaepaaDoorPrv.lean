/- What slices.Reverse makes of texts and of bools; what Prove and ahead do. -/
import Derived.Test.YtfohcgjkihaepaaDoorVsl
import Derived.Test.YtfohcgjkihaepaaDoorRta
import Derived.BigQuiet
namespace Go.Proofs.YtfohcgjkihaepaaDoor.Sh
open Go Go.RowKit
def revS_ren : Go.Shelf.Ren := ⟨fun | 35 => 24 | n => n, fun | 0 => 0 | 3 => 3 | 4 => 4 | 22 => 22 | 23 => 9 | n => n, fun | n => n⟩
theorem revS : SlLaysE.n35 Tryd.prog revS_ren := {
  mixed := by kernel_rfl
  f35 := ⟨"slices.Reverse[[]string,string]", by kernel_rfl, Tryd.func24.trans (congrArg some (by kernel_rfl))⟩
  t0 := Tryd.underlying0
  a0 := Tryd.isAgg0
  z0 := Tryd.sizeOf0
  v0 := Tryd.zeroValue0
  t3 := Tryd.underlying3
  a3 := Tryd.isAgg3
  z3 := Tryd.sizeOf3
  v3 := Tryd.zeroValue3
  t4 := Tryd.underlying4
  a4 := Tryd.isAgg4
  z4 := Tryd.sizeOf4
  v4 := Tryd.zeroValue4
  t22 := Tryd.underlying22
  a22 := Tryd.isAgg22
  z22 := Tryd.sizeOf22
  v22 := Tryd.zeroValue22
  a23 := Tryd.isAgg9
  z23 := Tryd.sizeOf9 }
def revB_ren : Go.Shelf.Ren := ⟨fun | 35 => 40 | n => n, fun | 0 => 0 | 3 => 3 | 4 => 4 | 22 => 63 | 23 => 4 | n => n, fun | n => n⟩
theorem revB : SlLaysE.n35 Tryd.prog revB_ren := {
  mixed := by kernel_rfl
  f35 := ⟨"slices.Reverse[[]bool,bool]", by kernel_rfl, Tryd.func40.trans (congrArg some (by kernel_rfl))⟩
  t0 := Tryd.underlying0
  a0 := Tryd.isAgg0
  z0 := Tryd.sizeOf0
  v0 := Tryd.zeroValue0
  t3 := Tryd.underlying3
  a3 := Tryd.isAgg3
  z3 := Tryd.sizeOf3
  v3 := Tryd.zeroValue3
  t4 := Tryd.underlying4
  a4 := Tryd.isAgg4
  z4 := Tryd.sizeOf4
  v4 := Tryd.zeroValue4
  t22 := Tryd.underlying63
  a22 := Tryd.isAgg63
  z22 := Tryd.sizeOf63
  v22 := Tryd.zeroValue63
  a23 := Tryd.isAgg4
  z23 := Tryd.sizeOf4 }
theorem rev_texts (lo : Nat) (sl : Value) (l : List (List UInt8)) (w : World) (hV : VL w 9 lo sl (l.map sv)) (hl : l.length ≤ 1000000) :
    Calls Tryd.prog 24 #[sl] w fun e w' => e = .returned (.tuple #[]) ∧ VL w' 9 lo sl (l.reverse.map sv) ∧ Below lo w w' :=
  rev_VL revS sv (fun _ => rfl) 9 lo sl l w hV hl
theorem rev_bools (lo : Nat) (sl : Value) (l : List Bool) (w : World) (hV : VL w 4 lo sl (l.map Value.bool)) (hl : l.length ≤ 1000000) :
    Calls Tryd.prog 40 #[sl] w fun e w' => e = .returned (.tuple #[]) ∧ VL w' 4 lo sl (l.reverse.map Value.bool) ∧ Below lo w w' :=
  rev_VL revB Value.bool (fun _ => rfl) 4 lo sl l w hV hl
theorem infoB : ∃ i, Tryd.prog.info? 4 = some i ∧ i.zero = some (.bool false) ∧ i.size = 1 ∧ i.bytes ≤ 64 := by
  have h : (Tryd.prog.info? 4).map (fun i => (i.zero, i.size, decide (i.bytes ≤ 64))) = some (some (.bool false), 1, true) := by kernel_rfl
  cases hq : Tryd.prog.info? 4 with
  | none => rw [hq] at h; cases h
  | some i => rw [hq] at h; simp at h; exact ⟨i, rfl, h.1, h.2.1, h.2.2⟩
theorem iB : (Tryd.prog.info? 4).map (·.size) = some 1 := by kernel_rfl
theorem bslB (x : Bool) (w : World) : (Instr.buildSlice 63 1 #[(0, .bool x)]).run Tryd.prog w = .ok (.slice (some ⟨w.heap.size, 0, none⟩) 1 1) (w.alloc (.cells #[.bool x] 4)) := by
  simp [Instr.buildSlice, run_underlying Tryd.underlying63, sizeOf_run iB, Sem.run_bind, Instr.fill, newRow, Tryd.zeroValue4, Value.cells, range1]
section
variable {ops : Array Oper} {rest : List Oper} {op : Oper} {a : Act} {w : World} {Q : Exit → Act → World → Prop}
theorem wpList_bslB (hgd : op.guard = none) (x : Operand) (ho : op.op = .buildSlice 63 1 #[(0, x)]) (v : Bool) (hx : a.eval x = .bool v)
    (h : ∀ w1 : World, Below w.heap.size w w1 → w1.heap.size = w.heap.size + 1 → Blk w1 w.heap.size #[.bool v] 4 → wpList Tryd.prog ops Q rest (a.put op.dst (.slice (some ⟨w.heap.size, 0, none⟩) 1 1)) w1) : wpList Tryd.prog ops Q (op :: rest) a w := by
  refine wpList_run hgd _ _ ?_ (h _ ((Below.refl _ _).alloc (Nat.le_refl _) _) (by simp) (Blk.new _ _ _))
  unfold execOp
  have e : (#[(0, x)] : Array (Nat × Operand)).map (fun (i, x) => (i, a.eval x)) = #[(0, .bool v)] := by simp [hx]
  simp only [ho, Sem.run_bind, e, bslB, Result.andThen_ok]
  rfl
end
def tsLen : Value → Nat
  | .slice _ n _ => n
  | _ => 0
set_option maxRecDepth 100000 in
set_option maxHeartbeats 1000000 in
theorem ahead_any (n i : Nat) (hn : n ≤ 100) (hi : i < n) (w : World) : Calls Tryd.prog 34 #[.int .i64 i, .int .i64 n] w fun e w' => ∃ sl, e = .returned sl ∧ VL w' 4 w.heap.size sl ((sides n i).map Value.bool) ∧ Below w.heap.size w w' := by
  obtain ⟨ib, hib, hzb, hsb, hbb⟩ := infoB
  have hsh : (sides n i).length ≤ 7 := sides_short hn
  obtain ⟨S, hS⟩ : ∃ S, S = sides n i := ⟨_, rfl⟩
  rw [← hS] at hsh ⊢
  replace hS : Hid (S = sides n i) := hS
  go_enter Tryd.func34, Tryd.ntmps34
  go_wp2_with fail
  go_loopw [0, 1, 5] (fun v0 v1 v5 wl => ∃ (j m : Nat) (out : List Bool), v0 = .int .i64 j ∧ v1 = .int .i64 m ∧ VL wl 4 w.heap.size v5 (out.map Value.bool) ∧ m ≤ 100 ∧ j < m ∧ Hid (S = sides m j ++ out.reverse) ∧ Below w.heap.size w wl) (fun _ v1 _ _ => (intOf v1).toNat)
  case atStart => exact ⟨i, n, [], rfl, rfl, VL.nil _ _ _, hn, hi, by rw [List.reverse_nil, List.append_nil]; exact hS, Below.refl _ _⟩
  case round =>
    obtain ⟨j, m, out, rfl, rfl, hV, hm, hjm, hI, hB⟩ := hrel
    have hol : out.length ≤ 7 := by
      have := congrArg List.length hI.out
      rw [List.length_append, List.length_reverse] at this
      omega
    by_cases h2 : 2 ≤ m
    · have hz0 : (1 : Int) < (m : Int) := by omega
      have HC := cut_any m h2 hm wr
      have hk0 := cutN_pos m
      have hkl := cutN_lt h2
      by_cases hj : j < cutN m
      · have hsd := sides_left (i := j) h2 hj
        have hI2 : Hid (S = sides (cutN m) j ++ (out ++ [false]).reverse) := show S = _ by rw [hI.out, hsd, List.reverse_append]; simp
        clear hsd
        generalize cutN m = k at *
        have hz1 : ¬ ((k : Int) ≤ (j : Int)) := by omega
        have hd1 : decide ((k : Int) ≤ (j : Int)) = false := decide_eq_false hz1
        have hd2 : decide (k ≤ j) = false := decide_eq_false (by omega)
        go_wp2_with (first
          | (go_at_call 21; refine HC.mono ?_; rintro e w1 ⟨rfl, hw1⟩; have hw1 := hw1.symm; subst hw1)
          | (with_reducible refine at_list ?_; first
            | (refine wpList_bslB (op := ⟨some 25, _, _, _, _, _⟩) rfl _ rfl false rfl ?_; intro w2 hw2 hs2 hb2; replace hs2 := hs2.symm; have hV2 := hV.below hw2; have hB2 := hB.trans (hw2.mono hB.size))
            | (refine wpList_appendVL (op := ⟨some 26, _, _, _, _, _⟩) rfl _ _ 63 4 rfl w.heap.size u5 (out.map Value.bool) hB2.size rfl hV2 wr.heap.size 1 rfl (.bool false) 4 rfl hb2 ib (.bool false) rfl Tryd.underlying63 hib hzb hsb hbb (by rw [List.length_map]; omega) ?_; intro w3 sl3 hw3 hV3)))
        go_roundw
        case rel => exact ⟨j, k, out ++ [false], rfl, rfl, by rw [List.map_append]; exact hV3, by omega, by omega, hI2, hB2.trans hw3⟩
        case measure => simp [intOf]; omega
      · have hsd := sides_right (i := j) h2 hj
        have hI2 : Hid (S = sides (m - cutN m) (j - cutN m) ++ (out ++ [true]).reverse) := show S = _ by rw [hI.out, hsd, List.reverse_append]; simp
        clear hsd
        generalize cutN m = k at *
        have hz1 : ((k : Int) ≤ (j : Int)) := by omega
        have hd1 : decide ((k : Int) ≤ (j : Int)) = true := decide_eq_true hz1
        have hd2 : decide (k ≤ j) = true := decide_eq_true (by omega)
        have hw1 : IntKind.i64.wrap ((m : Int) - (k : Int)) = (m : Int) - (k : Int) := by rw [IntKind.wrap_i64]; omega
        have hw0 : IntKind.i64.wrap ((j : Int) - (k : Int)) = (j : Int) - (k : Int) := by rw [IntKind.wrap_i64]; omega
        go_wp2_with (first
          | (go_at_call 21; refine HC.mono ?_; rintro e w1 ⟨rfl, hw1⟩; have hw1 := hw1.symm; subst hw1)
          | (with_reducible refine at_list ?_; first
            | (refine wpList_bslB (op := ⟨some 25, _, _, _, _, _⟩) rfl _ rfl true rfl ?_; intro w2 hw2 hs2 hb2; replace hs2 := hs2.symm; have hV2 := hV.below hw2; have hB2 := hB.trans (hw2.mono hB.size))
            | (refine wpList_appendVL (op := ⟨some 26, _, _, _, _, _⟩) rfl _ _ 63 4 rfl w.heap.size u5 (out.map Value.bool) hB2.size rfl hV2 wr.heap.size 1 rfl (.bool true) 4 rfl hb2 ib (.bool false) rfl Tryd.underlying63 hib hzb hsb hbb (by rw [List.length_map]; omega) ?_; intro w3 sl3 hw3 hV3)))
        go_roundw
        case rel => exact ⟨j - k, m - k, out ++ [true], by rw [show ((j - k : Nat) : Int) = (j : Int) - (k : Int) by omega], by rw [show ((m - k : Nat) : Int) = (m : Int) - (k : Int) by omega], by rw [List.map_append]; exact hV3, by omega, by omega, hI2, hB2.trans hw3⟩
        case measure => simp [intOf]; omega
    · have hz0 : ¬ ((1 : Int) < (m : Int)) := by omega
      have hE : Hid (S = out.reverse) := by
        have h := hI.out
        rw [sides_one (by omega), List.nil_append] at h
        exact h
      have HR := rev_bools w.heap.size u5 out wr hV (by omega)
      go_wp2_with (go_at_call 40; refine HR.mono ?_; rintro e w1 ⟨rfl, hV1, hw1⟩)
      go_ret
      exact ⟨_, rfl, by rw [hE.out]; exact hV1, hB.trans hw1⟩
section
attribute [local go_sem] mkApp_nat mkApp0 mkApp1
set_option maxRecDepth 100000 in
set_option maxHeartbeats 1000000 in
theorem prove_bad (l : List (List UInt8)) (a : Option Addr) (cap : Nat) (i : Int) (w : World) (hi : ¬ (0 ≤ i ∧ i < l.length)) :
    Calls Tryd.prog 10 #[.slice a l.length cap, .int .i64 i] w fun e w' => e = .returned (.tuple #[.slice none 0 0, .int .i64 1]) ∧ w' = w := by
  have HP := isPlace_any i l.length w
  rw [decide_eq_false hi] at HP
  clear hi
  go_enter Tryd.func10, Tryd.ntmps10
  go_wp2_with (go_at_call 23; refine HP.mono ?_; rintro e w1 ⟨rfl, hw1⟩; have hw1 := hw1.symm; subst hw1)
  go_ret2
  exact ⟨rfl, rfl⟩
set_option maxRecDepth 100000 in
set_option maxHeartbeats 2000000 in
theorem prove_any (l : List (List UInt8)) (a : Option Addr) (cap i : Nat) (w : World) (hX : XA w a l) (hc : l.length ≤ cap) (hl : l.length ≤ 100) (hs : ∀ x ∈ l, x.length ≤ 1000) (hG : Glob w) (hi : i < l.length) :
    Calls Tryd.prog 10 #[.slice a l.length cap, .int .i64 i] w fun e w' => ∃ sl, e = .returned (.tuple #[sl, .int .i64 0]) ∧ VL w' 9 w.heap.size sl ((pathD digest l i).map sv) ∧ Below w.heap.size w w' := by
  obtain ⟨iop, hio, hz, hsz, hby⟩ := info9
  have hby2 : iop.bytes ≤ 64 := by omega
  have HP := isPlace_any i l.length w
  rw [decide_eq_true (show (0 : Int) ≤ (i : Int) ∧ (i : Int) < (l.length : Int) by omega)] at HP
  have hsh : (pathD digest l i).length ≤ 1000 := path_short digest l i (by omega)
  obtain ⟨S, hS⟩ : ∃ S, S = pathD digest l i := ⟨_, rfl⟩
  rw [← hS] at hsh ⊢
  replace hS : Hid (S = pathD digest l i) := hS
  obtain ⟨g, o, rfl⟩ := hX.ex (by omega)
  go_enter Tryd.func10, Tryd.ntmps10
  go_wp2_with (go_at_call 23; refine HP.mono ?_; rintro e w1 ⟨rfl, hw1⟩; have hw1 := hw1.symm; subst hw1)
  go_loopw [0, 1, 6] (fun v0 v1 v6 wl => ∃ (m : List (List UInt8)) (o c j : Nat) (out : List (List UInt8)), v0 = .slice (some ⟨g, o, none⟩) m.length c ∧ v1 = .int .i64 j ∧ VL wl 9 w.heap.size v6 (out.map sv) ∧ XA w (some ⟨g, o, none⟩) m ∧ j < m.length ∧ m.length ≤ c ∧ m.length ≤ 100 ∧ (∀ x ∈ m, x.length ≤ 1000) ∧ Hid (S = pathD digest m j ++ out.reverse) ∧ Below w.heap.size w wl) (fun v0 _ _ _ => tsLen v0)
  case atStart => exact ⟨l, o, cap, i, [], rfl, rfl, VL.nil _ _ _, hX, hi, hc, hl, hs, by rw [List.reverse_nil, List.append_nil]; exact hS, Below.refl _ _⟩
  case round =>
    obtain ⟨m, o, c, j, out, rfl, rfl, hV, hY, hj, hmc, hm, hms, hI, hB⟩ := hrel
    clear hX hc hl hs hS HP hi
    have hol : out.length ≤ 1000 := by
      have := congrArg List.length hI.out
      rw [List.length_append, List.length_reverse] at this
      omega
    by_cases h2 : 2 ≤ m.length
    · have hz0 : (1 : Int) < (m.length : Int) := by omega
      have HC := cut_any m.length h2 hm wr
      have hk0 := cutN_pos m.length
      have hkl := cutN_lt h2
      have hR : Hid ((j < cutN m.length → S = pathD digest (m.take (cutN m.length)) j ++ (out ++ [rootD digest (m.drop (cutN m.length))]).reverse) ∧ (¬ j < cutN m.length → S = pathD digest (m.drop (cutN m.length)) (j - cutN m.length) ++ (out ++ [rootD digest (m.take (cutN m.length))]).reverse)) := by
        refine ⟨fun h => ?_, fun h => ?_⟩
        · rw [hI.out, pathD_left digest h2 h, List.reverse_append]; simp
        · rw [hI.out, pathD_right digest h2 h, List.reverse_append]; simp
      generalize cutN m.length = k at *
      have hl1 : (m.take k).length = k := by rw [List.length_take]; omega
      have hl2 : (m.drop k).length = m.length - k := List.length_drop
      have hk1 : (k : Int) ≤ (m.length : Int) := by omega
      have hk2 : (k : Int) ≤ (c : Int) := by omega
      have hk3 : (0 : Int) ≤ (k : Int) := by omega
      have hk4 : (m.length : Int) ≤ (c : Int) := by omega
      have hk5 : ¬ c = k := by omega
      by_cases hjk : j < k
      · have hI2 : Hid (S = pathD digest (m.take k) j ++ (out ++ [rootD digest (m.drop k)]).reverse) := hR.out.1 hjk
        have hz1 : ¬ ((k : Int) ≤ (j : Int)) := by omega
        have HR := fun w1 (hB : Below w.heap.size w w1) => troot_of (m.length - k) (m.drop k) (some ⟨g, o + k, none⟩) (c - k) w1 hl2 ((hY.below hB).drop k) (by omega) (by omega) (fun x hx => hms x (List.mem_of_mem_drop hx)) (hG.belowSize hB)
        rw [hl2] at HR
        have hYt := hY.take k
        have hmt : ∀ x ∈ m.take k, x.length ≤ 1000 := fun x hx => hms x (List.mem_of_mem_take hx)
        clear hR hI
        generalize rootD digest (m.drop k) = r at *
        go_wp2_with (go_at_call 21; refine HC.mono ?_; rintro e w1 ⟨rfl, hw1⟩; have hw1 := hw1.symm; subst hw1)
        go_quiet (fail)
        have hBd := below_draws hB nq
        have hVd := hV.below (below_draws (Below.refl wr.heap.size wr) nq)
        go_wp2_with (first
          | (go_at_call 9; refine (HR _ hBd).mono ?_; rintro e w2 ⟨rfl, hw2⟩; have hB2 := hBd.trans (hw2.mono hBd.size); have hV2 := hVd.below hw2)
          | (with_reducible refine at_list ?_; first
            | (refine wpList_tsl1 (op := ⟨some 38, _, _, _, _, _⟩) rfl _ rfl r rfl ?_; intro w3 hw3 hs3 hb3; replace hs3 := hs3.symm; have hB3 := hB2.trans (hw3.mono hB2.size); have hV3 := hV2.below hw3)
            | (refine wpList_appendVL (op := ⟨some 39, _, _, _, _, _⟩) rfl _ _ 22 9 rfl w.heap.size u6 (out.map sv) hB3.size rfl hV3 w2.heap.size 1 rfl (sv r) 9 rfl hb3 iop (.string ⟨#[]⟩) rfl Tryd.underlying22 hio hz hsz hby2 (by rw [List.length_map]; omega) ?_; intro w4 sl4 hw4 hV4)))
        go_roundw
        case rel => exact ⟨m.take k, o, c, j, out ++ [r], by rw [hl1], rfl, by rw [List.map_append]; exact hV4, hYt, by omega, by omega, by omega, hmt, hI2, hB3.trans hw4⟩
        case measure => simp [tsLen]; omega
      · have hI2 : Hid (S = pathD digest (m.drop k) (j - k) ++ (out ++ [rootD digest (m.take k)]).reverse) := hR.out.2 hjk
        have hz1 : ((k : Int) ≤ (j : Int)) := by omega
        have hw0 : IntKind.i64.wrap ((j : Int) - (k : Int)) = (j : Int) - (k : Int) := by rw [IntKind.wrap_i64]; omega
        have HR := fun w1 (hB : Below w.heap.size w w1) => troot_of k (m.take k) (some ⟨g, o, none⟩) c w1 hl1 ((hY.below hB).take k) (by omega) (by omega) (fun x hx => hms x (List.mem_of_mem_take hx)) (hG.belowSize hB)
        rw [hl1] at HR
        have hYt := hY.drop k
        have hmt : ∀ x ∈ m.drop k, x.length ≤ 1000 := fun x hx => hms x (List.mem_of_mem_drop hx)
        clear hR hI
        generalize rootD digest (m.take k) = r at *
        go_wp2_with (go_at_call 21; refine HC.mono ?_; rintro e w1 ⟨rfl, hw1⟩; have hw1 := hw1.symm; subst hw1)
        go_quiet (fail)
        have hBd := below_draws hB nq
        have hVd := hV.below (below_draws (Below.refl wr.heap.size wr) nq)
        go_wp2_with (first
          | (go_at_call 9; refine (HR _ hBd).mono ?_; rintro e w2 ⟨rfl, hw2⟩; have hB2 := hBd.trans (hw2.mono hBd.size); have hV2 := hVd.below hw2)
          | (with_reducible refine at_list ?_; first
            | (refine wpList_tsl1 (op := ⟨some 38, _, _, _, _, _⟩) rfl _ rfl r rfl ?_; intro w3 hw3 hs3 hb3; replace hs3 := hs3.symm; have hB3 := hB2.trans (hw3.mono hB2.size); have hV3 := hV2.below hw3)
            | (refine wpList_appendVL (op := ⟨some 39, _, _, _, _, _⟩) rfl _ _ 22 9 rfl w.heap.size u6 (out.map sv) hB3.size rfl hV3 w2.heap.size 1 rfl (sv r) 9 rfl hb3 iop (.string ⟨#[]⟩) rfl Tryd.underlying22 hio hz hsz hby2 (by rw [List.length_map]; omega) ?_; intro w4 sl4 hw4 hV4)))
        go_roundw
        case rel => exact ⟨m.drop k, o + k, c - k, j - k, out ++ [r], by rw [hl2], by rw [show ((j - k : Nat) : Int) = (j : Int) - (k : Int) by omega], by rw [List.map_append]; exact hV4, hYt, by omega, by omega, by omega, hmt, hI2, hB3.trans hw4⟩
        case measure => simp [tsLen]; omega
    · have hz0 : ¬ ((1 : Int) < (m.length : Int)) := by omega
      have hE : Hid (S = out.reverse) := by
        have h := hI.out
        rw [pathD_short digest (by omega), List.nil_append] at h
        exact h
      have HR := rev_texts w.heap.size u6 out wr hV (by omega)
      go_wp2_with (go_at_call 24; refine HR.mono ?_; rintro e w1 ⟨rfl, hV1, hw1⟩)
      go_ret2
      exact ⟨_, rfl, by rw [hE.out]; exact hV1, hB.trans hw1⟩
end
end Go.Proofs.YtfohcgjkihaepaaDoor.Sh
