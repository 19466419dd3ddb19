/- The law of bytes whole. -/
import Derived.Test.YtnhlejdilldfaaaGreatWth
import Derived.Test.YtnhlejdilldfaaaGreatRcx
import Derived.Test.YtnhlejdilldfaaaGreatWgd
namespace Go.Proofs.YtnhlejdilldfaaaGreat
open Go Go.RowKit Go.Maps
theorem ok_iff (m : MSG) : m.ok = true ↔ (1 ≤ m.kind ∧ m.kind ≤ 6 ∧ 0 ≤ m.frm ∧ m.frm < 16 ∧ 0 ≤ m.dst ∧ m.dst < 16 ∧ m.frm ≠ m.dst ∧ 0 ≤ m.term ∧ m.term < 2147483648 ∧ 0 ≤ m.index ∧ m.index < 2147483648 ∧ 0 ≤ m.logTerm ∧ m.logTerm ≤ m.term ∧ 0 ≤ m.commit ∧ m.commit < 2147483648 ∧ 0 ≤ m.off ∧ m.off < 2147483648 ∧ m.ents.length ≤ 16 ∧ m.piece.length ≤ 200) := by
  unfold MSG.ok MSG.cnt
  simp only [Bool.and_eq_true, decide_eq_true_eq]
  constructor
  · rintro ⟨h1, h2, h3, h4, h5, h6, h7, h8, h9, h10, h11, h12⟩
    exact ⟨h6.1, h6.2, h7.1, h7.2, h8.1, h8.2, h9, h1.1, by omega, h2.1, by omega, h3.1, h10, h4.1, by omega, h5.1, by omega, h11, h12⟩
  · rintro ⟨k1, k2, k3, k4, k5, k6, k7, k8, k9, k10, k11, k12, k13, k14, k15, k16, k17, k18, k19⟩
    exact ⟨⟨k8, by omega⟩, ⟨k10, by omega⟩, ⟨k12, by omega⟩, ⟨k14, by omega⟩, ⟨k16, by omega⟩, ⟨k1, k2⟩, ⟨k3, k4⟩, ⟨k5, k6⟩, k7, k13, k18, k19⟩
theorem msg_okR {r : R} (hk : r.ok) : r.msg.1.ok := by
  have hk8 := tk8_ok hk 8
  have hk9 := R.ok_bool hk8
  have hk10 := R.ok_bool hk9
  have hk11 : (tkN r).1.ok := R.ok_count hk10 16
  have hk12 := tkE_ok hk11 (tkN r).2
  have hk13 := R.ok_text hk12 2147483647
  have hk14 : (tkB r).1.ok := R.ok_bool hk13
  rw [msg_fst]
  unfold tkF
  by_cases hy : (tkB r).2 = true
  · rw [if_pos hy]; exact tkM_ok hk14
  · rw [if_neg hy]; dsimp only; exact hk14
/-- What may be, with such entries and members, Take takes whole. -/
theorem tkOk_of {m : MSG} (h : m.ok = true) (he : ∀ e ∈ m.ents, EnOk e) (hm : 0 < m.mems.length → OkM m.mems) : TkOk m := by
  obtain ⟨k1, k2, k3, k4, k5, k6, k7, k8, k9, k10, k11, k12, k13, k14, k15, k16, k17, k18, k19⟩ := (ok_iff m).1 h
  refine ⟨fun i => ?_, he, k18, by omega, hm⟩
  unfold m8
  split <;> constructor <;> omega
section
attribute [local go_sem] extract_take
variable (w : World)
set_option maxRecDepth 100000 in
set_option maxHeartbeats 8000000 in
theorem raftBytes_any (m : MSG) (s : List UInt8) (hs : s.length ≤ 140737488355328) (ea : Option Addr) (ec : Nat) (ma : Option Addr) (mc : Nat) (hA : MsgA w m ea ec ma mc) : Calls Tryz.prog 3 #[.agg (mcells m (.slice ea m.ents.length ec) (.slice ma m.mems.length mc)), .string ⟨s.toArray⟩] w fun o w' => o = .returned (.bool true) ∧ Below w.heap.size w w' := by
  unfold mcells
  have hE := hA.ents
  have hec := hA.entc
  have hel := hA.entl
  have hI := hA.mems
  have hmc := hA.memc
  have hml := hA.meml
  clear hA
  obtain ⟨B, hB⟩ : ∃ B, Hid (m.ok = B) := ⟨_, rfl⟩
  go_enter Tryz.func3, Tryz.ntmps3
  go_upto_region 1 with fail
  have hb1 := bl_al (Below.refl w.heap.size w) (.cells #[.int .i64 m.kind, .int .i64 m.frm, .int .i64 m.dst, .int .i64 m.term, .int .i64 m.index, .int .i64 m.logTerm, .int .i64 m.commit, .bool m.yes, .slice ea m.ents.length ec, .int .i64 m.off, .string ⟨m.piece.toArray⟩, .bool m.done, .slice ma m.mems.length mc] 25)
  have hX1 := Blk.new w #[.int .i64 m.kind, .int .i64 m.frm, .int .i64 m.dst, .int .i64 m.term, .int .i64 m.index, .int .i64 m.logTerm, .int .i64 m.commit, .bool m.yes, .slice ea m.ents.length ec, .int .i64 m.off, .string ⟨m.piece.toArray⟩, .bool m.done, .slice ma m.mems.length mc] 25
  generalize w.alloc (.cells #[.int .i64 m.kind, .int .i64 m.frm, .int .i64 m.dst, .int .i64 m.term, .int .i64 m.index, .int .i64 m.logTerm, .int .i64 m.commit, .bool m.yes, .slice ea m.ents.length ec, .int .i64 m.off, .string ⟨m.piece.toArray⟩, .bool m.done, .slice ma m.mems.length mc] 25) = w1 at *
  have e0 := hX1.cell 0
  have e1 := hX1.cell 1
  have e2 := hX1.cell 2
  have e3 := hX1.cell 3
  have e4 := hX1.cell 4
  have e5 := hX1.cell 5
  have e6 := hX1.cell 6
  have e7 := hX1.cell 7
  have e8 := hX1.cell 8
  have e9 := hX1.cell 9
  have e10 := hX1.cell 10
  have e11 := hX1.cell 11
  have e12 := hX1.cell 12
  go_cut [5] from 11 to 109 (fun s5 wx => s5 = .bool B ∧ wx = w1)
  case first =>
    refine wp_region_lit ?_
    refine wpList_run (op := ⟨some 11, _, _, _, _, _⟩) rfl (.pointer (some ⟨w.heap.size, 0, none⟩)) w1 (by go_simp) ?_
    try simp only [Act.put, List.setIfInBounds_toArray, List.set_cons_zero, List.set_cons_succ]
    refine wpList_run (op := ⟨some 12, _, _, _, _, _⟩) rfl (.int .i64 m.kind) w1 (by exact run_loadC _ _ rfl _ _ rfl _ Tryz.underlying3 rfl _ (hX1.cell 0)) ?_
    try simp only [Act.put, List.setIfInBounds_toArray, List.set_cons_zero, List.set_cons_succ]
    obtain ⟨bb13, hbb13⟩ : ∃ z : Bool, Hid (z = (decide (1 ≤ m.kind))) := ⟨_, rfl⟩
    refine wpList_run (op := ⟨some 13, _, _, _, _, _⟩) rfl (.bool bb13) w1 (by rw [hbb13.out]; go_simp) ?_
    try simp only [Act.put, List.setIfInBounds_toArray, List.set_cons_zero, List.set_cons_succ]
    refine wpList_run (op := ⟨some 14, _, _, _, _, _⟩) rfl (.bool bb13) w1 (by go_simp) ?_
    try simp only [Act.put, List.setIfInBounds_toArray, List.set_cons_zero, List.set_cons_succ]
    refine wpList_gd (op := ⟨some 15, _, _, _, _, _⟩) bb13 3 rfl rfl (.pointer (some ⟨w.heap.size, 0, none⟩)) (fun hb => by go_simp) ?_
    intro z15 hz15
    try simp only [Act.put, List.setIfInBounds_toArray, List.set_cons_zero, List.set_cons_succ]
    refine wpList_gd (op := ⟨some 16, _, _, _, _, _⟩) bb13 3 rfl rfl (.int .i64 m.kind) (fun hb => by obtain rfl := hz15 hb; exact run_loadC _ _ rfl _ _ rfl _ Tryz.underlying3 rfl _ (hX1.cell 0)) ?_
    intro z16 hz16
    try simp only [Act.put, List.setIfInBounds_toArray, List.set_cons_zero, List.set_cons_succ]
    refine wpList_gd (op := ⟨some 17, _, _, _, _, _⟩) bb13 3 rfl rfl (.bool (decide (m.kind ≤ 6))) (fun hb => by obtain rfl := hz16 hb; go_simp) ?_
    intro z17 hz17
    try simp only [Act.put, List.setIfInBounds_toArray, List.set_cons_zero, List.set_cons_succ]
    obtain ⟨bb18, hbb18⟩ : ∃ z : Bool, Hid (z = (bb13 && (decide (m.kind ≤ 6)))) := ⟨_, rfl⟩
    refine wpList_run (op := ⟨some 18, _, _, _, _, _⟩) rfl (.bool bb18) w1 (by rw [hbb18.out]; cases bb13 <;> first | (obtain rfl := hz17 rfl; first | rfl | go_simp) | (first | rfl | go_simp)) ?_
    try simp only [Act.put, List.setIfInBounds_toArray, List.set_cons_zero, List.set_cons_succ]
    refine wpList_run (op := ⟨some 19, _, _, _, _, _⟩) rfl (.bool bb18) w1 (by go_simp) ?_
    try simp only [Act.put, List.setIfInBounds_toArray, List.set_cons_zero, List.set_cons_succ]
    refine wpList_gd (op := ⟨some 20, _, _, _, _, _⟩) bb18 8 rfl rfl (.pointer (some ⟨w.heap.size, 1, none⟩)) (fun hb => by go_simp) ?_
    intro z20 hz20
    try simp only [Act.put, List.setIfInBounds_toArray, List.set_cons_zero, List.set_cons_succ]
    refine wpList_gd (op := ⟨some 21, _, _, _, _, _⟩) bb18 8 rfl rfl (.int .i64 m.frm) (fun hb => by obtain rfl := hz20 hb; exact run_loadC _ _ rfl _ _ rfl _ Tryz.underlying3 rfl _ (hX1.cell 1)) ?_
    intro z21 hz21
    try simp only [Act.put, List.setIfInBounds_toArray, List.set_cons_zero, List.set_cons_succ]
    refine wpList_gd (op := ⟨some 22, _, _, _, _, _⟩) bb18 8 rfl rfl (.bool (decide (0 ≤ m.frm))) (fun hb => by obtain rfl := hz21 hb; go_simp) ?_
    intro z22 hz22
    try simp only [Act.put, List.setIfInBounds_toArray, List.set_cons_zero, List.set_cons_succ]
    obtain ⟨bb23, hbb23⟩ : ∃ z : Bool, Hid (z = (bb18 && (decide (0 ≤ m.frm)))) := ⟨_, rfl⟩
    refine wpList_run (op := ⟨some 23, _, _, _, _, _⟩) rfl (.bool bb23) w1 (by rw [hbb23.out]; cases bb18 <;> first | (obtain rfl := hz22 rfl; first | rfl | go_simp) | (first | rfl | go_simp)) ?_
    try simp only [Act.put, List.setIfInBounds_toArray, List.set_cons_zero, List.set_cons_succ]
    refine wpList_run (op := ⟨some 24, _, _, _, _, _⟩) rfl (.bool bb23) w1 (by go_simp) ?_
    try simp only [Act.put, List.setIfInBounds_toArray, List.set_cons_zero, List.set_cons_succ]
    refine wpList_gd (op := ⟨some 25, _, _, _, _, _⟩) bb23 13 rfl rfl (.pointer (some ⟨w.heap.size, 1, none⟩)) (fun hb => by go_simp) ?_
    intro z25 hz25
    try simp only [Act.put, List.setIfInBounds_toArray, List.set_cons_zero, List.set_cons_succ]
    refine wpList_gd (op := ⟨some 26, _, _, _, _, _⟩) bb23 13 rfl rfl (.int .i64 m.frm) (fun hb => by obtain rfl := hz25 hb; exact run_loadC _ _ rfl _ _ rfl _ Tryz.underlying3 rfl _ (hX1.cell 1)) ?_
    intro z26 hz26
    try simp only [Act.put, List.setIfInBounds_toArray, List.set_cons_zero, List.set_cons_succ]
    refine wpList_gd (op := ⟨some 27, _, _, _, _, _⟩) bb23 13 rfl rfl (.bool (decide (m.frm < 16))) (fun hb => by obtain rfl := hz26 hb; go_simp) ?_
    intro z27 hz27
    try simp only [Act.put, List.setIfInBounds_toArray, List.set_cons_zero, List.set_cons_succ]
    obtain ⟨bb28, hbb28⟩ : ∃ z : Bool, Hid (z = (bb23 && (decide (m.frm < 16)))) := ⟨_, rfl⟩
    refine wpList_run (op := ⟨some 28, _, _, _, _, _⟩) rfl (.bool bb28) w1 (by rw [hbb28.out]; cases bb23 <;> first | (obtain rfl := hz27 rfl; first | rfl | go_simp) | (first | rfl | go_simp)) ?_
    try simp only [Act.put, List.setIfInBounds_toArray, List.set_cons_zero, List.set_cons_succ]
    refine wpList_run (op := ⟨some 29, _, _, _, _, _⟩) rfl (.bool bb28) w1 (by go_simp) ?_
    try simp only [Act.put, List.setIfInBounds_toArray, List.set_cons_zero, List.set_cons_succ]
    refine wpList_gd (op := ⟨some 30, _, _, _, _, _⟩) bb28 18 rfl rfl (.pointer (some ⟨w.heap.size, 2, none⟩)) (fun hb => by go_simp) ?_
    intro z30 hz30
    try simp only [Act.put, List.setIfInBounds_toArray, List.set_cons_zero, List.set_cons_succ]
    refine wpList_gd (op := ⟨some 31, _, _, _, _, _⟩) bb28 18 rfl rfl (.int .i64 m.dst) (fun hb => by obtain rfl := hz30 hb; exact run_loadC _ _ rfl _ _ rfl _ Tryz.underlying3 rfl _ (hX1.cell 2)) ?_
    intro z31 hz31
    try simp only [Act.put, List.setIfInBounds_toArray, List.set_cons_zero, List.set_cons_succ]
    refine wpList_gd (op := ⟨some 32, _, _, _, _, _⟩) bb28 18 rfl rfl (.bool (decide (0 ≤ m.dst))) (fun hb => by obtain rfl := hz31 hb; go_simp) ?_
    intro z32 hz32
    try simp only [Act.put, List.setIfInBounds_toArray, List.set_cons_zero, List.set_cons_succ]
    obtain ⟨bb33, hbb33⟩ : ∃ z : Bool, Hid (z = (bb28 && (decide (0 ≤ m.dst)))) := ⟨_, rfl⟩
    refine wpList_run (op := ⟨some 33, _, _, _, _, _⟩) rfl (.bool bb33) w1 (by rw [hbb33.out]; cases bb28 <;> first | (obtain rfl := hz32 rfl; first | rfl | go_simp) | (first | rfl | go_simp)) ?_
    try simp only [Act.put, List.setIfInBounds_toArray, List.set_cons_zero, List.set_cons_succ]
    refine wpList_run (op := ⟨some 34, _, _, _, _, _⟩) rfl (.bool bb33) w1 (by go_simp) ?_
    try simp only [Act.put, List.setIfInBounds_toArray, List.set_cons_zero, List.set_cons_succ]
    refine wpList_gd (op := ⟨some 35, _, _, _, _, _⟩) bb33 23 rfl rfl (.pointer (some ⟨w.heap.size, 2, none⟩)) (fun hb => by go_simp) ?_
    intro z35 hz35
    try simp only [Act.put, List.setIfInBounds_toArray, List.set_cons_zero, List.set_cons_succ]
    refine wpList_gd (op := ⟨some 36, _, _, _, _, _⟩) bb33 23 rfl rfl (.int .i64 m.dst) (fun hb => by obtain rfl := hz35 hb; exact run_loadC _ _ rfl _ _ rfl _ Tryz.underlying3 rfl _ (hX1.cell 2)) ?_
    intro z36 hz36
    try simp only [Act.put, List.setIfInBounds_toArray, List.set_cons_zero, List.set_cons_succ]
    refine wpList_gd (op := ⟨some 37, _, _, _, _, _⟩) bb33 23 rfl rfl (.bool (decide (m.dst < 16))) (fun hb => by obtain rfl := hz36 hb; go_simp) ?_
    intro z37 hz37
    try simp only [Act.put, List.setIfInBounds_toArray, List.set_cons_zero, List.set_cons_succ]
    obtain ⟨bb38, hbb38⟩ : ∃ z : Bool, Hid (z = (bb33 && (decide (m.dst < 16)))) := ⟨_, rfl⟩
    refine wpList_run (op := ⟨some 38, _, _, _, _, _⟩) rfl (.bool bb38) w1 (by rw [hbb38.out]; cases bb33 <;> first | (obtain rfl := hz37 rfl; first | rfl | go_simp) | (first | rfl | go_simp)) ?_
    try simp only [Act.put, List.setIfInBounds_toArray, List.set_cons_zero, List.set_cons_succ]
    refine wpList_run (op := ⟨some 39, _, _, _, _, _⟩) rfl (.bool bb38) w1 (by go_simp) ?_
    try simp only [Act.put, List.setIfInBounds_toArray, List.set_cons_zero, List.set_cons_succ]
    refine wpList_gd (op := ⟨some 40, _, _, _, _, _⟩) bb38 28 rfl rfl (.pointer (some ⟨w.heap.size, 1, none⟩)) (fun hb => by go_simp) ?_
    intro z40 hz40
    try simp only [Act.put, List.setIfInBounds_toArray, List.set_cons_zero, List.set_cons_succ]
    refine wpList_gd (op := ⟨some 41, _, _, _, _, _⟩) bb38 28 rfl rfl (.int .i64 m.frm) (fun hb => by obtain rfl := hz40 hb; exact run_loadC _ _ rfl _ _ rfl _ Tryz.underlying3 rfl _ (hX1.cell 1)) ?_
    intro z41 hz41
    try simp only [Act.put, List.setIfInBounds_toArray, List.set_cons_zero, List.set_cons_succ]
    refine wpList_gd (op := ⟨some 42, _, _, _, _, _⟩) bb38 28 rfl rfl (.pointer (some ⟨w.heap.size, 2, none⟩)) (fun hb => by go_simp) ?_
    intro z42 hz42
    try simp only [Act.put, List.setIfInBounds_toArray, List.set_cons_zero, List.set_cons_succ]
    refine wpList_gd (op := ⟨some 43, _, _, _, _, _⟩) bb38 28 rfl rfl (.int .i64 m.dst) (fun hb => by obtain rfl := hz42 hb; exact run_loadC _ _ rfl _ _ rfl _ Tryz.underlying3 rfl _ (hX1.cell 2)) ?_
    intro z43 hz43
    try simp only [Act.put, List.setIfInBounds_toArray, List.set_cons_zero, List.set_cons_succ]
    refine wpList_gd (op := ⟨some 44, _, _, _, _, _⟩) bb38 28 rfl rfl (.bool (m.frm != m.dst)) (fun hb => by obtain rfl := hz41 hb; obtain rfl := hz43 hb; go_simp) ?_
    intro z44 hz44
    try simp only [Act.put, List.setIfInBounds_toArray, List.set_cons_zero, List.set_cons_succ]
    obtain ⟨bb45, hbb45⟩ : ∃ z : Bool, Hid (z = (bb38 && (m.frm != m.dst))) := ⟨_, rfl⟩
    refine wpList_run (op := ⟨some 45, _, _, _, _, _⟩) rfl (.bool bb45) w1 (by rw [hbb45.out]; cases bb38 <;> first | (obtain rfl := hz44 rfl; first | rfl | go_simp) | (first | rfl | go_simp)) ?_
    try simp only [Act.put, List.setIfInBounds_toArray, List.set_cons_zero, List.set_cons_succ]
    refine wpList_run (op := ⟨some 46, _, _, _, _, _⟩) rfl (.bool bb45) w1 (by go_simp) ?_
    try simp only [Act.put, List.setIfInBounds_toArray, List.set_cons_zero, List.set_cons_succ]
    refine wpList_gd (op := ⟨some 47, _, _, _, _, _⟩) bb45 35 rfl rfl (.pointer (some ⟨w.heap.size, 3, none⟩)) (fun hb => by go_simp) ?_
    intro z47 hz47
    try simp only [Act.put, List.setIfInBounds_toArray, List.set_cons_zero, List.set_cons_succ]
    refine wpList_gd (op := ⟨some 48, _, _, _, _, _⟩) bb45 35 rfl rfl (.int .i64 m.term) (fun hb => by obtain rfl := hz47 hb; exact run_loadC _ _ rfl _ _ rfl _ Tryz.underlying3 rfl _ (hX1.cell 3)) ?_
    intro z48 hz48
    try simp only [Act.put, List.setIfInBounds_toArray, List.set_cons_zero, List.set_cons_succ]
    refine wpList_gd (op := ⟨some 49, _, _, _, _, _⟩) bb45 35 rfl rfl (.bool (decide (0 ≤ m.term))) (fun hb => by obtain rfl := hz48 hb; go_simp) ?_
    intro z49 hz49
    try simp only [Act.put, List.setIfInBounds_toArray, List.set_cons_zero, List.set_cons_succ]
    obtain ⟨bb50, hbb50⟩ : ∃ z : Bool, Hid (z = (bb45 && (decide (0 ≤ m.term)))) := ⟨_, rfl⟩
    refine wpList_run (op := ⟨some 50, _, _, _, _, _⟩) rfl (.bool bb50) w1 (by rw [hbb50.out]; cases bb45 <;> first | (obtain rfl := hz49 rfl; first | rfl | go_simp) | (first | rfl | go_simp)) ?_
    try simp only [Act.put, List.setIfInBounds_toArray, List.set_cons_zero, List.set_cons_succ]
    refine wpList_run (op := ⟨some 51, _, _, _, _, _⟩) rfl (.bool bb50) w1 (by go_simp) ?_
    try simp only [Act.put, List.setIfInBounds_toArray, List.set_cons_zero, List.set_cons_succ]
    refine wpList_gd (op := ⟨some 52, _, _, _, _, _⟩) bb50 40 rfl rfl (.pointer (some ⟨w.heap.size, 3, none⟩)) (fun hb => by go_simp) ?_
    intro z52 hz52
    try simp only [Act.put, List.setIfInBounds_toArray, List.set_cons_zero, List.set_cons_succ]
    refine wpList_gd (op := ⟨some 53, _, _, _, _, _⟩) bb50 40 rfl rfl (.int .i64 m.term) (fun hb => by obtain rfl := hz52 hb; exact run_loadC _ _ rfl _ _ rfl _ Tryz.underlying3 rfl _ (hX1.cell 3)) ?_
    intro z53 hz53
    try simp only [Act.put, List.setIfInBounds_toArray, List.set_cons_zero, List.set_cons_succ]
    refine wpList_gd (op := ⟨some 54, _, _, _, _, _⟩) bb50 40 rfl rfl (.bool (decide (m.term < 2147483648))) (fun hb => by obtain rfl := hz53 hb; go_simp) ?_
    intro z54 hz54
    try simp only [Act.put, List.setIfInBounds_toArray, List.set_cons_zero, List.set_cons_succ]
    obtain ⟨bb55, hbb55⟩ : ∃ z : Bool, Hid (z = (bb50 && (decide (m.term < 2147483648)))) := ⟨_, rfl⟩
    refine wpList_run (op := ⟨some 55, _, _, _, _, _⟩) rfl (.bool bb55) w1 (by rw [hbb55.out]; cases bb50 <;> first | (obtain rfl := hz54 rfl; first | rfl | go_simp) | (first | rfl | go_simp)) ?_
    try simp only [Act.put, List.setIfInBounds_toArray, List.set_cons_zero, List.set_cons_succ]
    refine wpList_run (op := ⟨some 56, _, _, _, _, _⟩) rfl (.bool bb55) w1 (by go_simp) ?_
    try simp only [Act.put, List.setIfInBounds_toArray, List.set_cons_zero, List.set_cons_succ]
    refine wpList_gd (op := ⟨some 57, _, _, _, _, _⟩) bb55 45 rfl rfl (.pointer (some ⟨w.heap.size, 4, none⟩)) (fun hb => by go_simp) ?_
    intro z57 hz57
    try simp only [Act.put, List.setIfInBounds_toArray, List.set_cons_zero, List.set_cons_succ]
    refine wpList_gd (op := ⟨some 58, _, _, _, _, _⟩) bb55 45 rfl rfl (.int .i64 m.index) (fun hb => by obtain rfl := hz57 hb; exact run_loadC _ _ rfl _ _ rfl _ Tryz.underlying3 rfl _ (hX1.cell 4)) ?_
    intro z58 hz58
    try simp only [Act.put, List.setIfInBounds_toArray, List.set_cons_zero, List.set_cons_succ]
    refine wpList_gd (op := ⟨some 59, _, _, _, _, _⟩) bb55 45 rfl rfl (.bool (decide (0 ≤ m.index))) (fun hb => by obtain rfl := hz58 hb; go_simp) ?_
    intro z59 hz59
    try simp only [Act.put, List.setIfInBounds_toArray, List.set_cons_zero, List.set_cons_succ]
    obtain ⟨bb60, hbb60⟩ : ∃ z : Bool, Hid (z = (bb55 && (decide (0 ≤ m.index)))) := ⟨_, rfl⟩
    refine wpList_run (op := ⟨some 60, _, _, _, _, _⟩) rfl (.bool bb60) w1 (by rw [hbb60.out]; cases bb55 <;> first | (obtain rfl := hz59 rfl; first | rfl | go_simp) | (first | rfl | go_simp)) ?_
    try simp only [Act.put, List.setIfInBounds_toArray, List.set_cons_zero, List.set_cons_succ]
    refine wpList_run (op := ⟨some 61, _, _, _, _, _⟩) rfl (.bool bb60) w1 (by go_simp) ?_
    try simp only [Act.put, List.setIfInBounds_toArray, List.set_cons_zero, List.set_cons_succ]
    refine wpList_gd (op := ⟨some 62, _, _, _, _, _⟩) bb60 50 rfl rfl (.pointer (some ⟨w.heap.size, 4, none⟩)) (fun hb => by go_simp) ?_
    intro z62 hz62
    try simp only [Act.put, List.setIfInBounds_toArray, List.set_cons_zero, List.set_cons_succ]
    refine wpList_gd (op := ⟨some 63, _, _, _, _, _⟩) bb60 50 rfl rfl (.int .i64 m.index) (fun hb => by obtain rfl := hz62 hb; exact run_loadC _ _ rfl _ _ rfl _ Tryz.underlying3 rfl _ (hX1.cell 4)) ?_
    intro z63 hz63
    try simp only [Act.put, List.setIfInBounds_toArray, List.set_cons_zero, List.set_cons_succ]
    refine wpList_gd (op := ⟨some 64, _, _, _, _, _⟩) bb60 50 rfl rfl (.bool (decide (m.index < 2147483648))) (fun hb => by obtain rfl := hz63 hb; go_simp) ?_
    intro z64 hz64
    try simp only [Act.put, List.setIfInBounds_toArray, List.set_cons_zero, List.set_cons_succ]
    obtain ⟨bb65, hbb65⟩ : ∃ z : Bool, Hid (z = (bb60 && (decide (m.index < 2147483648)))) := ⟨_, rfl⟩
    refine wpList_run (op := ⟨some 65, _, _, _, _, _⟩) rfl (.bool bb65) w1 (by rw [hbb65.out]; cases bb60 <;> first | (obtain rfl := hz64 rfl; first | rfl | go_simp) | (first | rfl | go_simp)) ?_
    try simp only [Act.put, List.setIfInBounds_toArray, List.set_cons_zero, List.set_cons_succ]
    refine wpList_run (op := ⟨some 66, _, _, _, _, _⟩) rfl (.bool bb65) w1 (by go_simp) ?_
    try simp only [Act.put, List.setIfInBounds_toArray, List.set_cons_zero, List.set_cons_succ]
    refine wpList_gd (op := ⟨some 67, _, _, _, _, _⟩) bb65 55 rfl rfl (.pointer (some ⟨w.heap.size, 5, none⟩)) (fun hb => by go_simp) ?_
    intro z67 hz67
    try simp only [Act.put, List.setIfInBounds_toArray, List.set_cons_zero, List.set_cons_succ]
    refine wpList_gd (op := ⟨some 68, _, _, _, _, _⟩) bb65 55 rfl rfl (.int .i64 m.logTerm) (fun hb => by obtain rfl := hz67 hb; exact run_loadC _ _ rfl _ _ rfl _ Tryz.underlying3 rfl _ (hX1.cell 5)) ?_
    intro z68 hz68
    try simp only [Act.put, List.setIfInBounds_toArray, List.set_cons_zero, List.set_cons_succ]
    refine wpList_gd (op := ⟨some 69, _, _, _, _, _⟩) bb65 55 rfl rfl (.bool (decide (0 ≤ m.logTerm))) (fun hb => by obtain rfl := hz68 hb; go_simp) ?_
    intro z69 hz69
    try simp only [Act.put, List.setIfInBounds_toArray, List.set_cons_zero, List.set_cons_succ]
    obtain ⟨bb70, hbb70⟩ : ∃ z : Bool, Hid (z = (bb65 && (decide (0 ≤ m.logTerm)))) := ⟨_, rfl⟩
    refine wpList_run (op := ⟨some 70, _, _, _, _, _⟩) rfl (.bool bb70) w1 (by rw [hbb70.out]; cases bb65 <;> first | (obtain rfl := hz69 rfl; first | rfl | go_simp) | (first | rfl | go_simp)) ?_
    try simp only [Act.put, List.setIfInBounds_toArray, List.set_cons_zero, List.set_cons_succ]
    refine wpList_run (op := ⟨some 71, _, _, _, _, _⟩) rfl (.bool bb70) w1 (by go_simp) ?_
    try simp only [Act.put, List.setIfInBounds_toArray, List.set_cons_zero, List.set_cons_succ]
    refine wpList_gd (op := ⟨some 72, _, _, _, _, _⟩) bb70 60 rfl rfl (.pointer (some ⟨w.heap.size, 5, none⟩)) (fun hb => by go_simp) ?_
    intro z72 hz72
    try simp only [Act.put, List.setIfInBounds_toArray, List.set_cons_zero, List.set_cons_succ]
    refine wpList_gd (op := ⟨some 73, _, _, _, _, _⟩) bb70 60 rfl rfl (.int .i64 m.logTerm) (fun hb => by obtain rfl := hz72 hb; exact run_loadC _ _ rfl _ _ rfl _ Tryz.underlying3 rfl _ (hX1.cell 5)) ?_
    intro z73 hz73
    try simp only [Act.put, List.setIfInBounds_toArray, List.set_cons_zero, List.set_cons_succ]
    refine wpList_gd (op := ⟨some 74, _, _, _, _, _⟩) bb70 60 rfl rfl (.pointer (some ⟨w.heap.size, 3, none⟩)) (fun hb => by go_simp) ?_
    intro z74 hz74
    try simp only [Act.put, List.setIfInBounds_toArray, List.set_cons_zero, List.set_cons_succ]
    refine wpList_gd (op := ⟨some 75, _, _, _, _, _⟩) bb70 60 rfl rfl (.int .i64 m.term) (fun hb => by obtain rfl := hz74 hb; exact run_loadC _ _ rfl _ _ rfl _ Tryz.underlying3 rfl _ (hX1.cell 3)) ?_
    intro z75 hz75
    try simp only [Act.put, List.setIfInBounds_toArray, List.set_cons_zero, List.set_cons_succ]
    refine wpList_gd (op := ⟨some 76, _, _, _, _, _⟩) bb70 60 rfl rfl (.bool (decide (m.logTerm ≤ m.term))) (fun hb => by obtain rfl := hz73 hb; obtain rfl := hz75 hb; go_simp) ?_
    intro z76 hz76
    try simp only [Act.put, List.setIfInBounds_toArray, List.set_cons_zero, List.set_cons_succ]
    obtain ⟨bb77, hbb77⟩ : ∃ z : Bool, Hid (z = (bb70 && (decide (m.logTerm ≤ m.term)))) := ⟨_, rfl⟩
    refine wpList_run (op := ⟨some 77, _, _, _, _, _⟩) rfl (.bool bb77) w1 (by rw [hbb77.out]; cases bb70 <;> first | (obtain rfl := hz76 rfl; first | rfl | go_simp) | (first | rfl | go_simp)) ?_
    try simp only [Act.put, List.setIfInBounds_toArray, List.set_cons_zero, List.set_cons_succ]
    refine wpList_run (op := ⟨some 78, _, _, _, _, _⟩) rfl (.bool bb77) w1 (by go_simp) ?_
    try simp only [Act.put, List.setIfInBounds_toArray, List.set_cons_zero, List.set_cons_succ]
    refine wpList_gd (op := ⟨some 79, _, _, _, _, _⟩) bb77 67 rfl rfl (.pointer (some ⟨w.heap.size, 6, none⟩)) (fun hb => by go_simp) ?_
    intro z79 hz79
    try simp only [Act.put, List.setIfInBounds_toArray, List.set_cons_zero, List.set_cons_succ]
    refine wpList_gd (op := ⟨some 80, _, _, _, _, _⟩) bb77 67 rfl rfl (.int .i64 m.commit) (fun hb => by obtain rfl := hz79 hb; exact run_loadC _ _ rfl _ _ rfl _ Tryz.underlying3 rfl _ (hX1.cell 6)) ?_
    intro z80 hz80
    try simp only [Act.put, List.setIfInBounds_toArray, List.set_cons_zero, List.set_cons_succ]
    refine wpList_gd (op := ⟨some 81, _, _, _, _, _⟩) bb77 67 rfl rfl (.bool (decide (0 ≤ m.commit))) (fun hb => by obtain rfl := hz80 hb; go_simp) ?_
    intro z81 hz81
    try simp only [Act.put, List.setIfInBounds_toArray, List.set_cons_zero, List.set_cons_succ]
    obtain ⟨bb82, hbb82⟩ : ∃ z : Bool, Hid (z = (bb77 && (decide (0 ≤ m.commit)))) := ⟨_, rfl⟩
    refine wpList_run (op := ⟨some 82, _, _, _, _, _⟩) rfl (.bool bb82) w1 (by rw [hbb82.out]; cases bb77 <;> first | (obtain rfl := hz81 rfl; first | rfl | go_simp) | (first | rfl | go_simp)) ?_
    try simp only [Act.put, List.setIfInBounds_toArray, List.set_cons_zero, List.set_cons_succ]
    refine wpList_run (op := ⟨some 83, _, _, _, _, _⟩) rfl (.bool bb82) w1 (by go_simp) ?_
    try simp only [Act.put, List.setIfInBounds_toArray, List.set_cons_zero, List.set_cons_succ]
    refine wpList_gd (op := ⟨some 84, _, _, _, _, _⟩) bb82 72 rfl rfl (.pointer (some ⟨w.heap.size, 6, none⟩)) (fun hb => by go_simp) ?_
    intro z84 hz84
    try simp only [Act.put, List.setIfInBounds_toArray, List.set_cons_zero, List.set_cons_succ]
    refine wpList_gd (op := ⟨some 85, _, _, _, _, _⟩) bb82 72 rfl rfl (.int .i64 m.commit) (fun hb => by obtain rfl := hz84 hb; exact run_loadC _ _ rfl _ _ rfl _ Tryz.underlying3 rfl _ (hX1.cell 6)) ?_
    intro z85 hz85
    try simp only [Act.put, List.setIfInBounds_toArray, List.set_cons_zero, List.set_cons_succ]
    refine wpList_gd (op := ⟨some 86, _, _, _, _, _⟩) bb82 72 rfl rfl (.bool (decide (m.commit < 2147483648))) (fun hb => by obtain rfl := hz85 hb; go_simp) ?_
    intro z86 hz86
    try simp only [Act.put, List.setIfInBounds_toArray, List.set_cons_zero, List.set_cons_succ]
    obtain ⟨bb87, hbb87⟩ : ∃ z : Bool, Hid (z = (bb82 && (decide (m.commit < 2147483648)))) := ⟨_, rfl⟩
    refine wpList_run (op := ⟨some 87, _, _, _, _, _⟩) rfl (.bool bb87) w1 (by rw [hbb87.out]; cases bb82 <;> first | (obtain rfl := hz86 rfl; first | rfl | go_simp) | (first | rfl | go_simp)) ?_
    try simp only [Act.put, List.setIfInBounds_toArray, List.set_cons_zero, List.set_cons_succ]
    refine wpList_run (op := ⟨some 88, _, _, _, _, _⟩) rfl (.bool bb87) w1 (by go_simp) ?_
    try simp only [Act.put, List.setIfInBounds_toArray, List.set_cons_zero, List.set_cons_succ]
    refine wpList_gd (op := ⟨some 89, _, _, _, _, _⟩) bb87 77 rfl rfl (.pointer (some ⟨w.heap.size, 9, none⟩)) (fun hb => by go_simp) ?_
    intro z89 hz89
    try simp only [Act.put, List.setIfInBounds_toArray, List.set_cons_zero, List.set_cons_succ]
    refine wpList_gd (op := ⟨some 90, _, _, _, _, _⟩) bb87 77 rfl rfl (.int .i64 m.off) (fun hb => by obtain rfl := hz89 hb; exact run_loadC _ _ rfl _ _ rfl _ Tryz.underlying3 rfl _ (hX1.cell 9)) ?_
    intro z90 hz90
    try simp only [Act.put, List.setIfInBounds_toArray, List.set_cons_zero, List.set_cons_succ]
    refine wpList_gd (op := ⟨some 91, _, _, _, _, _⟩) bb87 77 rfl rfl (.bool (decide (0 ≤ m.off))) (fun hb => by obtain rfl := hz90 hb; go_simp) ?_
    intro z91 hz91
    try simp only [Act.put, List.setIfInBounds_toArray, List.set_cons_zero, List.set_cons_succ]
    obtain ⟨bb92, hbb92⟩ : ∃ z : Bool, Hid (z = (bb87 && (decide (0 ≤ m.off)))) := ⟨_, rfl⟩
    refine wpList_run (op := ⟨some 92, _, _, _, _, _⟩) rfl (.bool bb92) w1 (by rw [hbb92.out]; cases bb87 <;> first | (obtain rfl := hz91 rfl; first | rfl | go_simp) | (first | rfl | go_simp)) ?_
    try simp only [Act.put, List.setIfInBounds_toArray, List.set_cons_zero, List.set_cons_succ]
    refine wpList_run (op := ⟨some 93, _, _, _, _, _⟩) rfl (.bool bb92) w1 (by go_simp) ?_
    try simp only [Act.put, List.setIfInBounds_toArray, List.set_cons_zero, List.set_cons_succ]
    refine wpList_gd (op := ⟨some 94, _, _, _, _, _⟩) bb92 82 rfl rfl (.pointer (some ⟨w.heap.size, 9, none⟩)) (fun hb => by go_simp) ?_
    intro z94 hz94
    try simp only [Act.put, List.setIfInBounds_toArray, List.set_cons_zero, List.set_cons_succ]
    refine wpList_gd (op := ⟨some 95, _, _, _, _, _⟩) bb92 82 rfl rfl (.int .i64 m.off) (fun hb => by obtain rfl := hz94 hb; exact run_loadC _ _ rfl _ _ rfl _ Tryz.underlying3 rfl _ (hX1.cell 9)) ?_
    intro z95 hz95
    try simp only [Act.put, List.setIfInBounds_toArray, List.set_cons_zero, List.set_cons_succ]
    refine wpList_gd (op := ⟨some 96, _, _, _, _, _⟩) bb92 82 rfl rfl (.bool (decide (m.off < 2147483648))) (fun hb => by obtain rfl := hz95 hb; go_simp) ?_
    intro z96 hz96
    try simp only [Act.put, List.setIfInBounds_toArray, List.set_cons_zero, List.set_cons_succ]
    obtain ⟨bb97, hbb97⟩ : ∃ z : Bool, Hid (z = (bb92 && (decide (m.off < 2147483648)))) := ⟨_, rfl⟩
    refine wpList_run (op := ⟨some 97, _, _, _, _, _⟩) rfl (.bool bb97) w1 (by rw [hbb97.out]; cases bb92 <;> first | (obtain rfl := hz96 rfl; first | rfl | go_simp) | (first | rfl | go_simp)) ?_
    try simp only [Act.put, List.setIfInBounds_toArray, List.set_cons_zero, List.set_cons_succ]
    refine wpList_run (op := ⟨some 98, _, _, _, _, _⟩) rfl (.bool bb97) w1 (by go_simp) ?_
    try simp only [Act.put, List.setIfInBounds_toArray, List.set_cons_zero, List.set_cons_succ]
    refine wpList_gd (op := ⟨some 99, _, _, _, _, _⟩) bb97 87 rfl rfl (.pointer (some ⟨w.heap.size, 8, none⟩)) (fun hb => by go_simp) ?_
    intro z99 hz99
    try simp only [Act.put, List.setIfInBounds_toArray, List.set_cons_zero, List.set_cons_succ]
    refine wpList_gd (op := ⟨some 100, _, _, _, _, _⟩) bb97 87 rfl rfl (.slice ea m.ents.length ec) (fun hb => by obtain rfl := hz99 hb; exact run_loadC _ _ rfl _ _ rfl _ Tryz.underlying22 rfl _ (hX1.cell 8)) ?_
    intro z100 hz100
    try simp only [Act.put, List.setIfInBounds_toArray, List.set_cons_zero, List.set_cons_succ]
    refine wpList_gd (op := ⟨some 101, _, _, _, _, _⟩) bb97 87 rfl rfl (.int .i64 (m.ents.length : Nat)) (fun hb => by obtain rfl := hz100 hb; go_simp) ?_
    intro z101 hz101
    try simp only [Act.put, List.setIfInBounds_toArray, List.set_cons_zero, List.set_cons_succ]
    refine wpList_gd (op := ⟨some 102, _, _, _, _, _⟩) bb97 87 rfl rfl (.bool (decide ((m.ents.length : Int) ≤ 16))) (fun hb => by obtain rfl := hz101 hb; go_simp) ?_
    intro z102 hz102
    try simp only [Act.put, List.setIfInBounds_toArray, List.set_cons_zero, List.set_cons_succ]
    obtain ⟨bb103, hbb103⟩ : ∃ z : Bool, Hid (z = (bb97 && (decide ((m.ents.length : Int) ≤ 16)))) := ⟨_, rfl⟩
    refine wpList_run (op := ⟨some 103, _, _, _, _, _⟩) rfl (.bool bb103) w1 (by rw [hbb103.out]; cases bb97 <;> first | (obtain rfl := hz102 rfl; first | rfl | go_simp) | (first | rfl | go_simp)) ?_
    try simp only [Act.put, List.setIfInBounds_toArray, List.set_cons_zero, List.set_cons_succ]
    refine wpList_run (op := ⟨some 104, _, _, _, _, _⟩) rfl (.bool bb103) w1 (by go_simp) ?_
    try simp only [Act.put, List.setIfInBounds_toArray, List.set_cons_zero, List.set_cons_succ]
    refine wpList_gd (op := ⟨some 105, _, _, _, _, _⟩) bb103 93 rfl rfl (.pointer (some ⟨w.heap.size, 10, none⟩)) (fun hb => by go_simp) ?_
    intro z105 hz105
    try simp only [Act.put, List.setIfInBounds_toArray, List.set_cons_zero, List.set_cons_succ]
    refine wpList_gd (op := ⟨some 106, _, _, _, _, _⟩) bb103 93 rfl rfl (.string ⟨m.piece.toArray⟩) (fun hb => by obtain rfl := hz105 hb; exact run_loadC _ _ rfl _ _ rfl _ Tryz.underlying9 rfl _ (hX1.cell 10)) ?_
    intro z106 hz106
    try simp only [Act.put, List.setIfInBounds_toArray, List.set_cons_zero, List.set_cons_succ]
    refine wpList_gd (op := ⟨some 107, _, _, _, _, _⟩) bb103 93 rfl rfl (.int .i64 (m.piece.length : Nat)) (fun hb => by obtain rfl := hz106 hb; go_simp) ?_
    intro z107 hz107
    try simp only [Act.put, List.setIfInBounds_toArray, List.set_cons_zero, List.set_cons_succ]
    refine wpList_gd (op := ⟨some 108, _, _, _, _, _⟩) bb103 93 rfl rfl (.bool (decide ((m.piece.length : Int) ≤ 200))) (fun hb => by obtain rfl := hz107 hb; go_simp) ?_
    intro z108 hz108
    try simp only [Act.put, List.setIfInBounds_toArray, List.set_cons_zero, List.set_cons_succ]
    obtain ⟨bb109, hbb109⟩ : ∃ z : Bool, Hid (z = (bb103 && (decide ((m.piece.length : Int) ≤ 200)))) := ⟨_, rfl⟩
    refine wpList_run (op := ⟨some 109, _, _, _, _, _⟩) rfl (.bool bb109) w1 (by rw [hbb109.out]; cases bb103 <;> first | (obtain rfl := hz108 rfl; first | rfl | go_simp) | (first | rfl | go_simp)) ?_
    try simp only [Act.put, List.setIfInBounds_toArray, List.set_cons_zero, List.set_cons_succ]
    refine wpList_run (op := ⟨some 5, _, _, _, _, _⟩) rfl (.bool bb109) w1 (by go_simp) ?_
    try simp only [Act.put, List.setIfInBounds_toArray, List.set_cons_zero, List.set_cons_succ]
    refine wpList_nil ?_
    have e : bb109 = B := by
      rw [← hB.out]
      apply Bool.eq_iff_iff.2
      rw [ok_iff, hbb109.out, hbb103.out, hbb97.out, hbb92.out, hbb87.out, hbb82.out, hbb77.out, hbb70.out, hbb65.out, hbb60.out, hbb55.out, hbb50.out, hbb45.out, hbb38.out, hbb33.out, hbb28.out, hbb23.out, hbb18.out, hbb13.out]
      simp only [Bool.and_eq_true, decide_eq_true_eq, bne_iff_ne, ne_eq]
      constructor <;> intro h <;> omega
    subst e
    rename_i hMK hJ
    refine hMK _ _ (Met.intro (hJ _ _ ?_))
    (repeat apply Exists.intro)
    refine ⟨?rel, rfl⟩
    case rel => exact ⟨rfl, rfl⟩
  case rest =>
    obtain ⟨rfl, hw1⟩ := hcut
    replace hw1 := hw1.symm
    subst hw1
    clear e0 e1 e2 e3 e4 e5 e6 e7 e8 e9 e10 e11 e12
    have hBB : (B != B) = false := by cases B <;> rfl
    go_upto_region 4 with (first
      | (go_at_call 9; refine (awake_any _).mono ?_; rintro o w2 ⟨rfl, hw2⟩; have hb2 := hb1.trans (hw2.mono hb1.size); have hX2 := hX1.belowSize hw2
         have e0 := hX2.cell 0
         have e1 := hX2.cell 1
         have e2 := hX2.cell 2
         have e3 := hX2.cell 3
         have e4 := hX2.cell 4
         have e5 := hX2.cell 5
         have e6 := hX2.cell 6
         have e7 := hX2.cell 7
         have e8 := hX2.cell 8
         have e9 := hX2.cell 9
         have e10 := hX2.cell 10
         have e11 := hX2.cell 11
         have e12 := hX2.cell 12)
      | (go_at_call 10; refine (check_any m ea ec ma mc _ hec B hB).mono ?_; rintro o w3 ⟨rfl, hw3⟩; have hb3 := hb2.trans (hw3.mono hb2.size); have hX3 := hX2.belowSize hw3))
    go_wp2_with fail
    go_loopw [5, 6] (fun v5 v6 wl => ∃ (i : Nat) (b5 : Bool), i ≤ m.ents.length ∧ v6 = .int .i64 i ∧ v5 = .bool b5 ∧ (b5 = true → m.ok = true ∧ ∀ e ∈ m.ents.take i, EnOk e) ∧ Below w3.heap.size w3 wl) (fun _ v6 _ => m.ents.length - (intOf v6).toNat)
    case atStart => exact ⟨0, B, by omega, rfl, rfl, fun h => ⟨hB.out.trans h, fun e he => by simp at he⟩, Below.refl _ _⟩
    case round =>
      clear e0 e1 e2 e3 e4 e5 e6 e7 e8 e9 e10 e11 e12
      obtain ⟨i, b5, hil, rfl, rfl, hok, hBl⟩ := hrel
      rename World => wl
      have hbl := hb3.trans (hBl.mono hb3.size)
      have hXl := hX3.belowSize hBl
      have e8 := hXl.cell 8
      clear hB hBB
      have hz1 : (0 : Int) ≤ (i : Int) := by omega
      by_cases hlt : i < m.ents.length
      · have hz2 : (i : Int) < (m.ents.length : Int) := by omega
        have hz3 : i < m.ents.length := hlt
        cases b5 with
        | false =>
          clear hok
          by_cases hq : (⟨s, 0, 0⟩ : R).msg.1.err = 0
          · have hk3 : tmOf ⟨s, 0, 0⟩ = (⟨s, 0, 0⟩ : R).msg.2 := by unfold tmOf; exact if_pos hq
            obtain ⟨g1, g2⟩ := msg_goes (r := ⟨s, 0, 0⟩) (Nat.zero_le _) hq
            have hmB := g1.at'
            dsimp only at hmB
            rw [List.take_zero, List.nil_append, ← hk3] at hmB
            rw [← hk3] at g2
            have hqo := msg_okR (r := ⟨s, 0, 0⟩) (Nat.zero_le _)
            have hqs : (⟨s, 0, 0⟩ : R).msg.1.s = s := g1.s
            unfold R.ok at hqo
            rw [hqs] at hqo
            have d1 : ((⟨s, 0, 0⟩ : R).msg.1.err != 0) = false := by rw [hq]; rfl
            have HTK := fun b W (h : RD W b ⟨s, 0, 0⟩) => tk_counts b ⟨s, 0, 0⟩ W h (Nat.zero_le _) hs
            unfold TmP mcells at HTK
            clear hq hk3 g1 hqs
            generalize tmOf ⟨s, 0, 0⟩ = k at *
            generalize (R.msg ⟨s, 0, 0⟩).1 = q at *
            have hz1 : (0 : Int) ≤ (q.pos : Int) := by omega
            have hz2 : (q.pos : Int) ≤ (s.length : Int) := by omega
            go_upto_region 13 with (first
              | (go_at_call 13; refine (newr_any s _).mono ?_; rintro oo wr ⟨rfl, hbr, hRD⟩)
              | (go_at_call 14; refine (HTK _ _ hRD).mono ?_; rintro oo wk hP; obtain ⟨ka, kc, la, lc, rfl, hKE, hkc, hKI, hlc, hTk⟩ := hP; clear HTK))
            have hbk : Below wl.heap.size wl wk := bl_gr hbr hTk.grown (Nat.le_refl _)
            have hbwk := hbl.trans (hbk.mono hbl.size)
            have hbv := bl_al (Below.refl wk.heap.size wk) (.cells #[.int .i64 k.kind, .int .i64 k.frm, .int .i64 k.dst, .int .i64 k.term, .int .i64 k.index, .int .i64 k.logTerm, .int .i64 k.commit, .bool k.yes, .slice ka k.ents.length kc, .int .i64 k.off, .string ⟨k.piece.toArray⟩, .bool k.done, .slice la k.mems.length lc] 25)
            have hXv := Blk.new wk #[.int .i64 k.kind, .int .i64 k.frm, .int .i64 k.dst, .int .i64 k.term, .int .i64 k.index, .int .i64 k.logTerm, .int .i64 k.commit, .bool k.yes, .slice ka k.ents.length kc, .int .i64 k.off, .string ⟨k.piece.toArray⟩, .bool k.done, .slice la k.mems.length lc] 25
            generalize wk.alloc (.cells #[.int .i64 k.kind, .int .i64 k.frm, .int .i64 k.dst, .int .i64 k.term, .int .i64 k.index, .int .i64 k.logTerm, .int .i64 k.commit, .bool k.yes, .slice ka k.ents.length kc, .int .i64 k.off, .string ⟨k.piece.toArray⟩, .bool k.done, .slice la k.mems.length lc] 25) = wv at *
            have hbwv := hbwk.trans (hbv.mono hbwk.size)
            have HPk := fun W (hW : Below wv.heap.size wv W) (h : WR W wv.heap.size []) => put_any k g2 ka kc la lc wv.heap.size [] W wv hW (Nat.le_refl _) (hKE.below hbv) hkc (hKI.below hbv) hlc h (Nat.zero_le _)
            unfold mcells at HPk
            rw [← hmB] at HPk
            go_wp2_with (first
              | (go_at_call 15; refine (err_any _ _ _ (hTk.rd.below hbv)).mono ?_; rintro oo wx0 ⟨rfl, hwx0⟩; replace hwx0 := hwx0.symm; subst hwx0)
              | (go_at_call 16; refine (neww_any _).mono ?_; rintro oo wx ⟨rfl, hbx, hWx⟩; have hXx := hXv.belowSize hbx
                 have e0 := hXx.cell 0
                 have e1 := hXx.cell 1
                 have e2 := hXx.cell 2
                 have e3 := hXx.cell 3
                 have e4 := hXx.cell 4
                 have e5 := hXx.cell 5
                 have e6 := hXx.cell 6
                 have e7 := hXx.cell 7
                 have e8 := hXx.cell 8
                 have e9 := hXx.cell 9
                 have e10 := hXx.cell 10
                 have e11 := hXx.cell 11
                 have e12 := hXx.cell 12)
              | (go_at_call 17; refine (HPk _ hbx hWx).mono ?_; rintro oo wy ⟨rfl, hPy⟩; clear HPk; have hvy := hbx.trans hPy.below; have hRf := (hTk.rd.below hbv).below hvy; have hWy := hPy.wr; rw [List.nil_append] at hWy)
              | (go_at_call 18; refine (wall_any _ _ _ hWy).mono ?_; rintro oo wz ⟨rfl, hwz⟩; replace hwz := hwz.symm; subst hwz)
              | (go_at_call 19; refine (at_any _ _ _ hRf).mono ?_; rintro oo wz3 ⟨rfl, hwz3⟩; replace hwz3 := hwz3.symm; subst hwz3))
            go_ret
            exact ⟨rfl, hbwv.trans (hvy.mono hbwv.size)⟩
          · have hk3 : tmOf ⟨s, 0, 0⟩ = MSG.none := by unfold tmOf; exact if_neg hq
            have d1 : ((⟨s, 0, 0⟩ : R).msg.1.err != 0) = true := bne_iff_ne.2 hq
            have HTK := fun b W (h : RD W b ⟨s, 0, 0⟩) => tk_counts b ⟨s, 0, 0⟩ W h (Nat.zero_le _) hs
            unfold TmP mcells at HTK
            rw [hk3] at HTK
            clear hq hk3
            generalize (R.msg ⟨s, 0, 0⟩).1 = q at *
            go_upto_region 13 with (first
              | (go_at_call 13; refine (newr_any s _).mono ?_; rintro oo wr ⟨rfl, hbr, hRD⟩)
              | (go_at_call 14; refine (HTK _ _ hRD).mono ?_; rintro oo wk hP; obtain ⟨ka, kc, la, lc, hoo, _, _, _, _, hTk⟩ := hP; replace hoo : oo = .returned (.agg #[.int .i64 0, .int .i64 0, .int .i64 0, .int .i64 0, .int .i64 0, .int .i64 0, .int .i64 0, .bool false, .slice ka 0 kc, .int .i64 0, .string ⟨#[]⟩, .bool false, .slice la 0 lc]) := hoo; subst hoo; clear HTK))
            have hbk : Below wl.heap.size wl wk := bl_gr hbr hTk.grown (Nat.le_refl _)
            have hbwk := hbl.trans (hbk.mono hbl.size)
            have hbv := bl_al (Below.refl wk.heap.size wk) (.cells #[.int .i64 0, .int .i64 0, .int .i64 0, .int .i64 0, .int .i64 0, .int .i64 0, .int .i64 0, .bool false, .slice ka 0 kc, .int .i64 0, .string ⟨#[]⟩, .bool false, .slice la 0 lc] 25)
            have hXv := Blk.new wk #[.int .i64 0, .int .i64 0, .int .i64 0, .int .i64 0, .int .i64 0, .int .i64 0, .int .i64 0, .bool false, .slice ka 0 kc, .int .i64 0, .string ⟨#[]⟩, .bool false, .slice la 0 lc] 25
            generalize wk.alloc (.cells #[.int .i64 0, .int .i64 0, .int .i64 0, .int .i64 0, .int .i64 0, .int .i64 0, .int .i64 0, .bool false, .slice ka 0 kc, .int .i64 0, .string ⟨#[]⟩, .bool false, .slice la 0 lc] 25) = wv at *
            have hbwv := hbwk.trans (hbv.mono hbwk.size)
            have e0 := hXv.cell 0
            have e3 := hXv.cell 3
            have e8 := hXv.cell 8
            go_wp2_with (go_at_call 15; refine (err_any _ _ _ (hTk.rd.below hbv)).mono ?_; rintro oo wx0 ⟨rfl, hwx0⟩; replace hwx0 := hwx0.symm; subst hwx0)
            go_ret
            exact ⟨rfl, hbwv⟩
        | true =>
          obtain ⟨hok1, hok2⟩ := hok rfl
          clear hok
          obtain ⟨g, o, me, ce, rfl, hr, hIm, hml2⟩ := hE i hlt
          have hw3' : IntKind.i64.wrap ((i : Int) + 1) = ((i + 1 : Nat) : Int) := by rw [IntKind.wrap_i64]; omega
          have hrl : wl.rangeAt g (o + i * 4) (lec m.ents[i] (.slice me m.ents[i].mem.length ce)).toList := fun j v hv => by
            have h0 := hr j v hv
            exact (cell_of_block (hbl.block g (World.block_lt_of_cell? _ _ h0))).trans h0
          have hsu : m.ents.take (i + 1) = m.ents.take i ++ [m.ents[i]] := List.take_succ_eq_append_getElem hlt
          replace hsu : Hid (_ = _) := hsu
          generalize m.ents[i] = e at *
          unfold lec at hrl
          clear hr
          have hb9 := bl_al (Below.refl wl.heap.size wl) (.cells #[.int .i64 e.term, .string ⟨e.s.toArray⟩, .bool e.conf, .slice me e.mem.length ce] 29)
          have hX9 := Blk.new wl #[.int .i64 e.term, .string ⟨e.s.toArray⟩, .bool e.conf, .slice me e.mem.length ce] 29
          go_upto_region 8 with (with_reducible refine at_list ?_; refine wpList_run (op := ⟨some 132, _, _, _, _, _⟩) rfl (.agg #[.int .i64 e.term, .string ⟨e.s.toArray⟩, .bool e.conf, .slice me e.mem.length ce]) wl (run_loadMid _ _ rfl _ _ rfl #[.int .i64 e.term, .string ⟨e.s.toArray⟩, .bool e.conf, .slice me e.mem.length ce] hrl _ Tryz.underlying29 rfl (lecI e _)) ?_)
          generalize wl.alloc (.cells #[.int .i64 e.term, .string ⟨e.s.toArray⟩, .bool e.conf, .slice me e.mem.length ce] 29) = w9 at *
          have hBl9 := hBl.trans (hb9.mono hBl.size)
          have hb9w := hbl.trans (hb9.mono hbl.size)
          have e0 := hX9.cell 0
          have e1 := hX9.cell 1
          have e2 := hX9.cell 2
          have e3 := hX9.cell 3
          by_cases k1 : 0 ≤ e.term
          · by_cases k2 : e.term < 2147483648
            · by_cases k4 : (e.s.length : Int) < 1000
              · cases hc : e.conf with
                | false =>
                  rw [hc] at e2
                  have hEO : EnOk e := ⟨(fun h => absurd (hc ▸ h) Bool.false_ne_true), by omega, by omega⟩
                  go_wp2_with fail
                  go_roundw
                  case rel => exact ⟨i + 1, true, by omega, by go_num, rfl, (fun _ => ⟨hok1, fun x hx => (List.mem_append.1 (hsu.out ▸ hx)).elim (hok2 x) (fun h => by rw [List.mem_singleton] at h; rw [h]; exact hEO)⟩), hBl9⟩
                  case measure => simp [intOf]; omega
                | true =>
                  rw [hc] at e2
                  cases hmo : okM e.mem with
                  | true =>
                    have hEO : EnOk e := ⟨fun _ => okM_iff.1 hmo, by omega, by omega⟩
                    have HMm := rmembers_any e.mem me ce w9 (hIm.below hb9w) true hmo
                    go_wp2_with (go_at_call 11; refine HMm.mono ?_; rintro oo wm ⟨rfl, hwm⟩; clear HMm; have e1 := (hX9.belowSize hwm).cell 1)
                    go_roundw
                    case rel => exact ⟨i + 1, true, by omega, by go_num, rfl, (fun _ => ⟨hok1, fun x hx => (List.mem_append.1 (hsu.out ▸ hx)).elim (hok2 x) (fun h => by rw [List.mem_singleton] at h; rw [h]; exact hEO)⟩), hBl9.trans (hwm.mono hBl9.size)⟩
                    case measure => simp [intOf]; omega
                  | false =>
                    have HMm := rmembers_any e.mem me ce w9 (hIm.below hb9w) false hmo
                    go_wp2_with (go_at_call 11; refine HMm.mono ?_; rintro oo wm ⟨rfl, hwm⟩; clear HMm)
                    go_roundw
                    case rel => exact ⟨i + 1, false, by omega, by go_num, rfl, (fun h => absurd h Bool.false_ne_true), hBl9.trans (hwm.mono hBl9.size)⟩
                    case measure => simp [intOf]; omega
              · have k4d : decide ((e.s.length : Int) < 1000) = false := decide_eq_false k4
                cases hc : e.conf with
                | false =>
                  rw [hc] at e2
                  go_wp2_with fail
                  go_roundw
                  case rel => exact ⟨i + 1, false, by omega, by go_num, rfl, (fun h => absurd h Bool.false_ne_true), hBl9⟩
                  case measure => simp [intOf]; omega
                | true =>
                  rw [hc] at e2
                  cases hmo : okM e.mem with
                  | true =>
                    have HMm := rmembers_any e.mem me ce w9 (hIm.below hb9w) true hmo
                    go_wp2_with (go_at_call 11; refine HMm.mono ?_; rintro oo wm ⟨rfl, hwm⟩; clear HMm; have e1 := (hX9.belowSize hwm).cell 1)
                    go_roundw
                    case rel => exact ⟨i + 1, false, by omega, by go_num, rfl, (fun h => absurd h Bool.false_ne_true), hBl9.trans (hwm.mono hBl9.size)⟩
                    case measure => simp [intOf]; omega
                  | false =>
                    have HMm := rmembers_any e.mem me ce w9 (hIm.below hb9w) false hmo
                    go_wp2_with (go_at_call 11; refine HMm.mono ?_; rintro oo wm ⟨rfl, hwm⟩; clear HMm)
                    go_roundw
                    case rel => exact ⟨i + 1, false, by omega, by go_num, rfl, (fun h => absurd h Bool.false_ne_true), hBl9.trans (hwm.mono hBl9.size)⟩
                    case measure => simp [intOf]; omega
            · skip
              go_wp2_with fail
              go_roundw
              case rel => exact ⟨i + 1, false, by omega, by go_num, rfl, (fun h => absurd h Bool.false_ne_true), hBl9⟩
              case measure => simp [intOf]; omega
          · skip
            go_wp2_with fail
            go_roundw
            case rel => exact ⟨i + 1, false, by omega, by go_num, rfl, (fun h => absurd h Bool.false_ne_true), hBl9⟩
            case measure => simp [intOf]; omega
      · obtain rfl : i = m.ents.length := by omega
        have hz2 : ¬ ((m.ents.length : Int) < (m.ents.length : Int)) := by omega
        rw [List.take_length] at hok
        go_upto_region 9 with fail
        go_cut [173] from 157 to 173 (fun s173 wx => s173 = .bool false ∧ Below w3.heap.size w3 wx)
        case first =>
          cases b5 with
          | false =>
            go_wp2_with fail
            go_meet
            case rel => exact ⟨rfl, hBl⟩
          | true =>
            obtain ⟨hok1, hok2⟩ := hok rfl
            clear hok
            have e12 := hXl.cell 12
            by_cases hm0 : m.mems.length = 0
            · have hm0i : (m.mems.length : Int) = 0 := by omega
              have d0 : ((m.mems.length : Int) == 0) = true := by rw [hm0i]; rfl
              have hTk := tkOk_of hok1 hok2 (fun h => by omega)
              have HTh := there_any wl m hTk ea ec ma mc (hE.below hbl) hec (hI.below hbl) hmc
              unfold mcells at HTh
              have e0 := hXl.cell 0
              have e1 := hXl.cell 1
              have e2 := hXl.cell 2
              have e3 := hXl.cell 3
              have e4 := hXl.cell 4
              have e5 := hXl.cell 5
              have e6 := hXl.cell 6
              have e7 := hXl.cell 7
              have e9 := hXl.cell 9
              have e10 := hXl.cell 10
              have e11 := hXl.cell 11
              clear hm0 hm0i
              go_wp2_with (go_at_call 12; refine HTh.mono ?_; rintro oo wt ⟨rfl, hwt⟩; clear HTh)
              go_meet
              case rel => exact ⟨rfl, hBl.trans (hwt.mono hBl.size)⟩
            · have d0 : ((m.mems.length : Int) == 0) = false := by rw [beq_eq_false_iff_ne]; omega
              cases hmo : okM m.mems with
              | false =>
                have HMm := rmembers_any m.mems ma mc wl (hI.below hbl) false hmo
                clear hm0
                go_wp2_with (go_at_call 11; refine HMm.mono ?_; rintro oo wm ⟨rfl, hwm⟩; clear HMm)
                go_meet
                case rel => exact ⟨rfl, hBl.trans (hwm.mono hBl.size)⟩
              | true =>
                have HMm := rmembers_any m.mems ma mc wl (hI.below hbl) true hmo
                have hTk := tkOk_of hok1 hok2 (fun _ => okM_iff.1 hmo)
                have HTh := fun W (hW : Below w.heap.size w W) => there_any W m hTk ea ec ma mc (hE.below hW) hec (hI.below hW) hmc
                unfold mcells at HTh
                clear hm0
                go_wp2_with (first
                  | (go_at_call 11; refine HMm.mono ?_; rintro oo wm ⟨rfl, hwm⟩; clear HMm; have hbm := hbl.trans (hwm.mono hbl.size); have hXm := hXl.belowSize hwm
                     have e0 := hXm.cell 0
                     have e1 := hXm.cell 1
                     have e2 := hXm.cell 2
                     have e3 := hXm.cell 3
                     have e4 := hXm.cell 4
                     have e5 := hXm.cell 5
                     have e6 := hXm.cell 6
                     have e7 := hXm.cell 7
                     have e8 := hXm.cell 8
                     have e9 := hXm.cell 9
                     have e10 := hXm.cell 10
                     have e11 := hXm.cell 11
                     have e12 := hXm.cell 12)
                  | (go_at_call 12; refine (HTh _ hbm).mono ?_; rintro oo wt ⟨rfl, hwt⟩; clear HTh))
                go_meet
                case rel => exact ⟨rfl, (hBl.trans (hwm.mono hBl.size)).trans (hwt.mono (hBl.trans (hwm.mono hBl.size)).size)⟩
        case rest =>
          obtain ⟨rfl, hBx⟩ := hcut
          rename World => wx
          have hbx0 := hb3.trans (hBx.mono hb3.size)
          clear hbl hXl e8 hBl
          by_cases hq : (⟨s, 0, 0⟩ : R).msg.1.err = 0
          · have hk3 : tmOf ⟨s, 0, 0⟩ = (⟨s, 0, 0⟩ : R).msg.2 := by unfold tmOf; exact if_pos hq
            obtain ⟨g1, g2⟩ := msg_goes (r := ⟨s, 0, 0⟩) (Nat.zero_le _) hq
            have hmB := g1.at'
            dsimp only at hmB
            rw [List.take_zero, List.nil_append, ← hk3] at hmB
            rw [← hk3] at g2
            have hqo := msg_okR (r := ⟨s, 0, 0⟩) (Nat.zero_le _)
            have hqs : (⟨s, 0, 0⟩ : R).msg.1.s = s := g1.s
            unfold R.ok at hqo
            rw [hqs] at hqo
            have d1 : ((⟨s, 0, 0⟩ : R).msg.1.err != 0) = false := by rw [hq]; rfl
            have HTK := fun b W (h : RD W b ⟨s, 0, 0⟩) => tk_counts b ⟨s, 0, 0⟩ W h (Nat.zero_le _) hs
            unfold TmP mcells at HTK
            clear hq hk3 g1 hqs
            generalize tmOf ⟨s, 0, 0⟩ = k at *
            generalize (R.msg ⟨s, 0, 0⟩).1 = q at *
            have hz1 : (0 : Int) ≤ (q.pos : Int) := by omega
            have hz2 : (q.pos : Int) ≤ (s.length : Int) := by omega
            go_upto_region 13 with (first
              | (go_at_call 13; refine (newr_any s _).mono ?_; rintro oo wr ⟨rfl, hbr, hRD⟩)
              | (go_at_call 14; refine (HTK _ _ hRD).mono ?_; rintro oo wk hP; obtain ⟨ka, kc, la, lc, rfl, hKE, hkc, hKI, hlc, hTk⟩ := hP; clear HTK))
            have hbk : Below wx.heap.size wx wk := bl_gr hbr hTk.grown (Nat.le_refl _)
            have hbwk := hbx0.trans (hbk.mono hbx0.size)
            have hbv := bl_al (Below.refl wk.heap.size wk) (.cells #[.int .i64 k.kind, .int .i64 k.frm, .int .i64 k.dst, .int .i64 k.term, .int .i64 k.index, .int .i64 k.logTerm, .int .i64 k.commit, .bool k.yes, .slice ka k.ents.length kc, .int .i64 k.off, .string ⟨k.piece.toArray⟩, .bool k.done, .slice la k.mems.length lc] 25)
            have hXv := Blk.new wk #[.int .i64 k.kind, .int .i64 k.frm, .int .i64 k.dst, .int .i64 k.term, .int .i64 k.index, .int .i64 k.logTerm, .int .i64 k.commit, .bool k.yes, .slice ka k.ents.length kc, .int .i64 k.off, .string ⟨k.piece.toArray⟩, .bool k.done, .slice la k.mems.length lc] 25
            generalize wk.alloc (.cells #[.int .i64 k.kind, .int .i64 k.frm, .int .i64 k.dst, .int .i64 k.term, .int .i64 k.index, .int .i64 k.logTerm, .int .i64 k.commit, .bool k.yes, .slice ka k.ents.length kc, .int .i64 k.off, .string ⟨k.piece.toArray⟩, .bool k.done, .slice la k.mems.length lc] 25) = wv at *
            have hbwv := hbwk.trans (hbv.mono hbwk.size)
            have HPk := fun W (hW : Below wv.heap.size wv W) (h : WR W wv.heap.size []) => put_any k g2 ka kc la lc wv.heap.size [] W wv hW (Nat.le_refl _) (hKE.below hbv) hkc (hKI.below hbv) hlc h (Nat.zero_le _)
            unfold mcells at HPk
            rw [← hmB] at HPk
            go_wp2_with (first
              | (go_at_call 15; refine (err_any _ _ _ (hTk.rd.below hbv)).mono ?_; rintro oo wx0 ⟨rfl, hwx0⟩; replace hwx0 := hwx0.symm; subst hwx0)
              | (go_at_call 16; refine (neww_any _).mono ?_; rintro oo wx ⟨rfl, hbx, hWx⟩; have hXx := hXv.belowSize hbx
                 have e0 := hXx.cell 0
                 have e1 := hXx.cell 1
                 have e2 := hXx.cell 2
                 have e3 := hXx.cell 3
                 have e4 := hXx.cell 4
                 have e5 := hXx.cell 5
                 have e6 := hXx.cell 6
                 have e7 := hXx.cell 7
                 have e8 := hXx.cell 8
                 have e9 := hXx.cell 9
                 have e10 := hXx.cell 10
                 have e11 := hXx.cell 11
                 have e12 := hXx.cell 12)
              | (go_at_call 17; refine (HPk _ hbx hWx).mono ?_; rintro oo wy ⟨rfl, hPy⟩; clear HPk; have hvy := hbx.trans hPy.below; have hRf := (hTk.rd.below hbv).below hvy; have hWy := hPy.wr; rw [List.nil_append] at hWy)
              | (go_at_call 18; refine (wall_any _ _ _ hWy).mono ?_; rintro oo wz ⟨rfl, hwz⟩; replace hwz := hwz.symm; subst hwz)
              | (go_at_call 19; refine (at_any _ _ _ hRf).mono ?_; rintro oo wz3 ⟨rfl, hwz3⟩; replace hwz3 := hwz3.symm; subst hwz3))
            go_ret
            exact ⟨rfl, hbwv.trans (hvy.mono hbwv.size)⟩
          · have hk3 : tmOf ⟨s, 0, 0⟩ = MSG.none := by unfold tmOf; exact if_neg hq
            have d1 : ((⟨s, 0, 0⟩ : R).msg.1.err != 0) = true := bne_iff_ne.2 hq
            have HTK := fun b W (h : RD W b ⟨s, 0, 0⟩) => tk_counts b ⟨s, 0, 0⟩ W h (Nat.zero_le _) hs
            unfold TmP mcells at HTK
            rw [hk3] at HTK
            clear hq hk3
            generalize (R.msg ⟨s, 0, 0⟩).1 = q at *
            go_upto_region 13 with (first
              | (go_at_call 13; refine (newr_any s _).mono ?_; rintro oo wr ⟨rfl, hbr, hRD⟩)
              | (go_at_call 14; refine (HTK _ _ hRD).mono ?_; rintro oo wk hP; obtain ⟨ka, kc, la, lc, hoo, _, _, _, _, hTk⟩ := hP; replace hoo : oo = .returned (.agg #[.int .i64 0, .int .i64 0, .int .i64 0, .int .i64 0, .int .i64 0, .int .i64 0, .int .i64 0, .bool false, .slice ka 0 kc, .int .i64 0, .string ⟨#[]⟩, .bool false, .slice la 0 lc]) := hoo; subst hoo; clear HTK))
            have hbk : Below wx.heap.size wx wk := bl_gr hbr hTk.grown (Nat.le_refl _)
            have hbwk := hbx0.trans (hbk.mono hbx0.size)
            have hbv := bl_al (Below.refl wk.heap.size wk) (.cells #[.int .i64 0, .int .i64 0, .int .i64 0, .int .i64 0, .int .i64 0, .int .i64 0, .int .i64 0, .bool false, .slice ka 0 kc, .int .i64 0, .string ⟨#[]⟩, .bool false, .slice la 0 lc] 25)
            have hXv := Blk.new wk #[.int .i64 0, .int .i64 0, .int .i64 0, .int .i64 0, .int .i64 0, .int .i64 0, .int .i64 0, .bool false, .slice ka 0 kc, .int .i64 0, .string ⟨#[]⟩, .bool false, .slice la 0 lc] 25
            generalize wk.alloc (.cells #[.int .i64 0, .int .i64 0, .int .i64 0, .int .i64 0, .int .i64 0, .int .i64 0, .int .i64 0, .bool false, .slice ka 0 kc, .int .i64 0, .string ⟨#[]⟩, .bool false, .slice la 0 lc] 25) = wv at *
            have hbwv := hbwk.trans (hbv.mono hbwk.size)
            have e0 := hXv.cell 0
            have e3 := hXv.cell 3
            have e8 := hXv.cell 8
            go_wp2_with (go_at_call 15; refine (err_any _ _ _ (hTk.rd.below hbv)).mono ?_; rintro oo wx0 ⟨rfl, hwx0⟩; replace hwx0 := hwx0.symm; subst hwx0)
            go_ret
            exact ⟨rfl, hbwv⟩
end
end Go.Proofs.YtnhlejdilldfaaaGreat
