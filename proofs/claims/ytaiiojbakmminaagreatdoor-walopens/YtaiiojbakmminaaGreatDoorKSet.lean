/- What settle of a disk does: all files are sure, those that are gone go. What settle and Sync of a disk do. -/
import Derived.Test.YtaiiojbakmminaaGreatDoorKMov
namespace Go.Proofs.YtaiiojbakmminaaGreatDoor
open Go Go.RowKit
set_option maxRecDepth 100000 in
theorem settle1_any (f : F) (w : World) : Calls Tryz.prog 88 #[.agg (fC f)] w fun e w' => e = .returned (.bool (gone f)) ∧ Below w.heap.size w w' := by
  have HG := fun w' => gone_any f w'
  go_enter Tryz.func88, Tryz.ntmps88
  go_wp2_with (first
    | (go_at_call 89; refine (HG _).mono ?_; rintro e w2 ⟨rfl, hw2⟩)
    | (with_reducible refine at_list ?_; first
      | (refine wpList_boxRow (op := ⟨some 1, _, _, _, _, _⟩) rfl _ _ rfl _ rfl ?_; intro w1 hw1 hs1 h1; clear hs1)
      | (refine wpList_loadRow (op := ⟨some 3, _, _, _, _, _⟩) rfl _ _ rfl w.heap.size rfl _ _ h1 _ Tryz.underlying93 rfl (iFile _) ?_)))
  go_ret
  exact ⟨rfl, hw1.trans (hw2.mono hw1.size)⟩
/-- The number of the first that is gone. -/
def idxG (l : List F) : Int := if l.findIdx gone < l.length then ((l.findIdx gone : Nat) : Int) else -1
theorem findIdx_at {l : List F} {i : Nat} {f : F} (hi : i ≤ l.findIdx gone) (hf : l[i]? = some f) : (gone f = true → l.findIdx gone = i) ∧ (gone f = false → i + 1 ≤ l.findIdx gone) := by
  obtain ⟨hil, rfl⟩ := List.getElem?_eq_some_iff.1 hf
  constructor
  · intro hg
    rcases Nat.lt_or_ge i (l.findIdx gone) with h | h
    · have := List.not_of_lt_findIdx h
      rw [hg] at this
      cases this
    · omega
  · intro hg
    rcases Nat.lt_or_ge i (l.findIdx gone) with h | h
    · exact h
    · have e : l.findIdx gone = i := Nat.le_antisymm h hi
      have := List.findIdx_getElem (xs := l) (p := gone) (w := by omega)
      simp only [e] at this
      rw [this] at hg
      cases hg
set_option maxRecDepth 100000 in
set_option maxHeartbeats 1000000 in
theorem index_any (l : List F) (a : Option Addr) (cap : Nat) (w : World) (hL : FL w (.slice a l.length cap) l) (hl : l.length ≤ 1000000) :
    Calls Tryz.prog 107 #[.slice a l.length cap, .func (.func 88) #[] #[]] w fun e w' => e = .returned (.int .i64 (idxG l)) ∧ Below w.heap.size w w' := by
  obtain ⟨N, hN⟩ : ∃ N, Hid (N = idxG l) := ⟨_, rfl⟩
  rw [← hN.out]
  go_enter Tryz.func107, Tryz.ntmps107
  go_wp2_with fail
  go_loopw [5, 8] (fun _ v8 wl => ∃ i : Nat, i ≤ l.length ∧ Hid (i ≤ l.findIdx gone) ∧ v8 = .int .i64 i ∧ Below w.heap.size w wl) (fun _ v8 _ => l.length - (intOf v8).toNat)
  case atStart => exact ⟨0, by omega, Nat.zero_le _, rfl, Below.refl _ _⟩
  case round =>
    obtain ⟨i, hil, hI, rfl, hB⟩ := hrel
    by_cases hlt : i < l.length
    · have hz2 : (i : Int) < (l.length : Int) := by omega
      obtain ⟨f, hf⟩ : ∃ f, l[i]? = some f := ⟨_, List.getElem?_eq_getElem hlt⟩
      obtain ⟨g, rfl, hS, hg⟩ := hL.at i f hf
      have hg2 := rangeAt_below hg hB hS.lt
      obtain ⟨k1, k2⟩ := findIdx_at hI.out hf
      have HG := fun w' => settle1_any f w'
      cases hq : gone f
      · have hI2 : Hid (i + 1 ≤ l.findIdx gone) := k2 hq
        rw [hq] at HG
        clear k1 k2 hf hg hq hI
        go_wp2_with (first
          | (go_at_call 88; refine (HG _).mono ?_; rintro e w2 ⟨rfl, hw2⟩)
          | (with_reducible refine at_list ?_; first
            | (refine wpList_loadAt (op := ⟨some 15, _, _, _, _, _⟩) rfl _ _ rfl g (i * 6) rfl (fC f) hg2 _ Tryz.underlying93 rfl (iFile f) ?_)))
        go_roundw
        case rel => exact ⟨i + 1, by omega, hI2, by go_num, hB.trans (hw2.mono hB.size)⟩
        case measure => simp [intOf]; omega
      · have hNi : Hid (N = (i : Int)) := by
          show _ = _
          rw [hN.out, idxG, k1 hq, if_pos hlt]
        rw [hq] at HG
        clear k1 k2 hf hg hq hI
        go_wp2_with (first
          | (go_at_call 88; refine (HG _).mono ?_; rintro e w2 ⟨rfl, hw2⟩)
          | (with_reducible refine at_list ?_; first
            | (refine wpList_loadAt (op := ⟨some 15, _, _, _, _, _⟩) rfl _ _ rfl g (i * 6) rfl (fC f) hg2 _ Tryz.underlying93 rfl (iFile f) ?_)))
        go_ret
        exact ⟨by rw [hNi.out]; rfl, hB.trans (hw2.mono hB.size)⟩
    · have hz2 : ¬ (i : Int) < (l.length : Int) := by omega
      have hNi : Hid (N = -1) := by
        show _ = _
        rw [hN.out, idxG, if_neg (by have := hI.out; omega)]
      clear hI
      go_wp2_with fail
      go_ret
      exact ⟨by rw [hNi.out]; rfl, hB⟩
theorem grow_past {a b c : World} {row : Option Nat} {k : Nat} (h : a.grownBy b row) (hg : b.grownBy c (some k)) (hk : a.heap.size ≤ k) : a.grownBy c row :=
  ⟨hg.os.trans h.os, hg.tape.trans h.tape, hg.output.trans h.output, Nat.le_trans h.size hg.size, fun i hi hr => (hg.block i (Nat.lt_of_lt_of_le hi h.size) (fun e => by have := Option.some.inj e; omega)).trans (h.block i hi hr)⟩
/-- Those that are not gone. -/
def liveL (l : List F) : List F := l.filter fun f => !gone f
/-- How far DeleteFunc has come: i are kept of the first j. -/
structure Kept (l cur : List F) (i j : Nat) : Prop where
  len : cur.length = l.length
  lt : i < j
  jl : j ≤ l.length
  kept : cur.take i = liveL (l.take j)
  rest : cur.drop j = l.drop j
theorem Kept.get {l cur : List F} {i j : Nat} (h : Kept l cur i j) : cur[j]? = l[j]? := by
  have := congrArg (·[0]?) h.rest
  simpa [List.getElem?_drop] using this
theorem live_take (l : List F) (j : Nat) (f : F) (hf : l[j]? = some f) : liveL (l.take (j + 1)) = liveL (l.take j) ++ (if gone f = true then [] else [f]) := by
  obtain ⟨hi, rfl⟩ := List.getElem?_eq_some_iff.1 hf
  unfold liveL
  rw [List.take_succ_eq_append_getElem hi, List.filter_append]
  congr 1
  cases hq : gone l[j] <;> simp [hq]
theorem Kept.skip {l cur : List F} {i j : Nat} {f : F} (h : Kept l cur i j) (hf : l[j]? = some f) (hg : gone f = true) : Kept l cur i (j + 1) := by
  have hj := (List.getElem?_eq_some_iff.1 hf).1
  refine ⟨h.len, by have := h.lt; omega, hj, ?_, ?_⟩
  · rw [h.kept, live_take l j f hf, if_pos hg, List.append_nil]
  · have := congrArg (List.drop 1) h.rest
    simpa [List.drop_drop] using this
theorem Kept.keep {l cur : List F} {i j : Nat} {f : F} (h : Kept l cur i j) (hf : l[j]? = some f) (hg : gone f = false) : Kept l (cur.set i f) (i + 1) (j + 1) := by
  have hj := (List.getElem?_eq_some_iff.1 hf).1
  have hlt := h.lt
  have hlen := h.len
  refine ⟨by simp [hlen], by omega, hj, ?_, ?_⟩
  · rw [live_take l j f hf, if_neg (by simp [hg]), ← h.kept, List.take_succ_eq_append_getElem (by simp; omega), List.take_set_of_le (Nat.le_refl _), List.getElem_set_self]
  · rw [List.drop_set_of_lt (by omega)]
    have := congrArg (List.drop 1) h.rest
    simpa [List.drop_drop] using this
theorem Kept.start {l : List F} (h : l.findIdx gone < l.length) : Kept l l (l.findIdx gone) (l.findIdx gone + 1) := by
  have hf : l[l.findIdx gone]? = some (l[l.findIdx gone]) := List.getElem?_eq_getElem h
  refine ⟨rfl, by omega, h, ?_, rfl⟩
  rw [live_take l _ _ hf, if_pos (List.findIdx_getElem (w := h)), List.append_nil]
  symm
  unfold liveL
  rw [List.filter_eq_self]
  intro x hx
  obtain ⟨j, hj⟩ := List.mem_iff_getElem?.1 hx
  rw [List.getElem?_take] at hj
  split at hj
  · rename_i hjl
    obtain ⟨hjl2, rfl⟩ := List.getElem?_eq_some_iff.1 hj
    have := List.not_of_lt_findIdx hjl
    simpa using this
  · cases hj
set_option maxRecDepth 100000 in
set_option maxHeartbeats 2000000 in
theorem delf_any (l : List F) (a : Option Addr) (cap : Nat) (w : World) (hL : FL w (.slice a l.length cap) l) (hl : l.length ≤ 1000000) :
    Calls Tryz.prog 87 #[.slice a l.length cap, .func (.func 88) #[] #[]] w (SlP w (slBlk (.slice a l.length cap)) (liveL l)) := by
  have HI := index_any l a cap w hL hl
  unfold idxG at HI
  by_cases hx : l.findIdx gone < l.length
  · rw [if_pos hx] at HI
    obtain ⟨f0, hf0⟩ : ∃ f, l[l.findIdx gone]? = some f := ⟨_, List.getElem?_eq_getElem hx⟩
    obtain ⟨g, rfl, hS, _⟩ := hL.at _ f0 hf0
    have hK0 : Hid (Kept l l (l.findIdx gone) (l.findIdx gone + 1)) := Kept.start hx
    have hP : Hid (∀ (w1 : World) (cur : List F) (i : Nat), w.grownBy w1 (some g) → cur.length = l.length → i ≤ l.length → cur.take i = liveL l → GS w1 93 6 g cap ((cur.take i).map fL) → SlP w (some g) (liveL l) (.returned (.slice (some ⟨g, 0, none⟩) i cap)) w1) := fun w1 cur i h1 h2 h3 h4 h5 => ⟨_, rfl, h1, by
      rw [h4] at h5
      refine ⟨fL_all _, .inr ⟨g, cap, Nat.zero_le _, ?_, h5⟩⟩
      rw [List.length_map, ← h4, List.length_take, h2, Nat.min_eq_left h3], fun r e => .inl e⟩
    have hcap : l.length ≤ cap := by simpa using hS.out.choose_spec.2.1
    show Calls _ _ _ _ (SlP w (some g) (liveL l))
    generalize SlP w (some g) (liveL l) = R at *
    clear hf0 hL
    generalize l.findIdx gone = k0 at *
    have hk1 : ¬ (k0 : Int) = -1 := by omega
    have hk2 : ((k0 : Int) == -1) = false := beq_eq_false_iff_ne.2 hk1
    go_enter Tryz.func87, Tryz.ntmps87
    go_wp2_with (go_at_call 107; refine HI.mono ?_; rintro e w1 ⟨rfl, hw1⟩)
    go_loopw [5, 6, 7] (fun v5 v6 _ wl => ∃ (i j : Nat) (cur : List F), v5 = .int .i64 i ∧ v6 = .int .i64 j ∧ Hid (Kept l cur i j) ∧ w.grownBy wl (some g) ∧ GS wl 93 6 g cap (cur.map fL)) (fun _ v6 _ _ => l.length - (intOf v6).toNat)
    case atStart => exact ⟨k0, k0 + 1, l, rfl, by go_num, hK0, grown_of_below hw1, hS.grown (row := none) (grown_of_below hw1) (fun e => nomatch e)⟩
    case round =>
      obtain ⟨i, j, cur, rfl, rfl, hI, hG, hS2⟩ := hrel
      have hij := hI.out.lt
      have hjl := hI.out.jl
      have hgl := hS2.lt
      by_cases hlt : j < l.length
      · have hz2 : (j : Int) < (l.length : Int) := by omega
        have hzi : (i : Int) < (l.length : Int) := by omega
        obtain ⟨f, hf⟩ : ∃ f, l[j]? = some f := ⟨_, List.getElem?_eq_getElem hlt⟩
        have hfc : cur[j]? = some f := by rw [hI.out.get]; exact hf
        obtain ⟨fo, hfo⟩ : ∃ fo, cur[i]? = some fo := ⟨_, List.getElem?_eq_getElem (by have := hI.out.len; omega)⟩
        have hg2 := hS2.range (fL_all cur) j _ (get_fL hfc)
        have HG := fun w' => settle1_any f w'
        cases hq : gone f
        · have hI2 : Hid _ := hI.out.keep hf hq
          rw [hq] at HG
          clear hf hfc hq hI
          go_wp2_with (first
            | (go_at_call 88; refine (HG _).mono ?_; rintro e w4 ⟨rfl, hw4⟩; replace h7b := h7b.belowSize hw4; have hS4 := hS3.grown (row := none) (grown_of_below hw4) (fun e => nomatch e); have hG4 := grown_trans hG3 (grown_of_below hw4))
            | (with_reducible refine at_list ?_; first
              | (refine wpList_loadAt (op := ⟨some 25, _, _, _, _, _⟩) rfl _ _ rfl g (j * 6) rfl (fC f) hg2 _ Tryz.underlying93 rfl (iFile f) ?_)
              | (refine wpList_allocRow (op := ⟨some 7, _, _, _, _, _⟩) rfl _ rfl _ zFile.1 ?_; intro w2 hw2 hs2 h7; clear hs2; have hS2b := hS2.grown (row := none) (grown_of_below hw2) (fun e => nomatch e); have hG2 := grown_trans hG (grown_of_below hw2))
              | (refine wpList_storeRow (op := ⟨none, .store 93 (.tmp 7) (.tmp 25), _, _, _, _⟩) rfl _ _ _ rfl wr.heap.size (fC f) rfl rfl _ _ h7 rfl (iFile _) (fC_one _) ?_; intro w3 hg3 hs3 h7b; clear hs3; have hS3 := hS2b.grown hg3 (by simp; omega); have hG3 := grow_past hG2 hg3 hG.size)
              | (refine wpList_loadRow (op := ⟨some 27, _, _, _, _, _⟩) rfl _ _ rfl wr.heap.size rfl _ _ h7b _ Tryz.underlying93 rfl (iFile _) ?_)
              | (refine wpList_loadRow (op := ⟨some 32, _, _, _, _, _⟩) rfl _ _ rfl wr.heap.size rfl _ _ h7b _ Tryz.underlying93 rfl (iFile _) ?_)
              | (refine wpList_stFile (op := ⟨none, .store 93 (.tmp 33) (.tmp 32), _, _, _, _⟩) rfl _ _ rfl g cap i cur fo f hfo rfl rfl hS4 ?_; intro w5 hg5 hS5)))
          go_roundw
          case rel => exact ⟨i + 1, j + 1, cur.set i f, by go_num, by go_num, hI2, grown_trans hG4 hg5, hS5⟩
          case measure => simp [intOf]; omega
        · have hI2 : Hid _ := hI.out.skip hf hq
          rw [hq] at HG
          clear hf hfc hq hI
          go_wp2_with (first
            | (go_at_call 88; refine (HG _).mono ?_; rintro e w4 ⟨rfl, hw4⟩; replace h7b := h7b.belowSize hw4; have hS4 := hS3.grown (row := none) (grown_of_below hw4) (fun e => nomatch e); have hG4 := grown_trans hG3 (grown_of_below hw4))
            | (with_reducible refine at_list ?_; first
              | (refine wpList_loadAt (op := ⟨some 25, _, _, _, _, _⟩) rfl _ _ rfl g (j * 6) rfl (fC f) hg2 _ Tryz.underlying93 rfl (iFile f) ?_)
              | (refine wpList_allocRow (op := ⟨some 7, _, _, _, _, _⟩) rfl _ rfl _ zFile.1 ?_; intro w2 hw2 hs2 h7; clear hs2; have hS2b := hS2.grown (row := none) (grown_of_below hw2) (fun e => nomatch e); have hG2 := grown_trans hG (grown_of_below hw2))
              | (refine wpList_storeRow (op := ⟨none, .store 93 (.tmp 7) (.tmp 25), _, _, _, _⟩) rfl _ _ _ rfl wr.heap.size (fC f) rfl rfl _ _ h7 rfl (iFile _) (fC_one _) ?_; intro w3 hg3 hs3 h7b; clear hs3; have hS3 := hS2b.grown hg3 (by simp; omega); have hG3 := grow_past hG2 hg3 hG.size)
              | (refine wpList_loadRow (op := ⟨some 27, _, _, _, _, _⟩) rfl _ _ rfl wr.heap.size rfl _ _ h7b _ Tryz.underlying93 rfl (iFile _) ?_)))
          go_roundw
          case rel => exact ⟨i, j + 1, cur, rfl, by go_num, hI2, hG4, hS4⟩
          case measure => simp [intOf]; omega
      · have hz2 : ¬ (j : Int) < (l.length : Int) := by omega
        obtain rfl : j = l.length := by omega
        have hkl := hI.out.kept
        rw [List.take_of_length_le (Nat.le_refl _)] at hkl
        have hlen := hI.out.len
        have hzi : (i : Int) ≤ (l.length : Int) := by omega
        have hyi : (i : Int) ≤ (cap : Int) := by omega
        have hzn : ¬ cap = i := by omega
        have HR : Hid (∀ w1, w.grownBy w1 (some g) → GS w1 93 6 g cap ((cur.take i).map fL) → R (.returned (.slice (some ⟨g, 0, none⟩) i cap)) w1) := fun w1 h1 h2 => hP.out w1 cur i h1 hlen (by omega) hkl h2
        have hlen2 : i + (l.length - i) ≤ cur.length := by omega
        clear hI hkl hlen
        go_wp2_with (with_reducible refine at_list ?_; refine wpList_clr (op := ⟨none, _, _, _, _, _⟩) rfl (.tmp 38) rfl g cap i (l.length - i) (cap - i) cur ⟨g, i * 6, none⟩ rfl (fun _ => rfl) hS2 hlen2 ?_; intro w2 v2 hg2 hS3)
        all_goals exact HR.out _ (grown_trans hG hg2) hS3
  · rw [if_neg hx] at HI
    have hall : liveL l = l := by
      unfold liveL
      rw [List.filter_eq_self]
      intro x hxm
      have : l.findIdx gone = l.length := Nat.le_antisymm (List.findIdx_le_length) (by omega)
      have := List.findIdx_eq_length.1 this x hxm
      simpa using this
    rw [hall]
    have hP : Hid (∀ w1, Below w.heap.size w w1 → SlP w (slBlk (.slice a l.length cap)) l (.returned (.slice a l.length cap)) w1) := fun w1 h1 => ⟨_, rfl, grown_of_below h1, hL.below h1, fun r e => .inl e⟩
    clear hx hall hL
    generalize SlP w (slBlk (.slice a l.length cap)) l = R at *
    go_enter Tryz.func87, Tryz.ntmps87
    go_wp2_with (go_at_call 107; refine HI.mono ?_; rintro e w1 ⟨rfl, hw1⟩)
    all_goals exact hP.out _ hw1
end Go.Proofs.YtaiiojbakmminaaGreatDoor
namespace Go.Proofs.YtaiiojbakmminaaGreatDoor
open Go Go.RowKit
theorem Blk.isR {w : World} {b : Nat} {f : F} {t : TypeId} (h : Blk w b (fC f) t) : w.rangeAt b 1 (cC f.is).toList := fL_is (o := 0) h.rangeAll
theorem Blk.sureR {w : World} {b : Nat} {f : F} {t : TypeId} (h : Blk w b (fC f) t) : w.rangeAt b 3 (cC f.sure).toList := fL_sure (o := 0) h.rangeAll
theorem run_built4 {P : Program} {op : Oper} {a : Act} {w : World} (t : TypeId) (k1 k2 k3 k4 : Nat) (x1 x2 x3 x4 : Operand) (ho : op.op = .build t #[(k1, x1), (k2, x2), (k3, x3), (k4, x4)]) (v1 v2 v3 v4 : Value) (h1 : a.eval x1 = v1) (h2 : a.eval x2 = v2) (h3 : a.eval x3 = v3) (h4 : a.eval x4 = v4) (c : Array Value) (h : P.built t [(k1, v1), (k2, v2), (k3, v3), (k4, v4)] = some c) :
    (execOp a.eval op).run P w = .ok (.value (.agg c)) w := by
  subst h1 h2 h3 h4
  have e : (#[(k1, x1), (k2, x2), (k3, x3), (k4, x4)] : Array (Nat × Operand)).map (fun (i, x) => (i, a.eval x)) = #[(k1, a.eval x1), (k2, a.eval x2), (k3, a.eval x3), (k4, a.eval x4)] := by simp
  unfold execOp
  simp only [ho, Sem.run_bind, e, run_build w t _ c h, Result.andThen_ok]
  rfl
/-- A file that is sure to be as it is. -/
def stl (f : F) : F := ⟨f.name, f.is, f.is, 0⟩
theorem builtS (f : F) : Tryz.prog.built 93 [(0, .string ⟨f.name.toArray⟩), (1, .agg (cC f.is)), (2, .agg (cC f.is)), (3, .int .i64 0)] = some (fC (stl f)) := by kernel_rfl
def settleL (l : List F) : List F := liveL (l.map stl)
theorem stl_step {l : List F} {i : Nat} {f : F} (h : l[i]? = some f) : ((l.take i).map stl ++ l.drop i)[i]? = some f ∧ ((l.take i).map stl ++ l.drop i).set i (stl f) = (l.take (i + 1)).map stl ++ l.drop (i + 1) := by
  obtain ⟨hi, rfl⟩ := List.getElem?_eq_some_iff.1 h
  have hlen : ((l.take i).map stl).length = i := by simp; omega
  have hd : l.drop i = l[i] :: l.drop (i + 1) := (List.getElem_cons_drop (h := hi)).symm
  constructor
  · rw [List.getElem?_append_right (by omega), hlen, Nat.sub_self, List.getElem?_drop]
    simp
  · rw [List.set_append_right _ _ (by omega), hlen, Nat.sub_self, hd, List.set_cons_zero, List.take_succ_eq_append_getElem hi, List.map_append]
    simp
set_option maxRecDepth 100000 in
set_option maxHeartbeats 4000000 in
theorem settle_any (p : Nat) (b : Option Nat) (m : DM) (w : World) (hK : DK w p b m) (hl : m.l.length ≤ 1000000) :
    Calls Tryz.prog 62 #[.pointer (some ⟨p, 0, none⟩)] w (LayP w p b m (settleL m.l)) := by
  obtain ⟨sl, hD, hF, hb⟩ := hK.out
  obtain ⟨a, cap, rfl, hcap⟩ := hF.sl
  subst hb
  have hHP : Hid (∀ (w1 w2 : World) (sl2 : Value), Chg w w1 p (slBlk (.slice a m.l.length cap)) (slBlk (.slice a m.l.length cap)) → SlP w1 (slBlk (.slice a m.l.length cap)) (settleL m.l) (.returned sl2) w2 → ∀ w3, w2.grownBy w3 (some p) → Blk w2 p (dC (.slice a m.l.length cap) m) 61 → Blk w3 p ((dC (.slice a m.l.length cap) m).setIfInBounds 0 sl2) 61 → LayP w p (slBlk (.slice a m.l.length cap)) m (settleL m.l) (.returned (.tuple #[])) w3) := fun w1 w2 sl2 h1 h2 w3 h3 h4 h5 => by
    obtain ⟨sl', e, hg, hF2, hn⟩ := h2
    obtain rfl := Ending.returned.inj e
    refine ⟨rfl, slBlk sl2, (h1.trans (Chg.row hg hn)).trans (Chg.own h3), ⟨sl2, ?_, hF2.grown h3 (hF2.ne h4 (by decide)), rfl⟩⟩
    rw [dC_s0 _ _ _ (settleL m.l)] at h5
    exact h5
  have HD : ∀ w1, FL w1 (.slice a m.l.length cap) (m.l.map stl) → Calls Tryz.prog 87 #[.slice a m.l.length cap, .func (.func 88) #[] #[]] w1 (SlP w1 (slBlk (.slice a m.l.length cap)) (settleL m.l)) := fun w1 h1 => by
    have := delf_any (m.l.map stl) a cap w1 (by rw [List.length_map]; exact h1) (by rw [List.length_map]; exact hl)
    rw [List.length_map] at this
    exact this
  generalize LayP w p (slBlk (.slice a m.l.length cap)) m (settleL m.l) = R at *
  have hpb := hF.ne hD (by decide)
  go_enter Tryz.func62, Tryz.ntmps62
  go_wp2_with (with_reducible refine at_list ?_; refine wpList_loadCell (op := ⟨some 7, _, _, _, _, _⟩) rfl _ _ rfl p 0 rfl _ _ hD _ Tryz.underlying59 rfl _ (dC_g0 _ _) ?_)
  go_loopw [2, 3, 9] (fun _ _ v9 wl => ∃ i : Nat, i ≤ m.l.length ∧ v9 = .int .i64 i ∧ FL wl (.slice a m.l.length cap) ((m.l.take i).map stl ++ m.l.drop i) ∧ Blk wl p (dC (.slice a m.l.length cap) m) 61 ∧ Chg w wl p (slBlk (.slice a m.l.length cap)) (slBlk (.slice a m.l.length cap))) (fun _ _ v9 _ => m.l.length - (intOf v9).toNat)
  case atStart => exact ⟨0, by omega, rfl, by simpa using hF, hD, Chg.refl _ _ _⟩
  case round =>
    obtain ⟨i, hil, rfl, hF2, hD2, hC2⟩ := hrel
    by_cases hlt : i < m.l.length
    · have hz2 : (i : Int) < (m.l.length : Int) := by omega
      obtain ⟨f, hf⟩ : ∃ f, m.l[i]? = some f := ⟨_, List.getElem?_eq_getElem hlt⟩
      obtain ⟨hfc, hst⟩ := stl_step hf
      obtain ⟨g, rfl, hS, hg⟩ := hF2.at i f hfc
      have hlen : Hid (((m.l.take (i + 1)).map stl ++ m.l.drop (i + 1)).length = m.l.length) := by
        show _ = _
        simp
        omega
      have HE : Hid _ := hst
      have hpg : p ≠ g := fun e => hpb g rfl (by rw [e])
      have hgw := hS.lt
      have hpw := hD2.lt
      clear hf hst hF hD hF2 HD hHP
      generalize (m.l.take i).map stl ++ m.l.drop i = cur at *
      go_wp2_with (with_reducible refine at_list ?_; first
        | (refine wpList_loadAt (op := ⟨some 13, _, _, _, _, _⟩) rfl _ _ rfl g (i * 6) rfl (fC f) hg _ Tryz.underlying93 rfl (iFile f) ?_)
        | (refine wpList_allocRow (op := ⟨some 3, _, _, _, _, _⟩) rfl _ rfl _ zFile.1 ?_; intro w2 hw2 hs2 h3; clear hs2; have hS2 := hS.grown (row := none) (grown_of_below hw2) (fun e => nomatch e); have hD2b := hD2.belowSize hw2)
        | (refine wpList_storeRow (op := ⟨none, .store 93 (.tmp 3) (.tmp 13), _, _, _, _⟩) rfl _ _ _ rfl wr.heap.size (fC f) rfl rfl _ _ h3 rfl (iFile _) (fC_one _) ?_; intro w3 hg3 hs3 h3b; clear hs3; have hS3 := hS2.grown hg3 (by simp; omega); have hD3 := hD2b.grown hg3 (by simp; omega)))
      have hfg : wr.heap.size ≠ g := by omega
      have hB3 : Below wr.heap.size wr w3 := hw2.trans (below_of_grown hg3 (Nat.le_refl _) hw2.size)
      clear hg h3 hg3 hD2b hS2 hw2
      have hH0 : Blk w3.drew p (dC (.slice (some ⟨g, 0, none⟩) m.l.length cap) m) 61 ∧ Blk w3.drew wr.heap.size (fC f) 93 := ⟨hD3.drew, h3b.drew⟩
      have hS9 : GS w3.drew 93 6 g cap (cur.map fL) := hS3.grown (row := none) (grown_of_below ((Below.refl w3.heap.size w3).drew)) (fun e => nomatch e)
      refine wp_region_held_drew (S := fun w' : World => Blk w' p (dC (.slice (some ⟨g, 0, none⟩) m.l.length cap) m) 61 ∧ Blk w' wr.heap.size (fC f) 93) (by kernel_rfl) hH0 (fun hH => ?_)
      try go_frame
      refine wpAnyH_take (i := 0) (oi := ⟨some 14, _, _, _, _, _⟩) (v := .pointer (some ⟨p, 0, none⟩)) rfl (by kernel_rfl) (by kernel_rfl) (by kernel_rfl) (fun _ _ _ h => h) (Or.inl ⟨by rfl, fun w hSw => by go_simp⟩) hH ?_
      try simp only [Act.put, List.setIfInBounds_toArray, List.set_cons_zero, List.set_cons_succ]
      refine wpAnyH_take (i := 1) (oi := ⟨some 15, _, _, _, _, _⟩) (v := .pointer (some ⟨p, 0, none⟩)) rfl (by kernel_rfl) (by kernel_rfl) (by kernel_rfl) (fun _ _ _ h => h) (Or.inl ⟨by rfl, fun w hSw => by go_simp⟩) hH ?_
      try simp only [Act.put, List.setIfInBounds_toArray, List.set_cons_zero, List.set_cons_succ]
      refine wpAnyH_take (i := 2) (oi := ⟨some 16, _, _, _, _, _⟩) (v := .pointer (some ⟨p, 0, none⟩)) rfl (by kernel_rfl) (by kernel_rfl) (by kernel_rfl) (fun _ _ _ h => h) (Or.inl ⟨by rfl, fun w hSw => by go_simp⟩) hH ?_
      try simp only [Act.put, List.setIfInBounds_toArray, List.set_cons_zero, List.set_cons_succ]
      refine wpAnyH_take (i := 3) (oi := ⟨some 17, _, _, _, _, _⟩) (v := .slice (some ⟨g, 0, none⟩) m.l.length cap) rfl (by kernel_rfl) (by kernel_rfl) (by kernel_rfl) (fun _ _ _ h => h) (Or.inl ⟨by rfl, fun w hSw => run_loadCellB _ _ rfl _ 0 rfl _ _ hSw.1 _ Tryz.underlying59 rfl _ (dC_g0 _ _)⟩) hH ?_
      try simp only [Act.put, List.setIfInBounds_toArray, List.set_cons_zero, List.set_cons_succ]
      refine wpAnyH_take (i := 4) (oi := ⟨some 18, _, _, _, _, _⟩) (v := .int .i64 (i : Nat)) rfl (by kernel_rfl) (by kernel_rfl) (by kernel_rfl) (fun _ _ _ h => h) (Or.inl ⟨by rfl, fun w hSw => by go_simp⟩) hH ?_
      try simp only [Act.put, List.setIfInBounds_toArray, List.set_cons_zero, List.set_cons_succ]
      refine wpAnyH_take (i := 5) (oi := ⟨some 19, _, _, _, _, _⟩) (v := .pointer (some ⟨wr.heap.size, 0, none⟩)) rfl (by kernel_rfl) (by kernel_rfl) (by kernel_rfl) (fun _ _ _ h => h) (Or.inl ⟨by rfl, fun w hSw => by go_simp⟩) hH ?_
      try simp only [Act.put, List.setIfInBounds_toArray, List.set_cons_zero, List.set_cons_succ]
      refine wpAnyH_take (i := 6) (oi := ⟨some 20, _, _, _, _, _⟩) (v := .string ⟨f.name.toArray⟩) rfl (by kernel_rfl) (by kernel_rfl) (by kernel_rfl) (fun _ _ _ h => h) (Or.inl ⟨by rfl, fun w hSw => run_loadCellB _ _ rfl _ 0 rfl _ _ hSw.2 _ Tryz.underlying9 rfl _ (fC_g0 _)⟩) hH ?_
      try simp only [Act.put, List.setIfInBounds_toArray, List.set_cons_zero, List.set_cons_succ]
      refine wpAnyH_take (i := 7) (oi := ⟨some 21, _, _, _, _, _⟩) (v := .pointer (some ⟨wr.heap.size, 1, none⟩)) rfl (by kernel_rfl) (by kernel_rfl) (by kernel_rfl) (fun _ _ _ h => h) (Or.inl ⟨by rfl, fun w hSw => by go_simp⟩) hH ?_
      try simp only [Act.put, List.setIfInBounds_toArray, List.set_cons_zero, List.set_cons_succ]
      refine wpAnyH_take (i := 8) (oi := ⟨some 22, _, _, _, _, _⟩) (v := .agg (cC f.is)) rfl (by kernel_rfl) (by kernel_rfl) (by kernel_rfl) (fun _ _ _ h => h) (Or.inl ⟨by rfl, fun w hSw => run_loadMid _ _ rfl _ 1 rfl _ (Blk.isR hSw.2) _ Tryz.underlying91 rfl (iCon _)⟩) hH ?_
      try simp only [Act.put, List.setIfInBounds_toArray, List.set_cons_zero, List.set_cons_succ]
      refine wpAnyH_take (i := 9) (oi := ⟨some 23, _, _, _, _, _⟩) (v := .pointer (some ⟨wr.heap.size, 1, none⟩)) rfl (by kernel_rfl) (by kernel_rfl) (by kernel_rfl) (fun _ _ _ h => h) (Or.inl ⟨by rfl, fun w hSw => by go_simp⟩) hH ?_
      try simp only [Act.put, List.setIfInBounds_toArray, List.set_cons_zero, List.set_cons_succ]
      refine wpAnyH_take (i := 10) (oi := ⟨some 24, _, _, _, _, _⟩) (v := .agg (cC f.is)) rfl (by kernel_rfl) (by kernel_rfl) (by kernel_rfl) (fun _ _ _ h => h) (Or.inl ⟨by rfl, fun w hSw => run_loadMid _ _ rfl _ 1 rfl _ (Blk.isR hSw.2) _ Tryz.underlying91 rfl (iCon _)⟩) hH ?_
      try simp only [Act.put, List.setIfInBounds_toArray, List.set_cons_zero, List.set_cons_succ]
      refine wpAnyH_take (i := 11) (oi := ⟨some 25, _, _, _, _, _⟩) (v := .agg (fC (stl f))) rfl (by kernel_rfl) (by kernel_rfl) (by kernel_rfl) (fun _ _ _ h => h) (Or.inl ⟨by rfl, fun w hSw => run_built4 _ _ _ _ _ _ _ _ _ rfl _ _ _ _ rfl rfl rfl rfl _ (builtS f)⟩) hH ?_
      try simp only [Act.put, List.setIfInBounds_toArray, List.set_cons_zero, List.set_cons_succ]
      refine wpAnyH_take (i := 12) (oi := ⟨some 26, _, _, _, _, _⟩) (v := .pointer (some ⟨g, i * 6, none⟩)) rfl (by kernel_rfl) (by kernel_rfl) (by kernel_rfl) (fun _ _ _ h => h) (Or.inl ⟨by rfl, fun w hSw => by go_simp⟩) hH ?_
      try simp only [Act.put, List.setIfInBounds_toArray, List.set_cons_zero, List.set_cons_succ]
      refine wpAnyH_solo (i := 13) (o := ⟨none, _, _, _, _, _⟩) rfl (by kernel_rfl) (fun K hK => ?_)
      refine wpList_stFile rfl _ _ rfl g cap i cur f (stl f) hfc rfl rfl hS9 ?_
      intro w8 hg8 hS8
      have hH8 : Blk w8 p (dC (.slice (some ⟨g, 0, none⟩) m.l.length cap) m) 61 ∧ Blk w8 wr.heap.size (fC f) 93 := ⟨hH.1.grown hg8 (fun e => hpg (Option.some.inj e)), hH.2.grown hg8 (fun e => hfg (Option.some.inj e))⟩
      refine hK _ _ hH8 ?_
      clear hK K
      try simp only [Act.put]
      refine wpAnyH_done (by kernel_rfl) ?_ _
      go_simp
      go_wp2_with fail
      go_roundw
      case rel =>
        have hF8 : FL w8 (.slice (some ⟨g, 0, none⟩) m.l.length cap) (cur.set i (stl f)) := ⟨fL_all _, .inr ⟨g, cap, Nat.zero_le _, by rw [List.length_map, HE.out, hlen.out], hS8⟩⟩
        rw [HE.out] at hF8
        exact ⟨i + 1, by omega, by go_num, hF8, hH8.1, (hC2.trans ((Chg.below hB3).trans (Chg.below ((Below.refl _ w3).drew)))).trans (Chg.row hg8 (fun r e => .inl e))⟩
      case measure => simp [intOf]; omega
    · have hz2 : ¬ (i : Int) < (m.l.length : Int) := by omega
      rw [List.take_of_length_le (by omega), List.drop_eq_nil_of_le (by omega), List.append_nil] at hF2
      go_wp2_with (first
        | (go_at_call 87; refine (HD _ hF2).mono ?_; rintro e w4 ⟨sl4, rfl, hg4, hF4, hn4⟩; have hD4 := hD2.grown hg4 (lay_p hpb); have hSP : Hid (SlP wr (slBlk (.slice a m.l.length cap)) (settleL m.l) (.returned sl4) w4) := ⟨sl4, rfl, hg4, hF4, hn4⟩)
        | (with_reducible refine at_list ?_; first
          | (refine wpList_loadCell (op := ⟨some 32, _, _, _, _, _⟩) rfl _ _ rfl p 0 rfl _ _ hD2 _ Tryz.underlying59 rfl _ (dC_g0 _ _) ?_)
          | (refine wpList_storeCell (op := ⟨none, .store 59 (.tmp 35) (.tmp 33), _, _, _, _⟩) rfl _ _ _ rfl p 0 rfl sl4 (by with_unfolding_all exact rfl) _ _ hD4 iSlF hF4.cells.1 hF4.cells.2 (by rw [dC_size]; decide) ?_; intro w5 hg5 hs5 hD5; clear hs5)))
      refine bodyPost_end (results_none rfl _ _ _) rfl (hHP.out wr w4 sl4 hC2 hSP.out w5 hg5 hD4 hD5)
set_option maxRecDepth 100000 in
theorem sync_any (p : Nat) (b : Option Nat) (m : DM) (w : World) (hK : DK w p b m) (hl : m.l.length ≤ 1000000) :
    Calls Tryz.prog 27 #[.pointer (some ⟨p, 0, none⟩)] w (ChP w p b (if m.dead = true then (m, 7) else ({ m with l := settleL m.l }, 0))) := by
  have HD : Calls Tryz.prog 23 #[.pointer (some ⟨p, 0, none⟩)] w fun e w' => e = .returned (.bool m.dead) ∧ w' = w := by
    obtain ⟨sl, hD, _, _⟩ := hK.out
    exact dead_any p sl m w hD
  have HS := settle_any p b m w hK hl
  by_cases hq : m.dead = true
  · rw [if_pos hq]
    rw [hq] at HD
    clear HS
    go_enter Tryz.func27, Tryz.ntmps27
    go_wp2_with (go_at_call 23; refine HD.mono ?_; rintro e w' ⟨rfl, hw'⟩; subst hw')
    go_ret
    exact ⟨rfl, b, Chg.refl _ _ _, hK⟩
  · rw [if_neg hq]
    rw [Bool.eq_false_iff.2 hq] at HD
    clear hq
    go_enter Tryz.func27, Tryz.ntmps27
    go_wp2_with (first
      | (go_at_call 23; refine HD.mono ?_; rintro e w' ⟨rfl, hw'⟩; subst hw')
      | (go_at_call 62; refine HS.mono ?_; rintro e w2 ⟨rfl, b2, hC2, hD2⟩))
    go_ret
    exact ⟨rfl, b2, hC2, hD2⟩
end Go.Proofs.YtaiiojbakmminaaGreatDoor
