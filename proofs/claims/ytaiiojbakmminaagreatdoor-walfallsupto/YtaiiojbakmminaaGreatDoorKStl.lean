/- What settle of a disk does: all files are sure, those that are gone go. -/
import Derived.Test.YtaiiojbakmminaaGreatDoorKMov
namespace Go.Proofs.YtaiiojbakmminaaGreatDoor
open Go Go.RowKit
set_option maxRecDepth 100000 in
theorem settle1_any (f : F) (w : World) : Calls Tryz.prog 88 #[.agg (fC f)] w fun e w' => e = .returned (.bool (gone f)) ∧ Below w.heap.size w w' := by
  have HG := fun w' => gone_any f w'
  go_enter Tryz.func88, Tryz.ntmps88
  go_wp2_with (first
    | (go_at_call 89; refine (HG _).mono ?_; rintro e w2 ⟨rfl, hw2⟩)
    | (with_reducible refine at_list ?_; first
      | (refine wpList_boxRow (op := ⟨some 1, _, _, _, _, _⟩) rfl _ _ rfl _ rfl ?_; intro w1 hw1 hs1 h1; clear hs1)
      | (refine wpList_loadRow (op := ⟨some 3, _, _, _, _, _⟩) rfl _ _ rfl w.heap.size rfl _ _ h1 _ Tryz.underlying93 rfl (iFile _) ?_)))
  go_ret
  exact ⟨rfl, hw1.trans (hw2.mono hw1.size)⟩
/-- The number of the first that is gone. -/
def idxG (l : List F) : Int := if l.findIdx gone < l.length then ((l.findIdx gone : Nat) : Int) else -1
theorem findIdx_at {l : List F} {i : Nat} {f : F} (hi : i ≤ l.findIdx gone) (hf : l[i]? = some f) : (gone f = true → l.findIdx gone = i) ∧ (gone f = false → i + 1 ≤ l.findIdx gone) := by
  obtain ⟨hil, rfl⟩ := List.getElem?_eq_some_iff.1 hf
  constructor
  · intro hg
    rcases Nat.lt_or_ge i (l.findIdx gone) with h | h
    · have := List.not_of_lt_findIdx h
      rw [hg] at this
      cases this
    · omega
  · intro hg
    rcases Nat.lt_or_ge i (l.findIdx gone) with h | h
    · exact h
    · have e : l.findIdx gone = i := Nat.le_antisymm h hi
      have := List.findIdx_getElem (xs := l) (p := gone) (w := by omega)
      simp only [e] at this
      rw [this] at hg
      cases hg
set_option maxRecDepth 100000 in
set_option maxHeartbeats 1000000 in
theorem index_any (l : List F) (a : Option Addr) (cap : Nat) (w : World) (hL : FL w (.slice a l.length cap) l) (hl : l.length ≤ 1000000) :
    Calls Tryz.prog 107 #[.slice a l.length cap, .func (.func 88) #[] #[]] w fun e w' => e = .returned (.int .i64 (idxG l)) ∧ Below w.heap.size w w' := by
  obtain ⟨N, hN⟩ : ∃ N, Hid (N = idxG l) := ⟨_, rfl⟩
  rw [← hN.out]
  go_enter Tryz.func107, Tryz.ntmps107
  go_wp2_with fail
  go_loopw [5, 8] (fun _ v8 wl => ∃ i : Nat, i ≤ l.length ∧ Hid (i ≤ l.findIdx gone) ∧ v8 = .int .i64 i ∧ Below w.heap.size w wl) (fun _ v8 _ => l.length - (intOf v8).toNat)
  case atStart => exact ⟨0, by omega, Nat.zero_le _, rfl, Below.refl _ _⟩
  case round =>
    obtain ⟨i, hil, hI, rfl, hB⟩ := hrel
    by_cases hlt : i < l.length
    · have hz2 : (i : Int) < (l.length : Int) := by omega
      obtain ⟨f, hf⟩ : ∃ f, l[i]? = some f := ⟨_, List.getElem?_eq_getElem hlt⟩
      obtain ⟨g, rfl, hS, hg⟩ := hL.at i f hf
      have hg2 := rangeAt_below hg hB hS.lt
      obtain ⟨k1, k2⟩ := findIdx_at hI.out hf
      have HG := fun w' => settle1_any f w'
      cases hq : gone f
      · have hI2 : Hid (i + 1 ≤ l.findIdx gone) := k2 hq
        rw [hq] at HG
        clear k1 k2 hf hg hq hI
        go_wp2_with (first
          | (go_at_call 88; refine (HG _).mono ?_; rintro e w2 ⟨rfl, hw2⟩)
          | (with_reducible refine at_list ?_; first
            | (refine wpList_loadAt (op := ⟨some 15, _, _, _, _, _⟩) rfl _ _ rfl g (i * 6) rfl (fC f) hg2 _ Tryz.underlying93 rfl (iFile f) ?_)))
        go_roundw
        case rel => exact ⟨i + 1, by omega, hI2, by go_num, hB.trans (hw2.mono hB.size)⟩
        case measure => simp [intOf]; omega
      · have hNi : Hid (N = (i : Int)) := by
          show _ = _
          rw [hN.out, idxG, k1 hq, if_pos hlt]
        rw [hq] at HG
        clear k1 k2 hf hg hq hI
        go_wp2_with (first
          | (go_at_call 88; refine (HG _).mono ?_; rintro e w2 ⟨rfl, hw2⟩)
          | (with_reducible refine at_list ?_; first
            | (refine wpList_loadAt (op := ⟨some 15, _, _, _, _, _⟩) rfl _ _ rfl g (i * 6) rfl (fC f) hg2 _ Tryz.underlying93 rfl (iFile f) ?_)))
        go_ret
        exact ⟨by rw [hNi.out]; rfl, hB.trans (hw2.mono hB.size)⟩
    · have hz2 : ¬ (i : Int) < (l.length : Int) := by omega
      have hNi : Hid (N = -1) := by
        show _ = _
        rw [hN.out, idxG, if_neg (by have := hI.out; omega)]
      clear hI
      go_wp2_with fail
      go_ret
      exact ⟨by rw [hNi.out]; rfl, hB⟩
theorem grow_past {a b c : World} {row : Option Nat} {k : Nat} (h : a.grownBy b row) (hg : b.grownBy c (some k)) (hk : a.heap.size ≤ k) : a.grownBy c row :=
  ⟨hg.os.trans h.os, hg.tape.trans h.tape, hg.output.trans h.output, Nat.le_trans h.size hg.size, fun i hi hr => (hg.block i (Nat.lt_of_lt_of_le hi h.size) (fun e => by have := Option.some.inj e; omega)).trans (h.block i hi hr)⟩
/-- Those that are not gone. -/
def liveL (l : List F) : List F := l.filter fun f => !gone f
/-- How far DeleteFunc has come: i are kept of the first j. -/
structure Kept (l cur : List F) (i j : Nat) : Prop where
  len : cur.length = l.length
  lt : i < j
  jl : j ≤ l.length
  kept : cur.take i = liveL (l.take j)
  rest : cur.drop j = l.drop j
theorem Kept.get {l cur : List F} {i j : Nat} (h : Kept l cur i j) : cur[j]? = l[j]? := by
  have := congrArg (·[0]?) h.rest
  simpa [List.getElem?_drop] using this
theorem live_take (l : List F) (j : Nat) (f : F) (hf : l[j]? = some f) : liveL (l.take (j + 1)) = liveL (l.take j) ++ (if gone f = true then [] else [f]) := by
  obtain ⟨hi, rfl⟩ := List.getElem?_eq_some_iff.1 hf
  unfold liveL
  rw [List.take_succ_eq_append_getElem hi, List.filter_append]
  congr 1
  cases hq : gone l[j] <;> simp [hq]
theorem Kept.skip {l cur : List F} {i j : Nat} {f : F} (h : Kept l cur i j) (hf : l[j]? = some f) (hg : gone f = true) : Kept l cur i (j + 1) := by
  have hj := (List.getElem?_eq_some_iff.1 hf).1
  refine ⟨h.len, by have := h.lt; omega, hj, ?_, ?_⟩
  · rw [h.kept, live_take l j f hf, if_pos hg, List.append_nil]
  · have := congrArg (List.drop 1) h.rest
    simpa [List.drop_drop] using this
theorem Kept.keep {l cur : List F} {i j : Nat} {f : F} (h : Kept l cur i j) (hf : l[j]? = some f) (hg : gone f = false) : Kept l (cur.set i f) (i + 1) (j + 1) := by
  have hj := (List.getElem?_eq_some_iff.1 hf).1
  have hlt := h.lt
  have hlen := h.len
  refine ⟨by simp [hlen], by omega, hj, ?_, ?_⟩
  · rw [live_take l j f hf, if_neg (by simp [hg]), ← h.kept, List.take_succ_eq_append_getElem (by simp; omega), List.take_set_of_le (Nat.le_refl _), List.getElem_set_self]
  · rw [List.drop_set_of_lt (by omega)]
    have := congrArg (List.drop 1) h.rest
    simpa [List.drop_drop] using this
theorem Kept.start {l : List F} (h : l.findIdx gone < l.length) : Kept l l (l.findIdx gone) (l.findIdx gone + 1) := by
  have hf : l[l.findIdx gone]? = some (l[l.findIdx gone]) := List.getElem?_eq_getElem h
  refine ⟨rfl, by omega, h, ?_, rfl⟩
  rw [live_take l _ _ hf, if_pos (List.findIdx_getElem (w := h)), List.append_nil]
  symm
  unfold liveL
  rw [List.filter_eq_self]
  intro x hx
  obtain ⟨j, hj⟩ := List.mem_iff_getElem?.1 hx
  rw [List.getElem?_take] at hj
  split at hj
  · rename_i hjl
    obtain ⟨hjl2, rfl⟩ := List.getElem?_eq_some_iff.1 hj
    have := List.not_of_lt_findIdx hjl
    simpa using this
  · cases hj
set_option maxRecDepth 100000 in
set_option maxHeartbeats 2000000 in
theorem delf_any (l : List F) (a : Option Addr) (cap : Nat) (w : World) (hL : FL w (.slice a l.length cap) l) (hl : l.length ≤ 1000000) :
    Calls Tryz.prog 87 #[.slice a l.length cap, .func (.func 88) #[] #[]] w (SlP w (slBlk (.slice a l.length cap)) (liveL l)) := by
  have HI := index_any l a cap w hL hl
  unfold idxG at HI
  by_cases hx : l.findIdx gone < l.length
  · rw [if_pos hx] at HI
    obtain ⟨f0, hf0⟩ : ∃ f, l[l.findIdx gone]? = some f := ⟨_, List.getElem?_eq_getElem hx⟩
    obtain ⟨g, rfl, hS, _⟩ := hL.at _ f0 hf0
    have hK0 : Hid (Kept l l (l.findIdx gone) (l.findIdx gone + 1)) := Kept.start hx
    have hP : Hid (∀ (w1 : World) (cur : List F) (i : Nat), w.grownBy w1 (some g) → cur.length = l.length → i ≤ l.length → cur.take i = liveL l → GS w1 93 6 g cap ((cur.take i).map fL) → SlP w (some g) (liveL l) (.returned (.slice (some ⟨g, 0, none⟩) i cap)) w1) := fun w1 cur i h1 h2 h3 h4 h5 => ⟨_, rfl, h1, by
      rw [h4] at h5
      refine ⟨fL_all _, .inr ⟨g, cap, Nat.zero_le _, ?_, h5⟩⟩
      rw [List.length_map, ← h4, List.length_take, h2, Nat.min_eq_left h3], fun r e => .inl e⟩
    have hcap : l.length ≤ cap := by simpa using hS.out.choose_spec.2.1
    show Calls _ _ _ _ (SlP w (some g) (liveL l))
    generalize SlP w (some g) (liveL l) = R at *
    clear hf0 hL
    generalize l.findIdx gone = k0 at *
    have hk1 : ¬ (k0 : Int) = -1 := by omega
    have hk2 : ((k0 : Int) == -1) = false := beq_eq_false_iff_ne.2 hk1
    go_enter Tryz.func87, Tryz.ntmps87
    go_wp2_with (go_at_call 107; refine HI.mono ?_; rintro e w1 ⟨rfl, hw1⟩)
    go_loopw [5, 6, 7] (fun v5 v6 _ wl => ∃ (i j : Nat) (cur : List F), v5 = .int .i64 i ∧ v6 = .int .i64 j ∧ Hid (Kept l cur i j) ∧ w.grownBy wl (some g) ∧ GS wl 93 6 g cap (cur.map fL)) (fun _ v6 _ _ => l.length - (intOf v6).toNat)
    case atStart => exact ⟨k0, k0 + 1, l, rfl, by go_num, hK0, grown_of_below hw1, hS.grown (row := none) (grown_of_below hw1) (fun e => nomatch e)⟩
    case round =>
      obtain ⟨i, j, cur, rfl, rfl, hI, hG, hS2⟩ := hrel
      have hij := hI.out.lt
      have hjl := hI.out.jl
      have hgl := hS2.lt
      by_cases hlt : j < l.length
      · have hz2 : (j : Int) < (l.length : Int) := by omega
        have hzi : (i : Int) < (l.length : Int) := by omega
        obtain ⟨f, hf⟩ : ∃ f, l[j]? = some f := ⟨_, List.getElem?_eq_getElem hlt⟩
        have hfc : cur[j]? = some f := by rw [hI.out.get]; exact hf
        obtain ⟨fo, hfo⟩ : ∃ fo, cur[i]? = some fo := ⟨_, List.getElem?_eq_getElem (by have := hI.out.len; omega)⟩
        have hg2 := hS2.range (fL_all cur) j _ (get_fL hfc)
        have HG := fun w' => settle1_any f w'
        cases hq : gone f
        · have hI2 : Hid _ := hI.out.keep hf hq
          rw [hq] at HG
          clear hf hfc hq hI
          go_wp2_with (first
            | (go_at_call 88; refine (HG _).mono ?_; rintro e w4 ⟨rfl, hw4⟩; replace h7b := h7b.belowSize hw4; have hS4 := hS3.grown (row := none) (grown_of_below hw4) (fun e => nomatch e); have hG4 := grown_trans hG3 (grown_of_below hw4))
            | (with_reducible refine at_list ?_; first
              | (refine wpList_loadAt (op := ⟨some 25, _, _, _, _, _⟩) rfl _ _ rfl g (j * 6) rfl (fC f) hg2 _ Tryz.underlying93 rfl (iFile f) ?_)
              | (refine wpList_allocRow (op := ⟨some 7, _, _, _, _, _⟩) rfl _ rfl _ zFile.1 ?_; intro w2 hw2 hs2 h7; clear hs2; have hS2b := hS2.grown (row := none) (grown_of_below hw2) (fun e => nomatch e); have hG2 := grown_trans hG (grown_of_below hw2))
              | (refine wpList_storeRow (op := ⟨none, .store 93 (.tmp 7) (.tmp 25), _, _, _, _⟩) rfl _ _ _ rfl wr.heap.size (fC f) rfl rfl _ _ h7 rfl (iFile _) (fC_one _) ?_; intro w3 hg3 hs3 h7b; clear hs3; have hS3 := hS2b.grown hg3 (by simp; omega); have hG3 := grow_past hG2 hg3 hG.size)
              | (refine wpList_loadRow (op := ⟨some 27, _, _, _, _, _⟩) rfl _ _ rfl wr.heap.size rfl _ _ h7b _ Tryz.underlying93 rfl (iFile _) ?_)
              | (refine wpList_loadRow (op := ⟨some 32, _, _, _, _, _⟩) rfl _ _ rfl wr.heap.size rfl _ _ h7b _ Tryz.underlying93 rfl (iFile _) ?_)
              | (refine wpList_stFile (op := ⟨none, .store 93 (.tmp 33) (.tmp 32), _, _, _, _⟩) rfl _ _ rfl g cap i cur fo f hfo rfl rfl hS4 ?_; intro w5 hg5 hS5)))
          go_roundw
          case rel => exact ⟨i + 1, j + 1, cur.set i f, by go_num, by go_num, hI2, grown_trans hG4 hg5, hS5⟩
          case measure => simp [intOf]; omega
        · have hI2 : Hid _ := hI.out.skip hf hq
          rw [hq] at HG
          clear hf hfc hq hI
          go_wp2_with (first
            | (go_at_call 88; refine (HG _).mono ?_; rintro e w4 ⟨rfl, hw4⟩; replace h7b := h7b.belowSize hw4; have hS4 := hS3.grown (row := none) (grown_of_below hw4) (fun e => nomatch e); have hG4 := grown_trans hG3 (grown_of_below hw4))
            | (with_reducible refine at_list ?_; first
              | (refine wpList_loadAt (op := ⟨some 25, _, _, _, _, _⟩) rfl _ _ rfl g (j * 6) rfl (fC f) hg2 _ Tryz.underlying93 rfl (iFile f) ?_)
              | (refine wpList_allocRow (op := ⟨some 7, _, _, _, _, _⟩) rfl _ rfl _ zFile.1 ?_; intro w2 hw2 hs2 h7; clear hs2; have hS2b := hS2.grown (row := none) (grown_of_below hw2) (fun e => nomatch e); have hG2 := grown_trans hG (grown_of_below hw2))
              | (refine wpList_storeRow (op := ⟨none, .store 93 (.tmp 7) (.tmp 25), _, _, _, _⟩) rfl _ _ _ rfl wr.heap.size (fC f) rfl rfl _ _ h7 rfl (iFile _) (fC_one _) ?_; intro w3 hg3 hs3 h7b; clear hs3; have hS3 := hS2b.grown hg3 (by simp; omega); have hG3 := grow_past hG2 hg3 hG.size)
              | (refine wpList_loadRow (op := ⟨some 27, _, _, _, _, _⟩) rfl _ _ rfl wr.heap.size rfl _ _ h7b _ Tryz.underlying93 rfl (iFile _) ?_)))
          go_roundw
          case rel => exact ⟨i, j + 1, cur, rfl, by go_num, hI2, hG4, hS4⟩
          case measure => simp [intOf]; omega
      · have hz2 : ¬ (j : Int) < (l.length : Int) := by omega
        obtain rfl : j = l.length := by omega
        have hkl := hI.out.kept
        rw [List.take_of_length_le (Nat.le_refl _)] at hkl
        have hlen := hI.out.len
        have hzi : (i : Int) ≤ (l.length : Int) := by omega
        have hyi : (i : Int) ≤ (cap : Int) := by omega
        have hzn : ¬ cap = i := by omega
        have HR : Hid (∀ w1, w.grownBy w1 (some g) → GS w1 93 6 g cap ((cur.take i).map fL) → R (.returned (.slice (some ⟨g, 0, none⟩) i cap)) w1) := fun w1 h1 h2 => hP.out w1 cur i h1 hlen (by omega) hkl h2
        have hlen2 : i + (l.length - i) ≤ cur.length := by omega
        clear hI hkl hlen
        go_wp2_with (with_reducible refine at_list ?_; refine wpList_clr (op := ⟨none, _, _, _, _, _⟩) rfl (.tmp 38) rfl g cap i (l.length - i) (cap - i) cur ⟨g, i * 6, none⟩ rfl (fun _ => rfl) hS2 hlen2 ?_; intro w2 v2 hg2 hS3)
        all_goals exact HR.out _ (grown_trans hG hg2) hS3
  · rw [if_neg hx] at HI
    have hall : liveL l = l := by
      unfold liveL
      rw [List.filter_eq_self]
      intro x hxm
      have : l.findIdx gone = l.length := Nat.le_antisymm (List.findIdx_le_length) (by omega)
      have := List.findIdx_eq_length.1 this x hxm
      simpa using this
    rw [hall]
    have hP : Hid (∀ w1, Below w.heap.size w w1 → SlP w (slBlk (.slice a l.length cap)) l (.returned (.slice a l.length cap)) w1) := fun w1 h1 => ⟨_, rfl, grown_of_below h1, hL.below h1, fun r e => .inl e⟩
    clear hx hall hL
    generalize SlP w (slBlk (.slice a l.length cap)) l = R at *
    go_enter Tryz.func87, Tryz.ntmps87
    go_wp2_with (go_at_call 107; refine HI.mono ?_; rintro e w1 ⟨rfl, hw1⟩)
    all_goals exact hP.out _ hw1
end Go.Proofs.YtaiiojbakmminaaGreatDoor
