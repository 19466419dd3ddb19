/- What cut of the law gives. The arguments of the statements, out of what their rows list of them. A disk with a limit: Room, Used, and Add of a log there. A log that a law plays on its disk: what is kept from call to call. What WalSegments tells: segments are followed by others when they are long, generations by others when all is laid anew. What the acts of the law are in memory. -/
import Derived.Test.YtaiiojbakmminaaGreatDoorWsm
import Derived.Test.YtaiiojbakmminaaGreatDoorWGlb
namespace Go.Proofs.YtaiiojbakmminaaGreatDoor
open Go Go.RowKit
def c200 (x : B) : B := x.take 200
def cutL (l : List B) : List B := (l.take 6).map c200
theorem take_snoc {l : List B} {i : Nat} {x : B} (h : l[i]? = some x) : l.take (i + 1) = l.take i ++ [x] := by
  obtain ⟨hi, rfl⟩ := List.getElem?_eq_some_iff.1 h
  exact List.take_succ_eq_append_getElem hi
theorem ta_one (w : World) (y : B) : TA (w.alloc (.cells #[.string ⟨y.toArray⟩] 9)) (some ⟨w.heap.size, 0, none⟩) [y] := ⟨.inr ⟨w.heap.size, 0, #[.string ⟨y.toArray⟩], (0, 0), rfl, (Blk.new _ _ _).out, fun j x hx => by
  match j, hx with
  | 0, hx => simp at hx; subst hx; rfl
  | j + 1, hx => simp at hx⟩⟩
/-- Texts that can be read cell by cell: an argument's. -/
structure XA (w : World) (a : Option Addr) (l : List B) : Prop where
  out : ∀ j x, l[j]? = some x → ∃ g o, a = some ⟨g, o, none⟩ ∧ w.cell? ⟨g, o + j, none⟩ = some (sv x)
theorem XA.at {w : World} {a : Option Addr} {l : List B} (h : XA w a l) (j : Nat) (x : B) (hx : l[j]? = some x) : ∃ g o, a = some ⟨g, o, none⟩ ∧ g < w.heap.size ∧ w.cell? ⟨g, o + j, none⟩ = some (sv x) := by
  obtain ⟨g, o, h1, h2⟩ := h.out j x hx
  exact ⟨g, o, h1, World.block_lt_of_cell? w ⟨g, o + j, none⟩ h2, h2⟩
theorem XA.below {w w' : World} {a : Option Addr} {l : List B} (h : XA w a l) (hb : Below w.heap.size w w') : XA w' a l := ⟨fun j x hx => by
  obtain ⟨g, o, h1, h2, h3⟩ := h.at j x hx
  exact ⟨g, o, h1, (hb.cell (p := ⟨g, o + j, none⟩) h2).trans h3⟩⟩
theorem XA.take {w : World} {a : Option Addr} {l : List B} (h : XA w a l) (n : Nat) : XA w a (l.take n) := ⟨fun j x hx => h.out j x (by rw [List.getElem?_take] at hx; split at hx; exact hx; cases hx)⟩
set_option maxRecDepth 100000 in
set_option maxHeartbeats 1000000 in
theorem cut_any (l : List B) (ad : Option Addr) (cap : Nat) (w : World) (hT : XA w ad l) (hcap : l.length ≤ cap) :
    Calls Tryz.prog 13 #[.slice ad l.length cap] w fun e w' => ∃ v rb, e = .returned v ∧ Below w.heap.size w w' ∧ TS w' v rb (cutL l) ∧ ∀ k, rb = some k → w.heap.size ≤ k := by
  have hB0 : Below w.heap.size w (w.alloc (.cells #[] 9)) := (Below.refl _ _).alloc (Nat.le_refl _) _
  have hT0 : TS (w.alloc (.cells #[] 9)) (.slice (some ⟨w.heap.size, 0, none⟩) 0 0) (some w.heap.size) [] := ⟨.inr ⟨w.heap.size, 0, 0, #[], rfl, rfl, (Blk.new _ _ _).out, by simp, by simp, fun j x hx => by simp at hx⟩⟩
  go_enter Tryz.func13, Tryz.ntmps13
  by_cases h6 : 6 < l.length
  · have hz6 : (6 : Int) < (l.length : Int) := by omega
    have hc6 : ¬ cap < 6 := by omega
    have hT' : XA w ad (l.take 6) := hT.take 6
    have hcut : Hid (cutL l = (l.take 6).map c200) := rfl
    go_wp2_with fail
    go_loopw [3, 4, 5] (fun v3 v4 _ wl => ∃ (i : Nat) (v : Value) (rbi : Option Nat), i ≤ (l.take 6).length ∧ v4 = .int .i64 i ∧ v = v3 ∧ TS wl v rbi (((l.take 6).take i).map c200) ∧ (∀ k, rbi = some k → w.heap.size ≤ k) ∧ Below w.heap.size w wl) (fun _ v4 _ _ => (l.take 6).length - (intOf v4).toNat)
    case atStart => exact ⟨0, _, some w.heap.size, by omega, rfl, rfl, by simpa using hT0, fun k e => by cases e; exact Nat.le_refl _, hB0⟩
    case round =>
      obtain ⟨i, v, rbi, hil, rfl, rfl, hTi, hri, hB⟩ := hrel
      have hlen6 : (l.take 6).length = 6 := by first | rfl | (rw [List.length_take]; omega)
      by_cases hlt : i < (l.take 6).length
      · have hz2 : (i : Int) < (6 : Int) := by omega
        obtain ⟨x, hx⟩ : ∃ x, (l.take 6)[i]? = some x := ⟨_, List.getElem?_eq_getElem hlt⟩
        obtain ⟨g, o, rfl, hgl, hc⟩ := hT'.at i x hx
        have hc2 : wr.cell? ⟨g, o + i, none⟩ = some (.string ⟨x.toArray⟩) := (hB.cell (p := ⟨g, o + i, none⟩) hgl).trans hc
        have e3 : Hid (((l.take 6).take (i + 1)).map c200 = ((l.take 6).take i).map c200 ++ [c200 x]) := by
          show _ = _
          rw [take_snoc hx, List.map_append]
          rfl
        have hfew : (((l.take 6).take i).map c200).length + [c200 x].length ≤ 1000000 := by simp; omega
        have hBa0 : ∀ y : B, Below wr.heap.size wr (wr.alloc (.cells #[.string ⟨y.toArray⟩] 9)) := fun y => (Below.refl _ _).alloc (Nat.le_refl _) _
        have hTA0 : ∀ y : B, TA (wr.alloc (.cells #[.string ⟨y.toArray⟩] 9)) (some ⟨wr.heap.size, 0, none⟩) [y] := ta_one wr
        by_cases h200 : 200 < x.length
        · have hz3 : (200 : Int) < (x.length : Int) := by omega
          have hex : (ByteArray.mk x.toArray).extract 0 200 = ⟨(c200 x).toArray⟩ := kextract_take x 200
          have hBa := hB.trans ((hBa0 (c200 x)).mono hB.size)
          have hTA := hTA0 (c200 x)
          have hTi2 := hTi.below (hBa0 (c200 x))
          go_wp2_with (with_reducible refine at_list ?_; refine wpList_appTS (op := ⟨some 30, _, _, _, _, _⟩) rfl _ _ rfl v rbi _ hTi2 rfl (some ⟨wr.heap.size, 0, none⟩) 1 [c200 x] hTA rfl hfew ?_; intro w4 v4 rb4 hg4 hn4 hT4)
          refine ⟨⟨i + 1, v4, rb4, by omega, by go_num, rfl, by rw [e3.out]; exact hT4, fun k e => ?_, ?_⟩, by simp [intOf]; omega⟩
          · rcases hn4 k e with h5 | h5
            · exact hri k h5
            · have := hBa.size; omega
          · exact ⟨hg4.os.trans hBa.os, hg4.tape.trans hBa.tape, hg4.output.trans hBa.output, Nat.le_trans hBa.size hg4.size, fun k hk => (hg4.block k (Nat.lt_of_lt_of_le hk hBa.size) (fun e => by have := hri k e.symm; omega)).trans (hBa.block k hk)⟩
        · have hz3 : ¬ (200 : Int) < (x.length : Int) := by omega
          have e4 : c200 x = x := List.take_of_length_le (by omega)
          rw [e4] at e3 hfew
          clear e4
          have hBa := hB.trans ((hBa0 (x)).mono hB.size)
          have hTA := hTA0 (x)
          have hTi2 := hTi.below (hBa0 (x))
          go_wp2_with (with_reducible refine at_list ?_; refine wpList_appTS (op := ⟨some 30, _, _, _, _, _⟩) rfl _ _ rfl v rbi _ hTi2 rfl (some ⟨wr.heap.size, 0, none⟩) 1 [x] hTA rfl hfew ?_; intro w4 v4 rb4 hg4 hn4 hT4)
          refine ⟨⟨i + 1, v4, rb4, by omega, by go_num, rfl, by rw [e3.out]; exact hT4, fun k e => ?_, ?_⟩, by simp [intOf]; omega⟩
          · rcases hn4 k e with h5 | h5
            · exact hri k h5
            · have := hBa.size; omega
          · exact ⟨hg4.os.trans hBa.os, hg4.tape.trans hBa.tape, hg4.output.trans hBa.output, Nat.le_trans hBa.size hg4.size, fun k hk => (hg4.block k (Nat.lt_of_lt_of_le hk hBa.size) (fun e => by have := hri k e.symm; omega)).trans (hBa.block k hk)⟩
      · have hz2 : ¬ (i : Int) < (6 : Int) := by omega
        have hin2 : (l.take 6).take i = l.take 6 := List.take_of_length_le (by omega)
        rw [hin2] at hTi
        go_wp2_with fail
        go_ret
        first | exact ⟨_, rbi, rfl, hB, by rw [hcut.out]; exact hTi, hri⟩ | exact ⟨_, rfl, hB, rbi, by rw [hcut.out]; exact hTi, hri⟩
  · have hz6 : ¬ (6 : Int) < (l.length : Int) := by omega
    have hT' := hT
    have hcut : Hid (cutL l = l.map c200) := by show _ = _; unfold cutL; rw [List.take_of_length_le (by omega)]
    go_wp2_with fail
    go_loopw [3, 4, 5] (fun v3 v4 _ wl => ∃ (i : Nat) (v : Value) (rbi : Option Nat), i ≤ (l).length ∧ v4 = .int .i64 i ∧ v = v3 ∧ TS wl v rbi (((l).take i).map c200) ∧ (∀ k, rbi = some k → w.heap.size ≤ k) ∧ Below w.heap.size w wl) (fun _ v4 _ _ => (l).length - (intOf v4).toNat)
    case atStart => exact ⟨0, _, some w.heap.size, by omega, rfl, rfl, by simpa using hT0, fun k e => by cases e; exact Nat.le_refl _, hB0⟩
    case round =>
      obtain ⟨i, v, rbi, hil, rfl, rfl, hTi, hri, hB⟩ := hrel
      have hlen6 : (l).length = l.length := by first | rfl | (rw [List.length_take]; omega)
      by_cases hlt : i < (l).length
      · have hz2 : (i : Int) < (l.length : Int) := by omega
        obtain ⟨x, hx⟩ : ∃ x, (l)[i]? = some x := ⟨_, List.getElem?_eq_getElem hlt⟩
        obtain ⟨g, o, rfl, hgl, hc⟩ := hT'.at i x hx
        have hc2 : wr.cell? ⟨g, o + i, none⟩ = some (.string ⟨x.toArray⟩) := (hB.cell (p := ⟨g, o + i, none⟩) hgl).trans hc
        have e3 : Hid (((l).take (i + 1)).map c200 = ((l).take i).map c200 ++ [c200 x]) := by
          show _ = _
          rw [take_snoc hx, List.map_append]
          rfl
        have hfew : (((l).take i).map c200).length + [c200 x].length ≤ 1000000 := by simp; omega
        have hBa0 : ∀ y : B, Below wr.heap.size wr (wr.alloc (.cells #[.string ⟨y.toArray⟩] 9)) := fun y => (Below.refl _ _).alloc (Nat.le_refl _) _
        have hTA0 : ∀ y : B, TA (wr.alloc (.cells #[.string ⟨y.toArray⟩] 9)) (some ⟨wr.heap.size, 0, none⟩) [y] := ta_one wr
        by_cases h200 : 200 < x.length
        · have hz3 : (200 : Int) < (x.length : Int) := by omega
          have hex : (ByteArray.mk x.toArray).extract 0 200 = ⟨(c200 x).toArray⟩ := kextract_take x 200
          have hBa := hB.trans ((hBa0 (c200 x)).mono hB.size)
          have hTA := hTA0 (c200 x)
          have hTi2 := hTi.below (hBa0 (c200 x))
          go_wp2_with (with_reducible refine at_list ?_; refine wpList_appTS (op := ⟨some 30, _, _, _, _, _⟩) rfl _ _ rfl v rbi _ hTi2 rfl (some ⟨wr.heap.size, 0, none⟩) 1 [c200 x] hTA rfl hfew ?_; intro w4 v4 rb4 hg4 hn4 hT4)
          refine ⟨⟨i + 1, v4, rb4, by omega, by go_num, rfl, by rw [e3.out]; exact hT4, fun k e => ?_, ?_⟩, by simp [intOf]; omega⟩
          · rcases hn4 k e with h5 | h5
            · exact hri k h5
            · have := hBa.size; omega
          · exact ⟨hg4.os.trans hBa.os, hg4.tape.trans hBa.tape, hg4.output.trans hBa.output, Nat.le_trans hBa.size hg4.size, fun k hk => (hg4.block k (Nat.lt_of_lt_of_le hk hBa.size) (fun e => by have := hri k e.symm; omega)).trans (hBa.block k hk)⟩
        · have hz3 : ¬ (200 : Int) < (x.length : Int) := by omega
          have e4 : c200 x = x := List.take_of_length_le (by omega)
          rw [e4] at e3 hfew
          clear e4
          have hBa := hB.trans ((hBa0 (x)).mono hB.size)
          have hTA := hTA0 (x)
          have hTi2 := hTi.below (hBa0 (x))
          go_wp2_with (with_reducible refine at_list ?_; refine wpList_appTS (op := ⟨some 30, _, _, _, _, _⟩) rfl _ _ rfl v rbi _ hTi2 rfl (some ⟨wr.heap.size, 0, none⟩) 1 [x] hTA rfl hfew ?_; intro w4 v4 rb4 hg4 hn4 hT4)
          refine ⟨⟨i + 1, v4, rb4, by omega, by go_num, rfl, by rw [e3.out]; exact hT4, fun k e => ?_, ?_⟩, by simp [intOf]; omega⟩
          · rcases hn4 k e with h5 | h5
            · exact hri k h5
            · have := hBa.size; omega
          · exact ⟨hg4.os.trans hBa.os, hg4.tape.trans hBa.tape, hg4.output.trans hBa.output, Nat.le_trans hBa.size hg4.size, fun k hk => (hg4.block k (Nat.lt_of_lt_of_le hk hBa.size) (fun e => by have := hri k e.symm; omega)).trans (hBa.block k hk)⟩
      · have hz2 : ¬ (i : Int) < (l.length : Int) := by omega
        have hin2 : (l).take i = l := List.take_of_length_le (by omega)
        rw [hin2] at hTi
        go_wp2_with fail
        go_ret
        first | exact ⟨_, rbi, rfl, hB, by rw [hcut.out]; exact hTi, hri⟩ | exact ⟨_, rfl, hB, rbi, by rw [hcut.out]; exact hTi, hri⟩
end Go.Proofs.YtaiiojbakmminaaGreatDoor
namespace Go.Proofs.YtaiiojbakmminaaGreatDoor
open Go Go.ChangeShapes Go.WideShapes Go.ChangeAt Go.WideMaps Go.WideElems Go.RowKit
theorem clStr : Tryz.prog.cellsOf 9 = 1 := by kernel_rfl
end Go.Proofs.YtaiiojbakmminaaGreatDoor
namespace Go.Proofs.YtaiiojbakmminaaGreatDoor
open Go Go.RowKit
/-- A synced disk with a limit. -/
def fm (P : PP) (room : Int) (ch : Nat) : DN := ⟨mk P, false, true, room, ch, none⟩
end Go.Proofs.YtaiiojbakmminaaGreatDoor
namespace Go.Proofs.YtaiiojbakmminaaGreatDoor
open Go Go.RowKit
/-- A block of texts. -/
def SB (w : World) (i : Nat) : Prop := ∃ c fr, w.heap[i]? = some (.cells c 9 fr)
theorem TS.sb {w : World} {v : Value} {b : Option Nat} {l : List B} (h : TS w v b l) : ∀ i, b = some i → SB w i := fun i e => by
  rcases h.out with ⟨_, hb, _⟩ | ⟨g, o, cap, cur, _, hb, hg, _⟩
  · rw [hb] at e; cases e
  · rw [hb] at e
    cases e
    exact ⟨_, _, hg⟩
end Go.Proofs.YtaiiojbakmminaaGreatDoor
namespace Go.Proofs.YtaiiojbakmminaaGreatDoor
open Go Go.RowKit
theorem ts_blk {w : World} {a : Option Addr} {n cap : Nat} {b : Option Nat} {l : List B} (h : TS w (.slice a n cap) b l) : ∀ x, a = some x → b = some x.block := fun x e => by
  rcases h.out with ⟨h1, _, _⟩ | ⟨g, o, cp, cur, h1, h2, _⟩
  · simp only [Value.slice.injEq] at h1
    rw [h1.1] at e; cases e
  · simp only [Value.slice.injEq] at h1
    rw [h1.1] at e
    obtain rfl := Option.some.inj e
    exact h2
theorem cutL_len (l : List B) : (cutL l).length ≤ 6 := by
  unfold cutL
  rw [List.length_map, List.length_take]
  omega
theorem cutL_x {l : List B} {x : B} (h : x ∈ cutL l) : x.length ≤ 200 := by
  obtain ⟨y, _, rfl⟩ := List.mem_map.1 h
  unfold c200
  rw [List.length_take]
  omega
end Go.Proofs.YtaiiojbakmminaaGreatDoor
namespace Go.Proofs.YtaiiojbakmminaaGreatDoor
open Go Go.RowKit
/-- Something that is done. -/
structure AC where
  kind : Int
  s : B
  la : Option Addr
  l : List B
  lc : Nat
  at_ : Int
  keep : Int
  torn : Int
def aC (a : AC) : Array Value := #[.int .i64 a.kind, .string ⟨a.s.toArray⟩, .slice a.la a.l.length a.lc, .int .i64 a.at_, .int .i64 a.keep, .int .i64 a.torn]
theorem aC_g0 (a : AC) : (aC a)[0]? = some (.int .i64 a.kind) := rfl
theorem aC_g1 (a : AC) : (aC a)[1]? = some (.string ⟨a.s.toArray⟩) := rfl
theorem aC_g2 (a : AC) : (aC a)[2]? = some (.slice a.la a.l.length a.lc) := rfl
theorem aC_one (a : AC) : (aC a).all (·.oneCell') = true := by simp [aC, Value.oneCell']
theorem zAct : (∀ w, (zeroValue 34).run Tryz.prog w = .ok (.agg #[.int .i64 0, .string ⟨#[]⟩, .slice none 0 0, .int .i64 0, .int .i64 0, .int .i64 0]) w) ∧ (Tryz.prog.info? 34).map (·.size) = some 6 := zero_of_info (by kernel_rfl)
theorem iAct (a : AC) : (Tryz.prog.info? 34).map (·.size) = some (aC a).size := zAct.2
/-- Acts lie at an address, with their texts. -/
structure AA (w : World) (ad : Option Addr) (l : List AC) : Prop where
  out : ∀ i x, l[i]? = some x → ∃ g o, ad = some ⟨g, o, none⟩ ∧ w.rangeAt g (o + i * 6) (aC x).toList ∧ XA w x.la x.l ∧ x.l.length ≤ x.lc
theorem range_below {w w' : World} {g o : Nat} {c : List Value} (h : w.rangeAt g o c) (hb : Below w.heap.size w w') : w'.rangeAt g o c := fun j v hv => by
  have h6 := h j v hv
  exact (hb.cell (World.block_lt_of_cell? _ _ h6)).trans h6
end Go.Proofs.YtaiiojbakmminaaGreatDoor
