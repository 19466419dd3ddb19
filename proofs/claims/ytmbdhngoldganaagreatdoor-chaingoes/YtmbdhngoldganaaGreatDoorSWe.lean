/- What spreadOut does: the words of the rounds. What mix does: the words behind a block more. Laws on slices of bytes and strings, over blocks that are known whole. What number does. What strings.Repeat does, as the library of contracts has it, at this program's numbers. What ending does. -/
import Derived.Test.YtmbdhngoldganaaGreatDoorSSpec
import Derived.Laws.MakeOwn
import Derived.Laws.BytesString
import Derived.Deep.AppendSrc
import Derived.Lib.ConvBytes
import Derived.Shelf.Strings.Repeat
import Derived.Test.YtmbdhngoldganaaGreatDoorChecked
namespace Go.Proofs.YtmbdhngoldganaaGreatDoor.Sh
open Go.RowKit
attribute [local go_sem] n32_add n32_wadd bits_xor32 bits_and32 bits_or32 bits_not32 sub_not32 n32_shr n32_shl n8_wrap n32_shl8 n32_shl16 n32_shl24 n32_shr3 n32_shr10
theorem z39 : (∀ w, (zeroValue 236).run Tryz.prog w = .ok (.agg (row32 (fun _ => 0) 64)) w) ∧ (Tryz.prog.info? 236).map (·.size) = some 64 := zero_of_info (by kernel_rfl)
theorem i47 : (Tryz.prog.info? 259).map (·.size) = some 64 := by kernel_rfl

theorem i5 : (Tryz.prog.info? 5).map (·.size) = some 1 := by kernel_rfl
theorem i38 : (Tryz.prog.info? 235).map (·.size) = some 1 := by kernel_rfl
set_option maxRecDepth 100000 in
set_option maxHeartbeats 400000 in
theorem spread_any (f : Nat → UInt8) (w : World)  :
    Calls Tryz.prog 202 #[.agg (row8 f 64)] w fun e w' => e = .returned (.agg (row32 (wt f) 64)) ∧ Below w.heap.size w w' := by
  go_enter Tryz.func202, Tryz.ntmps202
  go_wp2_with (first
    | (refine wpList_boxRow rfl _ _ rfl _ rfl ?_; intro w1 hw1 hs1 hb1)
    | (refine wpList_allocRow (op := ⟨some 2, _, _, _, _, _⟩) rfl _ rfl _ z39.1 ?_; intro w2 hw2 hs2 hb2)
    | (refine wpList_allocRow (op := ⟨some 3, _, _, _, _, _⟩) rfl _ rfl _ z39.1 ?_; intro w3 hw3 hs3 hb3)
    | (refine wpList_loadRow rfl _ _ rfl _ rfl _ _ ((hb1.belowSize hw2).belowSize hw3) _ Tryz.underlying259 rfl (by rw [row8_size]; exact i47) ?_))
  have hB : Below w.heap.size w w3 := (hw1.trans (hw2.mono (by omega))).trans (hw3.mono (by omega))
  replace hb2 := hb2.belowSize hw3
  rw [hs2] at hb3
  rw [hs1] at hb2 hb3
  have hs : w3.heap.size = w.heap.size + 3 := by omega
  clear hb1 hw1 hw2 hw3 hs1 hs2 hs3
  go_loopw [10] (fun i wl => ∃ k : Nat, k ≤ 64 ∧ i = .int .i64 k ∧ Below w.heap.size w wl ∧ wl.heap.size = w.heap.size + 3 ∧ Blk wl (w.heap.size + 1) (row32 (fun _ => 0) 64) 236 ∧ Blk wl (w.heap.size + 1 + 1) (row32 (partsTo f k) 64) 236) (fun i _ => 64 - (intOf i).toNat)
  case atStart => exact ⟨0, by omega, rfl, hB, hs, hb2, by rw [row32_congr (g := fun _ => 0) (fun j _ => partsTo_zero f j)]; exact hb3⟩
  case round =>
    obtain ⟨k, hk, rfl, hB', hs', hb2', hb3'⟩ := hrel
    clear hB hs hb2 hb3
    by_cases hlt : k < 64
    · go_wp2_with (first
       | (refine wpList_indexB rfl _ _ _ rfl f 64 rfl k rfl _ Tryz.underlying259 _ Tryz.underlying5 rfl i5 hlt ?_)
       | (refine wpList_addrW rfl _ _ _ rfl (w.heap.size + 1 + 1) rfl .i64 _ rfl (k / 4) _ _ Tryz.underlying236 i38 (by omega) (by omega) ?_)
       | (refine wpList_loadW rfl _ _ rfl (w.heap.size + 1 + 1) (k / 4) rfl _ _ _ hb3' _ Tryz.underlying235 rfl (by omega) ?_)
       | (refine wpList_storeW rfl _ _ _ rfl (w.heap.size + 1 + 1) (k / 4) rfl _ rfl _ _ _ hb3' i38 (by omega) ?_; intro w4 hg4 hs4 hb4; rw [partsTo_succ] at hb4))
      go_roundw
      case rel => exact ⟨k + 1, by omega, by go_num, hB'.trans (below_of_grown hg4 (by omega) (by omega)), by omega, hb2'.grown hg4 (by simp), hb4⟩
      case measure => simp [intOf]; omega
    · have hb4' : Blk wr (w.heap.size + 1 + 1) (row32 (schedF f 0) 64) 236 := by
        rw [show k = 64 from by omega, sched_zero_parts] at hb3'
        exact hb3'
      clear hb3'
      go_wp2_with fail
      go_loopw [26] (fun i wl => ∃ m : Nat, m ≤ 48 ∧ i = .int .i64 m ∧ Below w.heap.size w wl ∧ wl.heap.size = w.heap.size + 3 ∧ Blk wl (w.heap.size + 1) (row32 (fun _ => 0) 64) 236 ∧ Blk wl (w.heap.size + 1 + 1) (row32 (schedF f m) 64) 236) (fun i _ => 48 - (intOf i).toNat)
      case atStart => exact ⟨0, by omega, rfl, hB', hs', hb2', hb4'⟩
      case round =>
        obtain ⟨m, hm, rfl, hB, hs, hb2, hb3⟩ := hrel
        clear hB' hs' hb2' hb4'
        by_cases hlt' : m < 48
        · have c1 := (hb3.cell (m + 1)).trans (row32_get _ _ _ (by omega))
          have c14 := (hb3.cell (m + 14)).trans (row32_get _ _ _ (by omega))
          go_wp2_with fail
          go_quiet (fail)
          go_wp2_with (go_at_call 221; refine (rot_any _ _ _ (by omega) (by omega)).mono ?_; rintro e w' ⟨rfl, rfl⟩)
          clear c1 c14
          have c0 := (hb3.cell m).trans (row32_get _ _ _ (by omega))
          have c9 := (hb3.cell (m + 9)).trans (row32_get _ _ _ (by omega))
          have c16 := (hb3.cell (m + 16)).trans (row32_get _ _ _ (by omega))
          have f16 := hb3.frozen (m + 16)
          go_region
          clear c0 c9 c16 f16
          go_wp2_with fail
          go_roundw
          case rel =>
            refine ⟨m + 1, by omega, by go_num, (below_draws hB _).trans (below_of_grown (grown_setCell _ _ _ _) (by omega) (by show _ ≤ wr.heap.size; omega)), ?_, (hb2.drewN _).setCell_other _ (by simp) _, ?_⟩
            · rw [show ∀ (x : World) (p : Addr) (v : Value), (x.setCell p v).heap.size = x.heap.size from fun x p v => by simp [World.setCell]]; exact hs
            · rw [schedF_succ, nxt_sched, ← row32_set]
              exact (hb3.drewN _).setCell _ _
          case measure => simp [intOf]; omega
        · have hb4 : Blk wr (w.heap.size + 1 + 1) (row32 (wt f) 64) 236 := by
            rw [show m = 48 from by omega] at hb3
            exact hb3
          clear hb3
          go_wp2_with (first
            | (refine wpList_loadRow rfl _ _ rfl (w.heap.size + 1 + 1) rfl _ _ hb4 _ Tryz.underlying236 rfl (by rw [row32_size]; exact z39.2) ?_)
            | (refine wpList_storeRow rfl _ _ _ rfl (w.heap.size + 1) _ rfl rfl _ _ hb2 (by rw [row32_size, row32_size]) (by rw [row32_size]; exact z39.2) (row32_one _ _) ?_; intro w4 hg4 hs4 hb5))
          refine bodyPost_ret (v := .agg (row32 (wt f) 64)) ?_ rfl ⟨rfl, hB.trans (below_of_grown hg4 (by omega) (by omega))⟩
          exact results_cell_row rfl _ _ (w.heap.size + 1) _ _ _ _ rfl hb5.out Tryz.underlying236 rfl (by rw [row32_size]; exact z39.2)
end Go.Proofs.YtmbdhngoldganaaGreatDoor.Sh
namespace Go.Proofs.YtmbdhngoldganaaGreatDoor.Sh
open Go.RowKit
attribute [local go_sem] n32_add n32_wadd bits_xor32 bits_and32 bits_or32 bits_not32 bits_notmax sub_not32 n32_shr n32_shl n8_wrap n32_shl8 n32_shl16 n32_shl24 n32_shr3 n32_shr10
/-- Only draws lie between two worlds. -/
structure Draws (w w' : World) : Prop where
  out : ∃ n, w' = w.drewN n
theorem Draws.drewN {w w' : World} (h : Draws w w') (n : Nat) : Draws w (w'.drewN n) := by
  obtain ⟨m, rfl⟩ := h.out
  exact ⟨_, World.drewN_drewN _ _ _⟩
theorem Draws.glob {w w' : World} (h : Draws w w') (hG : Glob w) : Glob w' := by
  obtain ⟨m, rfl⟩ := h.out
  exact hG.drewN m
theorem Draws.blk {w w' : World} (h : Draws w w') {b : Nat} {c : Array Value} {t : TypeId} (hb : Blk w b c t) : Blk w' b c t := by
  obtain ⟨m, rfl⟩ := h.out
  exact hb.drewN m
theorem Draws.below {w w' a : World} (h : Draws w w') {B : Nat} (hb : Below B a w) : Below B a w' := by
  obtain ⟨m, rfl⟩ := h.out
  exact below_draws hb m
theorem Draws.size {w w' : World} (h : Draws w w') : w'.heap.size = w.heap.size := by
  obtain ⟨m, rfl⟩ := h.out
  rfl
theorem z40 : (∀ w, (zeroValue 237).run Tryz.prog w = .ok (.agg (row32 (fun _ => 0) 8)) w) ∧ (Tryz.prog.info? 237).map (·.size) = some 8 := zero_of_info (by kernel_rfl)
set_option maxRecDepth 100000 in
set_option maxHeartbeats 400000 in
theorem mix_any (H : S8) (fb : Nat → UInt8) (w : World) (hG : Glob w) :
    Calls Tryz.prog 188 #[.agg (row32 H.at 8), .agg (row8 fb 64)] w fun e w' => e = .returned (.agg (row32 (mixS H fb).at 8)) ∧ Below w.heap.size w w' := by
  go_enter Tryz.func188, Tryz.ntmps188
  go_wp2_with (first
    | (go_at_call 202; refine (spread_any _ _).mono ?_; rintro e w4 ⟨rfl, hw4⟩)
    | (with_reducible refine at_list ?_; first
      | (refine wpList_boxRow (op := ⟨some 2, _, _, _, _, _⟩) rfl _ _ rfl _ rfl ?_; intro w1 hw1 hs1 hb1)
      | (refine wpList_boxRow (op := ⟨some 3, _, _, _, _, _⟩) rfl _ _ rfl _ rfl ?_; intro w2 hw2 hs2 hb2)
      | (refine wpList_allocRow (op := ⟨some 4, _, _, _, _, _⟩) rfl _ rfl _ z40.1 ?_; intro w3 hw3 hs3 hb3)
      | (refine wpList_loadRow rfl _ _ rfl _ rfl _ _ (hb2.belowSize hw3) _ Tryz.underlying259 rfl (by rw [row8_size]; exact i47) ?_)
      | (refine wpList_allocRow (op := ⟨some 5, _, _, _, _, _⟩) rfl _ rfl _ z39.1 ?_; intro w5 hw5 hs5 hb5)
      | (refine wpList_storeRow rfl _ _ _ rfl w4.heap.size _ rfl rfl _ _ hb5 (by rw [row32_size, row32_size]) (by rw [row32_size]; exact z39.2) (row32_one _ _) ?_; intro w6 hg6 hs6 hb6)))
  go_simp
  have hM : w.heap.size + 3 ≤ w4.heap.size := by have := hw4.size; omega
  have hB5 : Below w.heap.size w w5 := (((hw1.trans (hw2.mono (by omega))).trans (hw3.mono (by omega))).trans (hw4.mono (by omega))).trans (hw5.mono (by omega))
  have hB6 : Below w.heap.size w w6 := hB5.trans (below_of_grown hg6 (by omega) (by omega))
  have hbw : Blk w6 w.heap.size (row32 H.at 8) 237 := ((((hb1.belowSize hw2).belowSize hw3).belowSize hw4).belowSize hw5).grown hg6 (by simp; omega)
  have hbr : Blk w6 (w.heap.size + 1 + 1) (row32 (fun _ => 0) 8) 237 := by
    have := ((hb3.belowSize hw4).belowSize hw5).grown hg6 (by simp; omega)
    rw [hs2, hs1] at this
    exact this
  have hG6 : Glob w6 := hG.belowSize hB6
  have hL : w4.heap.size < w6.heap.size := by omega
  generalize w4.heap.size = M at *
  clear hb1 hb2 hb3 hb5 hB5 hw1 hw2 hw3 hw4 hw5 hg6 hs1 hs2 hs3 hs5 hs6 hG
  have c0 : w6.cell? ⟨w.heap.size, 0, none⟩ = some (.int .u32 (n32 H.a)) := (hbw.cell 0).trans (row32_get _ _ _ (by omega))
  have c1 : w6.cell? ⟨w.heap.size, 1, none⟩ = some (.int .u32 (n32 H.b)) := (hbw.cell 1).trans (row32_get _ _ _ (by omega))
  have c2 : w6.cell? ⟨w.heap.size, 2, none⟩ = some (.int .u32 (n32 H.c)) := (hbw.cell 2).trans (row32_get _ _ _ (by omega))
  have c3 : w6.cell? ⟨w.heap.size, 3, none⟩ = some (.int .u32 (n32 H.d)) := (hbw.cell 3).trans (row32_get _ _ _ (by omega))
  have c4 : w6.cell? ⟨w.heap.size, 4, none⟩ = some (.int .u32 (n32 H.e)) := (hbw.cell 4).trans (row32_get _ _ _ (by omega))
  have c5 : w6.cell? ⟨w.heap.size, 5, none⟩ = some (.int .u32 (n32 H.f)) := (hbw.cell 5).trans (row32_get _ _ _ (by omega))
  have c6 : w6.cell? ⟨w.heap.size, 6, none⟩ = some (.int .u32 (n32 H.g)) := (hbw.cell 6).trans (row32_get _ _ _ (by omega))
  have c7 : w6.cell? ⟨w.heap.size, 7, none⟩ = some (.int .u32 (n32 H.h)) := (hbw.cell 7).trans (row32_get _ _ _ (by omega))
  go_quiet (fail)
  go_wp2_with fail
  go_quiet (fail)
  go_wp2_with fail
  clear c0 c1 c2 c3 c4 c5 c6 c7
  go_loopw [6, 7, 8, 9, 10, 11, 12, 13, 39] (fun va vb vc vd ve vf vg vh vt wl => ∃ (k : Nat) (s : S8), k ≤ 64 ∧ vt = .int .i64 k ∧ s = rnds Kt (wt fb) H k ∧ va = .int .u32 (n32 s.a) ∧ vb = .int .u32 (n32 s.b) ∧ vc = .int .u32 (n32 s.c) ∧ vd = .int .u32 (n32 s.d) ∧ ve = .int .u32 (n32 s.e) ∧ vf = .int .u32 (n32 s.f) ∧ vg = .int .u32 (n32 s.g) ∧ vh = .int .u32 (n32 s.h) ∧ Draws w6 wl) (fun _ _ _ _ _ _ _ _ vt _ => 64 - (intOf vt).toNat)
  case atStart => exact ⟨0, H, by omega, rfl, rfl, rfl, rfl, rfl, rfl, rfl, rfl, rfl, rfl, (Draws.drewN ⟨_, rfl⟩ _)⟩
  case round =>
    obtain ⟨k, s, hk, rfl, hs, rfl, rfl, rfl, rfl, rfl, rfl, rfl, rfl, hD⟩ := hrel
    have HS : Hid (s = rnds Kt (wt fb) H k) := hs
    clear hs
    by_cases hlt : k < 64
    · have ck := (hD.glob hG6).k k hlt
      have cw := ((hD.blk hb6).cell k).trans (row32_get _ _ _ hlt)
      go_wp2_with fail
      go_quiet ((go_at_call 203; exact Calls.quiet_of_same (turned_any _ _ _ _ _ (by omega) (by omega) (by omega) (by omega) (by omega) (by omega))))
      clear ck cw
      go_wp2_with (go_at_call 203; refine (turned_any _ _ _ _ _ (by omega) (by omega) (by omega) (by omega) (by omega) (by omega)).mono ?_; rintro e w' ⟨rfl, rfl⟩)
      go_roundw
      case rel =>
        exact ⟨k + 1, step (Kt k) (wt fb k) s, by omega, by go_num, by rw [rnds, ← HS.out], rfl, rfl, rfl, rfl, rfl, rfl, rfl, rfl, hD.drewN _⟩
      case measure => simp [intOf]; omega
    · have HS2 : Hid (mixS H fb = H.add s) := by
        have := HS.out
        rw [show k = 64 from by omega] at this
        unfold mixS
        rw [← this]
        rfl
      clear HS
      have hB7 := hD.below hB6
      have hbw7 := hD.blk hbw
      have hbr7 := hD.blk hbr
      have hz7 := hD.size
      have hsz : w.heap.size + 3 < w6.heap.size := by omega
      have hsz7 : w.heap.size + 3 < wr.heap.size := by omega
      clear hD hB6 hbw hbr hb6 hG6 hz7 hM hL
      have hdk : decide ((k : Int) < 64) = false := by simp; omega
      go_wp2_with fail
      rw [row32_eight s]
      clear hdk
      go_loopw [101] (fun v wl => ∃ i : Nat, i ≤ 8 ∧ v = .int .i64 i ∧ Below w.heap.size w wl ∧ w.heap.size + 3 < wl.heap.size ∧ Blk wl w.heap.size (row32 (addTo H s i) 8) 237 ∧ Blk wl (w.heap.size + 1 + 1) (row32 (fun _ => 0) 8) 237) (fun v _ => 8 - (intOf v).toNat)
      case atStart => exact ⟨0, by omega, rfl, hB7, hsz7, by rw [addTo_zero]; exact hbw7, hbr7⟩
      case round =>
        obtain ⟨i, hi, rfl, hB, hz, hbw, hbr⟩ := hrel
        clear hB7 hsz7 hbw7 hbr7 hsz
        by_cases hlt' : i < 8
        · go_wp2_with (with_reducible refine at_list ?_; first
            | (refine wpList_indexW rfl _ _ _ rfl s.at 8 rfl i rfl _ Tryz.underlying237 _ Tryz.underlying235 rfl i38 hlt' ?_)
            | (refine wpList_addrW rfl _ _ _ rfl (w.heap.size) rfl .i64 _ rfl i _ _ Tryz.underlying237 i38 rfl hlt' ?_)
            | (refine wpList_loadW rfl _ _ rfl (w.heap.size) i rfl _ _ _ hbw _ Tryz.underlying235 rfl hlt' ?_)
            | (refine wpList_storeW rfl _ _ _ rfl (w.heap.size) i rfl _ rfl _ _ _ hbw i38 hlt' ?_; intro w8 hg8 hs8 hb8; rw [addTo_succ] at hb8))
          go_roundw
          case rel => exact ⟨i + 1, by omega, by go_num, hB.trans (below_of_grown hg8 (by omega) (by omega)), by omega, hb8, hbr.grown hg8 (by simp; omega)⟩
          case measure => simp [intOf]; omega
        · have hbw2 : Blk wr (w.heap.size) (row32 (mixS H fb).at 8) 237 := by
            rw [show i = 8 from by omega, addTo_all, ← HS2.out] at hbw
            exact hbw
          clear hbw
          go_wp2_with (with_reducible refine at_list ?_; first
            | (refine wpList_loadRow rfl _ _ rfl (w.heap.size) rfl _ _ hbw2 _ Tryz.underlying237 rfl (by rw [row32_size]; exact z40.2) ?_)
            | (refine wpList_storeRow rfl _ _ _ rfl (w.heap.size + 1 + 1) _ rfl rfl _ _ hbr (by rw [row32_size, row32_size]) (by rw [row32_size]; exact z40.2) (row32_one _ _) ?_; intro w9 hg9 hs9 hb9))
          refine bodyPost_ret (v := .agg (row32 (mixS H fb).at 8)) ?_ rfl ⟨rfl, hB.trans (below_of_grown hg9 (by omega) (by omega))⟩
          exact results_cell_row rfl _ _ (w.heap.size + 1 + 1) _ _ _ _ rfl hb9.out Tryz.underlying237 rfl (by rw [row32_size]; exact z40.2)
end Go.Proofs.YtmbdhngoldganaaGreatDoor.Sh
namespace Go.Proofs.YtmbdhngoldganaaGreatDoor.Sh
open Go Go.RowKit

theorem row8_set (f : Nat → UInt8) (n i : Nat) (v : UInt8) : (row8 f n).setIfInBounds i (.int .u8 (n8 v)) = row8 (upd f i v) n := by
  apply Array.ext_getElem?
  intro j
  rw [Array.getElem?_setIfInBounds]
  by_cases hj : j < n
  · rw [row8_get _ _ _ hj, row8_get _ _ _ hj, row8_size]
    by_cases h : i = j
    · subst h; simp [upd, hj]
    · rw [if_neg h, upd, if_neg (fun e => h e.symm)]
  · rw [row8_none _ _ _ (by omega), row8_none _ _ _ (by omega), row8_size]
    by_cases h : i = j
    · subst h; rw [if_pos rfl, if_neg hj]
    · rw [if_neg h]

/-- The first n of a row of bytes, as a string. -/
def strF (f : Nat → UInt8) (n : Nat) : ByteArray := ⟨((List.range n).map f).toArray⟩
theorem madeCells_row8 (n : Nat) : madeCells #[Value.int .u8 0] n = row8 (fun _ => 0) n := by
  apply Array.ext_getElem?
  intro j
  by_cases hj : j < n
  · rw [row8_get _ _ _ hj]; simp [madeCells, hj, n8, Nat.mod_one]
  · rw [row8_none _ _ _ (by omega)]; simp [madeCells]; omega
theorem foldl_push (ns : List Int) : ∀ s : ByteArray, ns.foldl (fun r n => r.push (UInt8.ofNat n.toNat)) s = ⟨s.data ++ (ns.map fun n => UInt8.ofNat n.toNat).toArray⟩ := by
  induction ns with
  | nil => intro s; simp
  | cons n ns ih => intro s; rw [List.foldl_cons, ih]; simp [ByteArray.push]
theorem ofNat_n8 (x : UInt8) : UInt8.ofNat (n8 x).toNat = x := by
  unfold n8; simp

section
variable {P : Program} {ops : Array Oper} {rest : List Oper} {op : Oper} {a : Act} {w : World} {Q : Exit → Act → World → Prop}

/-- A slice of bytes is made. -/
theorem wpList_makeB (hgd : op.guard = none) (ty : TypeId) (x y : Operand) (ho : op.op = .makeSlice ty x y) (n m : Nat) (hx : a.eval x = .int .i64 (n : Int)) (hy : a.eval y = .int .i64 (m : Int)) (hnm : n ≤ m) (hm : m ≤ 1099511627776)
    (e : TypeId) (i : TypeInfo) (hu : P.underlying ty = some (.slice e)) (hi : P.info? e = some i) (hz : i.zero = some (.int .u8 0)) (hs : i.size = 1) (hb : i.bytes = 1)
    (h : ∀ w1 : World, Below w.heap.size w w1 → w1.heap.size = w.heap.size + 1 → Blk w1 w.heap.size (row8 (fun _ => 0) m) e → wpList P ops Q rest (a.put op.dst (.slice (some ⟨w.heap.size, 0, none⟩) n m)) w1) :
    wpList P ops Q (op :: rest) a w := by
  have hr := run_make (P := P) w ty e i _ hu hi hz .i64 .i64 (n : Int) (m : Int) (by omega) (by omega) (by rw [hb]; omega) (by omega)
  rw [Int.toNat_natCast, Int.toNat_natCast, hs, Nat.mul_one, show (Value.int .u8 0).cells = #[Value.int .u8 0] from rfl, madeCells_row8] at hr
  refine wpList_run hgd _ _ ?_ (h _ ((Below.refl _ _).alloc (Nat.le_refl _) _) (by simp) (Blk.new _ _ _))
  unfold execOp
  simp only [ho, hx, hy, Sem.run_bind, hr, Result.andThen_ok]
  rfl

/-- The address of an element of a slice. -/
theorem wpList_addrS (hgd : op.guard = none) (ty : TypeId) (x i : Operand) (ho : op.op = .indexAddr ty x i) (b o len cap : Nat) (hx : a.eval x = .slice (some ⟨b, o, none⟩) len cap) (k : IntKind) (n : Int) (hi : a.eval i = .int k n) (m : Nat)
    (e : TypeId) (hu : P.underlying ty = some (.slice e)) (hse : (P.info? e).map (·.size) = some 1)
    (h0 : n = (m : Int)) (h1 : m < len) (h : wpList P ops Q rest (a.put op.dst (.pointer (some ⟨b, o + m, none⟩))) w) : wpList P ops Q (op :: rest) a w := by
  subst h0
  refine wpList_run hgd (.pointer (some ⟨b, o + m, none⟩)) w ?_ h
  have hc : (0 : Int) ≤ (m : Int) ∧ (m : Int) < (len : Int) := by omega
  unfold execOp
  simp only [ho, hx, hi, Instr.indexAt, asIntOf, Sem.run_bind, Sem.run_pure, Result.andThen_ok, run_underlying hu w, if_pos hc, sizeOf_run hse, Nat.mul_one, Addr.add_mid, Int.toNat_natCast]

theorem wpList_storeB (hgd : op.guard = none) (ty : TypeId) (x y : Operand) (ho : op.op = .store ty x y) (b o : Nat) (hx : a.eval x = .pointer (some ⟨b, o, none⟩)) (v : UInt8) (hy : a.eval y = .int .u8 (n8 v))
    (f : Nat → UInt8) (n : Nat) (t : TypeId) (hb : Blk w b (row8 f n) t) (hi : (P.info? ty).map (·.size) = some 1) (hn : o < n)
    (h : ∀ w1 : World, w.grownBy w1 (some b) → w1.heap.size = w.heap.size → Blk w1 b (row8 (upd f o v) n) t → wpList P ops Q rest (a.put op.dst undef) w1) : wpList P ops Q (op :: rest) a w :=
  wpList_storeCell hgd ty x y ho b o hx _ hy _ t hb hi rfl rfl (by rw [row8_size]; exact hn) (fun w1 g s hb1 => h w1 g s (by rw [row8_set] at hb1; exact hb1))

theorem Blk.loadBytes {b : Nat} {f : Nat → UInt8} {m n : Nat} {t : TypeId} (hb : Blk w b (row8 f m) t) (hn : n ≤ m) :
    (loadCells ⟨b, 0, none⟩ n).run P w = .ok (((List.range n).map fun j => n8 (f j)).map (Value.int .u8)).toArray w := by
  have := run_loadCells_list (P := P) w ⟨b, 0, none⟩ (((List.range n).map fun j => n8 (f j)).map (Value.int .u8)) (fun j v hv => by
    have hj : j < n := by have := (List.getElem?_eq_some_iff.1 hv).1; simpa using this
    rw [Addr.add_mid, Nat.zero_add, hb.cell, row8_get _ _ _ (by omega), ← hv]
    simp [hj])
  simpa using this

/-- A string of the first bytes of a slice. -/
theorem wpList_bytesString (hgd : op.guard = none) (src dst : TypeId) (x : Operand) (ho : op.op = .convert src dst x) (b n cap : Nat) (hx : a.eval x = .slice (some ⟨b, 0, none⟩) n cap)
    (e : TypeId) (hs : P.underlying src = some (.slice e)) (he : P.underlying e = some (.int .u8)) (hd : P.underlying dst = some .string)
    (f : Nat → UInt8) (m : Nat) (t : TypeId) (hb : Blk w b (row8 f m) t) (hn : n ≤ m)
    (h : wpList P ops Q rest (a.put op.dst (.string (strF f n))) w) : wpList P ops Q (op :: rest) a w := by
  refine wpList_run hgd _ w ?_ h
  have hr := run_bytesToString (P := P) w ⟨b, 0, none⟩ n cap ((List.range n).map fun j => n8 (f j)) (hb.loadBytes hn)
  rw [foldl_push] at hr
  have e2 : ((((List.range n).map fun j => n8 (f j)).map fun k => UInt8.ofNat k.toNat)) = (List.range n).map f := by
    rw [List.map_map]; congr 1; funext j; exact ofNat_n8 (f j)
  rw [e2] at hr
  unfold execOp
  simp only [ho, hx, Sem.run_bind, run_convert_bytes_string w src dst e _ _ _ hs he hd, hr, Result.andThen_ok]
  show Result.ok (Next.value (.string ⟨ByteArray.empty.data ++ _⟩)) w = _
  rw [show ByteArray.empty.data = #[] from rfl, Array.empty_append]
  rfl
end

end Go.Proofs.YtmbdhngoldganaaGreatDoor.Sh
namespace Go.Proofs.YtmbdhngoldganaaGreatDoor.Sh
open Go.RowKit

def byteAt (n m j : Nat) : UInt8 := UInt8.ofNat (n / 2 ^ (8 * (m - 1 - j)) % 256)
def numTo (n m i : Nat) : Nat → UInt8 := fun j => if m ≤ j + i then byteAt n m j else 0
theorem numTo_zero (n m : Nat) : row8 (numTo n m 0) m = row8 (fun _ => 0) m := row8_congr fun j hj => by unfold numTo; rw [if_neg (by omega)]
theorem numTo_succ (n m i : Nat) (h : i < m) : row8 (upd (numTo n m i) (m - 1 - i) (UInt8.ofNat (n / 2 ^ (8 * i) % 256))) m = row8 (numTo n m (i + 1)) m := row8_congr fun j hj => by
  unfold upd numTo byteAt
  by_cases h1 : j = m - 1 - i
  · rw [if_pos h1, if_pos (by omega), show m - 1 - j = i from by omega]
  · rw [if_neg h1]
    by_cases h2 : m ≤ j + i
    · rw [if_pos h2, if_pos (by omega)]
    · rw [if_neg h2, if_neg (by omega)]
theorem numTo_all (n m : Nat) : row8 (numTo n m m) m = row8 (byteAt n m) m := row8_congr fun j _ => by unfold numTo; rw [if_pos (by omega)]
/-- The bytes of a number, the highest first. -/
def be (n m : Nat) : List UInt8 := (List.range m).map (byteAt n m)

theorem num_byte (n i : Nat) : ((n : Int) / 2 ^ (8 * i) % 256) = n8 (UInt8.ofNat (n / 2 ^ (8 * i) % 256)) := by
  unfold n8
  rw [UInt8.toNat_ofNat', Nat.mod_eq_of_lt (by omega : n / 2 ^ (8 * i) % 256 < 2 ^ 8)]
  rw [show ((2 : Int) ^ (8 * i)) = ((2 ^ (8 * i) : Nat) : Int) from by simp]
  omega
attribute [local go_sem] num_byte
theorem info5 : ∃ i, Tryz.prog.info? 5 = some i ∧ i.zero = some (.int .u8 0) ∧ i.size = 1 ∧ i.bytes = 1 := by
  have h : (Tryz.prog.info? 5).map (fun i => (i.zero, i.size, i.bytes)) = some (some (.int .u8 0), 1, 1) := by kernel_rfl
  cases hq : Tryz.prog.info? 5 with
  | none => rw [hq] at h; cases h
  | some i => rw [hq] at h; simp at h; exact ⟨i, rfl, h.1, h.2.1, h.2.2⟩

set_option maxRecDepth 100000 in
set_option maxHeartbeats 400000 in
theorem number_any (n m : Nat) (w : World) (hm : m ≤ 8) (hm0 : 1 ≤ m) :
    Calls Tryz.prog 154 #[.int .u64 n, .int .i64 m] w fun e w' => e = .returned (.string ⟨(be n m).toArray⟩) ∧ Below w.heap.size w w' := by
  obtain ⟨i5', hi5, hz5, hs5, hb5⟩ := info5
  go_enter Tryz.func154, Tryz.ntmps154
  go_wp2_with (with_reducible refine at_list ?_; first
    | (refine wpList_makeB rfl _ _ _ rfl m m rfl rfl (Nat.le_refl _) (by omega) _ _ Tryz.underlying171 hi5 hz5 hs5 hb5 ?_; intro w1 hw1 hs1 hb1))
  clear hi5 hz5 hs5 hb5
  go_loopw [10] (fun v wl => ∃ i : Nat, i ≤ m ∧ v = .int .i64 i ∧ Below w.heap.size w wl ∧ wl.heap.size = w.heap.size + 1 ∧ Blk wl w.heap.size (row8 (numTo n m i) m) 5) (fun v _ => m - (intOf v).toNat)
  case atStart => exact ⟨0, by omega, rfl, hw1, hs1, by rw [numTo_zero]; exact hb1⟩
  case round =>
    obtain ⟨i, hi, rfl, hB, hz, hb⟩ := hrel
    clear hw1 hs1 hb1
    by_cases hlt : i < m
    · go_wp2_with (with_reducible refine at_list ?_; first
        | (refine wpList_addrS rfl _ _ _ rfl w.heap.size 0 m m rfl .i64 _ rfl (m - 1 - i) _ Tryz.underlying171 i5 (by omega) (by omega) ?_; rw [Nat.zero_add])
        | (go_simp; refine wpList_storeB rfl _ _ _ rfl w.heap.size (m - 1 - i) rfl _ rfl _ _ _ hb i5 (by omega) ?_; intro w2 hg2 hs2 hb2; rw [numTo_succ n m i hlt] at hb2))
      go_roundw
      case rel => exact ⟨i + 1, by omega, by go_num, hB.trans (below_of_grown hg2 (by omega) (by omega)), by omega, hb2⟩
      case measure => simp [intOf]; omega
    · have hb3 : Blk wr w.heap.size (row8 (byteAt n m) m) 5 := by
        rw [show i = m from by omega, numTo_all] at hb
        exact hb
      clear hb
      go_wp2_with (with_reducible refine at_list ?_; first
        | (refine wpList_bytesString rfl _ _ _ rfl w.heap.size m m rfl _ Tryz.underlying171 Tryz.underlying5 Tryz.underlying9 _ _ _ hb3 (Nat.le_refl _) ?_))
      go_ret
      exact ⟨rfl, hB⟩
end Go.Proofs.YtmbdhngoldganaaGreatDoor.Sh
namespace Go.Proofs.YtmbdhngoldganaaGreatDoor.Sh
open Go.Shelf Go.RowKit Go.Lib
def repRen : Go.Shelf.Ren := ⟨fun | 105 => 200 | 212 => 215 | 99 => 216 | 165 => 217 | 166 => 218 | 170 => 219 | 169 => 220 | 263 => 228 | 264 => 229 | 206 => 195 | 240 => 230 | 241 => 231 | 276 => 233 | 277 => 234 | n => n, fun | 9 => 9 | 3 => 3 | 4 => 4 | 20 => 20 | 0 => 0 | 46 => 212 | 109 => 282 | 5 => 5 | 72 => 286 | 76 => 289 | 51 => 235 | 146 => 297 | 53 => 36 | 148 => 299 | 70 => 284 | 37 => 171 | 75 => 288 | 127 => 301 | 164 => 305 | 80 => 35 | n => n, fun | n => n⟩
theorem repLays : Go.Proofs.Lays.n105 Tryz.prog repRen := {
  mixed := by kernel_rfl
  f99 := Tryz.func216.trans (congrArg some (by kernel_rfl))
  f105 := Tryz.func200.trans (congrArg some (by kernel_rfl))
  f165 := Tryz.func217.trans (congrArg some (by kernel_rfl))
  f166 := Tryz.func218.trans (congrArg some (by kernel_rfl))
  f169 := Tryz.func220.trans (congrArg some (by kernel_rfl))
  f170 := Tryz.func219.trans (congrArg some (by kernel_rfl))
  f206 := Tryz.func195.trans (congrArg some (by kernel_rfl))
  f212 := Tryz.func215.trans (congrArg some (by kernel_rfl))
  f240 := Tryz.func230.trans (congrArg some (by kernel_rfl))
  f241 := Tryz.func231.trans (congrArg some (by kernel_rfl))
  f263 := Tryz.func228.trans (congrArg some (by kernel_rfl))
  f264 := Tryz.func229.trans (congrArg some (by kernel_rfl))
  f276 := Tryz.func233.trans (congrArg some (by kernel_rfl))
  f277 := Tryz.func234.trans (congrArg some (by kernel_rfl))
  t0 := Tryz.underlying0
  a0 := Tryz.isAgg0
  z0 := Tryz.sizeOf0
  v0 := Tryz.zeroValue0
  t3 := Tryz.underlying3
  a3 := Tryz.isAgg3
  z3 := Tryz.sizeOf3
  v3 := Tryz.zeroValue3
  t4 := Tryz.underlying4
  a4 := Tryz.isAgg4
  z4 := Tryz.sizeOf4
  v4 := Tryz.zeroValue4
  t5 := Tryz.underlying5
  a5 := Tryz.isAgg5
  z5 := Tryz.sizeOf5
  v5 := Tryz.zeroValue5
  t9 := Tryz.underlying9
  a9 := Tryz.isAgg9
  z9 := Tryz.sizeOf9
  v9 := Tryz.zeroValue9
  t20 := Tryz.underlying20
  a20 := Tryz.isAgg20
  z20 := Tryz.sizeOf20
  v20 := Tryz.zeroValue20
  t37 := Tryz.underlying171
  a37 := Tryz.isAgg171
  z37 := Tryz.sizeOf171
  v37 := Tryz.zeroValue171
  t46 := Tryz.underlying212
  a46 := Tryz.isAgg212
  z46 := Tryz.sizeOf212
  v46 := Tryz.zeroValue212
  t51 := Tryz.underlying235
  a51 := Tryz.isAgg235
  z51 := Tryz.sizeOf235
  v51 := Tryz.zeroValue235
  t53 := Tryz.underlying36
  a53 := Tryz.isAgg36
  z53 := Tryz.sizeOf36
  v53 := Tryz.zeroValue36
  t70 := Tryz.underlying284
  a70 := Tryz.isAgg284
  z70 := Tryz.sizeOf284
  v70 := Tryz.zeroValue284
  t72 := Tryz.underlying286
  a72 := Tryz.isAgg286
  z72 := Tryz.sizeOf286
  v72 := Tryz.zeroValue286
  t75 := Tryz.underlying288
  a75 := Tryz.isAgg288
  z75 := Tryz.sizeOf288
  v75 := Tryz.zeroValue288
  t76 := Tryz.underlying289
  a76 := Tryz.isAgg289
  z76 := Tryz.sizeOf289
  v76 := Tryz.zeroValue289
  t109 := Tryz.underlying282
  a109 := Tryz.isAgg282
  z109 := Tryz.sizeOf282
  v109 := Tryz.zeroValue282
  t127 := Tryz.underlying301
  a127 := Tryz.isAgg301
  z127 := Tryz.sizeOf301
  v127 := Tryz.zeroValue301
  t146 := Tryz.underlying297
  a146 := Tryz.isAgg297
  z146 := Tryz.sizeOf297
  v146 := Tryz.zeroValue297
  t148 := Tryz.underlying299
  a148 := Tryz.isAgg299
  z148 := Tryz.sizeOf299
  v148 := Tryz.zeroValue299
  t164 := Tryz.underlying305
  a164 := Tryz.isAgg305
  z164 := Tryz.sizeOf305
  v164 := Tryz.zeroValue305 }
theorem repExtra : Builder.Extra Tryz.prog repRen := {
  sizeBuilder := by kernel_rfl
  liesBuilder := by kernel_rfl
  t5 := Tryz.underlying5
  a5 := Tryz.isAgg5
  z5 := Tryz.sizeOf5
  v5 := Tryz.zeroValue5
  infoByte := by kernel_rfl
  cellsByte := by kernel_rfl
  sizeByte := by kernel_rfl
  neB5 := by decide }
theorem repeat_any (s : ByteArray) (c : Nat) (w : World) (hc : c ≤ 9223372036854775807) (hlen : s.size * c ≤ 140737488355328) :
    Calls Tryz.prog 200 #[.string s, .int .i64 c] w fun e w' => e = .returned (.string ⟨(Lib.repeatL s.data.toList c).toArray⟩) ∧ Below w.heap.size w w' := Any.strings_Repeat repLays repExtra s c w hc hlen
end Go.Proofs.YtmbdhngoldganaaGreatDoor.Sh
namespace Go.Proofs.YtmbdhngoldganaaGreatDoor.Sh
open Go.RowKit

/-- How many noughts. -/
def noughts (t : Nat) : Nat := (64 - (t + 9) % 64) % 64
/-- What fills a text of t bytes up. -/
def padL (t : Nat) : List UInt8 := (128 : UInt8) :: (List.replicate (noughts t) 0 ++ be (8 * t) 8)

set_option maxRecDepth 100000 in
set_option maxHeartbeats 400000 in
theorem ending_any (t : Nat) (w : World) (ht : t ≤ 1099511627776) :
    Calls Tryz.prog 189 #[.int .u64 t] w fun e w' => e = .returned (.string ⟨(padL t).toArray⟩) ∧ Below w.heap.size w w' := by
  go_enter Tryz.func189, Tryz.ntmps189
  go_wp2_with fail
  have hN : noughts t < 64 := by unfold noughts; omega
  rw [show (-(((t : Int) + 1 + 8) % 64) % 64) = ((noughts t : Nat) : Int) from by unfold noughts; omega]
  refine (repeat_any _ _ _ (by omega) (by rw [show (ByteArray.mk #[0]).size = 1 from rfl]; omega)).mono ?_
  rintro e w1 ⟨rfl, hw1⟩
  rw [show (Lib.repeatL (ByteArray.mk #[0]).data.toList (noughts t)) = List.replicate (noughts t) 0 from by
    have := Lib.repeatL_replicate 0 1 (noughts t)
    rw [Nat.mul_one] at this
    exact this]
  obtain ⟨zs, hzs⟩ : ∃ zs, zs = List.replicate (noughts t) (0 : UInt8) := ⟨_, rfl⟩
  rw [← hzs]
  have hl : zs.length ≤ 64 := by rw [hzs, List.length_replicate]; omega
  have HZ : Hid (zs = List.replicate (noughts t) (0 : UInt8)) := hzs
  clear hzs hN
  go_wp2_with fail
  rw [show (8 * (t : Int)) = ((8 * t : Nat) : Int) from by omega]
  refine (number_any (8 * t) 8 _ (by omega) (by omega)).mono ?_
  rintro e w2 ⟨rfl, hw2⟩
  obtain ⟨bs, hbs⟩ : ∃ bs, bs = be (8 * t) 8 := ⟨_, rfl⟩
  rw [← hbs]
  have hl2 : bs.length ≤ 8 := by rw [hbs]; simp [be]
  have HB : Hid (bs = be (8 * t) 8) := hbs
  clear hbs
  go_wp2_with fail
  go_ret
  refine ⟨?_, hw1.trans (hw2.mono hw1.size)⟩
  unfold padL
  rw [← HZ.out, ← HB.out]
  show Ending.returned (.string _) = _
  rw [ByteArray.mk_append_mk, ByteArray.mk_append_mk]
  simp
end Go.Proofs.YtmbdhngoldganaaGreatDoor.Sh
