/- What the library does that a replica calls: slices.Sort and slices.Equal of numbers, as the library of contracts has it, at the numbers of this program. The greatest index that more than half have. -/
import Derived.Shelf.Sort.Plain
import Derived.Shelf.Slices.Equal
import Derived.Shelf.Slices.In.SortNone
import Derived.Shelf.Slices.Empties2
import Derived.Test.YtnhlejdilldfaaaGreatChecked
import Derived.Test.YtnhlejdilldfaaaGreatRme
namespace Go.Proofs.YtnhlejdilldfaaaGreat
open Go.Shelf
def lays189_ren : Go.Shelf.Ren := ⟨fun | 189 => 126 | 125 => 130 | 257 => 129 | 128 => 140 | 129 => 141 | 294 => 131 | 295 => 132 | 296 => 133 | 297 => 134 | 298 => 135 | 299 => 136 | 216 => 137 | 300 => 138 | 301 => 139 | 328 => 142 | 329 => 143 | 330 => 144 | 331 => 145 | 332 => 146 | 215 => 147 | 343 => 148 | n => n, fun | 28 => 23 | 3 => 3 | 46 => 119 | 0 => 0 | 51 => 154 | 53 => 86 | 4 => 4 | 183 => 148 | 182 => 147 | 131 => 120 | 5 => 5 | 9 => 9 | 218 => 156 | 222 => 160 | 228 => 162 | 229 => 163 | n => n, fun | n => n⟩
theorem lays189 : Go.Proofs.Lays.n189 Tryz.prog lays189_ren := {
  mixed := by kernel_rfl
  f125 := Tryz.func130.trans (congrArg some (by kernel_rfl))
  f128 := Tryz.func140.trans (congrArg some (by kernel_rfl))
  f129 := Tryz.func141.trans (congrArg some (by kernel_rfl))
  f189 := Tryz.func126.trans (congrArg some (by kernel_rfl))
  f215 := Tryz.func147.trans (congrArg some (by kernel_rfl))
  f216 := Tryz.func137.trans (congrArg some (by kernel_rfl))
  f257 := Tryz.func129.trans (congrArg some (by kernel_rfl))
  f294 := Tryz.func131.trans (congrArg some (by kernel_rfl))
  f295 := Tryz.func132.trans (congrArg some (by kernel_rfl))
  f296 := Tryz.func133.trans (congrArg some (by kernel_rfl))
  f297 := Tryz.func134.trans (congrArg some (by kernel_rfl))
  f298 := Tryz.func135.trans (congrArg some (by kernel_rfl))
  f299 := Tryz.func136.trans (congrArg some (by kernel_rfl))
  f300 := Tryz.func138.trans (congrArg some (by kernel_rfl))
  f301 := Tryz.func139.trans (congrArg some (by kernel_rfl))
  f328 := Tryz.func142.trans (congrArg some (by kernel_rfl))
  f329 := Tryz.func143.trans (congrArg some (by kernel_rfl))
  f330 := Tryz.func144.trans (congrArg some (by kernel_rfl))
  f331 := Tryz.func145.trans (congrArg some (by kernel_rfl))
  f332 := Tryz.func146.trans (congrArg some (by kernel_rfl))
  f343 := Tryz.func148.trans (congrArg some (by kernel_rfl))
  t0 := Tryz.underlying0
  a0 := Tryz.isAgg0
  z0 := Tryz.sizeOf0
  v0 := Tryz.zeroValue0
  t3 := Tryz.underlying3
  a3 := Tryz.isAgg3
  z3 := Tryz.sizeOf3
  v3 := Tryz.zeroValue3
  t4 := Tryz.underlying4
  a4 := Tryz.isAgg4
  z4 := Tryz.sizeOf4
  v4 := Tryz.zeroValue4
  t5 := Tryz.underlying5
  a5 := Tryz.isAgg5
  z5 := Tryz.sizeOf5
  v5 := Tryz.zeroValue5
  t9 := Tryz.underlying9
  a9 := Tryz.isAgg9
  z9 := Tryz.sizeOf9
  v9 := Tryz.zeroValue9
  t28 := Tryz.underlying23
  a28 := Tryz.isAgg23
  z28 := Tryz.sizeOf23
  v28 := Tryz.zeroValue23
  t46 := Tryz.underlying119
  a46 := Tryz.isAgg119
  z46 := Tryz.sizeOf119
  v46 := Tryz.zeroValue119
  t51 := Tryz.underlying154
  a51 := Tryz.isAgg154
  z51 := Tryz.sizeOf154
  v51 := Tryz.zeroValue154
  t53 := Tryz.underlying86
  a53 := Tryz.isAgg86
  z53 := Tryz.sizeOf86
  v53 := Tryz.zeroValue86
  t131 := Tryz.underlying120
  a131 := Tryz.isAgg120
  z131 := Tryz.sizeOf120
  v131 := Tryz.zeroValue120
  t182 := Tryz.underlying147
  a182 := Tryz.isAgg147
  z182 := Tryz.sizeOf147
  v182 := Tryz.zeroValue147
  t183 := Tryz.underlying148
  a183 := Tryz.isAgg148
  z183 := Tryz.sizeOf148
  v183 := Tryz.zeroValue148
  t218 := Tryz.underlying156
  a218 := Tryz.isAgg156
  z218 := Tryz.sizeOf156
  v218 := Tryz.zeroValue156
  t222 := Tryz.underlying160
  a222 := Tryz.isAgg160
  z222 := Tryz.sizeOf160
  v222 := Tryz.zeroValue160
  t228 := Tryz.underlying162
  a228 := Tryz.isAgg162
  z228 := Tryz.sizeOf162
  v228 := Tryz.zeroValue162
  t229 := Tryz.underlying163
  a229 := Tryz.isAgg163
  z229 := Tryz.sizeOf163
  v229 := Tryz.zeroValue163 }
open Go.Sort Go.RowKit in
theorem slices_Sort_int (blk off cap : Nat) (zs : List Int) (w : World) (hH : Holds (Value.int .i64) w blk off zs.toArray) (hblk : blk < w.heap.size) (hsz : zs.length < 4611686018427387904) :
    Calls Tryz.prog 126 #[.slice (some ⟨blk, off, none⟩) zs.length cap] w fun e w' =>
      e = .returned (.tuple #[]) ∧ ∃ n os, w' = grow (putRow (Value.int .i64) (Sort.ahead w n) blk off (zs.mergeSort fun x y => decide (x ≤ y)).toArray) os := Any.slices_Sort_int lays189 blk off cap zs w hH hblk hsz
open Go.RowKit Go.Sort in
theorem slices_Sort_int_none (p : Option Addr) (cap : Nat) (w : World) :
    Calls Tryz.prog 126 #[.slice p 0 cap] w fun e w' => e = .returned (.tuple #[]) ∧ w' = w := Any.slices_Sort_int_none lays189 p cap w
end Go.Proofs.YtnhlejdilldfaaaGreat
namespace Go.Proofs.YtnhlejdilldfaaaGreat
open Go Go.RowKit Go.Maps
abbrev nmV (l : List Int) : List Value := l.map fun x => .int .i64 x
theorem VS.holds {α : Type} [Inhabited α] {enc : α → Value} {w : World} {t : TypeId} {g cap : Nat} {l : List α} (h : VS w t g cap (l.map enc)) : Go.Sort.Holds enc w g 0 l.toArray := by
  obtain ⟨cur, fr, h1, h2, h3, h4, h5⟩ := h.out
  intro j hj
  have hj' : j < l.length := by simpa using hj
  rw [List.length_map] at h2
  refine ⟨?_, ?_⟩
  · rw [Nat.zero_add]
    refine h.cell j _ ?_
    rw [List.getElem?_map, List.getElem?_eq_getElem hj', getElem!_pos l.toArray j hj]
    simp
  · rw [Nat.zero_add]
    simp only [World.frozen?, h1]
    rcases h4 with h4 | h4
    · rw [h4]; simp
    · simp; intro h; omega
theorem VS.put {α : Type} [Inhabited α] {enc : α → Value} {w : World} {t : TypeId} {g cap n : Nat} {l l' : List α} (h : VS w t g cap (l.map enc)) (hl : l'.length = l.length) : VS (Go.Sort.putRow enc (Go.Sort.ahead w n) g 0 l'.toArray) t g cap (l'.map enc) := by
  obtain ⟨cur, fr, h1, h2, h3, h4, h5⟩ := h.out
  rw [List.length_map] at h2
  have hh : (Go.Sort.putRow enc (Go.Sort.ahead w n) g 0 l'.toArray).heap[g]? = some (.cells (Go.Sort.putCells enc 0 l'.toArray cur) t fr) := by
    unfold Go.Sort.putRow Go.Sort.mapBlock
    show ((Go.Sort.ahead w n).heap.modify g _)[g]? = _
    have : (Go.Sort.ahead w n).heap[g]? = some (.cells cur t fr) := h1
    rw [Array.getElem?_modify, if_pos rfl, this]
    rfl
  have hz : (Go.Sort.putCells enc 0 l'.toArray cur).size = cur.size := by simp [Go.Sort.putCells]
  refine ⟨_, fr, hh, by rw [List.length_map]; omega, by rw [hz]; exact h3, by rw [hz]; exact h4, ?_⟩
  intro j v hv
  have hj := (List.getElem?_eq_some_iff.1 hv).1
  rw [List.length_map] at hj
  unfold Go.Sort.putCells
  rw [Array.getElem?_mapIdx, Array.getElem?_eq_getElem (by omega), Option.map_some, if_pos ⟨by omega, by simpa using hj⟩]
  rw [List.getElem?_map, List.getElem?_eq_getElem hj] at hv
  rw [← hv, Nat.sub_zero, getElem!_pos l'.toArray j (by simpa using hj)]
  simp
theorem below_put {α : Type} [Inhabited α] {enc : α → Value} {B g n : Nat} {w : World} {d : Array α} (hg : B ≤ g) : Below B w (Go.Sort.putRow enc (Go.Sort.ahead w n) g 0 d) := by
  refine ⟨rfl, rfl, rfl, Nat.le_of_eq (Go.Sort.size_putRow enc _ g 0 d).symm, fun k hk => ?_⟩
  unfold Go.Sort.putRow Go.Sort.mapBlock
  show ((Go.Sort.ahead w n).heap.modify g _)[k]? = _
  rw [Array.getElem?_modify, if_neg (by omega)]
  rfl
/-- What DeleteFunc leaves for Without. -/

theorem below_growW (w : World) (os : Array Obj) : Below w.heap.size w (Go.Sort.grow w os) := ⟨rfl, rfl, rfl, by show w.heap.size ≤ (w.heap ++ os).size; rw [Array.size_append]; omega, fun k hk => by
  show (w.heap ++ os)[k]? = _
  rw [Array.getElem?_append_left hk]⟩
def srt (l : List Int) : List Int := l.mergeSort fun a b => decide (a ≤ b)
theorem srt_len (l : List Int) : (srt l).length = l.length := List.length_mergeSort l
/-- A slice of numbers of one's own is sorted. -/
theorem sort_own (l : List Int) (B : Nat) (a : Option Addr) (c : Nat) (w : World) (hV : VL w 3 B (.slice a l.length c) (nmV l)) (hl : l.length ≤ 1000000) :
    Calls Tryz.prog 126 #[.slice a l.length c] w fun e w' => e = .returned (.tuple #[]) ∧ Below B w w' ∧ IA w' a (srt l) := by
  rcases hV with ⟨h1, h2⟩ | ⟨g, cap, h1, h2, hS⟩
  · obtain rfl : l = [] := List.map_eq_nil_iff.1 h1
    cases h2
    refine (slices_Sort_int_none none 0 w).mono ?_
    rintro e w' ⟨rfl, rfl⟩
    exact ⟨rfl, Below.refl _ _, fun i x hx => by
      have : (srt [])[i]? = none := by rw [List.getElem?_eq_none]; rw [srt_len]; exact Nat.zero_le _
      rw [this] at hx; cases hx⟩
  · simp only [Value.slice.injEq, List.length_map] at h2
    obtain ⟨rfl, _, rfl⟩ := h2
    refine (slices_Sort_int g 0 c l w hS.holds hS.lt (by omega)).mono ?_
    rintro e w' ⟨rfl, n, os, rfl⟩
    have hp := hS.put (n := n) (srt_len l)
    have hb := below_put (α := Int) (enc := fun x => .int .i64 x) (B := B) (g := g) (n := n) (w := w) (d := (srt l).toArray) h1
    refine ⟨rfl, hb.trans ((below_growW _ os).mono (by rw [Go.Sort.size_putRow]; exact Nat.le_trans h1 (Nat.le_of_lt hS.lt))), fun j x hx => ⟨g, 0, rfl, ?_⟩⟩
    rw [Nat.zero_add]
    exact (hp.below (below_growW _ os)).cell j _ (by rw [List.getElem?_map, hx]; rfl)
/-- What the first i are known to have. -/
def hvN (N : RN) (l : List Int) (i : Nat) : List Int := (l.take i).map N.hadBy
theorem hvN_step {N : RN} {l : List Int} {i : Nat} (h : i < l.length) : hvN N l (i + 1) = hvN N l i ++ [N.hadBy (l.getD i 0)] := by
  unfold hvN
  rw [take_getD h, List.map_append]
  rfl
theorem hvN_len {N : RN} {l : List Int} {i : Nat} (h : i ≤ l.length) : (hvN N l i).length = i := by unfold hvN; rw [List.length_map, List.length_take]; omega
theorem mostHave_eq (N : RN) : N.mostHave = (srt (hvN N N.mems N.mems.length)).getD (N.mems.length - (N.mems.length / 2 + 1)) 0 := by
  have : (List.mergeSort (N.mems.map N.hadBy) fun a b => decide (a ≤ b)).length = N.mems.length := by rw [List.length_mergeSort, List.length_map]
  unfold RN.mostHave hvN srt
  rw [List.take_length]
  simp only [this]
section
variable (F : Nat → Prop) (nb : Nat) (M : NM) (lb : Option Nat) (w : World) (N : RN)
set_option maxRecDepth 100000 in
set_option maxHeartbeats 1000000 in
theorem mostHave_any (h : ND F nb M lb w N) (hb : Bnd N) (hg : Gm N) (hn : N.mems ≠ []) : Calls Tryz.prog 121 #[.pointer (some ⟨nb, 0, none⟩)] w fun e w' => e = .returned (.int .i64 N.mostHave) ∧ Below w.heap.size w w' := by
  have HM := membersN F nb M lb w N h hb
  have hml := hg.mems
  have hn0 := List.length_pos_iff.2 hn
  rw [mostHave_eq N]
  have HHa := fun x W (hW : ND F nb M lb W N) => hadBy_any F nb M lb W N hW hb x
  generalize N.mems = L at *
  obtain ⟨ii, hi, hz, hs, hby⟩ := infoI
  go_enter Tryz.func121, Tryz.ntmps121
  go_wp2_with (go_at_call 36; refine HM.mono ?_; rintro e w1 ⟨a, c, rfl, hI, hw1⟩; clear HM)
  go_loopw [3, 9] (fun v3 v9 wl => ∃ i : Nat, i ≤ L.length ∧ v9 = .int .i64 i ∧ Below w1.heap.size w1 wl ∧ VL wl 3 w1.heap.size v3 (nmV (hvN N L i))) (fun _ v9 _ => L.length - (intOf v9).toNat)
  case atStart => exact ⟨0, by omega, rfl, Below.refl _ _, VL.nil _ _ _⟩
  case round =>
    obtain ⟨i, hil, rfl, hw2, hV⟩ := hrel
    have hIA := hI.ia.below hw2
    by_cases hlt : i < L.length
    · obtain ⟨g, o, rfl⟩ := hIA.ex (by omega)
      have ci := hIA.cell hlt
      have h1 := h.below (bl_ca hw1 hw2)
      have hz1 : (0 : Int) ≤ (i : Int) := by omega
      have hz2 : (i : Int) < (L.length : Int) := by omega
      have hz3 : i < L.length := hlt
      have hw3 : IntKind.i64.wrap ((i : Int) + 1) = ((i + 1 : Nat) : Int) := by rw [IntKind.wrap_i64]; omega
      have hmem : L.getD i 0 ∈ L := by
        rw [List.getD_eq_getElem?_getD, List.getElem?_eq_getElem hlt]; exact List.getElem_mem hlt
      have hx16 := hml.2 _ hmem
      have hst := hvN_step (N := N) hlt
      have hlen := hvN_len (N := N) hil
      have hlV : (nmV (hvN N L i)).length ≤ 1000000 := by rw [List.length_map]; omega
      generalize L.getD i 0 = x at *
      have hxwf : (Lit.int .i64 x).wf = true := WalkArith.wf_i64 (by omega)
      have HHx := HHa x _ h1 hxwf
      have hst2 : Hid (hvN N L (i + 1) = hvN N L i ++ [N.hadBy x]) := hst
      clear hst hmem hlen
      generalize N.hadBy x = y at *
      have hlo := hw2.size
      go_wp2_with (first
        | (go_at_call 125; refine HHx.mono ?_; rintro e w3 ⟨rfl, hw3b⟩; clear HHx; have hV3 := hV.below hw3b; have hlo3 := Nat.le_trans hlo hw3b.size)
        | (with_reducible refine at_list ?_; first
          | (refine wpList_bsl1I (op := ⟨some 17, _, _, _, _, _⟩) rfl _ rfl y rfl ?_; intro w4 hw4 hs4 hB4; have hV4 := hV3.below hw4; have hlo4 := Nat.le_trans hlo3 hw4.size)
          | (refine wpList_appendVL (op := ⟨some 18, _, _, _, _, _⟩) rfl _ _ _ 3 rfl w1.heap.size u3 (nmV (hvN N L i)) hlo4 rfl hV4 w3.heap.size 1 rfl (.int .i64 y) 3 rfl hB4 ii (.int .i64 0) rfl Tryz.underlying23 hi hz hs hby hlV ?_; intro w5 v5 hw5 hV5)))
      have hb5 := (hw2.trans ((hw3b.mono hlo).trans (hw4.mono hlo3))).trans hw5
      go_roundw
      case rel => exact ⟨i + 1, by omega, by go_num, hb5, by rw [hst2.out]; unfold nmV; rw [List.map_append]; exact hV5⟩
      case measure => simp [intOf]; omega
    · obtain rfl : i = L.length := by omega
      have hz2 : ¬ ((L.length : Int) < (L.length : Int)) := by omega
      have hlen := hvN_len (N := N) hil
      obtain ⟨V, hVe⟩ : ∃ V, Hid (hvN N L L.length = V) := ⟨_, rfl⟩
      rw [hVe.out] at hV hlen
      obtain ⟨va, vc, rfl, hIV⟩ := hV.ia
      have HS := sort_own V w1.heap.size va vc _ hV (by rw [hlen]; omega)
      have HMo := fun W => hmost_any L.length (by omega) W
      rw [hlen] at HS
      have hk : L.length - (L.length / 2 + 1) < (srt V).length := by rw [srt_len, hlen]; omega
      have hw4 : IntKind.i64.wrap ((L.length : Int) - ((L.length / 2 + 1 : Nat) : Int)) = ((L.length - (L.length / 2 + 1) : Nat) : Int) := by rw [IntKind.wrap_i64]; omega
      have hw4' : IntKind.i64.wrap ((L.length : Int) - ((L.length : Int) / 2 + 1)) = ((L.length - (L.length / 2 + 1) : Nat) : Int) := by rw [IntKind.wrap_i64]; omega
      have hkn : L.length - (L.length / 2 + 1) < L.length := by omega
      obtain ⟨g0, o0, rfl⟩ := hIV.ex (by rw [hlen]; omega)
      have HIx := fun W (hA : IA W (some ⟨g0, o0, none⟩) (srt V)) => hA.cell hk
      have hsl : Hid ((srt V).length = L.length) := (srt_len V).trans hlen
      clear hV hIV hk
      rw [hlen]
      clear hlen hil
      have hfin : Hid ((srt V).getD (L.length - (L.length / 2 + 1)) 0 = (srt (hvN N L L.length)).getD (L.length - (L.length / 2 + 1)) 0) := by show _ = _; rw [hVe.out]
      generalize hU : srt V = U at HS HIx hsl hfin
      generalize hK : L.length - (L.length / 2 + 1) = k at HIx hw4 hw4' hkn
      rw [hK] at hfin
      replace hK : Hid (L.length - (L.length / 2 + 1) = k) := hK
      clear hU
      have hz3 : (0 : Int) ≤ (k : Int) := by omega
      have hz4 : (k : Int) < (L.length : Int) := by omega
      go_wp2_with (first
        | (go_at_call 126; refine HS.mono ?_; rintro e w3 ⟨rfl, hw3b, hIA3⟩; clear HS; have cx := HIx _ hIA3)
        | (go_at_call 124; refine (HMo _).mono ?_; rintro e w4 ⟨rfl, hw4e⟩; replace hw4e := hw4e.symm; subst hw4e; clear HMo))
      go_ret
      refine ⟨?_, bl_ca hw1 (hw2.trans hw3b)⟩
      have hff := hfin.out
      rw [← hK.out] at hff
      rw [← hff, hK.out, List.getD_eq_getElem?_getD]
      rfl
end
end Go.Proofs.YtnhlejdilldfaaaGreat
