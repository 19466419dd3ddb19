/- Appending more than one thing to a slice; two steps put behind others. The numbers of the segments of a disk that holds a generation. The memory of mend between two rounds. Laws at a list of operations: two functions laid in a slice, two put behind others; regions that draw, one operation at a time. -/
import Derived.Test.YtaiiojbakmminaaGreatDoorLft
import Derived.Test.YtaiiojbakmminaaGreatDoorWdx
namespace Go.Proofs.YtaiiojbakmminaaGreatDoor
open Go Go.RowKit
section
variable {P : Program} {ops : Array Oper} {rest : List Oper} {op : Oper} {a : Act} {w : World} {Q : Exit → Act → World → Prop} {K : Act → World → Prop} {E : Prop}
theorem run_appendGLs (st ty t : TypeId) (k lo : Nat) (sl : Value) (l : List (List Value)) (hlo : lo ≤ w.heap.size) (hsl : GL w t k lo sl l) (g2 c : Nat) (os : List (List Value)) (hos : ∀ x ∈ os, x.length = k) (hom : os.length ≤ 1000) (ho0 : 0 < os.length) (o : List Value) (hoe : o = os.flatten) (ho1 : ∀ u ∈ o, u.oneCell' = true) (t2 : TypeId) (hb2 : Blk w g2 o.toArray t2) (i : TypeInfo) (z : Value) (hz1 : z.cells.size = k)
    (hu : P.underlying st = some (.slice t)) (hi : P.info? t = some i) (hz : i.zero = some z) (hs : i.size = k) (hby : i.bytes ≤ 256) (hlen : l.length ≤ 1000000) :
    ∃ (w1 : World) (sl1 : Value), (Builtin.append_ #[st, st] ty #[sl, .slice (some ⟨g2, 0, none⟩) os.length c]).run P w = .ok sl1 w1 ∧ w.grownBy w1 (slBlk sl) ∧ GL w1 t k lo sl1 (l ++ os) ∧ (∀ r, slBlk sl1 = some r → slBlk sl = some r ∨ w.heap.size ≤ r) := by
  have hok : o.length = os.length * k := by rw [hoe]; exact flat_len hos
  have hsrc : Src P i.size st (.slice (some ⟨g2, 0, none⟩) os.length c) os.length o w :=
    Src.ofSlice w hu ⟨g2, 0, none⟩ os.length c _ (by rw [hs]; exact hok) (fun j u hj => by
      rw [Addr.add_mid, Nat.zero_add, hb2.cell]
      simpa using hj)
      ho1
  have hall : ∀ x ∈ l ++ os, x.length = k := fun x hx => by
    rcases List.mem_append.1 hx with hx | hx
    · exact hsl.1 x hx
    · exact hos x hx
  have hfl := flat_len hsl.1
  have hfs : (l ++ os).flatten = l.flatten ++ o := by rw [List.flatten_append, hoe]
  have hgrow : ∀ (base : Option Addr) (cap : Nat), cap < l.length + os.length → (Builtin.firstCells i.size l.length (.slice base l.length cap)).run P w.drew = .ok l.flatten.toArray w.drew →
      ∃ (w1 : World) (sl1 : Value), (Builtin.append_ #[st, st] ty #[.slice base l.length cap, .slice (some ⟨g2, 0, none⟩) os.length c]).run P w = .ok sl1 w1 ∧ w.grownBy w1 (slBlk (.slice base l.length cap)) ∧ GL w1 t k lo sl1 (l ++ os) ∧ (∀ r, slBlk sl1 = some r → slBlk (.slice base l.length cap) = some r ∨ w.heap.size ≤ r) := by
    intro base cap hcap hold
    have hr := run_append_grow_src (P := P) w st st ty t i _ hu hi hz base l.length cap _ hold _ os.length _ hsrc hcap (by omega) (growslice_fits hcap (Nat.le_trans (Nat.mul_le_mul (show l.length + os.length ≤ 1001000 by omega) hby) (by decide)))
    have hge : l.length + os.length ≤ grownCap w (l.length + os.length) cap t := grownCap_ge w _ _ _
    refine ⟨_, _, hr, grown_of_below ((Below.refl w.heap.size w).drew.alloc (Nat.le_refl _) _), ⟨hall, .inr ⟨w.heap.size, _, hlo, by rw [List.length_append], ?_⟩⟩, fun r hr2 => .inr (Nat.le_of_eq (Option.some.inj hr2))⟩
    refine ⟨_, heap_alloc_last w.drew _, by rw [List.length_append]; exact hge, ?_, ?_⟩
    · simp only [Array.size_append, List.size_toArray, List.length_append, hfl, hok, size_zeroCells, hz1]
      have h9 : grownCap w (l.length + os.length) cap t * k = l.length * k + os.length * k + (grownCap w (l.length + os.length) cap t - (l.length + os.length)) * k := by
        rw [Nat.sub_mul, Nat.add_mul]
        have := Nat.mul_le_mul_right k hge
        rw [Nat.add_mul] at this
        omega
      omega
    · intro j v hj
      rw [hfs] at hj
      have hjl := (List.getElem?_eq_some_iff.1 hj).1
      rw [Array.getElem?_append_left (by simpa using hjl)]
      simpa using hj
  rcases hsl.2 with ⟨rfl, rfl⟩ | ⟨g, cap, hg, rfl, hS⟩
  · exact hgrow none 0 (by simpa using ho0) (run_firstCells_none (w := w.drew) i.size 0 0 0)
  · by_cases hroom : l.length + os.length ≤ cap
    · obtain ⟨cur, h1, h2, h4, h5⟩ := hS.out
      have hmul : l.length * k + os.length * k ≤ cur.size := by
        have := Nat.mul_le_mul_right k hroom
        rw [Nat.add_mul] at this
        omega
      have hcell : ∀ j, j < o.length → (w.cell? ⟨g, l.length * k + j, none⟩).isSome = true := fun j hj => by
        simp only [World.cell?, h1]
        rw [Array.getElem?_eq_getElem (by omega)]; rfl
      have hfro : ∀ j, j < o.length → w.frozen? ⟨g, l.length * k + j, none⟩ = false := fun j hj => by
        simp [World.frozen?, h1]
      have hr := run_append_room_src (P := P) w st st ty t i hu hi g 0 l.length cap _ os.length _ hsrc hroom
        (fun j hj => by rw [hs, Nat.zero_add]; exact hcell j hj)
        (fun j hj => by rw [hs, Nat.zero_add]; exact hfro j hj)
      rw [hs, Nat.zero_add] at hr
      have hgr := grown_setCells g o (l.length * k) w
      refine ⟨_, _, hr, hgr, ⟨hall, .inr ⟨g, cap, hg, by rw [List.length_append], ?_⟩⟩, fun r hr2 => .inl hr2⟩
      have hblk : Blk w g cur t := ⟨h1⟩
      refine ⟨_, (hblk.setCells o (l.length * k)).out, by rw [List.length_append]; exact hroom, by rw [spl_size]; exact h4, ?_⟩
      intro j v hj
      rw [spl_get _ _ _ _ (by rw [hok]; exact hmul), hok]
      rw [hfs] at hj
      by_cases hjl : j < l.length * k
      · rw [if_neg (by omega)]
        rw [List.getElem?_append_left (by rw [hfl]; exact hjl)] at hj
        exact h5 j v hj
      · have hj3 := (List.getElem?_eq_some_iff.1 hj).1
        rw [List.length_append, hfl, hok] at hj3
        rw [if_pos (by omega)]
        rw [List.getElem?_append_right (by rw [hfl]; omega), hfl] at hj
        exact hj
    · exact hgrow (some ⟨g, 0, none⟩) cap (by omega) (run_firstCells_some w.drew i.size l.length ⟨g, 0, none⟩ l.length cap _ (by rw [hfl, hs]) (fun j u hj => by
        rw [Addr.add_mid, Nat.zero_add]
        exact (GS.grown hS (row := none) (grown_of_below ((Below.refl w.heap.size w).drew)) (fun e => nomatch e)).cell j u hj))
end
/-- A slice of two functions. -/
theorem fsl2 (f f2 : Fn) (x y x2 y2 : Array Value) (w : World) : (Instr.buildSlice TFS 2 #[(0, .func f x y), (1, .func f2 x2 y2)]).run Tryz.prog w = .ok (.slice (some ⟨w.heap.size, 0, none⟩) 2 2) (w.alloc (.cells #[.func f x y, .func f2 x2 y2] TF)) := by
  have e : Array.range 2 = #[0, 1] := by decide
  simp [Instr.buildSlice, run_underlying Tryz.underlying97, sizeOf_run iFn, Sem.run_bind, Instr.fill, newRow, Value.cells, e]
end Go.Proofs.YtaiiojbakmminaaGreatDoor
namespace Go.Proofs.YtaiiojbakmminaaGreatDoor
open Go Go.RowKit
theorem oth_preg {g : Nat} {x : B} (h : Oth g x) (hg : g < 100) : Lib.hasPrefix x (segP g) = false := by
  cases e : Lib.hasPrefix x (segP g) with
  | false => rfl
  | true =>
    have e2 : x = segP g ++ x.drop (segP g).length := pre_eq e
    have e3 : Lib.hasPrefix x preS = true := by
      rw [e2]
      unfold segP
      rw [List.append_assoc, List.append_assoc]
      exact pre_app _ _
    cases h with
    | base k h1 h => rw [preS_base] at e3; cases e3
    | new k h => rw [preS_new] at e3; cases e3
    | seg k m hk hm hne => exact absurd (seg_pre hg hk e).symm hne
theorem base_preg (g : Nat) : Lib.hasPrefix (baseN g) (segP g) = false := by
  cases e : Lib.hasPrefix (baseN g) (segP g) with
  | false => rfl
  | true =>
    have e2 : baseN g = segP g ++ (baseN g).drop (segP g).length := pre_eq e
    have e3 : Lib.hasPrefix (baseN g) preS = true := by
      rw [e2]
      unfold segP
      rw [List.append_assoc, List.append_assoc]
      exact pre_app _ _
    rw [preS_base] at e3
    cases e3
/-- The numbers from 1 on. -/
def upI (n : Nat) : List Int := (List.range n).map fun (i : Nat) => ((i + 1 : Nat) : Int)
theorem upI_len (n : Nat) : (upI n).length = n := by simp [upI]
theorem upI_get {n i : Nat} (h : i < (upI n).length) : (upI n)[i] = ((i + 1 : Nat) : Int) := by simp [upI]
theorem dx_segn {P : PP} {g : Nat} {bt : B} {txs : List B} (h : Dx P g bt txs) {x : B × B} (hx : x ∈ P) (hp : Lib.hasPrefix x.1 (segP g) = true) : ∃ i, i < txs.length ∧ x.1 = segN g (i + 1) := by
  rcases h.only x hx with e | e | e
  · rw [e, base_preg] at hp; cases hp
  · exact e
  · rw [oth_preg e h.g2] at hp; cases hp
theorem dx_numk {P : PP} {g : Nat} {bt : B} {txs : List B} (h : Dx P g bt txs) {x : B × B} (hx : x ∈ P) {n : Nat} (hn : numK (segP g) x.1 = some n) : 1 ≤ n ∧ n ≤ txs.length ∧ x.1 = segN g n := by
  have hp : Lib.hasPrefix x.1 (segP g) = true := by
    cases e : Lib.hasPrefix x.1 (segP g) with
    | true => rfl
    | false => unfold numK at hn; rw [e] at hn; cases hn
  obtain ⟨i, hi, e⟩ := dx_segn h hx hp
  have h2 := h.n
  have e2 : numK (segP g) (segN g (i + 1)) = some (i + 1) := numK_app (by omega) (by omega)
  rw [e, e2] at hn
  cases hn
  exact ⟨by omega, by omega, e⟩
theorem dx_upI {P : PP} {g : Nat} {bt : B} {txs : List B} (h : Dx P g bt txs) : numsP (segP g) (namesL (mk P)) = upI txs.length := by
  have h2 := h.n
  rw [names_mk]
  have hnd : (fmI (segP g) (P.map (·.1))).Nodup := by
    unfold fmI
    rw [List.filterMap_map]
    have h3 : ((P.filterMap ((numK (segP g)) ∘ fun x => x.1)).Pairwise (· ≠ ·)) := by
      refine List.pairwise_filterMap.2 ?_
      refine (List.Pairwise.imp_of_mem ?_ h.ris)
      intro x y hx hy hlt n hn k hk e
      subst e
      have e1 := (dx_numk h hx hn).2.2
      have e2 := (dx_numk h hy hk).2.2
      rw [e1, e2] at hlt
      exact absurd hlt (List.lt_irrefl _)
    refine List.pairwise_map.2 (h3.imp ?_)
    intro a b hab e
    exact hab (Int.ofNat.inj e)
  have hnd2 : (upI txs.length).Nodup := by
    unfold upI
    refine List.pairwise_map.2 ((List.nodup_range (n := txs.length)).imp ?_)
    intro a b hab e
    have : a + 1 = b + 1 := Int.ofNat.inj e
    omega
  have hmem : ∀ z, z ∈ fmI (segP g) (P.map (·.1)) ↔ z ∈ upI txs.length := fun z => by
    constructor
    · intro hz
      obtain ⟨n, hn, rfl⟩ := List.mem_map.1 hz
      obtain ⟨y, hy, hy2⟩ := List.mem_filterMap.1 hn
      obtain ⟨x, hx, rfl⟩ := List.mem_map.1 hy
      obtain ⟨h4, h5, _⟩ := dx_numk h hx hy2
      refine List.mem_map.2 ⟨n - 1, List.mem_range.2 (by omega), ?_⟩
      rw [show n - 1 + 1 = n by omega]
      rfl
    · intro hz
      obtain ⟨i, hi, rfl⟩ := List.mem_map.1 hz
      have hi2 := List.mem_range.1 hi
      have h4 := h.seg i _ (List.getElem?_eq_getElem hi2)
      refine List.mem_map.2 ⟨i + 1, List.mem_filterMap.2 ⟨segN g (i + 1), List.mem_map.2 ⟨_, (getP_mem h.ris).1 h4, rfl⟩, ?_⟩, rfl⟩
      exact numK_app (by omega) (by omega)
  have hp : (fmI (segP g) (P.map (·.1))).Perm (upI txs.length) := (List.perm_ext_iff_of_nodup hnd hnd2).2 hmem
  have hs1 : (srtI (fmI (segP g) (P.map (·.1)))).Pairwise (fun x y : Int => x ≤ y) := (List.pairwise_mergeSort (le := fun x y : Int => decide (x ≤ y)) (fun a b c h1 h2 => by simp at *; omega) (fun a b => by simp; omega) _).imp (fun hh => by simpa using hh)
  have hs2 : (upI txs.length).Pairwise (fun x y : Int => x ≤ y) := by
    unfold upI
    refine List.pairwise_map.2 ((List.pairwise_lt_range (n := txs.length)).imp ?_)
    intro a b hab
    omega
  unfold numsP
  exact List.Perm.eq_of_pairwise (fun a b _ _ h1 h2 => by omega) hs1 hs2 ((List.mergeSort_perm _ _).trans hp)
theorem dx_nmsg {P : PP} {g : Nat} {bt : B} {txs : List B} (h : Dx P g bt txs) : Nms (segP g) (namesL (mk P)) := by
  have h2 := h.len
  have h3 := h.g2
  have h4 := h.n
  rw [names_mk]
  refine ⟨by rw [List.length_map]; omega, fun x hx => ?_, fun x hx hp z hz => ?_⟩
  · obtain ⟨y, hy, rfl⟩ := List.mem_map.1 hx
    have := (dx_wn h y hy).len
    omega
  · obtain ⟨y, hy, rfl⟩ := List.mem_map.1 hx
    obtain ⟨i, hi, e⟩ := dx_segn h hy hp
    rw [e, show segN g (i + 1) = segP g ++ dg (i + 1) from rfl, trim_app, dg_atoi (by omega)] at hz
    cases hz
    omega
end Go.Proofs.YtaiiojbakmminaaGreatDoor
namespace Go.Proofs.YtaiiojbakmminaaGreatDoor
open Go Go.RowKit
/-- The boxes of the numbers that go. -/
structure Ibx (W : World) (lo : Nat) (bns ks : List Nat) : Prop where
  len : bns.length = ks.length
  box : ∀ (j n bn : Nat), ks[j]? = some n → bns[j]? = some bn → lo ≤ bn ∧ Blk W bn #[.int .i64 (n : Nat)] 3
theorem Ibx.nil (W : World) (lo : Nat) : Ibx W lo [] [] := ⟨rfl, fun j n bn h => by simp at h⟩
theorem Ibx.keep {W W' : World} {lo : Nat} {bns ks : List Nat} (h : Ibx W lo bns ks) (hk : ∀ (bn n : Nat), bn ∈ bns → lo ≤ bn → Blk W bn #[.int .i64 (n : Nat)] 3 → Blk W' bn #[.int .i64 (n : Nat)] 3) : Ibx W' lo bns ks := ⟨h.len, fun j n bn h1 h2 => ⟨(h.box j n bn h1 h2).1, hk bn n (List.mem_of_getElem? h2) (h.box j n bn h1 h2).1 (h.box j n bn h1 h2).2⟩⟩
theorem Ibx.lt {W : World} {lo : Nat} {bns ks : List Nat} (h : Ibx W lo bns ks) : ∀ bn ∈ bns, bn < W.heap.size := fun bn hb => by
  obtain ⟨j, hj, rfl⟩ := List.getElem_of_mem hb
  exact (h.box j (ks[j]'(by rw [← h.len]; exact hj)) _ (List.getElem?_eq_getElem _) (List.getElem?_eq_getElem hj)).2.lt
theorem Ibx.snoc {W : World} {lo bn n : Nat} {bns ks : List Nat} (h : Ibx W lo bns ks) (hl : lo ≤ bn) (hb : Blk W bn #[.int .i64 (n : Nat)] 3) : Ibx W lo (bns ++ [bn]) (ks ++ [n]) := ⟨by simp [h.len], fun j n' bn' h1 h2 => by
  by_cases hj : j < ks.length
  · rw [List.getElem?_append_left hj] at h1
    rw [List.getElem?_append_left (by rw [h.len]; exact hj)] at h2
    exact h.box j n' bn' h1 h2
  · rw [List.getElem?_append_right (by omega)] at h1
    rw [List.getElem?_append_right (by rw [h.len]; omega), h.len] at h2
    have hj2 : j - ks.length = 0 := by
      have := (List.getElem?_eq_some_iff.1 h1).1
      simpa using this
    rw [hj2] at h1 h2
    simp at h1 h2
    subst h1 h2
    exact ⟨hl, hb⟩⟩
theorem Blk.turn {w w' : World} {i : Nat} {c : Array Value} {t : TypeId} {row : Option Nat} (h : Blk w i c t) (hg : w.grownBy w' row) (hr : ∀ r, row = some r → ∃ o : Obj, w.heap[r]? = some o ∧ o.isCells = false) : Blk w' i c t := h.grown hg (fun e => by
  obtain ⟨o, h1, h2⟩ := hr i e.symm
  rw [h.out] at h1
  cases h1
  cases h2)
theorem GL.turn {w w' : World} {t : TypeId} {k lo : Nat} {sl : Value} {l : List (List Value)} {row : Option Nat} (h : GL w t k lo sl l) (hg : w.grownBy w' row) (hr : ∀ r, row = some r → ∃ o : Obj, w.heap[r]? = some o ∧ o.isCells = false) : GL w' t k lo sl l := h.grown hg (fun r e e2 => by
  obtain ⟨o, h1, h2⟩ := hr r e2.symm
  rcases h.2 with ⟨_, rfl⟩ | ⟨g, cap, _, rfl, h3⟩
  · cases e
  · cases e
    obtain ⟨cur, h4, _⟩ := h3.out
    rw [h4] at h1
    cases h1
    cases h2)
theorem BMi.turn {bx : Nat} {a : Option Addr} {k : Nat} {cs : List Int} {W W' : World} {row : Option Nat} (h : BMi bx a k cs W) (hg : W.grownBy W' row) (hr : ∀ r, row = some r → ∃ o : Obj, W.heap[r]? = some o ∧ o.isCells = false) : BMi bx a k cs W' :=
  ⟨h.box.turn hg hr, fun i hi => by
    obtain ⟨g, ha, h1⟩ := h.el i hi
    exact ⟨g, ha, cell_turn h1 hg hr⟩⟩
theorem BMi.grown {bx : Nat} {a : Option Addr} {k : Nat} {cs : List Int} {W W' : World} {b : Option Nat} (h : BMi bx a k cs W) (hg : W.grownBy W' b) (h1 : some bx ≠ b) (h2 : ∀ g, a = some ⟨g, 0, none⟩ → 0 < cs.length → some g ≠ b) : BMi bx a k cs W' :=
  ⟨h.box.grown hg h1, fun i hi => by
    obtain ⟨g, ha, e1⟩ := h.el i hi
    have hb := hg.block g (World.block_lt_of_cell? _ _ e1) (h2 g ha (by omega))
    exact ⟨g, ha, by simp only [World.cell?] at e1 ⊢; rw [hb]; exact e1⟩⟩
/-- The memory between two rounds of mend's list of steps. -/
structure MM (w : World) (q p lo2 bx : Nat) (a : Option Addr) (k : Nat) (cs : List Int) (ks bns : List Nat) (sl : Value) (W : World) : Prop where
  bl : Blk W w.heap.size #[.pointer (some ⟨q, 0, none⟩)] 25
  bs : Blk W (w.heap.size + 1) #[sl] TFS
  fl : FNL W lo2 sl (mdV w.heap.size p bns)
  bm : BMi bx a k cs W
  ib : Ibx W lo2 bns ks
  below : Below w.heap.size w W
  size : lo2 ≤ W.heap.size
/-- How the blocks lie. -/
structure ML (w : World) (lo2 bx : Nat) (a : Option Addr) (cs : List Int) : Prop where
  g : ∀ g, a = some ⟨g, 0, none⟩ → 0 < cs.length → g ≠ w.heap.size + 1 ∧ g < lo2
  bx : w.heap.size + 1 < bx ∧ bx < lo2
theorem MM.turn {w : World} {q p lo2 bx : Nat} {a : Option Addr} {k : Nat} {cs : List Int} {ks bns : List Nat} {sl : Value} {W W' : World} {row : Option Nat} (h : MM w q p lo2 bx a k cs ks bns sl W) (L : ML w lo2 bx a cs) (hg : W.grownBy W' row) (hr : ∀ r, row = some r → lo2 ≤ r ∧ ∃ o : Obj, W.heap[r]? = some o ∧ o.isCells = false) : MM w q p lo2 bx a k cs ks bns sl W' :=
  have hr2 := fun r e => (hr r e).2
  ⟨h.bl.turn hg hr2, h.bs.turn hg hr2, GL.turn h.fl hg hr2, h.bm.turn hg hr2, h.ib.keep (fun _ _ _ _ h1 => h1.turn hg hr2), h.below.grown hg h.below.size (fun k e => by have := (hr k e).1; have := L.bx; omega), Nat.le_trans h.size hg.size⟩
theorem MM.below' {w : World} {q p lo2 bx : Nat} {a : Option Addr} {k : Nat} {cs : List Int} {ks bns : List Nat} {sl : Value} {W W' : World} (h : MM w q p lo2 bx a k cs ks bns sl W) (hb : Below W.heap.size W W') : MM w q p lo2 bx a k cs ks bns sl W' :=
  ⟨h.bl.belowSize hb, h.bs.belowSize hb, h.fl.below hb, h.bm.below hb, h.ib.keep (fun _ _ _ _ h1 => h1.belowSize hb), h.below.trans (hb.mono h.below.size), Nat.le_trans h.size hb.size⟩
/-- A box that the round has made is written. -/
theorem MM.own {w : World} {q p lo2 bx : Nat} {a : Option Addr} {k : Nat} {cs : List Int} {ks bns : List Nat} {sl : Value} {W W' : World} {b : Nat} {c : Array Value} (h : MM w q p lo2 bx a k cs ks bns sl W) (L : ML w lo2 bx a cs) (hg : W.grownBy W' (some b)) (hb : Blk W b c 3) (hl : lo2 ≤ b) (hn : b ∉ bns) : MM w q p lo2 bx a k cs ks bns sl W' :=
  have hx := L.bx
  ⟨h.bl.grown hg (fun e => by have := Option.some.inj e; omega), h.bs.grown hg (fun e => by have := Option.some.inj e; omega), h.fl.other hg hb (by decide), h.bm.grown hg (fun e => by have := Option.some.inj e; omega) (fun g ha h0 e => by have := Option.some.inj e; have := L.g g ha h0; omega), h.ib.keep (fun bn _ hm _ h1 => h1.grown hg (fun e => hn (Option.some.inj e ▸ hm))), h.below.grown hg h.below.size (fun k e => by cases e; omega), Nat.le_trans h.size hg.size⟩
/-- The two steps of a segment are put behind the others, and kept. -/
theorem MM.app {w : World} {q p lo2 bx : Nat} {a : Option Addr} {k : Nat} {cs : List Int} {ks bns : List Nat} {sl sl1 : Value} {W W1 : World} {n bn : Nat} (h : MM w q p lo2 bx a k cs ks bns sl W) (L : ML w lo2 bx a cs) (hg : W.grownBy W1 (slBlk sl)) (hF : FNL W1 lo2 sl1 (mdV w.heap.size p bns ++ [md1 w.heap.size bn, syF p])) (hl : lo2 ≤ bn) (hb : Blk W bn #[.int .i64 (n : Nat)] 3) :
    Blk W1 (w.heap.size + 1) #[sl] TFS ∧ Blk W1 w.heap.size #[.pointer (some ⟨q, 0, none⟩)] 25 ∧ Below w.heap.size w W1 ∧ ∀ W2, W1.grownBy W2 (some (w.heap.size + 1)) → Blk W2 (w.heap.size + 1) #[sl1] TFS → MM w q p lo2 bx a k cs (ks ++ [n]) (bns ++ [bn]) sl1 W2 := by
  have hx := L.bx
  have hlt := h.fl.lt
  have hne : ∀ {i : Nat}, i < lo2 → some i ≠ slBlk sl := fun hi e => by have := (hlt _ e.symm).1; omega
  have hint : ∀ {i m : Nat}, Blk W i #[.int .i64 (m : Nat)] 3 → some i ≠ slBlk sl := fun h1 e => GL.ne h.fl h1 (.inl (by decide)) _ e.symm rfl
  have hne2 : ∀ {i : Nat}, i ≠ w.heap.size + 1 → some i ≠ some (w.heap.size + 1) := fun hi e => hi (Option.some.inj e)
  have hbs := h.bs.grown hg (hne (by omega))
  have hb1 := hb.grown hg (hint hb)
  have hB9 : Below w.heap.size w W1 := h.below.grown hg h.below.size (fun k e => by have := (hlt k e).1; omega)
  have hbm1 : BMi bx a k cs W1 := h.bm.grown hg (hne hx.2) (fun g ha h0 => hne (L.g g ha h0).2)
  have hib1 : Ibx W1 lo2 bns ks := h.ib.keep (fun _ _ _ _ h1 => h1.grown hg (hint h1))
  have hbl1 := h.bl.grown hg (hne (by omega))
  refine ⟨hbs, hbl1, hB9, fun W2 hg2 hb2 => ⟨hbl1.grown hg2 (hne2 (by omega)), hb2, ?_, hbm1.grown hg2 (hne2 (by omega)) (fun g ha h0 => hne2 (L.g g ha h0).1), ?_, hB9.grown hg2 hB9.size (fun k e => by cases e; omega), Nat.le_trans (Nat.le_trans h.size hg.size) hg2.size⟩⟩
  · rw [mdV_app]
    exact FNL.other hF hg2 hbs (by decide)
  · exact Ibx.snoc (hib1.keep (fun bn' _ _ hl' h1 => h1.grown hg2 (hne2 (by omega)))) hl (hb1.grown hg2 (hne2 (by omega)))
end Go.Proofs.YtaiiojbakmminaaGreatDoor
namespace Go.Proofs.YtaiiojbakmminaaGreatDoor
open Go Go.RowKit
/-- Whatever is no cells is as it was. -/
structure NC (w w' : World) : Prop where
  size : w.heap.size ≤ w'.heap.size
  all : ∀ (i : Nat) (o : Obj), w.heap[i]? = some o → o.isCells = false → w'.heap[i]? = some o
theorem NC.trans {a b c : World} (h : NC a b) (k : NC b c) : NC a c := ⟨Nat.le_trans h.size k.size, fun i o ho hc => k.all i o (h.all i o ho hc) hc⟩
theorem NC.below {w w' : World} (h : Below w.heap.size w w') : NC w w' := ⟨h.size, fun i o ho _ => by rw [h.block i (Array.getElem?_eq_some_iff.1 ho).1]; exact ho⟩
theorem NC.grown {w w' : World} {row : Option Nat} (h : w.grownBy w' row) (hr : ∀ r, row = some r → ∃ c t fr, w.heap[r]? = some (.cells c t fr)) : NC w w' := ⟨h.size, fun i o ho hc => by
  rw [h.block i (Array.getElem?_eq_some_iff.1 ho).1 (fun e => by
    obtain ⟨c, t, fr, h1⟩ := hr i e.symm
    rw [ho] at h1
    cases h1
    cases hc)]
  exact ho⟩
theorem NC.blk {w w' : World} {b : Nat} {c : Array Value} {t : TypeId} (h : w.grownBy w' (some b)) (k : Blk w b c t) : NC w w' := NC.grown h (fun r e => by cases e; exact ⟨c, t, _, k.out⟩)
theorem NC.app {w w' : World} {t : TypeId} {k lo : Nat} {sl : Value} {l : List (List Value)} (h : w.grownBy w' (slBlk sl)) (hs : GL w t k lo sl l) : NC w w' := NC.grown h (fun r e => by
  rcases hs.2 with ⟨_, rfl⟩ | ⟨g, cap, h1, rfl, h3⟩
  · cases e
  · cases e
    obtain ⟨cur, h4, _⟩ := h3.out
    exact ⟨cur, t, _, h4⟩)
theorem NC.from {w w' : World} (h : NC w w') (B : Nat) : KeepsFrom B w w' := ⟨h.size, fun i o _ hi hc => h.all i o hi hc⟩
section
variable {P : Program} {ops : Array Oper} {Q : Exit → Act → World → Prop} {md : Region.Mode} {S : World → Prop} {z : Nat}
theorem wpAnyL_solo {i : Nat} {o : Oper} {fuel : Nat} {listed : Array Bool} {a : Act} {w : World} (ho : ops[i]? = some o) (hr : Region.ready md ops listed = [i])
    (h : ∀ K : Act → World → Prop, (∀ a w, (i ≠ z → S w) → wpAnyL P md ops Q S z fuel (listed.setIfInBounds i true) a w → K a w) → wpList P ops (QK Q K) [o] a w) : wpAnyL P md ops Q S z (fuel + 1) listed a w :=
  ⟨(fun h0 => absurd (hr ▸ h0) (List.cons_ne_nil _ _)), fun j hj => by
    rw [hr] at hj
    obtain rfl := List.mem_singleton.1 hj
    exact wpOp_list ho (h _ (fun a w hS hW => ⟨hS, hW⟩))⟩
end
section
variable {ops : Array Oper} {rest : List Oper} {op : Oper} {a : Act} {w : World} {Q : Exit → Act → World → Prop}
theorem wpList_fsl2 (hgd : op.guard = none) (x x2 : Operand) (ho : op.op = .buildSlice TFS 2 #[(0, x), (1, x2)]) (f f2 : Fn) (y z y2 z2 : Array Value) (hx : a.eval x = .func f y z) (hx2 : a.eval x2 = .func f2 y2 z2)
    (h : ∀ w1 : World, Below w.heap.size w w1 → w1.heap.size = w.heap.size + 1 → Blk w1 w.heap.size #[.func f y z, .func f2 y2 z2] TF → wpList Tryz.prog ops Q rest (a.put op.dst (.slice (some ⟨w.heap.size, 0, none⟩) 2 2)) w1) : wpList Tryz.prog ops Q (op :: rest) a w := by
  have e : (#[(0, x), (1, x2)] : Array (Nat × Operand)).map (fun (i, x) => (i, a.eval x)) = #[(0, .func f y z), (1, .func f2 y2 z2)] := by simp [hx, hx2]
  refine wpList_run hgd _ _ ?_ (h _ ((Below.refl _ _).alloc (Nat.le_refl _) _) (by simp) (Blk.new _ _ _))
  unfold execOp
  simp only [ho, Sem.run_bind, e, fsl2 f f2 y z y2 z2, Result.andThen_ok]
  rfl
theorem wpList_appF2 (hgd : op.guard = none) (x y : Operand) (ho : op.op = .call { callee := .builtin .append, args := #[x, y], argTypes := #[TFS, TFS] })
    (lo : Nat) (sl : Value) (l : List Value) (hlo : lo ≤ w.heap.size) (hx : a.eval x = sl) (hsl : FNL w lo sl l) (g2 : Nat) (hy : a.eval y = .slice (some ⟨g2, 0, none⟩) 2 2) (v v2 : Value) (hv : v.oneCell' = true) (hv2 : v2.oneCell' = true) (hb2 : Blk w g2 #[v, v2] TF) (hlen : l.length ≤ 1000000)
    (h : ∀ (w1 : World) (sl1 : Value), w.grownBy w1 (slBlk sl) → FNL w1 lo sl1 (l ++ [v, v2]) → wpList Tryz.prog ops Q rest (a.put op.dst sl1) w1) : wpList Tryz.prog ops Q (op :: rest) a w := by
  obtain ⟨i, hi, hz, hs, hby⟩ := infoFn
  obtain ⟨w1, sl1, hr, hg, hl, _⟩ := run_appendGLs (P := Tryz.prog) (w := w) TFS op.type TF 1 lo sl _ hlo hsl g2 2 [[v], [v2]] (by simp) (by simp) (by simp) [v, v2] rfl (fun u hu => by
    rcases List.mem_cons.1 hu with rfl | hu
    · exact hv
    · rw [List.mem_singleton.1 hu]; exact hv2) TF hb2 i _ rfl Tryz.underlying97 hi hz hs hby (by simpa using hlen)
  refine wpList_run hgd _ _ ?_ (h w1 sl1 hg ?_)
  · unfold execOp
    simp only [ho]
    simp only [List.length_cons, List.length_nil, Nat.reduceAdd] at hr
    simp [resolve, invoke, builtin, hx, hy, hr, Result.andThen]
  · unfold FNL
    rw [List.map_append]
    exact hl
end
theorem args2p {x1 x2 : Operand} {a : Act} {v1 v2 : Value} (h1 : a.eval x1 = v1) (h2 : a.eval x2 = v2) : (#[x1, x2] : Array Operand).map a.eval = #[v1, v2] := by simp [h1, h2]
theorem mk_md1 {op : Oper} {a : Act} {w : World} (x1 x2 : Operand) {b1 b2 : Nat} (ho : op.op = .makeFunc (.func 115) #[] #[x1, x2]) (h1 : a.eval x1 = .pointer (some ⟨b1, 0, none⟩)) (h2 : a.eval x2 = .pointer (some ⟨b2, 0, none⟩)) : (execOp a.eval op).run Tryz.prog w = .ok (.value (md1 b1 b2)) w := run_mkF _ _ _ ho _ _ args0 (args2p h1 h2)
theorem mk_md2 {op : Oper} {a : Act} {w : World} (x1 : Operand) {b1 : Nat} (ho : op.op = .makeFunc (.func 116) #[] #[x1]) (h1 : a.eval x1 = .pointer (some ⟨b1, 0, none⟩)) : (execOp a.eval op).run Tryz.prog w = .ok (.value (md2 b1)) w := run_mkF _ _ _ ho _ _ args0 (args1 h1)
theorem mk_syp {op : Oper} {a : Act} {w : World} (x1 : Operand) {b1 : Nat} (ho : op.op = .makeFunc (.func 27) #[x1] #[]) (h1 : a.eval x1 = .pointer (some ⟨b1, 0, none⟩)) : (execOp a.eval op).run Tryz.prog w = .ok (.value (syF b1)) w := run_mkF _ _ _ ho _ _ (args1 h1) args0
end Go.Proofs.YtaiiojbakmminaaGreatDoor
