/- The acts of an argument, and how long their texts may be. A fall as an argument. A disk that holds a generation beside what is left of others; what Open gives back of it. -/
import Derived.Test.YtaiiojbakmminaaGreatDoorWac
import Derived.Deep.Slices
import Derived.Test.YtaiiojbakmminaaGreatDoorWpn
import Derived.Test.YtaiiojbakmminaaGreatDoorWsm
namespace Go.Proofs.YtaiiojbakmminaaGreatDoor
open Go Go.ChangeShapes Go.WideShapes Go.ChangeAt Go.WideMaps Go.WideElems Go.RowKit
theorem clA : Tryz.prog.cellsOf 34 = 6 := by kernel_rfl
theorem clFa : Tryz.prog.cellsOf 32 = 3 := by kernel_rfl
theorem clI : Tryz.prog.cellsOf 3 = 1 := by kernel_rfl
theorem clTx : Tryz.prog.cellsOf 30 = 1 := by kernel_rfl
/-- What is in a list is not more than the list. -/
theorem bulk_in {H : Type} {d : DataW H} : ∀ {l : List (DataW H)}, d ∈ l → Rows.uptoBulk d ≤ Rows.uptoBulkAll l
  | x :: r, h => by
    have e : Rows.uptoBulkAll (x :: r) = Rows.uptoBulk x + Rows.uptoBulkAll r := by simp only [Rows.uptoBulkAll]
    rcases List.mem_cons.1 h with rfl | h
    · omega
    · have := bulk_in h
      omega
theorem texts_of {H : Type} {enc : TypeId × Value → H} {W : World} {n : Nat} {sp : Nat → Bool} {held : Bool} {base : Nat} {cs : List Value} {x : DataW H × List MemPlace} (h : DataW.trod enc Tryz.prog W base sp held n 30 cs = some x) :
    ∃ (a : Option Addr) (l : List B) (cap : Nat), cs = [.slice a l.length cap] ∧ l.length ≤ cap ∧ XA W a l := by
  rcases open_strings Tryz.underlying30 Tryz.underlying9 clStr h with ⟨hcs, _⟩ | ⟨x, l, c, ss, hcs, _, hl, hm, hz, _, hcell, hws⟩
  · exact ⟨none, [], 0, hcs, Nat.le_refl _, ⟨fun j x hx => by simp at hx⟩⟩
  · have hz' : l ≤ ss.length := by rw [hz]; split <;> omega
    have hll : ((ss.take l).map (fun s => s.data.toList)).length = l := by rw [List.length_map, List.length_take]; omega
    refine ⟨some x, (ss.take l).map (fun s => s.data.toList), c, by rw [hll, hcs], by omega, ⟨fun i y hy => ?_⟩⟩
    obtain ⟨hi, rfl⟩ := List.getElem?_eq_some_iff.1 hy
    have hi' : i < l := by omega
    obtain ⟨b, off, spot⟩ := x
    have hc := hcell 0 (by omega)
    have hspot : spot = none := by simpa [Addr.add] using World.cell?_spot hc
    subst hspot
    refine ⟨b, off, rfl, ?_⟩
    have := hcell i (by omega)
    rw [Addr.add_mid] at this
    rw [this, List.getD_eq_getElem?_getD, List.getElem?_eq_getElem (by omega)]
    simp [sv]
set_option maxRecDepth 100000 in
theorem fall_of {H : Type} {enc : TypeId × Value → H} {W : World} {n : Nat} {sp : Nat → Bool} {held : Bool} {base : Nat} {cs : List Value} {x : DataW H × List MemPlace} (h : DataW.trod enc Tryz.prog W base sp held n 32 cs = some x) :
    ∃ (p q r : Int), cs = [.int .i64 p, .int .i64 q, .int .i64 r] := by
  obtain ⟨xs, f, _, _, hl, hxl, hf⟩ := DataW.trod_struct Tryz.underlying32 h
  rw [clFa] at hl
  match xs, hxl, cs, hl with
  | [y0, y1, y2], _, [v0, v1, v2], _ =>
    have g0 := hf 0 _ rfl
    have g1 := hf 1 _ rfl
    have g2 := hf 2 _ rfl
    simp [clI] at g0 g1 g2
    obtain ⟨k, e0, _, _⟩ := DataW.trod_int Tryz.underlying3 g0
    obtain ⟨m, e1, _, _⟩ := DataW.trod_int Tryz.underlying3 g1
    obtain ⟨y, e2, _, _⟩ := DataW.trod_int Tryz.underlying3 g2
    refine ⟨k, m, y, ?_⟩
    simp at e0 e1 e2
    subst e0 e1 e2
    rfl
set_option maxRecDepth 100000 in
theorem act_of {H : Type} {enc : TypeId × Value → H} {W : World} {n : Nat} {sp : Nat → Bool} {held : Bool} {base : Nat} {cs : List Value} {x : DataW H × List MemPlace} (h : DataW.trod enc Tryz.prog W base sp held n 34 cs = some x) :
    ∃ a : AC, cs = (aC a).toList ∧ a.s.length ≤ Rows.uptoBulk x.1 ∧ XA W a.la a.l ∧ a.l.length ≤ a.lc := by
  obtain ⟨xs, f, _, hx, hl, hxl, hf⟩ := DataW.trod_struct Tryz.underlying34 h
  rw [clA] at hl
  match xs, hxl, cs, hl with
  | [y0, y1, y2, y3], _, [v0, v1, v2, v3, v4, v5], _ =>
    have g0 := hf 0 _ rfl
    have g1 := hf 1 _ rfl
    have g2 := hf 2 _ rfl
    have g3 := hf 3 _ rfl
    simp [clI, clStr, clTx, clFa] at g0 g1 g2 g3
    obtain ⟨k, e0, _, _⟩ := DataW.trod_int Tryz.underlying3 g0
    obtain ⟨s, e1, b1, _⟩ := DataW.trod_string Tryz.underlying9 g1
    obtain ⟨la, l, lc, e2, b2, b3⟩ := texts_of g2
    obtain ⟨p, q, r, e3⟩ := fall_of g3
    refine ⟨⟨k, s.data.toList, la, l, lc, p, q, r⟩, ?_, ?_, b3, b2⟩
    · simp at e0 e1 e2 e3
      obtain ⟨e3, e4, e5⟩ := e3
      subst e0 e1 e2 e3 e4 e5
      rfl
    · have h1 : y1.1 ∈ [y0, y1, y2, y3].map (·.1) := by simp
      have h2 := bulk_in h1
      have h3 : Rows.uptoBulk x.1 = Rows.uptoBulkAll ([y0, y1, y2, y3].map (·.1)) + 1 := by rw [hx]; simp only [Rows.uptoBulk]
      have h4 : Rows.uptoBulk y1.1 = s.data.toList.length + 1 := by rw [b1]; simp only [Rows.uptoBulk]
      show s.data.toList.length ≤ _
      omega
set_option maxRecDepth 100000 in
theorem acts_of {H : Type} {enc : TypeId × Value → H} {W : World} {r : Reach} {base : Nat} {v : Value} {d : DataW H} {p : List MemPlace} (hv : Value.okWide Tryz.prog W r base 22 v) (h : DataW.Trod enc Tryz.prog W 0 (fun _ => true) true 22 v d p) :
    ∃ (l : List AC) (a : Option Addr) (cap : Nat), v = .slice a l.length cap ∧ AA W a l ∧ ∀ x ∈ l, x.s.length ≤ Rows.uptoBulk d := by
  obtain ⟨fuel, hf⟩ := h
  obtain ⟨a0, len, cap, rfl⟩ := okWide_slice Tryz.underlying22 hv
  rcases DataW.trod_slice Tryz.underlying22 hf with ⟨hcs, _⟩ | ⟨a, l, c, elems, rest, n, _, hcs, hd, _, hl, hm, hel, hc, _, _⟩
  · simp [Value.cells] at hcs
    obtain ⟨_, rfl, _⟩ := hcs
    exact ⟨[], a0, cap, rfl, ⟨fun i x hx => by simp at hx⟩, fun _ hx => (by cases hx)⟩
  · simp [Value.cells] at hcs
    obtain ⟨rfl, rfl, rfl⟩ := hcs
    have hd1 : d = .slice (elems.map (·.1)) (rest.map (·.1)) := congrArg Prod.fst hd
    by_cases hl0 : len = 0
    · exact ⟨[], some a, cap, by rw [hl0]; rfl, ⟨fun i x hx => by simp at hx⟩, fun _ hx => (by cases hx)⟩
    have each : ∀ i, i < len → ∃ b : AC, W.cells? 0 (a.add (i * 6)) 6 = some (aC b).toList ∧ b.s.length ≤ Rows.uptoBulk d ∧ XA W b.la b.l ∧ b.l.length ≤ b.lc := by
      intro i hi
      have h1 := hc i hi
      have hie : i < elems.length := by omega
      rw [clA, List.getElem?_eq_getElem hie] at h1
      obtain ⟨cs', h2, h3⟩ := Option.bind_eq_some_iff.1 h1
      obtain ⟨b, rfl, h4, h5, h6⟩ := act_of h3
      refine ⟨b, h2, ?_, h5, h6⟩
      have h7 : (elems[i]).1 ∈ elems.map (·.1) := List.mem_map.2 ⟨_, List.getElem_mem hie, rfl⟩
      have h8 := bulk_in h7
      have h9 : Rows.uptoBulk d = Rows.uptoBulkAll (elems.map (·.1)) + Rows.uptoBulkAll (rest.map (·.1)) + 1 := by rw [hd1]; simp only [Rows.uptoBulk]
      omega
    obtain ⟨g, o, spot⟩ := a
    obtain ⟨q0, hq0, _⟩ := each 0 (by omega)
    obtain ⟨_, _, hcell0⟩ := World.cells?_some hq0
    have c0 := hcell0 0 (by omega)
    have hspot : spot = none := by
      have e : W.cell? (((⟨g, o, spot⟩ : Addr).add (0 * 6)).add 0) = some (.int .i64 q0.kind) := c0
      simpa [Addr.add] using World.cell?_spot e
    subst hspot
    have each2 : ∀ i, ∃ b : AC, i < len → W.rangeAt g (o + i * 6) (aC b).toList ∧ b.s.length ≤ Rows.uptoBulk d ∧ XA W b.la b.l ∧ b.l.length ≤ b.lc := by
      intro i
      by_cases hi : i < len
      · obtain ⟨q, hq, h4⟩ := each i hi
        refine ⟨q, fun _ => ⟨fun j v hv => ?_, h4⟩⟩
        obtain ⟨_, hlen, hcell⟩ := World.cells?_some hq
        have hj : j < 6 := (List.getElem?_eq_some_iff.1 hv).1
        have := hcell j hj
        rw [Addr.add_mid, Addr.add_mid] at this
        rw [this, hv]
      · exact ⟨⟨0, [], none, [], 0, 0, 0, 0⟩, fun h => absurd h hi⟩
    obtain ⟨f, hf⟩ := Classical.skolem.1 each2
    refine ⟨(List.range len).map f, some ⟨g, o, none⟩, cap, by simp, ⟨fun i x hx => ?_⟩, fun x hx => ?_⟩
    · obtain ⟨hi, rfl⟩ := List.getElem?_eq_some_iff.1 hx
      have hi' : i < len := by simpa using hi
      simp only [List.getElem_map, List.getElem_range]
      exact ⟨g, o, rfl, (hf i hi').1, (hf i hi').2.2.1, (hf i hi').2.2.2⟩
    · obtain ⟨i, hi, rfl⟩ := List.mem_map.1 hx
      exact (hf i (List.mem_range.1 hi)).2.1
end Go.Proofs.YtaiiojbakmminaaGreatDoor
namespace Go.Proofs.YtaiiojbakmminaaGreatDoor
open Go Go.ChangeShapes Go.WideShapes Go.ChangeAt Go.WideMaps Go.WideElems Go.RowKit
set_option maxRecDepth 100000 in
theorem onef_of {H : Type} {enc : TypeId × Value → H} {W : World} {r : Reach} {base : Nat} {v : Value} {d : DataW H} {p : List MemPlace} (hv : Value.okWide Tryz.prog W r base 32 v) (h : DataW.Trod enc Tryz.prog W 0 (fun _ => true) true 32 v d p) :
    ∃ f : FA, v = .agg (faA f) ∧ f.at_ ≤ 9223372036854775807 := by
  obtain ⟨cs, rfl, hsz⟩ := okWide_struct Tryz.underlying32 hv
  obtain ⟨fuel, hf⟩ := h
  obtain ⟨cl⟩ := cs
  have hf2 : DataW.trod enc Tryz.prog W 0 (fun _ => true) true fuel 32 cl = some (d, p) := by simpa [Value.cells] using hf
  obtain ⟨xs, f, _, _, hl, hxl, hff⟩ := DataW.trod_struct Tryz.underlying32 hf2
  rw [clFa] at hl
  match xs, hxl, cl, hl with
  | [y0, y1, y2], _, [v0, v1, v2], _ =>
    have g0 := hff 0 _ rfl
    have g1 := hff 1 _ rfl
    have g2 := hff 2 _ rfl
    simp [clI] at g0 g1 g2
    obtain ⟨k, e0, _, w0⟩ := DataW.trod_int Tryz.underlying3 g0
    obtain ⟨m, e1, _, _⟩ := DataW.trod_int Tryz.underlying3 g1
    obtain ⟨y, e2, _, _⟩ := DataW.trod_int Tryz.underlying3 g2
    have b0 : -9223372036854775808 ≤ k ∧ k ≤ 9223372036854775807 := by simpa [Lit.wf, IntKind.min, IntKind.max, IntKind.signed, IntKind.bits] using w0
    simp at e0 e1 e2
    subst e0 e1 e2
    exact ⟨⟨k, m, y⟩, rfl, b0.2⟩
end Go.Proofs.YtaiiojbakmminaaGreatDoor
namespace Go.Proofs.YtaiiojbakmminaaGreatDoor
open Go Go.RowKit
/-- A name of another generation, or of a base that was not moved. -/
inductive Oth (g : Nat) : B → Prop
  | base (k : Nat) (h1 : 1 ≤ k) (h : k < g) : Oth g (baseN k)
  | new (k : Nat) (h : k < 100) : Oth g (newN k)
  | seg (k m : Nat) (hk : k < 100) (hm : m < 100) (hne : k ≠ g) : Oth g (segN k m)
theorem Oth.wn {g : Nat} {x : B} (h : Oth g x) (hg : g < 100) : WN x := by
  cases h with
  | base k h1 h => exact WN.base _ (by omega)
  | new k h => exact WN.new _ h
  | seg k m hk hm hne => exact WN.seg _ _ hk hm
theorem Oth.oth {g : Nat} {x : B} (h : Oth g x) (hg : g < 100) : othK g x = true := by
  cases h with
  | base k h1 h => rw [oth_base hg (by omega)]; simp; omega
  | new k h => exact oth_new hg
  | seg k m hk hm hne => rw [oth_seg hg hk]; simp; omega
/-- A disk holds a generation: its base, its segments, and perhaps others. -/
structure Dx (P : PP) (g : Nat) (bt : B) (txs : List B) : Prop where
  ris : RisP P
  g1 : 1 ≤ g
  g2 : g < 100
  n : txs.length < 98
  base : getP (baseN g) P = some bt
  seg : ∀ (i : Nat) (t : B), txs[i]? = some t → getP (segN g (i + 1)) P = some t
  only : ∀ x ∈ P, x.1 = baseN g ∨ (∃ i, i < txs.length ∧ x.1 = segN g (i + 1)) ∨ Oth g x.1
  len : P.length ≤ 300
theorem ld_dx {P : PP} {g : Nat} {bt : B} {txs : List B} (h : Ld P g bt txs) : Dx P g bt txs := by
  have h1 := h.len
  have h2 := h.n
  exact ⟨h.ris, h.g1, h.g2, h.n, h.base, h.seg, fun x hx => (h.only x hx).imp_right .inl, by omega⟩
theorem dx_wn {P : PP} {g : Nat} {bt : B} {txs : List B} (h : Dx P g bt txs) : ∀ x ∈ P, WN x.1 := fun x hx => by
  have h2 := h.n
  have h3 := h.g2
  rcases h.only x hx with e | ⟨i, hi, e⟩ | e
  · rw [e]; exact WN.base _ h3
  · rw [e]; exact WN.seg _ _ h3 (by omega)
  · exact e.wn h3
theorem dx_ok {P : PP} {g : Nat} {bt : B} {txs : List B} (h : Dx P g bt txs) : ∀ x ∈ P, okN x.1 = true := fun x hx => (dx_wn h x hx).ok
theorem dx_none {P : PP} {g : Nat} {bt : B} {txs : List B} (h : Dx P g bt txs) (k : Nat) (hk : k < 100) (hk2 : txs.length < k) : getP (segN g k) P = none := by
  cases hq : getP (segN g k) P with
  | none => rfl
  | some s =>
    have h2 := h.n
    have h3 := h.g2
    rcases h.only _ ((getP_mem h.ris).1 hq) with e | ⟨i, hi, e⟩ | e
    · exact absurd e.symm (base_seg _ _ _)
    · have := (seg_inj h.g2 h.g2 hk (by omega) e).2
      omega
    · have := e.oth h3
      rw [oth_seg h3 h3] at this
      simp at this
theorem new_atoi : ∀ n : Fin 100, Lib.atoi (dg n.val ++ dotNew) = none := by decide +kernel
theorem numK_new {k : Nat} (h : k < 100) : numK preB (newN k) = none := by
  unfold numK
  rw [if_pos (preB_new k)]
  have e : Lib.trimPrefix (newN k) preB = dg k ++ dotNew := by
    unfold newN baseN
    rw [List.append_assoc, trim_app]
  rw [e, new_atoi ⟨k, h⟩]
theorem dx_num {P : PP} {g : Nat} {bt : B} {txs : List B} (h : Dx P g bt txs) : ∀ x ∈ P, ∀ n, numK preB x.1 = some n → n ≤ g := fun x hx n hn => by
  have h3 := h.g2
  rcases h.only x hx with e | ⟨i, hi, e⟩ | e
  · rw [e, show baseN g = preB ++ dg g from rfl, numK_app h3 h.g1] at hn
    cases hn; exact Nat.le_refl _
  · rw [e, numK_seg] at hn; cases hn
  · generalize x.1 = y at *
    cases e with
    | base k h1 h4 =>
      rw [show baseN k = preB ++ dg k from rfl, numK_app (by omega) h1] at hn
      cases hn; omega
    | new k h4 => rw [numK_new h4] at hn; cases hn
    | seg k m hk hm hne => rw [numK_seg] at hn; cases hn
theorem last_max {l : List Int} {g : Int} (hm : g ∈ l) (hle : ∀ x ∈ l, x ≤ g) : (srtI l).getLast?.getD 0 = g := by
  have hp : (srtI l).Perm l := List.mergeSort_perm _ _
  have hs : (srtI l).Pairwise (fun x y => decide (x ≤ y) = true) := List.pairwise_mergeSort (fun a b c h1 h2 => by simp at *; omega) (fun a b => by simp; omega) l
  have hin : g ∈ srtI l := hp.mem_iff.2 hm
  have hle2 : ∀ x ∈ srtI l, x ≤ g := fun x hx => hle x (hp.mem_iff.1 hx)
  generalize srtI l = s at *
  rcases List.eq_nil_or_concat s with rfl | ⟨r, u, rfl⟩
  · cases hin
  · have e : (r ++ [u]).getLast?.getD 0 = u := by simp
    rw [List.concat_eq_append] at *
    rw [e]
    have h1 : u ≤ g := hle2 u (by simp)
    rcases List.mem_append.1 hin with h2 | h2
    · rw [List.pairwise_append] at hs
      have := hs.2.2 g h2 u (by simp)
      simp at this
      omega
    · exact (List.mem_singleton.1 h2).symm
theorem dx_newest {P : PP} {g : Nat} {bt : B} {txs : List B} (h : Dx P g bt txs) : newP (namesL (mk P)) = (g : Int) := by
  rw [names_mk]
  unfold newP numsP fmI
  refine last_max ?_ fun z hz => ?_
  · refine List.mem_map.2 ⟨g, List.mem_filterMap.2 ⟨baseN g, List.mem_map.2 ⟨(baseN g, bt), (getP_mem h.ris).1 h.base, rfl⟩, ?_⟩, rfl⟩
    exact numK_app h.g2 h.g1
  · obtain ⟨n, hn, rfl⟩ := List.mem_map.1 hz
    obtain ⟨y, hy, hy2⟩ := List.mem_filterMap.1 hn
    obtain ⟨x, hx, rfl⟩ := List.mem_map.1 hy
    have := dx_num h x hx n hy2
    show (n : Int) ≤ g
    omega
theorem dx_nms {P : PP} {g : Nat} {bt : B} {txs : List B} (h : Dx P g bt txs) : Nms preB (namesL (mk P)) := by
  have h2 := h.len
  have h3 := h.g2
  rw [names_mk]
  refine ⟨by rw [List.length_map]; omega, fun x hx => ?_, fun x hx hp z hz => ?_⟩
  · obtain ⟨y, hy, rfl⟩ := List.mem_map.1 hx
    have := (dx_wn h y hy).len
    omega
  · obtain ⟨y, hy, rfl⟩ := List.mem_map.1 hx
    rcases h.only y hy with e | ⟨i, _, e⟩ | e
    · rw [e, show baseN g = preB ++ dg g from rfl, trim_app, dg_atoi h.g2] at hz
      cases hz
      omega
    · rw [e, preB_seg] at hp
      cases hp
    · generalize y.1 = x at *
      cases e with
      | base k h1 h4 =>
        rw [show baseN k = preB ++ dg k from rfl, trim_app, dg_atoi (by omega)] at hz
        cases hz
        omega
      | new k h4 =>
        have e : Lib.trimPrefix (newN k) preB = dg k ++ dotNew := by
          unfold newN baseN
          rw [List.append_assoc, trim_app]
        rw [e, new_atoi ⟨k, h4⟩] at hz
        cases hz
      | seg k m hk hm hne => rw [preB_seg] at hp; cases hp
/-- What one generation holds, and nothing else. -/
def onlyP (g : Nat) (bt : B) : List B → PP
  | [] => [(baseN g, bt)]
  | t :: r => putP (segN g (r.length + 1)) (some t) (onlyP g bt r)
theorem only_ld {g : Nat} (bt : B) (h1 : 1 ≤ g) (h2 : g < 100) : ∀ (r : List B), r.length < 98 → Ld (onlyP g bt r) g bt r.reverse
  | [], _ => ld_base g bt h1 h2
  | t :: r, hl => by
    have h := only_ld bt h1 h2 r (by simp at hl; omega)
    have := ld_more h t (by simp at hl ⊢; omega)
    rw [List.length_reverse] at this
    rw [List.reverse_cons]
    exact this
/-- What is left when the others are taken away. -/
theorem dx_filter {P : PP} {g : Nat} {bt : B} {txs : List B} (h : Dx P g bt txs) : Ld (P.filter fun x => !othK g x.1) g bt txs := by
  have h3 := h.g2
  have hn := h.n
  have hL := only_ld bt h.g1 h.g2 txs.reverse (by rw [List.length_reverse]; exact h.n)
  rw [List.reverse_reverse] at hL
  have e : (P.filter fun x => !othK g x.1) = onlyP g bt txs.reverse := ext_P (h.ris.filter _) hL.ris fun n => by
    cases hq : getP n (onlyP g bt txs.reverse) with
    | some s =>
      have hin := (getP_mem hL.ris).1 hq
      have hsame : getP n P = some s := by
        rcases hL.only _ hin with e | ⟨i, hi, e⟩
        · simp only at e
          subst e
          rw [hL.base] at hq
          rw [h.base, hq]
        · simp only at e
          subst e
          obtain ⟨t, ht⟩ : ∃ t, txs[i]? = some t := ⟨_, List.getElem?_eq_getElem hi⟩
          rw [hL.seg i t ht] at hq
          rw [h.seg i t ht, hq]
      refine (getP_mem (h.ris.filter _)).2 (List.mem_filter.2 ⟨(getP_mem h.ris).1 hsame, ?_⟩)
      have := ld_calm hL _ hin
      simp only at this
      simp [this]
    | none =>
      cases hq2 : getP n (P.filter fun x => !othK g x.1) with
      | none => rfl
      | some s =>
        obtain ⟨h5, h6⟩ := List.mem_filter.1 ((getP_mem (h.ris.filter _)).1 hq2)
        rcases h.only _ h5 with e | ⟨i, hi, e⟩ | e
        · simp only at e
          subst e
          rw [hL.base] at hq; cases hq
        · simp only at e
          subst e
          obtain ⟨t, ht⟩ : ∃ t, txs[i]? = some t := ⟨_, List.getElem?_eq_getElem hi⟩
          rw [hL.seg i t ht] at hq; cases hq
        · have := e.oth h3
          simp only at this h6
          rw [this] at h6
          cases h6
  rw [e]
  exact hL
theorem used_filter (f : B × B → Bool) : ∀ P : PP, usedP (P.filter f) ≤ usedP P
  | [] => Nat.le_refl _
  | x :: r => by
    have ih := used_filter f r
    have e : usedP (x :: r) = x.2.length + usedP r := by simp [usedP]
    rw [List.filter_cons, e]
    split
    · have e2 : usedP (x :: r.filter f) = x.2.length + usedP (r.filter f) := by simp [usedP]
      omega
    · omega
theorem dx_okn {P : PP} {g : Nat} {bt : B} {txs : List B} (h : Dx P g bt txs) (room : Int) (ch : Nat) (hu : usedP P ≤ 1000000000) (hc : ch ≤ 900000) : Okn (cm P room ch) := by
  have h1 := h.len
  exact cm_okn h.ris (dx_ok h) room ch (by omega) (by omega) (by omega)
set_option maxRecDepth 100000 in
/-- Open of a disk that holds a generation beside others, where all segments are right. -/
theorem open_dx (p g : Nat) (b : Option Nat) (room : Int) (ch : Nat) (z : Int) (P : PP) (s : B) (l txs : List B) (hz : 1 ≤ z) (w : World) (hX : Dx P g (frs (s :: l)) txs) (hD : DD w p b (cm P room ch)) (hp : 2 ≤ p) (hb2 : ∀ k, b = some k → 2 ≤ k) (hG : Gw w) (hc : ch ≤ 800000) (hu : usedP P ≤ 4000000)
    (htl : ∀ t ∈ txs, (unfT t).2 = t.length) (hll : l.length ≤ 500000) (hfew : ((txs.map fun t => (unfT t).1).flatten).length ≤ 400000) :
    ∃ ch', ch' ≤ ch + 300 ∧ Calls Tryz.prog 10 #[.pointer (some ⟨p, 0, none⟩), .int .i64 z] w (OpP w p b (segL ⟨z, g, s, l, 0, 0⟩ txs txs.length, (cm (P.filter fun x => !othK g x.1) room ch', 0)) 0) := by
  have hm := dx_okn hX room ch (by omega) (by omega)
  have hg1 := hX.g1
  have hg2 := hX.g2
  have hn := hX.n
  have hlen := hX.len
  obtain ⟨ch', hc', hsw⟩ := sweep_cm g hX.ris (dx_ok hX) room ch
  refine ⟨ch', by omega, ?_⟩
  have hat : ∀ n, atL n (cm P room ch).l = getP n P := fun n => at_mk hX.ris
  have hmlen : (cm P room ch).l.length ≤ 1000 := by show (mk P).length ≤ _; rw [mk_len]; omega
  have hbl : (frs (s :: l)).length ≤ 4000000 := by
    have h1 := usedP_get hX.ris (baseN g)
    rw [hX.base] at h1
    exact Nat.le_trans h1 hu
  have hS : Segs g (cm P room ch) txs := ⟨hn, fun i t ht => ⟨by rw [hat]; exact hX.seg i t ht, by
    have h1 := usedP_get hX.ris (segN g (i + 1))
    rw [hX.seg i t ht] at h1
    exact Nat.le_trans h1 hu⟩, by rw [hat]; exact dx_none hX _ (by omega) (by omega), hfew⟩
  refine open_any p g b (cm P room ch) z _ 0 hz w hD hp hb2 hG hm rfl (dx_nms hX) (dx_newest hX) fun q w' hK' hG' => ?_
  have HH := begin_any q p b none ⟨z, g, [], [], 0, 0⟩ (cm P room ch) (⟨z, g, s, l, 0, 0⟩, (cm P room ch, 0)) (segL ⟨z, g, s, l, 0, 0⟩ txs txs.length, (cm P room ch, 0)) w' hK' hG' (by show g ≠ 0; omega) hm
    (fun w1 b1 rb1 hK1 hG1 => (readBase_ok q p b1 rb1 ⟨z, g, [], [], 0, 0⟩ (cm P room ch) (frs (s :: l)) s l w1 hK1 hG1 hg2 hm rfl (by show atL (baseN g) _ = _; rw [hat]; exact hX.base) hbl (unfT_frs (s :: l) (fun x hx => by have := frs_mem hx; omega))).mono fun e w2 h => Ltp_rs h)
    (fun _ w1 b1 rb1 hK1 hG1 => (readSegs_ok q p b1 rb1 ⟨z, g, s, l, 0, 0⟩ (cm P room ch) txs w1 hK1 hG1 hg2 hm rfl rfl hll hS htl).mono fun e w2 h => Ltp_rs h)
    (fun _ _ => ⟨hg2, hmlen, by show ch ≤ _; omega, hm⟩)
  have e1 : bgR (⟨z, g, s, l, 0, 0⟩, (cm P room ch, 0)) (segL ⟨z, g, s, l, 0, 0⟩ txs txs.length, (cm P room ch, 0)) = (segL ⟨z, g, s, l, 0, 0⟩ txs txs.length, (cm (P.filter fun x => !othK g x.1) room ch', 0)) := by
    unfold bgR
    rw [if_neg (by simp), if_neg (by simp)]
    show (_, sweepN g (cm P room ch)) = _
    rw [hsw]
  have e2 : bgT (usedL (cm P room ch).l) (⟨z, g, s, l, 0, 0⟩, (cm P room ch, 0)) (segL ⟨z, g, s, l, 0, 0⟩ txs txs.length, (cm P room ch, 0)) = 0 := by
    unfold bgT
    rw [if_neg (by simp), if_neg (by simp)]
    show (usedL (cm P room ch).l : Int) - (usedL (cm P room ch).l : Int) = 0
    omega
  rw [e1, e2] at HH
  exact HH
end Go.Proofs.YtaiiojbakmminaaGreatDoor
