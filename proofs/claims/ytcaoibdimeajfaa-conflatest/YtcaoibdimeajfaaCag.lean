/- Numbers and entries, out of what arguments read as. -/
import Derived.Test.YtcaoibdimeajfaaClt
import Derived.Test.YtcaoibdimeajfaaChecked
import Derived.ProofKit
import Derived.LaidMore
import Derived.OpenShut
import Derived.SizedLaws
import Derived.Stop.Joined
import Derived.Deep.Slices
namespace Go.Proofs.Ytcaoibdimeajfaa
open Go Go.ChangeShapes Go.WideShapes Go.ChangeAt Go.WideMaps Go.WideElems Go.RowKit
theorem clSlI : Try.prog.cellsOf 22 = 1 := by kernel_rfl
theorem cl3 : Try.prog.cellsOf 3 = 1 := by kernel_rfl
theorem cl9 : Try.prog.cellsOf 9 = 1 := by kernel_rfl
theorem clBool : Try.prog.cellsOf 4 = 1 := by kernel_rfl
theorem clE : Try.prog.cellsOf 39 = 4 := by kernel_rfl
theorem byI : Try.prog.bytesOf 3 = 8 := by kernel_rfl
/-- What a datum of numbers weighs. -/
def Lgt {H : Type} (t : TypeId) (d : DataW H) : Prop := (d.weights Try.prog t).all (· ≤ reachBytes) = true
set_option maxRecDepth 100000 in
/-- The numbers of an argument's slice. -/
theorem ints_of {H : Type} {enc : TypeId × Value → H} {W : World} {n : Nat} {a0 : Option Addr} {len cap : Nat} {x : DataW H × List MemPlace} (hf : DataW.trod enc Try.prog W 0 (fun _ => true) true n 22 [.slice a0 len cap] = some x) :
    ∃ l : List Int, l.length = len ∧ IA W a0 l ∧ len ≤ cap ∧ (Lgt 22 x.1 → len ≤ 17592186044416) := by
  rcases DataW.trod_slice Try.underlying22 hf with ⟨hcs, _⟩ | ⟨a, l, c, elems, rest, n, _, hcs, hx, _, hl, hm, hel, hc, _, _⟩
  · simp at hcs
    obtain ⟨_, rfl, rfl⟩ := hcs
    exact ⟨[], rfl, fun i x hx => by simp at hx, by omega, fun _ => by omega⟩
  · simp at hcs
    obtain ⟨rfl, rfl, rfl⟩ := hcs
    have hw : Lgt 22 x.1 → len ≤ 17592186044416 := fun h => by
      unfold Lgt at h
      rw [hx] at h
      have h2 := List.all_eq_true.1 h ((elems.length + rest.length) * Try.prog.bytesOf 3) (by simp [DataW.weights, Try.underlying22])
      rw [byI] at h2
      have h3 := of_decide_eq_true h2
      unfold reachBytes at h3
      omega
    by_cases hl0 : len = 0
    · exact ⟨[], by rw [hl0]; rfl, fun i x hx => by simp at hx, by omega, hw⟩
    have each : ∀ i, i < len → ∃ q : Int, W.cells? 0 (a.add (i * 1)) 1 = some [.int .i64 q] := by
      intro i hi
      have h1 := hc i hi
      rw [cl3, List.getElem?_eq_getElem (by omega)] at h1
      obtain ⟨cs', h2, h3⟩ := Option.bind_eq_some_iff.1 h1
      obtain ⟨k, e0, _, _⟩ := DataW.trod_int Try.underlying3 h3
      subst e0
      exact ⟨k, h2⟩
    obtain ⟨g, o, spot⟩ := a
    obtain ⟨q0, hq0⟩ := each 0 (by omega)
    obtain ⟨_, _, hcell0⟩ := World.cells?_some hq0
    have c0 := hcell0 0 (by omega)
    have hspot : spot = none := by
      have e : W.cell? (((⟨g, o, spot⟩ : Addr).add (0 * 1)).add 0) = some (.int .i64 q0) := c0
      simpa [Addr.add] using World.cell?_spot e
    subst hspot
    have each2 : ∀ i, ∃ q : Int, i < len → W.cell? ⟨g, o + i, none⟩ = some (.int .i64 q) := by
      intro i
      by_cases hi : i < len
      · obtain ⟨q, hq⟩ := each i hi
        refine ⟨q, fun _ => ?_⟩
        obtain ⟨_, hlen, hcell⟩ := World.cells?_some hq
        have := hcell 0 (by omega)
        rw [Addr.add_mid, Addr.add_mid, Nat.mul_one, Nat.add_zero] at this
        rw [this]
        rfl
      · exact ⟨0, fun h => absurd h hi⟩
    obtain ⟨f, hf⟩ := Classical.skolem.1 each2
    refine ⟨(List.range len).map f, by simp, fun i x hx => ⟨g, o, rfl, ?_⟩, by omega, hw⟩
    have hi' : i < len := by have := (List.getElem?_eq_some_iff.1 hx).1; simpa using this
    have h1 := hf i hi'
    rw [List.getElem?_map, List.getElem?_range hi'] at hx
    simp at hx
    rw [h1, hx]
set_option maxRecDepth 100000 in
/-- The cells of an entry. -/
theorem lec_of {H : Type} {enc : TypeId × Value → H} {W : World} {n : Nat} {cs : List Value} {x : DataW H × List MemPlace} (hf : DataW.trod enc Try.prog W 0 (fun _ => true) true n 39 cs = some x) :
    ∃ (t : LE) (a : Option Addr) (cap : Nat), cs = (lec t (.slice a t.mem.length cap)).toList ∧ IA W a t.mem ∧ (Lgt 39 x.1 → t.mem.length ≤ 17592186044416) := by
  obtain ⟨xs, f, _, hx, hl, hxl, hfd⟩ := DataW.trod_struct Try.underlying39 hf
  rw [clE] at hl
  match xs, hxl, cs, hl with
  | [y0, y1, y2, y3], _, [v0, v1, v2, v3], _ =>
    have g0 := hfd 0 _ rfl
    have g1 := hfd 1 _ rfl
    have g2 := hfd 2 _ rfl
    have g3 := hfd 3 _ rfl
    simp [cl3, cl9, clBool, clSlI] at g0 g1 g2 g3
    obtain ⟨c, e0, _, w0⟩ := DataW.trod_int Try.underlying3 g0
    obtain ⟨p, e1, _, _⟩ := DataW.trod_string Try.underlying9 g1
    obtain ⟨q, e2, _⟩ := DataW.trod_bool Try.underlying4 g2
    simp at e0 e1 e2
    subst e0 e1 e2
    have hs3 : ∃ a len cap, v3 = .slice a len cap := by
      rcases DataW.trod_slice Try.underlying22 g3 with ⟨hcs, _⟩ | ⟨a, l, c, elems, rest, n, _, hcs, _⟩
      · simp at hcs; exact ⟨_, _, _, hcs⟩
      · simp at hcs; exact ⟨_, _, _, hcs⟩
    obtain ⟨a, len, cap, rfl⟩ := hs3
    obtain ⟨l, hll, hIA, _, hw⟩ := ints_of g3
    refine ⟨⟨c, p.data.toList, q, l⟩, a, cap, ?_, hIA, fun h => ?_⟩
    · dsimp only
      rw [hll]
      rfl
    · dsimp only
      rw [hll]
      refine hw ?_
      unfold Lgt at h ⊢
      rw [List.all_eq_true] at h ⊢
      intro z hz
      refine h z ?_
      rw [hx]
      show z ∈ DataW.weights Try.prog 39 (DataW.agg [y0.1, y1.1, y2.1, y3.1])
      unfold DataW.weights
      rw [Try.underlying39]
      exact DataW.weights_mem_each (j := 3) (t := 22) (d := y3.1) rfl rfl z hz
theorem weights_all {H : Type} {e : TypeId} : ∀ {l : List (DataW H)} {d : DataW H}, d ∈ l → ∀ z ∈ d.weights Try.prog e, z ∈ DataW.weightsAll Try.prog e l
  | y :: r, d, h, z, hz => by
    unfold DataW.weightsAll
    rw [List.mem_append]
    rcases List.mem_cons.1 h with rfl | h
    · exact .inl hz
    · exact .inr (weights_all h z hz)
set_option maxRecDepth 100000 in
/-- The entries of an argument's slice. -/
theorem ents_of {H : Type} {enc : TypeId × Value → H} {W : World} {n : Nat} {a0 : Option Addr} {len cap : Nat} {x : DataW H × List MemPlace} (hf : DataW.trod enc Try.prog W 0 (fun _ => true) true n 37 [.slice a0 len cap] = some x) (hlg : Lgt 37 x.1) :
    ∃ l : List LE, l.length = len ∧ EA W a0 l ∧ len ≤ cap := by
  rcases DataW.trod_slice Try.underlying37 hf with ⟨hcs, _⟩ | ⟨a, l, c, elems, rest, n, _, hcs, hx, _, hl, hm, hel, hc, _, _⟩
  · simp at hcs
    obtain ⟨_, rfl, _⟩ := hcs
    exact ⟨[], rfl, fun i hi => by simp at hi, Nat.zero_le _⟩
  · simp at hcs
    obtain ⟨rfl, rfl, rfl⟩ := hcs
    by_cases hl0 : len = 0
    · exact ⟨[], by rw [hl0]; rfl, fun i hi => by simp at hi, by omega⟩
    have each : ∀ i, i < len → ∃ (t : LE) (sa : Option Addr) (sc : Nat), W.cells? 0 (a.add (i * 4)) 4 = some (lec t (.slice sa t.mem.length sc)).toList ∧ IA W sa t.mem ∧ t.mem.length ≤ 17592186044416 := by
      intro i hi
      have h1 := hc i hi
      rw [clE, List.getElem?_eq_getElem (by omega)] at h1
      obtain ⟨cs', h2, h3⟩ := Option.bind_eq_some_iff.1 h1
      obtain ⟨t, sa, sc, rfl, h4, h5⟩ := lec_of h3
      refine ⟨t, sa, sc, h2, h4, h5 ?_⟩
      unfold Lgt at hlg ⊢
      rw [List.all_eq_true] at hlg ⊢
      intro z hz
      refine hlg z ?_
      rw [hx]
      unfold DataW.weights
      rw [Try.underlying37]
      have := weights_all (l := elems.map (·.1)) (List.mem_map.2 ⟨_, List.getElem_mem (show i < elems.length by omega), rfl⟩) z hz
      simp [this]
    obtain ⟨g, o, spot⟩ := a
    obtain ⟨q0, _, _, hq0, _⟩ := each 0 (by omega)
    obtain ⟨_, _, hcell0⟩ := World.cells?_some hq0
    have c0 := hcell0 0 (by omega)
    have hspot : spot = none := by
      have e : W.cell? (((⟨g, o, spot⟩ : Addr).add (0 * 4)).add 0) = some (.int .i64 q0.term) := c0
      simpa [Addr.add] using World.cell?_spot e
    subst hspot
    have each2 : ∀ i, ∃ t : LE, i < len → ∃ sa sc, W.rangeAt g (o + i * 4) (lec t (.slice sa t.mem.length sc)).toList ∧ IA W sa t.mem ∧ t.mem.length ≤ 17592186044416 := by
      intro i
      by_cases hi : i < len
      · obtain ⟨t, sa, sc, hq, h4⟩ := each i hi
        refine ⟨t, fun _ => ⟨sa, sc, fun j v hv => ?_, h4⟩⟩
        obtain ⟨_, hlen, hcell⟩ := World.cells?_some hq
        have hj : j < 4 := (List.getElem?_eq_some_iff.1 hv).1
        have := hcell j hj
        rw [Addr.add_mid, Addr.add_mid] at this
        rw [this, hv]
      · exact ⟨⟨0, [], false, []⟩, fun h => absurd h hi⟩
    obtain ⟨f, hf⟩ := Classical.skolem.1 each2
    refine ⟨(List.range len).map f, by simp, fun i hi => ?_, by omega⟩
    have hi' : i < len := by simpa using hi
    obtain ⟨sa, sc, h5⟩ := hf i hi'
    refine ⟨g, o, sa, sc, rfl, ?_⟩
    simpa using h5
end Go.Proofs.Ytcaoibdimeajfaa
