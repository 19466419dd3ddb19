/- The model of a state: texts and what they have, rising; and how a map in memory holds it. -/
import Derived.Maps.Ext
import Derived.Maps.OwnSet
import Derived.Maps.RangeWalk
import Derived.Sort.KeysCollected
import Derived.WideKeyEntry
import Derived.WalkKit
namespace Go.Proofs.YtdikilhobmkpkaaGreatDoor
open Go Go.RowKit Go.Maps
/-- A text, and what it has. -/
abbrev KV := List UInt8 × List UInt8
def lft (p : KV) : Lit × DataW Unit := (.string p.1, .lit (.string p.2))
/-- The datum of a map that has these texts. -/
def dm (m : List KV) : DataW Unit := .map (m.map lft)
def insM (x : KV) : List KV → List KV
  | [] => [x]
  | y :: r => if bytesBefore x.1 y.1 then x :: y :: r else y :: insM x r
def delM (k : List UInt8) (m : List KV) : List KV := m.filter fun p => !(p.1 == k)
def putM (k v : List UInt8) (m : List KV) : List KV := insM (k, v) (delM k m)
def getM (m : List KV) (k : List UInt8) : Option (List UInt8) := (m.find? fun p => p.1 == k).map (·.2)
def Ris (m : List KV) : Prop := m.Pairwise fun p q => bytesBefore p.1 q.1 = true
theorem dm_ins (x : KV) : ∀ m : List KV, DataW.insert (lft x) (m.map lft) = (insM x m).map lft
  | [] => rfl
  | y :: r => by
    have e : (lft x).1.before (lft y).1 = bytesBefore x.1 y.1 := rfl
    rw [List.map_cons, DataW.insert, insM, e]
    cases bytesBefore x.1 y.1
    · rw [if_neg (by simp), if_neg (by simp), List.map_cons, dm_ins x r]
    · rw [if_pos rfl, if_pos rfl, List.map_cons, List.map_cons]
theorem dm_filter (k : List UInt8) (m : List KV) : (m.map lft).filter (fun p => !p.1.sameKey (.string k)) = (delM k m).map lft := by
  unfold delM
  rw [List.filter_map]
  rfl
theorem dm_put (k v : List UInt8) (m : List KV) : (dm m).put (.string k) (.lit (.string v)) = dm (putM k v m) := by
  unfold dm DataW.put putM
  simp only
  rw [dm_filter, ← dm_ins]
  rfl
theorem dm_del (k : List UInt8) (m : List KV) : (dm m).del (.string k) = dm (delM k m) := by
  unfold dm DataW.del
  simp only
  rw [dm_filter]
theorem dm_has (m : List KV) (k : List UInt8) : Maps.has (dm m) (.string k) = (getM m k).isSome := by
  unfold dm getM
  rw [Maps.has_eq, List.any_map, Option.isSome_map, List.isSome_find?]
  rfl
theorem dm_at (m : List KV) (k : List UInt8) (z : List UInt8) : (dm m).atKey (.string k) (.lit (.string z)) = .lit (.string ((getM m k).getD z)) := by
  unfold dm getM DataW.atKey
  simp only [List.find?_map]
  have e : ((fun p : Lit × DataW Unit => p.1.sameKey (.string k)) ∘ lft) = fun p : KV => p.1 == k := rfl
  rw [e]
  cases m.find? fun p => p.1 == k <;> rfl
theorem dm_size (m : List KV) : Maps.size (dm m) = m.length := by unfold dm; rw [Maps.size_eq, List.length_map]
theorem lft_inj {p q : KV} (h : lft p = lft q) : p = q := by
  unfold lft at h
  simp only [Prod.mk.injEq, Lit.string.injEq, DataW.lit.injEq] at h
  exact Prod.ext h.1 h.2
theorem dm_inj {m m' : List KV} (h : dm m = dm m') : m = m' := by
  unfold dm at h
  exact (List.map_inj_right fun _ _ e => lft_inj e).1 (DataW.map.inj h)
/-- How what a text has lies in a map. -/
def hld : Value → Option (DataW Unit × List MemPlace)
  | .agg ⟨[.string s]⟩ => if s.size ≤ maxLen then some (.lit (.string s.data.toList), []) else none
  | _ => none
abbrev hv (v : List UInt8) : Value := .agg #[.string ⟨v.toArray⟩]
theorem hld_mk {v : List UInt8} (h : v.length ≤ maxLen) : hld (hv v) = some (.lit (.string v), []) := by
  have e : (ByteArray.mk v.toArray).size ≤ maxLen := by show v.toArray.size ≤ _; simpa using h
  show (if (ByteArray.mk v.toArray).size ≤ maxLen then some (DataW.lit (Lit.string v.toArray.toList), ([] : List MemPlace)) else none) = _
  rw [if_pos e]
theorem hld_inv {x : Value} {z : DataW Unit × List MemPlace} (h : hld x = some z) : ∃ v : List UInt8, x = hv v ∧ z = (.lit (.string v), []) ∧ v.length ≤ maxLen := by
  unfold hld at h
  split at h
  · rename_i s
    split at h
    · rename_i hs
      refine ⟨s.data.toList, rfl, (Option.some.inj h).symm, ?_⟩
      rw [Array.length_toList]
      exact hs
    · cases h
  · cases h
section
variable {P : Program} {k : TypeId} {w : World} {b n : Nat} {m : List KV}
/-- Block b is a map that has the texts m. -/
def MP (P : Program) (k : TypeId) (w : World) (b : Nat) (m : List KV) : Prop := w.ownsMap P k hld b m.length (dm m)
theorem MP.of {D : DataW Unit} (h : w.ownsMap P k hld b n D) (e : D = dm m) : MP P k w b m := by
  subst e
  obtain ⟨es, clock, hb, F, _, hD⟩ := h
  refine ⟨es, clock, hb, F, ?_, hD⟩
  have hl := congrArg Maps.size hD
  rw [dm_size, Maps.size_eq, length_sorted, List.length_map] at hl
  exact Nat.le_of_eq (Array.length_toList.symm.trans hl.symm)
theorem MP.kept {w' : World} {row : Option Nat} (h : MP P k w b m) (hg : w.grownBy w' row) (hne : some b ≠ row) : MP P k w' b m := World.ownsMap.kept h hg hne
theorem MP.below {w' : World} (h : MP P k w b m) (hg : Below w.heap.size w w') : MP P k w' b m := h.kept (row := none) ⟨hg.os, hg.tape, hg.output, hg.size, fun i hi _ => hg.block i hi⟩ (by simp)
theorem MP.drew (h : MP P k w b m) : MP P k w.drew b m := h
theorem MP.lt (h : MP P k w b m) : b < w.heap.size := World.ownsMap.lt h
theorem MP.ris (h : MP P k w b m) (K : Keyed P k) : Ris m := by
  obtain ⟨es, e, hp, _⟩ := World.ownsMap.canon h K
  unfold dm at e
  have e := DataW.map.inj e
  subst e
  rw [List.pairwise_map] at hp
  exact hp
theorem MP.max (h : MP P k w b m) (hk : P.underlying k = some .string) : ∀ p ∈ m, p.1.length ≤ maxLen ∧ p.2.length ≤ maxLen := by
  obtain ⟨es, clock, hb, F, _, hD⟩ := h
  intro p hp
  unfold dm at hD
  have e := DataW.map.inj hD
  have hm : lft p ∈ m.map lft := List.mem_map.2 ⟨p, hp, rfl⟩
  rw [e] at hm
  have hm := mem_sorted.1 hm
  obtain ⟨x, hx, ex⟩ := List.mem_map.1 hm
  obtain ⟨y, hy⟩ := F.reads x hx
  have hy2 := hy
  rw [Go.WideElems.rg_of hy] at ex
  obtain ⟨z, hz, ed⟩ := Go.WideElems.rd_val hy2
  obtain ⟨v, _, e2, hv⟩ := hld_inv hz
  have hkey := Go.WideElems.rd_key hy2
  rw [ex] at hkey ed
  obtain ⟨s, _, e3, hs⟩ := Maps.keyOf_str hk hkey
  subst e2
  simp only [lft, Lit.string.injEq, DataW.lit.injEq] at e3 ed
  subst e3
  exact ⟨hs, by rw [ed]; exact hv⟩
end
/-! What the model's steps do. -/
theorem getM_nil (k : List UInt8) : getM [] k = none := rfl
end Go.Proofs.YtdikilhobmkpkaaGreatDoor
