/- What the function that All hands back does: a round for each text. -/
import Derived.Test.YtdikilhobmkpkaaGreatDoorAll
import Derived.RangeFuncNested
import Derived.RangeFuncBound
import Derived.RangeFuncCalls
import Derived.RangeFuncLeaves
import Derived.Shelf.Abstract
import Derived.Shelf.RegionOpen
import Derived.OwnWalkIn
import Derived.TacticsInMore
import Derived.LoopNIn
import Derived.LoopIn
namespace Go.Proofs.YtdikilhobmkpkaaGreatDoor
open Go Go.RowKit Go.Maps Go.Shelf
attribute [local go_sem] Oper.semAt_some
/-- The two boxes that the function reads. -/
structure IT (w : World) (Bt Bv gv : Nat) (a : Option Addr) (ct : Nat) (m : List KV) : Prop where
  bt : Blk w Bt #[.slice a m.length ct] 26
  keys : LS w a (m.map (·.1))
  bv : Blk w Bv #[.slice (some ⟨gv, 0, none⟩) m.length m.length] 26
  vals : Blk w gv (row9 (valsTo m m.length) m.length) 9
theorem IT.blk {w w' : World} {Bt Bv gv : Nat} {a : Option Addr} {ct : Nat} {m : List KV} (h : IT w Bt Bv gv a ct m) (hk : ∀ i c t, Blk w i c t → t = 9 ∨ t = 26 → Blk w' i c t) : IT w' Bt Bv gv a ct m :=
  ⟨hk _ _ _ h.bt (.inr rfl), fun j hj => by
    obtain ⟨g, cur, h1, h2, h3⟩ := h.keys j hj
    exact ⟨g, cur, h1, hk _ _ _ h2 (.inl rfl), h3⟩, hk _ _ _ h.bv (.inr rfl), hk _ _ _ h.vals (.inl rfl)⟩
theorem IT.below {w w' : World} {Bt Bv gv : Nat} {a : Option Addr} {ct : Nat} {m : List KV} (h : IT w Bt Bv gv a ct m) (hb : Below w.heap.size w w') : IT w' Bt Bv gv a ct m := h.blk fun _ _ _ h1 _ => h1.belowSize hb
theorem vals_get {m : List KV} {k : Nat} (h : k < m.length) : (row9 (valsTo m m.length) m.length)[k]? = some (.string ⟨(m[k]).2.toArray⟩) := by
  rw [row9_get _ _ _ h]
  unfold valsTo
  rw [if_pos h]
  simp [h]
/-- A text and what it has, both short. -/
abbrev KVs := { p : KV // p.1.length ≤ 1000 ∧ p.2.length ≤ 1000 }
def unS (ms : List KVs) : List KV := ms.map (·.1)
theorem unS_length (ms : List KVs) : (unS ms).length = ms.length := by simp [unS]
theorem unS_get (ms : List KVs) (k : Nat) (h : k < ms.length) : (unS ms)[k]'(by rw [unS_length]; exact h) = (ms[k]).1 := by simp [unS]
def Sml (m : List KV) : Prop := ∀ p ∈ m, p.1.length ≤ 1000 ∧ p.2.length ≤ 1000
theorem unS_ex {m : List KV} (h : Sml m) : ∃ ms, unS ms = m := by
  induction m with
  | nil => exact ⟨[], rfl⟩
  | cons p r ih =>
    obtain ⟨ms, hms⟩ := ih (fun q hq => h q (List.mem_cons_of_mem _ hq))
    exact ⟨⟨p, h p (List.mem_cons_self ..)⟩ :: ms, by unfold unS at *; simp [hms]⟩
theorem unS_inj {a b : List KVs} (h : unS a = unS b) : a = b := (List.map_inj_right fun _ _ e => Subtype.ext e).1 h
abbrev encKV (x : KVs) : Array Value := #[.string ⟨x.1.1.toArray⟩, .string ⟨x.1.2.toArray⟩]
set_option maxRecDepth 100000 in
set_option maxHeartbeats 2000000 in
theorem all1_in (n : Nat) (hn : 1 ≤ n) (l Bt Bv gv : Nat) (a : Option Addr) (ct : Nat) (ms : List KVs) (hm : ms.length ≤ 100000) (J Jx : List KVs → World → Prop)
    (hY : ∀ pre x W, J pre W → pre.length < ms.length → YieldAt Fence.wide (n - 1) Tryz.prog l (encKV x) W fun e W' =>
      (e = .returned (.bool true) ∧ J (pre ++ [x]) W' ∧ (IT W Bt Bv gv a ct (unS ms) → IT W' Bt Bv gv a ct (unS ms))) ∨ (e = .returned (.bool false) ∧ Jx (pre ++ [x]) W'))
    (W : World) (hI : IT W Bt Bv gv a ct (unS ms)) (h0 : J [] W) :
    CallsIn Fence.wide n Tryz.prog 50 #[.func (.yield l) #[] #[], .pointer (some ⟨Bt, 0, none⟩), .pointer (some ⟨Bv, 0, none⟩)] W fun e W' => (∃ v, e = .returned v) ∧
      ((∃ ys, ys = ms ∧ J ys W') ∨ (∃ pre, (∃ k, k ≤ ms.length ∧ pre = ms.take k) ∧ Jx pre W')) := by
  have hul := unS_length ms
  have hbt : W.cell? ⟨Bt, 0, none⟩ = some (.slice a ms.length ct) := by rw [← hul]; exact hI.bt.cell 0
  clear hul
  refine callsIn_of_wp Tryz.func50 rfl trivial ?_ rfl
  simp only [Tryz.ntmps50, List.size_toArray, List.length_cons, List.length_nil, Nat.reduceAdd, Nat.reduceSub, Array.replicate_succ, Array.replicate_zero, List.push_toArray, List.append_toArray, List.nil_append, List.cons_append]
  gi_wp2
  gi_loopw [8] (fun i wr => ∃ k : Nat, k ≤ ms.length ∧ i = .int .i64 k ∧ J (ms.take k) wr ∧ IT wr Bt Bv gv a ct (unS ms))
    (fun i _ => ms.length - (intOf i).toNat)
  case atStart => exact ⟨0, Nat.zero_le _, rfl, h0, hI⟩
  case round =>
    obtain ⟨k, hk, rfl, hJs, hIr⟩ := hrel
    by_cases hlt : k < ms.length
    · have hltu : k < (unS ms).length := by rw [unS_length]; exact hlt
      obtain ⟨g, cur, rfl, hbk, hcu⟩ := hIr.keys k (by rw [List.length_map]; exact hltu)
      have hke : ((unS ms).map (·.1))[k]'(by rw [List.length_map]; exact hltu) = (ms[k]).1.1 := by rw [List.getElem_map, unS_get ms k hlt]
      rw [hke] at hcu
      have hck := (hbk.cell k).trans hcu
      have hcb : wr.cell? ⟨Bv, 0, none⟩ = some (.slice (some ⟨gv, 0, none⟩) ms.length ms.length) := by have := hIr.bv.cell 0; rw [unS_length] at this; exact this
      have hcv := (hIr.vals.cell k).trans (vals_get hltu)
      rw [unS_get ms k hlt] at hcv
      have hTk : ms.take (k + 1) = ms.take k ++ [ms[k]] := List.take_succ_eq_append_getElem hlt
      obtain ⟨fn, tmps, assign, body, hy, hR⟩ := hY _ ms[k] wr hJs (by rw [List.length_take]; omega)
      rw [← hTk] at hR
      clear hTk hke hcu hltu
      generalize ms[k] = p at *
      dsimp only [encKV] at hy
      have hi0 : (0 : Int) ≤ (k : Int) := Int.natCast_nonneg _
      have hi1 : (k : Int) < (ms.length : Int) := by omega
      gi_wp2
      refine hR.mono ?_
      rintro e W3 (⟨rfl, hJ3, hk3⟩ | ⟨rfl, hJx3⟩)
      · gi_wp2
        go_roundw
        case rel => exact ⟨k + 1, by omega, by go_num, hJ3, hk3 hIr⟩
        case measure => simp [intOf]; omega
      · gi_wp2
        refine bodyPost_ret (results_none rfl _ _ _) rfl ?_
        exact ⟨⟨_, rfl⟩, .inr ⟨_, ⟨k + 1, by omega, rfl⟩, hJx3⟩⟩
    · obtain rfl : k = ms.length := by omega
      gi_wp2
      go_end0
      exact ⟨⟨_, rfl⟩, .inl ⟨_, by rw [List.take_length], hJs⟩⟩
abbrev KpI (Bt Bv gv : Nat) (a : Option Addr) (ct : Nat) (m : List KV) (W W' : World) : Prop := IT W Bt Bv gv a ct m → IT W' Bt Bv gv a ct m
theorem all_stops (n : Nat) (hn : 1 ≤ n) (Bt Bv gv : Nat) (a : Option Addr) (ct : Nat) (ms : List KVs) (hm : ms.length ≤ 100000) (w : World) (hI : IT w Bt Bv gv a ct (unS ms)) :
    SeqStopsK Fence.wide n Tryz.prog 50 #[.pointer (some ⟨Bt, 0, none⟩), .pointer (some ⟨Bv, 0, none⟩)] encKV (KpI Bt Bv gv a ct (unS ms)) (fun ys => ys = ms) (fun pre => ∃ k, k ≤ ms.length ∧ pre = ms.take k) ms.length w :=
  fun l J Jx W hW _ _ hY h0 => all1_in n hn l Bt Bv gv a ct ms hm J Jx hY W (hI.below hW) h0
theorem kpI_t {Bt Bv gv : Nat} {a : Option Addr} {ct : Nat} {m : List KV} {A B C : World} (h : KpI Bt Bv gv a ct m A B) (k : KpI Bt Bv gv a ct m B C) : KpI Bt Bv gv a ct m A C := fun hi => k (h hi)
theorem kpI_b {Bt Bv gv : Nat} {a : Option Addr} {ct : Nat} {m : List KV} {w : World} (W : World) (l : Nat) (o o' : Obj) (_ : w.heap.size ≤ l) (h : W.heap[l]? = some o) (hc : o.isCells = false) (_ : o.isWalk = false) : KpI Bt Bv gv a ct m W (W.putObj l o') := fun hi => hi.blk fun i c t hb _ => hb.grown (grownBy_putObj' W l o') (fun e => by
  have e := Option.some.inj e
  subst e
  rw [hb.out] at h
  cases h
  cases hc)
end Go.Proofs.YtdikilhobmkpkaaGreatDoor
