/- What All does. What the function that All hands back does: a round for each text. What Encode does. -/
import Derived.Test.YtmbdhngoldganaaGreatDoorKys
import Derived.RangeFuncNested
import Derived.RangeFuncBound
import Derived.RangeFuncCalls
import Derived.RangeFuncLeaves
import Derived.Shelf.Abstract
import Derived.Shelf.RegionOpen
import Derived.OwnWalkIn
import Derived.TacticsInMore
import Derived.LoopNIn
import Derived.LoopIn
namespace Go.Proofs.YtmbdhngoldganaaGreatDoor
open Go Go.RowKit Go.Maps
def valsTo (m : List KV) (i : Nat) : Nat → List UInt8 := fun j => if j < i then (m.map (·.2)).getD j [] else []
theorem valsTo_zero (m : List KV) (n : Nat) : row9 (valsTo m 0) n = row9 (fun _ => []) n := by
  unfold row9 valsTo
  simp
theorem valsTo_succ (m : List KV) (n i : Nat) (h : i < m.length) : row9 (upd9 (valsTo m i) i (m[i]).2) n = row9 (valsTo m (i + 1)) n := by
  unfold row9
  congr 1
  funext j
  unfold upd9 valsTo
  by_cases h1 : j.val = i
  · rw [if_pos h1, if_pos (by omega), h1]
    simp [h]
  · rw [if_neg h1]
    by_cases h2 : j.val < i
    · rw [if_pos h2, if_pos (by omega)]
    · rw [if_neg h2, if_neg (by omega)]
/-- What a call of All leaves: the texts, and what they have, in two boxes. -/
structure AllP (m : List KV) (w : World) (e : Ending) (w' : World) : Prop where
  out : ∃ (Bt Bv : Nat) (at' : Option Addr) (ct : Nat) (gv : Nat), e = .returned (.func (.func 132) #[] #[.pointer (some ⟨Bt, 0, none⟩), .pointer (some ⟨Bv, 0, none⟩)]) ∧ w.heap.size ≤ Bt ∧ w.heap.size ≤ Bv ∧ w.heap.size ≤ gv ∧
    Blk w' Bt #[.slice at' m.length ct] 28 ∧ LS w' at' (m.map (·.1)) ∧ Blk w' Bv #[.slice (some ⟨gv, 0, none⟩) m.length m.length] 28 ∧ Blk w' gv (row9 (valsTo m m.length) m.length) 9
  below : Below w.heap.size w w'
theorem zSl : (∀ w, (zeroValue 28).run Tryz.prog w = .ok (.slice none 0 0) w) := fun w => Tryz.zeroValue28 w
theorem getM_at {m : List KV} (h : Ris m) {p : KV} (hp : p ∈ m) : getM m p.1 = some p.2 := by
  unfold getM
  induction m with
  | nil => cases hp
  | cons q r ih =>
    rw [List.find?_cons]
    rcases List.mem_cons.1 hp with e | hr
    · subst e
      simp
    · have hne : (q.1 == p.1) = false := by
        rw [beq_eq_false_iff_ne]
        intro e
        have := (List.pairwise_cons.1 h).1 p hr
        rw [e, Go.WideAt.bytes_irrefl] at this
        cases this
      rw [hne]
      exact ih (List.pairwise_cons.1 h).2 hr
theorem valM_at {m : List KV} (h : Ris m) {p : KV} (hp : p ∈ m) : valM m p.1 = p.2 := by unfold valM; rw [getM_at h hp]; rfl
theorem ST.drewS {w : World} {b : Nat} {m : List KV} (h : ST w b m) : ST w.drew b m := by
  obtain ⟨mb, h1, h2⟩ := h.out
  exact ⟨mb, h1.drew, h2.drew⟩
section
variable {ops : Array Oper} {rest : List Oper} {op : Oper} {a : Act} {w : World} {Q : Exit → Act → World → Prop}
theorem wpList_allocSl (hgd : op.guard = none) (ho : op.op = .alloc 28)
    (h : ∀ w1 : World, Below w.heap.size w w1 → w1.heap.size = w.heap.size + 1 → Blk w1 w.heap.size #[.slice none 0 0] 28 → wpList Tryz.prog ops Q rest (a.put op.dst (.pointer (some ⟨w.heap.size, 0, none⟩))) w1) : wpList Tryz.prog ops Q (op :: rest) a w := by
  refine wpList_run hgd _ _ ?_ (h _ ((Below.refl _ _).alloc (Nat.le_refl _) _) (by simp) (Blk.new w #[.slice none 0 0] 28))
  unfold execOp
  simp only [ho, Instr.alloc, Sem.run_bind, zSl, Result.andThen_ok]
  rfl
theorem wpList_storeSl (hgd : op.guard = none) (x y : Operand) (ho : op.op = .store 28 x y) (b : Nat) (hx : a.eval x = .pointer (some ⟨b, 0, none⟩)) (at' : Option Addr) (n c : Nat) (hy : a.eval y = .slice at' n c) (u : Value) (hb : Blk w b #[u] 28)
    (h : ∀ w1 : World, w.grownBy w1 (some b) → w1.heap.size = w.heap.size → Blk w1 b #[.slice at' n c] 28 → wpList Tryz.prog ops Q rest (a.put op.dst undef) w1) : wpList Tryz.prog ops Q (op :: rest) a w :=
  wpList_storeCell hgd _ x y ho b 0 hx (.slice at' n c) hy _ _ hb (by kernel_rfl) rfl (by simp [Value.oneCell']) (Nat.zero_lt_one) (fun w1 h1 h2 h3 => h w1 h1 h2 h3)
theorem wpList_loadSl (hgd : op.guard = none) (x : Operand) (ho : op.op = .load 28 x) (b : Nat) (hx : a.eval x = .pointer (some ⟨b, 0, none⟩)) (v : Value) (hb : Blk w b #[v] 28)
    (h : wpList Tryz.prog ops Q rest (a.put op.dst v) w) : wpList Tryz.prog ops Q (op :: rest) a w :=
  wpList_loadCell hgd _ x ho b 0 hx _ _ hb _ Tryz.underlying28 rfl v rfl h
end
set_option maxRecDepth 100000 in
set_option maxHeartbeats 1000000 in
theorem all_st (b : Nat) (m : List KV) (w : World) (h : ST w b m) (hm : m.length ≤ 100000) : Calls Tryz.prog 77 #[.pointer (some ⟨b, 0, none⟩)] w (AllP m w) := by
  obtain ⟨mb, h1, h2⟩ := h.out
  have HT := texts_any b mb w h1
  have HK := keys_any (some mb) w
  have HS := sorted_any mb m w h2 hm
  have tok1 : True := trivial
  have hmx := h.max
  obtain ⟨P, hP⟩ : ∃ P, P = AllP m w := ⟨_, rfl⟩
  rw [← hP]
  have HP : Hid (P = AllP m w) := hP
  clear hP
  go_enter Tryz.func77, Tryz.ntmps77
  go_wp2_with (first
    | (go_at_call 129; refine HT.mono ?_; rintro e w1 ⟨rfl, hw1⟩; have hw1 := hw1.symm; subst hw1)
    | (go_at_call 130; refine HS.mono ?_; rintro e w3 ⟨aT, cT, rfl, hL3, hw3⟩)
    | (go_at_call 131; refine HK.mono ?_; rintro e w2 ⟨rfl, rfl⟩)
    | (with_reducible refine at_list ?_; first
      | (refine wpList_allocSl (op := ⟨some 3, _, _, _, _, _⟩) rfl rfl ?_; intro w4 hw4 hs4 hb4; replace hs4 := hs4.symm; have hB4 := hw3.trans (hw4.mono hw3.size))
      | (have tk := tok1; refine wpList_storeSl (op := ⟨none, _, _, _, _, _⟩) rfl _ _ rfl w3.heap.size rfl aT m.length cT rfl _ hb4 ?_; intro w5 hg5 hs5 hb5; replace hs5 := hs5.symm; clear tok1; have hB5 := hB4.trans (below_of_grown hg5 hw3.size hB4.size))
      | (refine wpList_loadSl (op := ⟨some 11, _, _, _, _, _⟩) rfl _ rfl w3.heap.size rfl _ hb5 ?_)
      | (refine wpList_makeS (op := ⟨some 13, _, _, _, _, _⟩) rfl _ _ rfl m.length rfl rfl (by omega) ?_; intro w6 hw6 hs6 hb6; replace hs6 := hs6.symm; have hB6 := hB5.trans (hw6.mono hB5.size); have hc6 := hb5.belowSize hw6)
      | (refine wpList_allocSl (op := ⟨some 4, _, _, _, _, _⟩) rfl rfl ?_; intro w7 hw7 hs7 hb7; replace hs7 := hs7.symm; have hB7 := hB6.trans (hw7.mono hB6.size); have hc7 := hc6.belowSize hw7; have hd7 := hb6.belowSize hw7)
      | (refine wpList_storeSl (op := ⟨none, _, _, _, _, _⟩) rfl _ _ rfl w6.heap.size rfl (some ⟨w5.heap.size, 0, none⟩) m.length m.length rfl _ hb7 ?_; intro w8 hg8 hs8 hb8; replace hs8 := hs8.symm; have hB8 := hB7.trans (below_of_grown hg8 hB6.size hB7.size); have hc8 := hc7.grown hg8 (fun e => absurd (Option.some.inj e) (Nat.ne_of_lt hc6.lt)); have hd8 := hd7.grown hg8 (fun e => absurd (Option.some.inj e) (Nat.ne_of_lt hb6.lt)))
      | (refine wpList_loadSl (op := ⟨some 14, _, _, _, _, _⟩) rfl _ rfl w3.heap.size rfl _ hc8 ?_)))
  have hB38 : Below w3.heap.size w3 w8 := ((hw4.trans (below_of_grown hg5 (Nat.le_refl _) hw4.size)).trans ((hw6.mono (by omega)).trans (hw7.mono (by omega)))).trans (below_of_grown hg8 (by omega) (by omega))
  have e5 : w3.heap.size < w5.heap.size := by omega
  have e6 : w5.heap.size < w6.heap.size := by omega
  have l3 := hw3.size
  generalize w5.heap.size = gv at *
  generalize w6.heap.size = Bv at *
  have hw83 := hB38
  clear hB38 hw4 hw6 hw7 hg5 hg8 hs4 hs5 hs6 hs7 hs8 hB4 hB5 hB6 hB7 hb4 hb5 hb6 hb7 hc6 hc7 hd7 HT HK HS
  rw [← valsTo_zero m] at hd8
  have hR := h.ris
  go_loopw [16] (fun v16 wl => ∃ i : Nat, i ≤ m.length ∧ v16 = .int .i64 i ∧ Below w3.heap.size w3 wl ∧ Blk wl w3.heap.size #[.slice aT m.length cT] 28 ∧ Blk wl Bv #[.slice (some ⟨gv, 0, none⟩) m.length m.length] 28 ∧ Blk wl gv (row9 (valsTo m i) m.length) 9) (fun v16 _ => m.length - (intOf v16).toNat)
  case atStart => exact ⟨0, by omega, rfl, hw83, hc8, hb8, hd8⟩
  case round =>
    obtain ⟨i, hi, rfl, hBr, hx3, hxv, hxg⟩ := hrel
    clear hw83 hc8 hb8 hd8
    have hBw : Below w.heap.size w wr := hw3.trans (hBr.mono hw3.size)
    have hLr := hL3.below hBr
    by_cases hlt : i < m.length
    · obtain ⟨g, cur, rfl, hbk, hcu⟩ := hLr i (by rw [List.length_map]; exact hlt)
      have hck := (hbk.cell i).trans hcu
      clear hcu
      have hval := valM_at hR (List.getElem_mem hlt)
      have hmk := hmx _ (List.getElem_mem hlt)
      have hke : (m.map (·.1))[i]'(by rw [List.length_map]; exact hlt) = (m[i]).1 := by simp
      rw [hke] at hck
      have HV := fun w1 (hs : ST w1 b m) => value_st b m (m[i]).1 w1 hs hmk.1
      rw [hval] at HV
      have hsc := valsTo_succ m m.length i hlt
      have hi0 : (0 : Int) ≤ (i : Int) := Int.natCast_nonneg _
      have hi1 : (i : Int) < (m.length : Int) := by omega
      clear hval hke hmk
      generalize (m[i]).2 = vv at *
      generalize (m[i]).1 = kk at *
      have cv : wr.cell? ⟨Bv, 0, none⟩ = some (.slice (some ⟨gv, 0, none⟩) m.length m.length) := hxv.cell 0
      go_wp2_with fail
      have hcx : wr.cell? ⟨gv, i, none⟩ = some (.string ⟨(valsTo m i i).toArray⟩) := (hxg.cell i).trans (row9_get _ _ _ hlt)
      have hfx : wr.frozen? ⟨gv, i, none⟩ = false := hxg.frozen i
      go_region_held3 (fun w' => w'.cell? ⟨Bv, 0, none⟩ = some (.slice (some ⟨gv, 0, none⟩) m.length m.length)) ((go_split_ands; first | assumption | (refine ((hxv9.setCell_other ⟨gv, i, none⟩ (by show Bv ≠ gv; omega) _).cell 0)))) ((go_at_call 113; refine (HV _ (h.below hBw).drewS).mono ?_; rintro e w9 ⟨rfl, hw9⟩; have cv9 := cell_keep (w := wr.drew) hw9 cv; have hcx9 := cell_keep (w := wr.drew) hw9 hcx; have hxg9 : Blk w9 gv (row9 (valsTo m i) m.length) 9 := hxg.drew.belowSize hw9; have hfx9 := hxg9.frozen i; have hxv9 : Blk w9 Bv #[.slice (some ⟨gv, 0, none⟩) m.length m.length] 28 := hxv.drew.belowSize hw9))
      go_wp2_with fail
      have hg10 := (hxg9.setCell i (.string ⟨vv.toArray⟩))
      rw [row9_set, hsc] at hg10
      have hgr : w9.grownBy (w9.setCell ⟨gv, i, none⟩ (.string ⟨vv.toArray⟩)) (some gv) := grown_setCell gv _ i w9
      have hB9 : Below w3.heap.size w3 w9 := hBr.drew.trans (hw9.mono hBr.size)
      go_roundw
      case rel => exact ⟨i + 1, by omega, by go_num, hB9.trans (below_of_grown hgr (by omega) hB9.size), (hx3.drew.belowSize hw9).grown hgr (fun e => by have := Option.some.inj e; omega), hxv9.grown hgr (fun e => by have := Option.some.inj e; omega), hg10⟩
      case measure => simp [intOf]; omega
    · obtain rfl : i = m.length := by omega
      go_wp2_with fail
      rw [HP.out]
      exact ⟨⟨_, _, aT, cT, _, rfl, l3, by omega, by omega, hx3, hLr, hxv, hxg⟩, hBw⟩
end Go.Proofs.YtmbdhngoldganaaGreatDoor
namespace Go.Proofs.YtmbdhngoldganaaGreatDoor
open Go Go.RowKit Go.Maps Go.Shelf
attribute [local go_sem] Oper.semAt_some
/-- The two boxes that the function reads. -/
structure IT (w : World) (Bt Bv gv : Nat) (a : Option Addr) (ct : Nat) (m : List KV) : Prop where
  bt : Blk w Bt #[.slice a m.length ct] 28
  keys : LS w a (m.map (·.1))
  bv : Blk w Bv #[.slice (some ⟨gv, 0, none⟩) m.length m.length] 28
  vals : Blk w gv (row9 (valsTo m m.length) m.length) 9
theorem IT.blk {w w' : World} {Bt Bv gv : Nat} {a : Option Addr} {ct : Nat} {m : List KV} (h : IT w Bt Bv gv a ct m) (hk : ∀ i c t, Blk w i c t → t = 9 ∨ t = 28 → Blk w' i c t) : IT w' Bt Bv gv a ct m :=
  ⟨hk _ _ _ h.bt (.inr rfl), fun j hj => by
    obtain ⟨g, cur, h1, h2, h3⟩ := h.keys j hj
    exact ⟨g, cur, h1, hk _ _ _ h2 (.inl rfl), h3⟩, hk _ _ _ h.bv (.inr rfl), hk _ _ _ h.vals (.inl rfl)⟩
theorem IT.below {w w' : World} {Bt Bv gv : Nat} {a : Option Addr} {ct : Nat} {m : List KV} (h : IT w Bt Bv gv a ct m) (hb : Below w.heap.size w w') : IT w' Bt Bv gv a ct m := h.blk fun _ _ _ h1 _ => h1.belowSize hb
theorem vals_get {m : List KV} {k : Nat} (h : k < m.length) : (row9 (valsTo m m.length) m.length)[k]? = some (.string ⟨(m[k]).2.toArray⟩) := by
  rw [row9_get _ _ _ h]
  unfold valsTo
  rw [if_pos h]
  simp [h]
/-- A text and what it has, both short. -/
abbrev KVs := { p : KV // p.1.length ≤ 1000 ∧ p.2.length ≤ 1000 }
def unS (ms : List KVs) : List KV := ms.map (·.1)
theorem unS_length (ms : List KVs) : (unS ms).length = ms.length := by simp [unS]
theorem unS_get (ms : List KVs) (k : Nat) (h : k < ms.length) : (unS ms)[k]'(by rw [unS_length]; exact h) = (ms[k]).1 := by simp [unS]
def Sml (m : List KV) : Prop := ∀ p ∈ m, p.1.length ≤ 1000 ∧ p.2.length ≤ 1000
theorem unS_ex {m : List KV} (h : Sml m) : ∃ ms, unS ms = m := by
  induction m with
  | nil => exact ⟨[], rfl⟩
  | cons p r ih =>
    obtain ⟨ms, hms⟩ := ih (fun q hq => h q (List.mem_cons_of_mem _ hq))
    exact ⟨⟨p, h p (List.mem_cons_self ..)⟩ :: ms, by unfold unS at *; simp [hms]⟩
abbrev encKV (x : KVs) : Array Value := #[.string ⟨x.1.1.toArray⟩, .string ⟨x.1.2.toArray⟩]
set_option maxRecDepth 100000 in
set_option maxHeartbeats 2000000 in
theorem all1_in (n : Nat) (hn : 1 ≤ n) (l Bt Bv gv : Nat) (a : Option Addr) (ct : Nat) (ms : List KVs) (hm : ms.length ≤ 100000) (J Jx : List KVs → World → Prop)
    (hY : ∀ pre x W, J pre W → pre.length < ms.length → YieldAt Fence.wide (n - 1) Tryz.prog l (encKV x) W fun e W' =>
      (e = .returned (.bool true) ∧ J (pre ++ [x]) W' ∧ (IT W Bt Bv gv a ct (unS ms) → IT W' Bt Bv gv a ct (unS ms))) ∨ (e = .returned (.bool false) ∧ Jx (pre ++ [x]) W'))
    (W : World) (hI : IT W Bt Bv gv a ct (unS ms)) (h0 : J [] W) :
    CallsIn Fence.wide n Tryz.prog 132 #[.func (.yield l) #[] #[], .pointer (some ⟨Bt, 0, none⟩), .pointer (some ⟨Bv, 0, none⟩)] W fun e W' => (∃ v, e = .returned v) ∧
      ((∃ ys, ys = ms ∧ J ys W') ∨ (∃ pre, (∃ k, k ≤ ms.length ∧ pre = ms.take k) ∧ Jx pre W')) := by
  have hul := unS_length ms
  have hbt : W.cell? ⟨Bt, 0, none⟩ = some (.slice a ms.length ct) := by rw [← hul]; exact hI.bt.cell 0
  clear hul
  refine callsIn_of_wp Tryz.func132 rfl trivial ?_ rfl
  simp only [Tryz.ntmps132, List.size_toArray, List.length_cons, List.length_nil, Nat.reduceAdd, Nat.reduceSub, Array.replicate_succ, Array.replicate_zero, List.push_toArray, List.append_toArray, List.nil_append, List.cons_append]
  gi_wp2
  gi_loopw [8] (fun i wr => ∃ k : Nat, k ≤ ms.length ∧ i = .int .i64 k ∧ J (ms.take k) wr ∧ IT wr Bt Bv gv a ct (unS ms))
    (fun i _ => ms.length - (intOf i).toNat)
  case atStart => exact ⟨0, Nat.zero_le _, rfl, h0, hI⟩
  case round =>
    obtain ⟨k, hk, rfl, hJs, hIr⟩ := hrel
    by_cases hlt : k < ms.length
    · have hltu : k < (unS ms).length := by rw [unS_length]; exact hlt
      obtain ⟨g, cur, rfl, hbk, hcu⟩ := hIr.keys k (by rw [List.length_map]; exact hltu)
      have hke : ((unS ms).map (·.1))[k]'(by rw [List.length_map]; exact hltu) = (ms[k]).1.1 := by rw [List.getElem_map, unS_get ms k hlt]
      rw [hke] at hcu
      have hck := (hbk.cell k).trans hcu
      have hcb : wr.cell? ⟨Bv, 0, none⟩ = some (.slice (some ⟨gv, 0, none⟩) ms.length ms.length) := by have := hIr.bv.cell 0; rw [unS_length] at this; exact this
      have hcv := (hIr.vals.cell k).trans (vals_get hltu)
      rw [unS_get ms k hlt] at hcv
      have hTk : ms.take (k + 1) = ms.take k ++ [ms[k]] := List.take_succ_eq_append_getElem hlt
      obtain ⟨fn, tmps, assign, body, hy, hR⟩ := hY _ ms[k] wr hJs (by rw [List.length_take]; omega)
      rw [← hTk] at hR
      clear hTk hke hcu hltu
      generalize ms[k] = p at *
      dsimp only [encKV] at hy
      have hi0 : (0 : Int) ≤ (k : Int) := Int.natCast_nonneg _
      have hi1 : (k : Int) < (ms.length : Int) := by omega
      gi_wp2
      refine hR.mono ?_
      rintro e W3 (⟨rfl, hJ3, hk3⟩ | ⟨rfl, hJx3⟩)
      · gi_wp2
        go_roundw
        case rel => exact ⟨k + 1, by omega, by go_num, hJ3, hk3 hIr⟩
        case measure => simp [intOf]; omega
      · gi_wp2
        refine bodyPost_ret (results_none rfl _ _ _) rfl ?_
        exact ⟨⟨_, rfl⟩, .inr ⟨_, ⟨k + 1, by omega, rfl⟩, hJx3⟩⟩
    · obtain rfl : k = ms.length := by omega
      gi_wp2
      go_end0
      exact ⟨⟨_, rfl⟩, .inl ⟨_, by rw [List.take_length], hJs⟩⟩
abbrev KpI (Bt Bv gv : Nat) (a : Option Addr) (ct : Nat) (m : List KV) (W W' : World) : Prop := IT W Bt Bv gv a ct m → IT W' Bt Bv gv a ct m
theorem all_stops (n : Nat) (hn : 1 ≤ n) (Bt Bv gv : Nat) (a : Option Addr) (ct : Nat) (ms : List KVs) (hm : ms.length ≤ 100000) (w : World) (hI : IT w Bt Bv gv a ct (unS ms)) :
    SeqStopsK Fence.wide n Tryz.prog 132 #[.pointer (some ⟨Bt, 0, none⟩), .pointer (some ⟨Bv, 0, none⟩)] encKV (KpI Bt Bv gv a ct (unS ms)) (fun ys => ys = ms) (fun pre => ∃ k, k ≤ ms.length ∧ pre = ms.take k) ms.length w :=
  fun l J Jx W hW _ _ hY h0 => all1_in n hn l Bt Bv gv a ct ms hm J Jx hY W (hI.below hW) h0
theorem kpI_t {Bt Bv gv : Nat} {a : Option Addr} {ct : Nat} {m : List KV} {A B C : World} (h : KpI Bt Bv gv a ct m A B) (k : KpI Bt Bv gv a ct m B C) : KpI Bt Bv gv a ct m A C := fun hi => k (h hi)
theorem kpI_b {Bt Bv gv : Nat} {a : Option Addr} {ct : Nat} {m : List KV} {w : World} (W : World) (l : Nat) (o o' : Obj) (_ : w.heap.size ≤ l) (h : W.heap[l]? = some o) (hc : o.isCells = false) (_ : o.isWalk = false) : KpI Bt Bv gv a ct m W (W.putObj l o') := fun hi => hi.blk fun i c t hb _ => hb.grown (grownBy_putObj' W l o') (fun e => by
  have e := Option.some.inj e
  subst e
  rw [hb.out] at h
  cases h
  cases hc)
end Go.Proofs.YtmbdhngoldganaaGreatDoor
namespace Go.Proofs.YtmbdhngoldganaaGreatDoor
open Go Go.RowKit Go.Maps Go.Shelf
attribute [local go_sem] Oper.semAt_some
def kvB (p : KV) : List UInt8 := (num p.1.length 4 ++ p.1) ++ (num p.2.length 4 ++ p.2)
def kvsB (m : List KV) : List UInt8 := m.flatMap kvB
/-- A state's bytes. -/
def encM (m : List KV) : List UInt8 := num m.length 4 ++ kvsB m
theorem kvsB_nil : kvsB [] = [] := rfl
theorem kvsB_snoc (m : List KV) (p : KV) : kvsB (m ++ [p]) = kvsB m ++ kvB p := by simp [kvsB]
theorem kvB_length (p : KV) : (kvB p).length = 8 + p.1.length + p.2.length := by simp [kvB, num_length]; omega
theorem kvsB_le : ∀ (ms : List KVs), (kvsB (unS ms)).length ≤ 2008 * ms.length
  | [] => by simp [kvsB, unS]
  | p :: r => by
    have h := kvsB_le r
    have h1 := p.2.1
    have h2 := p.2.2
    have e : kvsB (unS (p :: r)) = kvB p.1 ++ kvsB (unS r) := by simp [kvsB, unS]
    rw [e, List.length_append, kvB_length, List.length_cons]
    omega
theorem WR.turn {w w' : World} {b : Nat} {l : List UInt8} {row : Option Nat} (h : WR w b l) (hg : w.grownBy w' row) (hr : ∀ r, row = some r → ∃ o : Obj, w.heap[r]? = some o ∧ o.isCells = false) : WR w' b l := by
  obtain ⟨sl, h1, h2⟩ := h.out
  refine ⟨sl, h1.grown hg (fun e => ?_), ?_⟩
  · obtain ⟨o, ho, hc⟩ := hr b e.symm
    rw [h1.out] at ho
    cases ho
    cases hc
  · rcases h2 with h2 | ⟨g, cap, k1, k2, k3⟩
    · exact .inl h2
    · refine .inr ⟨g, cap, k1, k2, k3.grown hg (fun e => ?_)⟩
      obtain ⟨o, ho, hc⟩ := hr g e.symm
      obtain ⟨cur, fr, h5, _⟩ := k3.out
      rw [h5] at ho
      cases ho
      cases hc
theorem Blk.turn {w w' : World} {b : Nat} {c : Array Value} {t : TypeId} {row : Option Nat} (h : Blk w b c t) (hg : w.grownBy w' row) (hr : ∀ r, row = some r → ∃ o : Obj, w.heap[r]? = some o ∧ o.isCells = false) : Blk w' b c t := h.grown hg (fun e => by
  obtain ⟨o, ho, hc⟩ := hr b e.symm
  rw [h.out] at ho
  cases ho
  cases hc)
theorem Puts.keepsFrom {w w' : World} {b : Nat} {l t : List UInt8} (h : Puts w w' b l t) (B : Nat) : KeepsFrom B w w' :=
  ⟨h.below.size, fun k o _ hk ho => h.keeps.all k o hk (fun c fr => ⟨fun e => (by subst e; cases ho), fun e => (by subst e; cases ho)⟩)⟩
set_option maxRecDepth 100000 in
set_option maxHeartbeats 2000000 in
theorem encode_core (pv : Value) (ms : List KVs) (w : World) (hm : ms.length ≤ 2000)
    (HL : ∀ w', Below w.heap.size w w' → Calls Tryz.prog 76 #[pv] w' fun e w'' => e = .returned (.int .i64 (ms.length : Nat)) ∧ w'' = w')
    (HA : ∀ w', Below w.heap.size w w' → Calls Tryz.prog 77 #[pv] w' (AllP (unS ms) w')) :
    Calls Tryz.prog 33 #[pv] w fun e w' => e = .returned (.string ⟨(encM (unS ms)).toArray⟩) ∧ Below w.heap.size w w' := by
  have HW := neww_any w
  refine (callsIn_wide (n := 6)).1 (callsIn_of_wp_marks Tryz.func33 rfl trivial ?_ rfl)
  refine wpIn_wide.2 ?_
  simp only [Tryz.ntmps33, List.size_toArray, List.length_cons, List.length_nil, Nat.reduceAdd, Nat.reduceSub, Array.replicate_succ, Array.replicate_zero, List.push_toArray, List.append_toArray, List.nil_append, List.cons_append]
  go_wp2_with (first
    | (go_at_call 48; refine HW.mono ?_; rintro e w1 ⟨rfl, hw1, hW1⟩))
  have hb2 := Blk.new w1 #[.pointer (some ⟨w.heap.size, 0, none⟩)] 114
  have hw2 : Below w1.heap.size w1 (w1.alloc (.cells #[.pointer (some ⟨w.heap.size, 0, none⟩)] 114)) := (Below.refl _ _).alloc (Nat.le_refl _) _
  generalize hW2 : w1.alloc (.cells #[.pointer (some ⟨w.heap.size, 0, none⟩)] 114) = w2 at *
  clear hW2
  have hB2 := hw1.trans (hw2.mono hw1.size)
  have hWR2 := hW1.below hw2
  have HC := fun w' (h : WR w' w.heap.size []) => wcount_any w.heap.size [] (ms.length : Nat) w' h (by simp) (by omega)
  rw [Int.toNat_natCast] at HC
  have hnl := num_length 4 ms.length
  have HEm : Hid (encM (unS ms) = num ms.length 4 ++ kvsB (unS ms)) := by unfold encM; rw [unS_length]; exact rfl
  generalize num ms.length 4 = nn at *
  have c2 : w2.cell? ⟨w1.heap.size, 0, none⟩ = some (.pointer (some ⟨w.heap.size, 0, none⟩)) := hb2.cell 0
  go_region_held3 (fun w' => w'.cell? ⟨w1.heap.size, 0, none⟩ = some (.pointer (some ⟨w.heap.size, 0, none⟩))) ((go_split_ands; assumption)) (first
    | (go_at_call 76; refine (HL _ hB2.drew).mono ?_; rintro e w' ⟨rfl, hw'⟩; have hw' := hw'.symm; subst hw')
    | (go_at_call 75; refine (HC _ (hWR2.below (Below.refl _ _).drew)).mono ?_; rintro e w3 ⟨rfl, hP3⟩; have hb3 : Blk w3 w1.heap.size #[.pointer (some ⟨w.heap.size, 0, none⟩)] 114 := hb2.drew.puts hP3 (by decide) (by decide); have c3 : w3.cell? ⟨w1.heap.size, 0, none⟩ = some (.pointer (some ⟨w.heap.size, 0, none⟩)) := hb3.cell 0))
  have hB3 : Below w.heap.size w w3 := hB2.drew.trans hP3.below
  have hWR3 := hP3.wr
  rw [List.nil_append] at hWR3
  clear hP3 c2 hb2 hw2 hWR2 hW1 HW HC
  go_wp2_with (go_at_call 77; refine (HA _ hB3).mono ?_; rintro e w4 ⟨⟨Bt, Bv, aT, ct, gv, rfl, l1, l2, l3, i1, i2, i3, i4⟩, hw4⟩)
  have hI4 : IT w4 Bt Bv gv aT ct (unS ms) := ⟨i1, i2, i3, i4⟩
  have hB4 := hB3.trans (hw4.mono hB3.size)
  have hWR4 := hWR3.below hw4
  have hb4 := hb3.belowSize hw4
  clear i1 i2 i3 i4 l1 l2 l3 hw4 hWR3 hb3 c3 hB3 HL HA hB2 hw1
  have HT := fun l s w' (h : WR w' w.heap.size l) (hl : l.length + s.length ≤ 274877906944) => wtext_any w.heap.size l s w' h hl
  refine (wpIn_wide (n := 6)).1 ?_
  refine wpIn_rangeFunc_ownG rfl (by omega) (gf := 132) (lb := #[.pointer (some ⟨Bt, 0, none⟩), .pointer (some ⟨Bv, 0, none⟩)]) rfl trivial (enters_of Tryz.func132 (by kernel_rfl) rfl)
    (all_stops 5 (by omega) Bt Bv gv aT ct ms (by omega) w4 hI4) kpI_t (kpI_b (w := w4)) (Below.refl _ _) (fun _ => rfl)
    (fun pre W => (WR W w.heap.size (nn ++ kvsB (unS pre)) ∧ Blk W w1.heap.size #[.pointer (some ⟨w.heap.size, 0, none⟩)] 114) ∧ Below w.heap.size w W)
    (fun _ _ _ => False)
    (fun s W W' row h hg hr => ⟨⟨h.1.1.turn hg (fun r e => (hr r e).2), h.1.2.turn hg (fun r e => (hr r e).2)⟩, h.2.grown hg h.2.size (fun k e => Nat.le_trans hB4.size (hr k e).1)⟩)
    (fun _ _ _ _ _ h _ _ => h)
    ⟨⟨by rw [show kvsB (unS []) = [] from rfl, List.append_nil]; exact hWR4, hb4⟩, hB4⟩
    (fun x => { tmps := #[pv, undef, .string ⟨#[]⟩, .pointer (some ⟨w1.heap.size, 0, none⟩), .string ⟨x.1.1.toArray⟩, .string ⟨x.1.2.toArray⟩, .pointer (some ⟨w.heap.size, 0, none⟩), .pointer (some ⟨w.heap.size, 0, none⟩), pv, .int .i64 (ms.length : Nat), .tuple #[], pv, .func (.func 132) #[] #[.pointer (some ⟨Bt, 0, none⟩), .pointer (some ⟨Bv, 0, none⟩)], .string ⟨x.1.1.toArray⟩, .string ⟨x.1.2.toArray⟩, undef, undef, undef, undef, undef, undef, undef, undef], defers := [] }) ?assign ?body ?done ?stop
  case assign =>
    intro l x W K hK
    gi_wp2
    exact hK
  case body =>
    rintro l pre x W ⟨⟨hWR, hbx⟩, hB⟩ hlt
    have hl := kvsB_le pre
    have hx1 := x.2.1
    have hx2 := x.2.2
    have cb : W.cell? ⟨w1.heap.size, 0, none⟩ = some (.pointer (some ⟨w.heap.size, 0, none⟩)) := hbx.cell 0
    have hE : Hid (nn ++ kvsB (unS (pre ++ [x])) = ((nn ++ kvsB (unS pre)) ++ (num x.1.1.length 4 ++ x.1.1)) ++ (num x.1.2.length 4 ++ x.1.2)) := by
      have e : unS (pre ++ [x]) = unS pre ++ [x.1] := by simp [unS]
      rw [e, kvsB_snoc]
      unfold kvB
      simp only [List.append_assoc]
      trivial
    have H1 := fun w' (h : WR w' w.heap.size (nn ++ kvsB (unS pre))) => HT _ x.1.1 w' h (by rw [List.length_append]; omega)
    have H2 := fun w' (h : WR w' w.heap.size ((nn ++ kvsB (unS pre)) ++ (num x.1.1.length 4 ++ x.1.1))) => HT _ x.1.2 w' h (by simp only [List.length_append, num_length]; omega)
    generalize nn ++ kvsB (unS pre) = r0 at *
    generalize num x.1.1.length 4 ++ x.1.1 = t1 at *
    generalize num x.1.2.length 4 ++ x.1.2 = t2 at *
    have h14 : 1 ≤ 6 - 1 - 1 := by omega
    gi_wp2_with (first
      | (refine ⟨trivial, ?_⟩; gi_at_call 49; have tk := H1; refine (CallsIn.inRound l (callsIn_wide.2 (H1 _ hWR))).mono ?_; clear H1; rintro e w5 ⟨rfl, hP5⟩; have hb5 : Blk w5 w1.heap.size #[.pointer (some ⟨w.heap.size, 0, none⟩)] 114 := hbx.puts hP5 (by decide) (by decide); have cb5 : w5.cell? ⟨w1.heap.size, 0, none⟩ = some (.pointer (some ⟨w.heap.size, 0, none⟩)) := hb5.cell 0)
      | (refine ⟨trivial, ?_⟩; gi_at_call 49; refine (CallsIn.inRound l (callsIn_wide.2 (H2 _ hP5.wr))).mono ?_; rintro e w6 ⟨rfl, hP6⟩; have hb6 : Blk w6 w1.heap.size #[.pointer (some ⟨w.heap.size, 0, none⟩)] 114 := hb5.puts hP6 (by decide) (by decide)))
    refine ⟨(hP5.keepsFrom _).trans (hP6.keepsFrom _), fun hi => ?_, ⟨by rw [hE.out]; exact hP6.wr, hb6⟩, (hB.trans hP5.below).trans hP6.below⟩
    exact hi.blk fun i c t hb ht => (hb.puts hP5 (by rcases ht with rfl | rfl <;> decide) (by rcases ht with rfl | rfl <;> decide)).puts hP6 (by rcases ht with rfl | rfl <;> decide) (by rcases ht with rfl | rfl <;> decide)
  case done =>
    rintro D ys W hD rfl ⟨⟨hWR, hbx⟩, hB⟩ hK
    have cb : W.cell? ⟨w1.heap.size, 0, none⟩ = some (.pointer (some ⟨w.heap.size, 0, none⟩)) := hbx.cell 0
    have HAl := wall_any w.heap.size _ W hWR
    rw [← HEm.out] at HAl
    go_wp2_with (go_at_call 53; refine HAl.mono ?_; rintro e w' ⟨rfl, hw'⟩; have hw' := hw'.symm; subst hw')
    refine ⟨by simp, .inl ⟨_, _, rfl, run_takeDeferred hK, ?_⟩⟩
    exact ⟨_, results_tmp rfl _ _ _, rfl, hB.trans (belowK_b (w := w) (Nat.le_refl _) W D _ _ (by have := hB4.size; omega) hK rfl rfl)⟩
  case stop =>
    rintro D c pre W _ _ h _
    exact h.elim
/-- What Encode does to a state. -/
theorem encode_st (b : Nat) (m : List KV) (w : World) (h : ST w b m) (hm : m.length ≤ 2000) (hs : Sml m) : Calls Tryz.prog 33 #[.pointer (some ⟨b, 0, none⟩)] w fun e w' => e = .returned (.string ⟨(encM m).toArray⟩) ∧ Below w.heap.size w w' := by
  obtain ⟨ms, rfl⟩ := unS_ex hs
  rw [unS_length] at hm
  exact encode_core _ ms w hm (fun w' hw => by have := len_st b _ w' (h.below hw); rw [unS_length] at this; exact this) (fun w' hw => all_st b _ w' (h.below hw) (by rw [unS_length]; omega))
end Go.Proofs.YtmbdhngoldganaaGreatDoor
