/- What TakeMembers, Take and Decode do at the bytes of a header that may be. What Take and Decode do at the bytes of a header that may be. What Decode does at the bytes of a header that may be; what Equal and Same do. What Same does. What Ref, zeros and awake of the head's law do. What Clone and Most do. -/
import Derived.Test.YtmbdhngoldganaaGreatDoorHvl
namespace Go.Proofs.YtmbdhngoldganaaGreatDoor
open Go Go.RowKit
/-- What TakeMembers leaves. -/
def TakeMP (b : Nat) (w : World) (r : R) (l : List Int) (e : Ending) (w' : World) : Prop :=
  ∃ sl, e = .returned sl ∧ VL w' 3 w.heap.size sl (l.map fun x => .int .i64 x) ∧ To w w' b r
end Go.Proofs.YtmbdhngoldganaaGreatDoor
namespace Go.Proofs.YtmbdhngoldganaaGreatDoor
open Go Go.RowKit
/-- The cells of a header. -/
def hA (ht : Nat) (p t s : List UInt8) (sl : Value) : Array Value := #[.int .u64 ht, .string ⟨p.toArray⟩, .string ⟨t.toArray⟩, .string ⟨s.toArray⟩, sl]
theorem hA_size (ht : Nat) (p t s : List UInt8) (sl : Value) : (hA ht p t s sl).size = 5 := rfl
theorem hA_set4 (ht : Nat) (p t s : List UInt8) (sl sl' : Value) : (hA ht p t s sl).setIfInBounds 4 sl' = hA ht p t s sl' := rfl
theorem hA_g0 (ht : Nat) (p t s : List UInt8) (sl : Value) : (hA ht p t s sl)[0]? = some (.int .u64 (ht : Nat)) := rfl
theorem hA_g1 (ht : Nat) (p t s : List UInt8) (sl : Value) : (hA ht p t s sl)[1]? = some (.string ⟨p.toArray⟩) := rfl
theorem hA_g2 (ht : Nat) (p t s : List UInt8) (sl : Value) : (hA ht p t s sl)[2]? = some (.string ⟨t.toArray⟩) := rfl
theorem hA_g3 (ht : Nat) (p t s : List UInt8) (sl : Value) : (hA ht p t s sl)[3]? = some (.string ⟨s.toArray⟩) := rfl
theorem hA_g4 (ht : Nat) (p t s : List UInt8) (sl : Value) : (hA ht p t s sl)[4]? = some sl := rfl
theorem hA_one (ht : Nat) (p t s : List UInt8) (a : Option Addr) (n cap : Nat) : (hA ht p t s (.slice a n cap)).all (·.oneCell') = true := by simp [hA, Value.oneCell']
theorem zH0 : (∀ w, (zeroValue 50).run Tryz.prog w = .ok (.agg (hA 0 [] [] [] (.slice none 0 0))) w) ∧ (Tryz.prog.info? 50).map (·.size) = some 5 := zH
theorem iSlI : (Tryz.prog.info? 22).map (·.size) = some 1 := by kernel_rfl
end Go.Proofs.YtmbdhngoldganaaGreatDoor
namespace Go.Proofs.YtmbdhngoldganaaGreatDoor
open Go Go.RowKit
theorem res_cv {fn : Func} {p u : Tmp} {t : TypeId} (h : fn.results = #[.cell p t, .tmp u]) (tmps : Array Value) (w : World) (b : Nat) (c : Array Value) (v : Value) (ty : TypeId) (d : TypeDesc)
    (hp : tmps.getD p undef = .pointer (some ⟨b, 0, none⟩)) (hv : tmps.getD u undef = v) (hb : Blk w b c ty) (hu : Tryz.prog.underlying t = some d) (hd : d.isRow = true) (hi : (Tryz.prog.info? t).map (·.size) = some c.size) :
    (results fn tmps).run Tryz.prog w = .ok (.tuple #[.agg c, v]) w := by
  rw [results_cell_tmp h, hp, hv]
  simp [asAddr, hb.loadVar d hu hd hi]
/-- What a question whether two are one leaves. -/
def EqP (w : World) (p : Prop) (e : Ending) (w' : World) : Prop := ∃ y : Bool, e = .returned (.bool y) ∧ (y = true ↔ p) ∧ Below w.heap.size w w'
set_option maxRecDepth 100000 in
set_option maxHeartbeats 1000000 in
theorem equalI_any (a a2 : Option Addr) (l m : List Int) (cap cap2 : Nat) (w : World) (h : IA w a l) (h2 : IA w a2 m) (hl : l.length ≤ 1000000) :
    Calls Tryz.prog 100 #[.slice a l.length cap, .slice a2 m.length cap2] w (EqP w (l = m)) := by
  by_cases hlm : l.length = m.length
  · have hne : ((l.length : Int) != (m.length : Int)) = false := by simp; omega
    have hm1 : l.length ≤ m.length := by omega
    have hm2 : m.length ≤ l.length := by omega
    clear hlm
    go_enter Tryz.func100, Tryz.ntmps100
    go_wp2_with fail
    go_loopw [13] (fun v13 wl => ∃ i : Nat, i ≤ l.length ∧ v13 = .int .i64 i ∧ Below w.heap.size w wl ∧ Hid (l.take i = m.take i)) (fun v13 _ => l.length - (intOf v13).toNat)
    case atStart => exact ⟨0, by omega, rfl, Below.refl _ _, by rw [List.take_zero, List.take_zero]; exact rfl⟩
    case round =>
      obtain ⟨i, hi, rfl, hB, hA⟩ := hrel
      by_cases hlt : i < l.length
      · have hlt2 : i < m.length := by omega
        obtain ⟨g, o, rfl⟩ := h.ex (by omega)
        obtain ⟨g2, o2, rfl⟩ := h2.ex (by omega)
        have c0 := (h.below hB).cell hlt
        have c1 := (h2.below hB).cell hlt2
        have hT : Hid (l.take (i + 1) = l.take i ++ [l.getD i 0]) := by
          rw [List.take_succ_eq_append_getElem hlt, List.getD_eq_getElem?_getD, List.getElem?_eq_getElem hlt]; exact rfl
        have hT2 : Hid (m.take (i + 1) = m.take i ++ [m.getD i 0]) := by
          rw [List.take_succ_eq_append_getElem hlt2, List.getD_eq_getElem?_getD, List.getElem?_eq_getElem hlt2]; exact rfl
        have hn : Hid (¬ l.getD i 0 = m.getD i 0 → l ≠ m) := fun hx e => hx (by rw [e])
        have hz1 : (0 : Int) ≤ (i : Int) := by omega
        have hz2 : (i : Int) < (l.length : Int) := by omega
        have hz3 : (i : Int) < (m.length : Int) := by omega
        generalize l.getD i 0 = x at *
        generalize m.getD i 0 = y at *
        by_cases hxy : x = y
        · subst hxy
          have hA2 : Hid (l.take (i + 1) = m.take (i + 1)) := by rw [hT.out, hT2.out, hA.out]; exact rfl
          clear hT hT2 hA hn hne
          go_wp2_with fail
          go_quiet (fail)
          go_wp2_with fail
          go_roundw
          case rel => exact ⟨i + 1, by omega, by go_num, below_draws hB _, hA2⟩
          case measure => simp [intOf]; omega
        · have hd : (x != y) = true := by simpa using hxy
          have hn := hn.out hxy
          have hn' : Hid (l ≠ m) := hn
          clear hT hT2 hA hn hne
          go_wp2_with fail
          go_quiet (fail)
          go_wp2_with fail
          go_ret
          exact ⟨false, rfl, by simp [hn'.out], below_draws hB _⟩
      · have hA2 := hA.out
        rw [List.take_of_length_le (show l.length ≤ i by omega), List.take_of_length_le (show m.length ≤ i by omega)] at hA2
        have hA3 : Hid (l = m) := hA2
        have hz2 : ¬ (i : Int) < (l.length : Int) := by omega
        clear hA2 hA
        go_wp2_with fail
        go_ret
        exact ⟨true, rfl, by simp [hA3.out], hB⟩
  · have hne : ((l.length : Int) != (m.length : Int)) = true := by simp; omega
    have hn : Hid (l ≠ m) := fun e => hlm (by rw [e])
    clear hlm
    go_enter Tryz.func100, Tryz.ntmps100
    go_wp2_with fail
    go_ret
    exact ⟨false, rfl, by simp [hn.out], Below.refl _ _⟩
end Go.Proofs.YtmbdhngoldganaaGreatDoor
namespace Go.Proofs.YtmbdhngoldganaaGreatDoor
open Go Go.RowKit
section
attribute [local go_sem] Oper.semAt_some
set_option maxRecDepth 100000 in
set_option maxHeartbeats 4000000 in
theorem sameH_p (PP : Prop) (x y : HH) (a a2 : Option Addr) (cap cap2 : Nat) (w : World) (h : IA w a x.mem) (h2 : IA w a2 y.mem) (hl : x.mem.length ≤ 1000000) (hPP : Hid (PP ↔ x = y)) :
    Calls Tryz.prog 63 #[.agg (hA x.height x.prev x.txr x.str (.slice a x.mem.length cap)), .agg (hA y.height y.prev y.txr y.str (.slice a2 y.mem.length cap2))] w (EqP w PP) := by
  obtain ⟨ht, p, t, s, l⟩ := x
  obtain ⟨ht', p', t', s', m⟩ := y
  dsimp only at *
  by_cases c1 : ht = ht'
  · subst c1
    by_cases c2 : p = p'
    · subst c2
      by_cases c3 : t = t'
      · subst c3
        by_cases c4 : s = s'
        · subst c4
          have HQ := fun w' (hB : Below w.heap.size w w') => equalI_any a a2 l m cap cap2 w' (h.below hB) (h2.below hB) hl
          have HP : Hid (PP ↔ l = m) := by show _ ↔ _; rw [hPP.out]; simp
          go_enter Tryz.func63, Tryz.ntmps63
          go_wp2_with (first
            | (go_at_call 100; refine (HQ _ (hw1.trans (hw2.mono hw1.size))).mono ?_; rintro e w3 ⟨y, rfl, hy, hw3⟩; clear HQ)
            | (with_reducible refine at_list ?_; first
              | (refine wpList_boxRow (op := ⟨some 2, _, _, _, _, _⟩) rfl _ _ rfl _ rfl ?_; intro w1 hw1 hs1 hb1; replace hs1 := hs1.symm)
              | (refine wpList_boxRow (op := ⟨some 3, _, _, _, _, _⟩) rfl _ _ rfl _ rfl ?_; intro w2 hw2 hs2 hb2; replace hs2 := hs2.symm; replace hb1 := hb1.belowSize hw2; have c0 := (hb1.cell 0).trans (hA_g0 _ _ _ _ _); have c1 := (hb1.cell 1).trans (hA_g1 _ _ _ _ _); have c2 := (hb1.cell 2).trans (hA_g2 _ _ _ _ _); have c3 := (hb1.cell 3).trans (hA_g3 _ _ _ _ _); have c4 := (hb1.cell 4).trans (hA_g4 _ _ _ _ _); have d0 := (hb2.cell 0).trans (hA_g0 _ _ _ _ _); have d1 := (hb2.cell 1).trans (hA_g1 _ _ _ _ _); have d2 := (hb2.cell 2).trans (hA_g2 _ _ _ _ _); have d3 := (hb2.cell 3).trans (hA_g3 _ _ _ _ _); have d4 := (hb2.cell 4).trans (hA_g4 _ _ _ _ _))))
          go_ret
          exact ⟨y, rfl, hy.trans HP.out.symm, (hw1.trans (hw2.mono hw1.size)).trans (hw3.mono (Nat.le_trans hw1.size hw2.size))⟩
        · skip
          have HP : Hid (¬ PP) := fun e => c4 (by have e := hPP.out.1 e; injection e)
          go_enter Tryz.func63, Tryz.ntmps63
          go_wp2_with (with_reducible refine at_list ?_; first
              | (refine wpList_boxRow (op := ⟨some 2, _, _, _, _, _⟩) rfl _ _ rfl _ rfl ?_; intro w1 hw1 hs1 hb1; replace hs1 := hs1.symm)
              | (refine wpList_boxRow (op := ⟨some 3, _, _, _, _, _⟩) rfl _ _ rfl _ rfl ?_; intro w2 hw2 hs2 hb2; replace hs2 := hs2.symm; replace hb1 := hb1.belowSize hw2; have c0 := (hb1.cell 0).trans (hA_g0 _ _ _ _ _); have c1 := (hb1.cell 1).trans (hA_g1 _ _ _ _ _); have c2 := (hb1.cell 2).trans (hA_g2 _ _ _ _ _); have c3 := (hb1.cell 3).trans (hA_g3 _ _ _ _ _); have d0 := (hb2.cell 0).trans (hA_g0 _ _ _ _ _); have d1 := (hb2.cell 1).trans (hA_g1 _ _ _ _ _); have d2 := (hb2.cell 2).trans (hA_g2 _ _ _ _ _); have d3 := (hb2.cell 3).trans (hA_g3 _ _ _ _ _)))
          go_ret
          exact ⟨false, rfl, by simp [HP.out], hw1.trans (hw2.mono hw1.size)⟩
      · skip
        have HP : Hid (¬ PP) := fun e => c3 (by have e := hPP.out.1 e; injection e)
        go_enter Tryz.func63, Tryz.ntmps63
        go_wp2_with (with_reducible refine at_list ?_; first
            | (refine wpList_boxRow (op := ⟨some 2, _, _, _, _, _⟩) rfl _ _ rfl _ rfl ?_; intro w1 hw1 hs1 hb1; replace hs1 := hs1.symm)
            | (refine wpList_boxRow (op := ⟨some 3, _, _, _, _, _⟩) rfl _ _ rfl _ rfl ?_; intro w2 hw2 hs2 hb2; replace hs2 := hs2.symm; replace hb1 := hb1.belowSize hw2; have c0 := (hb1.cell 0).trans (hA_g0 _ _ _ _ _); have c1 := (hb1.cell 1).trans (hA_g1 _ _ _ _ _); have c2 := (hb1.cell 2).trans (hA_g2 _ _ _ _ _); have d0 := (hb2.cell 0).trans (hA_g0 _ _ _ _ _); have d1 := (hb2.cell 1).trans (hA_g1 _ _ _ _ _); have d2 := (hb2.cell 2).trans (hA_g2 _ _ _ _ _)))
        go_ret
        exact ⟨false, rfl, by simp [HP.out], hw1.trans (hw2.mono hw1.size)⟩
    · skip
      have HP : Hid (¬ PP) := fun e => c2 (by have e := hPP.out.1 e; injection e)
      go_enter Tryz.func63, Tryz.ntmps63
      go_wp2_with (with_reducible refine at_list ?_; first
          | (refine wpList_boxRow (op := ⟨some 2, _, _, _, _, _⟩) rfl _ _ rfl _ rfl ?_; intro w1 hw1 hs1 hb1; replace hs1 := hs1.symm)
          | (refine wpList_boxRow (op := ⟨some 3, _, _, _, _, _⟩) rfl _ _ rfl _ rfl ?_; intro w2 hw2 hs2 hb2; replace hs2 := hs2.symm; replace hb1 := hb1.belowSize hw2; have c0 := (hb1.cell 0).trans (hA_g0 _ _ _ _ _); have c1 := (hb1.cell 1).trans (hA_g1 _ _ _ _ _); have d0 := (hb2.cell 0).trans (hA_g0 _ _ _ _ _); have d1 := (hb2.cell 1).trans (hA_g1 _ _ _ _ _)))
      go_ret
      exact ⟨false, rfl, by simp [HP.out], hw1.trans (hw2.mono hw1.size)⟩
  · have hb0 : ((ht : Int) == (ht' : Int)) = false := by rw [beq_eq_false_iff_ne]; omega
    have HP : Hid (¬ PP) := fun e => c1 (by have e := hPP.out.1 e; injection e)
    clear c1
    go_enter Tryz.func63, Tryz.ntmps63
    go_wp2_with (with_reducible refine at_list ?_; first
        | (refine wpList_boxRow (op := ⟨some 2, _, _, _, _, _⟩) rfl _ _ rfl _ rfl ?_; intro w1 hw1 hs1 hb1; replace hs1 := hs1.symm)
        | (refine wpList_boxRow (op := ⟨some 3, _, _, _, _, _⟩) rfl _ _ rfl _ rfl ?_; intro w2 hw2 hs2 hb2; replace hs2 := hs2.symm; replace hb1 := hb1.belowSize hw2; have c0 := (hb1.cell 0).trans (hA_g0 _ _ _ _ _); have d0 := (hb2.cell 0).trans (hA_g0 _ _ _ _ _)))
    go_ret
    exact ⟨false, rfl, by simp [HP.out], hw1.trans (hw2.mono hw1.size)⟩
end
theorem sameH_any (x y : HH) (a a2 : Option Addr) (cap cap2 : Nat) (w : World) (h : IA w a x.mem) (h2 : IA w a2 y.mem) (hl : x.mem.length ≤ 1000000) :
    Calls Tryz.prog 63 #[.agg (hA x.height x.prev x.txr x.str (.slice a x.mem.length cap)), .agg (hA y.height y.prev y.txr y.str (.slice a2 y.mem.length cap2))] w (EqP w (x = y)) :=
  sameH_p (x = y) x y a a2 cap cap2 w h h2 hl Iff.rfl
end Go.Proofs.YtmbdhngoldganaaGreatDoor
namespace Go.Proofs.YtmbdhngoldganaaGreatDoor
open Go Go.RowKit
theorem builtH (ht : Nat) (p t s : List UInt8) (a : Option Addr) (n cap : Nat) : Tryz.prog.built 50 [(0, .int .u64 (ht : Nat)), (1, .string ⟨p.toArray⟩), (2, .string ⟨t.toArray⟩), (3, .string ⟨s.toArray⟩), (4, .slice a n cap)] = some (hA ht p t s (.slice a n cap)) := by kernel_rfl
def zr : List UInt8 := List.replicate 32 0
def HW : HH := ⟨1, zr, zr, zr, [2, 5]⟩
end Go.Proofs.YtmbdhngoldganaaGreatDoor
namespace Go.Proofs.YtmbdhngoldganaaGreatDoor
open Go Go.RowKit
/-- Block g begins with the numbers l. -/
structure CB (w : World) (g : Nat) (l : List Int) : Prop where
  out : ∃ (c : Array Value) (fr : Nat × Nat), w.heap[g]? = some (.cells c 3 fr) ∧ l.length ≤ c.size ∧ ∀ (j : Nat) (x : Int), l[j]? = some x → c[j]? = some (.int .i64 x)
theorem CB.of {w : World} {g : Nat} {l : List Int} {c : Array Value} (h : Blk w g c 3) (h1 : l.length ≤ c.size) (h2 : ∀ (j : Nat) (x : Int), l[j]? = some x → c[j]? = some (.int .i64 x)) : CB w g l := ⟨c, _, h.out, h1, h2⟩
theorem CB.lt {w : World} {g : Nat} {l : List Int} (h : CB w g l) : g < w.heap.size := by
  obtain ⟨c, fr, h1, _⟩ := h.out
  exact (Array.getElem?_eq_some_iff.1 h1).1
theorem CB.below {w w' : World} {g : Nat} {l : List Int} (h : CB w g l) (hb : Below w.heap.size w w') : CB w' g l := by
  obtain ⟨c, fr, h1, h2⟩ := h.out
  exact ⟨c, fr, (hb.block g h.lt).trans h1, h2⟩
theorem CB.drew {w : World} {g : Nat} {l : List Int} (h : CB w g l) : CB w.drew g l := by
  obtain ⟨c, fr, h1, h2⟩ := h.out
  exact ⟨c, fr, h1, h2⟩
theorem CB.ne {w : World} {g i : Nat} {l : List Int} {c : Array Value} {ty : TypeId} (h : CB w g l) (hb : Blk w i c ty) (ht : ty ≠ 3) : i ≠ g := by
  intro e
  subst e
  obtain ⟨c', fr, h1, _⟩ := h.out
  have h2 := hb.out
  rw [h1] at h2
  simp only [Option.some.injEq, Obj.cells.injEq] at h2
  exact ht h2.2.1.symm
theorem CB.other {w w' : World} {g b : Nat} {l : List Int} {c : Array Value} {ty : TypeId} (h : CB w g l) (hg : w.grownBy w' (some b)) (hb : Blk w b c ty) (ht : ty ≠ 3) : CB w' g l := by
  have hne := h.ne hb ht
  obtain ⟨c', fr, h1, h2⟩ := h.out
  exact ⟨c', fr, (hg.block g h.lt (fun e => hne (Option.some.inj e).symm)).trans h1, h2⟩
theorem CB.ia {w : World} {g : Nat} {l : List Int} (h : CB w g l) : IA w (some ⟨g, 0, none⟩) l := fun i x hx => by
  obtain ⟨c, fr, h1, _, h3⟩ := h.out
  refine ⟨g, 0, rfl, ?_⟩
  rw [Nat.zero_add]
  simp [World.cell?, h1, h3 i x hx]
section
variable {P : Program} {ops : Array Oper} {rest : List Oper} {op : Oper} {a : Act} {w : World} {Q : Exit → Act → World → Prop}
/-- A slice of numbers is appended to an empty one: a new one. -/
theorem run_appendNewI (st ty : TypeId) (ba : Option Addr) (l : List Int) (g o c : Nat) (hIA : IA w (some ⟨g, o, none⟩) l) (i : TypeInfo) (z : Value)
    (hu : P.underlying st = some (.slice 3)) (hi : P.info? 3 = some i) (hz : i.zero = some z) (hs : i.size = 1) (hby : i.bytes ≤ 256) (h0 : 0 < l.length) (hlen : l.length ≤ 1000000) :
    ∃ (w1 : World) (cap1 : Nat), (Builtin.append_ #[st, st] ty #[.slice ba 0 0, .slice (some ⟨g, o, none⟩) l.length c]).run P w = .ok (.slice (some ⟨w.heap.size, 0, none⟩) l.length cap1) w1 ∧ Below w.heap.size w w1 ∧ CB w1 w.heap.size l := by
  have hsrc : Src P i.size st (.slice (some ⟨g, o, none⟩) l.length c) l.length (l.map fun x => .int .i64 x) w :=
    Src.ofSlice w hu ⟨g, o, none⟩ l.length c _ (by rw [hs, List.length_map]; omega) (fun j u hj => by
      rw [Addr.add_mid]
      rw [List.getElem?_map] at hj
      obtain ⟨x, hx, rfl⟩ := Option.map_eq_some_iff.1 hj
      obtain ⟨g', o', ha, hc⟩ := hIA j x hx
      simp only [Option.some.injEq, Addr.mk.injEq, and_true] at ha
      obtain ⟨rfl, rfl⟩ := ha
      exact hc) (fun u hu => by
      obtain ⟨x, _, rfl⟩ := List.mem_map.1 hu
      rfl)
  have hold : (Builtin.firstCells i.size 0 (.slice ba 0 0)).run P w.drew = .ok ([] : List Value).toArray w.drew := by
    cases ba with
    | none => exact run_firstCells_none (w := w.drew) i.size 0 0 0
    | some b => exact run_firstCells_some w.drew i.size 0 b 0 0 [] (by simp) (fun j v hj => by simp at hj)
  have hr := run_append_grow_src (P := P) w st st ty 3 i _ hu hi hz ba 0 0 _ hold _ l.length _ hsrc (by omega) (by omega) (growslice_fits (by omega) (Nat.le_trans (Nat.mul_le_mul (show 0 + l.length ≤ 1000000 by omega) hby) (by decide)))
  refine ⟨_, _, by rw [Nat.zero_add] at hr; exact hr, (Below.refl _ w).drew.alloc (Nat.le_refl _) _, CB.of (Blk.new w.drew _ _) ?_ ?_⟩
  · simp only [Array.size_append, List.size_toArray, List.length_append, List.length_map]
    omega
  · intro j x hx
    have hjl := (List.getElem?_eq_some_iff.1 hx).1
    rw [Array.getElem?_append_left (by simpa using hjl)]
    simp [hx]
theorem wpList_appendNewI (hgd : op.guard = none) (x y : Operand) (st : TypeId) (ho : op.op = .call { callee := .builtin .append, args := #[x, y], argTypes := #[st, st] })
    (ba : Option Addr) (hx : a.eval x = .slice ba 0 0) (l : List Int) (g o c : Nat) (hy : a.eval y = .slice (some ⟨g, o, none⟩) l.length c) (hIA : IA w (some ⟨g, o, none⟩) l) (i : TypeInfo) (z : Value)
    (hu : P.underlying st = some (.slice 3)) (hi : P.info? 3 = some i) (hz : i.zero = some z) (hs : i.size = 1) (hby : i.bytes ≤ 256) (h0 : 0 < l.length) (hlen : l.length ≤ 1000000)
    (h : ∀ (w1 : World) (cap1 : Nat), Below w.heap.size w w1 → CB w1 w.heap.size l → wpList P ops Q rest (a.put op.dst (.slice (some ⟨w.heap.size, 0, none⟩) l.length cap1)) w1) : wpList P ops Q (op :: rest) a w := by
  obtain ⟨w1, cap1, hr, hb, hl⟩ := run_appendNewI (P := P) (w := w) st op.type ba l g o c hIA i z hu hi hz hs hby h0 hlen
  refine wpList_run hgd _ _ ?_ (h w1 cap1 hb hl)
  unfold execOp
  simp only [ho]
  simp [resolve, invoke, builtin, hx, hy, hr, Result.andThen]
end
theorem eqlNilI (w : World) (b : Addr) (n c : Nat) : (binOp .eql 22 (.slice (some b) n c) (.slice none 0 0)).run Tryz.prog w = .ok (.bool false) w := Lib.run_eql_slice_nil w 22 3 (some b) n c 0 0 Tryz.underlying22
section
attribute [local go_sem] eqlNilI
set_option maxRecDepth 100000 in
set_option maxHeartbeats 400000 in
theorem scloneI_any (a : Option Addr) (l : List Int) (cap : Nat) (w : World) (h : IA w a l) (h0 : 0 < l.length) (hl : l.length ≤ 1000000) :
    Calls Tryz.prog 54 #[.slice a l.length cap] w fun e w' => ∃ g cap', e = .returned (.slice (some ⟨g, 0, none⟩) l.length cap') ∧ w.heap.size ≤ g ∧ Below w.heap.size w w' ∧ CB w' g l := by
  obtain ⟨g, o, rfl⟩ := h.ex (by omega)
  obtain ⟨ii, hi, hz, hs, hby⟩ := infoI
  go_enter Tryz.func54, Tryz.ntmps54
  go_wp2_with (with_reducible refine at_list ?_; first
    | (refine wpList_bsl0I (op := ⟨some 5, _, _, _, _, _⟩) rfl rfl ?_; intro w1 hw1 hs1 hv1; replace hs1 := hs1.symm; clear hv1)
    | (refine wpList_appendNewI (op := ⟨some 7, _, _, _, _, _⟩) rfl _ _ _ rfl _ rfl l g o cap rfl (h.below hw1) ii (.int .i64 0) Tryz.underlying22 hi hz hs hby h0 hl ?_; intro w2 cap2 hw2 hO2))
  go_ret
  exact ⟨_, _, rfl, hw1.size, hw1.trans (hw2.mono hw1.size), hO2⟩
end
set_option maxRecDepth 100000 in
set_option maxHeartbeats 400000 in
theorem cloneH_any (ht : Nat) (p t s : List UInt8) (l : List Int) (a : Option Addr) (cap : Nat) (w : World) (h : IA w a l) (h0 : 0 < l.length) (hl : l.length ≤ 1000000) :
    Calls Tryz.prog 110 #[.agg (hA ht p t s (.slice a l.length cap))] w fun e w' => ∃ g cap', e = .returned (.agg (hA ht p t s (.slice (some ⟨g, 0, none⟩) l.length cap'))) ∧ w.heap.size ≤ g ∧ Below w.heap.size w w' ∧ CB w' g l := by
  have HC := fun w' (hB : Below w.heap.size w w') => scloneI_any a l cap w' (h.below hB) h0 hl
  go_enter Tryz.func110, Tryz.ntmps110
  go_wp2_with (first
    | (go_at_call 54; refine (HC _ (hw1.trans (hw2.mono hw1.size))).mono ?_; rintro e w3 ⟨g, cap3, rfl, hg, hw3, hO3⟩; clear HC; replace hb1 := hb1.belowSize hw3; replace hz2 := hz2.belowSize hw3)
    | (with_reducible refine at_list ?_; first
      | (refine wpList_boxRow (op := ⟨some 1, _, _, _, _, _⟩) rfl _ _ rfl _ rfl ?_; intro w1 hw1 hs1 hb1; replace hs1 := hs1.symm)
      | (refine wpList_allocRow (op := ⟨some 2, _, _, _, _, _⟩) rfl _ rfl _ zH0.1 ?_; intro w2 hw2 hs2 hz2; replace hs2 := hs2.symm; replace hb1 := hb1.belowSize hw2)
      | (refine wpList_loadCell (op := ⟨some 4, _, _, _, _, _⟩) rfl _ _ rfl w.heap.size 4 rfl _ _ hb1 _ Tryz.underlying22 rfl (.slice a l.length cap) (hA_g4 _ _ _ _ _) ?_)
      | (refine wpList_storeCell (op := ⟨none, .store 22 (.tmp 6) (.tmp 5), _, _, _, _⟩) rfl _ _ _ rfl w.heap.size 4 rfl (.slice (some ⟨g, 0, none⟩) l.length cap3) rfl _ _ hb1 iSlI rfl rfl (by rw [hA_size]; decide) ?_; intro w4 hg4 hs4 hb4; rw [hA_set4] at hb4; replace hz2 := hz2.grown hg4 (by simp; omega); have hO4 := hO3.other hg4 hb1 (by decide))
      | (refine wpList_loadRow (op := ⟨some 7, _, _, _, _, _⟩) rfl _ _ rfl w.heap.size rfl _ _ hb4 _ Tryz.underlying50 rfl (by rw [hA_size]; exact zH.2) ?_)
      | (refine wpList_storeRow (op := ⟨none, .store 50 (.tmp 2) (.tmp 7), _, _, _, _⟩) rfl _ _ _ rfl w1.heap.size (hA ht p t s (.slice (some ⟨g, 0, none⟩) l.length cap3)) rfl rfl _ _ hz2 (by simp only [hA_size]) (by rw [hA_size]; exact zH.2) (hA_one _ _ _ _ _ _ _) ?_; intro w5 hg5 hs5 hz5)))
  have hl2 := hw2.size
  have hB3 : Below w.heap.size w w3 := (hw1.trans (hw2.mono hw1.size)).trans (hw3.mono (Nat.le_trans hw1.size hw2.size))
  have hB4 : Below w.heap.size w w4 := hB3.trans (below_of_grown hg4 (Nat.le_refl _) hB3.size)
  refine bodyPost_ret (v := .agg (hA ht p t s (.slice (some ⟨g, 0, none⟩) l.length cap3))) ?_ rfl ⟨g, cap3, rfl, by omega, hB4.trans (below_of_grown hg5 (by omega) hB4.size), hO4.other hg5 hz2 (by decide)⟩
  exact results_cell_row rfl _ _ w1.heap.size _ _ _ _ rfl hz5.out Tryz.underlying50 rfl (by rw [hA_size]; exact zH.2)
end Go.Proofs.YtmbdhngoldganaaGreatDoor
