/- What Is says of a state that has just the texts of the model. What was encoded is decoded again, plainly; and what Apply leaves may be encoded. -/
import Derived.Test.YtdikilhobmkpkaaGreatDoorRdc
namespace Go.Proofs.YtdikilhobmkpkaaGreatDoor
open Go Go.RowKit Go.Maps Go.Shelf
attribute [local go_sem] Oper.semAt_some
/-- The cells of a state and a model. -/
def syc (b : Nat) (a : Option Addr) (n cap : Nat) : Array Value := #[.pointer (some ⟨b, 0, none⟩), .slice a n cap]
theorem syc_size (b : Nat) (a : Option Addr) (n cap : Nat) : (syc b a n cap).size = 2 := rfl
theorem syc_g0 (b : Nat) (a : Option Addr) (n cap : Nat) : (syc b a n cap)[0]? = some (.pointer (some ⟨b, 0, none⟩)) := rfl
theorem syc_g1 (b : Nat) (a : Option Addr) (n cap : Nat) : (syc b a n cap)[1]? = some (.slice a n cap) := rfl
theorem ris_get {m : List KV} (h : Ris m) {p : KV} (hp : p ∈ m) : getM m p.1 = some p.2 := by
  unfold getM
  cases hf : m.find? (fun q => q.1 == p.1) with
  | none =>
    have := List.find?_eq_none.1 hf p hp
    simp at this
  | some q =>
    have h1 := List.find?_some hf
    have h2 := List.mem_of_find?_eq_some hf
    simp at h1
    have : q = p := by
      rcases List.Pairwise.forall_of_forall_of_flip (R := fun p q : KV => p.1 = q.1 → p = q) (l := m) (fun _ _ _ => rfl) (h.imp (fun {a b} hab e => by rw [before_lt, e] at hab; exact absurd hab (List.lt_irrefl _))) (h.imp (fun {a b} hab e => by rw [before_lt, e] at hab; exact absurd hab (List.lt_irrefl _))) h2 hp h1 with rfl
      rfl
    rw [this]
    rfl
/-- No beginning of the list. -/
def NP (ms pre : List KVs) : Prop := ¬ ∃ k, k ≤ ms.length ∧ pre = ms.take k
theorem keepsFrom_grown {B b : Nat} {W W' : World} {c : Array Value} {t : TypeId} (hg : W.grownBy W' (some b)) (hb : Blk W b c t) : KeepsFrom B W W' :=
  ⟨hg.size, fun k o _ hk ho => by
    have hlt := (Array.getElem?_eq_some_iff.1 hk).1
    rw [hg.block k hlt (fun e => ?_)]
    · exact hk
    · have e := Option.some.inj e
      subst e
      rw [hb.out] at hk
      cases hk
      cases ho⟩
theorem keepsFrom_below {B : Nat} {W W' : World} (h : Below W.heap.size W W') : KeepsFrom B W W' :=
  ⟨h.size, fun k o _ hk _ => by rw [h.block k (Array.getElem?_eq_some_iff.1 hk).1]; exact hk⟩
theorem res_c {fn : Func} {p : Tmp} {ty : TypeId} (h : fn.results = #[.cell p ty]) (tmps : Array Value) (w : World) (b : Nat) (v : Value) (d : TypeDesc) (hp : tmps.getD p undef = .pointer (some ⟨b, 0, none⟩)) (hc : w.cell? ⟨b, 0, none⟩ = some v) (hu : Tryz.prog.underlying ty = some d) (hd : d.isRow = false) :
    (results fn tmps).run Tryz.prog w = .ok v w := by
  rw [Array.getD_eq_getD_getElem?] at hp
  unfold results
  rw [h]
  simp [hp, asAddr, loadVar, isAgg_run hu hd, hc, Sem.run_bind, go_sem]
set_option maxRecDepth 100000 in
set_option maxHeartbeats 2000000 in
theorem is_core (b : Nat) (ms : List KVs) (w : World) (h : ST w b (unS ms)) (hm : ms.length ≤ 1024) (hs : ∀ p ∈ unS ms, p.1.length ≤ 33 ∧ p.2.length ≤ 64) (a : Option Addr) (cap : Nat) (hK : KA w a (unS ms)) :
    Calls Tryz.prog 12 #[.agg (syc b a ms.length cap)] w fun e w' => e = .returned (.bool true) ∧ Below w.heap.size w w' := by
  have HA := fun w' (hw : Below w.heap.size w w') => all_st b _ w' (h.below hw) (by rw [unS_length]; omega)
  refine (callsIn_wide (n := 6)).1 (callsIn_of_wp_marks Tryz.func12 rfl trivial ?_ rfl)
  refine wpIn_wide.2 ?_
  simp only [Tryz.ntmps12, List.size_toArray, List.length_cons, List.length_nil, Nat.reduceAdd, Nat.reduceSub, Array.replicate_succ, Array.replicate_zero, List.push_toArray, List.append_toArray, List.nil_append, List.cons_append]
  go_wp2_with (first
    | (go_at_call 16; refine (HA _ hB3).mono ?_; rintro e w4 ⟨⟨Bt, Bv, aT, ct, gv, rfl, l1, l2, l3, i1, i2, i3, i4⟩, hw4⟩)
    | (with_reducible refine at_list ?_; first
      | (refine wpList_boxRow (op := ⟨some 1, _, _, _, _, _⟩) rfl _ _ rfl _ rfl ?_; intro w1 hw1 hs1 hb1; replace hs1 := hs1.symm; have hA : Below w1.heap.size w1 ((w1.alloc (.cells #[.bool false] 4)).alloc (.cells #[.int .i64 0] 3)) := ((Below.refl _ _).alloc (Nat.le_refl _) _).alloc (by simp) _; have hB3 := hw1.trans (hA.mono hw1.size); have hb3 := hb1.belowSize hA; have c0 := (hb3.cell 0).trans (syc_g0 _ _ _ _))))
  have hb2 : Blk ((w1.alloc (.cells #[.bool false] 4)).alloc (.cells #[.int .i64 0] 3)) w1.heap.size #[.bool false] 4 := (Blk.new w1 #[.bool false] 4).belowSize ((Below.refl _ _).alloc (Nat.le_refl _) _)
  have hbn : Blk ((w1.alloc (.cells #[.bool false] 4)).alloc (.cells #[.int .i64 0] 3)) (w1.heap.size + 1) #[.int .i64 0] 3 := by
    have := Blk.new (w1.alloc (.cells #[.bool false] 4)) #[.int .i64 0] 3
    simpa using this
  have hI4 : IT w4 Bt Bv gv aT ct (unS ms) := ⟨i1, i2, i3, i4⟩
  have hB4 := hB3.trans (hw4.mono hB3.size)
  have g1 := hb3.belowSize hw4
  have g2 := hb2.belowSize hw4
  have g3 := hbn.belowSize hw4
  have hn12 : w.heap.size < w1.heap.size := hb1.lt
  clear i1 i2 i3 i4 l1 l2 l3 hw4 hb3 hb2 hbn c0 hB3 hA HA hw1 hb1 hs1
  generalize hz : w1.heap.size = B2 at *
  clear hz
  refine (wpIn_wide (n := 6)).1 ?_
  refine wpIn_rangeFunc_ownG rfl (by omega) (gf := 50) (lb := #[.pointer (some ⟨Bt, 0, none⟩), .pointer (some ⟨Bv, 0, none⟩)]) rfl trivial (enters_of Tryz.func50 (by kernel_rfl) rfl)
    (all_stops 5 (by omega) Bt Bv gv aT ct ms (by omega) w4 hI4) kpI_t (kpI_b (w := w4)) (Below.refl _ _) (fun _ => rfl)
    (fun pre W => ((pre = ms.take pre.length) ∧ Blk W w.heap.size (syc b a ms.length cap) 42 ∧ Blk W B2 #[.bool false] 4 ∧ Blk W (B2 + 1) #[.int .i64 (pre.length : Nat)] 3) ∧ Below w.heap.size w W)
    (fun _ pre _ => NP ms pre)
    (fun s W W' row h hg hr => ⟨⟨h.1.1, h.1.2.1.turn hg (fun r e => (hr r e).2), h.1.2.2.1.turn hg (fun r e => (hr r e).2), h.1.2.2.2.turn hg (fun r e => (hr r e).2)⟩, h.2.grown hg h.2.size (fun k e => Nat.le_trans hB4.size (hr k e).1)⟩)
    (fun _ _ _ _ _ h _ _ => h)
    ⟨⟨rfl, g1, g2, g3⟩, hB4⟩
    (fun x => { tmps := #[.agg (syc b a ms.length cap), .pointer (some ⟨w.heap.size, 0, none⟩), .pointer (some ⟨B2, 0, none⟩), .pointer (some ⟨B2 + 1, 0, none⟩), .string ⟨x.1.1.toArray⟩, .string ⟨x.1.2.toArray⟩, undef, undef, .pointer (some ⟨w.heap.size, 0, none⟩), .pointer (some ⟨b, 0, none⟩), .func (.func 50) #[] #[.pointer (some ⟨Bt, 0, none⟩), .pointer (some ⟨Bv, 0, none⟩)], .string ⟨x.1.1.toArray⟩, .string ⟨x.1.2.toArray⟩, undef, undef, undef, undef, undef, undef, undef, undef, undef, undef, undef, undef, undef, undef, undef, undef, undef, undef, undef, undef, undef, undef, undef, undef, undef, undef, undef, undef, undef, undef, undef, undef, undef, undef, undef, undef, undef, undef, undef, undef, undef, undef, undef, undef, undef, undef, undef, undef, undef, undef, undef, undef, undef, undef, undef, undef, undef, undef, undef, undef, undef, undef], defers := [] }) ?assign ?body ?done ?stop
  case stop =>
    rintro D c pre W _ hp h _
    exact absurd hp h
  case assign =>
    intro l x W K hK
    gi_wp2
    exact hK
  case body =>
    rintro l pre x W ⟨⟨hpre, h1, h2, h3⟩, hB⟩ hlt
    have hltu : pre.length < (unS ms).length := by rw [unS_length]; exact hlt
    obtain ⟨g, o, rfl, hr⟩ := (hK.below hB) pre.length hltu
    have c11 := (h1.cell 1).trans (syc_g1 _ _ _ _)
    have c10 := (h1.cell 0).trans (syc_g0 _ _ _ _)
    have cn : W.cell? ⟨B2 + 1, 0, none⟩ = some (.int .i64 (pre.length : Nat)) := h3.cell 0
    have c2 : W.cell? ⟨B2, 0, none⟩ = some (.bool false) := h2.cell 0
    have f2 : W.frozen? ⟨B2, 0, none⟩ = false := h2.frozen 0
    rw [unS_get ms _ hlt] at hr
    have d0 : W.cell? ⟨g, o + pre.length * 2, none⟩ = some (.string ⟨(ms[pre.length]).1.1.toArray⟩) := hr 0 _ rfl
    have d1 : W.cell? ⟨g, o + pre.length * 2 + 1, none⟩ = some (.string ⟨(ms[pre.length]).1.2.toArray⟩) := hr 1 _ rfl
    have HP : Hid (pre ++ [ms[pre.length]] = ms.take (pre ++ [ms[pre.length]]).length) := by
      rw [List.length_append, List.length_singleton, List.take_succ_eq_append_getElem hlt, ← hpre]
      exact rfl
    have hmem : (ms[pre.length]).1 ∈ unS ms := List.mem_map.2 ⟨_, List.getElem_mem hlt, rfl⟩
    have HG : Hid (getM (unS ms) (ms[pre.length]).1.1 = some (ms[pre.length]).1.2) := ris_get h.ris hmem
    have HX : Hid (x ≠ ms[pre.length] → NP ms (pre ++ [x])) := fun hne ⟨k, hk, e⟩ => by
      have hl := congrArg List.length e
      rw [List.length_append, List.length_take, List.length_singleton] at hl
      have hkk : k = pre.length + 1 := by omega
      rw [hkk, List.take_succ_eq_append_getElem hlt] at e
      exact hne (List.singleton_inj.1 (List.append_inj_right' e rfl))
    clear hr hmem hpre
    generalize ms[pre.length] = y at *
    have hz1 : ¬ ((ms.length : Int) ≤ (pre.length : Int)) := by omega
    have hz2 : (0 : Int) ≤ (pre.length : Int) := by omega
    have hz3 : (pre.length : Int) < (ms.length : Int) := by omega
    by_cases hk : x.1.1 = y.1.1
    · by_cases hv : x.1.2 = y.1.2
      · obtain rfl : x = y := Subtype.ext (Prod.ext hk hv)
        clear HX hk hv
        have hx1 := x.2.1
        have HV := fun w' (h : ST w' b (unS ms)) => value_st b (unS ms) x.1.1 w' h (by unfold maxLen; omega)
        have e1 : valM (unS ms) x.1.1 = x.1.2 := by unfold valM; rw [HG.out]; rfl
        have e2 : hasM (unS ms) x.1.1 = true := by unfold hasM; rw [HG.out]; rfl
        rw [e1, e2] at HV
        clear e1 e2
        have h14 : 1 ≤ 6 - 1 - 1 := by omega
        gi_wp2_with (refine ⟨trivial, ?_⟩; gi_at_call 14; refine (CallsIn.inRound l (callsIn_wide.2 (HV _ (h.below hB)))).mono ?_; rintro e w5 ⟨rfl, hw5⟩; have k3 := h3.belowSize hw5; have cn5 : w5.cell? ⟨B2 + 1, 0, none⟩ = some (.int .i64 (pre.length : Nat)) := k3.cell 0; have f5 : w5.frozen? ⟨B2 + 1, 0, none⟩ = false := k3.frozen 0)
        have hg := grown_setCell (B2 + 1) (.int .i64 ((pre.length : Int) + 1)) 0 w5
        have k4 := k3.setCell 0 (.int .i64 ((pre.length : Int) + 1))
        have e3 : (#[Value.int .i64 (pre.length : Nat)] : Array Value).setIfInBounds 0 (.int .i64 ((pre.length : Int) + 1)) = #[.int .i64 (((pre ++ [x]).length : Nat) : Int)] := by simp
        rw [e3] at k4
        refine ⟨(keepsFrom_below hw5).trans (keepsFrom_grown hg k3), fun hi => ?_, ⟨HP.out, (h1.belowSize hw5).grown hg (fun e => absurd (Option.some.inj e) (by omega)), (h2.belowSize hw5).grown hg (fun e => absurd (Option.some.inj e) (by omega)), k4⟩, (hB.trans (hw5.mono hB.size)).trans (below_of_grown hg (by omega) (Nat.le_trans hB.size hw5.size))⟩
        exact hi.blk fun i c t hb ht => (hb.belowSize hw5).grown hg (fun e => by
          have e := Option.some.inj e
          subst e
          have h9 := (hb.belowSize hw5).out
          rw [k3.out] at h9
          cases h9
          rcases ht with h | h
          · exact absurd h (by decide)
          · exact absurd h (by decide))
      · have hx1 : (y.1.1 == x.1.1) = true := by rw [beq_iff_eq]; exact hk.symm
        have hx2 : (y.1.2 == x.1.2) = false := by rw [beq_eq_false_iff_ne]; exact fun e => hv e.symm
        gi_wp2
        exact ⟨keepsFrom_grown (grown_setCell B2 _ 0 W) h2, HX.out (fun e => hv (by rw [e]))⟩
    · have hx : (y.1.1 == x.1.1) = false := by rw [beq_eq_false_iff_ne]; exact fun e => hk e.symm
      gi_wp2
      exact ⟨keepsFrom_grown (grown_setCell B2 _ 0 W) h2, HX.out (fun e => hk (by rw [e]))⟩
  case done =>
    rintro D ys W hD rfl ⟨⟨-, h1, h2, h3⟩, hB⟩ hK2
    have c11 := (h1.cell 1).trans (syc_g1 _ _ _ _)
    have c10 := (h1.cell 0).trans (syc_g0 _ _ _ _)
    have cn : W.cell? ⟨B2 + 1, 0, none⟩ = some (.int .i64 (ys.length : Nat)) := h3.cell 0
    have c2 : W.cell? ⟨B2, 0, none⟩ = some (.bool false) := h2.cell 0
    have hul := unS_length ys
    have HL := fun w' (hw : Below w.heap.size w w') => len_st b (unS ys) w' (h.below hw)
    have HEn := fun w' (hw : Below w.heap.size w w') => encode_st b (unS ys) w' (h.below hw) (by omega) (fun p hp => ⟨Nat.le_trans (hs p hp).1 (by decide), Nat.le_trans (hs p hp).2 (by decide)⟩)
    have HSb := fun w' (hw : Below w.heap.size w w') => rsb_any (unS ys) (by omega) hs a cap w' (hK.below hw)
    rw [hul] at HL HSb
    clear hul
    generalize encM (unS ys) = en at *
    go_wp2_with fail
    go_region_held3 (fun w' => w'.cell? ⟨w.heap.size, 0, none⟩ = some (.pointer (some ⟨b, 0, none⟩)) ∧ w'.cell? ⟨w.heap.size, 1, none⟩ = some (.slice a ys.length cap) ∧ w'.cell? ⟨B2 + 1, 0, none⟩ = some (.int .i64 (ys.length : Nat))) ((go_split_ands; exact ⟨by assumption, by assumption, by assumption⟩)) (first
      | (go_at_call 17; refine (HL _ hB.drew).mono ?_; rintro e w' ⟨rfl, hw'⟩; have hw' := hw'.symm; subst hw')
      | (go_at_call 9; refine (HEn _ hB.drew).mono ?_; rintro e w5 ⟨rfl, hw5⟩; have hB5 := hB.drew.trans (hw5.mono hB.size); have x0 := cell_keep (w := W.drew) hw5 c10; have x1 := cell_keep (w := W.drew) hw5 c11; have x2 := cell_keep (w := W.drew) hw5 cn)
      | (go_at_call 45; refine (HSb _ hB5).mono ?_; rintro e w6 ⟨rfl, hw6⟩; have hB6 := hB5.trans (hw6.mono hB5.size); have y0 := cell_keep hw6 x0; have y1 := cell_keep hw6 x1; have y2 := cell_keep hw6 x2; have hb6 : Blk w6 B2 #[.bool false] 4 := (Blk.belowSize (w := W.drew) h2.drew hw5).belowSize hw6; have z2 : w6.cell? ⟨B2, 0, none⟩ = some (.bool false) := hb6.cell 0; have z3 : w6.frozen? ⟨B2, 0, none⟩ = false := hb6.frozen 0; have hb61 : Blk w6 w.heap.size (syc b a ys.length cap) 42 := (Blk.belowSize (w := W.drew) h1.drew hw5).belowSize hw6; have hb63 : Blk w6 (B2 + 1) #[.int .i64 (ys.length : Nat)] 3 := (Blk.belowSize (w := W.drew) h3.drew hw5).belowSize hw6; have q0 : (w6.setCell ⟨B2, 0, none⟩ (.bool true)).cell? ⟨w.heap.size, 0, none⟩ = some (.pointer (some ⟨b, 0, none⟩)) := (hb61.setCell_other ⟨B2, 0, none⟩ (by show _ ≠ B2; omega) _).cell 0; have q1 : (w6.setCell ⟨B2, 0, none⟩ (.bool true)).cell? ⟨w.heap.size, 1, none⟩ = some (.slice a ys.length cap) := (hb61.setCell_other ⟨B2, 0, none⟩ (by show _ ≠ B2; omega) _).cell 1; have q2 : (w6.setCell ⟨B2, 0, none⟩ (.bool true)).cell? ⟨B2 + 1, 0, none⟩ = some (.int .i64 (ys.length : Nat)) := (hb63.setCell_other ⟨B2, 0, none⟩ (by show _ ≠ B2; omega) _).cell 0))
    have k2 := hb6.setCell 0 (.bool true)
    have hg6 := grown_setCell B2 (.bool true) 0 w6
    have hDn : (w6.setCell ⟨B2, 0, none⟩ (.bool true)).heap[D]? = some (.deferred (some [])) := by
      have hDl : D < W.heap.size := (Array.getElem?_eq_some_iff.1 hK2).1
      have e5 : w5.heap[D]? = some (.deferred (some [])) := (hw5.block D hDl).trans hK2
      have e6 : w6.heap[D]? = some (.deferred (some [])) := (hw6.block D (Array.getElem?_eq_some_iff.1 e5).1).trans e5
      rw [hg6.block D (Array.getElem?_eq_some_iff.1 e6).1 (fun e => ?_)]
      · exact e6
      · have e := Option.some.inj e
        subst e
        rw [hb6.out] at e6
        cases e6
    have hB7 : Below w.heap.size w (w6.setCell ⟨B2, 0, none⟩ (.bool true)) := hB6.trans (below_of_grown hg6 (by omega) hB6.size)
    clear q0 q1 q2 x0 x1 x2 y0 y1 y2 z2 z3 c10 c11 cn c2 hg6 hb6 hb61 hb63 h1 h2 h3 hw5 hw6 hB5 hB6 HL HEn HSb hK2
    generalize w6.setCell ⟨B2, 0, none⟩ (.bool true) = w7 at *
    have k2 : w7.cell? ⟨B2, 0, none⟩ = some (.bool true) := k2.cell 0
    go_wp2_with fail
    have hBD : B2 ≠ D := by
      intro e
      subst e
      unfold World.cell? at k2
      rw [hDn] at k2
      cases k2
    refine ⟨by simp, .inl ⟨_, _, rfl, run_takeDeferred hDn, ?_⟩⟩
    exact ⟨_, res_c rfl _ _ B2 (.bool true) _ rfl (cell_gr k2 (grownBy_putObj' w7 D _) hBD) Tryz.underlying4 rfl, rfl, hB7.trans (belowK_b (w := w) (Nat.le_refl _) w7 D _ _ (by have := hB4.size; omega) hDn rfl rfl)⟩
/-- What Is says of a state that has just the texts of the model. -/
theorem is_st (b : Nat) (m : List KV) (w : World) (h : ST w b m) (hm : m.length ≤ 1024) (hs : ∀ p ∈ m, p.1.length ≤ 33 ∧ p.2.length ≤ 64) (a : Option Addr) (cap : Nat) (hK : KA w a m) :
    Calls Tryz.prog 12 #[.agg (syc b a m.length cap)] w fun e w' => e = .returned (.bool true) ∧ Below w.heap.size w w' := by
  obtain ⟨ms, rfl⟩ := unS_ex (m := m) (fun p hp => ⟨Nat.le_trans (hs p hp).1 (by decide), Nat.le_trans (hs p hp).2 (by decide)⟩)
  have := is_core b ms w h (by rw [unS_length] at hm; exact hm) hs a cap hK
  rw [unS_length]
  exact this
end Go.Proofs.YtdikilhobmkpkaaGreatDoor
namespace Go.Proofs.YtdikilhobmkpkaaGreatDoor
open Go Go.RowKit Go.Maps
theorem insM_last (x : KV) : ∀ m : List KV, (∀ q ∈ m, bytesBefore x.1 q.1 = false) → insM x m = m ++ [x]
  | [], _ => rfl
  | y :: r, h => by
    unfold insM
    rw [if_neg (by rw [h y List.mem_cons_self]; simp), insM_last x r (fun q hq => h q (List.mem_cons_of_mem _ hq))]
    rfl
theorem putM_last {k v : List UInt8} {m : List KV} (h : ∀ q ∈ m, q.1 < k) : putM k v m = m ++ [(k, v)] := by
  have hd : delM k m = m := by
    unfold delM
    rw [List.filter_eq_self]
    intro q hq
    have : q.1 ≠ k := fun e => by have := h q hq; rw [e] at this; exact List.lt_irrefl _ this
    simp [this]
  unfold putM
  rw [hd]
  refine insM_last _ _ (fun q hq => ?_)
  rw [← Bool.not_eq_true, before_lt]
  intro h2
  exact List.lt_irrefl _ (List.lt_trans h2 (h q hq))
theorem fold_ris : ∀ (l acc : List KV), Ris (acc ++ l) → l.foldl (fun m p => putM p.1 p.2 m) acc = acc ++ l
  | [], acc, _ => by simp
  | p :: l, acc, h => by
    have e : acc ++ p :: l = (acc ++ [p]) ++ l := by simp
    have hp : putM p.1 p.2 acc = acc ++ [p] := putM_last (fun q hq => (before_lt _ _).1 ((List.pairwise_append.1 h).2.2 q hq p (by simp)))
    rw [List.foldl_cons, hp, fold_ris l _ (by rw [← e]; exact h), e]
theorem mapD_ris {l : List KV} (h : Ris l) : mapD l = l := by
  unfold mapD
  rw [fold_ris l [] (by simpa using h), List.nil_append]
/-- What a state may have. -/
structure Good (m : List KV) : Prop where
  len : m.length ≤ 1024
  each : ∀ p ∈ m, mayP p.1 p.2 = true ∧ p.1.length ≤ 33 ∧ p.2.length ≤ 64
theorem Good.nil : Good [] := ⟨by simp, by simp⟩
theorem Good.sml {m : List KV} (h : Good m) : Sml m := fun p hp => ⟨Nat.le_trans (h.each p hp).2.1 (by decide), Nat.le_trans (h.each p hp).2.2 (by decide)⟩
theorem mem_ins {x p : KV} : ∀ {m : List KV}, p ∈ insM x m → p = x ∨ p ∈ m
  | [], h => by simp [insM] at h; exact .inl h
  | y :: r, h => by
    unfold insM at h
    split at h
    · rcases List.mem_cons.1 h with h | h
      · exact .inl h
      · exact .inr h
    · rcases List.mem_cons.1 h with h | h
      · exact .inr (by rw [h]; exact List.mem_cons_self)
      · rcases mem_ins h with h | h
        · exact .inl h
        · exact .inr (List.mem_cons_of_mem _ h)
theorem mem_put {k v : List UInt8} {p : KV} {m : List KV} (h : p ∈ putM k v m) : p = (k, v) ∨ p ∈ m := by
  rcases mem_ins h with h | h
  · exact .inl h
  · exact .inr (List.mem_filter.1 h).1
def Each (m : List KV) : Prop := ∀ p ∈ m, mayP p.1 p.2 = true ∧ p.1.length ≤ 33 ∧ p.2.length ≤ 64
theorem may_k {k v : List UInt8} (h : 1 ≤ k.length) : mayP (kOf k) v = true := by
  unfold mayP kOf
  rw [List.singleton_append, pre_one]
  unfold Lib.trimPrefix
  rw [pre_one]
  cases k with
  | nil => simp at h
  | cons x r => simp
theorem Each.do {m : List KV} (h : Each m) {o : O} (ho : OkO o) : Each (doM m o) := by
  unfold doM
  split
  · intro p hp
    rcases mem_put hp with rfl | hp
    · have h1 := ho.key0
      have h2 := ho.key1
      have h3 := ho.val1
      exact ⟨may_k h1, by rw [kOf_length]; omega, h3⟩
    · exact h p hp
  · split
    · exact fun p hp => h p (List.mem_filter.1 hp).1
    · exact h
theorem Each.run {m : List KV} (h : Each m) : ∀ {l : List O} {mm : List KV}, (∀ o ∈ l, OkO o) → runM m l = some mm → Each mm := by
  intro l
  unfold runM
  induction l generalizing m with
  | nil => intro mm _ e; simp at e; subst e; exact h
  | cons o r ih =>
    intro mm hl e
    rw [List.foldl_cons] at e
    change r.foldl _ (stepM m o) = _ at e
    by_cases ha : agM m o = true
    · rw [show stepM m o = some (doM m o) from if_pos ha] at e
      exact ih (h.do (hl o List.mem_cons_self)) (fun x hx => hl x (List.mem_cons_of_mem _ hx)) e
    · rw [show stepM m o = none from if_neg ha, foldl_none r] at e
      cases e
theorem may_n (c : Nat) {n : Nat} (d : List UInt8) (h0 : n ≠ 0) (h1 : n < 18446744073709551616) : mayP (nOf c) (lastB n d) = true := by
  have e1 : Lib.hasPrefix (nOf c) [107] = false := by unfold nOf; rw [List.singleton_append, pre_one]; decide
  have e2 : Lib.hasPrefix (nOf c) [110] = true := by unfold nOf; rw [List.singleton_append, pre_one]; decide
  have e3 : (Lib.trimPrefix (nOf c) [110]).length = 8 := by unfold Lib.trimPrefix; rw [e2, if_pos rfl, List.length_drop, nOf_length]; rfl
  unfold mayP
  rw [e1, e2, cond_false, decide_eq_true e3, isLst_eq, lastB_length]
  have e4 : (lastB n d).take 8 = num n 8 := by unfold lastB; exact List.take_left' (num_length 8 n)
  rw [e4, ← num_zs]
  have : (num n 8 == num 0 8) = false := by
    rw [beq_eq_false_iff_ne]
    intro e
    have := congrArg val e
    rw [num_eight n h1, num_eight 0 (by decide)] at this
    exact h0 this
  rw [this]
  rfl
theorem Good.ap {m : List KV} (h : Good m) (t : TX) (hn : t.nonce < 18446744073709551616) : Good (apM m t) := by
  by_cases h0 : apE m t = 0
  · have hk : okTx t = true := by
      by_cases hk : okTx t = true
      · exact hk
      · rw [apE_not hk] at h0
        cases h0
    have h1 : t.nonce - 1 = lastM m t.client := by
      by_cases h1 : t.nonce - 1 = lastM m t.client
      · exact h1
      · rw [apE_nonce hk h1] at h0
        cases h0
    cases hr : runM m t.ops with
    | none =>
      rw [apE_check hk h1 hr] at h0
      cases h0
    | some mm =>
      rw [apM_ok h0 hr]
      have hl : ¬ 1024 < (endM t mm).length := fun hl => by
        rw [apE_room hk h1 hr hl] at h0
        cases h0
      have hT := okTx_of hk
      refine ⟨by omega, fun p hp => ?_⟩
      rcases mem_put hp with rfl | hp
      · exact ⟨may_n _ _ hT.nonce hn, by rw [nOf_length]; decide, by rw [lastB_length]; decide⟩
      · exact Each.run (m := m) h.each (fun o ho => hT.okO ho) hr p hp
  · rw [apM_err h0]
    exact h
theorem Good.val {m : List KV} (h : Good m) (k : List UInt8) : (valM m k).length ≤ 140737488355328 := by
  unfold valM
  cases hg : getM m k with
  | none => simp
  | some v => exact Nat.le_trans (h.each _ (getM_mem hg)).2.2 (by decide)
/-- The reader behind so many texts of a state's bytes. -/
theorem dS_at {m : List KV} (h : Good m) (hr : Ris m) : ∀ i, i ≤ m.length → dS ⟨encM m, 4, 0⟩ i = (⟨encM m, 4 + (kvsB (m.take i)).length, 0⟩, m.take i)
  | 0, _ => by simp [dS, kvsB]
  | i + 1, hi => by
    have hlt : i < m.length := hi
    have ih := dS_at h hr i (by omega)
    obtain ⟨hy, hk1, hv1⟩ := h.each _ (List.getElem_mem hlt)
    have e1 : m = m.take i ++ (m[i] :: m.drop (i + 1)) := by rw [List.getElem_cons_drop, List.take_append_drop]
    have e2 : encM m = (num m.length 4 ++ kvsB (m.take i)) ++ ((num m[i].1.length 4 ++ m[i].1) ++ ((num m[i].2.length 4 ++ m[i].2) ++ kvsB (m.drop (i + 1)))) := by
      have e4 : kvsB m = kvsB (m.take i) ++ (kvB m[i] ++ kvsB (m.drop (i + 1))) := by
        refine (congrArg kvsB e1).trans ?_
        unfold kvsB
        rw [List.flatMap_append, List.flatMap_cons]
      unfold encM
      rw [e4]
      unfold kvB
      simp only [List.append_assoc]
    have t1 := R.text_at (num m.length 4 ++ kvsB (m.take i)) m[i].1 ((num m[i].2.length 4 ++ m[i].2) ++ kvsB (m.drop (i + 1))) 33 (by omega) (by omega)
    have e3 : encM m = ((num m.length 4 ++ kvsB (m.take i)) ++ (num m[i].1.length 4 ++ m[i].1)) ++ ((num m[i].2.length 4 ++ m[i].2) ++ kvsB (m.drop (i + 1))) := by rw [e2, List.append_assoc (num m.length 4 ++ kvsB (m.take i))]
    have t2 := R.text_at ((num m.length 4 ++ kvsB (m.take i)) ++ (num m[i].1.length 4 ++ m[i].1)) m[i].2 (kvsB (m.drop (i + 1))) 64 (by omega) (by omega)
    rw [← e2] at t1
    rw [← e3] at t2
    have l1 : (num m.length 4 ++ kvsB (m.take i)).length = 4 + (kvsB (m.take i)).length := by rw [List.length_append, num_length]
    have l2 : ((num m.length 4 ++ kvsB (m.take i)) ++ (num m[i].1.length 4 ++ m[i].1)).length = 4 + (kvsB (m.take i)).length + (4 + m[i].1.length) := by rw [List.length_append, l1, List.length_append, num_length]
    rw [l1] at t1
    rw [l2] at t2
    have hb : dBad (m.take i) m[i].1 m[i].2 = false := by
      unfold dBad
      rw [hy]
      rw [Bool.not_true, Bool.or_false]
      refine decide_eq_false (fun hle => ?_)
      rcases Nat.eq_zero_or_pos i with h0 | h0
      · subst h0
        have : m[0].1 = [] := by
          cases hc : m[0].1 with
          | nil => rfl
          | cons x r => rw [hc] at hle; simp [lastK] at hle
        rw [this] at hy
        cases hy
      · have hlast : lastK (m.take i) = m[i - 1].1 := by
          unfold lastK
          rw [List.getLast?_eq_getElem?, List.length_take, Nat.min_eq_left (by omega), List.getElem?_take, if_pos (by omega), List.getElem?_eq_getElem (by omega)]
          rfl
        rw [hlast] at hle
        have := List.pairwise_iff_getElem.1 hr (i - 1) i (by omega) hlt (by omega)
        rw [before_lt] at this
        exact absurd this (List.not_lt.2 hle)
    rw [dS, ih]
    simp only [t1, t2, hb, cond_false]
    rw [List.take_succ_eq_append_getElem hlt, kvsB_snoc, List.length_append, kvB_length]
    congr 2
    omega
theorem dec_enc {m : List KV} (h : Good m) (hr : Ris m) : dE (encM m) = 0 ∧ dM (encM m) = m := by
  have hc : dC (encM m) = (⟨encM m, 4, 0⟩, m.length) := by
    have hl := h.len
    exact R.count_at [] (kvsB m) m.length 1024 (by omega) (by omega)
  have hd := dS_at h hr m.length (Nat.le_refl _)
  rw [List.take_length] at hd
  unfold dE dM
  rw [hc]
  simp only [hd]
  refine ⟨?_, trivial⟩
  unfold R.fin
  rw [if_neg (by unfold encM; simp only [List.length_append, num_length]; omega)]
theorem dM_good {b : List UInt8} (h : dE b = 0) : Good (dM b) ∧ Ris (dM b) := by
  have h1 := (R.fin_zero (dS_ok (R.ok_count (ok0 b) 1024) _) h).1
  have h2 := dS_good _ h1
  exact ⟨⟨by unfold dM; rw [dS_len]; exact dC_le b, h2.each⟩, h2.ris⟩
end Go.Proofs.YtdikilhobmkpkaaGreatDoor
