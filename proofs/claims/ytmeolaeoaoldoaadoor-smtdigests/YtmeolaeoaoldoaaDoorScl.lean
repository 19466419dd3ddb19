/- Verify's parts: isDigest, isWhole. Verify's parts: shared. slices.Backward over texts: a function that is ranged over. Verify's parts: climb. -/
import Derived.Test.YtmeolaeoaoldoaaDoorSpf
namespace Go.Proofs.YtmeolaeoaoldoaaDoor.Sh
open Go Go.RowKit Go.Shelf
set_option maxRecDepth 100000 in
theorem isDig_any (s : List UInt8) (d : Bool) (w : World) (hd : d = true ↔ s.length = 32) : Calls Tryd.prog 62 #[.string ⟨s.toArray⟩] w fun e w' => e = .returned (.bool d) ∧ w' = w := by
  have hb : ((s.length : Int) == 32) = d := by
    rw [Bool.eq_iff_iff, hd, beq_iff_eq]
    omega
  clear hd
  go_enter Tryd.func62, Tryd.ntmps62
  go_wp2_with fail
  go_ret
  exact ⟨rfl, rfl⟩
theorem blk4c {w : World} {b : Nat} {x y z u : Value} {t : TypeId} (h : Blk w b #[x, y, z, u] t) : w.cell? ⟨b, 0, none⟩ = some x ∧ w.cell? ⟨b, 1, none⟩ = some y ∧ w.cell? ⟨b, 2, none⟩ = some z ∧ w.cell? ⟨b, 3, none⟩ = some u := ⟨h.cell 0, h.cell 1, h.cell 2, h.cell 3⟩
/-- A proof of digests. -/
def wholeP (p : Pf7) : Prop := p.bs.length ≤ 256 ∧ (p.has = true → p.lp.length = 32 ∧ p.lv.length = 32) ∧ ∀ x ∈ p.bs, x.length = 32
set_option maxRecDepth 100000 in
set_option maxHeartbeats 4000000 in
theorem isWhole_any (a : Option Addr) (c : Nat) (p : Pf7) (bb : Bool) (w : World) (hX : XA w a p.bs) (hl : p.bs.length ≤ 1000) (hb : bb = true ↔ wholeP p) :
    Calls Tryd.prog 49 #[.agg #[.slice a p.bs.length c, .bool p.has, .string ⟨p.lp.toArray⟩, .string ⟨p.lv.toArray⟩]] w fun e w' => e = .returned (.bool bb) ∧ Below w.heap.size w w' := by
  unfold wholeP at hb
  obtain ⟨bs, has, lp, lv⟩ := p
  dsimp only at *
  have HL1 := isDig_any lp
  have HL2 := isDig_any lv
  go_enter Tryd.func49, Tryd.ntmps49
  go_upto_region 1 with (with_reducible refine at_list ?_; refine wpList_boxRow (op := ⟨some 1, _, _, _, _, _⟩) rfl _ _ rfl #[.slice a bs.length c, .bool has, .string ⟨lp.toArray⟩, .string ⟨lv.toArray⟩] rfl ?_; intro w1 hw1 hs1 hb1; replace hs1 := hs1.symm; obtain ⟨q0, q1, q2, q3⟩ := blk4c hb1)
  have hX1 := hX.below hw1
  by_cases hbig : 256 < bs.length
  · have hbf : bb = false := by
      cases bb with
      | false => rfl
      | true => exact absurd (hb.1 rfl).1 (by omega)
    subst hbf
    have hbi : (256 : Int) < (bs.length : Int) := by omega
    go_wp2_with fail
    go_ret
    exact ⟨rfl, hw1⟩
  · have hbi : ¬ (256 : Int) < (bs.length : Int) := by omega
    cases has with
    | false =>
      go_upto_region 4 with fail
      go_loopw [29] (fun v29 wl => ∃ i : Nat, i ≤ bs.length ∧ v29 = .int .i64 i ∧ Hid (wl = w1) ∧ ∀ j (hj : j < bs.length), j < i → (bs[j]).length = 32) (fun v29 _ => bs.length - (intOf v29).toNat)
      case atStart => exact ⟨0, Nat.zero_le _, rfl, rfl, fun j _ hj => absurd hj (Nat.not_lt_zero _)⟩
      case round =>
        obtain ⟨i, hi, rfl, hwl, hall⟩ := hrel
        obtain rfl := hwl.out
        by_cases hlt : i < bs.length
        · obtain ⟨g, o, rfl, hcell⟩ := hX1 i hlt
          have hz1 : (0 : Int) ≤ (i : Int) := by omega
          have hz2 : (i : Int) < (bs.length : Int) := by omega
          have HB := isDig_any bs[i]
          have hxm : bs[i] ∈ bs := List.getElem_mem hlt
          by_cases hd : (bs[i]).length = 32
          · replace HB := fun w1 => HB true w1 ⟨fun _ => hd, fun _ => rfl⟩
            replace hall : Hid (∀ j (hj : j < bs.length), j < i → (bs[j]).length = 32) := hall
            replace hd : Hid ((bs[i]).length = 32) := hd
            clear hxm
            generalize hbi : bs[i] = s at *
            replace hbi : Hid (bs[i] = s) := hbi
            go_wp2_with (go_at_call 62; refine (HB _).mono ?_; rintro e w4 ⟨rfl, hw4⟩; have hw4 := hw4.symm; subst hw4)
            go_roundw
            case rel => exact ⟨i + 1, by omega, by go_num, trivial, fun j hj hji => by
              by_cases e : j = i
              · subst e; rw [hbi.out]; exact hd.out
              · exact hall.out j hj (by omega)⟩
            case measure => simp [intOf]; omega
          · replace HB := fun w1 => HB false w1 ⟨fun h => Bool.noConfusion h, fun h => absurd h hd⟩
            have hbf : bb = false := by
              cases bb with
              | false => rfl
              | true => exact absurd ((hb.1 rfl).2.2 _ hxm) hd
            subst hbf
            clear hd hxm hall hb
            generalize bs[i] = s at *
            go_wp2_with (go_at_call 62; refine (HB _).mono ?_; rintro e w4 ⟨rfl, hw4⟩; have hw4 := hw4.symm; subst hw4)
            go_ret
            exact ⟨rfl, hw1⟩
        · have hbt : bb = true := hb.2 ⟨by omega, (fun h => Bool.noConfusion h), fun x hx => by
            obtain ⟨j, hj, rfl⟩ := List.getElem_of_mem hx
            exact hall j hj (by omega)⟩
          subst hbt
          clear hall hb
          obtain rfl : i = bs.length := by omega
          go_wp2_with fail
          go_ret
          exact ⟨rfl, hw1⟩
    | true =>
      by_cases h1 : lp.length = 32
      · replace HL1 := fun w1 => HL1 true w1 ⟨fun _ => h1, fun _ => rfl⟩
        by_cases h2 : lv.length = 32
        · replace HL2 := fun w1 => HL2 true w1 ⟨fun _ => h2, fun _ => rfl⟩
          replace h1 : Hid (lp.length = 32) := h1
          replace h2 : Hid (lv.length = 32) := h2
          go_upto_region 4 with (first | (go_at_call 62; refine (HL1 _).mono ?_; clear HL1; rintro e w4 ⟨rfl, hw4⟩; have hw4 := hw4.symm; subst hw4) | (go_at_call 62; refine (HL2 _).mono ?_; rintro e w4 ⟨rfl, hw4⟩; have hw4 := hw4.symm; subst hw4))
          go_loopw [29] (fun v29 wl => ∃ i : Nat, i ≤ bs.length ∧ v29 = .int .i64 i ∧ Hid (wl = w1) ∧ ∀ j (hj : j < bs.length), j < i → (bs[j]).length = 32) (fun v29 _ => bs.length - (intOf v29).toNat)
          case atStart => exact ⟨0, Nat.zero_le _, rfl, rfl, fun j _ hj => absurd hj (Nat.not_lt_zero _)⟩
          case round =>
            obtain ⟨i, hi, rfl, hwl, hall⟩ := hrel
            obtain rfl := hwl.out
            by_cases hlt : i < bs.length
            · obtain ⟨g, o, rfl, hcell⟩ := hX1 i hlt
              have hz1 : (0 : Int) ≤ (i : Int) := by omega
              have hz2 : (i : Int) < (bs.length : Int) := by omega
              have HB := isDig_any bs[i]
              have hxm : bs[i] ∈ bs := List.getElem_mem hlt
              by_cases hd : (bs[i]).length = 32
              · replace HB := fun w1 => HB true w1 ⟨fun _ => hd, fun _ => rfl⟩
                replace hall : Hid (∀ j (hj : j < bs.length), j < i → (bs[j]).length = 32) := hall
                replace hd : Hid ((bs[i]).length = 32) := hd
                clear hxm
                generalize hbi : bs[i] = s at *
                replace hbi : Hid (bs[i] = s) := hbi
                go_wp2_with (go_at_call 62; refine (HB _).mono ?_; rintro e w4 ⟨rfl, hw4⟩; have hw4 := hw4.symm; subst hw4)
                go_roundw
                case rel => exact ⟨i + 1, by omega, by go_num, trivial, fun j hj hji => by
                  by_cases e : j = i
                  · subst e; rw [hbi.out]; exact hd.out
                  · exact hall.out j hj (by omega)⟩
                case measure => simp [intOf]; omega
              · replace HB := fun w1 => HB false w1 ⟨fun h => Bool.noConfusion h, fun h => absurd h hd⟩
                have hbf : bb = false := by
                  cases bb with
                  | false => rfl
                  | true => exact absurd ((hb.1 rfl).2.2 _ hxm) hd
                subst hbf
                clear hd hxm hall hb
                generalize bs[i] = s at *
                go_wp2_with (go_at_call 62; refine (HB _).mono ?_; rintro e w4 ⟨rfl, hw4⟩; have hw4 := hw4.symm; subst hw4)
                go_ret
                exact ⟨rfl, hw1⟩
            · have hbt : bb = true := hb.2 ⟨by omega, (fun _ => ⟨h1.out, h2.out⟩), fun x hx => by
                obtain ⟨j, hj, rfl⟩ := List.getElem_of_mem hx
                exact hall j hj (by omega)⟩
              subst hbt
              clear hall hb
              obtain rfl : i = bs.length := by omega
              go_wp2_with fail
              go_ret
              exact ⟨rfl, hw1⟩
        · replace HL2 := fun w1 => HL2 false w1 ⟨fun h => Bool.noConfusion h, fun h => absurd h h2⟩
          have hbf : bb = false := by
            cases bb with
            | false => rfl
            | true => exact absurd ((hb.1 rfl).2.1 rfl).2 h2
          subst hbf
          clear h1 h2 hb
          go_wp2_with (first | (go_at_call 62; refine (HL1 _).mono ?_; clear HL1; rintro e w4 ⟨rfl, hw4⟩; have hw4 := hw4.symm; subst hw4) | (go_at_call 62; refine (HL2 _).mono ?_; rintro e w4 ⟨rfl, hw4⟩; have hw4 := hw4.symm; subst hw4))
          go_ret
          exact ⟨rfl, hw1⟩
      · replace HL1 := fun w1 => HL1 false w1 ⟨fun h => Bool.noConfusion h, fun h => absurd h h1⟩
        have hbf : bb = false := by
          cases bb with
          | false => rfl
          | true => exact absurd ((hb.1 rfl).2.1 rfl).1 h1
        subst hbf
        clear h1 hb HL2
        go_wp2_with (go_at_call 62; refine (HL1 _).mono ?_; clear HL1; rintro e w4 ⟨rfl, hw4⟩; have hw4 := hw4.symm; subst hw4)
        go_ret
        exact ⟨rfl, hw1⟩
end Go.Proofs.YtmeolaeoaoldoaaDoor.Sh
namespace Go.Proofs.YtmeolaeoaoldoaaDoor.Sh
open Go Go.RowKit Go.Shelf
/-- What shared leaves: how far down two ways are one. -/
def SharedP (a b : List UInt8) (w : World) (e : Ending) (w' : World) : Prop := ∃ d : Nat, e = .returned (.int .i64 d) ∧ d ≤ 256 ∧ (∀ j, j < d → bitD a j = bitD b j) ∧ (d < 256 → bitD a d ≠ bitD b d) ∧ Below w.heap.size w w'
structure SM (w : World) (a b : List UInt8) (lo B : Nat) (r : Int) (W : World) : Prop where
  bb : Blk W w.heap.size #[.string ⟨b.toArray⟩] 9
  br : Blk W (w.heap.size + 1) #[.int .i64 r] 3
  path : Blk W B #[.string ⟨a.toArray⟩] 9
  below : Below w.heap.size w W
theorem SM.turn {w : World} {a b : List UInt8} {lo B : Nat} {r : Int} {W W' : World} {row : Option Nat} (h : SM w a b lo B r W) (hl : w.heap.size ≤ lo) (hg : W.grownBy W' row) (hr : ∀ r, row = some r → lo ≤ r ∧ ∃ o : Obj, W.heap[r]? = some o ∧ o.isCells = false) : SM w a b lo B r W' :=
  have hr2 := fun r e => (hr r e).2
  ⟨h.bb.turn hg hr2, h.br.turn hg hr2, h.path.turn hg hr2, h.below.grown hg h.below.size (fun k e => Nat.le_trans hl (hr k e).1)⟩
theorem SM.put {w : World} {a b : List UInt8} {lo B : Nat} {r : Int} {W : World} (h : SM w a b lo B r W) (hB : w.heap.size + 1 < B) (n : Int) : SM w a b lo B n (W.setCell ⟨w.heap.size + 1, 0, none⟩ (.int .i64 n)) := by
  have hg := grown_setCell (w.heap.size + 1) (.int .i64 n) 0 W
  exact ⟨h.bb.grown hg (fun e => by have := Option.some.inj e; omega), h.br.setCell 0 (.int .i64 n), h.path.grown hg (fun e => by have := Option.some.inj e; omega), h.below.grown hg h.below.size (fun k e => by cases e; omega)⟩
theorem res_c {fn : Func} {p : Tmp} {ty : TypeId} (h : fn.results = #[.cell p ty]) (tmps : Array Value) (w : World) (b : Nat) (v : Value) (d : TypeDesc) (hp : tmps.getD p undef = .pointer (some ⟨b, 0, none⟩)) (hc : w.cell? ⟨b, 0, none⟩ = some v) (hu : Tryd.prog.underlying ty = some d) (hd : d.isRow = false) :
    (results fn tmps).run Tryd.prog w = .ok v w := by
  rw [Array.getD_eq_getD_getElem?] at hp
  unfold results
  rw [h]
  simp [hp, asAddr, loadVar, isAgg_run hu hd, hc, Sem.run_bind, go_sem]
section
attribute [local go_sem] Oper.semAt_some
set_option maxRecDepth 100000 in
set_option maxHeartbeats 4000000 in
theorem shared_any (a b : List UInt8) (w : World) (ha : a.length = 32) (hb : b.length = 32) :
    Calls Tryd.prog 50 #[.string ⟨a.toArray⟩, .string ⟨b.toArray⟩] w (SharedP a b w) := by
  refine (callsIn_wide (n := 6)).1 (callsIn_of_wp_marks Tryd.func50 rfl trivial ?_ rfl)
  refine wpIn_wide.2 ?_
  simp only [Tryd.ntmps50, List.size_toArray, List.length_cons, List.length_nil, Nat.reduceAdd, Nat.reduceSub, Array.replicate_succ, Array.replicate_zero, List.push_toArray, List.append_toArray, List.nil_append, List.cons_append]
  have HW := way_any a
  go_wp2_with (go_at_call 54; refine (HW _).mono ?_; rintro e w2 ⟨rfl, hb2, hw2⟩)
  clear HW
  have W1 : ∃ w1 : World, ((w.alloc (.cells #[.string ⟨b.toArray⟩] 9)).alloc (.cells #[.int .i64 0] 3)) = w1 ∧ Below w.heap.size w w1 ∧ w1.heap.size = w.heap.size + 1 + 1 ∧ Blk w1 w.heap.size #[.string ⟨b.toArray⟩] 9 ∧ Blk w1 (w.heap.size + 1) #[.int .i64 0] 3 := by
    refine ⟨_, rfl, ((Below.refl _ w).alloc (Nat.le_refl _) _).alloc (by simp) _, by simp, (Blk.new w _ _).alloc _, ?_⟩
    have := Blk.new (w.alloc (.cells #[.string ⟨b.toArray⟩] 9)) #[.int .i64 0] 3
    rw [World.size_alloc] at this
    exact this
  obtain ⟨w1, hw1, hA, hsz, k0, k1⟩ := W1
  rw [hw1] at hw2 hb2
  rw [hsz] at hb2
  have hlt : w.heap.size + 1 + 1 < w2.heap.size := hb2.lt
  have M2 : SM w a b w2.heap.size (w.heap.size + 1 + 1) 0 w2 := ⟨k0.belowSize hw2, k1.belowSize hw2, hb2, hA.trans (hw2.mono hA.size)⟩
  clear k0 k1 hA hsz hw2 hw1
  obtain ⟨lo, hlo'⟩ : ∃ lo, w2.heap.size = lo := ⟨_, rfl⟩
  obtain ⟨B, hB'⟩ : ∃ B, w.heap.size + 1 + 1 = B := ⟨_, rfl⟩
  rw [hlo'] at hlt M2
  have hB3 : w.heap.size + 1 < B := by omega
  rw [hB'] at hlt M2 hb2
  refine (wpIn_wide (n := 6)).1 ?_
  rw [hB']
  refine wpIn_rangeFunc_ownG rfl (by omega) (gf := 73) (lb := #[.pointer (some ⟨B, 0, none⟩)]) rfl trivial (enters_of Tryd.func73 (by kernel_rfl) rfl)
    (way_stops 5 (by omega) B a ha w2 hb2) kpW_t (kpW_b (w := w2)) (Below.refl _ _) (fun _ => rfl)
    (fun pre W => SM w a b lo B 0 W ∧ Hid (IsW pre → ∀ j, j < pre.length → bitD a j = bitD b j))
    (fun c pre W => c = .ret ∧ ∃ d : Nat, SM w a b lo B d W ∧ d < 256 ∧ Hid (IsW pre → (∀ j, j < d → bitD a j = bitD b j) ∧ bitD a d ≠ bitD b d))
    (fun s W W' row hs hg hr => ⟨hs.1.turn (by omega) hg (by rw [hlo'] at hr; exact hr), hs.2⟩)
    (fun c s W W' row hs hg hr => by
      obtain ⟨hc, d, hM, hrest⟩ := hs
      exact ⟨hc, d, hM.turn (by omega) hg (by rw [hlo'] at hr; exact hr), hrest⟩)
    ⟨M2, fun _ j hj => absurd hj (Nat.not_lt_zero _)⟩
    (fun x => { tmps := #[.string ⟨a.toArray⟩, .string ⟨b.toArray⟩, undef, .pointer (some ⟨w.heap.size, 0, none⟩), .pointer (some ⟨w.heap.size + 1, 0, none⟩), .int .i64 ((x.1 : Nat) : Int), .int .i64 ((bitD a x.1 : Nat) : Int), .string ⟨a.toArray⟩, .func (.func 73) #[] #[.pointer (some ⟨B, 0, none⟩)], .int .i64 ((x.1 : Nat) : Int), .int .i64 ((bitD a x.1 : Nat) : Int), undef, undef, undef, undef, undef, undef], defers := [] }) ?assign ?body ?done ?stop
  case assign =>
    intro l x W K hK
    gi_wp2
    exact hK
  case body =>
    rintro l pre x W ⟨hM, hFI⟩ hlt2
    have HS := fun w1 => side_any b x.1 w1 x.2 hb
    have cb := blk1c hM.bb
    have cr := blk1c hM.br
    have fr := hM.br.frozen 0
    by_cases he : bitD a x.1 = bitD b x.1
    · have hgo : Hid (IsW (pre ++ [x]) → ∀ j, j < (pre ++ [x]).length → bitD a j = bitD b j) := fun hW j hj => by
        have h9 := hW.snoc hlt2
        rw [List.length_append, List.length_singleton] at hj
        by_cases e : j = x.1
        · rw [e]; exact he
        · exact hFI.out h9.1 j (by omega)
      rw [← he] at HS
      clear he hFI
      generalize bitD a x.1 = m at *
      gi_wp2_with (refine ⟨trivial, ?_⟩; gi_at_call 63; refine (CallsIn.inRound l (callsIn_wide.2 (HS _))).mono ?_; rintro e w3 ⟨rfl, hw3⟩; have hw3 := hw3.symm; subst hw3)
      exact ⟨(NC.refl _).from _, fun h => h, hM, hgo⟩
    · have hgo : Hid (IsW (pre ++ [x]) → (∀ j, j < x.1 → bitD a j = bitD b j) ∧ bitD a x.1 ≠ bitD b x.1) := fun hW => by
        have h9 := hW.snoc hlt2
        exact ⟨fun j hj => hFI.out h9.1 j (by omega), he⟩
      have hbe : ((bitD a x.1 : Int) == (bitD b x.1 : Int)) = false := by rw [beq_eq_false_iff_ne]; omega
      clear he hFI
      have hx2 := x.2
      obtain ⟨m, hm⟩ : ∃ m, bitD a x.1 = m := ⟨_, rfl⟩
      obtain ⟨n, hn⟩ : ∃ n, bitD b x.1 = n := ⟨_, rfl⟩
      rw [hm] at hbe
      rw [hn] at hbe HS
      rw [hm]
      clear hm hn
      gi_wp2_with (refine ⟨trivial, ?_⟩; gi_at_call 63; refine (CallsIn.inRound l (callsIn_wide.2 (HS _))).mono ?_; rintro e w3 ⟨rfl, hw3⟩; have hw3 := hw3.symm; subst hw3)
      exact ⟨(NC.blk (grown_setCell (w.heap.size + 1) _ 0 W) hM.br).from _, rfl, x.1, hM.put hB3 _, hx2, hgo⟩
  case done =>
    rintro D ys W hD rfl ⟨hM, hFI⟩ hK
    have hfin := hFI.out IsW.all
    rw [allW_len] at hfin
    have cr := blk1c hM.br
    have fr := hM.br.frozen 0
    go_wp2_with fail
    have hM2 := hM.put hB3 256
    have hKd := (NC.blk (grown_setCell (w.heap.size + 1) (.int .i64 256) 0 W) hM.br).all D _ hK rfl
    generalize W.setCell ⟨w.heap.size + 1, 0, none⟩ (.int .i64 256) = W2 at *
    refine ⟨by simp, .inl ⟨_, _, rfl, run_takeDeferred hKd, ?_⟩⟩
    have hM3 := hM2.br.turn (grownBy_putObj' W2 D (.deferred none)) (fun r e => by cases e; exact ⟨_, hKd, rfl⟩)
    exact ⟨_, res_c rfl _ _ (w.heap.size + 1) (.int .i64 256) _ rfl (blk1c hM3) Tryd.underlying3 rfl, 256, rfl, Nat.le_refl _, hfin, fun h => absurd h (Nat.lt_irrefl _), hM2.below.trans (belowK_b (w := w) (Nat.le_refl _) W2 D _ _ (by omega) hKd rfl rfl)⟩
  case stop =>
    rintro D c pre W hD ⟨j, hj, rfl⟩ ⟨rfl, d, hM, hd, hFI⟩ hK
    have hfin := hFI.out (IsW.take hj)
    refine wpIn_ret ?_
    refine ⟨by simp, .inl ⟨_, _, rfl, run_takeDeferred hK, ?_⟩⟩
    have hM3 := hM.br.turn (grownBy_putObj' W D (.deferred none)) (fun r e => by cases e; exact ⟨_, hK, rfl⟩)
    exact ⟨_, res_c rfl _ _ (w.heap.size + 1) (.int .i64 d) _ rfl (blk1c hM3) Tryd.underlying3 rfl, d, rfl, by omega, hfin.1, fun _ => hfin.2, hM.below.trans (belowK_b (w := w) (Nat.le_refl _) W D _ _ (by omega) hK rfl rfl)⟩
end
end Go.Proofs.YtmeolaeoaoldoaaDoor.Sh
namespace Go.Proofs.YtmeolaeoaoldoaaDoor.Sh
open Go Go.RowKit Go.Shelf
/-- The texts that are gone over lie in memory. -/
structure BMt (bx : Nat) (a : Option Addr) (k : Nat) (bs : List (List UInt8)) (W : World) : Prop where
  box : Blk W bx #[.slice a bs.length k] 48
  el : XA W a bs
theorem BMt.below {bx : Nat} {a : Option Addr} {k : Nat} {bs : List (List UInt8)} {W W' : World} (h : BMt bx a k bs W) (hb : Below W.heap.size W W') : BMt bx a k bs W' := ⟨h.box.belowSize hb, h.el.below hb⟩
theorem XA.turn {w w' : World} {a : Option Addr} {l : List (List UInt8)} {row : Option Nat} (h : XA w a l) (hg : w.grownBy w' row) (hr : ∀ r, row = some r → ∃ o : Obj, w.heap[r]? = some o ∧ o.isCells = false) : XA w' a l := fun i hi => by
  obtain ⟨g, o, ha, hc⟩ := h i hi
  exact ⟨g, o, ha, cell_kept hc hg hr⟩
theorem BMt.turn {bx : Nat} {a : Option Addr} {k : Nat} {bs : List (List UInt8)} {W W' : World} {row : Option Nat} (h : BMt bx a k bs W) (hg : W.grownBy W' row) (hr : ∀ r, row = some r → ∃ o : Obj, W.heap[r]? = some o ∧ o.isCells = false) : BMt bx a k bs W' := ⟨h.box.turn hg hr, h.el.turn hg hr⟩
abbrev encT (bs : List (List UInt8)) (j : Fin bs.length) : Array Value := #[.int .i64 ((j.1 : Nat) : Int), .string ⟨(bs[j.1]).toArray⟩]
abbrev KpT (bx : Nat) (a : Option Addr) (k : Nat) (bs : List (List UInt8)) (W W' : World) : Prop := BMt bx a k bs W → BMt bx a k bs W'
set_option maxRecDepth 100000 in
theorem bwT_any (a : Option Addr) (n k : Nat) (w : World) : Calls Tryd.prog 64 #[.slice a n k] w fun e w' => e = .returned (.func (.func 77) #[] #[.pointer (some ⟨w.heap.size, 0, none⟩)]) ∧ Blk w' w.heap.size #[.slice a n k] 48 ∧ Below w.heap.size w w' := by
  go_enter Tryd.func64, Tryd.ntmps64
  go_wp2_with fail
  go_ret
  exact ⟨rfl, Blk.new _ _ _, (Below.refl _ _).alloc (Nat.le_refl _) _⟩
section
attribute [local go_sem] Oper.semAt_some
set_option maxRecDepth 100000 in
set_option maxHeartbeats 2000000 in
theorem bwT1_in (n : Nat) (hn : 1 ≤ n) (l bx : Nat) (a : Option Addr) (kc : Nat) (cs : List (List UInt8)) (hcs : cs.length ≤ 1000) (J Jx : List (Fin cs.length) → World → Prop)
    (hY : ∀ pre x W, J pre W → pre.length < cs.length → YieldAt Fence.wide (n - 1) Tryd.prog l (encT cs x) W fun e W' =>
      (e = .returned (.bool true) ∧ J (pre ++ [x]) W' ∧ KpT bx a kc cs W W') ∨ (e = .returned (.bool false) ∧ Jx (pre ++ [x]) W'))
    (W : World) (hI : BMt bx a kc cs W) (h0 : J [] W) :
    CallsIn Fence.wide n Tryd.prog 77 #[.func (.yield l) #[] #[], .pointer (some ⟨bx, 0, none⟩)] W fun e W' => (∃ v, e = .returned v) ∧
      ((∃ ys, ys = revW cs.length ∧ J ys W') ∨ (∃ pre, (∃ k, k ≤ cs.length ∧ pre = (revW cs.length).take k) ∧ Jx pre W')) := by
  have hbt : W.cell? ⟨bx, 0, none⟩ = some (.slice a cs.length kc) := hI.box.cell 0
  have hwr : IntKind.i64.wrap ((cs.length : Int) - 1) = (cs.length : Int) - 1 := by rw [IntKind.wrap_i64]; omega
  refine callsIn_of_wp Tryd.func77 rfl trivial ?_ rfl
  simp only [Tryd.ntmps77, List.size_toArray, List.length_cons, List.length_nil, Nat.reduceAdd, Nat.reduceSub, Array.replicate_succ, Array.replicate_zero, List.push_toArray, List.append_toArray, List.nil_append, List.cons_append]
  gi_wp2
  gi_loopw [3] (fun i wr => ∃ k : Nat, k ≤ cs.length ∧ i = .int .i64 ((cs.length : Int) - 1 - (k : Int)) ∧ J ((revW cs.length).take k) wr ∧ BMt bx a kc cs wr)
    (fun i _ => ((intOf i) + 1).toNat)
  case atStart => exact ⟨0, Nat.zero_le _, by simp, h0, hI⟩
  case round =>
    obtain ⟨k, hk, rfl, hJs, hIr⟩ := hrel
    have hc : wr.cell? ⟨bx, 0, none⟩ = some (.slice a cs.length kc) := hIr.box.cell 0
    by_cases hlt : k < cs.length
    · have hTk := revW_take hlt
      obtain ⟨g, o, rfl, e0⟩ := hIr.el (cs.length - 1 - k) (by omega)
      obtain ⟨fn, tmps, assign, body, hy, hR⟩ := hY _ ⟨cs.length - 1 - k, by omega⟩ wr hJs (by rw [List.length_take, revW_len]; omega)
      rw [← hTk] at hR
      clear hTk hbt
      dsimp only [encT] at hy
      obtain ⟨m, hm⟩ : ∃ m, cs.length - 1 - k = m := ⟨_, rfl⟩
      have hmi : (cs.length : Int) - 1 - (k : Int) = (m : Int) := by omega
      have hi0 : (0 : Int) ≤ (m : Int) := by omega
      have hi1 : (m : Int) < (cs.length : Int) := by omega
      have hwr2 : IntKind.i64.wrap ((m : Int) - 1) = (m : Int) - 1 := by rw [IntKind.wrap_i64]; omega
      rw [hmi]
      generalize cs[cs.length - 1 - k] = ce at *
      rw [hm] at e0 hy
      gi_wp2
      refine hR.mono ?_
      rintro e W3 (⟨rfl, hJ3, hk3⟩ | ⟨rfl, hJx3⟩)
      · gi_wp2
        go_roundw
        case rel => exact ⟨k + 1, by omega, by rw [show (cs.length : Int) - 1 - ((k + 1 : Nat) : Int) = (m : Int) - 1 by omega], hJ3, hk3 hIr⟩
        case measure => simp [intOf]
      · gi_wp2
        refine bodyPost_ret (results_none rfl _ _ _) rfl ?_
        exact ⟨⟨_, rfl⟩, .inr ⟨_, ⟨k + 1, by omega, rfl⟩, hJx3⟩⟩
    · obtain rfl : k = cs.length := by omega
      have hJs' : J (revW cs.length) wr := by
        rw [List.take_of_length_le (by rw [revW_len]; exact Nat.le_refl _)] at hJs
        exact hJs
      have hneg : ¬ (0 : Int) ≤ (cs.length : Int) - 1 - (cs.length : Int) := by omega
      gi_wp2
      go_end0
      first | exact ⟨⟨_, rfl⟩, .inl ⟨_, rfl, hJs'⟩⟩ | exact hJs' | exact ⟨⟨_, rfl⟩, .inl hJs'⟩
end
theorem bwT_stops (n : Nat) (hn : 1 ≤ n) (bx : Nat) (a : Option Addr) (kc : Nat) (cs : List (List UInt8)) (hcs : cs.length ≤ 1000) (w : World) (hI : BMt bx a kc cs w) :
    SeqStopsK Fence.wide n Tryd.prog 77 #[.pointer (some ⟨bx, 0, none⟩)] (encT cs) (KpT bx a kc cs) (fun ys => ys = revW cs.length) (fun pre => ∃ k, k ≤ cs.length ∧ pre = (revW cs.length).take k) cs.length w :=
  fun l J Jx W hW _ _ hY h0 => bwT1_in n hn l bx a kc cs hcs J Jx hY W (hI.below hW) h0
theorem kpT_t {bx : Nat} {a : Option Addr} {kc : Nat} {cs : List (List UInt8)} {A C D : World} (h : KpT bx a kc cs A C) (k : KpT bx a kc cs C D) : KpT bx a kc cs A D := fun hi => k (h hi)
theorem kpT_b {bx : Nat} {a : Option Addr} {kc : Nat} {cs : List (List UInt8)} {w : World} (W : World) (l : Nat) (o o' : Obj) (_ : w.heap.size ≤ l) (h : W.heap[l]? = some o) (hc : o.isCells = false) (_ : o.isWalk = false) : KpT bx a kc cs W (W.putObj l o') := fun hi => hi.turn (grownBy_putObj' W l o') (fun r e => by
  have e := Option.some.inj e
  subst e
  exact ⟨o, h, hc⟩)
end Go.Proofs.YtmeolaeoaoldoaaDoor.Sh
namespace Go.Proofs.YtmeolaeoaoldoaaDoor.Sh
open Go Go.RowKit Go.Shelf
theorem upS_drop (p : List UInt8) (bs : List (List UInt8)) (st : List UInt8) (k : Nat) (h : k < bs.length) : upS TgD p (bs.length - (k + 1)) (bs.drop (bs.length - (k + 1))) st = if bitD p (bs.length - 1 - k) = 0 then joinD TgD (upS TgD p (bs.length - k) (bs.drop (bs.length - k)) st) (bs[bs.length - 1 - k]'(by omega)) else joinD TgD (bs[bs.length - 1 - k]'(by omega)) (upS TgD p (bs.length - k) (bs.drop (bs.length - k)) st) := by
  rw [List.drop_eq_getElem_cons (by omega : bs.length - (k + 1) < bs.length)]
  have e1 : bs.length - (k + 1) + 1 = bs.length - k := by omega
  have e2 : bs[bs.length - (k + 1)]'(by omega) = bs[bs.length - 1 - k]'(by omega) := by congr 1; omega
  have e3 : bs.length - (k + 1) = bs.length - 1 - k := by omega
  show (if bitD p (bs.length - (k + 1)) = 0 then joinD TgD (upS TgD p (bs.length - (k + 1) + 1) _ st) _ else joinD TgD _ (upS TgD p (bs.length - (k + 1) + 1) _ st)) = _
  rw [e1, e2, e3]
theorem zTw : (∀ w, (zeroValue 110).run Tryd.prog w = .ok (.agg #[.string ⟨#[]⟩, .string ⟨#[]⟩]) w) ∧ (Tryd.prog.info? 110).map (·.size) = some 2 := zero_of_info (by kernel_rfl)
/-- The memory between two rounds of climb. -/
structure CM (w : World) (path : List UInt8) (lo Bu bx : Nat) (a : Option Addr) (k : Nat) (bs : List (List UInt8)) (up : List UInt8) (W : World) : Prop where
  bp : Blk W w.heap.size #[.string ⟨path.toArray⟩] 9
  bu : Blk W Bu #[.string ⟨up.toArray⟩] 9
  bm : BMt bx a k bs W
  below : Below w.heap.size w W
  size : lo ≤ W.heap.size
theorem CM.turn {w : World} {path : List UInt8} {lo Bu bx : Nat} {a : Option Addr} {k : Nat} {bs : List (List UInt8)} {up : List UInt8} {W W' : World} {row : Option Nat} (h : CM w path lo Bu bx a k bs up W) (hl : w.heap.size ≤ lo) (hg : W.grownBy W' row) (hr : ∀ r, row = some r → lo ≤ r ∧ ∃ o : Obj, W.heap[r]? = some o ∧ o.isCells = false) : CM w path lo Bu bx a k bs up W' :=
  have hr2 := fun r e => (hr r e).2
  ⟨h.bp.turn hg hr2, h.bu.turn hg hr2, h.bm.turn hg hr2, h.below.grown hg h.below.size (fun k e => Nat.le_trans hl (hr k e).1), Nat.le_trans h.size hg.size⟩
theorem CM.below' {w : World} {path : List UInt8} {lo Bu bx : Nat} {a : Option Addr} {k : Nat} {bs : List (List UInt8)} {up : List UInt8} {W W' : World} (h : CM w path lo Bu bx a k bs up W) (_ : XA w a bs) (hb : Below W.heap.size W W') : CM w path lo Bu bx a k bs up W' :=
  ⟨h.bp.belowSize hb, h.bu.belowSize hb, h.bm.below hb, h.below.trans (hb.mono h.below.size), Nat.le_trans h.size hb.size⟩
theorem CM.own {w : World} {path : List UInt8} {lo Bu bx : Nat} {a : Option Addr} {k : Nat} {bs : List (List UInt8)} {up : List UInt8} {W W' : World} {b : Nat} (h : CM w path lo Bu bx a k bs up W) (hX : XA w a bs) (hg : W.grownBy W' (some b)) (hl : lo ≤ b) (hbx : bx < lo) (hBu : w.heap.size < Bu ∧ Bu < bx) (_ : w.heap.size < lo) : CM w path lo Bu bx a k bs up W' := by
  have hB : Below w.heap.size w W' := h.below.grown hg h.below.size (fun k e => by cases e; omega)
  exact ⟨h.bp.grown hg (fun e => by have := Option.some.inj e; omega), h.bu.grown hg (fun e => by have := Option.some.inj e; omega), ⟨h.bm.box.grown hg (fun e => by have := Option.some.inj e; omega), hX.below hB⟩, hB, Nat.le_trans h.size hg.size⟩
theorem CM.move {w : World} {path : List UInt8} {lo Bu bx : Nat} {a : Option Addr} {k : Nat} {bs : List (List UInt8)} {up : List UInt8} {W : World} (h : CM w path lo Bu bx a k bs up W) (hX : XA w a bs) (nu : List UInt8) (_ : bx < lo) (hBu : w.heap.size < Bu ∧ Bu < bx) (_ : w.heap.size < lo) : CM w path lo Bu bx a k bs nu (W.setCell ⟨Bu, 0, none⟩ (.string ⟨nu.toArray⟩)) := by
  have hg := grown_setCell Bu (.string ⟨nu.toArray⟩) 0 W
  have hB : Below w.heap.size w (W.setCell ⟨Bu, 0, none⟩ (.string ⟨nu.toArray⟩)) := h.below.grown hg h.below.size (fun k e => by cases e; omega)
  exact ⟨h.bp.grown hg (fun e => by have := Option.some.inj e; omega), h.bu.setCell 0 (.string ⟨nu.toArray⟩), ⟨h.bm.box.grown hg (fun e => by have := Option.some.inj e; omega), hX.below hB⟩, hB, Nat.le_trans h.size hg.size⟩
section
attribute [local go_sem] Oper.semAt_some
set_option maxRecDepth 100000 in
set_option maxHeartbeats 4000000 in
theorem climb_any (path : List UInt8) (a : Option Addr) (k : Nat) (bs : List (List UInt8)) (has : Bool) (lp lv : List UInt8) (w : World) (hG : Glob w) (hp : path.length = 32) (hX : XA w a bs) (hbl : bs.length ≤ 256) (hbs : ∀ x ∈ bs, x.length = 32) (hlp : lp.length ≤ 1000) (hlv : lv.length ≤ 1000) :
    Calls Tryd.prog 51 #[.string ⟨path.toArray⟩, .agg #[.slice a bs.length k, .bool has, .string ⟨lp.toArray⟩, .string ⟨lv.toArray⟩]] w fun e w' => e = .returned (.string ⟨(upS TgD path 0 bs (if has = true then hashL TgD (lp, lv) else emptyD)).toArray⟩) ∧ Below w.heap.size w w' := by
  have HE := sempty_any
  have hel : emptyD.length = 32 := by decide
  have HL := fun w1 (hG : Glob w1) => sleaf_any lp lv w1 hG (by omega) (by omega)
  have hll : (hashL TgD (lp, lv)).length = 32 := TgD_len _ _
  generalize hashL TgD (lp, lv) = dl at *
  generalize emptyD = de at *
  obtain ⟨st0, hst0⟩ : ∃ st0, (if has = true then dl else de) = st0 := ⟨_, rfl⟩
  rw [hst0]
  replace hst0 : Hid ((if has = true then dl else de) = st0) := hst0
  refine (callsIn_wide (n := 6)).1 (callsIn_of_wp_marks Tryd.func51 rfl trivial ?_ rfl)
  refine wpIn_wide.2 ?_
  simp only [Tryd.ntmps51, List.size_toArray, List.length_cons, List.length_nil, Nat.reduceAdd, Nat.reduceSub, Array.replicate_succ, Array.replicate_zero, List.push_toArray, List.append_toArray, List.nil_append, List.cons_append]
  go_upto_region 2 with (first
    | (go_at_call 28; refine (HE _).mono ?_; rintro e w3 ⟨rfl, hw3⟩)
    | (with_reducible refine at_list ?_; refine wpList_boxRow (op := ⟨some 3, _, _, _, _, _⟩) rfl _ _ rfl #[.slice a bs.length k, .bool has, .string ⟨lp.toArray⟩, .string ⟨lv.toArray⟩] rfl ?_; intro w2 hw2 hs2 hb2; replace hs2 := hs2.symm))
  rename_i K1 hK1 K0 hK0
  have hsa : (w.alloc (.cells #[.string ⟨path.toArray⟩] 9)).heap.size = w.heap.size + 1 := by simp
  have hA : Below w.heap.size w (w.alloc (.cells #[.string ⟨path.toArray⟩] 9)) := (Below.refl _ w).alloc (Nat.le_refl _) _
  have k0 := Blk.new w #[.string ⟨path.toArray⟩] 9
  generalize w.alloc (.cells #[.string ⟨path.toArray⟩] 9) = w1 at *
  rw [hsa] at hb2 hs2
  have hB2 := hA.trans (hw2.mono hA.size)
  have hB3 := hB2.trans (hw3.mono hB2.size)
  have hw4 : Below w3.heap.size w3 (w3.alloc (.cells #[.string ⟨de.toArray⟩] 9)) := (Below.refl _ _).alloc (Nat.le_refl _) _
  have k5 := Blk.new w3 #[.string ⟨de.toArray⟩] 9
  have hB4 := hB3.trans (hw4.mono hB3.size)
  have k2 := ((k0.belowSize hw2).belowSize hw3).belowSize hw4
  have k3 := (hb2.belowSize hw3).belowSize hw4
  have hBu0 : w.heap.size + 1 < w3.heap.size := by have := hw3.size; omega
  generalize w3.alloc (.cells #[.string ⟨de.toArray⟩] 9) = w4 at *
  obtain ⟨Bu, hBu'⟩ : ∃ Bu, w3.heap.size = Bu := ⟨_, rfl⟩
  rw [hBu'] at k5 hBu0
  rw [hBu']
  have REST : ∀ (v10 v11 v12 v13 v14 : Value) (W : World) (st : List UInt8), Blk W w.heap.size #[.string ⟨path.toArray⟩] 9 → Blk W (w.heap.size + 1) #[.slice a bs.length k, .bool has, .string ⟨lp.toArray⟩, .string ⟨lv.toArray⟩] 50 → Blk W Bu #[.string ⟨st.toArray⟩] 9 → Below w.heap.size w W → st.length = 32 → st0 = st → K1 { tmps := #[.string ⟨path.toArray⟩, .agg #[.slice a bs.length k, .bool has, .string ⟨lp.toArray⟩, .string ⟨lv.toArray⟩], .pointer (some ⟨w.heap.size, 0, none⟩), .pointer (some ⟨w.heap.size + 1, 0, none⟩), .string ⟨#[]⟩, .pointer (some ⟨Bu, 0, none⟩), undef, undef, undef, .string ⟨de.toArray⟩, v10, v11, v12, v13, v14, undef, undef, undef, undef, undef, undef, undef, undef, undef, undef, undef, undef, undef, undef, undef, undef, undef, undef, undef], defers := [] } W := by
    intro v10 v11 v12 v13 v14 W st j0 j1 j2 hB hst hres
    subst hres
    refine hK1 _ _ ?_
    clear hK1 hK0 k0 k2 k3 k5 hw2 hw3 hw4 hB2 hB3 hB4 hb2 hs2 hBu' HE HL
    have c0 := (blk4c j1).1
    have HBW := bwT_any a bs.length k
    go_wp2_with (go_at_call 64; refine (HBW _).mono ?_; rintro e w5 ⟨rfl, hb5, hw5⟩)
    clear HBW c0
    have hbulk : Bu < W.heap.size := j2.lt
    obtain ⟨bx, hbx'⟩ : ∃ bx, W.heap.size = bx := ⟨_, rfl⟩
    rw [hbx'] at hb5 hbulk
    rw [hbx']
    have hBu : w.heap.size < Bu ∧ Bu < bx := ⟨by omega, hbulk⟩
    have M5 : CM w path w5.heap.size Bu bx a k bs st0 w5 := ⟨j0.belowSize hw5, j2.belowSize hw5, ⟨hb5, hX.below (hB.trans (hw5.mono hB.size))⟩, hB.trans (hw5.mono hB.size), Nat.le_refl _⟩
    have hbm := M5.bm
    have hbx : bx < w5.heap.size := hb5.lt
    obtain ⟨lo, hlo⟩ : ∃ lo, w5.heap.size = lo := ⟨_, rfl⟩
    rw [hlo] at M5 hbx
    have hw0 : w.heap.size < lo := by omega
    clear j0 j1 j2 hw5 hb5 hbx' hB
    refine (wpIn_wide (n := 6)).1 ?_
    refine wpIn_rangeFunc_ownG rfl (by omega) (gf := 77) (lb := #[.pointer (some ⟨bx, 0, none⟩)]) rfl trivial (enters_of Tryd.func77 (by kernel_rfl) rfl)
      (bwT_stops 5 (by omega) bx a k bs (by omega) w5 hbm) kpT_t (kpT_b (w := w5)) (Below.refl _ _) (fun _ => rfl)
      (fun pre W1 => ∃ up, CM w path lo Bu bx a k bs up W1 ∧ up.length = 32 ∧ Hid (IsR bs.length pre → up = upS TgD path (bs.length - pre.length) (bs.drop (bs.length - pre.length)) st0))
      (fun _ _ _ => False)
      (fun s W1 W2 row hs hg hr => by
        obtain ⟨up, hM, hrest⟩ := hs
        exact ⟨up, hM.turn (by omega) hg (by rw [hlo] at hr; exact hr), hrest⟩)
      (fun _ _ _ _ _ hs _ _ => hs)
      ⟨st0, M5, hst, fun _ => by rw [List.length_nil, Nat.sub_zero, List.drop_length]; rfl⟩
      (fun x => { tmps := #[.string ⟨path.toArray⟩, .agg #[.slice a bs.length k, .bool has, .string ⟨lp.toArray⟩, .string ⟨lv.toArray⟩], .pointer (some ⟨w.heap.size, 0, none⟩), .pointer (some ⟨w.heap.size + 1, 0, none⟩), .string ⟨#[]⟩, .pointer (some ⟨Bu, 0, none⟩), .int .i64 ((x.1 : Nat) : Int), .string ⟨(bs[x.1]).toArray⟩, undef, .string ⟨de.toArray⟩, v10, v11, v12, v13, v14, .pointer (some ⟨w.heap.size + 1, 0, none⟩), .slice a bs.length k, .func (.func 77) #[] #[.pointer (some ⟨bx, 0, none⟩)], .int .i64 ((x.1 : Nat) : Int), .string ⟨(bs[x.1]).toArray⟩, undef, undef, undef, undef, undef, undef, undef, undef, undef, undef, undef, undef, undef, undef], defers := [] }) ?assign2 ?body2 ?done2 ?stop2
    case assign2 =>
      intro l x W K hK
      gi_wp2
      exact hK
    case body2 =>
      rintro l pre x W ⟨up, hM, hul, hFI⟩ hlt2
      have HS := fun w1 => side_any path x.1 w1 (by have := x.2; omega) hp
      have hbel := hbs bs[x.1] (List.getElem_mem _)
      obtain ⟨be, hbe⟩ : ∃ be, bs[x.1] = be := ⟨_, rfl⟩
      rw [hbe] at hbel
      rw [hbe]
      replace hbe : Hid (bs[x.1] = be) := hbe
      have hbit := bitD_lt path x.1
      refine wpIn_block ?_
      refine wpIn_seq_k (fun K7 hK7 => ?_)
      by_cases hb0 : bitD path x.1 = 0
      · rw [hb0] at HS
        · skip
          refine region_in (by kernel_rfl) (by rintro ⟨_, _, h⟩; exact h) ?_
          go_wp2_with (with_reducible refine at_list ?_; first
            | (refine wpList_allocRow (op := ⟨some 8, _, _, _, _, _⟩) rfl _ rfl _ zTw.1 ?_; intro w4 hw4 hs4 hz4; replace hs4 := hs4.symm; have M4 := hM.below' hX hw4)
            | (refine wpList_storeRow (op := ⟨none, .store 110 (.tmp 8) (.tmp 22), _, _, _, _⟩) rfl _ _ _ rfl W.heap.size #[.string ⟨be.toArray⟩, .string ⟨be.toArray⟩] rfl rfl _ _ hz4 (by simp) (by simpa using zTw.2) (by simp [Value.oneCell']) ?_; intro w5 hg5 hs5 hz5))
          have M5 := M4.own hX hg5 hM.size hbx hBu hw0
          have N5 : NC W w5 := (NC.below hw4).trans (NC.blk hg5 hz4)
          obtain ⟨tw, htw⟩ : ∃ tw, W.heap.size = tw := ⟨_, rfl⟩
          have htl : lo ≤ tw := by rw [← htw]; exact hM.size
          rw [htw] at hz5
          rw [htw]
          clear hg5 hz4 hs5 hs4 M4 hw4
          gi_upto_region 8 with fail
          have B0 : Below w5.heap.size w5 w5.drew := (Below.refl _ _).drew
          have s0 : w5.drew.cell? ⟨w.heap.size, 0, none⟩ = some (.string ⟨path.toArray⟩) ∧ w5.drew.cell? ⟨Bu, 0, none⟩ = some (.string ⟨up.toArray⟩) := ⟨blk1c M5.bp.drew, blk1c M5.bu.drew⟩
          refine region_in_L (z := 5) (S := fun V => V.cell? ⟨w.heap.size, 0, none⟩ = some (.string ⟨path.toArray⟩) ∧ V.cell? ⟨Bu, 0, none⟩ = some (.string ⟨up.toArray⟩)) (by kernel_rfl) (by rintro ⟨_, _, h⟩; exact h) (by kernel_rfl) ?_
          refine wpAnyL_take (i := 0) (oi := ⟨some 23, _, _, _, _, _⟩) (v := .string ⟨path.toArray⟩) rfl (by kernel_rfl) (by kernel_rfl) (by kernel_rfl) (by kernel_rfl) (fun _ _ _ h => h) (Or.inl ⟨by rfl, fun w hSw => by (try dsimp only at hSw); obtain ⟨r0, r1⟩ := hSw; go_simp⟩) s0 ?_
          refine wpAnyL_take (i := 1) (oi := ⟨some 24, _, _, _, _, _⟩) (v := .int .i64 ((x.1 : Nat) : Int)) rfl (by kernel_rfl) (by kernel_rfl) (by kernel_rfl) (by kernel_rfl) (fun _ _ _ h => h) (Or.inl ⟨by rfl, fun w hSw => by (go_simp; try rfl)⟩) s0 ?_
          refine wpAnyL_take (i := 3) (oi := ⟨some 26, _, _, _, _, _⟩) (v := .string ⟨up.toArray⟩) rfl (by kernel_rfl) (by kernel_rfl) (by kernel_rfl) (by kernel_rfl) (fun _ _ _ h => h) (Or.inl ⟨by rfl, fun w hSw => by (try dsimp only at hSw); obtain ⟨r0, r1⟩ := hSw; go_simp⟩) s0 ?_
          try simp only [Act.put, List.setIfInBounds_toArray, List.set_cons_zero, List.set_cons_succ]
          refine wpAnyL_one (i := 2) (o := ⟨some 25, .call ⟨.value (.func 63), #[.tmp 23, .tmp 24], #[9, 3]⟩, _, _, _, _⟩) rfl (by kernel_rfl) (fun K hK => ?_)
          rw [if_pos (by rfl)]
          go_simp
          refine (HS _).mono ?_
          rintro e w6 ⟨rfl, hw6⟩
          have hw6 := hw6.symm
          subst hw6
          refine hK.out _ _ (fun _ => s0) ?_
          clear hK K
          try simp only [Act.put, List.setIfInBounds_toArray, List.set_cons_zero, List.set_cons_succ]
          try simp only [Act.put, List.setIfInBounds_toArray, List.set_cons_zero, List.set_cons_succ]
          refine wpAnyL_one (i := 4) (o := ⟨some 27, .indexAddr 110 (.tmp 8) (.tmp 25), _, _, _, _⟩) rfl (by kernel_rfl) (fun K hK => ?_)
          rw [if_pos (by rfl)]
          go_simp
          refine hK.out _ _ (fun _ => s0) ?_
          clear hK K
          try simp only [Act.put, List.setIfInBounds_toArray, List.set_cons_zero, List.set_cons_succ]
          refine wpAnyL_one (i := 5) (o := ⟨none, .store 9 (.tmp 27) (.tmp 26), _, _, _, _⟩) rfl (by kernel_rfl) (fun K hK => ?_)
          rw [if_pos (by rfl)]
          have hzd := hz5.drew
          have f5 := hzd.frozen 0
          obtain ⟨t0, t1⟩ := blk2c hzd
          go_simp
          refine hK.out _ _ (fun h => absurd rfl h) ?_
          clear hK K
          try simp only [Act.put, List.setIfInBounds_toArray, List.set_cons_zero, List.set_cons_succ]
          refine wpAnyL_done (by kernel_rfl) ?_ _
          have hg6 := grown_setCell tw (.string ⟨up.toArray⟩) 0 w5
          have B1 := fun (V : World) => (Below.refl V.heap.size V).drew
          have M6 := (M5.own hX hg6 htl hbx hBu hw0).below' hX (B1 _)
          have N6 := (N5.trans (NC.blk hg6 hz5)).trans (NC.below (B1 _))
          have hz6 := (hz5.setCell 0 (.string ⟨up.toArray⟩)).drew
          generalize (w5.setCell ⟨tw, 0, none⟩ (.string ⟨up.toArray⟩)).drew = w6 at *
          replace hz6 : Blk w6 tw #[.string ⟨up.toArray⟩, .string ⟨be.toArray⟩] 110 := hz6
          clear t0 t1 f5 hzd hz5 s0 hg6 N5 M5 B0 B1 HS
          obtain ⟨t0, t1⟩ := blk2c hz6
          have HJ := sjoin_any up be w6 (hG.belowSize M6.below) (by omega) (by omega)
          have hjl : (joinD TgD up be).length = 32 := TgD_len _ _
          obtain ⟨nu, hnu⟩ : ∃ nu, joinD TgD up be = nu := ⟨_, rfl⟩
          rw [hnu] at HJ hjl
          replace hnu : Hid (joinD TgD up be = nu) := hnu
          gi_wp2_with (refine ⟨trivial, ?_⟩; gi_at_call 32; refine (CallsIn.inRound l (callsIn_wide.2 HJ)).mono ?_; rintro e w7 ⟨rfl, hw7⟩; have M7 := M6.below' hX hw7; have c7 := blk1c M7.bu; have f7 := M7.bu.frozen 0)
          have M8 := M7.move hX nu hbx hBu hw0
          have N8 := (N6.trans (NC.below hw7)).trans (NC.blk (grown_setCell Bu (.string ⟨nu.toArray⟩) 0 w7) M7.bu)
          refine ⟨N8.from _, fun _ => M8.bm, nu, M8, hjl, fun hR => ?_⟩
          have h9 := hR.snoc hlt2
          have h10 := upS_drop path bs st0 pre.length hlt2
          have hx9 : bs[bs.length - 1 - pre.length]'(by omega) = bs[x.1] := by congr 1; exact h9.2.symm
          rw [List.length_append, List.length_singleton, h10, hx9, hbe.out, ← hFI.out h9.1, if_pos (by rw [← h9.2]; exact hb0), hnu.out]
      · have hb1 : bitD path x.1 = 1 := by omega
        rw [hb1] at HS
        · skip
          refine region_in (by kernel_rfl) (by rintro ⟨_, _, h⟩; exact h) ?_
          go_wp2_with (with_reducible refine at_list ?_; first
            | (refine wpList_allocRow (op := ⟨some 8, _, _, _, _, _⟩) rfl _ rfl _ zTw.1 ?_; intro w4 hw4 hs4 hz4; replace hs4 := hs4.symm; have M4 := hM.below' hX hw4)
            | (refine wpList_storeRow (op := ⟨none, .store 110 (.tmp 8) (.tmp 22), _, _, _, _⟩) rfl _ _ _ rfl W.heap.size #[.string ⟨be.toArray⟩, .string ⟨be.toArray⟩] rfl rfl _ _ hz4 (by simp) (by simpa using zTw.2) (by simp [Value.oneCell']) ?_; intro w5 hg5 hs5 hz5))
          have M5 := M4.own hX hg5 hM.size hbx hBu hw0
          have N5 : NC W w5 := (NC.below hw4).trans (NC.blk hg5 hz4)
          obtain ⟨tw, htw⟩ : ∃ tw, W.heap.size = tw := ⟨_, rfl⟩
          have htl : lo ≤ tw := by rw [← htw]; exact hM.size
          rw [htw] at hz5
          rw [htw]
          clear hg5 hz4 hs5 hs4 M4 hw4
          gi_upto_region 8 with fail
          have B0 : Below w5.heap.size w5 w5.drew := (Below.refl _ _).drew
          have s0 : w5.drew.cell? ⟨w.heap.size, 0, none⟩ = some (.string ⟨path.toArray⟩) ∧ w5.drew.cell? ⟨Bu, 0, none⟩ = some (.string ⟨up.toArray⟩) := ⟨blk1c M5.bp.drew, blk1c M5.bu.drew⟩
          refine region_in_L (z := 5) (S := fun V => V.cell? ⟨w.heap.size, 0, none⟩ = some (.string ⟨path.toArray⟩) ∧ V.cell? ⟨Bu, 0, none⟩ = some (.string ⟨up.toArray⟩)) (by kernel_rfl) (by rintro ⟨_, _, h⟩; exact h) (by kernel_rfl) ?_
          refine wpAnyL_take (i := 0) (oi := ⟨some 23, _, _, _, _, _⟩) (v := .string ⟨path.toArray⟩) rfl (by kernel_rfl) (by kernel_rfl) (by kernel_rfl) (by kernel_rfl) (fun _ _ _ h => h) (Or.inl ⟨by rfl, fun w hSw => by (try dsimp only at hSw); obtain ⟨r0, r1⟩ := hSw; go_simp⟩) s0 ?_
          refine wpAnyL_take (i := 1) (oi := ⟨some 24, _, _, _, _, _⟩) (v := .int .i64 ((x.1 : Nat) : Int)) rfl (by kernel_rfl) (by kernel_rfl) (by kernel_rfl) (by kernel_rfl) (fun _ _ _ h => h) (Or.inl ⟨by rfl, fun w hSw => by (go_simp; try rfl)⟩) s0 ?_
          refine wpAnyL_take (i := 3) (oi := ⟨some 26, _, _, _, _, _⟩) (v := .string ⟨up.toArray⟩) rfl (by kernel_rfl) (by kernel_rfl) (by kernel_rfl) (by kernel_rfl) (fun _ _ _ h => h) (Or.inl ⟨by rfl, fun w hSw => by (try dsimp only at hSw); obtain ⟨r0, r1⟩ := hSw; go_simp⟩) s0 ?_
          try simp only [Act.put, List.setIfInBounds_toArray, List.set_cons_zero, List.set_cons_succ]
          refine wpAnyL_one (i := 2) (o := ⟨some 25, .call ⟨.value (.func 63), #[.tmp 23, .tmp 24], #[9, 3]⟩, _, _, _, _⟩) rfl (by kernel_rfl) (fun K hK => ?_)
          rw [if_pos (by rfl)]
          go_simp
          refine (HS _).mono ?_
          rintro e w6 ⟨rfl, hw6⟩
          have hw6 := hw6.symm
          subst hw6
          refine hK.out _ _ (fun _ => s0) ?_
          clear hK K
          try simp only [Act.put, List.setIfInBounds_toArray, List.set_cons_zero, List.set_cons_succ]
          try simp only [Act.put, List.setIfInBounds_toArray, List.set_cons_zero, List.set_cons_succ]
          refine wpAnyL_one (i := 4) (o := ⟨some 27, .indexAddr 110 (.tmp 8) (.tmp 25), _, _, _, _⟩) rfl (by kernel_rfl) (fun K hK => ?_)
          rw [if_pos (by rfl)]
          go_simp
          refine hK.out _ _ (fun _ => s0) ?_
          clear hK K
          try simp only [Act.put, List.setIfInBounds_toArray, List.set_cons_zero, List.set_cons_succ]
          refine wpAnyL_one (i := 5) (o := ⟨none, .store 9 (.tmp 27) (.tmp 26), _, _, _, _⟩) rfl (by kernel_rfl) (fun K hK => ?_)
          rw [if_pos (by rfl)]
          have hzd := hz5.drew
          have f5 := hzd.frozen 1
          obtain ⟨t0, t1⟩ := blk2c hzd
          go_simp
          refine hK.out _ _ (fun h => absurd rfl h) ?_
          clear hK K
          try simp only [Act.put, List.setIfInBounds_toArray, List.set_cons_zero, List.set_cons_succ]
          refine wpAnyL_done (by kernel_rfl) ?_ _
          have hg6 := grown_setCell tw (.string ⟨up.toArray⟩) 1 w5
          have B1 := fun (V : World) => (Below.refl V.heap.size V).drew
          have M6 := (M5.own hX hg6 htl hbx hBu hw0).below' hX (B1 _)
          have N6 := (N5.trans (NC.blk hg6 hz5)).trans (NC.below (B1 _))
          have hz6 := (hz5.setCell 1 (.string ⟨up.toArray⟩)).drew
          generalize (w5.setCell ⟨tw, 1, none⟩ (.string ⟨up.toArray⟩)).drew = w6 at *
          replace hz6 : Blk w6 tw #[.string ⟨be.toArray⟩, .string ⟨up.toArray⟩] 110 := hz6
          clear t0 t1 f5 hzd hz5 s0 hg6 N5 M5 B0 B1 HS
          obtain ⟨t0, t1⟩ := blk2c hz6
          have HJ := sjoin_any be up w6 (hG.belowSize M6.below) (by omega) (by omega)
          have hjl : (joinD TgD be up).length = 32 := TgD_len _ _
          obtain ⟨nu, hnu⟩ : ∃ nu, joinD TgD be up = nu := ⟨_, rfl⟩
          rw [hnu] at HJ hjl
          replace hnu : Hid (joinD TgD be up = nu) := hnu
          gi_wp2_with (refine ⟨trivial, ?_⟩; gi_at_call 32; refine (CallsIn.inRound l (callsIn_wide.2 HJ)).mono ?_; rintro e w7 ⟨rfl, hw7⟩; have M7 := M6.below' hX hw7; have c7 := blk1c M7.bu; have f7 := M7.bu.frozen 0)
          have M8 := M7.move hX nu hbx hBu hw0
          have N8 := (N6.trans (NC.below hw7)).trans (NC.blk (grown_setCell Bu (.string ⟨nu.toArray⟩) 0 w7) M7.bu)
          refine ⟨N8.from _, fun _ => M8.bm, nu, M8, hjl, fun hR => ?_⟩
          have h9 := hR.snoc hlt2
          have h10 := upS_drop path bs st0 pre.length hlt2
          have hx9 : bs[bs.length - 1 - pre.length]'(by omega) = bs[x.1] := by congr 1; exact h9.2.symm
          rw [List.length_append, List.length_singleton, h10, hx9, hbe.out, ← hFI.out h9.1, if_neg (by rw [← h9.2]; exact hb0), hnu.out]
    case done2 =>
      rintro D ys W1 hD rfl ⟨up, M1, hul, hFI⟩ hK2
      have ce := blk1c M1.bu
      have hfin := hFI.out (IsR.all _)
      rw [revW_len, Nat.sub_self, List.drop_zero] at hfin
      go_wp2_with fail
      refine ⟨by simp, .inl ⟨_, _, rfl, run_takeDeferred hK2, ?_⟩⟩
      exact ⟨_, results_tmp rfl _ _ _, by rw [← hfin]; rfl, M1.below.trans (belowK_b (w := w) (Nat.le_refl _) W1 D _ _ (by omega) hK2 rfl rfl)⟩
    case stop2 =>
      rintro D2 c pre W1 _ _ h _
      exact h.elim
  clear hK1
  obtain ⟨g0, g1, g2, g3⟩ := blk4c k3
  cases has with
  | false =>
    go_wp2_with fail
    exact REST _ _ _ _ _ w4 de k2 k3 k5 hB4 hel (hst0.out.symm.trans (by simp))
  | true =>
    have HL4 := HL w4 (hG.belowSize hB4)
    go_wp2_with (go_at_call 30; refine HL4.mono ?_; rintro e w6 ⟨rfl, hw6⟩; have k6 := k5.belowSize hw6; have c6 := blk1c k6; have f6 := k6.frozen 0)
    have hg := grown_setCell Bu (.string ⟨dl.toArray⟩) 0 w6
    have hB6 := hB4.trans (hw6.mono hB4.size)
    exact REST _ _ _ _ _ _ dl ((k2.belowSize hw6).grown hg (fun e => by have := Option.some.inj e; omega)) ((k3.belowSize hw6).grown hg (fun e => by have := Option.some.inj e; omega)) (k6.setCell 0 (.string ⟨dl.toArray⟩)) (hB6.grown hg hB6.size (fun k e => by cases e; omega)) hll (hst0.out.symm.trans (by simp))
end
end Go.Proofs.YtmeolaeoaoldoaaDoor.Sh
