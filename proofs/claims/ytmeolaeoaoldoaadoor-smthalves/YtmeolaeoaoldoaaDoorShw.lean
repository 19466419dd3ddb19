/- SmtHalves of the landed tree. -/
import Derived.Test.YtmeolaeoaoldoaaDoorShv
namespace Go.Proofs.YtmeolaeoaoldoaaDoor.Sh
open Go Go.RowKit Go.Shelf
/-- Two trees and two leaves in memory. -/
structure HB (w : World) (bs bt bp bq : Nat) (ts tt : Tr) (px py pv : List UInt8) (W : World) : Prop where
  s : TM bs ts W
  t : TM bt tt W
  p : Blk W bp #[.string ⟨px.toArray⟩, .string ⟨pv.toArray⟩] 52
  q : Blk W bq #[.string ⟨py.toArray⟩, .string ⟨pv.toArray⟩] 52
  below : Below w.heap.size w W
theorem HB.below' {w : World} {bs bt bp bq : Nat} {ts tt : Tr} {px py pv : List UInt8} {W W' : World} (h : HB w bs bt bp bq ts tt px py pv W) (hb : Below W.heap.size W W') : HB w bs bt bp bq ts tt px py pv W' :=
  ⟨h.s.below hb, h.t.below hb, h.p.belowSize hb, h.q.belowSize hb, h.below.trans (hb.mono h.below.size)⟩
theorem HB.cells {w : World} {bs bt bp bq : Nat} {ts tt : Tr} {px py pv : List UInt8} {W : World} (h : HB w bs bt bp bq ts tt px py pv W) : W.cell? ⟨bp, 0, none⟩ = some (.string ⟨px.toArray⟩) ∧ W.cell? ⟨bp, 1, none⟩ = some (.string ⟨pv.toArray⟩) ∧ W.cell? ⟨bq, 0, none⟩ = some (.string ⟨py.toArray⟩) ∧ W.cell? ⟨bq, 1, none⟩ = some (.string ⟨pv.toArray⟩) :=
  ⟨(blk2c h.p).1, (blk2c h.p).2, (blk2c h.q).1, (blk2c h.q).2⟩
theorem HB.drew' {w : World} {bs bt bp bq : Nat} {ts tt : Tr} {px py pv : List UInt8} {W : World} (h : HB w bs bt bp bq ts tt px py pv W) : HB w bs bt bp bq ts tt px py pv W.drew := h.below' (Below.refl _ _).drew
theorem HB.putS {w : World} {bs bt bp bq : Nat} {ts tt : Tr} {px py pv : List UInt8} {x : LF} {W W' : World} (h : HB w bs bt bp bq ts tt px py pv W) (k : PutL bs ts x W W') (hne : bt ≠ bs) (hl : w.heap.size ≤ bs) : HB w bs bt bp bq (Tr.put 256 0 ts x) tt px py pv W' :=
  ⟨k.tm, k.other h.t hne, k.blk2 h.p (by decide), k.blk2 h.q (by decide), k.below h.below hl⟩
theorem HB.putT {w : World} {bs bt bp bq : Nat} {ts tt : Tr} {px py pv : List UInt8} {x : LF} {W W' : World} (h : HB w bs bt bp bq ts tt px py pv W) (k : PutL bt tt x W W') (hne : bs ≠ bt) (hl : w.heap.size ≤ bt) : HB w bs bt bp bq ts (Tr.put 256 0 tt x) px py pv W' :=
  ⟨k.other h.s hne, k.tm, k.blk2 h.p (by decide), k.blk2 h.q (by decide), k.below h.below hl⟩
theorem run_fieldPf (x y z u : Value) (w : World) : (Instr.field 50 (.agg #[x, y, z, u]) 0).run Tryd.prog w = .ok x w := by
  simp [Instr.field, run_underlying Tryd.underlying50, Sem.run_bind, asAgg, Go.part, isAgg_run Tryd.underlying48 rfl]
theorem TM.leaf {b b2 : Nat} {t : Tr} {c : Array Value} {ty : TypeId} {W W' : World} (h : TM b t W) (hg : W.grownBy W' (some b2)) (hb : Blk W b2 c ty) (h1 : 75 ≠ ty) (h2 : 82 ≠ ty) : TM b t W' := by
  obtain ⟨q, k1, k2⟩ := h.out
  exact ⟨⟨q, k1.grown hg (fun e => k1.apart hb h1 (Option.some.inj e)), k2.grown hg hb h2⟩, h.canon⟩
set_option maxRecDepth 100000 in
set_option maxHeartbeats 8000000 in
theorem smtHalves_any (a b value : List UInt8) (w : World) (hG : Glob w) (h1 : a.length ≤ 9223372036854775807) (h2 : b.length ≤ 9223372036854775807) (h3 : value.length ≤ 9223372036854775807) :
    Calls Tryd.prog 7 #[.string ⟨a.toArray⟩, .string ⟨b.toArray⟩, .string ⟨value.toArray⟩] w fun e w' => e = .returned (.bool true) ∧ Below w.heap.size w w' := by
  have HF1 := fun w1 => few7_any a w1 h1
  have HF2 := fun w1 => few7_any b w1 h2
  have HF3 := fun w1 => few7_any value w1 h3
  have hx : (a.take 60).length ≤ 60 := by rw [List.length_take]; omega
  have hy : (b.take 60).length ≤ 60 := by rw [List.length_take]; omega
  have hv : (value.take 60).length ≤ 60 := by rw [List.length_take]; omega
  generalize a.take 60 = x at *
  generalize b.take 60 = y at *
  generalize value.take 60 = v at *
  have HO1 := fun w1 => of_any x v w1 (by omega) (by omega)
  have HO2 := fun w1 => of_any y v w1 (by omega) (by omega)
  have HPs := fun w1 bb (hG : Glob w1) (h : TM bb .emp w1) => tmPut bb .emp x v w1 hG h (by decide) (by omega) (by omega)
  have HPt := HPs
  have HPu := fun w1 bb (hG : Glob w1) (h : TM bb (.lf (ofD TgD x v)) w1) => tmPut bb (.lf (ofD TgD x v)) y v w1 hG h (by show 1 ≤ 1000; omega) (by omega) (by omega)
  have ex : ofD TgD x v = (TgD 80 [x], TgD 86 [v]) := rfl
  have ey : ofD TgD y v = (TgD 80 [y], TgD 86 [v]) := rfl
  rw [ex] at HO1 HPs HPt HPu
  rw [ey] at HO2 HPu
  have hpl : (TgD 80 [x]).length = 32 := TgD_len _ _
  have hql : (TgD 80 [y]).length = 32 := TgD_len _ _
  have hvl : (TgD 86 [v]).length = 32 := TgD_len _ _
  clear ex ey
  obtain ⟨px, hpx⟩ : ∃ px, TgD 80 [x] = px := ⟨_, rfl⟩
  obtain ⟨py, hpy⟩ : ∃ py, TgD 80 [y] = py := ⟨_, rfl⟩
  rw [hpx] at HO1 HPs HPt HPu hpl
  rw [hpy] at HO2 HPu hql
  generalize TgD 86 [v] = pv at *
  replace hpx : Hid (pathD7 x = px) := hpx
  replace hpy : Hid (pathD7 y = py) := hpy
  have HN1 := tmNew w
  have HN2 := fun w1 => tmNew w1
  have HA := fun w1 (hB : Below w.heap.size w w1) => awake7_any smtV w1 (hG.belowSize hB)
  go_enter Tryd.func7, Tryd.ntmps7
  go_upto_region 4 with (first
    | (go_at_call 20; refine (HF1 _).mono ?_; clear HF1; rintro e w9 ⟨rfl, hw9⟩; have hw9 := hw9.symm; subst hw9)
    | (go_at_call 20; refine (HF2 _).mono ?_; clear HF2; rintro e w9 ⟨rfl, hw9⟩; have hw9 := hw9.symm; subst hw9)
    | (go_at_call 20; refine (HF3 _).mono ?_; clear HF3; rintro e w9 ⟨rfl, hw9⟩; have hw9 := hw9.symm; subst hw9)
    | (go_at_call 15; refine HN1.mono ?_; clear HN1; rintro e w1 ⟨rfl, ts1, hw1⟩)
    | (go_at_call 15; refine (HN2 _).mono ?_; clear HN2; rintro e w2 ⟨rfl, tt2, hw2⟩; have hB2 := hw1.trans (hw2.mono hw1.size); have ts2 := ts1.below hw2)
    | (go_at_call 22; refine (HO1 _).mono ?_; clear HO1; rintro e w3 ⟨rfl, hw3⟩; have hB3 := hB2.trans (hw3.mono hB2.size); have ts3 := ts2.below hw3; have tt3 := tt2.below hw3)
    | (go_at_call 22; refine (HO2 _).mono ?_; clear HO2; rintro e w4 ⟨rfl, hw4⟩; have hB4 := hB3.trans (hw4.mono hB3.size); have ts4 := ts3.below hw4; have tt4 := tt3.below hw4)
    | (with_reducible refine at_list ?_; first
      | (refine wpList_allocRow (op := ⟨some 12, _, _, _, _, _⟩) rfl _ rfl _ zLf.1 ?_; intro w5 hw5 hs5 hz5; replace hs5 := hs5.symm; have hB5 := hB4.trans (hw5.mono hB4.size); have ts5 := ts4.below hw5; have tt5 := tt4.below hw5)
      | (refine wpList_allocRow (op := ⟨some 13, _, _, _, _, _⟩) rfl _ rfl _ zLf.1 ?_; intro w6 hw6 hs6 hz6; replace hs6 := hs6.symm; have hB6 := hB5.trans (hw6.mono hB5.size); have ts6 := ts5.below hw6; have tt6 := tt5.below hw6; have hzp := hz5.belowSize hw6)
      | (refine wpList_storeRow (op := ⟨none, .store 52 (.tmp 12) (.tmp 26), _, _, _, _⟩) rfl _ _ _ rfl w4.heap.size (kvc (px, pv)) rfl rfl _ _ hzp (by simp only [kvc_size]) (by rw [kvc_size]; exact zLf.2) (kvc_one _) ?_; intro w7 hg7 hs7 hb7; have hzq := hz6.grown hg7 (fun e => absurd (Option.some.inj e) (Nat.ne_of_gt hz5.lt)))
      | (refine wpList_storeRow (op := ⟨none, .store 52 (.tmp 13) (.tmp 29), _, _, _, _⟩) rfl _ _ _ rfl w5.heap.size (kvc (py, pv)) rfl rfl _ _ hzq (by simp only [kvc_size]) (by rw [kvc_size]; exact zLf.2) (kvc_one _) ?_; intro w8 hg8 hs8 hb8)))
  have hts8 := (ts6.leaf hg7 hzp (by decide) (by decide)).leaf hg8 hzq (by decide) (by decide)
  have htt8 := (tt6.leaf hg7 hzp (by decide) (by decide)).leaf hg8 hzq (by decide) (by decide)
  have hbp8 := hb7.grown hg8 (fun e => absurd (Option.some.inj e) (Nat.ne_of_lt hz5.lt))
  have hB7 := hB6.trans (below_of_grown hg7 hB4.size hB6.size)
  have hB8 := hB7.trans (below_of_grown hg8 hB5.size hB7.size)
  have hbt0 : w.heap.size < w1.heap.size := ts1.lt
  obtain ⟨bs, hbs⟩ : ∃ bs, w.heap.size = bs := ⟨_, rfl⟩
  obtain ⟨bt, hbt⟩ : ∃ bt, w1.heap.size = bt := ⟨_, rfl⟩
  obtain ⟨bp, hbp⟩ : ∃ bp, w4.heap.size = bp := ⟨_, rfl⟩
  obtain ⟨bq, hbq⟩ : ∃ bq, w5.heap.size = bq := ⟨_, rfl⟩
  rw [hbs] at hts8
  rw [hbt] at htt8
  rw [hbp] at hbp8
  rw [hbq] at hb8
  have HB8 : HB w bs bt bp bq .emp .emp px py pv w8 := ⟨hts8, htt8, hbp8, hb8, hB8⟩
  have hne : bt ≠ bs := by omega
  have hls : w.heap.size ≤ bs := by omega
  have hlt : w.heap.size ≤ bt := by omega
  rw [hbs, hbt, hbp, hbq]
  clear hts8 htt8 hbp8 hb8 hB8 hB7 hB6 hB5 hB4 hB3 hB2 ts1 ts2 ts3 ts4 ts5 ts6 tt2 tt3 tt4 tt5 tt6 hz5 hz6 hzp hzq hg7 hg8 hb7 hs5 hs6 hs7 hs8 hw1 hw2 hw3 hw4 hw5 hw6 hbt0 hbs hbt hbp hbq
  go_upto_region 9 with (first
    | (go_at_call 10; refine (HA _ HB8.below).mono ?_; rintro e w9 ⟨rfl, hw9⟩; have HB9 := HB8.below' hw9)
    | (go_at_call 16; refine (HPs _ _ (hG.belowSize HB9.below) HB9.s).mono ?_; clear HPs; rintro e w10 ⟨rfl, k10⟩; have HB10 := HB9.putS k10 hne hls)
    | (go_at_call 16; refine (HPt _ _ (hG.belowSize HB10.below) HB10.t).mono ?_; clear HPt; rintro e w11 ⟨rfl, k11⟩; have HB11 := HB10.putT k11 hne.symm hlt)
    | (go_at_call 16; refine (HPu _ _ (hG.belowSize HB11.below) HB11.t).mono ?_; clear HPu; rintro e w12 ⟨rfl, k12⟩; have HB12 := HB11.putT k12 hne.symm hlt))
  replace HB12 : HB w bs bt bp bq (.lf (px, pv)) (twoT (px, pv) (py, pv)) px py pv w12 := HB12
  clear HB8 HB9 HB10 HB11 k10 k11 k12 HA
  have htl : (twoT (px, pv) (py, pv)).leaves.length ≤ 1000 := by
    by_cases e : px = py
    · rw [twoT_same (x := (px, pv)) (y := (py, pv)) e]; show 1 ≤ 1000; omega
    · rw [(twoT_perm (x := (px, pv)) (y := (py, pv)) hpl hql e).length_eq]; show 2 ≤ 1000; omega
  obtain ⟨ts, hts⟩ : ∃ ts, ts = Tr.lf (px, pv) := ⟨_, rfl⟩
  obtain ⟨tt, htt⟩ : ∃ tt, tt = twoT (px, pv) (py, pv) := ⟨_, rfl⟩
  rw [← htt] at HB12 htl
  rw [← hts] at HB12
  have HRs := fun w1 (h : HB w bs bt bp bq ts tt px py pv w1) => tmRoot bs ts w1 h.s
  have H1 := fun w1 => hash7_any (px, pv) w1 (by show px.length ≤ _; omega) (by show pv.length ≤ _; omega)
  have H2 := fun w1 => hash7_any (py, pv) w1 (by show py.length ≤ _; omega) (by show pv.length ≤ _; omega)
  have hhs : ts.hash TgD = hashL TgD (px, pv) := by rw [hts]; rfl
  rw [hhs] at HRs
  replace H1 : ∀ w1, Calls Tryd.prog 31 #[.agg #[.string ⟨px.toArray⟩, .string ⟨pv.toArray⟩]] w1 fun e w' => e = .returned (.string ⟨(hashL TgD (px, pv)).toArray⟩) ∧ Below w1.heap.size w1 w' := H1
  replace H2 : ∀ w1, Calls Tryd.prog 31 #[.agg #[.string ⟨py.toArray⟩, .string ⟨pv.toArray⟩]] w1 fun e w' => e = .returned (.string ⟨(hashL TgD (py, pv)).toArray⟩) ∧ Below w1.heap.size w1 w' := H2
  have hhp : (hashL TgD (px, pv)).length = 32 := TgD_len _ _
  have hhq : (hashL TgD (py, pv)).length = 32 := TgD_len _ _
  replace htt : Hid (tt = twoT (px, pv) (py, pv)) := htt
  replace hts : Hid (ts = Tr.lf (px, pv)) := hts
  have HBd := HB12.drew'
  have d0 := HBd.cells
  have H1k := H1
  obtain ⟨gx, hgx⟩ : ∃ gx, hashL TgD (px, pv) = gx := ⟨_, rfl⟩
  obtain ⟨gy, hgy⟩ : ∃ gy, hashL TgD (py, pv) = gy := ⟨_, rfl⟩
  rw [hgx] at HRs H1 H1k hhp hhs
  rw [hgy] at H2 hhq
  go_region_held3 (fun V => V.cell? ⟨bp, 0, none⟩ = some (.string ⟨px.toArray⟩) ∧ V.cell? ⟨bp, 1, none⟩ = some (.string ⟨pv.toArray⟩) ∧ V.cell? ⟨bq, 0, none⟩ = some (.string ⟨py.toArray⟩) ∧ V.cell? ⟨bq, 1, none⟩ = some (.string ⟨pv.toArray⟩)) (first | assumption | (go_keep; done)) ((first
    | (go_at_call 12; refine (HRs _ HBd).mono ?_; rintro e w10 ⟨rfl, hw10⟩; have HB10 := HBd.below' hw10; have d10 := HB10.cells)
    | (go_at_call 31; refine (H1 _).mono ?_; rintro e w11 ⟨rfl, hw11⟩; have HB11 := HB10.below' hw11; have d11 := HB11.cells)))
  clear HBd d0 HB12 HB10 d10 hw10 hw11 d11
  obtain ⟨c0, c1, c2, c3⟩ := HB11.cells
  by_cases hpq : px = py
  · subst hpq
    have hhe : gy = gx := by rw [← hgx, ← hgy]
    subst hhe
    have htth : tt.hash TgD = gy := by rw [htt.out, twoT_same (x := (px, pv)) (y := (px, pv)) rfl]; exact hgx
    have HRt := fun w1 (h : HB w bs bt bp bq ts tt px px pv w1) => tmRoot bt tt w1 h.t
    rw [htth] at HRt
    go_wp2_with (first
      | (go_at_call 12; refine (HRt _ HB11).mono ?_; clear HRt; rintro e w12 ⟨rfl, hw12⟩; have HB12 := HB11.below' hw12)
      | (go_at_call 12; refine (HRs _ HB12).mono ?_; rintro e w13 ⟨rfl, hw13⟩; have HB13 := HB12.below' hw13))
    go_ret
    exact ⟨rfl, HB13.below⟩
  · have hpb : (px == py) = false := by rw [beq_eq_false_iff_ne]; exact hpq
    have hR0 : Hid ((twoT (px, pv) (py, pv)).hash TgD = rootS TgD (256 - 0) [(px, pv), (py, pv)] 0) := twoT_root (x := (px, pv)) (y := (py, pv)) hpl hql hpq
    have hstand : Stand (twoT (px, pv) (py, pv)).leaves 0 := (twoT_canon (x := (px, pv)) (y := (py, pv)) hpl hql).stand
    go_upto_region 14 with fail
    go_loopw [14] (fun v14 wl => ∃ n : Nat, v14 = .int .i64 n ∧ (∀ j, j < n → bitD px j = bitD py j) ∧ HB w bs bt bp bq ts tt px py pv wl) (fun v14 _ => 256 - (intOf v14).toNat)
    case atStart => exact ⟨0, rfl, fun j hj => absurd hj (Nat.not_lt_zero _), HB11⟩
    case round =>
      clear HB11 c0 c1 c2 c3
      obtain ⟨n, rfl, hsame, HBr⟩ := hrel
      have hn : n < 256 := part_ex (x := (px, pv)) (y := (py, pv)) hpl hql hpq hsame
      have HBx := fun w1 => bit_any px n w1 (by omega) (by omega)
      have HBy := fun w1 => bit_any py n w1 (by omega) (by omega)
      have HBd := HBr.drew'
      have dd := HBd.cells
      have hbx := bitD_lt px n
      by_cases hbe : bitD px n = bitD py n
      · rw [← hbe] at HBy
        replace hsame : Hid (∀ j, j < n + 1 → bitD px j = bitD py j) := fun j hj => by
          by_cases e : j = n
          · rw [e]; exact hbe
          · exact hsame j (by omega)
        clear hbe
        generalize bitD px n = m at *
        go_upto_region 14 with fail
        go_region_held3 (fun V => V.cell? ⟨bp, 0, none⟩ = some (.string ⟨px.toArray⟩) ∧ V.cell? ⟨bp, 1, none⟩ = some (.string ⟨pv.toArray⟩) ∧ V.cell? ⟨bq, 0, none⟩ = some (.string ⟨py.toArray⟩) ∧ V.cell? ⟨bq, 1, none⟩ = some (.string ⟨pv.toArray⟩)) (first | assumption | (go_keep; done)) ((first
          | (go_at_call 34; refine (HBx _).mono ?_; clear HBx; rintro e w9 ⟨rfl, hw9⟩; have hw9 := hw9.symm; subst hw9)
          | (go_at_call 34; refine (HBy _).mono ?_; rintro e w9 ⟨rfl, hw9⟩; have hw9 := hw9.symm; subst hw9)))
        go_wp2_with fail
        go_roundw
        case rel => exact ⟨n + 1, by go_num, hsame.out, HBd⟩
        case measure => simp [intOf]; omega
      · have hP : Part (px, pv) (py, pv) n := ⟨hn, hsame, hbe⟩
        have hbf : ((bitD px n : Int) == (bitD py n : Int)) = false := by rw [beq_eq_false_iff_ne]; omega
        have HBxk := HBx
        have hby := bitD_lt py n
        obtain ⟨m1, hm1⟩ : ∃ m1, bitD px n = m1 := ⟨_, rfl⟩
        obtain ⟨m2, hm2⟩ : ∃ m2, bitD py n = m2 := ⟨_, rfl⟩
        rw [hm1] at hbf HBx HBxk hbx
        rw [hm2] at hbf HBy
        clear hsame hbe
        go_upto_region 14 with fail
        go_region_held3 (fun V => V.cell? ⟨bp, 0, none⟩ = some (.string ⟨px.toArray⟩) ∧ V.cell? ⟨bp, 1, none⟩ = some (.string ⟨pv.toArray⟩) ∧ V.cell? ⟨bq, 0, none⟩ = some (.string ⟨py.toArray⟩) ∧ V.cell? ⟨bq, 1, none⟩ = some (.string ⟨pv.toArray⟩)) (first | assumption | (go_keep; done)) ((first
          | (go_at_call 34; refine (HBx _).mono ?_; clear HBx; rintro e w9 ⟨rfl, hw9⟩; have hw9 := hw9.symm; subst hw9)
          | (go_at_call 34; refine (HBy _).mono ?_; rintro e w9 ⟨rfl, hw9⟩; have hw9 := hw9.symm; subst hw9)))
        have hst : ∀ m, m ≤ n → Stand [((px, pv) : LF), (py, pv)] m := fun m hm => ⟨fun z hz => by
          rcases List.mem_cons.1 hz with rfl | hz
          · exact hpl
          · rw [List.mem_singleton.1 hz]; exact hql, by simp [hpq], fun z hz z2 hz2 j hj => by
          have e := hP.same j (by omega)
          rcases List.mem_cons.1 hz with rfl | hz
          · rcases List.mem_cons.1 hz2 with rfl | hz2
            · rfl
            · rw [List.mem_singleton.1 hz2]; exact e
          · rw [List.mem_singleton.1 hz]
            rcases List.mem_cons.1 hz2 with rfl | hz2
            · exact e.symm
            · rw [List.mem_singleton.1 hz2]⟩
        have hlen : ∀ m, m ≤ n → (rootS TgD (256 - m) [(px, pv), (py, pv)] m).length = 32 := fun m hm => rootS_32 (256 - m) _ m (hst m hm) (by omega)
        replace hlen : Hid (∀ m, m ≤ n → (rootS TgD (256 - m) [(px, pv), (py, pv)] m).length = 32) := hlen
        clear hst hstand hbf hpb HBy HBr dd
        go_upto_region 16 with fail
        have HBe := HBd.drew'
        have de := HBe.cells
        have HJa := fun w1 (hw : Below w.heap.size w w1) => sjoin_any gx gy w1 (hG.belowSize hw) (by omega) (by omega)
        have HJb := fun w1 (hw : Below w.heap.size w w1) => sjoin_any gy gx w1 (hG.belowSize hw) (by omega) (by omega)
        have hj1 : joinD TgD (hashL TgD (px, pv)) (hashL TgD (py, pv)) = joinD TgD gx gy := by rw [hgx, hgy]
        have hj2 : joinD TgD (hashL TgD (py, pv)) (hashL TgD (px, pv)) = joinD TgD gy gx := by rw [hgx, hgy]
        obtain ⟨ha, hha⟩ : ∃ ha, joinD TgD gx gy = ha := ⟨_, rfl⟩
        obtain ⟨hb, hhb⟩ : ∃ hb, joinD TgD gy gx = hb := ⟨_, rfl⟩
        rw [hha] at HJa hj1
        rw [hhb] at HJb hj2
        replace hj1 : Hid (joinD TgD (hashL TgD (px, pv)) (hashL TgD (py, pv)) = ha) := hj1
        replace hj2 : Hid (joinD TgD (hashL TgD (py, pv)) (hashL TgD (px, pv)) = hb) := hj2
        replace hm1 : Hid (bitD px n = m1) := hm1
        clear hha hhb hgx hgy hhs hm2
        have H1a := H1
        have H2a := H2
        go_region_held3 (fun V => V.cell? ⟨bp, 0, none⟩ = some (.string ⟨px.toArray⟩) ∧ V.cell? ⟨bp, 1, none⟩ = some (.string ⟨pv.toArray⟩) ∧ V.cell? ⟨bq, 0, none⟩ = some (.string ⟨py.toArray⟩) ∧ V.cell? ⟨bq, 1, none⟩ = some (.string ⟨pv.toArray⟩)) (first | assumption | (go_keep; done)) ((first
          | (go_at_call 31; refine (H1a _).mono ?_; clear H1a; rintro e w10 ⟨rfl, hw10⟩; have HB10 := HBe.below' hw10; have d10 := HB10.cells)
          | (go_at_call 31; refine (H2a _).mono ?_; rintro e w11 ⟨rfl, hw11⟩; have HB11 := HB10.below' hw11; have d11 := HB11.cells)
          | (go_at_call 32; refine (HJa _ HB11.below).mono ?_; rintro e w12 ⟨rfl, hw12⟩; have HB12 := HB11.below' hw12; have d12 := HB12.cells)))
        have HBz := HBe
        clear de d10 d11 d12 HBe HBd HB10 HB11 hw10 hw11 hw12 HJa H2a
        obtain ⟨c0, c1, c2, c3⟩ := HB12.cells
        rcases (show m1 = 0 ∨ m1 = 1 by omega) with rfl | rfl
        · go_upto_region 19 with (go_at_call 34; refine (HBxk _).mono ?_; rintro e w9 ⟨rfl, hw9⟩; have hw9 := hw9.symm; subst hw9)
          replace HBz := HB12
          have hbn := hm1.out
          have hhe := hj1
          go_upto_region 20 with fail
          have hroot : rootS TgD (255 - n + 1) [(px, pv), (py, pv)] n = ha := by rw [two_root_at TgD hP, if_pos hbn]; exact hhe.out
          go_loopw [14, 15] (fun v14 v15 wl => ∃ m : Nat, m ≤ n ∧ v14 = .int .i64 ((m : Int) - 1) ∧ v15 = .string ⟨(rootS TgD (256 - m) [(px, pv), (py, pv)] m).toArray⟩ ∧ HB w bs bt bp bq ts tt px py pv wl) (fun v14 _ _ => ((intOf v14) + 1).toNat)
          case atStart =>
            refine ⟨n, Nat.le_refl _, ?_, ?_, HBz⟩
            · go_num
            · rw [show 256 - n = 255 - n + 1 by omega, hroot]
          case round =>
            clear HBz hroot
            obtain ⟨m, hm, rfl, rfl, HBr⟩ := hrel
            by_cases hm0 : 0 < m
            · obtain ⟨i, rfl⟩ : ∃ i, m = i + 1 := ⟨m - 1, by omega⟩
              have hi0 : (((i + 1 : Nat) : Int) - 1) = (i : Int) := by omega
              rw [hi0]
              have hge : (0 : Int) ≤ (i : Int) := by omega
              have hwr : IntKind.i64.wrap ((i : Int) - 1) = (i : Int) - 1 := by rw [IntKind.wrap_i64]; omega
              have hup := two_root_up TgD hP (f := 255 - i) (show i < n by omega)
              rw [show 255 - i + 1 = 256 - i by omega, show 255 - i = 256 - (i + 1) by omega] at hup
              obtain ⟨u, hu⟩ : ∃ u, rootS TgD (256 - (i + 1)) [(px, pv), (py, pv)] (i + 1) = u := ⟨_, rfl⟩
              have hul : u.length = 32 := by rw [← hu]; exact hlen.out _ (by omega)
              rw [hu] at hup ⊢
              clear hu
              have hbb := bitD_lt px i
              have HBi := fun w1 => bit_any px i w1 (by omega) (by omega)
              obtain ⟨c0, c1⟩ := blk2c HBr.p
              by_cases hb0 : bitD px i = 0
              · rw [if_pos hb0] at hup
                rw [hb0] at HBi
                replace hup : Hid (rootS TgD (256 - i) [(px, pv), (py, pv)] i = joinD TgD u emptyD) := hup
                have HJ := fun w1 (hw : Below w.heap.size w w1) => sjoin_any u emptyD w1 (hG.belowSize hw) (by omega) (by decide)
                have HEm := sempty_any
                generalize joinD TgD u emptyD = u2 at *
                generalize emptyD = ed at *
                go_wp2_with (first
                  | (go_at_call 34; refine (HBi _).mono ?_; rintro e w9 ⟨rfl, hw9⟩; have hw9 := hw9.symm; subst hw9)
                  | (go_at_call 28; refine (HEm _).mono ?_; rintro e w10 ⟨rfl, hw10⟩; have HB10 := HBr.below' hw10)
                  | (go_at_call 32; refine (HJ _ HB10.below).mono ?_; rintro e w11 ⟨rfl, hw11⟩; have HB11 := HB10.below' hw11))
                go_roundw
                case rel => exact ⟨i, by omega, rfl, by rw [hup.out], HB11⟩
                case measure => simp [intOf]
              · rw [if_neg hb0] at hup
                have hb1 : bitD px i = 1 := by omega
                rw [hb1] at HBi
                replace hup : Hid (rootS TgD (256 - i) [(px, pv), (py, pv)] i = joinD TgD emptyD u) := hup
                have HJ := fun w1 (hw : Below w.heap.size w w1) => sjoin_any emptyD u w1 (hG.belowSize hw) (by decide) (by omega)
                have HEm := sempty_any
                generalize joinD TgD emptyD u = u2 at *
                generalize emptyD = ed at *
                go_wp2_with (first
                  | (go_at_call 34; refine (HBi _).mono ?_; rintro e w9 ⟨rfl, hw9⟩; have hw9 := hw9.symm; subst hw9)
                  | (go_at_call 28; refine (HEm _).mono ?_; rintro e w10 ⟨rfl, hw10⟩; have HB10 := HBr.below' hw10)
                  | (go_at_call 32; refine (HJ _ HB10.below).mono ?_; rintro e w11 ⟨rfl, hw11⟩; have HB11 := HB10.below' hw11))
                go_roundw
                case rel => exact ⟨i, by omega, rfl, by rw [hup.out], HB11⟩
                case measure => simp [intOf]
            · obtain rfl : m = 0 := by omega
              have hneg : ¬ (0 : Int) ≤ ((0 : Nat) : Int) - 1 := by omega
              have hR : tt.hash TgD = rootS TgD (256 - 0) [(px, pv), (py, pv)] 0 := by rw [htt.out]; exact hR0.out
              have HRo := fun w1 (h : HB w bs bt bp bq ts tt px py pv w1) => tmRoot bt tt w1 h.t
              rw [hR] at HRo
              have HPx := fun w1 (h : HB w bs bt bp bq ts tt px py pv w1) => tmProve bt tt x w1 (hG.belowSize h.below) h.t htl (by omega)
              have HPy := fun w1 (h : HB w bs bt bp bq ts tt px py pv w1) => tmProve bt tt y w1 (hG.belowSize h.below) h.t htl (by omega)
              have hlx : ∀ p, PrfOf tt x p → p.bs.length = n + 1 := fun p hp => by
                rw [hp.bs, htt.out, hpx.out]
                exact twoT_way hpl hql hP px (.inl rfl)
              have hly : ∀ p, PrfOf tt y p → p.bs.length = n + 1 := fun p hp => by
                rw [hp.bs, htt.out, hpy.out]
                exact twoT_way hpl hql hP py (.inr rfl)
              have hfl := run_fieldPf
              generalize rootS TgD (256 - 0) [(px, pv), (py, pv)] 0 = u at *
              go_wp2_with (first
                | (go_at_call 12; refine (HRo _ HBr).mono ?_; rintro e w10 ⟨rfl, hw10⟩; have HB10 := HBr.below' hw10)
                | (go_at_call 21; refine (HPx _ HB10).mono ?_; clear HPx; rintro e w11 ⟨a11, c11, p11, rfl, _, hp11, hw11⟩; have HB11 := HB10.below' hw11; rw [hlx p11 hp11])
                | (go_at_call 21; refine (HPy _ HB11).mono ?_; rintro e w12 ⟨a12, c12, p12, rfl, _, hp12, hw12⟩; have HB12 := HB11.below' hw12; rw [hly p12 hp12]))
              go_ret
              exact ⟨rfl, HB12.below⟩
        · go_upto_region 18 with (go_at_call 34; refine (HBxk _).mono ?_; rintro e w9 ⟨rfl, hw9⟩; have hw9 := hw9.symm; subst hw9)
          have HBe := HB12.drew'
          have de := HBe.cells
          have hbn := hm1.out
          go_region_held3 (fun V => V.cell? ⟨bp, 0, none⟩ = some (.string ⟨px.toArray⟩) ∧ V.cell? ⟨bp, 1, none⟩ = some (.string ⟨pv.toArray⟩) ∧ V.cell? ⟨bq, 0, none⟩ = some (.string ⟨py.toArray⟩) ∧ V.cell? ⟨bq, 1, none⟩ = some (.string ⟨pv.toArray⟩)) (first | assumption | (go_keep; done)) ((first
          | (go_at_call 31; refine (H2 _).mono ?_; clear H2; rintro e w13 ⟨rfl, hw13⟩; have HB13 := HBe.below' hw13; have d13 := HB13.cells)
          | (go_at_call 31; refine (H1 _).mono ?_; rintro e w14 ⟨rfl, hw14⟩; have HB14 := HB13.below' hw14; have d14 := HB14.cells)
          | (go_at_call 32; refine (HJb _ HB14.below).mono ?_; rintro e w15 ⟨rfl, hw15⟩; have HB15 := HB14.below' hw15; have d15 := HB15.cells)))
          replace HBz := HB15
          have hhe := hj2
          go_upto_region 20 with fail
          have hroot : rootS TgD (255 - n + 1) [(px, pv), (py, pv)] n = hb := by rw [two_root_at TgD hP, if_neg (by rw [hbn]; decide)]; exact hhe.out
          go_loopw [14, 15] (fun v14 v15 wl => ∃ m : Nat, m ≤ n ∧ v14 = .int .i64 ((m : Int) - 1) ∧ v15 = .string ⟨(rootS TgD (256 - m) [(px, pv), (py, pv)] m).toArray⟩ ∧ HB w bs bt bp bq ts tt px py pv wl) (fun v14 _ _ => ((intOf v14) + 1).toNat)
          case atStart =>
            refine ⟨n, Nat.le_refl _, ?_, ?_, HBz⟩
            · go_num
            · rw [show 256 - n = 255 - n + 1 by omega, hroot]
          case round =>
            clear HBz hroot
            obtain ⟨m, hm, rfl, rfl, HBr⟩ := hrel
            by_cases hm0 : 0 < m
            · obtain ⟨i, rfl⟩ : ∃ i, m = i + 1 := ⟨m - 1, by omega⟩
              have hi0 : (((i + 1 : Nat) : Int) - 1) = (i : Int) := by omega
              rw [hi0]
              have hge : (0 : Int) ≤ (i : Int) := by omega
              have hwr : IntKind.i64.wrap ((i : Int) - 1) = (i : Int) - 1 := by rw [IntKind.wrap_i64]; omega
              have hup := two_root_up TgD hP (f := 255 - i) (show i < n by omega)
              rw [show 255 - i + 1 = 256 - i by omega, show 255 - i = 256 - (i + 1) by omega] at hup
              obtain ⟨u, hu⟩ : ∃ u, rootS TgD (256 - (i + 1)) [(px, pv), (py, pv)] (i + 1) = u := ⟨_, rfl⟩
              have hul : u.length = 32 := by rw [← hu]; exact hlen.out _ (by omega)
              rw [hu] at hup ⊢
              clear hu
              have hbb := bitD_lt px i
              have HBi := fun w1 => bit_any px i w1 (by omega) (by omega)
              obtain ⟨c0, c1⟩ := blk2c HBr.p
              by_cases hb0 : bitD px i = 0
              · rw [if_pos hb0] at hup
                rw [hb0] at HBi
                replace hup : Hid (rootS TgD (256 - i) [(px, pv), (py, pv)] i = joinD TgD u emptyD) := hup
                have HJ := fun w1 (hw : Below w.heap.size w w1) => sjoin_any u emptyD w1 (hG.belowSize hw) (by omega) (by decide)
                have HEm := sempty_any
                generalize joinD TgD u emptyD = u2 at *
                generalize emptyD = ed at *
                go_wp2_with (first
                  | (go_at_call 34; refine (HBi _).mono ?_; rintro e w9 ⟨rfl, hw9⟩; have hw9 := hw9.symm; subst hw9)
                  | (go_at_call 28; refine (HEm _).mono ?_; rintro e w10 ⟨rfl, hw10⟩; have HB10 := HBr.below' hw10)
                  | (go_at_call 32; refine (HJ _ HB10.below).mono ?_; rintro e w11 ⟨rfl, hw11⟩; have HB11 := HB10.below' hw11))
                go_roundw
                case rel => exact ⟨i, by omega, rfl, by rw [hup.out], HB11⟩
                case measure => simp [intOf]
              · rw [if_neg hb0] at hup
                have hb1 : bitD px i = 1 := by omega
                rw [hb1] at HBi
                replace hup : Hid (rootS TgD (256 - i) [(px, pv), (py, pv)] i = joinD TgD emptyD u) := hup
                have HJ := fun w1 (hw : Below w.heap.size w w1) => sjoin_any emptyD u w1 (hG.belowSize hw) (by decide) (by omega)
                have HEm := sempty_any
                generalize joinD TgD emptyD u = u2 at *
                generalize emptyD = ed at *
                go_wp2_with (first
                  | (go_at_call 34; refine (HBi _).mono ?_; rintro e w9 ⟨rfl, hw9⟩; have hw9 := hw9.symm; subst hw9)
                  | (go_at_call 28; refine (HEm _).mono ?_; rintro e w10 ⟨rfl, hw10⟩; have HB10 := HBr.below' hw10)
                  | (go_at_call 32; refine (HJ _ HB10.below).mono ?_; rintro e w11 ⟨rfl, hw11⟩; have HB11 := HB10.below' hw11))
                go_roundw
                case rel => exact ⟨i, by omega, rfl, by rw [hup.out], HB11⟩
                case measure => simp [intOf]
            · obtain rfl : m = 0 := by omega
              have hneg : ¬ (0 : Int) ≤ ((0 : Nat) : Int) - 1 := by omega
              have hR : tt.hash TgD = rootS TgD (256 - 0) [(px, pv), (py, pv)] 0 := by rw [htt.out]; exact hR0.out
              have HRo := fun w1 (h : HB w bs bt bp bq ts tt px py pv w1) => tmRoot bt tt w1 h.t
              rw [hR] at HRo
              have HPx := fun w1 (h : HB w bs bt bp bq ts tt px py pv w1) => tmProve bt tt x w1 (hG.belowSize h.below) h.t htl (by omega)
              have HPy := fun w1 (h : HB w bs bt bp bq ts tt px py pv w1) => tmProve bt tt y w1 (hG.belowSize h.below) h.t htl (by omega)
              have hlx : ∀ p, PrfOf tt x p → p.bs.length = n + 1 := fun p hp => by
                rw [hp.bs, htt.out, hpx.out]
                exact twoT_way hpl hql hP px (.inl rfl)
              have hly : ∀ p, PrfOf tt y p → p.bs.length = n + 1 := fun p hp => by
                rw [hp.bs, htt.out, hpy.out]
                exact twoT_way hpl hql hP py (.inr rfl)
              have hfl := run_fieldPf
              generalize rootS TgD (256 - 0) [(px, pv), (py, pv)] 0 = u at *
              go_wp2_with (first
                | (go_at_call 12; refine (HRo _ HBr).mono ?_; rintro e w10 ⟨rfl, hw10⟩; have HB10 := HBr.below' hw10)
                | (go_at_call 21; refine (HPx _ HB10).mono ?_; clear HPx; rintro e w11 ⟨a11, c11, p11, rfl, _, hp11, hw11⟩; have HB11 := HB10.below' hw11; rw [hlx p11 hp11])
                | (go_at_call 21; refine (HPy _ HB11).mono ?_; rintro e w12 ⟨a12, c12, p12, rfl, _, hp12, hw12⟩; have HB12 := HB11.below' hw12; rw [hly p12 hp12]))
              go_ret
              exact ⟨rfl, HB12.below⟩
end Go.Proofs.YtmeolaeoaoldoaaDoor.Sh
