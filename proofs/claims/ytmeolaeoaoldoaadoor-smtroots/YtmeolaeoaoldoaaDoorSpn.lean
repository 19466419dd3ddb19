/- SmtProves tells true, out of what the calls of a tree do. -/
import Derived.Test.YtmeolaeoaoldoaaDoorSpv
namespace Go.Proofs.YtmeolaeoaoldoaaDoor.Sh
open Go Go.RowKit
def pfc (a : Option Addr) (c : Nat) (p : Pf7) : Array Value := #[.slice a p.bs.length c, .bool p.has, .string ⟨p.lp.toArray⟩, .string ⟨p.lv.toArray⟩]
theorem zPf : (∀ w, (zeroValue 50).run Tryd.prog w = .ok (.agg #[.slice none 0 0, .bool false, .string ⟨#[]⟩, .string ⟨#[]⟩]) w) ∧ (Tryd.prog.info? 50).map (·.size) = some 4 := zero_of_info (by kernel_rfl)
theorem blk4c {w : World} {b : Nat} {x y z u : Value} {t : TypeId} (h : Blk w b #[x, y, z, u] t) : w.cell? ⟨b, 0, none⟩ = some x ∧ w.cell? ⟨b, 1, none⟩ = some y ∧ w.cell? ⟨b, 2, none⟩ = some z ∧ w.cell? ⟨b, 3, none⟩ = some u := ⟨h.cell 0, h.cell 1, h.cell 2, h.cell 3⟩
theorem eqStr7 (a : List UInt8) (w : World) : (Op.equalIn 9999 9 (.string ⟨a.toArray⟩) (.string ⟨a.toArray⟩)).run Tryd.prog w = .ok true w := by
  go_simp
theorem pair_eq {m : List LF} (h : m.Pairwise fun x y => x.1 ≠ y.1) {x y : LF} (hx : x ∈ m) (hy : y ∈ m) (he : x.1 = y.1) : x = y := by
  induction m with
  | nil => cases hx
  | cons z r ih =>
    have h1 := List.pairwise_cons.1 h
    rcases List.mem_cons.1 hx with h2 | h2
    · rcases List.mem_cons.1 hy with h3 | h3
      · exact h2.trans h3.symm
      · rw [h2] at he
        exact absurd he (h1.1 y h3)
    · rcases List.mem_cons.1 hy with h3 | h3
      · rw [h3] at he
        exact absurd he.symm (h1.1 x h2)
      · exact ih h1.2 h2 h3
/-- What lies in memory on the way. -/
structure Sp7 (TR : World → Nat → Nat → Tr → Prop) (w : World) (b : Nat) (t : Tr) (am : Option Addr) (m : List LF) (ap : Option Addr) (cp : Nat) (p : Pf7) (bp bx : Nat) (X1 X2 : List UInt8) (W : World) : Prop where
  bel : Below w.heap.size w W
  tr : TR W w.heap.size b t
  ka : KA W am m
  xp : XA W ap p.bs
  pb : Blk W bp (pfc ap cp p) 50
  xb : Blk W bx #[.string ⟨X1.toArray⟩, .string ⟨X2.toArray⟩] 52
theorem Sp7.to {TR : World → Nat → Nat → Tr → Prop} (C : SmtC TR) {w : World} {b : Nat} {t : Tr} {am : Option Addr} {m : List LF} {ap : Option Addr} {cp : Nat} {p : Pf7} {bp bx : Nat} {X1 X2 : List UInt8} {W W' : World} (h : Sp7 TR w b t am m ap cp p bp bx X1 X2 W) (hb : Below W.heap.size W W') : Sp7 TR w b t am m ap cp p bp bx X1 X2 W' :=
  ⟨h.bel.trans (hb.mono h.bel.size), C.keep h.tr hb, h.ka.below hb, h.xp.below hb, h.pb.belowSize hb, h.xb.belowSize hb⟩
set_option maxRecDepth 100000 in
set_option maxHeartbeats 1000000 in
theorem smtProves_twins {TR : World → Nat → Nat → Tr → Prop} (C : SmtV TR) (l : List A7) (key : List UInt8) (a : Option Addr) (cap : Nat) (w : World) (hG : Glob w) (hA : AA w a l) (hk : ∀ x ∈ l, x.key.length ≤ 9223372036854775807 ∧ x.val.length ≤ 9223372036854775807) (hkey : key.length ≤ 9223372036854775807) (htw : TwinsP (keysD l key)) :
    Calls Tryd.prog 4 #[.slice a l.length cap, .string ⟨key.toArray⟩] w fun e w' => e = .returned (.bool true) ∧ Below w.heap.size w w' := by
  have HD := done_any C.toSmtC l key a cap w hG hA hk
  have HF := fun w1 => few7_any key w1 hkey
  have HT := fun w1 (hb : Below w.heap.size w w1) => twins_any l key a cap w1 (hA.below hb) hkey (fun x hx => (hk x hx).1) true ⟨fun _ => htw, fun _ => rfl⟩
  have HW := fun w1 (hb : Below w.heap.size w w1) => awake7_any C w1 (hG.belowSize hb)
  clear htw hA hk hG
  go_enter Tryd.func4, Tryd.ntmps4
  go_wp2_with (first
    | (go_at_call 8; refine HD.mono ?_; rintro e w1 ⟨b, sl, m, t, ok, rfl, hT, hK, _, _, _, _, hw1⟩)
    | (go_at_call 20; refine (HF _).mono ?_; rintro e w2 ⟨rfl, hw2⟩; have hw2 := hw2.symm; subst hw2)
    | (go_at_call 9; refine (HT _ hw1).mono ?_; rintro e w3 ⟨rfl, hw3⟩; have B3 := hw1.trans (hw3.mono hw1.size))
    | (go_at_call 10; refine (HW _ B3).mono ?_; rintro e w4 ⟨rfl, hw4⟩))
  go_ret
  exact ⟨rfl, B3.trans (hw4.mono B3.size)⟩
theorem mkAppx (x : List UInt8) : (ByteArray.mk x.toArray ++ ByteArray.mk #[120]) = ByteArray.mk (x ++ [120]).toArray := by
  apply ByteArray.ext
  simp
attribute [local go_sem] mkAppx
set_option maxRecDepth 100000 in
set_option maxHeartbeats 4000000 in
theorem smtProves_main {TR : World → Nat → Nat → Tr → Prop} (C : SmtV TR) (l : List A7) (key : List UInt8) (a : Option Addr) (cap : Nat) (w : World) (hG : Glob w) (hA : AA w a l) (hk : ∀ x ∈ l, x.key.length ≤ 9223372036854775807 ∧ x.val.length ≤ 9223372036854775807) (hkey : key.length ≤ 9223372036854775807) (htw : ¬ TwinsP (keysD l key)) :
    Calls Tryd.prog 4 #[.slice a l.length cap, .string ⟨key.toArray⟩] w fun e w' => e = .returned (.bool true) ∧ Below w.heap.size w w' := by
  have HD := done_any C.toSmtC l key a cap w hG hA hk
  have HF := fun w1 => few7_any key w1 hkey
  have HT := fun w1 (hb : Below w.heap.size w w1) => twins_any l key a cap w1 (hA.below hb) hkey (fun x hx => (hk x hx).1) false ⟨fun h => Bool.noConfusion h, fun h => absurd h htw⟩
  have HW := fun w1 (hb : Below w.heap.size w w1) => awake7_any C w1 (hG.belowSize hb)
  have hkl : (key.take 60).length ≤ 60 := by rw [List.length_take]; omega
  have hkm : key.take 60 ∈ keysD l key := List.mem_cons.2 (.inl rfl)
  generalize keysD l key = K at *
  generalize key.take 60 = k at *
  have HP := fun w1 b t (hb : Below w.heap.size w w1) (hT : TR w1 w.heap.size b t) (htl : t.leaves.length ≤ 40) => C.prove w1 w.heap.size b t k (hG.belowSize hb) hT (by omega) (by omega)
  have HO := fun w1 => of_any k [] w1 (by omega) (by decide)
  unfold kvc at HO
  replace HO : ∀ w1, Calls Tryd.prog 22 #[.string ⟨k.toArray⟩, .string ⟨#[]⟩] w1 fun e w' => e = .returned (.agg #[.string ⟨(pathD7 k).toArray⟩, .string ⟨(valD7 []).toArray⟩]) ∧ Below w1.heap.size w1 w' := HO
  have hX1 : (pathD7 k).length = 32 := TgD_len _ _
  obtain ⟨X1, e1⟩ : ∃ X1, pathD7 k = X1 := ⟨_, rfl⟩
  rw [e1] at HO hX1
  replace e1 : Hid (pathD7 k = X1) := e1
  generalize valD7 [] = X2 at HO
  replace htw : Hid (¬ TwinsP K) := htw
  replace hkm : Hid (k ∈ K) := hkm
  clear hA hk
  go_enter Tryd.func4, Tryd.ntmps4
  go_upto_region 9 with (first
    | (go_at_call 8; refine HD.mono ?_; rintro e w1 ⟨b, sl, m, t, ok, rfl, hT, hK, hml, htl, hms, hrel, hw1⟩; obtain ⟨rfl, hR⟩ := hrel htw.out; obtain ⟨am, cm, e6, hKA⟩ := hK.sl; subst e6; replace hR : Hid (Rel7 K t m) := hR)
    | (go_at_call 20; refine (HF _).mono ?_; rintro e w2 ⟨rfl, hw2⟩; have hw2 := hw2.symm; subst hw2)
    | (go_at_call 9; refine (HT _ hw1).mono ?_; rintro e w3 ⟨rfl, hw3⟩; have B3 := hw1.trans (hw3.mono hw1.size); have hT3 := C.keep hT hw3; have hKA3 := hKA.below hw3)
    | (go_at_call 10; refine (HW _ B3).mono ?_; rintro e w4 ⟨rfl, hw4⟩; have B4 := B3.trans (hw4.mono B3.size); have hT4 := C.keep hT3 hw4; have hKA4 := hKA3.below hw4)
    | (go_at_call 21; refine (HP _ _ _ B4 hT4 htl).mono ?_; rintro e w5 ⟨ap, cp, p, rfl, hX5, hp, hw5⟩; have B5 := B4.trans (hw5.mono B4.size); have hT5 := C.keep hT4 hw5; have hKA5 := hKA4.below hw5)
    | (go_at_call 22; refine (HO _).mono ?_; rintro e w8 ⟨rfl, hw8⟩; have hw58 := hw57.trans (hw8.mono hw57.size))
    | (with_reducible refine at_list ?_; first
      | (refine wpList_allocRow (op := ⟨some 9, _, _, _, _, _⟩) rfl _ rfl _ zPf.1 ?_; intro w6 hw6 hs6 hz6; replace hs6 := hs6.symm)
      | (refine wpList_storeRow (op := ⟨none, .store 50 (.tmp 9) (.tmp 37), _, _, _, _⟩) rfl _ _ _ rfl w5.heap.size #[.slice ap p.bs.length cp, .bool p.has, .string ⟨p.lp.toArray⟩, .string ⟨p.lv.toArray⟩] rfl rfl _ _ hz6 (by simp) (by simpa using zPf.2) (by simp [Value.oneCell']) ?_; intro w7 hg7 hs7 hz7; have hw57 := hw6.trans (below_of_grown hg7 (Nat.le_refl _) hw6.size))
      | (refine wpList_allocRow (op := ⟨some 10, _, _, _, _, _⟩) rfl _ rfl _ zLf.1 ?_; intro w9 hw9 hs9 hz9; replace hs9 := hs9.symm)
      | (refine wpList_storeRow (op := ⟨none, .store 52 (.tmp 10) (.tmp 39), _, _, _, _⟩) rfl _ _ _ rfl w8.heap.size #[.string ⟨X1.toArray⟩, .string ⟨X2.toArray⟩] rfl rfl _ _ hz9 (by simp [kvc]) (by simpa using zLf.2) (by simp [Value.oneCell']) ?_; intro w10 hg10 hs10 hz10)))
  have hw810 : Below w8.heap.size w8 w10 := hw9.trans (below_of_grown hg10 (Nat.le_refl _) hw9.size)
  have hw510 := hw58.trans (hw810.mono hw58.size)
  have T : Sp7 TR w b t am m ap cp p w5.heap.size w8.heap.size X1 X2 w10 := ⟨B5.trans (hw510.mono B5.size), C.keep hT5 hw510, hKA5.below hw510, hX5.below hw510, (Blk.belowSize hz7 hw8).belowSize hw810, hz10⟩
  have hc := C.canon hT5
  have hSt := stand_of hc hR.out
  have hway := way_of hc hR.out (pathD7 k)
  have hbs : Hid ((proofS TgD 256 (leavesD m) X1 0).1 = p.bs) := by rw [← e1.out, ← hway]; exact hp.bs.symm
  have hend : Hid (((proofS TgD 256 (leavesD m) X1 0).2 = [] ∧ p.has = false) ∨ ∃ x, (proofS TgD 256 (leavesD m) X1 0).2 = [x] ∧ p.has = true ∧ p.lp = x.1 ∧ p.lv = x.2) := by
    rw [← e1.out, ← hway]
    have h1 : ((t.way TgD 0 (pathD7 k)).2).length ≤ 1 := by rw [hway]; exact (proof_end TgD 256 (pathD7 k) 0 hSt rfl).1
    have hno := hp.no
    have hyes := hp.yes
    generalize (t.way TgD 0 (pathD7 k)).2 = q at *
    match q, h1 with
    | [], _ => exact .inl ⟨rfl, hno rfl⟩
    | [x], _ => exact .inr ⟨x, rfl, hyes x rfl⟩
    | _ :: _ :: _, h1 => simp at h1
  have hlm : (leavesD m).length ≤ 1000 := by rw [leavesD_len]; omega
  have HLv := fun W (h : Sp7 TR w b t am m ap cp p w5.heap.size w8.heap.size X1 X2 W) => leaves_any m am cm W h.ka (by omega) (fun x hx => ⟨by have := (hms x hx).1; omega, by have := (hms x hx).2; omega⟩)
  have HPr := fun W aL cL (h : KA W aL (leavesD m)) => proof7_any (leavesD m) aL cL X1 W hSt h hlm (fun x hx => by rw [leavesD_val m x hx]; decide) hX1
  rw [hbs.out] at HPr
  have hbl : p.bs.length ≤ 256 := by
    rw [← hbs.out]
    exact (proof_end TgD 256 X1 0 hSt rfl).2.1
  have hb32 : ∀ y ∈ p.bs, y.length = 32 := by
    rw [← hbs.out]
    exact proof_32 256 X1 0 (leavesD m) hSt rfl
  generalize (proofS TgD 256 (leavesD m) X1 0).2 = R2 at *
  clear HD HF HT HP HO hw1 hT hK hKA hT3 hKA3 B3 hw3 hT4 hKA4 B4 hw4 hX5 hw5 B5 hT5 hKA5 hw6 hs6 hz6 hg7 hs7 hz7 hw57 hw8 hw58 hw9 hs9 hz9 hg10 hs10 hz10 hw810 hw510 hway hbs
  obtain ⟨q0, q1⟩ := blk2c T.xb
  have hkq : ∀ W, Below w10.heap.size w10 W → W.cell? ⟨w8.heap.size, 0, none⟩ = some (.string ⟨X1.toArray⟩) := fun W h => (h.cell (World.block_lt_of_cell? _ _ q0)).trans q0
  have D0 : Below w10.heap.size w10 w10.drew := (Below.refl _ _).drew
  generalize leavesD m = lm at *
  go_region_held3 (fun W => W.cell? ⟨w8.heap.size, 0, none⟩ = some (.string ⟨X1.toArray⟩)) (first | assumption | exact q0) (first
    | (go_at_call 14; refine (HLv w10.drew (T.to C.toSmtC D0)).mono ?_; rintro e w11 ⟨sl11, rfl, hK11, hw11⟩; obtain ⟨aL, cL, e11, hAL⟩ := hK11.sl; subst e11; have D11 := D0.trans (hw11.mono D0.size); have k11 := hkq _ D11)
    | (go_at_call 23; refine (HPr w11 aL cL hAL).mono ?_; rintro e w12 ⟨gb, cb, ae, ce, rfl, hSb, hKe, hw12⟩; have D12 := D11.trans (hw12.mono D11.size); have k12 := hkq _ D12))
  replace T := T.to C.toSmtC D12
  clear D0 D11 D12 k11 k12 hkq q0 q1 hAL hw11 hK11 hw12 HLv HPr
  obtain ⟨bs, has, lp, lv⟩ := p
  dsimp only at *
  obtain ⟨p0, p1, p2, p3⟩ := blk4c T.pb
  have heq : ∀ (s : List UInt8) (w1 : World), (Op.equalIn 9999 9 (.string ⟨s.toArray⟩) (.string ⟨s.toArray⟩)).run Tryd.prog w1 = .ok true w1 := fun s w1 => eqStr7 s w1
  have hlen : (((bs.length : Int)) != (bs.length : Int)) = false := by rw [bne_eq_false_iff_eq]
  go_upto_region 10 with fail
  go_cut [73] from 48 to 72 (fun s73 wx => s73 = .bool false ∧ Below w12.heap.size w12 wx)
  case first =>
    rcases hend.out with ⟨h1, h2⟩ | ⟨⟨x1, x2⟩, h1, h2, h3, h4⟩
    · subst h2
      have hR0 : ((R2.length : Int) == 1) = false := by rw [h1]; rfl
      clear h1
      go_quiet (fail)
      go_wp2_with fail
      go_meet
      case rel => exact ⟨rfl, below_draws (Below.refl _ _) _⟩
    · dsimp only at h3 h4
      subst h2
      subst h3
      subst h4
      have hR0 : ((R2.length : Int) == 1) = true := by rw [h1]; rfl
      have hR1 : 0 < R2.length := by rw [h1]; exact Nat.zero_lt_one
      have hR2 : (0 : Int) < (R2.length : Int) := by omega
      obtain ⟨ge, oe, rfl⟩ := hKe.ex hR1
      obtain ⟨z0, z1⟩ := hKe.two (i := 0) (x := lp) (y := lv) (by rw [h1]; rfl)
      rw [Nat.zero_mul, Nat.add_zero] at z0 z1
      clear h1
      go_quiet (fail)
      go_wp2_with fail
      go_meet
      case rel => exact ⟨rfl, below_draws (Below.refl _ _) _⟩
  case rest =>
    obtain ⟨rfl, hwc⟩ := hcut
    replace T := T.to C.toSmtC hwc
    replace hSb := hSb.belowSize hwc
    clear hend hKe p0 p1 p2 p3 heq hlen hwc
    go_wp2_with fail
    go_loopw [13] (fun v13 W => ∃ i : Nat, i ≤ bs.length ∧ v13 = .int .i64 i ∧ Sp7 TR w b t am m ap cp ⟨bs, has, lp, lv⟩ w5.heap.size w8.heap.size X1 X2 W ∧ SS W gb cb bs) (fun v13 _ => bs.length - (intOf v13).toNat)
    case atStart => exact ⟨0, by omega, rfl, T, hSb⟩
    case round =>
      clear T hSb
      obtain ⟨i, hi, rfl, T, hSb⟩ := hrel
      by_cases hlt : i < bs.length
      · obtain ⟨gp, op, rfl, hr⟩ := T.xp i hlt
        obtain ⟨p0, p1, p2, p3⟩ := blk4c T.pb
        have hr2 : wr.cell? ⟨gb, i, none⟩ = some (.string ⟨(bs[i]).toArray⟩) := by
          rw [hSb.cell i hlt, List.getD_eq_getElem?_getD, List.getElem?_eq_getElem hlt]
          rfl
        dsimp only at hr p0 p1 p2 p3
        generalize bs[i] = y at *
        have hz1 : (0 : Int) ≤ (i : Int) := by omega
        have hz2 : (i : Int) < (bs.length : Int) := by omega
        go_wp2_with fail
        go_quiet (fail)
        go_wp2_with fail
        go_roundw
        case rel => exact ⟨i + 1, by omega, by go_num, T.to C.toSmtC (below_draws (Below.refl _ _) _), hSb.belowSize (below_draws (Below.refl _ _) _)⟩
        case measure => simp [intOf]; omega
      · have hz2 : ¬ ((i : Int) < (bs.length : Int)) := by omega
        clear hSb
        go_wp2_with fail
        go_loopw [14, 15, 16] (fun v14 v15 v16 W => ∃ (i : Nat) (v : List UInt8) (hv : Bool), i ≤ m.length ∧ v16 = .int .i64 i ∧ v14 = .string ⟨v.toArray⟩ ∧ v15 = .bool hv ∧ Hid ((v, hv) = scanM k (m.take i)) ∧ Sp7 TR w b t am m ap cp ⟨bs, has, lp, lv⟩ w5.heap.size w8.heap.size X1 X2 W) (fun _ _ v16 _ => m.length - (intOf v16).toNat)
        case atStart => exact ⟨0, [], false, by omega, rfl, rfl, rfl, rfl, T⟩
        case round =>
          clear T
          obtain ⟨i2, v, hv, hi2, rfl, rfl, rfl, hsc, T⟩ := hrel
          by_cases hlt2 : i2 < m.length
          · obtain ⟨gm, om, rfl⟩ := T.ka.ex (by omega)
            obtain ⟨x, hx⟩ : ∃ x, m[i2]? = some x := ⟨_, List.getElem?_eq_getElem hlt2⟩
            have hsn : Hid (scanM k (m.take (i2 + 1)) = if x.1 = k then (x.2, true) else scanM k (m.take i2)) := by
              obtain ⟨h1, rfl⟩ := List.getElem?_eq_some_iff.1 hx
              rw [List.take_succ_eq_append_getElem h1]
              exact scanM_snoc k _ _
            obtain ⟨xk, xv⟩ := x
            dsimp only at hsn
            obtain ⟨d1, d2⟩ := T.ka.two hx
            have hz1 : (0 : Int) ≤ (i2 : Int) := by omega
            have hz3 : (i2 : Int) < (m.length : Int) := by omega
            clear hx
            by_cases hxk : xk = k
            · have hb1 : (xk == k) = true := by rw [beq_iff_eq]; exact hxk
              have hs2 : Hid ((xv, true) = scanM k (m.take (i2 + 1))) := by rw [hsn.out, if_pos hxk]; exact rfl
              clear hxk hsn
              go_wp2_with fail
              go_roundw
              case rel => exact ⟨i2 + 1, xv, true, by omega, by go_num, rfl, rfl, hs2, T⟩
              case measure => simp [intOf]; omega
            · have hb1 : (xk == k) = false := by rw [beq_eq_false_iff_ne]; exact hxk
              have hs2 : Hid ((v, hv) = scanM k (m.take (i2 + 1))) := by rw [hsn.out, if_neg hxk]; exact hsc.out
              clear hxk hsn
              go_wp2_with fail
              go_roundw
              case rel => exact ⟨i2 + 1, v, hv, by omega, by go_num, rfl, rfl, hs2, T⟩
              case measure => simp [intOf]; omega
          · have hz3 : ¬ ((i2 : Int) < (m.length : Int)) := by omega
            have hsc2 : Hid ((v, hv) = scanM k m) := by
              have := hsc.out
              rw [List.take_of_length_le (by omega)] at this
              exact this
            clear hsc
            go_upto_region 23 with fail
            have hms2 := scanM_has k m
            rw [← hsc2.out] at hms2
            dsimp only at hms2
            obtain ⟨hh1, hh2, hh3⟩ := hms2
            have huniq : hv = true → ∀ x ∈ m, x.1 = k → x.2 = v := fun h x hx hxk => by
              obtain ⟨y, hy, hyk, hyv⟩ := hh2 h
              have := pair_eq hR.out.apart hx hy (hxk.trans hyk.symm)
              rw [this]
              exact hyv
            have hvl : v.length ≤ 60 := by
              cases hv with
              | true =>
                obtain ⟨y, hy, _, hyv⟩ := hh2 rfl
                rw [← hyv]
                exact (hms y hy).2
              | false => rw [hh3 rfl]; decide
            have hver := fun v2 hs => ver_of htw.out hc hR.out hkm.out hp v2 hs
            have hrl := hash_len t
            have HRo := fun W (h : Sp7 TR w b t am m ap cp ⟨bs, has, lp, lv⟩ w5.heap.size w8.heap.size X1 X2 W) => C.root W w.heap.size b t (hG.belowSize h.bel) h.tr (by omega)
            have hpl := hp.len
            dsimp only at hpl
            have HVe := fun W (h : Sp7 TR w b t am m ap cp ⟨bs, has, lp, lv⟩ w5.heap.size w8.heap.size X1 X2 W) v2 hs bb (hl : v2.length ≤ 1000) hb => C.verify W (t.hash TgD) k v2 hs ap cp ⟨bs, has, lp, lv⟩ bb (hG.belowSize h.bel) h.xp (by omega) (by omega) hl (by dsimp only; omega) (fun y hy => by rw [hb32 y hy]; decide) (by dsimp only; omega) (by dsimp only; omega) hb
            dsimp only at HVe
            have HVa := fun W (h : Sp7 TR w b t am m ap cp ⟨bs, has, lp, lv⟩ w5.heap.size w8.heap.size X1 X2 W) v2 (hl : v2.length ≤ 1000) => C.value W v2 (hG.belowSize h.bel) hl
            have hlx : (v ++ [120]).length ≤ 1000 := by rw [List.length_append, List.length_singleton]; omega
            have V1 := fun W h => HVe W h v hv true (by omega) ⟨fun _ => (hver v hv).2 ⟨hh1, fun h1 x hx hxk => by rw [huniq h1 x hx hxk]⟩, fun _ => rfl⟩
            have V3 := fun W h => HVe W h v (!hv) false (by omega) ⟨fun h => Bool.noConfusion h, fun h => by
              have h1 := ((hver v (!hv)).1 h).1
              rw [← hh1] at h1
              cases hv <;> simp at h1⟩
            obtain ⟨p0, p1, p2, p3⟩ := blk4c T.pb
            dsimp only at p0 p1 p2 p3
            have hkS : ∀ W, Below wr.heap.size wr W → (W.cell? ⟨w5.heap.size, 0, none⟩ = some (.slice ap bs.length cp) ∧ W.cell? ⟨w5.heap.size, 1, none⟩ = some (.bool has) ∧ W.cell? ⟨w5.heap.size, 2, none⟩ = some (.string ⟨lp.toArray⟩) ∧ W.cell? ⟨w5.heap.size, 3, none⟩ = some (.string ⟨lv.toArray⟩)) := fun W h =>
              ⟨(h.cell (World.block_lt_of_cell? _ _ p0)).trans p0, (h.cell (World.block_lt_of_cell? _ _ p1)).trans p1, (h.cell (World.block_lt_of_cell? _ _ p2)).trans p2, (h.cell (World.block_lt_of_cell? _ _ p3)).trans p3⟩
            have D0 : Below wr.heap.size wr wr.drew := (Below.refl _ _).drew
            have T0 := T.to C.toSmtC D0
            have s0 := hkS _ D0
            have f1 : ¬ 9223372036854775807 < v.length + 1 := by omega
            have HK := fun {W W' : World} (h : Sp7 TR w b t am m ap cp ⟨bs, has, lp, lv⟩ w5.heap.size w8.heap.size X1 X2 W) (hb : Below W.heap.size W W') => h.to C.toSmtC hb
            cases hv with
            | true =>
              have hv2 : ∀ b2 : Bool, (b2 = true ↔ valD7 (v ++ [120]) = valD7 v) → (b2 = true ↔ verP (t.hash TgD) k (v ++ [120]) true ⟨bs, has, lp, lv⟩) := fun b2 hb2 => by
                rw [hb2, hver]
                refine ⟨fun h => ⟨hh1, fun _ x hx hxk => by rw [huniq rfl x hx hxk]; exact h.symm⟩, fun h => ?_⟩
                obtain ⟨y, hy, hyk, hyv⟩ := hh2 rfl
                have := h.2 rfl y hy hyk
                rw [hyv] at this
                exact this.symm
              have V2 := fun W h => HVe W h (v ++ [120]) true (valD7 (v ++ [120]) == valD7 v) hlx (hv2 _ beq_iff_eq)
              have A1 := fun W h => HVa W h (v ++ [120]) hlx
              have A2 := fun W h => HVa W h v (by omega)
              clear hv2 hver huniq hh1 hh2 hh3 HVe HVa hrl hpl hb32 hms hsc2
              generalize t.hash TgD = RR at *
              generalize valD7 (v ++ [120]) = B1 at *
              generalize valD7 v = B2 at *
              obtain ⟨eb, heb⟩ : ∃ eb, (B1 == B2) = eb := ⟨_, rfl⟩
              rw [heb] at V2
              have g1 : True := trivial
              have g2 : True := trivial
              have g3 : True := trivial
              cases eb
              all_goals
                go_region_held3 (fun W => W.cell? ⟨w5.heap.size, 0, none⟩ = some (.slice ap bs.length cp) ∧ W.cell? ⟨w5.heap.size, 1, none⟩ = some (.bool has) ∧ W.cell? ⟨w5.heap.size, 2, none⟩ = some (.string ⟨lp.toArray⟩) ∧ W.cell? ⟨w5.heap.size, 3, none⟩ = some (.string ⟨lv.toArray⟩)) (first | assumption | exact s0) (first
                  | (go_at_call 12; clear g1; refine (HRo _ T0).mono ?_; rintro e w20 ⟨rfl, hw20⟩; have D1 := D0.trans (hw20.mono D0.size); have T1 := HK T0 hw20; have s1 := hkS _ D1)
                  | (go_at_call 24; refine (V1 _ T1).mono ?_; clear V1; rintro e w21 ⟨rfl, hw21⟩; have D2 := D1.trans (hw21.mono D1.size); have T2 := HK T1 hw21; have s2 := hkS _ D2)
                  | (go_at_call 12; clear g2; refine (HRo _ T2).mono ?_; rintro e w22 ⟨rfl, hw22⟩; have D3 := D2.trans (hw22.mono D2.size); have T3 := HK T2 hw22; have s3 := hkS _ D3)
                  | (go_at_call 24; refine (V2 _ T3).mono ?_; clear V2; rintro e w23 ⟨rfl, hw23⟩; have D4 := D3.trans (hw23.mono D3.size); have T4 := HK T3 hw23; have s4 := hkS _ D4)
                  | (go_at_call 18; refine (A1 _ T4).mono ?_; clear A1; rintro e w24 ⟨rfl, hw24⟩; have D5 := D4.trans (hw24.mono D4.size); have T5 := HK T4 hw24; have s5 := hkS _ D5)
                  | (go_at_call 18; refine (A2 _ T5).mono ?_; rintro e w25 ⟨rfl, hw25⟩; have D6 := D5.trans (hw25.mono D5.size); have T6 := HK T5 hw25; have s6 := hkS _ D6)
                  | (go_at_call 12; refine (HRo _ T6).mono ?_; rintro e w26 ⟨rfl, hw26⟩; have D7 := D6.trans (hw26.mono D6.size); have T7 := HK T6 hw26; have s7 := hkS _ D7)
                  | (go_at_call 24; refine (V3 _ T7).mono ?_; rintro e w27 ⟨rfl, hw27⟩; have D8 := D7.trans (hw27.mono D7.size); have T8 := HK T7 hw27; have s8 := hkS _ D8))
                go_wp2_with fail
                go_ret
                exact ⟨rfl, T8.bel⟩
            | false =>
              have V2 := fun W h => HVe W h (v ++ [120]) true false hlx ⟨fun h => Bool.noConfusion h, fun h => by
                have h1 := ((hver (v ++ [120]) true).1 h).1.1 rfl
                exact absurd (hh1.2 h1) (by decide)⟩
              clear hver huniq hh1 hh2 hh3 HVe HVa hrl hpl hb32 hms hsc2
              generalize t.hash TgD = RR at *
              have s0' := s0
              refine wp_region_held_drew (S := fun W => W.cell? ⟨w5.heap.size, 0, none⟩ = some (.slice ap bs.length cp) ∧ W.cell? ⟨w5.heap.size, 1, none⟩ = some (.bool has) ∧ W.cell? ⟨w5.heap.size, 2, none⟩ = some (.string ⟨lp.toArray⟩) ∧ W.cell? ⟨w5.heap.size, 3, none⟩ = some (.string ⟨lv.toArray⟩)) (by kernel_rfl) s0 (fun _ => ?_)
              refine wpAnyH_take (i := 0) (oi := ⟨some 108, _, _, _, _, _⟩) (v := .pointer (some ⟨b, 0, none⟩)) rfl (by kernel_rfl) (by kernel_rfl) (by kernel_rfl) (fun _ _ _ h => h) (Or.inl ⟨by rfl, fun w hSw => by go_simp⟩) s0 ?_
              refine wpAnyH_take (i := 2) (oi := ⟨some 110, _, _, _, _, _⟩) (v := .string ⟨k.toArray⟩) rfl (by kernel_rfl) (by kernel_rfl) (by kernel_rfl) (fun _ _ _ h => h) (Or.inl ⟨by rfl, fun w hSw => by go_simp⟩) s0 ?_
              refine wpAnyH_take (i := 3) (oi := ⟨some 111, _, _, _, _, _⟩) (v := .string ⟨v.toArray⟩) rfl (by kernel_rfl) (by kernel_rfl) (by kernel_rfl) (fun _ _ _ h => h) (Or.inl ⟨by rfl, fun w hSw => by go_simp⟩) s0 ?_
              refine wpAnyH_take (i := 4) (oi := ⟨some 112, _, _, _, _, _⟩) (v := .bool false) rfl (by kernel_rfl) (by kernel_rfl) (by kernel_rfl) (fun _ _ _ h => h) (Or.inl ⟨by rfl, fun w hSw => by go_simp⟩) s0 ?_
              refine wpAnyH_take (i := 5) (oi := ⟨some 113, _, _, _, _, _⟩) (v := .agg #[.slice ap bs.length cp, .bool has, .string ⟨lp.toArray⟩, .string ⟨lv.toArray⟩]) rfl (by kernel_rfl) (by kernel_rfl) (by kernel_rfl) (fun _ _ _ h => h) (Or.inl ⟨by rfl, fun w hSw => by (try dsimp only at hSw); obtain ⟨r0, r1, r2, r3⟩ := hSw; go_simp⟩) s0 ?_
              try simp only [Act.put, List.setIfInBounds_toArray, List.set_cons_zero, List.set_cons_succ]
              refine wpAnyH_ready (rs := [1]) (by kernel_rfl) (by simp) ?_
              refine AllReadyH.cons (o := ⟨some 109, .call ⟨.value (.func 12), #[.tmp 108], #[23]⟩, _, _, _, _⟩) rfl (fun K hK => ?_) AllReadyH.nil
              rw [if_pos (by rfl)]
              go_simp
              refine (HRo _ T0).mono ?_
              rintro e w21 ⟨rfl, hw21⟩
              have D1 := D0.trans (hw21.mono D0.size)
              have T1 := HK T0 hw21
              have s1 := hkS _ D1
              refine hK.out _ _ s1 (fun _ => ?_)
              clear hK K
              try simp only [Act.put, List.setIfInBounds_toArray, List.set_cons_zero, List.set_cons_succ]
              try simp only [Act.put, List.setIfInBounds_toArray, List.set_cons_zero, List.set_cons_succ]
              refine wpAnyH_ready (rs := [6]) (by kernel_rfl) (by simp) ?_
              refine AllReadyH.cons (o := ⟨some 114, .call ⟨.value (.func 24), #[.tmp 109, .tmp 110, .tmp 111, .tmp 112, .tmp 113], #[9, 9, 9, 4, 50]⟩, _, _, _, _⟩) rfl (fun K hK => ?_) AllReadyH.nil
              rw [if_pos (by rfl)]
              go_simp
              refine (V1 _ T1).mono ?_
              rintro e w22 ⟨rfl, hw22⟩
              have D2 := D1.trans (hw22.mono D1.size)
              have T2 := HK T1 hw22
              have s2 := hkS _ D2
              refine hK.out _ _ s2 (fun _ => ?_)
              clear hK K
              try simp only [Act.put, List.setIfInBounds_toArray, List.set_cons_zero, List.set_cons_succ]
              refine wpAnyH_take (i := 7) (oi := ⟨some 115, _, _, _, _, _⟩) (v := .bool true) rfl (by kernel_rfl) (by kernel_rfl) (by kernel_rfl) (fun _ _ _ h => h) (Or.inl ⟨by rfl, fun w hSw => by go_simp⟩) s2 ?_
              refine wpAnyH_take (i := 8) (oi := ⟨some 116, _, _, _, _, _⟩) (v := .pointer (some ⟨b, 0, none⟩)) rfl (by kernel_rfl) (by kernel_rfl) (by kernel_rfl) (fun _ _ _ h => h) (Or.inl ⟨by rfl, fun w hSw => by go_simp⟩) s2 ?_
              refine wpAnyH_take (i := 10) (oi := ⟨some 118, _, _, _, _, _⟩) (v := .string ⟨k.toArray⟩) rfl (by kernel_rfl) (by kernel_rfl) (by kernel_rfl) (fun _ _ _ h => h) (Or.inl ⟨by rfl, fun w hSw => by go_simp⟩) s2 ?_
              refine wpAnyH_take (i := 11) (oi := ⟨some 119, _, _, _, _, _⟩) (v := .string ⟨v.toArray⟩) rfl (by kernel_rfl) (by kernel_rfl) (by kernel_rfl) (fun _ _ _ h => h) (Or.inl ⟨by rfl, fun w hSw => by go_simp⟩) s2 ?_
              try simp only [Act.put, List.setIfInBounds_toArray, List.set_cons_zero, List.set_cons_succ]
              refine wpAnyH_take (i := 12) (oi := ⟨some 120, _, _, _, _, _⟩) (v := .string ⟨(v ++ [120]).toArray⟩) rfl (by kernel_rfl) (by kernel_rfl) (by kernel_rfl) (fun _ _ _ h => h) (Or.inl ⟨by rfl, fun w hSw => by go_simp⟩) s2 ?_
              refine wpAnyH_take (i := 13) (oi := ⟨some 121, _, _, _, _, _⟩) (v := .agg #[.slice ap bs.length cp, .bool has, .string ⟨lp.toArray⟩, .string ⟨lv.toArray⟩]) rfl (by kernel_rfl) (by kernel_rfl) (by kernel_rfl) (fun _ _ _ h => h) (Or.inl ⟨by rfl, fun w hSw => by (try dsimp only at hSw); obtain ⟨r0, r1, r2, r3⟩ := hSw; go_simp⟩) s2 ?_
              refine wpAnyH_take (i := 15) (oi := ⟨some 123, _, _, _, _, _⟩) (v := .bool false) rfl (by kernel_rfl) (by kernel_rfl) (by kernel_rfl) (fun _ _ _ h => h) (Or.inl ⟨by rfl, fun w hSw => by go_simp⟩) s2 ?_
              try simp only [Act.put, List.setIfInBounds_toArray, List.set_cons_zero, List.set_cons_succ]
              refine wpAnyH_ready (rs := [9]) (by kernel_rfl) (by simp) ?_
              refine AllReadyH.cons (o := ⟨some 117, .call ⟨.value (.func 12), #[.tmp 116], #[23]⟩, _, _, _, _⟩) rfl (fun K hK => ?_) AllReadyH.nil
              rw [if_pos (by rfl)]
              go_simp
              refine (HRo _ T2).mono ?_
              rintro e w23 ⟨rfl, hw23⟩
              have D3 := D2.trans (hw23.mono D2.size)
              have T3 := HK T2 hw23
              have s3 := hkS _ D3
              refine hK.out _ _ s3 (fun _ => ?_)
              clear hK K
              try simp only [Act.put, List.setIfInBounds_toArray, List.set_cons_zero, List.set_cons_succ]
              try simp only [Act.put, List.setIfInBounds_toArray, List.set_cons_zero, List.set_cons_succ]
              refine wpAnyH_ready (rs := [14]) (by kernel_rfl) (by simp) ?_
              refine AllReadyH.cons (o := ⟨some 122, .call ⟨.value (.func 24), #[.tmp 117, .tmp 118, .tmp 120, .const (.bool true), .tmp 121], #[9, 9, 9, 4, 50]⟩, _, _, _, _⟩) rfl (fun K hK => ?_) AllReadyH.nil
              rw [if_pos (by rfl)]
              go_simp
              refine (V2 _ T3).mono ?_
              rintro e w24 ⟨rfl, hw24⟩
              have D4 := D3.trans (hw24.mono D3.size)
              have T4 := HK T3 hw24
              have s4 := hkS _ D4
              refine hK.out _ _ s4 (fun _ => ?_)
              clear hK K
              try simp only [Act.put, List.setIfInBounds_toArray, List.set_cons_zero, List.set_cons_succ]
              refine wpAnyH_take (i := 16) (oi := ⟨some 124, _, _, _, _, _⟩) (v := .bool false) rfl (by kernel_rfl) (by kernel_rfl) (by kernel_rfl) (fun _ _ _ h => h) (Or.inl ⟨by rfl, fun w hSw => by go_simp⟩) s4 ?_
              refine wpAnyH_take (i := 17) (oi := ⟨some 125, _, _, _, _, _⟩) (v := undef) rfl (by kernel_rfl) (by kernel_rfl) (by kernel_rfl) (fun _ _ _ h => h) (Or.inr ⟨by rfl, rfl⟩) s4 ?_
              refine wpAnyH_take (i := 18) (oi := ⟨some 126, _, _, _, _, _⟩) (v := undef) rfl (by kernel_rfl) (by kernel_rfl) (by kernel_rfl) (fun _ _ _ h => h) (Or.inr ⟨by rfl, rfl⟩) s4 ?_
              try simp only [Act.put, List.setIfInBounds_toArray, List.set_cons_zero, List.set_cons_succ]
              refine wpAnyH_take (i := 19) (oi := ⟨some 127, _, _, _, _, _⟩) (v := undef) rfl (by kernel_rfl) (by kernel_rfl) (by kernel_rfl) (fun _ _ _ h => h) (Or.inr ⟨by rfl, rfl⟩) s4 ?_
              refine wpAnyH_take (i := 20) (oi := ⟨some 128, _, _, _, _, _⟩) (v := undef) rfl (by kernel_rfl) (by kernel_rfl) (by kernel_rfl) (fun _ _ _ h => h) (Or.inr ⟨by rfl, rfl⟩) s4 ?_
              refine wpAnyH_take (i := 21) (oi := ⟨some 129, _, _, _, _, _⟩) (v := undef) rfl (by kernel_rfl) (by kernel_rfl) (by kernel_rfl) (fun _ _ _ h => h) (Or.inr ⟨by rfl, rfl⟩) s4 ?_
              try simp only [Act.put, List.setIfInBounds_toArray, List.set_cons_zero, List.set_cons_succ]
              refine wpAnyH_take (i := 22) (oi := ⟨some 130, _, _, _, _, _⟩) (v := undef) rfl (by kernel_rfl) (by kernel_rfl) (by kernel_rfl) (fun _ _ _ h => h) (Or.inr ⟨by rfl, rfl⟩) s4 ?_
              refine wpAnyH_take (i := 23) (oi := ⟨some 131, _, _, _, _, _⟩) (v := .bool false) rfl (by kernel_rfl) (by kernel_rfl) (by kernel_rfl) (fun _ _ _ h => h) (Or.inl ⟨by rfl, fun w hSw => by go_simp⟩) s4 ?_
              refine wpAnyH_take (i := 24) (oi := ⟨some 132, _, _, _, _, _⟩) (v := .bool true) rfl (by kernel_rfl) (by kernel_rfl) (by kernel_rfl) (fun _ _ _ h => h) (Or.inl ⟨by rfl, fun w hSw => by go_simp⟩) s4 ?_
              refine wpAnyH_take (i := 25) (oi := ⟨some 133, _, _, _, _, _⟩) (v := .bool true) rfl (by kernel_rfl) (by kernel_rfl) (by kernel_rfl) (fun _ _ _ h => h) (Or.inl ⟨by rfl, fun w hSw => by go_simp⟩) s4 ?_
              refine wpAnyH_take (i := 26) (oi := ⟨some 134, _, _, _, _, _⟩) (v := .bool true) rfl (by kernel_rfl) (by kernel_rfl) (by kernel_rfl) (fun _ _ _ h => h) (Or.inl ⟨by rfl, fun w hSw => by go_simp⟩) s4 ?_
              try simp only [Act.put, List.setIfInBounds_toArray, List.set_cons_zero, List.set_cons_succ]
              refine wpAnyH_take (i := 27) (oi := ⟨some 135, _, _, _, _, _⟩) (v := .pointer (some ⟨b, 0, none⟩)) rfl (by kernel_rfl) (by kernel_rfl) (by kernel_rfl) (fun _ _ _ h => h) (Or.inl ⟨by rfl, fun w hSw => by go_simp⟩) s4 ?_
              refine wpAnyH_take (i := 29) (oi := ⟨some 137, _, _, _, _, _⟩) (v := .string ⟨k.toArray⟩) rfl (by kernel_rfl) (by kernel_rfl) (by kernel_rfl) (fun _ _ _ h => h) (Or.inl ⟨by rfl, fun w hSw => by go_simp⟩) s4 ?_
              refine wpAnyH_take (i := 30) (oi := ⟨some 138, _, _, _, _, _⟩) (v := .string ⟨v.toArray⟩) rfl (by kernel_rfl) (by kernel_rfl) (by kernel_rfl) (fun _ _ _ h => h) (Or.inl ⟨by rfl, fun w hSw => by go_simp⟩) s4 ?_
              try simp only [Act.put, List.setIfInBounds_toArray, List.set_cons_zero, List.set_cons_succ]
              refine wpAnyH_take (i := 31) (oi := ⟨some 139, _, _, _, _, _⟩) (v := .bool false) rfl (by kernel_rfl) (by kernel_rfl) (by kernel_rfl) (fun _ _ _ h => h) (Or.inl ⟨by rfl, fun w hSw => by go_simp⟩) s4 ?_
              refine wpAnyH_take (i := 32) (oi := ⟨some 140, _, _, _, _, _⟩) (v := .bool true) rfl (by kernel_rfl) (by kernel_rfl) (by kernel_rfl) (fun _ _ _ h => h) (Or.inl ⟨by rfl, fun w hSw => by go_simp⟩) s4 ?_
              refine wpAnyH_take (i := 33) (oi := ⟨some 141, _, _, _, _, _⟩) (v := .agg #[.slice ap bs.length cp, .bool has, .string ⟨lp.toArray⟩, .string ⟨lv.toArray⟩]) rfl (by kernel_rfl) (by kernel_rfl) (by kernel_rfl) (fun _ _ _ h => h) (Or.inl ⟨by rfl, fun w hSw => by (try dsimp only at hSw); obtain ⟨r0, r1, r2, r3⟩ := hSw; go_simp⟩) s4 ?_
              try simp only [Act.put, List.setIfInBounds_toArray, List.set_cons_zero, List.set_cons_succ]
              refine wpAnyH_ready (rs := [28]) (by kernel_rfl) (by simp) ?_
              refine AllReadyH.cons (o := ⟨some 136, .call ⟨.value (.func 12), #[.tmp 135], #[23]⟩, _, _, _, _⟩) rfl (fun K hK => ?_) AllReadyH.nil
              rw [if_pos (by rfl)]
              go_simp
              refine (HRo _ T4).mono ?_
              rintro e w25 ⟨rfl, hw25⟩
              have D5 := D4.trans (hw25.mono D4.size)
              have T5 := HK T4 hw25
              have s5 := hkS _ D5
              refine hK.out _ _ s5 (fun _ => ?_)
              clear hK K
              try simp only [Act.put, List.setIfInBounds_toArray, List.set_cons_zero, List.set_cons_succ]
              try simp only [Act.put, List.setIfInBounds_toArray, List.set_cons_zero, List.set_cons_succ]
              refine wpAnyH_ready (rs := [34]) (by kernel_rfl) (by simp) ?_
              refine AllReadyH.cons (o := ⟨some 142, .call ⟨.value (.func 24), #[.tmp 136, .tmp 137, .tmp 138, .tmp 140, .tmp 141], #[9, 9, 9, 4, 50]⟩, _, _, _, _⟩) rfl (fun K hK => ?_) AllReadyH.nil
              rw [if_pos (by rfl)]
              go_simp
              refine (V3 _ T5).mono ?_
              rintro e w26 ⟨rfl, hw26⟩
              have D6 := D5.trans (hw26.mono D5.size)
              have T6 := HK T5 hw26
              have s6 := hkS _ D6
              refine hK.out _ _ s6 (fun _ => ?_)
              clear hK K
              try simp only [Act.put, List.setIfInBounds_toArray, List.set_cons_zero, List.set_cons_succ]
              refine wpAnyH_take (i := 35) (oi := ⟨some 143, _, _, _, _, _⟩) (v := .bool true) rfl (by kernel_rfl) (by kernel_rfl) (by kernel_rfl) (fun _ _ _ h => h) (Or.inl ⟨by rfl, fun w hSw => by go_simp⟩) s6 ?_
              refine wpAnyH_take (i := 36) (oi := ⟨some 144, _, _, _, _, _⟩) (v := .bool true) rfl (by kernel_rfl) (by kernel_rfl) (by kernel_rfl) (fun _ _ _ h => h) (Or.inl ⟨by rfl, fun w hSw => by go_simp⟩) s6 ?_
              refine wpAnyH_take (i := 37) (oi := ⟨some 4, _, _, _, _, _⟩) (v := .bool true) rfl (by kernel_rfl) (by kernel_rfl) (by kernel_rfl) (fun _ _ _ h => h) (Or.inl ⟨by rfl, fun w hSw => by go_simp⟩) s6 ?_
              refine wpAnyH_done (by kernel_rfl) ?_ _
              try simp only [Act.put, List.setIfInBounds_toArray, List.set_cons_zero, List.set_cons_succ]
              go_wp2_with fail
              go_ret
              exact ⟨rfl, T6.bel⟩
/-- SmtProves tells true, out of what the calls of a tree do. -/
theorem smtProves_any {TR : World → Nat → Nat → Tr → Prop} (C : SmtV TR) (l : List A7) (key : List UInt8) (a : Option Addr) (cap : Nat) (w : World) (hG : Glob w) (hA : AA w a l) (hk : ∀ x ∈ l, x.key.length ≤ 9223372036854775807 ∧ x.val.length ≤ 9223372036854775807) (hkey : key.length ≤ 9223372036854775807) :
    Calls Tryd.prog 4 #[.slice a l.length cap, .string ⟨key.toArray⟩] w fun e w' => e = .returned (.bool true) ∧ Below w.heap.size w w' := by
  by_cases h : TwinsP (keysD l key)
  · exact smtProves_twins C l key a cap w hG hA hk hkey h
  · exact smtProves_main C l key a cap w hG hA hk hkey h
end Go.Proofs.YtmeolaeoaoldoaaDoor.Sh
