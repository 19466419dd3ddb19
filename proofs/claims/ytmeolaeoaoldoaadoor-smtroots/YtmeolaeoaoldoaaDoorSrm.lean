/- SmtRoots of the landed tree. -/
import Derived.Test.YtmeolaeoaoldoaaDoorSrr
import Derived.Laws.Cover1
namespace Go.Proofs.YtmeolaeoaoldoaaDoor.Sh
open Go Go.RowKit Go.Shelf
/-- The memory of SmtRoots. -/
structure RB (w : World) (b : Nat) (t : Tr) (sl : Value) (m : List LF) (W : World) : Prop where
  r : Blk W w.heap.size #[.bool false] 4
  t : TM b t W
  k : KL W 38 (w.heap.size + 1) sl m
  below : Below w.heap.size w W
theorem RB.below' {w : World} {b : Nat} {t : Tr} {sl : Value} {m : List LF} {W W' : World} (h : RB w b t sl m W) (hb : Below W.heap.size W W') : RB w b t sl m W' :=
  ⟨h.r.belowSize hb, h.t.below hb, h.k.below hb, h.below.trans (hb.mono h.below.size)⟩
theorem RB.put {w : World} {b b2 : Nat} {t ta : Tr} {sl : Value} {m : List LF} {x : LF} {W W' : World} (h : RB w b t sl m W) (k : PutL b2 ta x W W') (hne : b ≠ b2) (hl : w.heap.size ≤ b2) : RB w b t sl m W' :=
  ⟨k.blk2 h.r (by decide), k.other h.t hne, k.kl h.k, k.below h.below hl⟩
theorem KL.turn {w w' : World} {t : TypeId} {lo : Nat} {sl : Value} {l : List LF} {row : Option Nat} (h : KL w t lo sl l) (hg : w.grownBy w' row) (hr : ∀ r, row = some r → ∃ o : Obj, w.heap[r]? = some o ∧ o.isCells = false) : KL w' t lo sl l := by
  rcases h with h | ⟨g, cap, h1, h2, h3⟩
  · exact .inl h
  · refine .inr ⟨g, cap, h1, h2, h3.grown hg (fun e => ?_)⟩
    obtain ⟨o, ho, hc⟩ := hr g e.symm
    obtain ⟨cur, h4, _⟩ := h3.out
    rw [h4] at ho
    cases ho
    cases hc
theorem TM.turn {b : Nat} {t : Tr} {W W' : World} {row : Option Nat} (h : TM b t W) (hg : W.grownBy W' row) (hr : ∀ r, row = some r → ∃ o : Obj, W.heap[r]? = some o ∧ o.isCells = false) : TM b t W' := by
  obtain ⟨q, h1, h2⟩ := h.out
  exact ⟨⟨q, h1.turn hg hr, h2.turn hg hr⟩, h.canon⟩
theorem TM.leaf7 {b b2 : Nat} {t : Tr} {c : Array Value} {ty : TypeId} {W W' : World} (h : TM b t W) (hg : W.grownBy W' (some b2)) (hb : Blk W b2 c ty) (h1 : 75 ≠ ty) (h2 : 82 ≠ ty) : TM b t W' := by
  obtain ⟨q, k1, k2⟩ := h.out
  exact ⟨⟨q, k1.grown hg (fun e => k1.apart hb h1 (Option.some.inj e)), k2.grown hg hb h2⟩, h.canon⟩
/-- The memory of SmtRoots' last loop. -/
structure RM (w : World) (b : Nat) (t : Tr) (sl : Value) (m : List LF) (b2 : Nat) (ta : Tr) (lo Bl Bn : Nat) (last : List UInt8) (n : Nat) (W : World) : Prop where
  rb : RB w b t sl m W
  ta : TM b2 ta W
  bl : Blk W Bl #[.string ⟨last.toArray⟩] 9
  bn : Blk W Bn #[.int .i64 ((n : Nat) : Int)] 3
  size : lo ≤ W.heap.size
theorem RM.turn {w : World} {b : Nat} {t : Tr} {sl : Value} {m : List LF} {b2 : Nat} {ta : Tr} {lo Bl Bn : Nat} {last : List UInt8} {n : Nat} {W W' : World} {row : Option Nat} (h : RM w b t sl m b2 ta lo Bl Bn last n W) (hl : w.heap.size ≤ lo) (hg : W.grownBy W' row) (hr : ∀ r, row = some r → lo ≤ r ∧ ∃ o : Obj, W.heap[r]? = some o ∧ o.isCells = false) : RM w b t sl m b2 ta lo Bl Bn last n W' :=
  have hr2 := fun r e => (hr r e).2
  ⟨⟨h.rb.r.turn hg hr2, h.rb.t.turn hg hr2, h.rb.k.turn hg hr2, h.rb.below.grown hg h.rb.below.size (fun k e => Nat.le_trans hl (hr k e).1)⟩, h.ta.turn hg hr2, h.bl.turn hg hr2, h.bn.turn hg hr2, Nat.le_trans h.size hg.size⟩
theorem RM.below' {w : World} {b : Nat} {t : Tr} {sl : Value} {m : List LF} {b2 : Nat} {ta : Tr} {lo Bl Bn : Nat} {last : List UInt8} {n : Nat} {W W' : World} (h : RM w b t sl m b2 ta lo Bl Bn last n W) (hb : Below W.heap.size W W') : RM w b t sl m b2 ta lo Bl Bn last n W' :=
  ⟨h.rb.below' hb, h.ta.below hb, h.bl.belowSize hb, h.bn.belowSize hb, Nat.le_trans h.size hb.size⟩
/-- A leaf's own box is written. -/
theorem RM.own {w : World} {b : Nat} {t : Tr} {sl : Value} {m : List LF} {b2 : Nat} {ta : Tr} {lo Bl Bn : Nat} {last : List UInt8} {n : Nat} {W W' : World} {Bx : Nat} {c : Array Value} (h : RM w b t sl m b2 ta lo Bl Bn last n W) (hg : W.grownBy W' (some Bx)) (hb : Blk W Bx c 46) (hl : w.heap.size ≤ Bx) : RM w b t sl m b2 ta lo Bl Bn last n W' :=
  have hne : ∀ {i : Nat} {d : Array Value} {u : TypeId}, Blk W i d u → u ≠ 46 → some i ≠ some Bx := fun h1 hu e => h1.apart hb hu (Option.some.inj e)
  ⟨⟨h.rb.r.grown hg (hne h.rb.r (by decide)), h.rb.t.leaf7 hg hb (by decide) (by decide), h.rb.k.grown hg hb (by decide), h.rb.below.grown hg h.rb.below.size (fun k e => by cases e; exact hl)⟩, h.ta.leaf7 hg hb (by decide) (by decide), h.bl.grown hg (hne h.bl (by decide)), h.bn.grown hg (hne h.bn (by decide)), Nat.le_trans h.size hg.size⟩
theorem RM.moveL {w : World} {b : Nat} {t : Tr} {sl : Value} {m : List LF} {b2 : Nat} {ta : Tr} {lo Bl Bn : Nat} {last : List UInt8} {n : Nat} {W : World} (h : RM w b t sl m b2 ta lo Bl Bn last n W) (x : List UInt8) (hl : w.heap.size ≤ Bl) : RM w b t sl m b2 ta lo Bl Bn x n (W.setCell ⟨Bl, 0, none⟩ (.string ⟨x.toArray⟩)) := by
  have hg := grown_setCell Bl (.string ⟨x.toArray⟩) 0 W
  have hne : ∀ {i : Nat} {d : Array Value} {u : TypeId}, Blk W i d u → u ≠ 9 → some i ≠ some Bl := fun h1 hu e => h1.apart h.bl hu (Option.some.inj e)
  exact ⟨⟨h.rb.r.grown hg (hne h.rb.r (by decide)), h.rb.t.leaf7 hg h.bl (by decide) (by decide), h.rb.k.grown hg h.bl (by decide), h.rb.below.grown hg h.rb.below.size (fun k e => by cases e; exact hl)⟩, h.ta.leaf7 hg h.bl (by decide) (by decide), h.bl.setCell 0 (.string ⟨x.toArray⟩), h.bn.grown hg (hne h.bn (by decide)), Nat.le_trans h.size hg.size⟩
theorem RM.moveN {w : World} {b : Nat} {t : Tr} {sl : Value} {m : List LF} {b2 : Nat} {ta : Tr} {lo Bl Bn : Nat} {last : List UInt8} {n : Nat} {W : World} (h : RM w b t sl m b2 ta lo Bl Bn last n W) (hl : w.heap.size ≤ Bn) : RM w b t sl m b2 ta lo Bl Bn last (n + 1) (W.setCell ⟨Bn, 0, none⟩ (.int .i64 ((n : Int) + 1))) := by
  have hg := grown_setCell Bn (.int .i64 ((n : Int) + 1)) 0 W
  have hne : ∀ {i : Nat} {d : Array Value} {u : TypeId}, Blk W i d u → u ≠ 3 → some i ≠ some Bn := fun h1 hu e => h1.apart h.bn hu (Option.some.inj e)
  exact ⟨⟨h.rb.r.grown hg (hne h.rb.r (by decide)), h.rb.t.leaf7 hg h.bn (by decide) (by decide), h.rb.k.grown hg h.bn (by decide), h.rb.below.grown hg h.rb.below.size (fun k e => by cases e; exact hl)⟩, h.ta.leaf7 hg h.bn (by decide) (by decide), h.bl.grown hg (hne h.bl (by decide)), h.bn.setCell 0 (.int .i64 ((n : Int) + 1)), Nat.le_trans h.size hg.size⟩
section
attribute [local go_sem] Oper.semAt_some
set_option maxRecDepth 100000 in
set_option maxHeartbeats 8000000 in
theorem smtRoots_main (l : List A7) (a : Option Addr) (cap : Nat) (w : World) (hG : Glob w) (hA : AA w a l) (hk : ∀ x ∈ l, x.key.length ≤ 9223372036854775807 ∧ x.val.length ≤ 9223372036854775807) (htw : ¬ TwinsP (keysD l [])) :
    Calls Tryd.prog 3 #[.slice a l.length cap] w fun e w' => e = .returned (.bool true) ∧ Below w.heap.size w w' := by
  have HD := fun w1 (hb : Below w.heap.size w w1) => done_any smtC l [] a cap w1 (hG.belowSize hb) (hA.below hb) hk
  have HT := fun w1 (hb : Below w.heap.size w w1) => twins_any l [] a cap w1 (hA.below hb) (by decide) (fun x hx => (hk x hx).1) false ⟨fun h => Bool.noConfusion h, fun h => absurd h htw⟩
  have HW := fun w1 (hb : Below w.heap.size w w1) => awake7_any smtV w1 (hG.belowSize hb)
  generalize keysD l [] = K at *
  replace htw : Hid (¬ TwinsP K) := htw
  clear hA hk
  refine (callsIn_wide (n := 6)).1 (callsIn_of_wp_marks Tryd.func3 rfl trivial ?_ rfl)
  refine wpIn_wide.2 ?_
  simp only [Tryd.ntmps3, List.size_toArray, List.length_cons, List.length_nil, Nat.reduceAdd, Nat.reduceSub, Array.replicate_succ, Array.replicate_zero, List.push_toArray, List.append_toArray, List.nil_append, List.cons_append]
  have B0 : Below w.heap.size w (w.alloc (.cells #[.bool false] 4)) := (Below.refl _ w).alloc (Nat.le_refl _) _
  have k0 := Blk.new w #[.bool false] 4
  have hs0 : (w.alloc (.cells #[.bool false] 4)).heap.size = w.heap.size + 1 := by simp
  go_upto_region 4 with (first
    | (go_at_call 8; refine (HD _ B0).mono ?_; rintro e w1 ⟨b, sl, m, t, ok, rfl, hT, hK, hml, htl, hms, hrel, hw1⟩; obtain ⟨rfl, hR⟩ := hrel htw.out; obtain ⟨am, cm, e6, hKA⟩ := hK.sl; subst e6; replace hR : Hid (Rel7 K t m) := hR; have B1 := B0.trans (hw1.mono B0.size); have k1 := k0.belowSize hw1)
    | (go_at_call 9; refine (HT _ B1).mono ?_; rintro e w3 ⟨rfl, hw3⟩; have B3 := B1.trans (hw3.mono B1.size); have k3 := k1.belowSize hw3; have hT3 := smtC.keep hT hw3; have hK3 := hK.below hw3))
  rw [hs0] at hT3 hK3
  obtain ⟨hbl, hTM⟩ := hT3.tm
  have R3 : RB w b t (.slice am m.length cm) m w3 := ⟨k3, hTM, hK3, B3⟩
  have hc := hTM.canon
  have hSt := stand_of hc hR.out
  have hcm : t.cnt = m.length := by rw [show t.cnt = t.leaves.length from rfl, hR.out.perm.length_eq, leavesD_len]
  clear HD HT hT hK hKA hT3 hK3 hTM k0 k1 k3 B0 B1 B3 hw1 hw3 hs0
  generalize w.alloc (.cells #[.bool false] 4) = w0 at *
  have HLn := fun W (h : RB w b t (.slice am m.length cm) m W) => tmLen b t W h.t
  rw [hcm] at HLn
  have HRo := fun W (h : RB w b t (.slice am m.length cm) m W) => tmRoot b t W h.t
  have hka : ∀ {W : World}, RB w b t (.slice am m.length cm) m W → KA W am m := fun h => by
    obtain ⟨a', c', e, hh⟩ := h.k.sl
    cases e
    exact hh
  have HLv := fun W (h : RB w b t (.slice am m.length cm) m W) => leaves_any m am cm W (hka h) (by omega) (fun x hx => ⟨by have := (hms x hx).1; omega, by have := (hms x hx).2; omega⟩)
  have HPr := fun W aL cL (h : KA W aL (leavesD m)) => root7_of 256 (leavesD m) aL cL 0 W rfl hSt h (by rw [leavesD_len]; omega) (fun x hx => by rw [leavesD_val m x hx]; decide)
  have hroot : rootS TgD 256 (leavesD m) 0 = t.hash TgD := by
    rw [Tr.hash_root TgD hc (show 0 + 256 = 256 from rfl)]
    exact (rootS_perm TgD 256 0 hR.out.perm).symm
  rw [hroot] at HPr
  generalize leavesD m = lm at *
  obtain ⟨RT, hRT⟩ : ∃ RT, t.hash TgD = RT := ⟨_, rfl⟩
  rw [hRT] at HRo HPr
  replace hRT : Hid (t.hash TgD = RT) := hRT
  replace hcm : Hid (t.cnt = m.length) := hcm
  clear hroot
  have HN := fun w1 => tmNew w1
  have hwr0 : IntKind.i64.wrap ((m.length : Int) - 1) = (m.length : Int) - 1 := by rw [IntKind.wrap_i64]; omega
  go_upto_region 8 with (first
    | (go_at_call 10; refine (HW _ R3.below).mono ?_; rintro e w4 ⟨rfl, hw4⟩; have R4 := R3.below' hw4)
    | (go_at_call 11; refine (HLn _ R4).mono ?_; rintro e w5 ⟨rfl, hw5⟩; have hw5 := hw5.symm; subst hw5)
    | (go_at_call 12; refine (HRo _ R4).mono ?_; clear HRo; rintro e w6 ⟨rfl, hw6⟩; have R6 := R4.below' hw6)
    | (go_at_call 14; refine (HLv _ R6).mono ?_; rintro e w7 ⟨sl7, rfl, hK7, hw7⟩; obtain ⟨aL, cL, e7, hAL⟩ := hK7.sl; subst e7; have R7 := R6.below' hw7)
    | (go_at_call 13; refine (HPr _ _ _ hAL).mono ?_; rintro e w8 ⟨rfl, hw8⟩; have R8 := R7.below' hw8)
    | (go_at_call 15; refine (HN _).mono ?_; rintro e w9 ⟨rfl, ta9, hw9⟩; have R9 := R8.below' hw9))
  have hb2l : b < w8.heap.size := R8.t.lt
  have hb2w : w.heap.size ≤ w8.heap.size := R8.below.size
  obtain ⟨b2, hb2⟩ : ∃ b2, w8.heap.size = b2 := ⟨_, rfl⟩
  rw [hb2] at ta9 hb2l hb2w
  rw [hb2]
  have hne : b ≠ b2 := by omega
  clear hb2 R3 R4 R6 R7 R8 hw4 hw6 hw7 hw8 hw9 hAL hK7 HLn HLv HPr HN
  have hmk : Hid (∀ x ∈ m, x.1 ∈ K) := hR.out.keys
  go_loopw [7] (fun v7 wl => ∃ (k : Nat) (ta : Tr), k ≤ m.length ∧ v7 = .int .i64 ((m.length : Int) - 1 - (k : Int)) ∧ RB w b t (.slice am m.length cm) m wl ∧ TM b2 ta wl ∧ ta.leaves.length ≤ k ∧ Hid (Rel7 K ta (m.drop (m.length - k)).reverse)) (fun v7 _ => ((intOf v7) + 1).toNat)
  case atStart => exact ⟨0, .emp, Nat.zero_le _, by simp, R9, ta9, Nat.le_refl _, by rw [Nat.sub_zero, List.drop_length]; exact Rel7.nil K⟩
  case round =>
    clear R9 ta9
    obtain ⟨k, ta, hkm, rfl, Rr, Ta, hta, hRa⟩ := hrel
    by_cases hlt : k < m.length
    · obtain ⟨i, hi⟩ : ∃ i, m.length - 1 - k = i := ⟨_, rfl⟩
      have hii : (m.length : Int) - 1 - (k : Int) = (i : Int) := by omega
      have him : i < m.length := by omega
      rw [hii]
      have hstep := rel_step htw.out Ta.canon hmk.out hR.out.apart him (by rw [show i + 1 = m.length - k by omega]; exact hRa.out)
      have hfind := rel_find hc hR.out (List.getElem_mem him)
      have hpl := put_len Ta.canon (m[i]).1 (m[i]).2
      have hmi := hms m[i] (List.getElem_mem him)
      have hx : m[i]? = some ((m[i]).1, (m[i]).2) := List.getElem?_eq_getElem him
      generalize (m[i]).1 = kk at *
      generalize (m[i]).2 = vv at *
      obtain ⟨g, o, rfl⟩ := (hka Rr).ex (by omega)
      have two : ∀ {V : World}, RB w b t (.slice (some ⟨g, o, none⟩) m.length cm) m V → V.cell? ⟨g, o + i * 2, none⟩ = some (.string ⟨kk.toArray⟩) ∧ V.cell? ⟨g, o + i * 2 + 1, none⟩ = some (.string ⟨vv.toArray⟩) := fun h => (hka h).two hx
      replace hstep : Hid (Rel7 K (Tr.put 256 0 ta (ofD TgD kk vv)) (m.drop i).reverse) := hstep
      have hz1 : (0 : Int) ≤ (i : Int) := by omega
      have hz2 : (i : Int) < (m.length : Int) := by omega
      have hwr : IntKind.i64.wrap ((i : Int) - 1) = (i : Int) - 1 := by rw [IntKind.wrap_i64]; omega
      have Rd := Rr.below' (Below.refl wr.heap.size wr).drew
      have Tad := Ta.below (Below.refl wr.heap.size wr).drew
      have HPu := tmPut b2 ta kk vv wr.drew (hG.belowSize Rd.below) Tad (by omega) (by omega) (by omega)
      have HGt := fun W (h : RB w b t (.slice (some ⟨g, o, none⟩) m.length cm) m W) => tmGet b t kk W (hG.belowSize h.below) h.t (by omega) (by omega)
      rw [hfind] at HGt
      replace HGt : ∀ W, RB w b t (.slice (some ⟨g, o, none⟩) m.length cm) m W → Calls Tryd.prog 17 #[.pointer (some ⟨b, 0, none⟩), .string ⟨kk.toArray⟩] W fun e w' => e = .returned (.tuple #[.string ⟨(TgD 86 [vv]).toArray⟩, .bool true]) ∧ Below W.heap.size W w' := HGt
      have HVl := fun W (h : RB w b t (.slice (some ⟨g, o, none⟩) m.length cm) m W) => sval_any vv W (hG.belowSize h.below) (by omega)
      generalize TgD 86 [vv] = vd at *
      generalize ofD TgD kk vv = xx at *
      have dd := two Rd
      clear hx hfind hii hmi
      go_upto_region 10 with fail
      go_region_held3 (fun V => V.cell? ⟨g, o + i * 2, none⟩ = some (.string ⟨kk.toArray⟩) ∧ V.cell? ⟨g, o + i * 2 + 1, none⟩ = some (.string ⟨vv.toArray⟩)) (first | assumption | (go_keep; done)) ((go_at_call 16; refine HPu.mono ?_; clear HPu; rintro e w10 ⟨rfl, k10⟩; have R10 := Rd.put k10 hne hb2w; have dd10 := two R10; have Ta10 := k10.tm))
      obtain ⟨q0, q1⟩ := dd10
      have two2 : ∀ {V : World}, RB w b t (.slice (some ⟨g, o, none⟩) m.length cm) m V → V.cell? ⟨g, o + i * 2 + 1, none⟩ = some (.string ⟨vv.toArray⟩) := fun h => (two h).2
      clear dd two Rd Tad k10
      go_wp2_with (first
        | (go_at_call 17; refine (HGt _ R10).mono ?_; rintro e w11 ⟨rfl, hw11⟩; have R11 := R10.below' hw11; have q11 := two2 R11; have Ta11 := Ta10.below hw11)
        | (go_at_call 18; refine (HVl _ R11).mono ?_; rintro e w12 ⟨rfl, hw12⟩; have R12 := R11.below' hw12; have Ta12 := Ta11.below hw12))
      go_roundw
      case rel => exact ⟨k + 1, Tr.put 256 0 ta xx, by omega, by rw [show (m.length : Int) - 1 - ((k + 1 : Nat) : Int) = (i : Int) - 1 by omega], R12, Ta12, by omega, by rw [show m.length - (k + 1) = i by omega]; exact hstep.out⟩
      case measure => simp [intOf]
    · obtain rfl : k = m.length := by omega
      have hneg : ¬ (0 : Int) ≤ (m.length : Int) - 1 - (m.length : Int) := by omega
      rw [Nat.sub_self, List.drop_zero] at hRa
      have hroots := rel_root hc Ta.canon hR.out hRa.out
      rw [hRT.out] at hroots
      obtain ⟨q, hbq, hfq⟩ := Rr.t.out
      have HAl := fun W (h : Below wr.heap.size wr W) => tall_any b q W (hbq.belowSize h)
      have hord := Tr.sorted hc (fun _ _ _ _ j hj => absurd hj (Nat.not_lt_zero _))
      have hlen : t.leaves.length = m.length := hcm.out
      replace hlen : Hid (t.leaves.length = m.length) := hlen
      replace hord : Hid (t.leaves.Pairwise fun x y => x.1 < y.1) := hord
      replace hroots : Hid (ta.hash TgD = RT) := hroots
      replace hRa : Hid (Rel7 K ta m.reverse) := hRa
      go_upto_region 15 with fail
      have hA1 : Below wr.heap.size wr ((wr.alloc (.cells #[.string ⟨#[]⟩] 9)).alloc (.cells #[.int .i64 0] 3)) := ((Below.refl _ wr).alloc (Nat.le_refl _) _).alloc (by simp) _
      have hBl : Blk ((wr.alloc (.cells #[.string ⟨#[]⟩] 9)).alloc (.cells #[.int .i64 0] 3)) wr.heap.size #[.string ⟨#[]⟩] 9 := (Blk.new wr _ _).alloc _
      have hBn : Blk ((wr.alloc (.cells #[.string ⟨#[]⟩] 9)).alloc (.cells #[.int .i64 0] 3)) (wr.heap.size + 1) #[.int .i64 0] 3 := by
        have := Blk.new (wr.alloc (.cells #[.string ⟨#[]⟩] 9)) #[.int .i64 0] 3
        rw [World.size_alloc] at this
        exact this
      generalize (wr.alloc (.cells #[.string ⟨#[]⟩] 9)).alloc (.cells #[.int .i64 0] 3) = wA at *
      have hwB : w.heap.size ≤ wr.heap.size := Rr.below.size
      have hAl := HAl wA hA1
      go_wp2_with (go_at_call 19; refine hAl.mono ?_; rintro e w5 ⟨rfl, hb5, hw5⟩)
      obtain ⟨Bl, hBl'⟩ : ∃ Bl, wr.heap.size = Bl := ⟨_, rfl⟩
      rw [hBl'] at hBl hBn hwB
      rw [hBl']
      have M5 : RM w b t (.slice am m.length cm) m b2 ta w5.heap.size Bl (Bl + 1) [] 0 w5 := ⟨(Rr.below' hA1).below' hw5, (Ta.below hA1).below hw5, hBl.belowSize hw5, hBn.belowSize hw5, Nat.le_refl _⟩
      obtain ⟨lo, hlo⟩ : ∃ lo, w5.heap.size = lo := ⟨_, rfl⟩
      rw [hlo] at M5
      have hll : w.heap.size ≤ lo := by rw [← hlo]; exact M5.rb.below.size
      have hfq5 := (hfq.below hA1).below hw5
      have hcn : t.cnt ≤ 100000 := by rw [hcm.out]; omega
      clear HAl hAl hBl hBn hBl' hw5 hA1 Rr Ta hfq hbq HW
      refine (wpIn_wide (n := 6)).1 ?_
      refine range_boxed (s := 12) 46 (fun x : LF => .agg #[.string ⟨x.1.toArray⟩, .string ⟨x.2.toArray⟩]) (fun x => #[.string ⟨x.1.toArray⟩, .string ⟨x.2.toArray⟩]) (by omega) (gf := 47) rfl (enters_of Tryd.func47 (by kernel_rfl) rfl)
        (all_stops 5 _ q t hcn w5 hb5 hfq5) (fun h k => h.trans k) (kpH_b (w := w5))
        (fun pre W => RM w b t (.slice am m.length cm) m b2 ta lo Bl (Bl + 1) (lastP pre) pre.length W)
        (fun _ pre _ => ¬ pre <+: t.leaves)
        (fun s W W' row hs hg hr => hs.turn hll hg (by rw [hlo] at hr; exact hr))
        (fun _ _ _ _ _ hs _ _ => hs)
        M5 ?assign2 ?body2 ?done2 ?stop2
      case assign2 =>
        rintro l pre x W K hI hK
        have hK' := fun W' h2 h3 h4 h5 => hK W.heap.size W' (by rw [hlo]; exact hI.size) h2 h3 h4 h5
        clear hK
        simp only [List.setIfInBounds_toArray, List.set_cons_zero, List.set_cons_succ] at hK' ⊢
        refine region_in (by kernel_rfl) (by rintro ⟨_, _, h⟩; exact h) ?_
        go_wp2_with (with_reducible refine at_list ?_; first
          | (refine wpList_allocRow (op := ⟨some 12, _, _, _, _, _⟩) rfl _ rfl _ zLa.1 ?_; intro w6 hw6 hs6 hz6; replace hs6 := hs6.symm; have M6 := hI.below' hw6)
          | (refine wpList_storeRow (op := ⟨none, .store 46 (.tmp 12) (.tmp 87), _, _, _, _⟩) rfl _ _ _ rfl W.heap.size #[.string ⟨x.1.toArray⟩, .string ⟨x.2.toArray⟩] rfl rfl _ _ hz6 (by simp) (by simpa using zLa.2) (by simp [Value.oneCell']) ?_; intro w7 hg7 hs7 hz7))
        have M7 := M6.own hg7 hz6 hI.rb.below.size
        exact hK' w7 (((NC.below hw6).trans (NC.blk hg7 hz6)).from _) ((HK.below hw6).trans (HK.blk hg7 hz6 (by decide))) M7 hz7
      case body2 =>
        rintro l pre x Bx W hBx bX hM hlt2
        simp only [List.setIfInBounds_toArray, List.set_cons_zero, List.set_cons_succ]
        have cn := blk1c hM.bn
        have cl := blk1c hM.bl
        have cr := blk1c hM.rb.r
        have fl := hM.bl.frozen 0
        have fr := hM.rb.r.frozen 0
        obtain ⟨cx, _⟩ := blk2c bX
        have hpl : pre.length < 1000 := by have := hlen.out; omega
        have hgoon : ∀ {W2 : World}, W2 = (W.setCell ⟨Bl, 0, none⟩ (.string ⟨x.1.toArray⟩)) → RM w b t (.slice am m.length cm) m b2 ta lo Bl (Bl + 1) x.1 pre.length W2 ∧ NC W W2 ∧ HK W W2 := fun e => by
          subst e
          exact ⟨hM.moveL x.1 hwB, NC.blk (grown_setCell Bl (.string ⟨x.1.toArray⟩) 0 W) hM.bl, HK.blk (grown_setCell Bl (.string ⟨x.1.toArray⟩) 0 W) hM.bl (by decide)⟩
        have hwr2 : IntKind.i64.wrap ((pre.length : Int) + 1) = (pre.length : Int) + 1 := by rw [IntKind.wrap_i64]; omega
        by_cases hbad : 0 < pre.length ∧ ¬ lastP pre < x.1
        · have hix : ¬ (pre ++ [x]) <+: t.leaves := fun hp => hbad.2 (lastP_lt hord.out hp hbad.1)
          have hlb : (Op.bytesLess x.1 (lastP pre) || x.1 == lastP pre) = true := by
            by_cases e : x.1 = lastP pre
            · rw [e]; simp
            · rw [bytesLess_eq7, decide_eq_true]
              · rfl
              · exact Classical.byContradiction fun h => e (List.le_antisymm (List.not_lt.1 hbad.2) (List.not_lt.1 h))
          have hgt : (0 : Int) < (pre.length : Int) := by have := hbad.1; omega
          clear hbad
          generalize lastP pre = lp at *
          generalize x.1 = x1 at *
          gi_wp2
          exact ⟨(NC.blk (grown_setCell w.heap.size (.bool false) 0 W) hM.rb.r).from _, hix⟩
        · have hno : 0 < pre.length → (Op.bytesLess x.1 (lastP pre) || x.1 == lastP pre) = false := fun h0 => by
            have hlt3 : lastP pre < x.1 := Classical.byContradiction fun h => hbad ⟨h0, h⟩
            rw [bytesLess_eq7, decide_eq_false (fun h => List.lt_irrefl _ (List.lt_trans h hlt3)), Bool.false_or, beq_eq_false_iff_ne]
            exact fun e => List.lt_irrefl (lastP pre) (by rw [e] at hlt3; exact hlt3)
          have hlast : Hid (lastP (pre ++ [x]) = x.1) := lastP_snoc pre x
          clear hbad
          generalize lastP pre = lp at *
          generalize x.1 = x1 at *
          by_cases h0 : 0 < pre.length
          · have hgt : (0 : Int) < (pre.length : Int) := by omega
            have hlb := hno h0
            clear hno
            gi_upto_region 20 with fail
            obtain ⟨M1, N1, K1⟩ := hgoon rfl
            clear hgoon
            generalize W.setCell ⟨Bl, 0, none⟩ (.string ⟨x1.toArray⟩) = W2 at *
            have cn2 := blk1c M1.bn
            have fn2 := M1.bn.frozen 0
            gi_wp2
            have M2 := M1.moveN (Nat.le_trans hwB (Nat.le_succ _))
            have hgN := grown_setCell (Bl + 1) (.int .i64 ((pre.length : Int) + 1)) 0 W2
            refine ⟨(N1.trans (NC.blk hgN M1.bn)).from _, K1.trans (HK.blk hgN M1.bn (by decide)), ?_⟩
            show RM w b t (.slice am m.length cm) m b2 ta lo Bl (Bl + 1) (lastP (pre ++ [x])) (pre ++ [x]).length _
            rw [List.length_append, List.length_singleton, hlast.out]
            exact M2
          · have hgt : ¬ (0 : Int) < (pre.length : Int) := by omega
            clear hno
            gi_upto_region 20 with fail
            obtain ⟨M1, N1, K1⟩ := hgoon rfl
            clear hgoon
            generalize W.setCell ⟨Bl, 0, none⟩ (.string ⟨x1.toArray⟩) = W2 at *
            have cn2 := blk1c M1.bn
            have fn2 := M1.bn.frozen 0
            gi_wp2
            have M2 := M1.moveN (Nat.le_trans hwB (Nat.le_succ _))
            have hgN := grown_setCell (Bl + 1) (.int .i64 ((pre.length : Int) + 1)) 0 W2
            refine ⟨(N1.trans (NC.blk hgN M1.bn)).from _, K1.trans (HK.blk hgN M1.bn (by decide)), ?_⟩
            show RM w b t (.slice am m.length cm) m b2 ta lo Bl (Bl + 1) (lastP (pre ++ [x])) (pre ++ [x]).length _
            rw [List.length_append, List.length_singleton, hlast.out]
            exact M2
      case done2 =>
        rintro D ys W hD rfl hM hKd
        rw [hlen.out] at hM
        have HR1 := fun W1 (h : TM b2 ta W1) => tmRoot b2 ta W1 h
        have HR2 := fun W1 (h : TM b t W1) => tmRoot b t W1 h
        rw [hroots.out] at HR1
        rw [hRT.out] at HR2
        generalize lastP t.leaves = lp at *
        go_wp2_with (first
          | (go_at_call 12; refine (HR1 _ hM.ta).mono ?_; clear HR1; rintro e w6 ⟨rfl, hw6⟩; have M6 := hM.below' hw6)
          | (go_at_call 12; refine (HR2 _ M6.rb.t).mono ?_; rintro e w7 ⟨rfl, hw7⟩; have M7 := M6.below' hw7; have c7 := blk1c M7.bn; have r7 := blk1c M7.rb.r; have f7 := M7.rb.r.frozen 0))
        have hgR := grown_setCell w.heap.size (.bool true) 0 w7
        have hk8 := (NC.blk hgR M7.rb.r).all D _ ((NC.below hw7).all D _ ((NC.below hw6).all D _ hKd rfl) rfl) rfl
        have hr8 := M7.rb.r.setCell 0 (.bool true)
        have hB8 := M7.rb.below.grown hgR M7.rb.below.size (fun k e => by cases e; exact Nat.le_refl _)
        generalize w7.setCell ⟨w.heap.size, 0, none⟩ (.bool true) = w8' at *
        refine ⟨by simp, .inl ⟨_, _, rfl, run_takeDeferred hk8, ?_⟩⟩
        have hr9 := hr8.turn (grownBy_putObj' w8' D (.deferred none)) (fun r e => by cases e; exact ⟨_, hk8, rfl⟩)
        exact ⟨_, res_c rfl _ _ w.heap.size (.bool true) _ rfl (blk1c hr9) Tryd.underlying4 rfl, rfl, hB8.trans (belowK_b (w := w) (Nat.le_refl _) w8' D _ _ (by omega) hk8 rfl rfl)⟩
      case stop2 =>
        rintro D c pre W _ hp h _
        exact absurd hp h
theorem smtRoots_any (l : List A7) (a : Option Addr) (cap : Nat) (w : World) (hG : Glob w) (hA : AA w a l) (hk : ∀ x ∈ l, x.key.length ≤ 9223372036854775807 ∧ x.val.length ≤ 9223372036854775807) :
    Calls Tryd.prog 3 #[.slice a l.length cap] w fun e w' => e = .returned (.bool true) ∧ Below w.heap.size w w' := by
  by_cases htw : TwinsP (keysD l [])
  · exact smtRoots_twins l a cap w hG hA hk htw
  · exact smtRoots_main l a cap w hG hA hk htw
end
end Go.Proofs.YtmeolaeoaoldoaaDoor.Sh
