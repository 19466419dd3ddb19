/- What ConfMeets does, out of what Most does. -/
import Derived.Test.YtcaoibdimeajfaaCmb
namespace Go.Proofs.Ytcaoibdimeajfaa
open Go Go.RowKit Go.Maps
/-- What the map says of a number, behind i rounds. -/
def fB (p i : Nat) (x : Int) : Bool := decide (0 ≤ x ∧ x < (i : Int)) && p.testBit x.toNat
theorem fB_zero (p : Nat) (x : Int) : fB p 0 x = false := by
  unfold fB
  rw [decide_eq_false (by omega)]
  rfl
theorem fB_step (p i : Nat) (x : Int) : (if x = (i : Int) then p.testBit i else fB p i x) = fB p (i + 1) x := by
  unfold fB
  by_cases h : x = (i : Int)
  · subst h
    rw [if_pos rfl, decide_eq_true (by omega), Bool.true_and, Int.toNat_natCast]
  · rw [if_neg h]
    congr 1
    by_cases h2 : 0 ≤ x ∧ x < (i : Int)
    · rw [decide_eq_true h2, decide_eq_true (by omega)]
    · rw [decide_eq_false h2, decide_eq_false (by omega)]
theorem fil_bits {a p : Nat} (h : ∀ i, p.testBit i = true → a.testBit i = true) : ((lsI a).filter (fB p 16)).length = cnt p := by
  rw [show lsI a = (lsB a).map fun (j : Nat) => (j : Int) from rfl, List.filter_map, List.length_map]
  unfold cnt lsB
  rw [List.filter_filter]
  congr 1
  refine List.filter_congr fun i hi => ?_
  have hi16 := List.mem_range.1 hi
  show (fB p 16 (i : Int) && a.testBit i) = p.testBit i
  unfold fB
  rw [decide_eq_true (by omega), Bool.true_and, Int.toNat_natCast]
  cases hp : p.testBit i with
  | true => rw [h i hp]; rfl
  | false => rfl
theorem sub_bits (X a : Nat) (i : Nat) (h : (X &&& a).testBit i = true) : a.testBit i = true := by
  rw [Nat.testBit_and, Bool.and_eq_true] at h
  exact h.2
theorem two_maps (wd : World) : OB ((wd.alloc (.map #[] 0)).alloc (.map #[] 0)) wd.heap.size 0 (fun _ => false) ∧ OB ((wd.alloc (.map #[] 0)).alloc (.map #[] 0)) (wd.heap.size + 1) 0 (fun _ => false) ∧ Below wd.heap.size wd ((wd.alloc (.map #[] 0)).alloc (.map #[] 0)) := by
  have b1 : Below wd.heap.size wd (wd.alloc (.map #[] 0)) := (Below.refl _ _).alloc (Nat.le_refl _) _
  have m1 := OB.made wd
  have e1 : (wd.alloc (.map #[] 0)).heap.size = wd.heap.size + 1 := by simp
  generalize wd.alloc (.map #[] 0) = w1 at *
  have b2 : Below w1.heap.size w1 (w1.alloc (.map #[] 0)) := (Below.refl _ _).alloc (Nat.le_refl _) _
  have m2 := OB.made w1
  rw [e1] at m2
  exact ⟨m1.below b2, m2, b1.trans (b2.mono b1.size)⟩
set_option maxRecDepth 100000 in
set_option maxHeartbeats 2000000 in
theorem cmeets_any (HN : NextC) (HT : MostC) (n who h0 h1 : Int) (w : World) :
    Calls Try.prog 5 #[.int .i64 n, .int .i64 who, .agg #[.int .i64 h0, .int .i64 h1]] w fun e w' => e = .returned (.bool true) ∧ Below w.heap.size w w' := by
  obtain ⟨a, ea, ha⟩ := and_low n
  obtain ⟨k, ek, hk⟩ := and_15 who
  have hp2 := pow_lt16 hk
  have hb : a ^^^ 2 ^ k < 65536 := Nat.xor_lt_two_pow (n := 16) ha hp2
  obtain ⟨X, ep, hpl⟩ := and_small h0 a ha
  obtain ⟨Y, eq, hql⟩ := and_small h1 (a ^^^ 2 ^ k) hb
  have hsp : ∀ i, (X &&& a).testBit i = true → a.testBit i = true := sub_bits X a
  have hsq : ∀ i, (Y &&& (a ^^^ 2 ^ k)).testBit i = true → (a ^^^ 2 ^ k).testBit i = true := sub_bits Y _
  have hmeet := fun h1 h2 => meets hk hsp hsq h1 h2
  have HA := fun w => awakeC_any HN w
  have HLa := fun w => list_any a ha w
  have HLb := fun w => list_any _ hb w
  have HBa := fun w => bits_any a ha w
  have HBb := fun w => bits_any _ hb w
  have HBp := fun w => bits_any _ hpl w
  have HBq := fun w => bits_any _ hql w
  have es := shl_1 k hk
  have es2 : IntKind.i64.wrap ((2 : Int) ^ k) = ((2 ^ k : Nat) : Int) := by rw [Int.one_mul] at es; exact es
  have ex := xor_i a (2 ^ k) ha hp2
  have epq := and_i _ _ hpl hql
  have rng : ∀ a : Nat, ∀ x ∈ lsI a, 0 ≤ x ∧ x ≤ 15 := fun a x hx => by
    obtain ⟨i, h1, _, rfl⟩ := mem_lsI.1 hx
    omega
  have HMa := fun x c b n w h1 h2 => HT (lsI a) x c b n (fB (X &&& a) 16) w h1 (by have := lsI_16 a; omega) (rng a) h2
  have HMb := fun x c b n w h1 h2 => HT (lsI (a ^^^ 2 ^ k)) x c b n (fB (Y &&& (a ^^^ 2 ^ k)) 16) w h1 (by have := lsI_16 (a ^^^ 2 ^ k); omega) (rng _) h2
  rw [fil_bits hsp] at HMa
  rw [fil_bits hsq] at HMb
  have bp := fun i => bit_eq (X &&& a) i hpl
  have bq := fun i => bit_eq _ i hql
  have za : a = 0 → cnt a = 0 := fun h => by subst h; decide
  have cpa : cnt (X &&& a) ≤ cnt a := cnt_le fun i _ => hsp i
  have cqb : cnt (Y &&& (a ^^^ 2 ^ k)) ≤ cnt (a ^^^ 2 ^ k) := cnt_le fun i _ => hsq i
  have zb : a ^^^ 2 ^ k = 0 → cnt (a ^^^ 2 ^ k) = 0 := fun h => by rw [h]; decide
  have c16a := lsB_len a
  have c16b := lsB_len (a ^^^ 2 ^ k)
  change cnt a ≤ 16 at c16a
  change cnt (a ^^^ 2 ^ k) ≤ 16 at c16b
  clear hsp hsq HT HN rng
  generalize ((2 ^ k : Nat) : Int) = P2 at *
  generalize a ^^^ 2 ^ k = b at *
  generalize X &&& a = p at *
  generalize Y &&& b = q at *
  have hB := Below.refl w.heap.size w
  go_enter Try.func5, Try.ntmps5
  go_wp2_with (with_reducible refine at_list ?_; first
    | (refine wpList_boxRow (op := ⟨some 5, _, _, _, _, _⟩) rfl _ _ rfl _ rfl ?_; intro w1 hw1 hs1 hb1; replace hB := hw1; replace hs1 := hs1.symm))
  have c0 : w1.cell? ⟨w.heap.size, 0, none⟩ = some (.int .i64 h0) := by simp [World.cell?, hb1.out]
  have c1 : w1.cell? ⟨w.heap.size, 1, none⟩ = some (.int .i64 h1) := by simp [World.cell?, hb1.out]
  have hmm := @run_makeMap Try.prog
  go_quiet (fail)
  go_wp2_with fail
  obtain ⟨m1, m2, hW0⟩ := two_maps (w1.drewN nq)
  have hBd := below_draws hB nq
  replace hB := hBd.trans (hW0.mono hBd.size)
  have hle : w.heap.size ≤ w1.heap.size := hw1.size
  change OB _ w1.heap.size 0 _ at m1
  change OB _ (w1.heap.size + 1) 0 _ at m2
  clear hBd hW0 c0 c1 hmm
  generalize (World.alloc (World.alloc (w1.drewN nq) (.map #[] 0)) (.map #[] 0)) = w2 at *
  generalize w1.heap.size = g at *
  go_loopw [13] (fun v13 wl => ∃ i : Nat, i ≤ 16 ∧ v13 = .int .i64 i ∧ OB wl g i (fB p i) ∧ OB wl (g + 1) i (fB q i) ∧ Below w.heap.size w wl) (fun v13 _ => 16 - (intOf v13).toNat)
  case atStart => exact ⟨0, by omega, rfl, m1.ext fun x => (fB_zero p x).symm, m2.ext fun x => (fB_zero q x).symm, hB⟩
  case round =>
    obtain ⟨i, hil, rfl, hM1, hM2, hBl⟩ := hrel
    clear m1 m2 hB
    by_cases hlt : i < 16
    · have hd : decide ((i : Int) < 16) = true := decide_eq_true (by omega)
      have b1 := bp i
      have b2 := bq i
      have wf : (Lit.int .i64 (i : Int)).wf = true := WalkArith.wf_i64 (by omega)
      clear bp bq HA HLa HLb HBa HBb HBp HBq HMa HMb hmeet
      go_wp2_with (with_reducible refine at_list ?_; first
        | (refine wpList_putB (op := ⟨none, .mapUpdate 34 (.tmp 38) (.tmp 39) (.tmp 47), _, _, _, _⟩) rfl _ _ _ rfl g i _ rfl hM1 (by unfold maxLen; omega) (i : Int) wf (p.testBit i) rfl rfl ?_; intro w3 hM3 hg3)
        | (refine wpList_putB (op := ⟨none, .mapUpdate 34 (.tmp 40) (.tmp 41) (.tmp 53), _, _, _, _⟩) rfl _ _ _ rfl (g + 1) i _ rfl (hM2.kept hg3 (by simp)) (by unfold maxLen; omega) (i : Int) wf (q.testBit i) rfl rfl ?_; intro w4 hM4 hg4))
      have hB3 := hBl.trans (below_of_grown hg3 (by omega) hBl.size)
      have h3 := hB3.trans (below_of_grown hg4 (by omega) hB3.size)
      refine ⟨⟨i + 1, by omega, by go_num, (hM3.kept hg4 (by simp)).ext fun x => fB_step p i x, hM4.ext fun x => fB_step q i x, h3⟩, by simp only [intOf]; omega⟩
    · obtain rfl : i = 16 := by omega
      have hd : decide (((16 : Nat) : Int) < 16) = false := by decide
      have hB := hBl
      clear bp bq hBl
      obtain ⟨qm, hqm⟩ : ∃ q, decide ((lsI a).length < 2 * cnt p) = q := ⟨_, rfl⟩
      obtain ⟨qk, hqk⟩ : ∃ q', decide ((lsI b).length < 2 * cnt q) = q' := ⟨_, rfl⟩
      rw [hqm] at HMa
      rw [hqk] at HMb
      rw [lsI_len] at hqm hqk
      have km : decide (IntKind.i64.wrap (2 * (cnt p : Int)) > (cnt a : Int)) = qm := by
        rw [← hqm, IntKind.wrap_i64]
        by_cases h : cnt a < 2 * cnt p
        · rw [decide_eq_true h, decide_eq_true (by omega)]
        · rw [decide_eq_false h, decide_eq_false (by omega)]
      have kk : decide (IntKind.i64.wrap (2 * (cnt q : Int)) > (cnt b : Int)) = qk := by
        rw [← hqk, IntKind.wrap_i64]
        by_cases h : cnt b < 2 * cnt q
        · rw [decide_eq_true h, decide_eq_true (by omega)]
        · rw [decide_eq_false h, decide_eq_false (by omega)]
      have fa : ((a : Nat) : Int) = 0 → qm = false := fun h => by
        rw [← hqm]; exact decide_eq_false (by have := za (by omega); omega)
      have fb : ((b : Nat) : Int) = 0 → qk = false := fun h => by
        rw [← hqk]; exact decide_eq_false (by have := zb (by omega); omega)
      have fm : qm = true → qk = true → ¬ (((p &&& q : Nat) : Int) = 0) := fun h1 h2 e => by
        rw [← hqm, decide_eq_true_eq] at h1
        rw [← hqk, decide_eq_true_eq] at h2
        exact hmeet h1 h2 (by omega)
      clear hqm hqk hmeet za zb cpa cqb c16a c16b ha hb hpl hql hil hlt hp2 es es2 ex ek hk ep eq ea
      generalize ((cnt p : Nat) : Int) = CP at *
      generalize ((cnt q : Nat) : Int) = CQ at *
      generalize hD1 : IntKind.i64.wrap (2 * CP) = D1 at *
      generalize hD2 : IntKind.i64.wrap (2 * CQ) = D2 at *
      generalize ((p &&& q : Nat) : Int) = R at *
      generalize ((a : Nat) : Int) = A at *
      generalize ((b : Nat) : Int) = B at *
      generalize ((cnt a : Nat) : Int) = CA at *
      generalize ((cnt b : Nat) : Int) = CB at *
      generalize lsI a = la at *
      generalize lsI b = lb at *
      by_cases na : A = 0
      · obtain rfl : qm = false := fa na
        subst na
        clear fa fm km HBp HBa
        by_cases nb : B = 0
        · obtain rfl : qk = false := fb nb
          subst nb
          clear fb kk HBq HBb
          have pm : True := trivial
          first | replace pm : CA < D1 := of_decide_eq_true km | replace pm : ¬ CA < D1 := of_decide_eq_false km | skip
          have pk : True := trivial
          first | replace pk : CB < D2 := of_decide_eq_true kk | replace pk : ¬ CB < D2 := of_decide_eq_false kk | skip
          go_wp2_with (first
            | (go_at_call 7; refine (HLa _).mono ?_; rintro e w3 ⟨sl3, rfl, hV3, g3⟩; clear HLa; replace hB := hB.trans (g3.mono hB.size); replace hM1 := hM1.below g3; replace hM2 := hM2.below g3; obtain ⟨a3, c3, rfl, hI3⟩ := hV3.ia; clear hV3)
            | (go_at_call 16; refine (HMa _ _ _ _ _ hI3 hM1).mono ?_; rintro e w4 ⟨rfl, g4⟩; clear HMa hI3; replace hB := hB.trans (g4.mono hB.size); replace hM2 := hM2.below g4)
            | (go_at_call 7; refine (HLb _).mono ?_; rintro e w5 ⟨sl5, rfl, hV5, g5⟩; clear HLb; replace hB := hB.trans (g5.mono hB.size); replace hM2 := hM2.below g5; obtain ⟨a5, c5, rfl, hI5⟩ := hV5.ia; clear hV5)
            | (go_at_call 16; refine (HMb _ _ _ _ _ hI5 hM2).mono ?_; rintro e w6 ⟨rfl, g6⟩; clear HMb hI5; replace hB := hB.trans (g6.mono hB.size))
            | (go_at_call 8; refine (HA _).mono ?_; rintro e w7 ⟨rfl, g7⟩; clear HA; replace hB := hB.trans (g7.mono hB.size))
            | (go_at_call 13; refine (HBp _).mono ?_; rintro e w8 ⟨rfl, g8⟩; clear HBp; replace hB := hB.trans (g8.mono hB.size))
            | (go_at_call 13; refine (HBa _).mono ?_; rintro e w9 ⟨rfl, g9⟩; clear HBa; replace hB := hB.trans (g9.mono hB.size))
            | (go_at_call 13; refine (HBq _).mono ?_; rintro e w10 ⟨rfl, g10⟩; clear HBq; replace hB := hB.trans (g10.mono hB.size))
            | (go_at_call 13; refine (HBb _).mono ?_; rintro e w11 ⟨rfl, g11⟩; clear HBb; replace hB := hB.trans (g11.mono hB.size)))
          go_ret
          exact ⟨rfl, hB⟩
        · have nb2 : (B != 0) = true := bne_iff_ne.2 nb
          clear fb
          cases qk
          · have pm : True := trivial
            first | replace pm : CA < D1 := of_decide_eq_true km | replace pm : ¬ CA < D1 := of_decide_eq_false km | skip
            have pk : True := trivial
            first | replace pk : CB < D2 := of_decide_eq_true kk | replace pk : ¬ CB < D2 := of_decide_eq_false kk | skip
            go_wp2_with (first
              | (go_at_call 7; refine (HLa _).mono ?_; rintro e w3 ⟨sl3, rfl, hV3, g3⟩; clear HLa; replace hB := hB.trans (g3.mono hB.size); replace hM1 := hM1.below g3; replace hM2 := hM2.below g3; obtain ⟨a3, c3, rfl, hI3⟩ := hV3.ia; clear hV3)
              | (go_at_call 16; refine (HMa _ _ _ _ _ hI3 hM1).mono ?_; rintro e w4 ⟨rfl, g4⟩; clear HMa hI3; replace hB := hB.trans (g4.mono hB.size); replace hM2 := hM2.below g4)
              | (go_at_call 7; refine (HLb _).mono ?_; rintro e w5 ⟨sl5, rfl, hV5, g5⟩; clear HLb; replace hB := hB.trans (g5.mono hB.size); replace hM2 := hM2.below g5; obtain ⟨a5, c5, rfl, hI5⟩ := hV5.ia; clear hV5)
              | (go_at_call 16; refine (HMb _ _ _ _ _ hI5 hM2).mono ?_; rintro e w6 ⟨rfl, g6⟩; clear HMb hI5; replace hB := hB.trans (g6.mono hB.size))
              | (go_at_call 8; refine (HA _).mono ?_; rintro e w7 ⟨rfl, g7⟩; clear HA; replace hB := hB.trans (g7.mono hB.size))
              | (go_at_call 13; refine (HBp _).mono ?_; rintro e w8 ⟨rfl, g8⟩; clear HBp; replace hB := hB.trans (g8.mono hB.size))
              | (go_at_call 13; refine (HBa _).mono ?_; rintro e w9 ⟨rfl, g9⟩; clear HBa; replace hB := hB.trans (g9.mono hB.size))
              | (go_at_call 13; refine (HBq _).mono ?_; rintro e w10 ⟨rfl, g10⟩; clear HBq; replace hB := hB.trans (g10.mono hB.size))
              | (go_at_call 13; refine (HBb _).mono ?_; rintro e w11 ⟨rfl, g11⟩; clear HBb; replace hB := hB.trans (g11.mono hB.size)))
            go_ret
            exact ⟨rfl, hB⟩
          · have pm : True := trivial
            first | replace pm : CA < D1 := of_decide_eq_true km | replace pm : ¬ CA < D1 := of_decide_eq_false km | skip
            have pk : True := trivial
            first | replace pk : CB < D2 := of_decide_eq_true kk | replace pk : ¬ CB < D2 := of_decide_eq_false kk | skip
            go_wp2_with (first
              | (go_at_call 7; refine (HLa _).mono ?_; rintro e w3 ⟨sl3, rfl, hV3, g3⟩; clear HLa; replace hB := hB.trans (g3.mono hB.size); replace hM1 := hM1.below g3; replace hM2 := hM2.below g3; obtain ⟨a3, c3, rfl, hI3⟩ := hV3.ia; clear hV3)
              | (go_at_call 16; refine (HMa _ _ _ _ _ hI3 hM1).mono ?_; rintro e w4 ⟨rfl, g4⟩; clear HMa hI3; replace hB := hB.trans (g4.mono hB.size); replace hM2 := hM2.below g4)
              | (go_at_call 7; refine (HLb _).mono ?_; rintro e w5 ⟨sl5, rfl, hV5, g5⟩; clear HLb; replace hB := hB.trans (g5.mono hB.size); replace hM2 := hM2.below g5; obtain ⟨a5, c5, rfl, hI5⟩ := hV5.ia; clear hV5)
              | (go_at_call 16; refine (HMb _ _ _ _ _ hI5 hM2).mono ?_; rintro e w6 ⟨rfl, g6⟩; clear HMb hI5; replace hB := hB.trans (g6.mono hB.size))
              | (go_at_call 8; refine (HA _).mono ?_; rintro e w7 ⟨rfl, g7⟩; clear HA; replace hB := hB.trans (g7.mono hB.size))
              | (go_at_call 13; refine (HBp _).mono ?_; rintro e w8 ⟨rfl, g8⟩; clear HBp; replace hB := hB.trans (g8.mono hB.size))
              | (go_at_call 13; refine (HBa _).mono ?_; rintro e w9 ⟨rfl, g9⟩; clear HBa; replace hB := hB.trans (g9.mono hB.size))
              | (go_at_call 13; refine (HBq _).mono ?_; rintro e w10 ⟨rfl, g10⟩; clear HBq; replace hB := hB.trans (g10.mono hB.size))
              | (go_at_call 13; refine (HBb _).mono ?_; rintro e w11 ⟨rfl, g11⟩; clear HBb; replace hB := hB.trans (g11.mono hB.size)))
            go_ret
            exact ⟨rfl, hB⟩
      · have na2 : (A != 0) = true := bne_iff_ne.2 na
        clear fa
        by_cases nb : B = 0
        · obtain rfl : qk = false := fb nb
          subst nb
          clear fb kk HBq HBb fm
          cases qm
          · have pm : True := trivial
            first | replace pm : CA < D1 := of_decide_eq_true km | replace pm : ¬ CA < D1 := of_decide_eq_false km | skip
            have pk : True := trivial
            first | replace pk : CB < D2 := of_decide_eq_true kk | replace pk : ¬ CB < D2 := of_decide_eq_false kk | skip
            go_wp2_with (first
              | (go_at_call 7; refine (HLa _).mono ?_; rintro e w3 ⟨sl3, rfl, hV3, g3⟩; clear HLa; replace hB := hB.trans (g3.mono hB.size); replace hM1 := hM1.below g3; replace hM2 := hM2.below g3; obtain ⟨a3, c3, rfl, hI3⟩ := hV3.ia; clear hV3)
              | (go_at_call 16; refine (HMa _ _ _ _ _ hI3 hM1).mono ?_; rintro e w4 ⟨rfl, g4⟩; clear HMa hI3; replace hB := hB.trans (g4.mono hB.size); replace hM2 := hM2.below g4)
              | (go_at_call 7; refine (HLb _).mono ?_; rintro e w5 ⟨sl5, rfl, hV5, g5⟩; clear HLb; replace hB := hB.trans (g5.mono hB.size); replace hM2 := hM2.below g5; obtain ⟨a5, c5, rfl, hI5⟩ := hV5.ia; clear hV5)
              | (go_at_call 16; refine (HMb _ _ _ _ _ hI5 hM2).mono ?_; rintro e w6 ⟨rfl, g6⟩; clear HMb hI5; replace hB := hB.trans (g6.mono hB.size))
              | (go_at_call 8; refine (HA _).mono ?_; rintro e w7 ⟨rfl, g7⟩; clear HA; replace hB := hB.trans (g7.mono hB.size))
              | (go_at_call 13; refine (HBp _).mono ?_; rintro e w8 ⟨rfl, g8⟩; clear HBp; replace hB := hB.trans (g8.mono hB.size))
              | (go_at_call 13; refine (HBa _).mono ?_; rintro e w9 ⟨rfl, g9⟩; clear HBa; replace hB := hB.trans (g9.mono hB.size))
              | (go_at_call 13; refine (HBq _).mono ?_; rintro e w10 ⟨rfl, g10⟩; clear HBq; replace hB := hB.trans (g10.mono hB.size))
              | (go_at_call 13; refine (HBb _).mono ?_; rintro e w11 ⟨rfl, g11⟩; clear HBb; replace hB := hB.trans (g11.mono hB.size)))
            go_ret
            exact ⟨rfl, hB⟩
          · have pm : True := trivial
            first | replace pm : CA < D1 := of_decide_eq_true km | replace pm : ¬ CA < D1 := of_decide_eq_false km | skip
            have pk : True := trivial
            first | replace pk : CB < D2 := of_decide_eq_true kk | replace pk : ¬ CB < D2 := of_decide_eq_false kk | skip
            go_wp2_with (first
              | (go_at_call 7; refine (HLa _).mono ?_; rintro e w3 ⟨sl3, rfl, hV3, g3⟩; clear HLa; replace hB := hB.trans (g3.mono hB.size); replace hM1 := hM1.below g3; replace hM2 := hM2.below g3; obtain ⟨a3, c3, rfl, hI3⟩ := hV3.ia; clear hV3)
              | (go_at_call 16; refine (HMa _ _ _ _ _ hI3 hM1).mono ?_; rintro e w4 ⟨rfl, g4⟩; clear HMa hI3; replace hB := hB.trans (g4.mono hB.size); replace hM2 := hM2.below g4)
              | (go_at_call 7; refine (HLb _).mono ?_; rintro e w5 ⟨sl5, rfl, hV5, g5⟩; clear HLb; replace hB := hB.trans (g5.mono hB.size); replace hM2 := hM2.below g5; obtain ⟨a5, c5, rfl, hI5⟩ := hV5.ia; clear hV5)
              | (go_at_call 16; refine (HMb _ _ _ _ _ hI5 hM2).mono ?_; rintro e w6 ⟨rfl, g6⟩; clear HMb hI5; replace hB := hB.trans (g6.mono hB.size))
              | (go_at_call 8; refine (HA _).mono ?_; rintro e w7 ⟨rfl, g7⟩; clear HA; replace hB := hB.trans (g7.mono hB.size))
              | (go_at_call 13; refine (HBp _).mono ?_; rintro e w8 ⟨rfl, g8⟩; clear HBp; replace hB := hB.trans (g8.mono hB.size))
              | (go_at_call 13; refine (HBa _).mono ?_; rintro e w9 ⟨rfl, g9⟩; clear HBa; replace hB := hB.trans (g9.mono hB.size))
              | (go_at_call 13; refine (HBq _).mono ?_; rintro e w10 ⟨rfl, g10⟩; clear HBq; replace hB := hB.trans (g10.mono hB.size))
              | (go_at_call 13; refine (HBb _).mono ?_; rintro e w11 ⟨rfl, g11⟩; clear HBb; replace hB := hB.trans (g11.mono hB.size)))
            go_ret
            exact ⟨rfl, hB⟩
        · have nb2 : (B != 0) = true := bne_iff_ne.2 nb
          clear fb
          cases qm
          · clear fm
            cases qk
            · have pm : True := trivial
              first | replace pm : CA < D1 := of_decide_eq_true km | replace pm : ¬ CA < D1 := of_decide_eq_false km | skip
              have pk : True := trivial
              first | replace pk : CB < D2 := of_decide_eq_true kk | replace pk : ¬ CB < D2 := of_decide_eq_false kk | skip
              go_wp2_with (first
                | (go_at_call 7; refine (HLa _).mono ?_; rintro e w3 ⟨sl3, rfl, hV3, g3⟩; clear HLa; replace hB := hB.trans (g3.mono hB.size); replace hM1 := hM1.below g3; replace hM2 := hM2.below g3; obtain ⟨a3, c3, rfl, hI3⟩ := hV3.ia; clear hV3)
                | (go_at_call 16; refine (HMa _ _ _ _ _ hI3 hM1).mono ?_; rintro e w4 ⟨rfl, g4⟩; clear HMa hI3; replace hB := hB.trans (g4.mono hB.size); replace hM2 := hM2.below g4)
                | (go_at_call 7; refine (HLb _).mono ?_; rintro e w5 ⟨sl5, rfl, hV5, g5⟩; clear HLb; replace hB := hB.trans (g5.mono hB.size); replace hM2 := hM2.below g5; obtain ⟨a5, c5, rfl, hI5⟩ := hV5.ia; clear hV5)
                | (go_at_call 16; refine (HMb _ _ _ _ _ hI5 hM2).mono ?_; rintro e w6 ⟨rfl, g6⟩; clear HMb hI5; replace hB := hB.trans (g6.mono hB.size))
                | (go_at_call 8; refine (HA _).mono ?_; rintro e w7 ⟨rfl, g7⟩; clear HA; replace hB := hB.trans (g7.mono hB.size))
                | (go_at_call 13; refine (HBp _).mono ?_; rintro e w8 ⟨rfl, g8⟩; clear HBp; replace hB := hB.trans (g8.mono hB.size))
                | (go_at_call 13; refine (HBa _).mono ?_; rintro e w9 ⟨rfl, g9⟩; clear HBa; replace hB := hB.trans (g9.mono hB.size))
                | (go_at_call 13; refine (HBq _).mono ?_; rintro e w10 ⟨rfl, g10⟩; clear HBq; replace hB := hB.trans (g10.mono hB.size))
                | (go_at_call 13; refine (HBb _).mono ?_; rintro e w11 ⟨rfl, g11⟩; clear HBb; replace hB := hB.trans (g11.mono hB.size)))
              go_ret
              exact ⟨rfl, hB⟩
            · have pm : True := trivial
              first | replace pm : CA < D1 := of_decide_eq_true km | replace pm : ¬ CA < D1 := of_decide_eq_false km | skip
              have pk : True := trivial
              first | replace pk : CB < D2 := of_decide_eq_true kk | replace pk : ¬ CB < D2 := of_decide_eq_false kk | skip
              go_wp2_with (first
                | (go_at_call 7; refine (HLa _).mono ?_; rintro e w3 ⟨sl3, rfl, hV3, g3⟩; clear HLa; replace hB := hB.trans (g3.mono hB.size); replace hM1 := hM1.below g3; replace hM2 := hM2.below g3; obtain ⟨a3, c3, rfl, hI3⟩ := hV3.ia; clear hV3)
                | (go_at_call 16; refine (HMa _ _ _ _ _ hI3 hM1).mono ?_; rintro e w4 ⟨rfl, g4⟩; clear HMa hI3; replace hB := hB.trans (g4.mono hB.size); replace hM2 := hM2.below g4)
                | (go_at_call 7; refine (HLb _).mono ?_; rintro e w5 ⟨sl5, rfl, hV5, g5⟩; clear HLb; replace hB := hB.trans (g5.mono hB.size); replace hM2 := hM2.below g5; obtain ⟨a5, c5, rfl, hI5⟩ := hV5.ia; clear hV5)
                | (go_at_call 16; refine (HMb _ _ _ _ _ hI5 hM2).mono ?_; rintro e w6 ⟨rfl, g6⟩; clear HMb hI5; replace hB := hB.trans (g6.mono hB.size))
                | (go_at_call 8; refine (HA _).mono ?_; rintro e w7 ⟨rfl, g7⟩; clear HA; replace hB := hB.trans (g7.mono hB.size))
                | (go_at_call 13; refine (HBp _).mono ?_; rintro e w8 ⟨rfl, g8⟩; clear HBp; replace hB := hB.trans (g8.mono hB.size))
                | (go_at_call 13; refine (HBa _).mono ?_; rintro e w9 ⟨rfl, g9⟩; clear HBa; replace hB := hB.trans (g9.mono hB.size))
                | (go_at_call 13; refine (HBq _).mono ?_; rintro e w10 ⟨rfl, g10⟩; clear HBq; replace hB := hB.trans (g10.mono hB.size))
                | (go_at_call 13; refine (HBb _).mono ?_; rintro e w11 ⟨rfl, g11⟩; clear HBb; replace hB := hB.trans (g11.mono hB.size)))
              go_ret
              exact ⟨rfl, hB⟩
          · cases qk
            · clear fm
              have pm : True := trivial
              first | replace pm : CA < D1 := of_decide_eq_true km | replace pm : ¬ CA < D1 := of_decide_eq_false km | skip
              have pk : True := trivial
              first | replace pk : CB < D2 := of_decide_eq_true kk | replace pk : ¬ CB < D2 := of_decide_eq_false kk | skip
              go_wp2_with (first
                | (go_at_call 7; refine (HLa _).mono ?_; rintro e w3 ⟨sl3, rfl, hV3, g3⟩; clear HLa; replace hB := hB.trans (g3.mono hB.size); replace hM1 := hM1.below g3; replace hM2 := hM2.below g3; obtain ⟨a3, c3, rfl, hI3⟩ := hV3.ia; clear hV3)
                | (go_at_call 16; refine (HMa _ _ _ _ _ hI3 hM1).mono ?_; rintro e w4 ⟨rfl, g4⟩; clear HMa hI3; replace hB := hB.trans (g4.mono hB.size); replace hM2 := hM2.below g4)
                | (go_at_call 7; refine (HLb _).mono ?_; rintro e w5 ⟨sl5, rfl, hV5, g5⟩; clear HLb; replace hB := hB.trans (g5.mono hB.size); replace hM2 := hM2.below g5; obtain ⟨a5, c5, rfl, hI5⟩ := hV5.ia; clear hV5)
                | (go_at_call 16; refine (HMb _ _ _ _ _ hI5 hM2).mono ?_; rintro e w6 ⟨rfl, g6⟩; clear HMb hI5; replace hB := hB.trans (g6.mono hB.size))
                | (go_at_call 8; refine (HA _).mono ?_; rintro e w7 ⟨rfl, g7⟩; clear HA; replace hB := hB.trans (g7.mono hB.size))
                | (go_at_call 13; refine (HBp _).mono ?_; rintro e w8 ⟨rfl, g8⟩; clear HBp; replace hB := hB.trans (g8.mono hB.size))
                | (go_at_call 13; refine (HBa _).mono ?_; rintro e w9 ⟨rfl, g9⟩; clear HBa; replace hB := hB.trans (g9.mono hB.size))
                | (go_at_call 13; refine (HBq _).mono ?_; rintro e w10 ⟨rfl, g10⟩; clear HBq; replace hB := hB.trans (g10.mono hB.size))
                | (go_at_call 13; refine (HBb _).mono ?_; rintro e w11 ⟨rfl, g11⟩; clear HBb; replace hB := hB.trans (g11.mono hB.size)))
              go_ret
              exact ⟨rfl, hB⟩
            · have nR : ¬ R = 0 := fm rfl rfl
              have nR2 : (R != 0) = true := bne_iff_ne.2 nR
              clear fm
              have pm : True := trivial
              first | replace pm : CA < D1 := of_decide_eq_true km | replace pm : ¬ CA < D1 := of_decide_eq_false km | skip
              have pk : True := trivial
              first | replace pk : CB < D2 := of_decide_eq_true kk | replace pk : ¬ CB < D2 := of_decide_eq_false kk | skip
              go_wp2_with (first
                | (go_at_call 7; refine (HLa _).mono ?_; rintro e w3 ⟨sl3, rfl, hV3, g3⟩; clear HLa; replace hB := hB.trans (g3.mono hB.size); replace hM1 := hM1.below g3; replace hM2 := hM2.below g3; obtain ⟨a3, c3, rfl, hI3⟩ := hV3.ia; clear hV3)
                | (go_at_call 16; refine (HMa _ _ _ _ _ hI3 hM1).mono ?_; rintro e w4 ⟨rfl, g4⟩; clear HMa hI3; replace hB := hB.trans (g4.mono hB.size); replace hM2 := hM2.below g4)
                | (go_at_call 7; refine (HLb _).mono ?_; rintro e w5 ⟨sl5, rfl, hV5, g5⟩; clear HLb; replace hB := hB.trans (g5.mono hB.size); replace hM2 := hM2.below g5; obtain ⟨a5, c5, rfl, hI5⟩ := hV5.ia; clear hV5)
                | (go_at_call 16; refine (HMb _ _ _ _ _ hI5 hM2).mono ?_; rintro e w6 ⟨rfl, g6⟩; clear HMb hI5; replace hB := hB.trans (g6.mono hB.size))
                | (go_at_call 8; refine (HA _).mono ?_; rintro e w7 ⟨rfl, g7⟩; clear HA; replace hB := hB.trans (g7.mono hB.size))
                | (go_at_call 13; refine (HBp _).mono ?_; rintro e w8 ⟨rfl, g8⟩; clear HBp; replace hB := hB.trans (g8.mono hB.size))
                | (go_at_call 13; refine (HBa _).mono ?_; rintro e w9 ⟨rfl, g9⟩; clear HBa; replace hB := hB.trans (g9.mono hB.size))
                | (go_at_call 13; refine (HBq _).mono ?_; rintro e w10 ⟨rfl, g10⟩; clear HBq; replace hB := hB.trans (g10.mono hB.size))
                | (go_at_call 13; refine (HBb _).mono ?_; rintro e w11 ⟨rfl, g11⟩; clear HBb; replace hB := hB.trans (g11.mono hB.size)))
              go_ret
              exact ⟨rfl, hB⟩
end Go.Proofs.Ytcaoibdimeajfaa
