/- What ConfNext does. -/
import Derived.Test.YtcaoibdimeajfaaCnx
import Derived.Deep.CutRange
namespace Go.Proofs.Ytcaoibdimeajfaa
open Go Go.RowKit
theorem IA.take {w : World} {a : Option Addr} {l : List Int} (h : IA w a l) (n : Nat) : IA w a (l.take n) := fun i x hx => by
  refine h i x ?_
  have hi := (List.getElem?_eq_some_iff.1 hx).1
  rw [List.length_take] at hi
  rwa [List.getElem?_take_of_lt (by omega)] at hx
set_option maxRecDepth 100000 in
set_option maxHeartbeats 8000000 in
theorem cnext_any (HN : NextC) (n m : Int) (raw : List Int) (r : Option Addr) (cap : Nat) (hcap : raw.length ≤ cap) (w : World) (hR : IA w r raw) :
    Calls Try.prog 4 #[.int .i64 n, .int .i64 m, .slice r raw.length cap] w fun e w' => e = .returned (.bool true) ∧ Below w.heap.size w w' := by
  obtain ⟨a, ea, ha⟩ := and_low n
  obtain ⟨b, eb, hb⟩ := and_low m
  have HA := fun w => awakeC_any HN w
  have HLa := fun w => list_any a ha w
  have HLb := fun w => list_any b hb w
  have hab : a ^^^ b < 65536 := Nat.xor_lt_two_pow (n := 16) ha hb
  have HB := fun w => bits_any (a ^^^ b) hab w
  have ex := xor_i a b ha hb
  obtain ⟨qa, hqa⟩ : ∃ q, decide (a ≠ 0) = q := ⟨_, rfl⟩
  obtain ⟨qb, hqb⟩ : ∃ q, decide (b ≠ 0) = q := ⟨_, rfl⟩
  obtain ⟨qc, hqc⟩ : ∃ q, decide (cnt (a ^^^ b) = 1) = q := ⟨_, rfl⟩
  have eq : nx (lsI a) (lsI b) = (qa && (qb && qc)) := by rw [nx_lsI a b ha hb, hqa, hqb, hqc]
  have ka : ((a : Int) == 0) = !qa := by
    rw [← hqa]
    by_cases h : a = 0
    · subst h; rfl
    · rw [decide_eq_true h, beq_eq_false_iff_ne.2 (by omega)]; rfl
  have kb : ((b : Int) == 0) = !qb := by
    rw [← hqb]
    by_cases h : b = 0
    · subst h; rfl
    · rw [decide_eq_true h, beq_eq_false_iff_ne.2 (by omega)]; rfl
  have kc : (((cnt (a ^^^ b) : Nat) : Int) == 1) = qc := by
    rw [← hqc]
    by_cases h : cnt (a ^^^ b) = 1
    · rw [decide_eq_true h, beq_iff_eq]; omega
    · rw [decide_eq_false h, beq_eq_false_iff_ne]; omega
  clear hqa hqb hqc
  have l16a := lsI_16 a
  have l16b := lsI_16 b
  have HNab := fun x y ca cb w (h1 : IA w x (lsI a)) (h2 : IA w y (lsI b)) => HN (lsI a) (lsI b) x y ca cb w h1 h2 (by omega) (by omega)
  rw [eq] at HNab
  clear eq
  generalize lsI a = la at *
  generalize lsI b = lb at *
  generalize cnt (a ^^^ b) = cc at *
  generalize a ^^^ b = x at *
  clear ha hb hab
  generalize (a : Int) = A at *
  generalize (b : Int) = B at *
  generalize (x : Int) = X at *
  generalize (cc : Int) = C at *
  have HLa2 := HLa
  have HLa3 := HLa
  have hB := Below.refl w.heap.size w
  by_cases h20 : 20 < raw.length
  · have hR0 := hR.take 20
    have hlen : (raw.take 20).length = 20 := by rw [List.length_take]; omega
    obtain ⟨g, o, rfl⟩ := hR.ex (by omega)
    have hd : decide ((raw.length : Int) > 20) = true := decide_eq_true (by omega)
    have hM := fun w h => rmembers_any (raw.take 20) (some ⟨g, o, none⟩) cap w h (okM (raw.take 20)) rfl
    obtain ⟨qm, hqm⟩ : ∃ q, okM (raw.take 20) = q := ⟨_, rfl⟩
    have HN1 : okM (raw.take 20) = false → ∀ (y : Option Addr) (ca cb : Nat) (w : World), IA w (some ⟨g, o, none⟩) (raw.take 20) → IA w y la → Calls Try.prog 14 #[.slice (some ⟨g, o, none⟩) (raw.take 20).length ca, .slice y la.length cb] w (fun e w' => e = .returned (.bool false) ∧ Below w.heap.size w w') := fun h y ca cb w h1 h2 => by
      have h3 := HN (raw.take 20) la (some ⟨g, o, none⟩) y ca cb w h1 h2 (by omega) (by omega)
      rw [nx_bad (.inl h)] at h3
      exact h3
    have HN2 : okM (raw.take 20) = false → ∀ (y : Option Addr) (ca cb : Nat) (w : World), IA w y la → IA w (some ⟨g, o, none⟩) (raw.take 20) → Calls Try.prog 14 #[.slice y la.length cb, .slice (some ⟨g, o, none⟩) (raw.take 20).length ca] w (fun e w' => e = .returned (.bool false) ∧ Below w.heap.size w w') := fun h y ca cb w h1 h2 => by
      have h3 := HN la (raw.take 20) y (some ⟨g, o, none⟩) cb ca w h1 h2 (by omega) (by omega)
      rw [nx_bad (.inr h)] at h3
      exact h3
    rw [hqm] at HN1 HN2 hM
    rw [hlen] at hM HN1 HN2
    clear hlen
    replace hR := hR0
    clear hR0 hqm HN
    generalize raw.take 20 = l at *
    rcases qm with _ | _
    · replace HN1 := HN1 rfl
      replace HN2 := HN2 rfl
      rcases qa with _ | _
      · obtain rfl : A = 0 := by simpa using ka
        simp only [Bool.false_and] at HNab
        clear ka kb kc HB
        go_enter Try.func4, Try.ntmps4
        go_wp2_with (first
          | (go_at_call 13; refine (HB _).mono ?_; rintro e w1 ⟨rfl, h1⟩; clear HB; replace hB := hB.trans (h1.mono hB.size))
          | (go_at_call 8; refine (HA _).mono ?_; rintro e w2 ⟨rfl, h2⟩; clear HA; replace hB := hB.trans (h2.mono hB.size))
          | (go_at_call 7; refine (HLa _).mono ?_; rintro e w3 ⟨sl3, rfl, hV3, h3⟩; clear HLa; replace hB := hB.trans (h3.mono hB.size); obtain ⟨a3, c3, rfl, hI3⟩ := hV3.ia; clear hV3)
          | (go_at_call 7; refine (HLb _).mono ?_; rintro e w4 ⟨sl4, rfl, hV4, h4⟩; clear HLb; replace hB := hB.trans (h4.mono hB.size); replace hI3 := hI3.below h4; obtain ⟨a4, c4, rfl, hI4⟩ := hV4.ia; clear hV4)
          | (go_at_call 14; refine (HNab _ _ _ _ _ hI3 hI4).mono ?_; rintro e w5 ⟨rfl, h5⟩; clear HNab; replace hB := hB.trans (h5.mono hB.size))
          | (go_at_call 15; refine (hM _ (hR.below hB)).mono ?_; rintro e w6 ⟨rfl, h6⟩; clear hM; replace hB := hB.trans (h6.mono hB.size))
          | (go_at_call 7; refine (HLa2 _).mono ?_; rintro e w7 ⟨sl7, rfl, hV7, h7⟩; clear HLa2; replace hB := hB.trans (h7.mono hB.size); obtain ⟨a7, c7, rfl, hI7⟩ := hV7.ia; clear hV7)
          | (go_at_call 14; refine (HN1 _ _ _ _ (hR.below hB) hI7).mono ?_; rintro e w8 ⟨rfl, h8⟩; clear HN1; replace hB := hB.trans (h8.mono hB.size))
          | (go_at_call 7; refine (HLa3 _).mono ?_; rintro e w9 ⟨sl9, rfl, hV9, h9⟩; clear HLa3; replace hB := hB.trans (h9.mono hB.size); obtain ⟨a9, c9, rfl, hI9⟩ := hV9.ia; clear hV9)
          | (go_at_call 14; refine (HN2 _ _ _ _ hI9 (hR.below hB)).mono ?_; rintro e w10 ⟨rfl, h10⟩; clear HN2; replace hB := hB.trans (h10.mono hB.size)))
        go_ret
        exact ⟨rfl, hB⟩
      have na : ¬ A = 0 := by simpa using ka
      have ka2 : (A != 0) = true := bne_iff_ne.2 na
      rcases qb with _ | _
      · obtain rfl : B = 0 := by simpa using kb
        simp only [Bool.false_and, Bool.and_false] at HNab
        clear ka kb kc HB
        go_enter Try.func4, Try.ntmps4
        go_wp2_with (first
          | (go_at_call 13; refine (HB _).mono ?_; rintro e w1 ⟨rfl, h1⟩; clear HB; replace hB := hB.trans (h1.mono hB.size))
          | (go_at_call 8; refine (HA _).mono ?_; rintro e w2 ⟨rfl, h2⟩; clear HA; replace hB := hB.trans (h2.mono hB.size))
          | (go_at_call 7; refine (HLa _).mono ?_; rintro e w3 ⟨sl3, rfl, hV3, h3⟩; clear HLa; replace hB := hB.trans (h3.mono hB.size); obtain ⟨a3, c3, rfl, hI3⟩ := hV3.ia; clear hV3)
          | (go_at_call 7; refine (HLb _).mono ?_; rintro e w4 ⟨sl4, rfl, hV4, h4⟩; clear HLb; replace hB := hB.trans (h4.mono hB.size); replace hI3 := hI3.below h4; obtain ⟨a4, c4, rfl, hI4⟩ := hV4.ia; clear hV4)
          | (go_at_call 14; refine (HNab _ _ _ _ _ hI3 hI4).mono ?_; rintro e w5 ⟨rfl, h5⟩; clear HNab; replace hB := hB.trans (h5.mono hB.size))
          | (go_at_call 15; refine (hM _ (hR.below hB)).mono ?_; rintro e w6 ⟨rfl, h6⟩; clear hM; replace hB := hB.trans (h6.mono hB.size))
          | (go_at_call 7; refine (HLa2 _).mono ?_; rintro e w7 ⟨sl7, rfl, hV7, h7⟩; clear HLa2; replace hB := hB.trans (h7.mono hB.size); obtain ⟨a7, c7, rfl, hI7⟩ := hV7.ia; clear hV7)
          | (go_at_call 14; refine (HN1 _ _ _ _ (hR.below hB) hI7).mono ?_; rintro e w8 ⟨rfl, h8⟩; clear HN1; replace hB := hB.trans (h8.mono hB.size))
          | (go_at_call 7; refine (HLa3 _).mono ?_; rintro e w9 ⟨sl9, rfl, hV9, h9⟩; clear HLa3; replace hB := hB.trans (h9.mono hB.size); obtain ⟨a9, c9, rfl, hI9⟩ := hV9.ia; clear hV9)
          | (go_at_call 14; refine (HN2 _ _ _ _ hI9 (hR.below hB)).mono ?_; rintro e w10 ⟨rfl, h10⟩; clear HN2; replace hB := hB.trans (h10.mono hB.size)))
        go_ret
        exact ⟨rfl, hB⟩
      have nb : ¬ B = 0 := by simpa using kb
      have kb2 : (B != 0) = true := bne_iff_ne.2 nb
      simp only [Bool.true_and] at HNab
      clear ka kb
      go_enter Try.func4, Try.ntmps4
      go_wp2_with (first
        | (go_at_call 13; refine (HB _).mono ?_; rintro e w1 ⟨rfl, h1⟩; clear HB; replace hB := hB.trans (h1.mono hB.size))
        | (go_at_call 8; refine (HA _).mono ?_; rintro e w2 ⟨rfl, h2⟩; clear HA; replace hB := hB.trans (h2.mono hB.size))
        | (go_at_call 7; refine (HLa _).mono ?_; rintro e w3 ⟨sl3, rfl, hV3, h3⟩; clear HLa; replace hB := hB.trans (h3.mono hB.size); obtain ⟨a3, c3, rfl, hI3⟩ := hV3.ia; clear hV3)
        | (go_at_call 7; refine (HLb _).mono ?_; rintro e w4 ⟨sl4, rfl, hV4, h4⟩; clear HLb; replace hB := hB.trans (h4.mono hB.size); replace hI3 := hI3.below h4; obtain ⟨a4, c4, rfl, hI4⟩ := hV4.ia; clear hV4)
        | (go_at_call 14; refine (HNab _ _ _ _ _ hI3 hI4).mono ?_; rintro e w5 ⟨rfl, h5⟩; clear HNab; replace hB := hB.trans (h5.mono hB.size))
        | (go_at_call 15; refine (hM _ (hR.below hB)).mono ?_; rintro e w6 ⟨rfl, h6⟩; clear hM; replace hB := hB.trans (h6.mono hB.size))
        | (go_at_call 7; refine (HLa2 _).mono ?_; rintro e w7 ⟨sl7, rfl, hV7, h7⟩; clear HLa2; replace hB := hB.trans (h7.mono hB.size); obtain ⟨a7, c7, rfl, hI7⟩ := hV7.ia; clear hV7)
        | (go_at_call 14; refine (HN1 _ _ _ _ (hR.below hB) hI7).mono ?_; rintro e w8 ⟨rfl, h8⟩; clear HN1; replace hB := hB.trans (h8.mono hB.size))
        | (go_at_call 7; refine (HLa3 _).mono ?_; rintro e w9 ⟨sl9, rfl, hV9, h9⟩; clear HLa3; replace hB := hB.trans (h9.mono hB.size); obtain ⟨a9, c9, rfl, hI9⟩ := hV9.ia; clear hV9)
        | (go_at_call 14; refine (HN2 _ _ _ _ hI9 (hR.below hB)).mono ?_; rintro e w10 ⟨rfl, h10⟩; clear HN2; replace hB := hB.trans (h10.mono hB.size)))
      go_ret
      exact ⟨rfl, hB⟩
    · clear HN1 HN2 HLa2 HLa3
      rcases qa with _ | _
      · obtain rfl : A = 0 := by simpa using ka
        simp only [Bool.false_and] at HNab
        clear ka kb kc HB
        go_enter Try.func4, Try.ntmps4
        go_wp2_with (first
          | (go_at_call 13; refine (HB _).mono ?_; rintro e w1 ⟨rfl, h1⟩; clear HB; replace hB := hB.trans (h1.mono hB.size))
          | (go_at_call 8; refine (HA _).mono ?_; rintro e w2 ⟨rfl, h2⟩; clear HA; replace hB := hB.trans (h2.mono hB.size))
          | (go_at_call 7; refine (HLa _).mono ?_; rintro e w3 ⟨sl3, rfl, hV3, h3⟩; clear HLa; replace hB := hB.trans (h3.mono hB.size); obtain ⟨a3, c3, rfl, hI3⟩ := hV3.ia; clear hV3)
          | (go_at_call 7; refine (HLb _).mono ?_; rintro e w4 ⟨sl4, rfl, hV4, h4⟩; clear HLb; replace hB := hB.trans (h4.mono hB.size); replace hI3 := hI3.below h4; obtain ⟨a4, c4, rfl, hI4⟩ := hV4.ia; clear hV4)
          | (go_at_call 14; refine (HNab _ _ _ _ _ hI3 hI4).mono ?_; rintro e w5 ⟨rfl, h5⟩; clear HNab; replace hB := hB.trans (h5.mono hB.size))
          | (go_at_call 15; refine (hM _ (hR.below hB)).mono ?_; rintro e w6 ⟨rfl, h6⟩; clear hM; replace hB := hB.trans (h6.mono hB.size))
          | (go_at_call 7; refine (HLa2 _).mono ?_; rintro e w7 ⟨sl7, rfl, hV7, h7⟩; clear HLa2; replace hB := hB.trans (h7.mono hB.size); obtain ⟨a7, c7, rfl, hI7⟩ := hV7.ia; clear hV7)
          | (go_at_call 14; refine (HN1 _ _ _ _ (hR.below hB) hI7).mono ?_; rintro e w8 ⟨rfl, h8⟩; clear HN1; replace hB := hB.trans (h8.mono hB.size))
          | (go_at_call 7; refine (HLa3 _).mono ?_; rintro e w9 ⟨sl9, rfl, hV9, h9⟩; clear HLa3; replace hB := hB.trans (h9.mono hB.size); obtain ⟨a9, c9, rfl, hI9⟩ := hV9.ia; clear hV9)
          | (go_at_call 14; refine (HN2 _ _ _ _ hI9 (hR.below hB)).mono ?_; rintro e w10 ⟨rfl, h10⟩; clear HN2; replace hB := hB.trans (h10.mono hB.size)))
        go_ret
        exact ⟨rfl, hB⟩
      have na : ¬ A = 0 := by simpa using ka
      have ka2 : (A != 0) = true := bne_iff_ne.2 na
      rcases qb with _ | _
      · obtain rfl : B = 0 := by simpa using kb
        simp only [Bool.false_and, Bool.and_false] at HNab
        clear ka kb kc HB
        go_enter Try.func4, Try.ntmps4
        go_wp2_with (first
          | (go_at_call 13; refine (HB _).mono ?_; rintro e w1 ⟨rfl, h1⟩; clear HB; replace hB := hB.trans (h1.mono hB.size))
          | (go_at_call 8; refine (HA _).mono ?_; rintro e w2 ⟨rfl, h2⟩; clear HA; replace hB := hB.trans (h2.mono hB.size))
          | (go_at_call 7; refine (HLa _).mono ?_; rintro e w3 ⟨sl3, rfl, hV3, h3⟩; clear HLa; replace hB := hB.trans (h3.mono hB.size); obtain ⟨a3, c3, rfl, hI3⟩ := hV3.ia; clear hV3)
          | (go_at_call 7; refine (HLb _).mono ?_; rintro e w4 ⟨sl4, rfl, hV4, h4⟩; clear HLb; replace hB := hB.trans (h4.mono hB.size); replace hI3 := hI3.below h4; obtain ⟨a4, c4, rfl, hI4⟩ := hV4.ia; clear hV4)
          | (go_at_call 14; refine (HNab _ _ _ _ _ hI3 hI4).mono ?_; rintro e w5 ⟨rfl, h5⟩; clear HNab; replace hB := hB.trans (h5.mono hB.size))
          | (go_at_call 15; refine (hM _ (hR.below hB)).mono ?_; rintro e w6 ⟨rfl, h6⟩; clear hM; replace hB := hB.trans (h6.mono hB.size))
          | (go_at_call 7; refine (HLa2 _).mono ?_; rintro e w7 ⟨sl7, rfl, hV7, h7⟩; clear HLa2; replace hB := hB.trans (h7.mono hB.size); obtain ⟨a7, c7, rfl, hI7⟩ := hV7.ia; clear hV7)
          | (go_at_call 14; refine (HN1 _ _ _ _ (hR.below hB) hI7).mono ?_; rintro e w8 ⟨rfl, h8⟩; clear HN1; replace hB := hB.trans (h8.mono hB.size))
          | (go_at_call 7; refine (HLa3 _).mono ?_; rintro e w9 ⟨sl9, rfl, hV9, h9⟩; clear HLa3; replace hB := hB.trans (h9.mono hB.size); obtain ⟨a9, c9, rfl, hI9⟩ := hV9.ia; clear hV9)
          | (go_at_call 14; refine (HN2 _ _ _ _ hI9 (hR.below hB)).mono ?_; rintro e w10 ⟨rfl, h10⟩; clear HN2; replace hB := hB.trans (h10.mono hB.size)))
        go_ret
        exact ⟨rfl, hB⟩
      have nb : ¬ B = 0 := by simpa using kb
      have kb2 : (B != 0) = true := bne_iff_ne.2 nb
      simp only [Bool.true_and] at HNab
      clear ka kb
      go_enter Try.func4, Try.ntmps4
      go_wp2_with (first
        | (go_at_call 13; refine (HB _).mono ?_; rintro e w1 ⟨rfl, h1⟩; clear HB; replace hB := hB.trans (h1.mono hB.size))
        | (go_at_call 8; refine (HA _).mono ?_; rintro e w2 ⟨rfl, h2⟩; clear HA; replace hB := hB.trans (h2.mono hB.size))
        | (go_at_call 7; refine (HLa _).mono ?_; rintro e w3 ⟨sl3, rfl, hV3, h3⟩; clear HLa; replace hB := hB.trans (h3.mono hB.size); obtain ⟨a3, c3, rfl, hI3⟩ := hV3.ia; clear hV3)
        | (go_at_call 7; refine (HLb _).mono ?_; rintro e w4 ⟨sl4, rfl, hV4, h4⟩; clear HLb; replace hB := hB.trans (h4.mono hB.size); replace hI3 := hI3.below h4; obtain ⟨a4, c4, rfl, hI4⟩ := hV4.ia; clear hV4)
        | (go_at_call 14; refine (HNab _ _ _ _ _ hI3 hI4).mono ?_; rintro e w5 ⟨rfl, h5⟩; clear HNab; replace hB := hB.trans (h5.mono hB.size))
        | (go_at_call 15; refine (hM _ (hR.below hB)).mono ?_; rintro e w6 ⟨rfl, h6⟩; clear hM; replace hB := hB.trans (h6.mono hB.size))
        | (go_at_call 7; refine (HLa2 _).mono ?_; rintro e w7 ⟨sl7, rfl, hV7, h7⟩; clear HLa2; replace hB := hB.trans (h7.mono hB.size); obtain ⟨a7, c7, rfl, hI7⟩ := hV7.ia; clear hV7)
        | (go_at_call 14; refine (HN1 _ _ _ _ (hR.below hB) hI7).mono ?_; rintro e w8 ⟨rfl, h8⟩; clear HN1; replace hB := hB.trans (h8.mono hB.size))
        | (go_at_call 7; refine (HLa3 _).mono ?_; rintro e w9 ⟨sl9, rfl, hV9, h9⟩; clear HLa3; replace hB := hB.trans (h9.mono hB.size); obtain ⟨a9, c9, rfl, hI9⟩ := hV9.ia; clear hV9)
        | (go_at_call 14; refine (HN2 _ _ _ _ hI9 (hR.below hB)).mono ?_; rintro e w10 ⟨rfl, h10⟩; clear HN2; replace hB := hB.trans (h10.mono hB.size)))
      go_ret
      exact ⟨rfl, hB⟩
  · have hd : decide ((raw.length : Int) > 20) = false := decide_eq_false (by omega)
    have hM := fun w h => rmembers_any raw r cap w h (okM raw) rfl
    obtain ⟨qm, hqm⟩ : ∃ q, okM raw = q := ⟨_, rfl⟩
    have HN1 : okM raw = false → ∀ (y : Option Addr) (ca cb : Nat) (w : World), IA w r raw → IA w y la → Calls Try.prog 14 #[.slice r raw.length ca, .slice y la.length cb] w (fun e w' => e = .returned (.bool false) ∧ Below w.heap.size w w') := fun h y ca cb w h1 h2 => by
      have h3 := HN raw la r y ca cb w h1 h2 (by omega) (by omega)
      rw [nx_bad (.inl h)] at h3
      exact h3
    have HN2 : okM raw = false → ∀ (y : Option Addr) (ca cb : Nat) (w : World), IA w y la → IA w r raw → Calls Try.prog 14 #[.slice y la.length cb, .slice r raw.length ca] w (fun e w' => e = .returned (.bool false) ∧ Below w.heap.size w w') := fun h y ca cb w h1 h2 => by
      have h3 := HN la raw y r cb ca w h1 h2 (by omega) (by omega)
      rw [nx_bad (.inr h)] at h3
      exact h3
    rw [hqm] at HN1 HN2 hM
    clear hqm HN
    rcases qm with _ | _
    · replace HN1 := HN1 rfl
      replace HN2 := HN2 rfl
      rcases qa with _ | _
      · obtain rfl : A = 0 := by simpa using ka
        simp only [Bool.false_and] at HNab
        clear ka kb kc HB
        go_enter Try.func4, Try.ntmps4
        go_wp2_with (first
          | (go_at_call 13; refine (HB _).mono ?_; rintro e w1 ⟨rfl, h1⟩; clear HB; replace hB := hB.trans (h1.mono hB.size))
          | (go_at_call 8; refine (HA _).mono ?_; rintro e w2 ⟨rfl, h2⟩; clear HA; replace hB := hB.trans (h2.mono hB.size))
          | (go_at_call 7; refine (HLa _).mono ?_; rintro e w3 ⟨sl3, rfl, hV3, h3⟩; clear HLa; replace hB := hB.trans (h3.mono hB.size); obtain ⟨a3, c3, rfl, hI3⟩ := hV3.ia; clear hV3)
          | (go_at_call 7; refine (HLb _).mono ?_; rintro e w4 ⟨sl4, rfl, hV4, h4⟩; clear HLb; replace hB := hB.trans (h4.mono hB.size); replace hI3 := hI3.below h4; obtain ⟨a4, c4, rfl, hI4⟩ := hV4.ia; clear hV4)
          | (go_at_call 14; refine (HNab _ _ _ _ _ hI3 hI4).mono ?_; rintro e w5 ⟨rfl, h5⟩; clear HNab; replace hB := hB.trans (h5.mono hB.size))
          | (go_at_call 15; refine (hM _ (hR.below hB)).mono ?_; rintro e w6 ⟨rfl, h6⟩; clear hM; replace hB := hB.trans (h6.mono hB.size))
          | (go_at_call 7; refine (HLa2 _).mono ?_; rintro e w7 ⟨sl7, rfl, hV7, h7⟩; clear HLa2; replace hB := hB.trans (h7.mono hB.size); obtain ⟨a7, c7, rfl, hI7⟩ := hV7.ia; clear hV7)
          | (go_at_call 14; refine (HN1 _ _ _ _ (hR.below hB) hI7).mono ?_; rintro e w8 ⟨rfl, h8⟩; clear HN1; replace hB := hB.trans (h8.mono hB.size))
          | (go_at_call 7; refine (HLa3 _).mono ?_; rintro e w9 ⟨sl9, rfl, hV9, h9⟩; clear HLa3; replace hB := hB.trans (h9.mono hB.size); obtain ⟨a9, c9, rfl, hI9⟩ := hV9.ia; clear hV9)
          | (go_at_call 14; refine (HN2 _ _ _ _ hI9 (hR.below hB)).mono ?_; rintro e w10 ⟨rfl, h10⟩; clear HN2; replace hB := hB.trans (h10.mono hB.size)))
        go_ret
        exact ⟨rfl, hB⟩
      have na : ¬ A = 0 := by simpa using ka
      have ka2 : (A != 0) = true := bne_iff_ne.2 na
      rcases qb with _ | _
      · obtain rfl : B = 0 := by simpa using kb
        simp only [Bool.false_and, Bool.and_false] at HNab
        clear ka kb kc HB
        go_enter Try.func4, Try.ntmps4
        go_wp2_with (first
          | (go_at_call 13; refine (HB _).mono ?_; rintro e w1 ⟨rfl, h1⟩; clear HB; replace hB := hB.trans (h1.mono hB.size))
          | (go_at_call 8; refine (HA _).mono ?_; rintro e w2 ⟨rfl, h2⟩; clear HA; replace hB := hB.trans (h2.mono hB.size))
          | (go_at_call 7; refine (HLa _).mono ?_; rintro e w3 ⟨sl3, rfl, hV3, h3⟩; clear HLa; replace hB := hB.trans (h3.mono hB.size); obtain ⟨a3, c3, rfl, hI3⟩ := hV3.ia; clear hV3)
          | (go_at_call 7; refine (HLb _).mono ?_; rintro e w4 ⟨sl4, rfl, hV4, h4⟩; clear HLb; replace hB := hB.trans (h4.mono hB.size); replace hI3 := hI3.below h4; obtain ⟨a4, c4, rfl, hI4⟩ := hV4.ia; clear hV4)
          | (go_at_call 14; refine (HNab _ _ _ _ _ hI3 hI4).mono ?_; rintro e w5 ⟨rfl, h5⟩; clear HNab; replace hB := hB.trans (h5.mono hB.size))
          | (go_at_call 15; refine (hM _ (hR.below hB)).mono ?_; rintro e w6 ⟨rfl, h6⟩; clear hM; replace hB := hB.trans (h6.mono hB.size))
          | (go_at_call 7; refine (HLa2 _).mono ?_; rintro e w7 ⟨sl7, rfl, hV7, h7⟩; clear HLa2; replace hB := hB.trans (h7.mono hB.size); obtain ⟨a7, c7, rfl, hI7⟩ := hV7.ia; clear hV7)
          | (go_at_call 14; refine (HN1 _ _ _ _ (hR.below hB) hI7).mono ?_; rintro e w8 ⟨rfl, h8⟩; clear HN1; replace hB := hB.trans (h8.mono hB.size))
          | (go_at_call 7; refine (HLa3 _).mono ?_; rintro e w9 ⟨sl9, rfl, hV9, h9⟩; clear HLa3; replace hB := hB.trans (h9.mono hB.size); obtain ⟨a9, c9, rfl, hI9⟩ := hV9.ia; clear hV9)
          | (go_at_call 14; refine (HN2 _ _ _ _ hI9 (hR.below hB)).mono ?_; rintro e w10 ⟨rfl, h10⟩; clear HN2; replace hB := hB.trans (h10.mono hB.size)))
        go_ret
        exact ⟨rfl, hB⟩
      have nb : ¬ B = 0 := by simpa using kb
      have kb2 : (B != 0) = true := bne_iff_ne.2 nb
      simp only [Bool.true_and] at HNab
      clear ka kb
      go_enter Try.func4, Try.ntmps4
      go_wp2_with (first
        | (go_at_call 13; refine (HB _).mono ?_; rintro e w1 ⟨rfl, h1⟩; clear HB; replace hB := hB.trans (h1.mono hB.size))
        | (go_at_call 8; refine (HA _).mono ?_; rintro e w2 ⟨rfl, h2⟩; clear HA; replace hB := hB.trans (h2.mono hB.size))
        | (go_at_call 7; refine (HLa _).mono ?_; rintro e w3 ⟨sl3, rfl, hV3, h3⟩; clear HLa; replace hB := hB.trans (h3.mono hB.size); obtain ⟨a3, c3, rfl, hI3⟩ := hV3.ia; clear hV3)
        | (go_at_call 7; refine (HLb _).mono ?_; rintro e w4 ⟨sl4, rfl, hV4, h4⟩; clear HLb; replace hB := hB.trans (h4.mono hB.size); replace hI3 := hI3.below h4; obtain ⟨a4, c4, rfl, hI4⟩ := hV4.ia; clear hV4)
        | (go_at_call 14; refine (HNab _ _ _ _ _ hI3 hI4).mono ?_; rintro e w5 ⟨rfl, h5⟩; clear HNab; replace hB := hB.trans (h5.mono hB.size))
        | (go_at_call 15; refine (hM _ (hR.below hB)).mono ?_; rintro e w6 ⟨rfl, h6⟩; clear hM; replace hB := hB.trans (h6.mono hB.size))
        | (go_at_call 7; refine (HLa2 _).mono ?_; rintro e w7 ⟨sl7, rfl, hV7, h7⟩; clear HLa2; replace hB := hB.trans (h7.mono hB.size); obtain ⟨a7, c7, rfl, hI7⟩ := hV7.ia; clear hV7)
        | (go_at_call 14; refine (HN1 _ _ _ _ (hR.below hB) hI7).mono ?_; rintro e w8 ⟨rfl, h8⟩; clear HN1; replace hB := hB.trans (h8.mono hB.size))
        | (go_at_call 7; refine (HLa3 _).mono ?_; rintro e w9 ⟨sl9, rfl, hV9, h9⟩; clear HLa3; replace hB := hB.trans (h9.mono hB.size); obtain ⟨a9, c9, rfl, hI9⟩ := hV9.ia; clear hV9)
        | (go_at_call 14; refine (HN2 _ _ _ _ hI9 (hR.below hB)).mono ?_; rintro e w10 ⟨rfl, h10⟩; clear HN2; replace hB := hB.trans (h10.mono hB.size)))
      go_ret
      exact ⟨rfl, hB⟩
    · clear HN1 HN2 HLa2 HLa3
      rcases qa with _ | _
      · obtain rfl : A = 0 := by simpa using ka
        simp only [Bool.false_and] at HNab
        clear ka kb kc HB
        go_enter Try.func4, Try.ntmps4
        go_wp2_with (first
          | (go_at_call 13; refine (HB _).mono ?_; rintro e w1 ⟨rfl, h1⟩; clear HB; replace hB := hB.trans (h1.mono hB.size))
          | (go_at_call 8; refine (HA _).mono ?_; rintro e w2 ⟨rfl, h2⟩; clear HA; replace hB := hB.trans (h2.mono hB.size))
          | (go_at_call 7; refine (HLa _).mono ?_; rintro e w3 ⟨sl3, rfl, hV3, h3⟩; clear HLa; replace hB := hB.trans (h3.mono hB.size); obtain ⟨a3, c3, rfl, hI3⟩ := hV3.ia; clear hV3)
          | (go_at_call 7; refine (HLb _).mono ?_; rintro e w4 ⟨sl4, rfl, hV4, h4⟩; clear HLb; replace hB := hB.trans (h4.mono hB.size); replace hI3 := hI3.below h4; obtain ⟨a4, c4, rfl, hI4⟩ := hV4.ia; clear hV4)
          | (go_at_call 14; refine (HNab _ _ _ _ _ hI3 hI4).mono ?_; rintro e w5 ⟨rfl, h5⟩; clear HNab; replace hB := hB.trans (h5.mono hB.size))
          | (go_at_call 15; refine (hM _ (hR.below hB)).mono ?_; rintro e w6 ⟨rfl, h6⟩; clear hM; replace hB := hB.trans (h6.mono hB.size))
          | (go_at_call 7; refine (HLa2 _).mono ?_; rintro e w7 ⟨sl7, rfl, hV7, h7⟩; clear HLa2; replace hB := hB.trans (h7.mono hB.size); obtain ⟨a7, c7, rfl, hI7⟩ := hV7.ia; clear hV7)
          | (go_at_call 14; refine (HN1 _ _ _ _ (hR.below hB) hI7).mono ?_; rintro e w8 ⟨rfl, h8⟩; clear HN1; replace hB := hB.trans (h8.mono hB.size))
          | (go_at_call 7; refine (HLa3 _).mono ?_; rintro e w9 ⟨sl9, rfl, hV9, h9⟩; clear HLa3; replace hB := hB.trans (h9.mono hB.size); obtain ⟨a9, c9, rfl, hI9⟩ := hV9.ia; clear hV9)
          | (go_at_call 14; refine (HN2 _ _ _ _ hI9 (hR.below hB)).mono ?_; rintro e w10 ⟨rfl, h10⟩; clear HN2; replace hB := hB.trans (h10.mono hB.size)))
        go_ret
        exact ⟨rfl, hB⟩
      have na : ¬ A = 0 := by simpa using ka
      have ka2 : (A != 0) = true := bne_iff_ne.2 na
      rcases qb with _ | _
      · obtain rfl : B = 0 := by simpa using kb
        simp only [Bool.false_and, Bool.and_false] at HNab
        clear ka kb kc HB
        go_enter Try.func4, Try.ntmps4
        go_wp2_with (first
          | (go_at_call 13; refine (HB _).mono ?_; rintro e w1 ⟨rfl, h1⟩; clear HB; replace hB := hB.trans (h1.mono hB.size))
          | (go_at_call 8; refine (HA _).mono ?_; rintro e w2 ⟨rfl, h2⟩; clear HA; replace hB := hB.trans (h2.mono hB.size))
          | (go_at_call 7; refine (HLa _).mono ?_; rintro e w3 ⟨sl3, rfl, hV3, h3⟩; clear HLa; replace hB := hB.trans (h3.mono hB.size); obtain ⟨a3, c3, rfl, hI3⟩ := hV3.ia; clear hV3)
          | (go_at_call 7; refine (HLb _).mono ?_; rintro e w4 ⟨sl4, rfl, hV4, h4⟩; clear HLb; replace hB := hB.trans (h4.mono hB.size); replace hI3 := hI3.below h4; obtain ⟨a4, c4, rfl, hI4⟩ := hV4.ia; clear hV4)
          | (go_at_call 14; refine (HNab _ _ _ _ _ hI3 hI4).mono ?_; rintro e w5 ⟨rfl, h5⟩; clear HNab; replace hB := hB.trans (h5.mono hB.size))
          | (go_at_call 15; refine (hM _ (hR.below hB)).mono ?_; rintro e w6 ⟨rfl, h6⟩; clear hM; replace hB := hB.trans (h6.mono hB.size))
          | (go_at_call 7; refine (HLa2 _).mono ?_; rintro e w7 ⟨sl7, rfl, hV7, h7⟩; clear HLa2; replace hB := hB.trans (h7.mono hB.size); obtain ⟨a7, c7, rfl, hI7⟩ := hV7.ia; clear hV7)
          | (go_at_call 14; refine (HN1 _ _ _ _ (hR.below hB) hI7).mono ?_; rintro e w8 ⟨rfl, h8⟩; clear HN1; replace hB := hB.trans (h8.mono hB.size))
          | (go_at_call 7; refine (HLa3 _).mono ?_; rintro e w9 ⟨sl9, rfl, hV9, h9⟩; clear HLa3; replace hB := hB.trans (h9.mono hB.size); obtain ⟨a9, c9, rfl, hI9⟩ := hV9.ia; clear hV9)
          | (go_at_call 14; refine (HN2 _ _ _ _ hI9 (hR.below hB)).mono ?_; rintro e w10 ⟨rfl, h10⟩; clear HN2; replace hB := hB.trans (h10.mono hB.size)))
        go_ret
        exact ⟨rfl, hB⟩
      have nb : ¬ B = 0 := by simpa using kb
      have kb2 : (B != 0) = true := bne_iff_ne.2 nb
      simp only [Bool.true_and] at HNab
      clear ka kb
      go_enter Try.func4, Try.ntmps4
      go_wp2_with (first
        | (go_at_call 13; refine (HB _).mono ?_; rintro e w1 ⟨rfl, h1⟩; clear HB; replace hB := hB.trans (h1.mono hB.size))
        | (go_at_call 8; refine (HA _).mono ?_; rintro e w2 ⟨rfl, h2⟩; clear HA; replace hB := hB.trans (h2.mono hB.size))
        | (go_at_call 7; refine (HLa _).mono ?_; rintro e w3 ⟨sl3, rfl, hV3, h3⟩; clear HLa; replace hB := hB.trans (h3.mono hB.size); obtain ⟨a3, c3, rfl, hI3⟩ := hV3.ia; clear hV3)
        | (go_at_call 7; refine (HLb _).mono ?_; rintro e w4 ⟨sl4, rfl, hV4, h4⟩; clear HLb; replace hB := hB.trans (h4.mono hB.size); replace hI3 := hI3.below h4; obtain ⟨a4, c4, rfl, hI4⟩ := hV4.ia; clear hV4)
        | (go_at_call 14; refine (HNab _ _ _ _ _ hI3 hI4).mono ?_; rintro e w5 ⟨rfl, h5⟩; clear HNab; replace hB := hB.trans (h5.mono hB.size))
        | (go_at_call 15; refine (hM _ (hR.below hB)).mono ?_; rintro e w6 ⟨rfl, h6⟩; clear hM; replace hB := hB.trans (h6.mono hB.size))
        | (go_at_call 7; refine (HLa2 _).mono ?_; rintro e w7 ⟨sl7, rfl, hV7, h7⟩; clear HLa2; replace hB := hB.trans (h7.mono hB.size); obtain ⟨a7, c7, rfl, hI7⟩ := hV7.ia; clear hV7)
        | (go_at_call 14; refine (HN1 _ _ _ _ (hR.below hB) hI7).mono ?_; rintro e w8 ⟨rfl, h8⟩; clear HN1; replace hB := hB.trans (h8.mono hB.size))
        | (go_at_call 7; refine (HLa3 _).mono ?_; rintro e w9 ⟨sl9, rfl, hV9, h9⟩; clear HLa3; replace hB := hB.trans (h9.mono hB.size); obtain ⟨a9, c9, rfl, hI9⟩ := hV9.ia; clear hV9)
        | (go_at_call 14; refine (HN2 _ _ _ _ hI9 (hR.below hB)).mono ?_; rintro e w10 ⟨rfl, h10⟩; clear HN2; replace hB := hB.trans (h10.mono hB.size)))
      go_ret
      exact ⟨rfl, hB⟩
end Go.Proofs.Ytcaoibdimeajfaa
