/- Those that come begin behind the last entry; of those that go nothing is known. -/
import Derived.Test.YtnhlejdilldfaaaGreatRmu
namespace Go.Proofs.YtnhlejdilldfaaaGreat
open Go Go.RowKit Go.Maps
theorem IF.stp {nb : Nat} {M : NM} {F F' : Nat → Prop} {lb lb' : Option Nat} {w w1 wl : World} {N : RN} {a : Option Addr} {l : List Int} (hI : IF (NewB w w1) w1 a l) (h : ND F nb M lb w N) (hS : Stp nb M F F' lb lb' w1 wl) : IF (NewB w w1) wl a l :=
  hI.kept (fun k hk => hS.keep k hk.2 (fun ho => by have := h.ownLt k ho; have := hk.1; omega)) (fun _ hk => hk)
/-- Behind i numbers of replicas. -/
def metN (N : RN) (l : List Int) (i : Nat) : RN := { N with
  next := fun x => if 0 ≤ x ∧ x < (i : Int) ∧ x ∉ l then 0 else N.next x
  had := fun x => if 0 ≤ x ∧ x < (i : Int) ∧ x ∉ l then 0 else N.had x
  ends := fun x => if 0 ≤ x ∧ x < (i : Int) ∧ x ∉ l then 0 else N.ends x }
/-- Behind j of those that take part. -/
def mt2 (N : RN) (l : List Int) (j : Nat) : RN := { N with next := fun x => if x ∈ l.take j ∧ N.next x = 0 ∧ x ≠ N.me then N.last + 1 else N.next x }
theorem metN_zero (N : RN) (l : List Int) : metN N l 0 = N := by
  unfold metN
  have e : ∀ f : Int → Int, (fun x => if 0 ≤ x ∧ x < ((0 : Nat) : Int) ∧ x ∉ l then 0 else f x) = f := fun f => funext fun x => if_neg (by omega)
  rw [e, e, e]
theorem met_in {f : Int → Int} {l : List Int} {i : Nat} (h : (i : Int) ∈ l) : (fun x => if 0 ≤ x ∧ x < ((i + 1 : Nat) : Int) ∧ x ∉ l then 0 else f x) = fun x => if 0 ≤ x ∧ x < (i : Int) ∧ x ∉ l then 0 else f x := funext fun x => by
  by_cases hx : x = (i : Int)
  · subst hx
    rw [if_neg (fun e => e.2.2 h), if_neg (fun e => e.2.2 h)]
  · by_cases h2 : 0 ≤ x ∧ x < (i : Int) ∧ x ∉ l
    · rw [if_pos h2, if_pos ⟨h2.1, by omega, h2.2.2⟩]
    · rw [if_neg h2, if_neg (fun e => h2 ⟨e.1, by omega, e.2.2⟩)]
theorem met_out {f : Int → Int} {l : List Int} {i : Nat} (h : (i : Int) ∉ l) : (fun x => if 0 ≤ x ∧ x < ((i + 1 : Nat) : Int) ∧ x ∉ l then 0 else f x) = fun x => if x = (i : Int) then 0 else if 0 ≤ x ∧ x < (i : Int) ∧ x ∉ l then 0 else f x := funext fun x => by
  by_cases hx : x = (i : Int)
  · subst hx
    rw [if_pos ⟨by omega, by omega, h⟩, if_pos rfl]
  · rw [if_neg hx]
    by_cases h2 : 0 ≤ x ∧ x < (i : Int) ∧ x ∉ l
    · rw [if_pos h2, if_pos ⟨h2.1, by omega, h2.2.2⟩]
    · rw [if_neg h2, if_neg (fun e => h2 ⟨e.1, by omega, e.2.2⟩)]
theorem metN_in {N : RN} {l : List Int} {i : Nat} (h : (i : Int) ∈ l) : metN N l (i + 1) = metN N l i := by
  unfold metN
  rw [met_in h, met_in h, met_in h]
theorem metN_out {N : RN} {l : List Int} {i : Nat} (h : (i : Int) ∉ l) : metN N l (i + 1) = { metN N l i with next := fun x => if x = (i : Int) then 0 else (metN N l i).next x, had := fun x => if x = (i : Int) then 0 else (metN N l i).had x, ends := fun x => if x = (i : Int) then 0 else (metN N l i).ends x } := by
  unfold metN
  rw [met_out h, met_out h, met_out h]
theorem mt2_zero (N : RN) (l : List Int) : mt2 N l 0 = N := by
  unfold mt2
  have e : (fun x => if x ∈ l.take 0 ∧ N.next x = 0 ∧ x ≠ N.me then N.last + 1 else N.next x) = N.next := funext fun x => if_neg (fun e => by simp at e)
  rw [e]
theorem mt2_next {l : List Int} {j : Nat} (hj : j < l.length) (x : Int) : (x ∈ l.take (j + 1)) ↔ (x ∈ l.take j ∨ x = l.getD j 0) := by
  rw [take_getD hj, List.mem_append, List.mem_singleton]
theorem mt2_no {N : RN} {l : List Int} {j : Nat} (hj : j < l.length) (h : (mt2 N l j).next (l.getD j 0) ≠ 0 ∨ l.getD j 0 = N.me) : mt2 N l (j + 1) = mt2 N l j := by
  have e : (mt2 N l (j + 1)).next = (mt2 N l j).next := funext fun x => by
    show (if x ∈ l.take (j + 1) ∧ N.next x = 0 ∧ x ≠ N.me then N.last + 1 else N.next x) = (if x ∈ l.take j ∧ N.next x = 0 ∧ x ≠ N.me then N.last + 1 else N.next x)
    by_cases hx : x = l.getD j 0
    · rcases h with h | h
      · have h : (if l.getD j 0 ∈ l.take j ∧ N.next (l.getD j 0) = 0 ∧ l.getD j 0 ≠ N.me then N.last + 1 else N.next (l.getD j 0)) ≠ 0 := h
        rw [← hx] at h
        by_cases h2 : x ∈ l.take j ∧ N.next x = 0 ∧ x ≠ N.me
        · rw [if_pos h2, if_pos ⟨(mt2_next hj x).2 (.inl h2.1), h2.2⟩]
        · rw [if_neg h2] at h
          rw [if_neg h2, if_neg (fun e => h e.2.1)]
      · rw [if_neg (fun e => e.2.2 (hx.trans h)), if_neg (fun e => e.2.2 (hx.trans h))]
    · have : (x ∈ l.take (j + 1)) ↔ (x ∈ l.take j) := (mt2_next hj x).trans ⟨fun e => e.resolve_right hx, .inl⟩
      simp only [this]
  show { N with next := (mt2 N l (j + 1)).next } = mt2 N l j
  rw [e]
  rfl
theorem mt2_yes {N : RN} {l : List Int} {j : Nat} (hj : j < l.length) (h1 : (mt2 N l j).next (l.getD j 0) = 0) (h2 : l.getD j 0 ≠ N.me) : mt2 N l (j + 1) = { mt2 N l j with next := fun x => if x = l.getD j 0 then N.last + 1 else (mt2 N l j).next x } := by
  have e : (mt2 N l (j + 1)).next = fun x => if x = l.getD j 0 then N.last + 1 else (mt2 N l j).next x := funext fun x => by
    show (if x ∈ l.take (j + 1) ∧ N.next x = 0 ∧ x ≠ N.me then N.last + 1 else N.next x) = if x = l.getD j 0 then N.last + 1 else (if x ∈ l.take j ∧ N.next x = 0 ∧ x ≠ N.me then N.last + 1 else N.next x)
    by_cases hx : x = l.getD j 0
    · rw [if_pos hx]
      have h1 : (if l.getD j 0 ∈ l.take j ∧ N.next (l.getD j 0) = 0 ∧ l.getD j 0 ≠ N.me then N.last + 1 else N.next (l.getD j 0)) = 0 := h1
      rw [← hx] at h1 h2
      by_cases h3 : N.next x = 0
      · rw [if_pos ⟨(mt2_next hj x).2 (.inr hx), h3, h2⟩]
      · rw [if_neg (fun e => h3 e.2.1)] at h1
        exact absurd h1 h3
    · rw [if_neg hx]
      have : (x ∈ l.take (j + 1)) ↔ (x ∈ l.take j) := (mt2_next hj x).trans ⟨fun e => e.resolve_right hx, .inl⟩
      simp only [this]
  show { N with next := (mt2 N l (j + 1)).next } = _
  rw [e]
  rfl
theorem meet_eq (N : RN) : mt2 (metN N N.mems 16) N.mems N.mems.length = N.meet := by
  have hg : ∀ (f : Int → Int) (x : Int), (if 0 ≤ x ∧ x < ((16 : Nat) : Int) ∧ x ∉ N.mems then 0 else f x) = if (decide (0 ≤ x ∧ x < 16) && decide (x ∉ N.mems)) = true then 0 else f x := fun f x => by
    by_cases h : 0 ≤ x ∧ x < 16 ∧ x ∉ N.mems
    · rw [if_pos (by exact h), if_pos (by simp [h])]
    · rw [if_neg (by exact h), if_neg (fun e => by
        rw [Bool.and_eq_true, decide_eq_true_eq, decide_eq_true_eq] at e
        exact h ⟨e.1.1, e.1.2, e.2⟩)]
  unfold mt2 metN RN.meet
  rw [List.take_length]
  simp only [hg]
  rfl
theorem Bnd.maps {N : RN} (hb : Bnd N) {nx hd en : Int → Int} (ks : List Int) (hk : ks.length ≤ 16) (h1 : ∀ x, 0 ≤ nx x ∧ nx x ≤ 1152921504606846977) (h2 : ∀ x, 0 ≤ hd x ∧ hd x ≤ 1152921504606846977) (h3 : ∀ x, 0 ≤ en x ∧ en x ≤ 2147483647) : Bnd { N with next := nx, had := hd, ends := en, keys := ks } :=
  ⟨hb.me, hb.term, hb.bi, hb.last, hb.bt, hb.base, hb.bconf, hb.log, hk, hb.commit, h1, h2, h3⟩
theorem Bnd.met {N : RN} (hb : Bnd N) (l : List Int) (i : Nat) : Bnd (metN N l i) := hb.maps N.keys hb.keys
  (fun x => by
    by_cases h : 0 ≤ x ∧ x < (i : Int) ∧ x ∉ l
    · rw [if_pos h]; omega
    · rw [if_neg h]; exact hb.next x)
  (fun x => by
    by_cases h : 0 ≤ x ∧ x < (i : Int) ∧ x ∉ l
    · rw [if_pos h]; omega
    · rw [if_neg h]; exact hb.had x)
  (fun x => by
    by_cases h : 0 ≤ x ∧ x < (i : Int) ∧ x ∉ l
    · rw [if_pos h]; omega
    · rw [if_neg h]; exact hb.ends x)
theorem Bnd.mt2 {N : RN} (hb : Bnd N) (l : List Int) (j : Nat) : Bnd (mt2 N l j) := hb.maps N.keys hb.keys
  (fun x => by
    have h1 := hb.bi
    have h2 := hb.last
    by_cases h : x ∈ l.take j ∧ N.next x = 0 ∧ x ≠ N.me
    · rw [if_pos h]; unfold RN.last; omega
    · rw [if_neg h]; exact hb.next x) hb.had hb.ends
section
variable (F : Nat → Prop) (nb : Nat) (M : NM) (lb : Option Nat) (w : World) (N : RN)
set_option maxRecDepth 100000 in
set_option maxHeartbeats 1000000 in
theorem meet_any (h : ND F nb M lb w N) (hb : Bnd N) (hg : Gm N) : Calls Tryz.prog 97 #[.pointer (some ⟨nb, 0, none⟩)] w (DrP F nb M lb w (.tuple #[]) N.meet) := by
  have HM := membersN F nb M lb w N h hb
  have hml := hg.mems
  rw [← meet_eq N]
  have hlast := hb.last
  have hme := hb.me
  have hlast' : N.last = N.k.bi + (N.k.log.length : Nat) := rfl
  have hbi := hb.bi
  generalize N.mems = L at *
  go_enter Tryz.func97, Tryz.ntmps97
  go_wp2_with (go_at_call 36; refine HM.mono ?_; rintro e w1 ⟨a, c, rfl, hI, hw1⟩; clear HM)
  have h1 := h.below hw1
  go_loopw [8] (fun v8 wl => ∃ i : Nat, i ≤ 16 ∧ v8 = .int .i64 i ∧ Stp nb M F F lb lb w1 wl ∧ ND F nb M lb wl (metN N L i)) (fun v8 _ => 16 - (intOf v8).toNat)
  case atStart => exact ⟨0, by omega, rfl, Stp.refl, by rw [metN_zero]; exact h1⟩
  case round =>
    obtain ⟨i, hil, rfl, hS, hN⟩ := hrel
    have hIA := hI.stp h hS
    by_cases hlt : i < 16
    · have hz1 : (0 : Int) ≤ (i : Int) := by omega
      have hz2 : (i : Int) < 16 := by omega
      have hw3 : IntKind.i64.wrap ((i : Int) + 1) = ((i + 1 : Nat) : Int) := by rw [IntKind.wrap_i64]; omega
      have HH := hasF L a c (i : Int) _ hIA.ia (by omega)
      have hwf : (Lit.int .i64 (i : Int)).wf = true := WalkArith.wf_i64 (by omega)
      by_cases hin : (i : Int) ∈ L
      · rw [decide_eq_true hin] at HH
        have hmn := metN_in (N := N) hin
        go_wp2_with (go_at_call 117; refine HH.mono ?_; rintro e w2 ⟨rfl, hw2⟩; clear HH)
        have hS2 := hS.trans (Stp.below hw2)
        have hN2 := hN.below hw2
        rw [← hmn] at hN2
        go_roundw
        case rel => exact ⟨i + 1, by omega, by go_num, hS2, hN2⟩
        case measure => simp [intOf]; omega
      · rw [decide_eq_false hin] at HH
        have hmn := metN_out (N := N) hin
        generalize metN N L i = N0 at *
        go_wp2_with (first
          | (go_at_call 117; refine HH.mono ?_; rintro e w2 ⟨rfl, hw2⟩; clear HH; have hN2 := hN.below hw2; have c16 := hN2.c16)
          | (with_reducible refine at_list ?_; first
            | (refine wpList_dropM (op := ⟨none, .call { callee := .builtin .delete, args := #[.tmp 18, .tmp 19], argTypes := #[61, 3] }, _, _, _, _⟩) rfl 61 _ _ rfl hN2.next Tryz.underlying61 rfl rfl hwf ?_; intro w3 hm3 hg3; have hN3 := hN2.toNext (MI.upd hm3) hg3; have c17 := hN3.c17)
            | (refine wpList_dropM (op := ⟨none, .call { callee := .builtin .delete, args := #[.tmp 23, .tmp 24], argTypes := #[61, 3] }, _, _, _, _⟩) rfl 61 _ _ rfl hN3.had Tryz.underlying61 rfl rfl hwf ?_; intro w4 hm4 hg4; have hN4 := hN3.toHad (MI.upd hm4) hg4; have c18 := hN4.c18)
            | (refine wpList_dropM (op := ⟨none, .call { callee := .builtin .delete, args := #[.tmp 28, .tmp 29], argTypes := #[61, 3] }, _, _, _, _⟩) rfl 61 _ _ rfl hN4.ends Tryz.underlying61 rfl rfl hwf ?_; intro w5 hm5 hg5; have hN5 := hN4.toEnds (MI.upd hm5) hg5)))
        have hS5 := (((hS.trans (Stp.below hw2)).trans (Stp.grown hg3 own_bn)).trans (Stp.grown hg4 own_bh)).trans (Stp.grown hg5 own_be)
        go_roundw
        case rel => exact ⟨i + 1, by omega, by go_num, hS5, by rw [hmn]; exact hN5⟩
        case measure => simp [intOf]; omega
    · obtain rfl : i = 16 := by omega
      have hz2 : ¬ ((16 : Int) < 16) := by omega
      generalize hN1 : metN N L 16 = N1 at *
      have hbd : Bnd N1 := by rw [← hN1]; exact hb.met L 16
      have hme1 : N1.me = N.me := by rw [← hN1]; rfl
      have hX1 : N1.keys = N.keys := by rw [← hN1]; rfl
      have hl1 : N1.last = N.last := by rw [← hN1]; rfl
      clear hN1
      go_wp2_with fail
      go_loopw [33] (fun v33 wl => ∃ j : Nat, j ≤ L.length ∧ v33 = .int .i64 j ∧ Stp nb M F F lb lb w1 wl ∧ ND F nb M lb wl (mt2 N1 L j)) (fun v33 _ => L.length - (intOf v33).toNat)
      case atStart => exact ⟨0, by omega, rfl, hS, by rw [mt2_zero]; exact hN⟩
      case round =>
        clear hS hN hIA
        obtain ⟨j, hjl, rfl, hS, hN⟩ := hrel
        have hIA := hI.stp h hS
        by_cases hlt : j < L.length
        · obtain ⟨g, o, rfl⟩ := hIA.ia.ex (by omega)
          have ci := hIA.ia.cell hlt
          have hz1 : (0 : Int) ≤ (j : Int) := by omega
          have hz2 : (j : Int) < (L.length : Int) := by omega
          have hz3 : j < L.length := hlt
          have hw3 : IntKind.i64.wrap ((j : Int) + 1) = ((j + 1 : Nat) : Int) := by rw [IntKind.wrap_i64]; omega
          have hmem : L.getD j 0 ∈ L := by
            rw [List.getD_eq_getElem?_getD, List.getElem?_eq_getElem hlt]; exact List.getElem_mem hlt
          have hx16 := hml.2 _ hmem
          have hno := mt2_no (N := N1) hlt
          have hye := mt2_yes (N := N1) hlt
          have hb2 := hbd.mt2 L j
          have hme2 : (mt2 N1 L j).me = N1.me := rfl
          have hk2 : (mt2 N1 L j).keys = N1.keys := rfl
          have hl2 : (mt2 N1 L j).last = N1.last := rfl
          have HLa := fun W (hW : ND F nb M lb W (mt2 N1 L j)) => last_any F nb M lb W _ hW hb2
          rw [hl2] at HLa
          clear hmem hl2
          generalize L.getD j 0 = x at *
          have hxwf : (Lit.int .i64 x).wf = true := WalkArith.wf_i64 (by omega)
          have hgx := hN.next.get x hxwf
          have c16 := hN.c16
          have c0 := hN.c0
          by_cases hx0 : (mt2 N1 L j).next x = 0
          · by_cases hxm : x = N1.me
            · replace hno := hno (.inr hxm)
              have d1 : (x != (mt2 N1 L j).me) = false := by rw [hme2, hxm]; simp
              rw [hx0] at hgx
              clear hye HLa
              rw [← hno] at hN
              clear hno hx0 hme2 hk2 hxm
              generalize mt2 N1 L j = N2 at *
              go_wp2_with fail
              go_roundw
              case rel => exact ⟨j + 1, by omega, by go_num, hS, hN⟩
              case measure => simp [intOf]; omega
            · replace hye := hye hx0 hxm
              have d1 : (x != (mt2 N1 L j).me) = true := by rw [hme2, bne_iff_ne]; exact hxm
              rw [hx0] at hgx
              have hlwf : (Lit.int .i64 (N1.last + 1)).wf = true := WalkArith.wf_i64 (by omega)
              have hwl : IntKind.i64.wrap (N1.last + 1) = N1.last + 1 := by rw [IntKind.wrap_i64]; omega
              have hxX : x ∈ S16 ++ (mt2 N1 L j).keys := List.mem_append_left _ (by simp; omega)
              have hXl : (S16 ++ (mt2 N1 L j).keys).length < maxLen := by
                have h5 := hbd.keys
                rw [List.length_append, hk2]
                exact Nat.lt_of_le_of_lt (Nat.add_le_add_left h5 _) (by decide)
              clear hno hx0 hme2 hk2 hlast' hl1 hme1 hX1
              generalize mt2 N1 L j = N2 at *
              go_upto_region 13 with fail
              have hNd := hN.drew
              have hw2d := fun w0 : World => (Below.refl w0.heap.size w0).drew
              refine wp_region_held_drew (S := fun w' : World => ND F nb M lb w' N2 ∨ ND F nb M lb w' { N2 with next := fun j => if j = x then N1.last + 1 else N2.next j }) (by kernel_rfl) (.inl hNd) (fun hH => ?_)
              try go_frame
              refine wpAnyH_take (i := 0) (oi := ⟨some 52, _, _, _, _, _⟩) (v := .pointer (some ⟨nb, 0, none⟩)) rfl (by kernel_rfl) (by kernel_rfl) (by kernel_rfl) (fun _ _ _ h => h) (Or.inl ⟨by rfl, fun w hSw => by go_simp⟩) hH ?_
              try simp only [Act.put, List.setIfInBounds_toArray, List.set_cons_zero, List.set_cons_succ]
              refine wpAnyH_take (i := 1) (oi := ⟨some 53, _, _, _, _, _⟩) (v := .pointer (some ⟨nb, 0, none⟩)) rfl (by kernel_rfl) (by kernel_rfl) (by kernel_rfl) (fun _ _ _ h => h) (Or.inl ⟨by rfl, fun w hSw => by go_simp⟩) hH ?_
              try simp only [Act.put, List.setIfInBounds_toArray, List.set_cons_zero, List.set_cons_succ]
              refine wpAnyH_take (i := 2) (oi := ⟨some 54, _, _, _, _, _⟩) (v := .pointer (some ⟨nb, 16, none⟩)) rfl (by kernel_rfl) (by kernel_rfl) (by kernel_rfl) (fun _ _ _ h => h) (Or.inl ⟨by rfl, fun w hSw => by go_simp⟩) hH ?_
              try simp only [Act.put, List.setIfInBounds_toArray, List.set_cons_zero, List.set_cons_succ]
              refine wpAnyH_take (i := 3) (oi := ⟨some 55, _, _, _, _, _⟩) (v := .map (some M.bn)) rfl (by kernel_rfl) (by kernel_rfl) (by kernel_rfl) (fun _ _ _ h => h) (Or.inl ⟨by rfl, fun w hSw => run_loadC _ _ rfl _ _ rfl _ Tryz.underlying61 rfl _ (hSw.elim (fun h => h.c16) (fun h => h.c16))⟩) hH ?_
              try simp only [Act.put, List.setIfInBounds_toArray, List.set_cons_zero, List.set_cons_succ]
              refine wpAnyH_take (i := 4) (oi := ⟨some 56, _, _, _, _, _⟩) (v := .int .i64 x) rfl (by kernel_rfl) (by kernel_rfl) (by kernel_rfl) (fun _ _ _ h => h) (Or.inl ⟨by rfl, fun w hSw => by go_simp⟩) hH ?_
              try simp only [Act.put, List.setIfInBounds_toArray, List.set_cons_zero, List.set_cons_succ]
              refine wpAnyH_take (i := 5) (oi := ⟨some 57, _, _, _, _, _⟩) (v := .pointer (some ⟨nb, 0, none⟩)) rfl (by kernel_rfl) (by kernel_rfl) (by kernel_rfl) (fun _ _ _ h => h) (Or.inl ⟨by rfl, fun w hSw => by go_simp⟩) hH ?_
              try simp only [Act.put, List.setIfInBounds_toArray, List.set_cons_zero, List.set_cons_succ]
              refine wpAnyH_solo (i := 6) (o := ⟨some 58, _, _, _, _, _⟩) rfl (by kernel_rfl) (fun K hK => ?_)
              refine wpList_callR Tryz.func99 (by kernel_rfl) (by kernel_rfl) rfl _ _ rfl #[.pointer (some ⟨nb, 0, none⟩)] (args1 rfl) _ (HLa _ hNd) ?_
              rintro e w2 ⟨rfl, hw2⟩
              have hN2w := hNd.below hw2
              refine ⟨_, rfl, ?_⟩
              refine hK _ _ (.inl hN2w) ?_
              replace hH : (ND F nb M lb w2 N2 ∨ ND F nb M lb w2 { N2 with next := fun j => if j = x then N1.last + 1 else N2.next j }) := .inl hN2w
              clear hK K
              try simp only [Act.put, List.setIfInBounds_toArray, List.set_cons_zero, List.set_cons_succ]
              refine wpAnyH_take (i := 7) (oi := ⟨some 59, _, _, _, _, _⟩) (v := .int .i64 (N1.last + 1)) rfl (by kernel_rfl) (by kernel_rfl) (by kernel_rfl) (fun _ _ _ h => h) (Or.inl ⟨by rfl, fun w hSw => by go_simp⟩) hH ?_
              try simp only [Act.put, List.setIfInBounds_toArray, List.set_cons_zero, List.set_cons_succ]
              refine wpAnyH_solo (i := 8) (o := ⟨none, _, _, _, _, _⟩) rfl (by kernel_rfl) (fun K hK => ?_)
              refine wpList_putM rfl 61 _ _ _ rfl hN2w.next Tryz.underlying61 hXl rfl rfl hxwf hxX rfl (plainElem_int Tryz.underlying3 hlwf) ?_
              intro w3 hm3 hg3
              have hN3 := hN2w.toNext (MI.upd hm3) hg3
              refine hK _ _ (.inr hN3) ?_
              clear hK K
              try simp only [Act.put]
              refine wpAnyH_done (by kernel_rfl) ?_ _
              try simp only [Act.put]
              try go_simp
              go_wp2_with fail
              have hS3 := ((hS.trans (Stp.below (hw2d _))).trans (Stp.below hw2)).trans (Stp.grown hg3 own_bn)
              go_roundw
              case rel => exact ⟨j + 1, by omega, by go_num, hS3, by rw [hye]; exact hN3⟩
              case measure => simp [intOf]; omega
          · replace hno := hno (.inl hx0)
            have d0 : ((mt2 N1 L j).next x == 0) = false := beq_eq_false_iff_ne.2 hx0
            rw [← hno] at hN
            clear hye HLa hno hx0 hme2 hk2
            generalize mt2 N1 L j = N2 at *
            go_wp2_with fail
            go_roundw
            case rel => exact ⟨j + 1, by omega, by go_num, hS, hN⟩
            case measure => simp [intOf]; omega
        · obtain rfl : j = L.length := by omega
          have hz2 : ¬ ((L.length : Int) < (L.length : Int)) := by omega
          generalize mt2 N1 L L.length = N2 at *
          go_wp2_with fail
          go_end0
          exact ⟨rfl, (Stp.below hw1).trans hS, hN⟩
end
end Go.Proofs.YtnhlejdilldfaaaGreat
