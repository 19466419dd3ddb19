/- Who takes part by the last entry that says so. latest, Members, upTo, latestUpTo of a replica. latestUpTo, from, tell and piece of a replica. -/
import Derived.Test.YtnhlejdilldfaaaGreatRcl
import Derived.Deep.RegionWith
namespace Go.Proofs.YtnhlejdilldfaaaGreat
open Go Go.RowKit Go.Maps
set_option maxRecDepth 100000 in
set_option maxHeartbeats 800000 in
theorem latestF (base : List Int) (l : List LE) (a b : Option Addr) (ca cb : Nat) (w : World) (hA : IA w a base) (hb : base.length ≤ 17592186044416) (hE : EA w b l) (hl : l.length ≤ 17592186044416) : Calls Tryz.prog 100 #[.slice a base.length ca, .slice b l.length cb] w fun e w' => ∃ (x : Option Addr) (c : Nat), e = .returned (.tuple #[.slice x (ltM base l l.length).1.length c, .int .i64 ((ltM base l l.length).2 : Int)]) ∧ IF (NewB w w') w' x (ltM base l l.length).1 ∧ Below w.heap.size w w' := by
  have HC := fun (m : List Int) x c w (h : IA w x m) (hm : m.length ≤ 17592186044416) => sclF x m c w h hm
  obtain ⟨R, hR0⟩ : ∃ R, ltM base l l.length = R := ⟨_, rfl⟩
  rw [hR0]
  have hR : Hid (ltM base l l.length = R) := hR0
  clear hR0
  have hBel := Below.refl w.heap.size w
  go_enter Tryz.func100, Tryz.ntmps100
  go_wp2_with fail
  go_loopw [6] (fun v6 wl => ∃ i : Nat, i ≤ l.length ∧ v6 = .int .i64 i ∧ Hid (ltM base l i = R) ∧ wl = w) (fun v6 _ => (intOf v6).toNat)
  case atStart => exact ⟨l.length, by omega, rfl, hR, rfl⟩
  case round =>
    obtain ⟨i, hil, rfl, hI, hw⟩ := hrel
    have hw2 := hw.symm
    subst hw2
    clear hw
    by_cases h0 : 0 < i
    · obtain ⟨j, rfl⟩ : ∃ j, i = j + 1 := ⟨i - 1, by omega⟩
      have hj : j < l.length := by omega
      obtain ⟨g, o, rfl⟩ := hE.ex (by omega)
      obtain ⟨ma, cm, c2, c3, hIm, hml⟩ := hE.at j hj
      have hz0 : (0 : Int) < ((j + 1 : Nat) : Int) := by omega
      have hz1 : (0 : Int) ≤ (j : Int) := by omega
      have hz2 : (j : Int) < (l.length : Int) := by omega
      have hw1 : IntKind.i64.wrap (((j + 1 : Nat) : Int) - 1) = (j : Int) := by rw [IntKind.wrap_i64]; omega
      have hw2 : IntKind.i64.wrap (j : Int) = (j : Int) := by rw [IntKind.wrap_i64]; omega
      have hd : decide ((0 : Int) < (j : Int) + 1) = true := decide_eq_true (by omega)
      cases hc : l[j].conf with
      | true =>
        have hy := ltM_yes (base := base) hj hc
        rw [hI.out] at hy
        rw [hc] at c2
        generalize l[j].mem = mm at *
        subst hy
        have H1 := HC _ ma cm _ hIm hml
        clear hc hI hR HC hE
        go_wp2_with (go_at_call 61; refine H1.mono ?_; rintro e w1 ⟨x, c, rfl, h1, h2⟩; clear H1)
        go_ret2
        exact ⟨x, ⟨c, rfl⟩, h1, h2⟩
      | false =>
        have hy := ltM_no (base := base) hj hc
        have hI2 : Hid (ltM base l j = R) := by show _ = _; rw [← hy]; exact hI.out
        rw [hc] at c2
        clear hc hI hy hR
        go_wp2_with fail
        go_roundw
        case rel => exact ⟨j, by omega, by go_num, hI2, by trivial⟩
        case measure => simp [intOf]
    · obtain rfl : i = 0 := by omega
      have hy : R = (base, 0) := by rw [← hI.out]; rfl
      subst hy
      have H1 := HC _ a ca _ hA (Nat.le_trans hb (by decide))
      clear hI hR HC hE
      go_wp2_with (go_at_call 61; refine H1.mono ?_; rintro e w1 ⟨x, c, rfl, h1, h2⟩; clear H1)
      go_ret2
      exact ⟨x, ⟨c, rfl⟩, h1, h2⟩
end Go.Proofs.YtnhlejdilldfaaaGreat
namespace Go.Proofs.YtnhlejdilldfaaaGreat
open Go Go.RowKit Go.Maps
theorem ltM_le (base : List Int) (l : List LE) : ∀ i, (ltM base l i).2 ≤ i
  | 0 => Nat.le_refl _
  | i + 1 => by
    show (if h : i < l.length then bif l[i].conf then (l[i].mem, i + 1) else ltM base l i else ltM base l i).2 ≤ _
    by_cases h : i < l.length
    · rw [dif_pos h]
      cases l[i].conf
      · exact Nat.le_succ_of_le (ltM_le base l i)
      · exact Nat.le_refl _
    · rw [dif_neg h]
      exact Nat.le_succ_of_le (ltM_le base l i)
section
variable (F : Nat → Prop) (nb : Nat) (M : NM) (lb : Option Nat) (w : World) (N : RN)
set_option maxRecDepth 100000 in
theorem latestN (h : ND F nb M lb w N) (hb : Bnd N) : Calls Tryz.prog 73 #[.pointer (some ⟨nb, 0, none⟩)] w fun e w' => ∃ x c, e = .returned (.tuple #[.slice x N.mems.length c, .int .i64 N.confAt]) ∧ IF (NewB w w') w' x N.mems ∧ Below w.heap.size w w' := by
  have hd := h.drew
  have c3 := h.c3
  have d3 := hd.c3
  obtain ⟨lv, c7, hL, _⟩ := hd.c7
  obtain ⟨a, cap, rfl, hlc, hE, _⟩ := hL.sl
  obtain ⟨ba, ca, c6, hI⟩ := hd.c6
  have HL := latestF N.k.bconf N.k.log ba a ca cap w.drew hI.ia hb.bconf hE (Nat.le_trans hb.log (by decide))
  have hw : ∀ n : Nat, n ≤ N.k.log.length → IntKind.i64.wrap (N.k.bi + (n : Nat)) = N.k.bi + (n : Nat) := fun n hn => by
    have h1 := hb.bi
    have h2 := hb.last
    rw [IntKind.wrap_i64]
    omega
  replace hw := hw _ (ltM_le N.k.bconf N.k.log N.k.log.length)
  have hc : N.confAt = N.k.bi + ((ltM N.k.bconf N.k.log N.k.log.length).2 : Nat) := rfl
  have hm : N.mems = (ltM N.k.bconf N.k.log N.k.log.length).1 := rfl
  rw [hc, hm]
  have hc3 : ∀ w2, Below w.heap.size w w2 → w2.cell? ⟨nb, 3, none⟩ = some (.int .i64 N.k.bi) := fun w2 hb => (h.below hb).c3
  clear hc hm hE hI
  generalize ltM N.k.bconf N.k.log N.k.log.length = R at *
  obtain ⟨R1, R2⟩ := R
  go_enter Tryz.func73, Tryz.ntmps73
  go_upto_region 1 with fail
  go_cut [4, 5] from 4 to 19 (fun v4 v5 wx => ∃ x c, v4 = .slice x R1.length c ∧ v5 = .int .i64 (R2 : Nat) ∧ IF (NewB w wx) wx x R1 ∧ Below w.heap.size w wx)
  case first =>
    go_region_with (go_at_call 100; refine HL.mono ?_; rintro e w1 ⟨x, c, rfl, hI, hw1⟩)
    all_goals go_wp2_with fail
    all_goals go_meet
    all_goals exact ⟨x, c, rfl, rfl, hI.kept (fun _ _ => rfl) (fun _ hk => hk), bl_ca (Below.refl _ _).drew hw1⟩
  case rest =>
    obtain ⟨x, c, rfl, rfl, hI, hw1⟩ := hcut
    have e3 := hc3 _ hw1
    have hw2 := hw1.drew
    clear hc3 HL
    go_wp2_with fail
    go_quiet (fail)
    go_wp2_with fail
    go_ret2
    exact ⟨x, c, rfl, hI.kept (fun _ _ => rfl) (fun _ hk => hk), bl_drn hw1 _⟩
set_option maxRecDepth 100000 in
theorem membersN (h : ND F nb M lb w N) (hb : Bnd N) : Calls Tryz.prog 36 #[.pointer (some ⟨nb, 0, none⟩)] w fun e w' => ∃ x c, e = .returned (.slice x N.mems.length c) ∧ IF (NewB w w') w' x N.mems ∧ Below w.heap.size w w' := by
  have HN := none_any F nb M lb w N h
  have HL := latestN F nb M lb w N h hb
  generalize N.mems = R1 at *
  go_enter Tryz.func36, Tryz.ntmps36
  go_wp2_with (first
    | (go_at_call 63; refine HN.mono ?_; rintro e w1 ⟨rfl, hw1⟩; replace hw1 := hw1.symm; subst hw1; clear HN)
    | (go_at_call 73; refine HL.mono ?_; rintro e w1 ⟨x, c, rfl, hI, hw1⟩; clear HL))
  go_ret
  exact ⟨x, c, rfl, hI, hw1⟩
theorem LG.take {F : Nat → Prop} {w : World} {a : Option Addr} {n cap : Nat} {l : List LE} (h : LG F w (.slice a n cap) l) (k : Nat) (hk : k ≤ l.length) : LG F w (.slice a k k) (l.take k) := by
  obtain ⟨ls, hG, hl, hls⟩ := h
  refine ⟨ls.take k, ⟨fun x hx => hG.1 x (List.mem_of_mem_take hx), ?_⟩, by rw [List.length_take, List.length_take, hl], fun i hi => ?_⟩
  · rcases hG.2 with ⟨rfl, e⟩ | ⟨g, cp, h1, e, cur, h2, h3, h4, h5⟩
    · cases e
      obtain rfl : k = 0 := by simp at hl; omega
      exact .inl ⟨rfl, rfl⟩
    · cases e
      refine .inr ⟨g, k, h1, by rw [List.length_take]; congr 1; omega, cur, h2, by rw [List.length_take]; omega, by omega, fun j v hj => h5 j v ?_⟩
      have h6 : (ls.take k).flatten ++ (ls.drop k).flatten = ls.flatten := by rw [← List.flatten_append, List.take_append_drop]
      rw [← h6, List.getElem?_append_left (List.getElem?_eq_some_iff.1 hj).1]
      exact hj
  · rw [List.length_take] at hi
    obtain ⟨ma, mc, h1, h2⟩ := hls i (by omega)
    rw [List.getElem_take]
    exact ⟨ma, mc, by rw [List.getElem?_take_of_lt (by omega)]; exact h1, h2⟩
set_option maxRecDepth 100000 in
theorem upTo_any (h : ND F nb M lb w N) (hb : Bnd N) (i : Int) (hi : N.k.bi ≤ i) (hl : i ≤ N.last) : Calls Tryz.prog 103 #[.pointer (some ⟨nb, 0, none⟩), .int .i64 i] w fun e w' => ∃ a, e = .returned (.slice a (N.upTo i).length (N.upTo i).length) ∧ LG F w (.slice a (N.upTo i).length (N.upTo i).length) (N.upTo i) ∧ slBlk (.slice a 0 0) = lb ∧ w' = w := by
  have c3 := h.c3
  obtain ⟨lv, c7, hL, hB⟩ := h.c7
  obtain ⟨a, cap, rfl, hc, _, _⟩ := hL.sl
  obtain ⟨k, rfl⟩ : ∃ k : Nat, i = N.k.bi + k := ⟨(i - N.k.bi).toNat, by omega⟩
  have hk : k ≤ N.k.log.length := by unfold RN.last at hl; omega
  have hu : N.upTo (N.k.bi + k) = N.k.log.take k := by unfold RN.upTo; rw [show (N.k.bi + (k : Int) - N.k.bi).toNat = k by omega]
  have hul : (N.upTo (N.k.bi + k)).length = k := by rw [hu, List.length_take]; omega
  rw [hul, hu]
  have hT := hL.take k hk
  have h1 := hb.bi
  have h2 := hb.last
  have hw1 : IntKind.i64.wrap (N.k.bi + (k : Int) - N.k.bi) = (k : Int) := by rw [IntKind.wrap_i64]; omega
  have hz1 : (0 : Int) ≤ (k : Int) := by omega
  have hz2 : k ≤ cap := by omega
  have hz3 : (k : Int) ≤ (cap : Int) := by omega
  have hB2 : slBlk (.slice a 0 0) = lb := by rw [← hB]; cases a <;> rfl
  clear hL hu hul hB hi hl
  go_enter Tryz.func103, Tryz.ntmps103
  go_wp2_with fail
  go_ret
  exact ⟨a, rfl, hT, hB2, rfl⟩
end
end Go.Proofs.YtnhlejdilldfaaaGreat
namespace Go.Proofs.YtnhlejdilldfaaaGreat
open Go Go.RowKit Go.Maps
theorem LG.ea {F : Nat → Prop} {w : World} {a : Option Addr} {n c : Nat} {l : List LE} (h : LG F w (.slice a n c) l) : EA w a l := by
  obtain ⟨a', c', e, _, hE, _⟩ := h.sl
  cases e
  exact hE
theorem EA.from {w : World} {g o : Nat} {l : List LE} (h : EA w (some ⟨g, o, none⟩) l) (k m : Nat) : EA w (some ⟨g, o + k * 4, none⟩) ((l.drop k).take m) := fun i hi => by
  rw [List.length_take, List.length_drop] at hi
  obtain ⟨g', o', ma, mc, e, h1, h2, h3⟩ := h (k + i) (by omega)
  simp only [Option.some.injEq, Addr.mk.injEq, and_true] at e
  obtain ⟨rfl, rfl⟩ := e
  have he : ((l.drop k).take m)[i]'(by rw [List.length_take, List.length_drop]; omega) = l[k + i] := by rw [List.getElem_take, List.getElem_drop]
  rw [he]
  exact ⟨g, o + k * 4, ma, mc, rfl, by rw [show o + k * 4 + i * 4 = o + (k + i) * 4 by omega]; exact h1, h2, h3⟩
section
variable (F : Nat → Prop) (nb : Nat) (M : NM) (lb : Option Nat) (w : World) (N : RN)
set_option maxRecDepth 100000 in
set_option maxHeartbeats 800000 in
theorem latestUpTo_any (h : ND F nb M lb w N) (hb : Bnd N) (i : Int) (hi : N.k.bi ≤ i) (hl : i ≤ N.last) : Calls Tryz.prog 76 #[.pointer (some ⟨nb, 0, none⟩), .int .i64 i] w fun e w' => ∃ x c, e = .returned (.slice x (N.memsUpTo i).length c) ∧ IF (NewB w w') w' x (N.memsUpTo i) ∧ Below w.heap.size w w' := by
  have hd := h.drew
  obtain ⟨ba, ca, c6, hI⟩ := hd.c6
  have HU := upTo_any F nb M lb w.drew N hd hb i hi hl
  have hlen : (N.upTo i).length ≤ 17592186044416 := by
    unfold RN.upTo
    rw [List.length_take]
    have := hb.log
    omega
  have HL := fun a (hE : EA w.drew a (N.upTo i)) => latestF N.k.bconf (N.upTo i) ba a ca (N.upTo i).length w.drew hI.ia hb.bconf hE hlen
  have hm : N.memsUpTo i = (ltM N.k.bconf (N.upTo i) (N.upTo i).length).1 := rfl
  rw [hm]
  clear hm hI
  generalize ltM N.k.bconf (N.upTo i) (N.upTo i).length = R at *
  obtain ⟨R1, R2⟩ := R
  generalize N.upTo i = U at *
  go_enter Tryz.func76, Tryz.ntmps76
  go_upto_region 1 with fail
  go_cut [5] from 5 to 18 (fun v5 wx => ∃ x c, v5 = .slice x R1.length c ∧ IF (NewB w wx) wx x R1 ∧ Below w.heap.size w wx)
  case first =>
    go_region_with (first
      | (go_at_call 103; refine HU.mono ?_; rintro e w1 ⟨a, rfl, hT, _, hw1⟩; replace hw1 := hw1.symm; subst hw1; have hE := hT.ea)
      | (go_at_call 100; refine (HL _ hE).mono ?_; rintro e w1 ⟨x, c, rfl, hI, hw1⟩))
    all_goals go_wp2_with fail
    all_goals go_meet
    all_goals exact ⟨x, c, rfl, hI.kept (fun _ _ => rfl) (fun _ hk => hk), bl_ca (Below.refl _ _).drew hw1⟩
  case rest =>
    obtain ⟨x, c, rfl, hI, hw1⟩ := hcut
    clear HL HU
    go_wp2_with fail
    go_ret
    exact ⟨x, c, rfl, hI, hw1⟩
set_option maxRecDepth 100000 in
set_option maxHeartbeats 800000 in
theorem from_any (h : ND F nb M lb w N) (hb : Bnd N) (k : Nat) (hk : k ≤ N.k.log.length) : Calls Tryz.prog 116 #[.pointer (some ⟨nb, 0, none⟩), .int .i64 (N.k.bi + 1 + k)] w (CeP w ((N.k.log.drop k).take 16)) := by
  have c3 := h.c3
  obtain ⟨lv, c7, hL, _⟩ := h.c7
  obtain ⟨a, cap, rfl, hc, hE, ho⟩ := hL.sl
  have h1 := hb.bi
  have h2 := hb.last
  have h3 := hb.log
  have hw1 : IntKind.i64.wrap (N.k.bi + 1 + (k : Int) - N.k.bi) = 1 + (k : Int) := by rw [IntKind.wrap_i64]; omega
  have hw2 : IntKind.i64.wrap (1 + (k : Int) - 1) = (k : Int) := by rw [IntKind.wrap_i64]; omega
  have hw3 : IntKind.i64.wrap ((k : Int) + 16) = (k : Int) + 16 := by rw [IntKind.wrap_i64]; omega
  have hz1 : (0 : Int) ≤ (k : Int) := by omega
  by_cases hkl : k = N.k.log.length
  · have HC0 := cloneEntries_any a [] 0 w (fun i hi => by simp at hi) (by decide)
    have hL0 : (N.k.log.drop k).take 16 = [] := by rw [hkl, List.drop_length]; rfl
    rw [hL0]
    have hm : ¬ ((k : Int) + 16 ≤ (k : Int)) := by omega
    have hm2 : (k : Int) < (k : Int) + 16 := by omega
    have hz3 : (k : Int) ≤ (cap : Int) := by omega
    have hz4 : k ≤ cap := by omega
    rw [← hkl] at c7
    clear hL0 hE hL hkl hk h2 h3 hc h hb
    rw [List.length_nil] at HC0
    go_enter Tryz.func116, Tryz.ntmps116
    go_wp2_with (go_at_call 85; refine HC0.mono ?_; rintro e w1 ⟨v, rfl, hv⟩; clear HC0)
    go_ret
    exact ⟨_, rfl, hv⟩
  · obtain ⟨b, rfl⟩ : ∃ b, a = some b := by
      cases a with
      | none =>
        obtain ⟨g, o, e⟩ := hE.ex (by omega)
        cases e
      | some b => exact ⟨b, rfl⟩
    obtain ⟨g, rfl⟩ := ho b rfl
    by_cases hbig : N.k.log.length < k + 16
    · have hL0 : (N.k.log.drop k).take 16 = N.k.log.drop k := List.take_of_length_le (by rw [List.length_drop]; omega)
      have hE2 := hE.from k 16
      rw [hL0] at hE2
      rw [hL0]
      have HC0 := cloneEntries_any _ (N.k.log.drop k) (N.k.log.length - k) w hE2 (by rw [List.length_drop]; omega)
      rw [List.length_drop, Nat.zero_add] at HC0
      have hm2 : (N.k.log.length : Int) < (k : Int) + 16 := by omega
      have hn2 : ¬ (N.k.log.length - k = 0) := by omega
      have hz2 : (k : Int) ≤ (N.k.log.length : Int) := by omega
      have hz3 : (N.k.log.length : Int) ≤ (cap : Int) := by omega
      clear hL0 hE hE2 hL hkl h2 h3 h hb ho
      generalize N.k.log.drop k = L at *
      generalize N.k.log.length = n at *
      go_enter Tryz.func116, Tryz.ntmps116
      go_wp2_with (go_at_call 85; refine HC0.mono ?_; rintro e w1 ⟨v, rfl, hv⟩; clear HC0)
      go_ret
      exact ⟨_, rfl, hv⟩
    · have hE2 := hE.from k 16
      have hl16 : ((N.k.log.drop k).take 16).length = 16 := by rw [List.length_take, List.length_drop]; omega
      have HC0 := cloneEntries_any _ ((N.k.log.drop k).take 16) 16 w hE2 (by rw [hl16]; decide)
      rw [hl16, Nat.zero_add] at HC0
      have hm2 : ¬ ((N.k.log.length : Int) < (k : Int) + 16) := by omega
      have hz2 : (k : Int) ≤ (k : Int) + 16 := by omega
      have hz3 : (k : Int) + 16 ≤ (cap : Int) := by omega
      clear hl16 hE hE2 hL hkl h2 h3 h hb ho
      generalize (N.k.log.drop k).take 16 = L at *
      generalize N.k.log.length = n at *
      go_enter Tryz.func116, Tryz.ntmps116
      have hk1 : ((k : Int) + 16).toNat = k + 16 := by omega
      go_wp2_with (go_at_call 85; first
        | (refine HC0.mono ?_; rintro e w1 ⟨v, rfl, hv⟩; clear HC0)
        | (trace_state; fail))
      go_ret
      exact ⟨_, rfl, hv⟩
end
end Go.Proofs.YtnhlejdilldfaaaGreat
