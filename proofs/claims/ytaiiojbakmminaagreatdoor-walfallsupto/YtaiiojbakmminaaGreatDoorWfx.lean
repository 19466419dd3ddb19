/- What same of the law tells of any texts. What WalPlays knows of its log. What WalFalls knows of its log. -/
import Derived.Test.YtaiiojbakmminaaGreatDoorWge
import Derived.Test.YtaiiojbakmminaaGreatDoorWac
namespace Go.Proofs.YtaiiojbakmminaaGreatDoor
open Go Go.RowKit
theorem take_step {l m : List B} {i : Nat} {x : B} (h : l.take i = m.take i) (h1 : l[i]? = some x) (h2 : m[i]? = some x) : l.take (i + 1) = m.take (i + 1) := by rw [take_snoc h1, take_snoc h2, h]
set_option maxRecDepth 100000 in
set_option maxHeartbeats 2000000 in
theorem same_any (l1 l2 : List B) (a1 a2 : Option Addr) (c1 c2 : Nat) (w : World) (h1 : TA w a1 l1) (h2 : TA w a2 l2) (hl : l1.length ≤ 1000000) (hl2 : l2.length ≤ 1000000) :
    Calls Tryz.prog 19 #[.slice a1 l1.length c1, .slice a2 l2.length c2] w fun e w' => ∃ r : Bool, e = .returned (.bool r) ∧ (r = true ↔ l1 = l2) ∧ Below w.heap.size w w' := by
  by_cases hlen : l1.length = l2.length
  · by_cases heq : l1 = l2
    · subst heq
      refine (same_true l1 a1 a2 c1 c2 w h1 h2 hl).mono ?_
      rintro e w' ⟨rfl, hb⟩
      exact ⟨true, rfl, by simp, hb⟩
    obtain ⟨n, hn⟩ : ∃ n, Hid (n = l1.length) := ⟨_, rfl⟩
    have hn2 : Hid (n = l2.length) := by show _ = _; rw [hn.out, hlen]
    have hnl : n ≤ 1000000 := by rw [hn.out]; exact hl
    have hf1 : ∀ i, i < n → ∃ x, l1[i]? = some x := fun i hi => ⟨_, List.getElem?_eq_getElem (by rw [← hn.out]; exact hi)⟩
    have hf2 : ∀ i, i < n → ∃ x, l2[i]? = some x := fun i hi => ⟨_, List.getElem?_eq_getElem (by rw [← hn2.out]; exact hi)⟩
    have hall : Hid (¬ l1.take n = l2.take n) := by
      show ¬ _
      rw [hn.out, List.take_length]
      intro e
      apply heq
      rw [e, hlen, List.take_length]
    rw [← hn.out, ← hn2.out]
    clear hlen hl hl2 heq
    go_enter Tryz.func19, Tryz.ntmps19
    go_wp2_with fail
    go_loopw [5] (fun v5 wl => ∃ i : Nat, i ≤ n ∧ v5 = .int .i64 i ∧ Below w.heap.size w wl ∧ Hid (l1.take i = l2.take i)) (fun v5 _ => n - (intOf v5).toNat)
    case atStart => exact ⟨0, by omega, rfl, Below.refl _ _, rfl⟩
    case round =>
      obtain ⟨i, hil, rfl, hB, hpre⟩ := hrel
      by_cases hlt : i < n
      · have hz2 : (i : Int) < (n : Int) := by omega
        obtain ⟨x, hx⟩ := hf1 i hlt
        obtain ⟨y, hy⟩ := hf2 i hlt
        obtain ⟨g1, o1, rfl, hg1, k1⟩ := h1.at i x hx
        obtain ⟨g2, o2, rfl, hg2, k2⟩ := h2.at i y hy
        have hc1 : wr.drew.cell? ⟨g1, o1 + i, none⟩ = some (.string ⟨x.toArray⟩) := (hB.cell (p := ⟨g1, o1 + i, none⟩) hg1).trans k1
        have hc2 : wr.drew.cell? ⟨g2, o2 + i, none⟩ = some (.string ⟨y.toArray⟩) := (hB.cell (p := ⟨g2, o2 + i, none⟩) hg2).trans k2
        have hBd := hB.drew
        have hw1 : IntKind.i64.wrap ((i : Int) + 1) = (i : Int) + 1 := by rw [IntKind.wrap_i64]; omega
        by_cases hxy : x = y
        · have hnext : Hid (l1.take (i + 1) = l2.take (i + 1)) := take_step hpre.out hx (by rw [hy, hxy])
          subst hxy
          clear hx hy k1 k2
          go_wp2_with fail
          refine wp_region_held_drew (S := fun w' : World => w'.cell? ⟨g1, o1 + i, none⟩ = some (.string ⟨x.toArray⟩) ∧ w'.cell? ⟨g2, o2 + i, none⟩ = some (.string ⟨x.toArray⟩)) (by kernel_rfl) (⟨hc1, hc2⟩) (fun hH => ?_)
          try go_frame
          refine wpAnyH_take (i := 0) (oi := ⟨some 17, _, _, _, _, _⟩) (v := .slice (some ⟨g1, o1, none⟩) n c1) rfl (by kernel_rfl) (by kernel_rfl) (by kernel_rfl) (fun _ _ _ h => h) (Or.inl ⟨by rfl, fun w hSw => by go_simp⟩) hH ?_
          try simp only [Act.put, List.setIfInBounds_toArray, List.set_cons_zero, List.set_cons_succ]
          refine wpAnyH_take (i := 1) (oi := ⟨some 18, _, _, _, _, _⟩) (v := .int .i64 (i : Nat)) rfl (by kernel_rfl) (by kernel_rfl) (by kernel_rfl) (fun _ _ _ h => h) (Or.inl ⟨by rfl, fun w hSw => by go_simp⟩) hH ?_
          try simp only [Act.put, List.setIfInBounds_toArray, List.set_cons_zero, List.set_cons_succ]
          refine wpAnyH_take (i := 2) (oi := ⟨some 19, _, _, _, _, _⟩) (v := .pointer (some ⟨g1, o1 + i, none⟩)) rfl (by kernel_rfl) (by kernel_rfl) (by kernel_rfl) (fun _ _ _ h => h) (Or.inl ⟨by rfl, fun w hSw => by go_simp⟩) hH ?_
          try simp only [Act.put, List.setIfInBounds_toArray, List.set_cons_zero, List.set_cons_succ]
          refine wpAnyH_take (i := 3) (oi := ⟨some 20, _, _, _, _, _⟩) (v := .string ⟨x.toArray⟩) rfl (by kernel_rfl) (by kernel_rfl) (by kernel_rfl) (fun _ _ _ h => h) (Or.inl ⟨by rfl, fun w hSw => run_loadC _ _ rfl _ _ rfl _ Tryz.underlying9 rfl _ hSw.1⟩) hH ?_
          try simp only [Act.put, List.setIfInBounds_toArray, List.set_cons_zero, List.set_cons_succ]
          refine wpAnyH_take (i := 4) (oi := ⟨some 21, _, _, _, _, _⟩) (v := .slice (some ⟨g2, o2, none⟩) n c2) rfl (by kernel_rfl) (by kernel_rfl) (by kernel_rfl) (fun _ _ _ h => h) (Or.inl ⟨by rfl, fun w hSw => by go_simp⟩) hH ?_
          try simp only [Act.put, List.setIfInBounds_toArray, List.set_cons_zero, List.set_cons_succ]
          refine wpAnyH_take (i := 5) (oi := ⟨some 22, _, _, _, _, _⟩) (v := .int .i64 (i : Nat)) rfl (by kernel_rfl) (by kernel_rfl) (by kernel_rfl) (fun _ _ _ h => h) (Or.inl ⟨by rfl, fun w hSw => by go_simp⟩) hH ?_
          try simp only [Act.put, List.setIfInBounds_toArray, List.set_cons_zero, List.set_cons_succ]
          refine wpAnyH_take (i := 6) (oi := ⟨some 23, _, _, _, _, _⟩) (v := .pointer (some ⟨g2, o2 + i, none⟩)) rfl (by kernel_rfl) (by kernel_rfl) (by kernel_rfl) (fun _ _ _ h => h) (Or.inl ⟨by rfl, fun w hSw => by go_simp⟩) hH ?_
          try simp only [Act.put, List.setIfInBounds_toArray, List.set_cons_zero, List.set_cons_succ]
          refine wpAnyH_take (i := 7) (oi := ⟨some 24, _, _, _, _, _⟩) (v := .string ⟨x.toArray⟩) rfl (by kernel_rfl) (by kernel_rfl) (by kernel_rfl) (fun _ _ _ h => h) (Or.inl ⟨by rfl, fun w hSw => run_loadC _ _ rfl _ _ rfl _ Tryz.underlying9 rfl _ hSw.2⟩) hH ?_
          try simp only [Act.put, List.setIfInBounds_toArray, List.set_cons_zero, List.set_cons_succ]
          refine wpAnyH_take (i := 8) (oi := ⟨some 25, _, _, _, _, _⟩) (v := .bool false) rfl (by kernel_rfl) (by kernel_rfl) (by kernel_rfl) (fun _ _ _ h => h) (Or.inl ⟨by rfl, fun w hSw => by go_simp⟩) hH ?_
          try simp only [Act.put, List.setIfInBounds_toArray, List.set_cons_zero, List.set_cons_succ]
          refine wpAnyH_done (by kernel_rfl) ?_ _
          try simp only [Act.put]
          try go_simp
          go_wp2_with fail
          go_roundw
          case rel => exact ⟨i + 1, by omega, by go_num, hBd, hnext⟩
          case measure => simp [intOf]; omega
        · clear hx hy k1 k2
          go_wp2_with fail
          refine wp_region_held_drew (S := fun w' : World => w'.cell? ⟨g1, o1 + i, none⟩ = some (.string ⟨x.toArray⟩) ∧ w'.cell? ⟨g2, o2 + i, none⟩ = some (.string ⟨y.toArray⟩)) (by kernel_rfl) (⟨hc1, hc2⟩) (fun hH => ?_)
          try go_frame
          refine wpAnyH_take (i := 0) (oi := ⟨some 17, _, _, _, _, _⟩) (v := .slice (some ⟨g1, o1, none⟩) n c1) rfl (by kernel_rfl) (by kernel_rfl) (by kernel_rfl) (fun _ _ _ h => h) (Or.inl ⟨by rfl, fun w hSw => by go_simp⟩) hH ?_
          try simp only [Act.put, List.setIfInBounds_toArray, List.set_cons_zero, List.set_cons_succ]
          refine wpAnyH_take (i := 1) (oi := ⟨some 18, _, _, _, _, _⟩) (v := .int .i64 (i : Nat)) rfl (by kernel_rfl) (by kernel_rfl) (by kernel_rfl) (fun _ _ _ h => h) (Or.inl ⟨by rfl, fun w hSw => by go_simp⟩) hH ?_
          try simp only [Act.put, List.setIfInBounds_toArray, List.set_cons_zero, List.set_cons_succ]
          refine wpAnyH_take (i := 2) (oi := ⟨some 19, _, _, _, _, _⟩) (v := .pointer (some ⟨g1, o1 + i, none⟩)) rfl (by kernel_rfl) (by kernel_rfl) (by kernel_rfl) (fun _ _ _ h => h) (Or.inl ⟨by rfl, fun w hSw => by go_simp⟩) hH ?_
          try simp only [Act.put, List.setIfInBounds_toArray, List.set_cons_zero, List.set_cons_succ]
          refine wpAnyH_take (i := 3) (oi := ⟨some 20, _, _, _, _, _⟩) (v := .string ⟨x.toArray⟩) rfl (by kernel_rfl) (by kernel_rfl) (by kernel_rfl) (fun _ _ _ h => h) (Or.inl ⟨by rfl, fun w hSw => run_loadC _ _ rfl _ _ rfl _ Tryz.underlying9 rfl _ hSw.1⟩) hH ?_
          try simp only [Act.put, List.setIfInBounds_toArray, List.set_cons_zero, List.set_cons_succ]
          refine wpAnyH_take (i := 4) (oi := ⟨some 21, _, _, _, _, _⟩) (v := .slice (some ⟨g2, o2, none⟩) n c2) rfl (by kernel_rfl) (by kernel_rfl) (by kernel_rfl) (fun _ _ _ h => h) (Or.inl ⟨by rfl, fun w hSw => by go_simp⟩) hH ?_
          try simp only [Act.put, List.setIfInBounds_toArray, List.set_cons_zero, List.set_cons_succ]
          refine wpAnyH_take (i := 5) (oi := ⟨some 22, _, _, _, _, _⟩) (v := .int .i64 (i : Nat)) rfl (by kernel_rfl) (by kernel_rfl) (by kernel_rfl) (fun _ _ _ h => h) (Or.inl ⟨by rfl, fun w hSw => by go_simp⟩) hH ?_
          try simp only [Act.put, List.setIfInBounds_toArray, List.set_cons_zero, List.set_cons_succ]
          refine wpAnyH_take (i := 6) (oi := ⟨some 23, _, _, _, _, _⟩) (v := .pointer (some ⟨g2, o2 + i, none⟩)) rfl (by kernel_rfl) (by kernel_rfl) (by kernel_rfl) (fun _ _ _ h => h) (Or.inl ⟨by rfl, fun w hSw => by go_simp⟩) hH ?_
          try simp only [Act.put, List.setIfInBounds_toArray, List.set_cons_zero, List.set_cons_succ]
          refine wpAnyH_take (i := 7) (oi := ⟨some 24, _, _, _, _, _⟩) (v := .string ⟨y.toArray⟩) rfl (by kernel_rfl) (by kernel_rfl) (by kernel_rfl) (fun _ _ _ h => h) (Or.inl ⟨by rfl, fun w hSw => run_loadC _ _ rfl _ _ rfl _ Tryz.underlying9 rfl _ hSw.2⟩) hH ?_
          try simp only [Act.put, List.setIfInBounds_toArray, List.set_cons_zero, List.set_cons_succ]
          refine wpAnyH_take (i := 8) (oi := ⟨some 25, _, _, _, _, _⟩) (v := .bool true) rfl (by kernel_rfl) (by kernel_rfl) (by kernel_rfl) (fun _ _ _ h => h) (Or.inl ⟨by rfl, fun w hSw => by go_simp⟩) hH ?_
          try simp only [Act.put, List.setIfInBounds_toArray, List.set_cons_zero, List.set_cons_succ]
          refine wpAnyH_done (by kernel_rfl) ?_ _
          try simp only [Act.put]
          try go_simp
          go_wp2_with fail
          go_ret
          exact ⟨false, rfl, by simp; intro e; exact hall.out (by rw [e]), hBd⟩
      · have hin : i = n := by omega
        exact absurd (hin ▸ hpre.out) hall.out
  · have hz : ¬ (l1.length : Int) = (l2.length : Int) := by omega
    have hnl : ¬ l1 = l2 := fun e => hlen (by rw [e])
    go_enter Tryz.func19, Tryz.ntmps19
    go_wp2_with fail
    go_ret
    exact ⟨false, rfl, by simp [hnl], Below.refl _ _⟩
end Go.Proofs.YtaiiojbakmminaaGreatDoor
namespace Go.Proofs.YtaiiojbakmminaaGreatDoor
open Go Go.RowKit
theorem frs_cut {k : List B} (hk : k.length ≤ 6) (hx : ∀ x ∈ k, x.length ≤ 200) : (frs k).length ≤ 1248 := by
  have : ∀ m : List B, (∀ x ∈ m, x.length ≤ 200) → (frs m).length ≤ 208 * m.length := fun m => by
    induction m with
    | nil => intro _; exact Nat.le_refl 0
    | cons y r ih =>
      intro hm
      have e1 : frs (y :: r) = frs [y] ++ frs r := frs_app [y] r
      have := ih fun x hx => hm x (List.mem_cons_of_mem _ hx)
      have := hm y (List.mem_cons_self ..)
      rw [e1, frs_one, List.length_append, frame_len, List.length_cons]
      omega
  have := this k hx
  have := Nat.mul_le_mul_left 208 hk
  omega
end Go.Proofs.YtaiiojbakmminaaGreatDoor
namespace Go.Proofs.YtaiiojbakmminaaGreatDoor
open Go Go.RowKit
/-- What Add and Reset keep: texts that stand apart from the log's, and blocks of other kinds. -/
structure Kw (wl w' : World) (rb rb' : Option Nat) : Prop where
  size : wl.heap.size ≤ w'.heap.size
  ts : ∀ v fb l, TS wl v fb l → Apart fb rb → TS w' v fb l ∧ Apart fb rb'
  blk : ∀ i c t, Blk wl i c t → t ≠ 64 → t ≠ 61 → t ≠ 93 → t ≠ 9 → Blk w' i c t
theorem kw_of {wa w' : World} {q p : Nat} {b rb b' rb' : Option Nat} {L : LG} {m : DN} (hK : WK wa q p b rb L m) (hW : Wch wa w' q p b rb b' rb') : Kw wa w' rb rb' :=
  ⟨hW.size, fun _ _ _ hT hs => ts_wch hK hW hT hs, fun _ _ _ hb n1 n2 n3 n4 => hW.blk hK hb n1 n2 n3 (.inl n4)⟩
/-- There is power yet; behind n acts the log has the snapshot s and the records k. -/
structure FaA (w wl : World) (q p : Nat) (f : FA) (rb : Option Nat) (s : B) (k : List B) (n : Nat) : Prop where
  out : ∃ b L P lb ls ch, Py L P lb ls ∧ L.snap = s ∧ L.recs = k ∧ L.g ≤ n + 1 ∧ L.segs ≤ n ∧ usedP P ≤ 1050000 + n * 1300 ∧ ch ≤ 10 + n * 120 ∧ (ch : Int) ≤ f.at_ ∧ Ge w wl q p b rb L (pm P 0 ch f)
  len : k.length ≤ n * 6
/-- The power has failed: one of both is there. -/
structure FaD (w wl : World) (q p : Nat) (s : B) (k : List B) (s2 : B) (k2 : List B) : Prop where
  out : ∃ b rb L P ch, Ge w wl q p b rb L (dm P 0 ch) ∧ (Fk P s k ∨ Fk P s2 k2) ∧ usedP P ≤ 3000000 ∧ ch ≤ 10000
  len : k.length ≤ 1000
  len2 : k2.length ≤ 1000
theorem FaA.below {w wl wa : World} {q p : Nat} {f : FA} {rb : Option Nat} {s : B} {k : List B} {n : Nat} (h : FaA w wl q p f rb s k n) (hb : Below wl.heap.size wl wa) : FaA w wa q p f rb s k n := by
  obtain ⟨b, L, P, lb, ls, ch, h1, h2, h3, h4, h5, h6, h7, h8, h9⟩ := h.out
  exact ⟨⟨b, L, P, lb, ls, ch, h1, h2, h3, h4, h5, h6, h7, h8, h9.below hb⟩, h.len⟩
theorem FaA.bel {w wl : World} {q p : Nat} {f : FA} {rb : Option Nat} {s : B} {k : List B} {n : Nat} (h : FaA w wl q p f rb s k n) : Below w.heap.size w wl ∧ ∀ i, rb = some i → i < wl.heap.size := by
  obtain ⟨b, L, P, lb, ls, ch, h1, h2, h3, h4, h5, h6, h7, h8, h9⟩ := h.out
  exact ⟨h9.bel, h9.k.rlt⟩
set_option maxRecDepth 100000 in
theorem fa_add {w wa : World} {q p : Nat} {f : FA} {rb : Option Nat} {s : B} {k : List B} {n : Nat} (h : FaA w wa q p f rb s k n) (hG : Gw w) (hn : n ≤ 40) (l : List B) (ad : Option Addr) (cap : Nat) (hT : TA wa ad l) (hs : ∀ a, ad = some a → some a.block ≠ rb) (hl : l.length ≤ 6) (hx : ∀ x ∈ l, x.length ≤ 200) :
    Calls Tryz.prog 16 #[.pointer (some ⟨q, 0, none⟩), .slice ad l.length cap] wa fun e w' => ∃ (ok : Bool) (rb' : Option Nat), e = .returned (.int .i64 (if ok = true then 0 else 7)) ∧ Kw wa w' rb rb' ∧ (ok = true → FaA w w' q p f rb' s (k ++ l) (n + 1)) ∧ (ok = false → FaD w w' q p s k s (k ++ l)) := by
  obtain ⟨b, L, P, lb, ls, ch, h1, h2, h3, h4, h5, h6, h7, h8, h9⟩ := h.out
  have hf := frs_cut hl hx
  have hls := h1.segs
  have hkl := h.len
  refine (ge_add h9 hG h1 l ad cap hT hs (by omega) (by omega) (by omega) (by rw [h3]; omega) h8).mono ?_
  rintro e w' ⟨ok, b', rb', rfl, hW, hA, hB⟩
  refine ⟨ok, rb', rfl, kw_of h9.k hW, fun e => ?_, fun e => ?_⟩
  · obtain ⟨k1, k2⟩ := hA e
    obtain ⟨ls', hpy', _⟩ := py_add h1 l (fun y hy => by have := hx y hy; omega) (by omega)
    have hus := used_addP (L := L) h1.ld.ris l
    refine ⟨⟨b', addL L l, addP L P l, lb, ls', ch + 1, hpy', h2, by rw [← h3]; rfl, by show L.g ≤ _; omega, ?_, by omega, by omega, k1, k2⟩, by rw [List.length_append]; omega⟩
    show addK L ≤ n + 1
    unfold addK
    split <;> omega
  · refine ⟨⟨b', rb', L, P, ch, hB e, .inl ?_, by omega, by omega⟩, by omega, by rw [List.length_append]; omega⟩
    rw [← h2, ← h3]
    exact fk_py h1
set_option maxRecDepth 100000 in
theorem fa_reset {w wa : World} {q p : Nat} {f : FA} {rb : Option Nat} {s : B} {k : List B} {n : Nat} (h : FaA w wa q p f rb s k n) (hG : Gw w) (hn : n ≤ 40) (s2 : B) (l : List B) (ad : Option Addr) (cap : Nat) (hT : TA wa ad l) (hs : ∀ a, ad = some a → some a.block ≠ rb) (hs2 : s2.length ≤ 1048576) (hl : l.length ≤ 6) (hx : ∀ x ∈ l, x.length ≤ 200) :
    Calls Tryz.prog 12 #[.pointer (some ⟨q, 0, none⟩), .string ⟨s2.toArray⟩, .slice ad l.length cap] wa fun e w' => ∃ (ok : Bool) (rb' : Option Nat), e = .returned (.int .i64 (if ok = true then 0 else 7)) ∧ Kw wa w' rb rb' ∧ (ok = true → FaA w w' q p f rb' s2 l (n + 1)) ∧ (ok = false → FaD w w' q p s k s2 l) := by
  obtain ⟨b, L, P, lb, ls, ch, h1, h2, h3, h4, h5, h6, h7, h8, h9⟩ := h.out
  have hf := frs_cut hl hx
  have hf2 : (frs [s2]).length ≤ 1048584 := by rw [frs_one, frame_len]; omega
  have hkl := h.len
  refine (ge_reset h9 hG h1 s2 l ad cap hT hs (by omega) (by omega) (by omega) (by omega) (by omega) h8).mono ?_
  rintro e w' ⟨ok, b', rb', rfl, hW, hA, hB⟩
  refine ⟨ok, rb', rfl, kw_of h9.k hW, fun e => ?_, fun e => ?_⟩
  · obtain ⟨ch', k1, k2, k3⟩ := hA e
    refine ⟨⟨b', _, _, l, [], ch', py_reset L s2 l (by omega), rfl, rfl, by show L.g + 1 ≤ _; omega, Nat.zero_le _, ?_, by omega, k2, k3⟩, by omega⟩
    have e1 : usedP [(baseN (L.g + 1), frs [s2] ++ frs l)] = (frs [s2] ++ frs l).length := by simp [usedP]
    rw [e1, List.length_append]
    omega
  · obtain ⟨L', P', ch', k1, k2, k3, k4⟩ := hB e
    rw [List.length_append] at k2
    refine ⟨⟨b', rb', L', P', ch', k4, ?_, by omega, by omega⟩, by omega, by omega⟩
    rcases k3 with k3 | k3
    · left
      rw [← h2, ← h3]
      exact fk_dx h1 k3
    · exact .inr (fk_reset k3)
/-- What is there behind the loop, whether the power failed or not. -/
structure FaE (w wl : World) (q p : Nat) (s : B) (k : List B) (v13 v14 : Value) : Prop where
  out : ∃ b rb L m P, Ge w wl q p b rb L m ∧ m.l = mk P ∧ m.lim = false ∧ m.room = 0 ∧ m.ch ≤ 10000 ∧ usedP P ≤ 3000000 ∧ (Fk P s k ∨ ∃ s2 k2 fm, Fk P s2 k2 ∧ v13 = .string ⟨s2.toArray⟩ ∧ TS wl v14 fm k2 ∧ k2.length ≤ 1000)
  len : k.length ≤ 1000
theorem FaA.ends {w wl : World} {q p : Nat} {f : FA} {rb : Option Nat} {s : B} {k : List B} {n : Nat} (h : FaA w wl q p f rb s k n) (hn : n ≤ 40) (v13 v14 : Value) : FaE w wl q p s k v13 v14 := by
  obtain ⟨b, L, P, lb, ls, ch, h1, h2, h3, h4, h5, h6, h7, h8, h9⟩ := h.out
  have hkl := h.len
  refine ⟨⟨b, rb, L, _, P, h9, rfl, rfl, rfl, by show ch ≤ _; omega, by omega, .inl ?_⟩, by omega⟩
  rw [← h2, ← h3]
  exact fk_py h1
theorem FaD.ends {w wl : World} {q p : Nat} {s s2 : B} {k k2 : List B} (h : FaD w wl q p s k s2 k2) (v14 : Value) (fm : Option Nat) (hT : TS wl v14 fm k2) : FaE w wl q p s k (.string ⟨s2.toArray⟩) v14 := by
  obtain ⟨b, rb, L, P, ch, h1, h2, h3, h4⟩ := h.out
  exact ⟨⟨b, rb, L, dm P 0 ch, P, h1, rfl, rfl, rfl, h4, h3, h2.imp_right fun h5 => ⟨s2, k2, fm, h5, rfl, hT, h.len2⟩⟩, h.len⟩
theorem FaA.dead {w wl : World} {q p : Nat} {f : FA} {rb : Option Nat} {s : B} {k : List B} {n : Nat} (h : FaA w wl q p f rb s k n) : Calls Tryz.prog 23 #[.pointer (some ⟨p, 0, none⟩)] wl fun e w' => e = .returned (.bool false) ∧ w' = wl := by
  obtain ⟨b, L, P, lb, ls, ch, h1, h2, h3, h4, h5, h6, h7, h8, h9⟩ := h.out
  exact ge_dead h9
theorem FaD.dead {w wl : World} {q p : Nat} {s s2 : B} {k k2 : List B} (h : FaD w wl q p s k s2 k2) : Calls Tryz.prog 23 #[.pointer (some ⟨p, 0, none⟩)] wl fun e w' => e = .returned (.bool true) ∧ w' = wl := by
  obtain ⟨b, rb, L, P, ch, h1, h2, h3, h4⟩ := h.out
  exact ge_dead h1
/-- Behind the loss of power, Up and Plan(nil): a disk with power from which S and K are read; (S, K) is one of both. -/
structure FaO (w wl : World) (q p : Nat) (S : B) (K : List B) (n : Nat) : Prop where
  out : ∃ b rb L P ch, Ge w wl q p b rb L (cm P 0 ch) ∧ Fk P S K ∧ usedP P ≤ 3000000 ∧ ch ≤ 20000 + n * 300
  len : K.length ≤ 1000
theorem fk_len {P : PP} {s : B} {k : List B} (h : Fk P s k) : P.length ≤ 300 := by
  obtain ⟨g, lb, txs, hX, _, _⟩ := h.out
  exact hX.len
/-- A disk in whatever state on which nothing is loose. -/
structure FaM (w wl : World) (q p : Nat) (dead : Bool) (pl : Option FA) (S : B) (K : List B) : Prop where
  out : ∃ b rb L P ch, Ge w wl q p b rb L ⟨mk P, dead, false, 0, ch, pl⟩ ∧ Fk P S K ∧ usedP P ≤ 3000000 ∧ ch ≤ 10000
  len : K.length ≤ 1000
theorem fe_pick {w wl : World} {q p : Nat} {s : B} {k : List B} {v13 v14 : Value} (h : FaE w wl q p s k v13 v14) : ∃ dead pl S K, FaM w wl q p dead pl S K ∧ ((S = s ∧ K = k) ∨ ∃ fm, v13 = .string ⟨S.toArray⟩ ∧ TS wl v14 fm K) := by
  obtain ⟨b, rb, L, m, P, h1, h2, h3, h4, h5, h6, h7⟩ := h.out
  have hm : m = ⟨mk P, m.dead, false, 0, m.ch, m.pl⟩ := by
    obtain ⟨a1, a2, a3, a4, a5, a6⟩ := m
    simp only at h2 h3 h4
    subst h2 h3 h4
    rfl
  rw [hm] at h1
  rcases h7 with h7 | ⟨s2, k2, fm, h7, h8, h9, h10⟩
  · exact ⟨m.dead, m.pl, s, k, ⟨⟨b, rb, L, P, m.ch, h1, h7, h6, h5⟩, h.len⟩, .inl ⟨rfl, rfl⟩⟩
  · exact ⟨m.dead, m.pl, s2, k2, ⟨⟨b, rb, L, P, m.ch, h1, h7, h6, h5⟩, h10⟩, .inr ⟨fm, h8, h9⟩⟩
theorem fm_crash {w wl : World} {q p : Nat} {dead : Bool} {pl : Option FA} {S : B} {K : List B} (h : FaM w wl q p dead pl S K) (hG : Gw w) (z t : Int) :
    Calls Tryz.prog 14 #[.pointer (some ⟨p, 0, none⟩), .int .i64 z, .int .i64 t] wl fun e w' => e = .returned (.tuple #[]) ∧ FaM w w' q p true pl S K ∧ Ko wl w' := by
  obtain ⟨b, rb, L, P, ch, h1, h2, h3, h4⟩ := h.out
  have := fk_len h2
  refine (ge_crash h1 hG rfl (by omega) (by omega) z t).mono ?_
  rintro e w' ⟨rfl, b', hE, hK⟩
  exact ⟨rfl, ⟨⟨b', rb, L, P, ch, hE, h2, h3, h4⟩, h.len⟩, hK⟩
theorem fm_up {w wl : World} {q p : Nat} {dead : Bool} {pl : Option FA} {S : B} {K : List B} (h : FaM w wl q p dead pl S K) (hG : Gw w) :
    Calls Tryz.prog 15 #[.pointer (some ⟨p, 0, none⟩)] wl fun e w' => e = .returned (.bool dead) ∧ FaM w w' q p false pl S K ∧ Ko wl w' := by
  obtain ⟨b, rb, L, P, ch, h1, h2, h3, h4⟩ := h.out
  refine (ge_up h1 hG).mono ?_
  rintro e w' ⟨rfl, hE, hK⟩
  exact ⟨rfl, ⟨⟨b, rb, L, P, ch, hE, h2, h3, h4⟩, h.len⟩, hK⟩
theorem fm_plan0 {w wl : World} {q p : Nat} {pl : Option FA} {S : B} {K : List B} (h : FaM w wl q p false pl S K) (hG : Gw w) :
    Calls Tryz.prog 22 #[.pointer (some ⟨p, 0, none⟩), .slice none 0 0] wl fun e w' => e = .returned (.tuple #[]) ∧ FaO w w' q p S K 0 ∧ Ko wl w' := by
  obtain ⟨b, rb, L, P, ch, h1, h2, h3, h4⟩ := h.out
  refine (ge_plan0 h1 hG).mono ?_
  rintro e w' ⟨rfl, hE, hK⟩
  exact ⟨rfl, ⟨⟨b, rb, L, P, ch, hE, h2, h3, by omega⟩, h.len⟩, hK⟩
theorem snapL_blk (q p : Nat) (L : LG) (rv : Value) (w : World) (hL : Blk w q (lC p L rv) 64) : Calls Tryz.prog 17 #[.pointer (some ⟨q, 0, none⟩)] w fun e w' => e = .returned (.string ⟨L.snap.toArray⟩) ∧ w' = w := by
  go_enter Tryz.func17, Tryz.ntmps17
  go_wp2_with (with_reducible refine at_list ?_; refine wpList_loadCell (op := ⟨some 8, _, _, _, _, _⟩) rfl _ _ rfl q 3 rfl _ _ hL _ Tryz.underlying9 rfl _ (lC_g3 _ _ _) ?_)
  go_ret
  exact ⟨rfl, rfl⟩
/-- A log's own block tells its snapshot. -/
def SnB (w : World) (q : Nat) (S : B) : Prop := ∃ p L rv, L.snap = S ∧ Blk w q (lC p L rv) 64
theorem SnB.ko {w w' : World} {q : Nat} {S : B} (h : SnB w q S) (hK : Ko w w') : SnB w' q S := by
  obtain ⟨p, L, rv, h1, h2⟩ := h
  exact ⟨p, L, rv, h1, hK.b h2 (by decide) (by decide)⟩
theorem SnB.below {w w' : World} {q : Nat} {S : B} (h : SnB w q S) (hK : Below w.heap.size w w') : SnB w' q S := by
  obtain ⟨p, L, rv, h1, h2⟩ := h
  exact ⟨p, L, rv, h1, h2.belowSize hK⟩
theorem SnB.snap {w : World} {q : Nat} {S : B} (h : SnB w q S) : Calls Tryz.prog 17 #[.pointer (some ⟨q, 0, none⟩)] w fun e w' => e = .returned (.string ⟨S.toArray⟩) ∧ w' = w := by
  obtain ⟨p, L, rv, rfl, h2⟩ := h
  exact snapL_blk q p L rv w h2
theorem fo_open {w wl : World} {q p n : Nat} {S : B} {K : List B} (h : FaO w wl q p S K n) (hn : n ≤ 100) (hG : Gw w) (M : Int) (hM : 1 ≤ M) :
    Calls Tryz.prog 10 #[.pointer (some ⟨p, 0, none⟩), .int .i64 M] wl fun e w' => ∃ q', e = .returned (.tuple #[.pointer (some ⟨q', 0, none⟩), .int .i64 0, .int .i64 0]) ∧ FaO w w' q' p S K (n + 1) ∧ SnB w' q' S ∧ Ko wl w' ∧ Calls Tryz.prog 20 #[.pointer (some ⟨q', 0, none⟩)] w' (fun e w2 => ∃ a c fb, e = .returned (.slice a K.length c) ∧ Below w'.heap.size w' w2 ∧ TS w2 (.slice a K.length c) fb K) := by
  obtain ⟨b, rb, L, P, ch, h1, h2, h3, h4⟩ := h.out
  have hkl := h.len
  refine (ge_open h1 hG h2 M hM (by omega) (by omega) (by omega)).mono ?_
  rintro e w' ⟨q', b', rb', L', P', ch', rfl, k1, k2, k3, k4, k5, k6, k7, _⟩
  obtain ⟨rv, k8, _, _⟩ := k6.k.out
  have HA := allL_log q' p b' rb' L' _ w' k6.k (by rw [k2]; omega)
  rw [k2] at HA
  refine ⟨q', rfl, ⟨⟨b', rb', L', P', ch', k6, k3, by omega, by omega⟩, h.len⟩, ⟨p, L', rv, k1, k8⟩, k7, HA.mono ?_⟩
  rintro e w2 ⟨v, rb2, rfl, hb, hT, _⟩
  obtain ⟨a, c, rfl, _⟩ := hT.sl
  exact ⟨a, c, rb2, rfl, hb, hT⟩
theorem FaO.below {w wl wa : World} {q p n : Nat} {S : B} {K : List B} (h : FaO w wl q p S K n) (hb : Below wl.heap.size wl wa) : FaO w wa q p S K n := by
  obtain ⟨b, rb, L, P, ch, h1, h2, h3, h4⟩ := h.out
  exact ⟨⟨b, rb, L, P, ch, h1.below hb, h2, h3, h4⟩, h.len⟩
theorem FaO.bel {w wl : World} {q p n : Nat} {S : B} {K : List B} (h : FaO w wl q p S K n) : Below w.heap.size w wl := by
  obtain ⟨b, rb, L, P, ch, h1, h2, h3, h4⟩ := h.out
  exact h1.bel
end Go.Proofs.YtaiiojbakmminaaGreatDoor
