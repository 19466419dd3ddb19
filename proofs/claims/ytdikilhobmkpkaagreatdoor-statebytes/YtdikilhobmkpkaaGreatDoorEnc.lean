/- What Encode does. -/
import Derived.Test.YtdikilhobmkpkaaGreatDoorItr
namespace Go.Proofs.YtdikilhobmkpkaaGreatDoor
open Go Go.RowKit Go.Maps Go.Shelf
attribute [local go_sem] Oper.semAt_some
def kvB (p : KV) : List UInt8 := (num p.1.length 4 ++ p.1) ++ (num p.2.length 4 ++ p.2)
def kvsB (m : List KV) : List UInt8 := m.flatMap kvB
/-- A state's bytes. -/
def encM (m : List KV) : List UInt8 := num m.length 4 ++ kvsB m
theorem kvsB_nil : kvsB [] = [] := rfl
theorem kvsB_snoc (m : List KV) (p : KV) : kvsB (m ++ [p]) = kvsB m ++ kvB p := by simp [kvsB]
theorem kvB_length (p : KV) : (kvB p).length = 8 + p.1.length + p.2.length := by simp [kvB, num_length]; omega
theorem kvsB_le : ∀ (ms : List KVs), (kvsB (unS ms)).length ≤ 2008 * ms.length
  | [] => by simp [kvsB, unS]
  | p :: r => by
    have h := kvsB_le r
    have h1 := p.2.1
    have h2 := p.2.2
    have e : kvsB (unS (p :: r)) = kvB p.1 ++ kvsB (unS r) := by simp [kvsB, unS]
    rw [e, List.length_append, kvB_length, List.length_cons]
    omega
theorem WR.turn {w w' : World} {b : Nat} {l : List UInt8} {row : Option Nat} (h : WR w b l) (hg : w.grownBy w' row) (hr : ∀ r, row = some r → ∃ o : Obj, w.heap[r]? = some o ∧ o.isCells = false) : WR w' b l := by
  obtain ⟨sl, h1, h2⟩ := h.out
  refine ⟨sl, h1.grown hg (fun e => ?_), ?_⟩
  · obtain ⟨o, ho, hc⟩ := hr b e.symm
    rw [h1.out] at ho
    cases ho
    cases hc
  · rcases h2 with h2 | ⟨g, cap, k1, k2, k3⟩
    · exact .inl h2
    · refine .inr ⟨g, cap, k1, k2, k3.grown hg (fun e => ?_)⟩
      obtain ⟨o, ho, hc⟩ := hr g e.symm
      obtain ⟨cur, fr, h5, _⟩ := k3.out
      rw [h5] at ho
      cases ho
      cases hc
theorem Blk.turn {w w' : World} {b : Nat} {c : Array Value} {t : TypeId} {row : Option Nat} (h : Blk w b c t) (hg : w.grownBy w' row) (hr : ∀ r, row = some r → ∃ o : Obj, w.heap[r]? = some o ∧ o.isCells = false) : Blk w' b c t := h.grown hg (fun e => by
  obtain ⟨o, ho, hc⟩ := hr b e.symm
  rw [h.out] at ho
  cases ho
  cases hc)
theorem Puts.keepsFrom {w w' : World} {b : Nat} {l t : List UInt8} (h : Puts w w' b l t) (B : Nat) : KeepsFrom B w w' :=
  ⟨h.below.size, fun k o _ hk ho => h.keeps.all k o hk (fun c fr => ⟨fun e => (by subst e; cases ho), fun e => (by subst e; cases ho)⟩)⟩
set_option maxRecDepth 100000 in
set_option maxHeartbeats 2000000 in
theorem encode_core (pv : Value) (ms : List KVs) (w : World) (hm : ms.length ≤ 2000)
    (HL : ∀ w', Below w.heap.size w w' → Calls Tryz.prog 17 #[pv] w' fun e w'' => e = .returned (.int .i64 (ms.length : Nat)) ∧ w'' = w')
    (HA : ∀ w', Below w.heap.size w w' → Calls Tryz.prog 16 #[pv] w' (AllP (unS ms) w')) :
    Calls Tryz.prog 9 #[pv] w fun e w' => e = .returned (.string ⟨(encM (unS ms)).toArray⟩) ∧ Below w.heap.size w w' := by
  have HW := neww_any w
  refine (callsIn_wide (n := 6)).1 (callsIn_of_wp_marks Tryz.func9 rfl trivial ?_ rfl)
  refine wpIn_wide.2 ?_
  simp only [Tryz.ntmps9, List.size_toArray, List.length_cons, List.length_nil, Nat.reduceAdd, Nat.reduceSub, Array.replicate_succ, Array.replicate_zero, List.push_toArray, List.append_toArray, List.nil_append, List.cons_append]
  go_wp2_with (first
    | (go_at_call 36; refine HW.mono ?_; rintro e w1 ⟨rfl, hw1, hW1⟩))
  have hb2 := Blk.new w1 #[.pointer (some ⟨w.heap.size, 0, none⟩)] 75
  have hw2 : Below w1.heap.size w1 (w1.alloc (.cells #[.pointer (some ⟨w.heap.size, 0, none⟩)] 75)) := (Below.refl _ _).alloc (Nat.le_refl _) _
  generalize hW2 : w1.alloc (.cells #[.pointer (some ⟨w.heap.size, 0, none⟩)] 75) = w2 at *
  clear hW2
  have hB2 := hw1.trans (hw2.mono hw1.size)
  have hWR2 := hW1.below hw2
  have HC := fun w' (h : WR w' w.heap.size []) => wcount_any w.heap.size [] (ms.length : Nat) w' h (by simp) (by omega)
  rw [Int.toNat_natCast] at HC
  have hnl := num_length 4 ms.length
  have HEm : Hid (encM (unS ms) = num ms.length 4 ++ kvsB (unS ms)) := by unfold encM; rw [unS_length]; exact rfl
  generalize num ms.length 4 = nn at *
  have c2 : w2.cell? ⟨w1.heap.size, 0, none⟩ = some (.pointer (some ⟨w.heap.size, 0, none⟩)) := hb2.cell 0
  go_region_held3 (fun w' => w'.cell? ⟨w1.heap.size, 0, none⟩ = some (.pointer (some ⟨w.heap.size, 0, none⟩))) ((go_split_ands; assumption)) (first
    | (go_at_call 17; refine (HL _ hB2.drew).mono ?_; rintro e w' ⟨rfl, hw'⟩; have hw' := hw'.symm; subst hw')
    | (go_at_call 37; refine (HC _ (hWR2.below (Below.refl _ _).drew)).mono ?_; rintro e w3 ⟨rfl, hP3⟩; have hb3 : Blk w3 w1.heap.size #[.pointer (some ⟨w.heap.size, 0, none⟩)] 75 := hb2.drew.puts hP3 (by decide) (by decide); have c3 : w3.cell? ⟨w1.heap.size, 0, none⟩ = some (.pointer (some ⟨w.heap.size, 0, none⟩)) := hb3.cell 0))
  have hB3 : Below w.heap.size w w3 := hB2.drew.trans hP3.below
  have hWR3 := hP3.wr
  rw [List.nil_append] at hWR3
  clear hP3 c2 hb2 hw2 hWR2 hW1 HW HC
  go_wp2_with (go_at_call 16; refine (HA _ hB3).mono ?_; rintro e w4 ⟨⟨Bt, Bv, aT, ct, gv, rfl, l1, l2, l3, i1, i2, i3, i4⟩, hw4⟩)
  have hI4 : IT w4 Bt Bv gv aT ct (unS ms) := ⟨i1, i2, i3, i4⟩
  have hB4 := hB3.trans (hw4.mono hB3.size)
  have hWR4 := hWR3.below hw4
  have hb4 := hb3.belowSize hw4
  clear i1 i2 i3 i4 l1 l2 l3 hw4 hWR3 hb3 c3 hB3 HL HA hB2 hw1
  have HT := fun l s w' (h : WR w' w.heap.size l) (hl : l.length + s.length ≤ 274877906944) => wtext_any w.heap.size l s w' h hl
  refine (wpIn_wide (n := 6)).1 ?_
  refine wpIn_rangeFunc_ownG rfl (by omega) (gf := 50) (lb := #[.pointer (some ⟨Bt, 0, none⟩), .pointer (some ⟨Bv, 0, none⟩)]) rfl trivial (enters_of Tryz.func50 (by kernel_rfl) rfl)
    (all_stops 5 (by omega) Bt Bv gv aT ct ms (by omega) w4 hI4) kpI_t (kpI_b (w := w4)) (Below.refl _ _) (fun _ => rfl)
    (fun pre W => (WR W w.heap.size (nn ++ kvsB (unS pre)) ∧ Blk W w1.heap.size #[.pointer (some ⟨w.heap.size, 0, none⟩)] 75) ∧ Below w.heap.size w W)
    (fun _ _ _ => False)
    (fun s W W' row h hg hr => ⟨⟨h.1.1.turn hg (fun r e => (hr r e).2), h.1.2.turn hg (fun r e => (hr r e).2)⟩, h.2.grown hg h.2.size (fun k e => Nat.le_trans hB4.size (hr k e).1)⟩)
    (fun _ _ _ _ _ h _ _ => h)
    ⟨⟨by rw [show kvsB (unS []) = [] from rfl, List.append_nil]; exact hWR4, hb4⟩, hB4⟩
    (fun x => { tmps := #[pv, undef, .string ⟨#[]⟩, .pointer (some ⟨w1.heap.size, 0, none⟩), .string ⟨x.1.1.toArray⟩, .string ⟨x.1.2.toArray⟩, .pointer (some ⟨w.heap.size, 0, none⟩), .pointer (some ⟨w.heap.size, 0, none⟩), pv, .int .i64 (ms.length : Nat), .tuple #[], pv, .func (.func 50) #[] #[.pointer (some ⟨Bt, 0, none⟩), .pointer (some ⟨Bv, 0, none⟩)], .string ⟨x.1.1.toArray⟩, .string ⟨x.1.2.toArray⟩, undef, undef, undef, undef, undef, undef, undef, undef], defers := [] }) ?assign ?body ?done ?stop
  case assign =>
    intro l x W K hK
    gi_wp2
    exact hK
  case body =>
    rintro l pre x W ⟨⟨hWR, hbx⟩, hB⟩ hlt
    have hl := kvsB_le pre
    have hx1 := x.2.1
    have hx2 := x.2.2
    have cb : W.cell? ⟨w1.heap.size, 0, none⟩ = some (.pointer (some ⟨w.heap.size, 0, none⟩)) := hbx.cell 0
    have hE : Hid (nn ++ kvsB (unS (pre ++ [x])) = ((nn ++ kvsB (unS pre)) ++ (num x.1.1.length 4 ++ x.1.1)) ++ (num x.1.2.length 4 ++ x.1.2)) := by
      have e : unS (pre ++ [x]) = unS pre ++ [x.1] := by simp [unS]
      rw [e, kvsB_snoc]
      unfold kvB
      simp only [List.append_assoc]
      trivial
    have H1 := fun w' (h : WR w' w.heap.size (nn ++ kvsB (unS pre))) => HT _ x.1.1 w' h (by rw [List.length_append]; omega)
    have H2 := fun w' (h : WR w' w.heap.size ((nn ++ kvsB (unS pre)) ++ (num x.1.1.length 4 ++ x.1.1))) => HT _ x.1.2 w' h (by simp only [List.length_append, num_length]; omega)
    generalize nn ++ kvsB (unS pre) = r0 at *
    generalize num x.1.1.length 4 ++ x.1.1 = t1 at *
    generalize num x.1.2.length 4 ++ x.1.2 = t2 at *
    have h14 : 1 ≤ 6 - 1 - 1 := by omega
    gi_wp2_with (first
      | (refine ⟨trivial, ?_⟩; gi_at_call 38; have tk := H1; refine (CallsIn.inRound l (callsIn_wide.2 (H1 _ hWR))).mono ?_; clear H1; rintro e w5 ⟨rfl, hP5⟩; have hb5 : Blk w5 w1.heap.size #[.pointer (some ⟨w.heap.size, 0, none⟩)] 75 := hbx.puts hP5 (by decide) (by decide); have cb5 : w5.cell? ⟨w1.heap.size, 0, none⟩ = some (.pointer (some ⟨w.heap.size, 0, none⟩)) := hb5.cell 0)
      | (refine ⟨trivial, ?_⟩; gi_at_call 38; refine (CallsIn.inRound l (callsIn_wide.2 (H2 _ hP5.wr))).mono ?_; rintro e w6 ⟨rfl, hP6⟩; have hb6 : Blk w6 w1.heap.size #[.pointer (some ⟨w.heap.size, 0, none⟩)] 75 := hb5.puts hP6 (by decide) (by decide)))
    refine ⟨(hP5.keepsFrom _).trans (hP6.keepsFrom _), fun hi => ?_, ⟨by rw [hE.out]; exact hP6.wr, hb6⟩, (hB.trans hP5.below).trans hP6.below⟩
    exact hi.blk fun i c t hb ht => (hb.puts hP5 (by rcases ht with rfl | rfl <;> decide) (by rcases ht with rfl | rfl <;> decide)).puts hP6 (by rcases ht with rfl | rfl <;> decide) (by rcases ht with rfl | rfl <;> decide)
  case done =>
    rintro D ys W hD rfl ⟨⟨hWR, hbx⟩, hB⟩ hK
    have cb : W.cell? ⟨w1.heap.size, 0, none⟩ = some (.pointer (some ⟨w.heap.size, 0, none⟩)) := hbx.cell 0
    have HAl := wall_any w.heap.size _ W hWR
    rw [← HEm.out] at HAl
    go_wp2_with (go_at_call 39; refine HAl.mono ?_; rintro e w' ⟨rfl, hw'⟩; have hw' := hw'.symm; subst hw')
    refine ⟨by simp, .inl ⟨_, _, rfl, run_takeDeferred hK, ?_⟩⟩
    exact ⟨_, results_tmp rfl _ _ _, rfl, hB.trans (belowK_b (w := w) (Nat.le_refl _) W D _ _ (by have := hB4.size; omega) hK rfl rfl)⟩
  case stop =>
    rintro D c pre W _ _ h _
    exact h.elim
/-- What Encode does to a state. -/
theorem encode_st (b : Nat) (m : List KV) (w : World) (h : ST w b m) (hm : m.length ≤ 2000) (hs : Sml m) : Calls Tryz.prog 9 #[.pointer (some ⟨b, 0, none⟩)] w fun e w' => e = .returned (.string ⟨(encM m).toArray⟩) ∧ Below w.heap.size w w' := by
  obtain ⟨ms, rfl⟩ := unS_ex hs
  rw [unS_length] at hm
  exact encode_core _ ms w hm (fun w' hw => by have := len_st b _ w' (h.below hw); rw [unS_length] at this; exact this) (fun w' hw => all_st b _ w' (h.below hw) (by rw [unS_length]; omega))
theorem encode_nil (w : World) : Calls Tryz.prog 9 #[.pointer none] w fun e w' => e = .returned (.string ⟨#[0, 0, 0, 0]⟩) ∧ Below w.heap.size w w' :=
  encode_core (.pointer none) [] w (by simp) (fun w' _ => len_nil w') (fun w' _ => all_nil w')
end Go.Proofs.YtdikilhobmkpkaaGreatDoor
