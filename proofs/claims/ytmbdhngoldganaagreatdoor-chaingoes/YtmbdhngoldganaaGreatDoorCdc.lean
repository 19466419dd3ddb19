/- What Decode of a state gives back, plainly: texts that may be, rising; and their bytes are the bytes that were read. What treeOf does: a tree of a state's texts, laid anew. A chain's snapshot, plainly: what is read, and that its bytes are what was read. What Decode of a chain's snapshot does. -/
import Derived.Test.YtmbdhngoldganaaGreatDoorDcd
import Derived.Test.YtmbdhngoldganaaGreatDoorExm
import Derived.Test.YtmbdhngoldganaaGreatDoorEnc
import Derived.Test.YtmbdhngoldganaaGreatDoorCln
import Derived.Test.YtmbdhngoldganaaGreatDoorTkm
namespace Go.Proofs.YtmbdhngoldganaaGreatDoor
open Go Go.RowKit Go.Maps
theorem insM_last (x : KV) : ∀ m : List KV, (∀ q ∈ m, bytesBefore x.1 q.1 = false) → insM x m = m ++ [x]
  | [], _ => rfl
  | y :: r, h => by
    unfold insM
    rw [if_neg (by rw [h y List.mem_cons_self]; simp), insM_last x r (fun q hq => h q (List.mem_cons_of_mem _ hq))]
    rfl
theorem putM_last {k v : List UInt8} {m : List KV} (h : ∀ q ∈ m, q.1 < k) : putM k v m = m ++ [(k, v)] := by
  have hd : delM k m = m := by
    unfold delM
    rw [List.filter_eq_self]
    intro q hq
    have : q.1 ≠ k := fun e => by have := h q hq; rw [e] at this; exact List.lt_irrefl _ this
    simp [this]
  unfold putM
  rw [hd]
  refine insM_last _ _ (fun q hq => ?_)
  rw [← Bool.not_eq_true, before_lt]
  intro h2
  exact List.lt_irrefl _ (List.lt_trans h2 (h q hq))
theorem fold_ris : ∀ (l acc : List KV), Ris (acc ++ l) → l.foldl (fun m p => putM p.1 p.2 m) acc = acc ++ l
  | [], acc, _ => by simp
  | p :: l, acc, h => by
    have e : acc ++ p :: l = (acc ++ [p]) ++ l := by simp
    have hp : putM p.1 p.2 acc = acc ++ [p] := putM_last (fun q hq => (before_lt _ _).1 ((List.pairwise_append.1 h).2.2 q hq p (by simp)))
    rw [List.foldl_cons, hp, fold_ris l _ (by rw [← e]; exact h), e]
theorem mapD_ris {l : List KV} (h : Ris l) : mapD l = l := by
  unfold mapD
  rw [fold_ris l [] (by simpa using h), List.nil_append]
theorem dS_goes {r : R} (hk : r.ok) : ∀ n, (dS r n).1.err = 0 → Goes r (dS r n).1 (kvsB (dS r n).2)
  | 0, h => ⟨h, h, rfl, by rw [show (dS r 0).2 = [] from rfl, kvsB_nil, List.append_nil]; rfl⟩
  | n + 1, h => by
    have ho := dS_ok hk n
    have e : dS r (n + 1) = (bif dBad (dS r n).2 ((dS r n).1.text 33).2 (((dS r n).1.text 33).1.text 64).2 then (((dS r n).1.text 33).1.text 64).1.fail 6 else (((dS r n).1.text 33).1.text 64).1, (dS r n).2 ++ [(((dS r n).1.text 33).2, (((dS r n).1.text 33).1.text 64).2)]) := rfl
    rw [e] at h ⊢
    cases hb : dBad (dS r n).2 ((dS r n).1.text 33).2 (((dS r n).1.text 33).1.text 64).2
    · rw [hb, cond_false] at h
      rw [cond_false, kvsB_snoc]
      have g2 := text_goes (R.ok_text ho 33) h
      have g1 := text_goes ho g2.e0
      exact (dS_goes hk n g1.e0).trans (g1.trans g2)
    · rw [hb, cond_true] at h
      exact absurd (R.fail_zero h).2 (by decide)
/-- What was read may be, and its bytes are what was read. -/
theorem dC_goes {b : List UInt8} (h : (dC b).1.err = 0) : Goes ⟨b, 0, 0⟩ (dC b).1 (num (dC b).2 4) := count_goes (m := 1024) (ok0 b) h
theorem dC_ok (b : List UInt8) : (dC b).1.ok := R.ok_count (ok0 b) 1024
theorem dC_s (b : List UInt8) : (dC b).1.s = b := R.count_s _ _
theorem dM_all {b : List UInt8} (h : dE b = 0) : Sz (dM b) ∧ Ris (dM b) ∧ mapD (dM b) = dM b ∧ encM (dM b) = b := by
  have hk := dC_ok b
  have hle := dC_le b
  have hg1 := @dC_goes b
  have hcs := dC_s b
  unfold dE at h
  unfold dM encM
  generalize dC b = q at *
  obtain ⟨h1, h3⟩ := R.fin_zero (dS_ok hk _) h
  have h2 := dS_good _ h1
  have el := dS_len q.1 q.2
  have g2 := dS_goes hk _ h1
  have hs := (dS_s q.1 q.2).trans hcs
  generalize dS q.1 q.2 = x at *
  refine ⟨⟨by rw [el]; exact hle, fun p hp => (h2.each p hp).2⟩, h2.ris, mapD_ris h2.ris, ?_⟩
  have g := ((hg1 g2.e0).trans g2).at'
  rw [show x.1.pos = b.length from by rw [h3, hs]] at g
  have g : b.take b.length = [] ++ (num q.2 4 ++ kvsB x.2) := g
  rw [List.take_length, List.nil_append] at g
  rw [el]
  exact g.symm
end Go.Proofs.YtmbdhngoldganaaGreatDoor
namespace Go.Proofs.YtmbdhngoldganaaGreatDoor
open Go Go.RowKit Go.Maps Go.Shelf
attribute [local go_sem] Oper.semAt_some
/-- The tree of texts, one behind the other. -/
def layT (m : List KV) : Tr := m.foldl (fun t p => Tr.put 256 0 t (ofD Sh.TgD p.1 p.2)) .emp
theorem layT_snoc (m : List KV) (p : KV) : layT (m ++ [p]) = Tr.put 256 0 (layT m) (ofD Sh.TgD p.1 p.2) := by unfold layT; rw [List.foldl_append]; rfl
theorem put_ok {t : Tr} {k v : List UInt8} (h : Tr.Canon 0 t) : Tr.Canon 0 (Tr.put 256 0 t (ofD Sh.TgD k v)) ∧ (Tr.put 256 0 t (ofD Sh.TgD k v)).cnt ≤ t.cnt + 1 := by
  obtain ⟨h1, h2⟩ := Tr.put_spec t 256 0 (ofD Sh.TgD k v) rfl h (Sh.TgD_len _ _) (fun _ _ j hj => absurd hj (Nat.not_lt_zero _))
  refine ⟨h1, ?_⟩
  have h3 := h2.length_eq
  have h4 := lessD_len t.leaves (ofD Sh.TgD k v).1
  rw [List.length_cons] at h3
  show (Tr.put 256 0 t (ofD Sh.TgD k v)).leaves.length ≤ t.leaves.length + 1
  omega
theorem layF_ok : ∀ (m : List KV) {t : Tr}, Tr.Canon 0 t → Tr.Canon 0 (m.foldl (fun t p => Tr.put 256 0 t (ofD Sh.TgD p.1 p.2)) t) ∧ (m.foldl (fun t p => Tr.put 256 0 t (ofD Sh.TgD p.1 p.2)) t).cnt ≤ t.cnt + m.length
  | [], _, h => ⟨h, Nat.le_refl _⟩
  | p :: r, t, h => by
    have h1 : Tr.Canon 0 (Tr.put 256 0 t (ofD Sh.TgD p.1 p.2)) ∧ (Tr.put 256 0 t (ofD Sh.TgD p.1 p.2)).cnt ≤ t.cnt + 1 := put_ok h
    obtain ⟨h2, h3⟩ := layF_ok r h1.1
    refine ⟨h2, Nat.le_trans h3 ?_⟩
    rw [List.length_cons]
    have := h1.2
    omega
theorem layT_ok (m : List KV) : Tr.Canon 0 (layT m) ∧ (layT m).cnt ≤ m.length := by
  have := layF_ok m (t := .emp) trivial
  rw [show Tr.emp.cnt = 0 from rfl, Nat.zero_add] at this
  exact this
theorem keepsFrom_grown {B b : Nat} {W W' : World} {c : Array Value} {t : TypeId} (hg : W.grownBy W' (some b)) (hb : Blk W b c t) : KeepsFrom B W W' :=
  ⟨hg.size, fun k o _ hk ho => by
    have hlt := (Array.getElem?_eq_some_iff.1 hk).1
    rw [hg.block k hlt (fun e => ?_)]
    · exact hk
    · have e := Option.some.inj e
      subst e
      rw [hb.out] at hk
      cases hk
      cases ho⟩
/-- What treeOf leaves. -/
def TroP (m : List KV) (w : World) (e : Ending) (w' : World) : Prop :=
  ∃ q, e = .returned (.pointer (some ⟨w.heap.size, 0, none⟩)) ∧ Sh.Blk w' w.heap.size #[.pointer q] 215 ∧ Sh.HF w' (layT m) q ∧ Below w.heap.size w w'
set_option maxRecDepth 100000 in
set_option maxHeartbeats 2000000 in
theorem treeOf_core (pv : Value) (ms : List KVs) (w : World) (hG : Sh.Glob w) (hm : ms.length ≤ 1024)
    (HA : ∀ w', Below w.heap.size w w' → Calls Tryz.prog 77 #[pv] w' (AllP (unS ms) w')) :
    Calls Tryz.prog 45 #[pv] w (TroP (unS ms) w) := by
  have HW := Sh.tnew_any w
  refine (callsIn_wide (n := 6)).1 (callsIn_of_wp_marks Tryz.func45 rfl trivial ?_ rfl)
  refine wpIn_wide.2 ?_
  simp only [Tryz.ntmps45, List.size_toArray, List.length_cons, List.length_nil, Nat.reduceAdd, Nat.reduceSub, Array.replicate_succ, Array.replicate_zero, List.push_toArray, List.append_toArray, List.nil_append, List.cons_append]
  go_wp2_with (first
    | (go_at_call 98; refine HW.mono ?_; rintro e w1 ⟨rfl, hT1, hw1⟩)
    | fail)
  have hb2 := Blk.new w1 #[.pointer (some ⟨w.heap.size, 0, none⟩)] 100
  have hw2 : Below w1.heap.size w1 (w1.alloc (.cells #[.pointer (some ⟨w.heap.size, 0, none⟩)] 100)) := (Below.refl _ _).alloc (Nat.le_refl _) _
  generalize hW2 : w1.alloc (.cells #[.pointer (some ⟨w.heap.size, 0, none⟩)] 100) = w2 at *
  clear hW2
  have hB2 := hw1.trans (hw2.mono hw1.size)
  have hT2 := hT1.belowSize hw2
  clear hw2 hT1 HW
  go_wp2_with (go_at_call 77; refine (HA _ hB2).mono ?_; rintro e w4 ⟨⟨Bt, Bv, aT, ct, gv, rfl, l1, l2, l3, i1, i2, i3, i4⟩, hw4⟩)
  have hI4 : IT w4 Bt Bv gv aT ct (unS ms) := ⟨i1, i2, i3, i4⟩
  have hB4 := hB2.trans (hw4.mono hB2.size)
  have hT4 := hT2.belowSize hw4
  have hb4 := hb2.belowSize hw4
  clear i1 i2 i3 i4 l1 l2 l3 hw4 hT2 hb2 hB2 HA hw1
  refine (wpIn_wide (n := 6)).1 ?_
  refine wpIn_rangeFunc_ownG rfl (by omega) (gf := 132) (lb := #[.pointer (some ⟨Bt, 0, none⟩), .pointer (some ⟨Bv, 0, none⟩)]) rfl trivial (enters_of Tryz.func132 (by kernel_rfl) rfl)
    (all_stops 5 (by omega) Bt Bv gv aT ct ms (by omega) w4 hI4) kpI_t (kpI_b (w := w4)) (Below.refl _ _) (fun _ => rfl)
    (fun pre W => ((∃ q, Sh.Blk W w.heap.size #[.pointer q] 215 ∧ Sh.HF W (layT (unS pre)) q) ∧ Blk W w1.heap.size #[.pointer (some ⟨w.heap.size, 0, none⟩)] 100) ∧ Below w.heap.size w W)
    (fun _ _ _ => False)
    (fun s W W' row h hg hr => ⟨⟨by obtain ⟨⟨⟨q, h1, h2⟩, _⟩, _⟩ := h; exact ⟨q, h1.turn hg (fun r e => (hr r e).2), h2.turn hg (fun r e => (hr r e).2)⟩, h.1.2.turn hg (fun r e => (hr r e).2)⟩, h.2.grown hg h.2.size (fun k e => Nat.le_trans hB4.size (hr k e).1)⟩)
    (fun _ _ _ _ _ h _ _ => h)
    ⟨⟨⟨none, hT4, rfl⟩, hb4⟩, hB4⟩
    (fun x => { tmps := #[pv, undef, .pointer none, .pointer (some ⟨w1.heap.size, 0, none⟩), .string ⟨x.1.1.toArray⟩, .string ⟨x.1.2.toArray⟩, .pointer (some ⟨w.heap.size, 0, none⟩), pv, .func (.func 132) #[] #[.pointer (some ⟨Bt, 0, none⟩), .pointer (some ⟨Bv, 0, none⟩)], .string ⟨x.1.1.toArray⟩, .string ⟨x.1.2.toArray⟩, undef, undef, undef, undef, undef], defers := [] }) ?assign ?body ?done ?stop
  case assign =>
    intro l x W K hK
    gi_wp2
    exact hK
  case body =>
    rintro l pre x W ⟨⟨⟨q, hT, hF⟩, hbx⟩, hB⟩ hlt
    have hx1 := x.2.1
    have hx2 := x.2.2
    have cb : W.cell? ⟨w1.heap.size, 0, none⟩ = some (.pointer (some ⟨w.heap.size, 0, none⟩)) := hbx.cell 0
    have hok := layT_ok (unS pre)
    have hul := unS_length pre
    have HP := Sh.tput_any w.heap.size q (layT (unS pre)) x.1.1 x.1.2 W (hG.belowSize hB) hT hF hok.1 (by have := hok.2; omega) hx1 hx2
    have hE : Hid (layT (unS (pre ++ [x])) = Tr.put 256 0 (layT (unS pre)) (ofD Sh.TgD x.1.1 x.1.2)) := by
      have e : unS (pre ++ [x]) = unS pre ++ [x.1] := by simp [unS]
      rw [e]
      exact layT_snoc _ _
    clear hok hul
    generalize Tr.put 256 0 (layT (unS pre)) (ofD Sh.TgD x.1.1 x.1.2) = t2 at *
    have h14 : 1 ≤ 6 - 1 - 1 := by omega
    gi_wp2_with (first
      | (refine ⟨trivial, ?_⟩; gi_at_call 99; refine (CallsIn.inRound l (callsIn_wide.2 HP)).mono ?_; rintro e w5 ⟨rfl, q5, hT5, hF5, hg5⟩))
    have hTb := Blk.of_sh hT
    refine ⟨keepsFrom_grown hg5 hTb, fun hi => ?_, ⟨⟨q5, hT5, by rw [hE.out]; exact hF5⟩, hbx.grown hg5 (fun e => hbx.neT hTb (by decide) (Option.some.inj e))⟩, hB.trans (below_of_grown hg5 (Nat.le_refl _) hB.size)⟩
    exact hi.blk fun i c t hb ht => hb.grown hg5 (fun e => hb.neT hTb (by rcases ht with rfl | rfl <;> decide) (Option.some.inj e))
  case done =>
    rintro D ys W hD rfl ⟨⟨⟨q, hT, hF⟩, hbx⟩, hB⟩ hK
    have cb : W.cell? ⟨w1.heap.size, 0, none⟩ = some (.pointer (some ⟨w.heap.size, 0, none⟩)) := hbx.cell 0
    go_wp2_with fail
    refine ⟨by simp, .inl ⟨_, _, rfl, run_takeDeferred hK, ?_⟩⟩
    have hgp := grownBy_putObj' W D
    refine ⟨_, results_tmp rfl _ _ _, q, rfl, ?_, ?_, hB.trans (belowK_b (w := w) (Nat.le_refl _) W D _ _ (by have := hB4.size; omega) hK rfl rfl)⟩
    · exact hT.turn (hgp _) (fun r e => by cases e; exact ⟨_, hK, rfl⟩)
    · exact hF.turn (hgp _) (fun r e => by cases e; exact ⟨_, hK, rfl⟩)
  case stop =>
    rintro D c pre W _ _ h _
    exact h.elim
/-- What treeOf of a state does. -/
theorem treeOf_any (b : Nat) (m : List KV) (w : World) (hG : Sh.Glob w) (h : ST w b m) (hm : Sz m) : Calls Tryz.prog 45 #[.pointer (some ⟨b, 0, none⟩)] w (TroP m w) := by
  obtain ⟨ms, rfl⟩ := unS_ex (m := m) (fun p hp => ⟨Nat.le_trans (hm.each p hp).1 (by decide), Nat.le_trans (hm.each p hp).2 (by decide)⟩)
  have hl := hm.len
  rw [unS_length] at hl
  exact treeOf_core _ ms w hG hl (fun w' hw => all_st b _ w' (h.below hw) (by rw [unS_length]; omega))
end Go.Proofs.YtmbdhngoldganaaGreatDoor
namespace Go.Proofs.YtmbdhngoldganaaGreatDoor
open Go Go.RowKit
def cdN (s : List UInt8) : R × List UInt8 := (⟨s, 0, 0⟩ : R).text 32
def cdF (s : List UInt8) : R × List Int := tkM (cdN s).1
def cdH (s : List UInt8) : R × Nat := (cdF s).1.number 8
def cdD (s : List UInt8) : R × List UInt8 := (cdH s).1.bytes 32
def cdM (s : List UInt8) : R × List Int := tkM (cdD s).1
def cdB (s : List UInt8) : R × List UInt8 := (cdM s).1.text 1048576
def cdE (s : List UInt8) : Int := (cdB s).1.fin.err
/-- The chain of a snapshot, and the error that Decode tells. -/
def decC (s : List UInt8) : CN := ⟨(cdN s).2, (cdF s).2, (cdH s).2, (cdD s).2, (cdM s).2, dM (cdB s).2, layT (dM (cdB s).2), []⟩
def decE (s : List UInt8) : Int := if cdE s ≠ 0 then cdE s else if dE (cdB s).2 ≠ 0 then dE (cdB s).2 else if (cdH s).2 = 0 ∧ nwP (decC s) = false then 6 else 0
theorem cdN_ok (s : List UInt8) : (cdN s).1.ok := R.ok_text (ok0 s) 32
theorem cdF_ok (s : List UInt8) : (cdF s).1.ok := tkM_ok (cdN_ok s)
theorem cdH_ok (s : List UInt8) : (cdH s).1.ok := R.ok_number (cdF_ok s) 8
theorem cdD_ok (s : List UInt8) : (cdD s).1.ok := R.ok_bytes (cdH_ok s) 32
theorem cdM_ok (s : List UInt8) : (cdM s).1.ok := tkM_ok (cdD_ok s)
theorem cdB_ok (s : List UInt8) : (cdB s).1.ok := R.ok_text (cdM_ok s) 1048576
theorem cdN_s (s : List UInt8) : (cdN s).1.s = s := R.text_s _ _
theorem cdF_s (s : List UInt8) : (cdF s).1.s = s := (tkM_s _).trans (cdN_s s)
theorem cdH_s (s : List UInt8) : (cdH s).1.s = s := (R.number_s _ _).trans (cdF_s s)
theorem cdD_s (s : List UInt8) : (cdD s).1.s = s := (R.bytes_s _ _).trans (cdH_s s)
theorem cdM_s (s : List UInt8) : (cdM s).1.s = s := (tkM_s _).trans (cdD_s s)
theorem cdB_s (s : List UInt8) : (cdB s).1.s = s := (R.text_s _ _).trans (cdM_s s)
theorem cdB_goes {s : List UInt8} (h : (cdB s).1.err = 0) : Goes (cdM s).1 (cdB s).1 (num (cdB s).2.length 4 ++ (cdB s).2) := text_goes (cdM_ok s) h
theorem cdM_goes {s : List UInt8} (h : (cdM s).1.err = 0) : Goes (cdD s).1 (cdM s).1 (memB (cdM s).2) ∧ OkM (cdM s).2 := tkM_goes (cdD_ok s) h
theorem cdD_goes {s : List UInt8} (h : (cdD s).1.err = 0) : Goes (cdH s).1 (cdD s).1 (cdD s).2 ∧ (cdD s).2.length = 32 := bytes_goes (k := 32) (cdH_ok s) h
theorem cdH_goes {s : List UInt8} (h : (cdH s).1.err = 0) : Goes (cdF s).1 (cdH s).1 (num (cdH s).2 8) := number_goes (k := 8) (cdF_ok s) (by omega) h
theorem cdF_goes {s : List UInt8} (h : (cdF s).1.err = 0) : Goes (cdN s).1 (cdF s).1 (memB (cdF s).2) ∧ OkM (cdF s).2 := tkM_goes (cdN_ok s) h
theorem cdN_goes {s : List UInt8} (h : (cdN s).1.err = 0) : Goes ⟨s, 0, 0⟩ (cdN s).1 (num (cdN s).2.length 4 ++ (cdN s).2) := text_goes (ok0 s) h
theorem cdN_le (s : List UInt8) : (cdN s).2.length ≤ 32 := R.text_le _ 32
theorem cdB_le (s : List UInt8) : (cdB s).2.length ≤ 1048576 := R.text_le _ 1048576
theorem cdH_lt (s : List UInt8) : (cdH s).2 < 18446744073709551616 := R.number_lt _ _
theorem hash32_id {h : List UInt8} (hl : h.length = 32) : hash32 h = h := by
  unfold hash32
  simp [hl, List.take_of_length_le]
/-- What is read without an error may be, and its bytes are what was read. -/
theorem dec_ok {s : List UInt8} (h1 : cdE s = 0) (h2 : dE (cdB s).2 = 0) : OkC (decC s) ∧ encC (decC s) = s ∧ (decC s).t.cnt ≤ 1024 := by
  unfold cdE at h1
  obtain ⟨he, hp⟩ := R.fin_zero (cdB_ok s) h1
  obtain ⟨d1, d2, d3, d4⟩ := dM_all h2
  have g6 := cdB_goes he
  obtain ⟨g5, o5⟩ := cdM_goes g6.e0
  obtain ⟨g4, o4⟩ := cdD_goes g5.e0
  have g3 := cdH_goes g4.e0
  obtain ⟨g2, o2⟩ := cdF_goes g3.e0
  have g1 := cdN_goes g2.e0
  have g := (g1.trans (g2.trans (g3.trans (g4.trans (g5.trans g6))))).at'
  rw [hp, cdB_s] at g
  have hs := cdB_s s
  have hn := cdN_le s
  have hh := cdH_lt s
  obtain ⟨l1, l2⟩ := layT_ok (dM (cdB s).2)
  unfold decC encC
  dsimp only
  rw [d4, hash32_id o4]
  generalize (cdN s).2 = nm at *
  generalize (cdF s).2 = fi at *
  generalize (cdH s).2 = ht at *
  generalize (cdD s).2 = hs at *
  generalize (cdM s).2 = me at *
  generalize (cdB s).2 = bb at *
  refine ⟨⟨okM_iff.2 o2, okM_iff.2 o5, o4, hn, d1, l1, hh, Nat.zero_le _⟩, ?_, Nat.le_trans l2 d1.len⟩
  have g : s.take s.length = [] ++ ((num nm.length 4 ++ nm) ++ (memB fi ++ (num ht 8 ++ (hs ++ (memB me ++ (num bb.length 4 ++ bb)))))) := g
  rw [List.take_length, List.nil_append] at g
  exact g.symm
theorem dec_good {s : List UInt8} (h : decE s = 0) : OkC (decC s) ∧ encC (decC s) = s ∧ (decC s).t.cnt ≤ 1024 := by
  unfold decE at h
  by_cases h1 : cdE s = 0
  · rw [if_neg (fun e => e h1)] at h
    by_cases h2 : dE (cdB s).2 = 0
    · exact dec_ok h1 h2
    · rw [if_pos h2] at h
      exact absurd h h2
  · rw [if_pos h1] at h
    exact absurd h h1
end Go.Proofs.YtmbdhngoldganaaGreatDoor
namespace Go.Proofs.YtmbdhngoldganaaGreatDoor
open Go Go.RowKit
/-- The cells of a chain that is made field by field. -/
def chG (name : List UInt8) (sf : Value) (ht : Nat) (hash : List UInt8) (sm p q sk : Value) : Array Value := #[.string ⟨name.toArray⟩, sf, .int .u64 (ht : Nat), .string ⟨hash.toArray⟩, sm, p, q, sk]
theorem chG_size (name : List UInt8) (sf : Value) (ht : Nat) (hash : List UInt8) (sm p q sk : Value) : (chG name sf ht hash sm p q sk).size = 8 := rfl
theorem chG_s0 (name n2 : List UInt8) (sf : Value) (ht : Nat) (hash : List UInt8) (sm p q sk : Value) : (chG name sf ht hash sm p q sk).setIfInBounds 0 (.string ⟨n2.toArray⟩) = chG n2 sf ht hash sm p q sk := rfl
theorem chG_s1 (name : List UInt8) (sf s2 : Value) (ht : Nat) (hash : List UInt8) (sm p q sk : Value) : (chG name sf ht hash sm p q sk).setIfInBounds 1 s2 = chG name s2 ht hash sm p q sk := rfl
theorem chG_s2 (name : List UInt8) (sf : Value) (ht h2 : Nat) (hash : List UInt8) (sm p q sk : Value) : (chG name sf ht hash sm p q sk).setIfInBounds 2 (.int .u64 (h2 : Nat)) = chG name sf h2 hash sm p q sk := rfl
theorem chG_s3 (name : List UInt8) (sf : Value) (ht : Nat) (hash h2 : List UInt8) (sm p q sk : Value) : (chG name sf ht hash sm p q sk).setIfInBounds 3 (.string ⟨h2.toArray⟩) = chG name sf ht h2 sm p q sk := rfl
theorem chG_s4 (name : List UInt8) (sf : Value) (ht : Nat) (hash : List UInt8) (sm s2 p q sk : Value) : (chG name sf ht hash sm p q sk).setIfInBounds 4 s2 = chG name sf ht hash s2 p q sk := rfl
theorem chG_s5 (name : List UInt8) (sf : Value) (ht : Nat) (hash : List UInt8) (sm p p2 q sk : Value) : (chG name sf ht hash sm p q sk).setIfInBounds 5 p2 = chG name sf ht hash sm p2 q sk := rfl
theorem chG_s6 (name : List UInt8) (sf : Value) (ht : Nat) (hash : List UInt8) (sm p q q2 sk : Value) : (chG name sf ht hash sm p q sk).setIfInBounds 6 q2 = chG name sf ht hash sm p q2 sk := rfl
/-- A reader, and a chain that is made. -/
structure DCS (w wl : World) (cb rb : Nat) (r : R) (cells : Array Value) : Prop where
  rd : RD wl rb r
  ch : Blk wl cb cells 103
  bl : Below w.heap.size w wl
  ne : cb ≠ rb
  locb : w.heap.size ≤ cb
  lorb : w.heap.size ≤ rb
theorem DCS.to {w wl w2 : World} {cb rb : Nat} {r r2 : R} {c : Array Value} (h : DCS w wl cb rb r c) (k : To wl w2 rb r2) : DCS w w2 cb rb r2 c :=
  ⟨k.rd, h.ch.grown k.grown (fun e => h.ne (Option.some.inj e)), h.bl.trans (below_of_grown k.grown h.lorb h.bl.size), h.ne, h.locb, h.lorb⟩
theorem DCS.set {w wl w2 : World} {cb rb : Nat} {r : R} {c c2 : Array Value} (h : DCS w wl cb rb r c) (hg : wl.grownBy w2 (some cb)) (hb : Blk w2 cb c2 103) : DCS w w2 cb rb r c2 :=
  ⟨h.rd.grown hg h.ne.symm, hb, h.bl.trans (below_of_grown hg h.locb h.bl.size), h.ne, h.locb, h.lorb⟩
theorem DCS.below {w wl w2 : World} {cb rb : Nat} {r : R} {c : Array Value} (h : DCS w wl cb rb r c) (k : Below wl.heap.size wl w2) : DCS w w2 cb rb r c :=
  ⟨h.rd.below k, h.ch.belowSize k, h.bl.trans (k.mono h.bl.size), h.ne, h.locb, h.lorb⟩
theorem VL.to {w w2 : World} {lo rb : Nat} {r r2 : R} {sl : Value} {l : List Value} (h : VL w 3 lo sl l) (hr : RD w rb r) (k : To w w2 rb r2) : VL w2 3 lo sl l := h.grownT k.grown hr.blk (by decide)
/-- Numbers that were read lie in a block of their own. -/
theorem VL.cb {w : World} {lo : Nat} {sl : Value} {l : List Int} (h : VL w 3 lo sl (l.map fun x => .int .i64 x)) (h0 : l ≠ []) : ∃ g cap, sl = .slice (some ⟨g, 0, none⟩) l.length cap ∧ CB w g l := by
  rcases h with ⟨h1, _⟩ | ⟨g, cap, _, rfl, h3⟩
  · exact absurd (List.map_eq_nil_iff.1 h1) h0
  · obtain ⟨cur, fr, k1, k2, k3, _, k5⟩ := h3.out
    rw [List.length_map] at k2 ⊢
    refine ⟨g, cap, rfl, cur, fr, k1, Nat.le_trans k2 k3, fun j x hx => k5 j _ ?_⟩
    rw [List.getElem?_map, hx]
    rfl
theorem cd1 (s : List UInt8) (rb : Nat) (w : World) (h : RD w rb ⟨s, 0, 0⟩) (hl : s.length ≤ 140737488355328) : Calls Tryz.prog 39 #[.pointer (some ⟨rb, 0, none⟩), .int .i64 32] w fun e w' => e = .returned (.string ⟨(cdN s).2.toArray⟩) ∧ To w w' rb (cdN s).1 := text_any rb _ 32 w h (ok0 s) hl (by decide)
theorem cd2 (s : List UInt8) (rb : Nat) (w : World) (h : RD w rb (cdN s).1) (hl : s.length ≤ 140737488355328) : Calls Tryz.prog 40 #[.pointer (some ⟨rb, 0, none⟩)] w (TakeMP rb w (cdF s).1 (cdF s).2) := takeMem_any rb _ w h (cdN_ok s) (by rw [cdN_s]; exact hl)
theorem cd3 (s : List UInt8) (rb : Nat) (w : World) (h : RD w rb (cdF s).1) (hl : s.length ≤ 140737488355328) : Calls Tryz.prog 41 #[.pointer (some ⟨rb, 0, none⟩), .int .i64 8] w fun e w' => e = .returned (.int .u64 ((cdH s).2 : Nat)) ∧ To w w' rb (cdH s).1 := number_r rb _ 8 w h (cdF_ok s) (by rw [cdF_s]; exact hl)
theorem cd4 (s : List UInt8) (rb : Nat) (w : World) (h : RD w rb (cdH s).1) (hl : s.length ≤ 140737488355328) : Calls Tryz.prog 42 #[.pointer (some ⟨rb, 0, none⟩)] w fun e w' => e = .returned (.string ⟨(cdD s).2.toArray⟩) ∧ To w w' rb (cdD s).1 := hash_any rb _ w h (cdH_ok s) (by rw [cdH_s]; exact hl)
theorem cd5 (s : List UInt8) (rb : Nat) (w : World) (h : RD w rb (cdD s).1) (hl : s.length ≤ 140737488355328) : Calls Tryz.prog 40 #[.pointer (some ⟨rb, 0, none⟩)] w (TakeMP rb w (cdM s).1 (cdM s).2) := takeMem_any rb _ w h (cdD_ok s) (by rw [cdD_s]; exact hl)
theorem cd6 (s : List UInt8) (rb : Nat) (w : World) (h : RD w rb (cdM s).1) (hl : s.length ≤ 140737488355328) : Calls Tryz.prog 39 #[.pointer (some ⟨rb, 0, none⟩), .int .i64 1048576] w fun e w' => e = .returned (.string ⟨(cdB s).2.toArray⟩) ∧ To w w' rb (cdB s).1 := text_any rb _ 1048576 w h (cdM_ok s) (by rw [cdM_s]; exact hl) (by decide)
theorem cd7 (s : List UInt8) (rb : Nat) (w : World) (h : RD w rb (cdB s).1) (hl : s.length ≤ 140737488355328) : Calls Tryz.prog 43 #[.pointer (some ⟨rb, 0, none⟩)] w fun e w' => e = .returned (.int .i64 (cdE s)) ∧ To w w' rb (cdB s).1.fin := end_any rb _ w h (cdB_ok s) (by rw [cdB_s]; exact hl)
/-- What Decode leaves. -/
def DcP (s : List UInt8) (w : World) (e : Ending) (w' : World) : Prop :=
  ∃ p, e = .returned (.tuple #[.pointer p, .int .i64 (decE s)]) ∧ Below w.heap.size w w' ∧ (decE s ≠ 0 → p = none) ∧ (decE s = 0 → ∃ cb bs bt, p = some ⟨cb, 0, none⟩ ∧ CH w' w.heap.size cb bs bt (.slice none 0 0) (decC s))
theorem DcP.bad {s : List UInt8} {w w' : World} (er : Int) (h : er ≠ 0) (he : decE s = er) (hb : Below w.heap.size w w') : DcP s w (.returned (.tuple #[.pointer none, .int .i64 er])) w' := ⟨none, by rw [he], hb, fun _ => rfl, fun e => absurd (he.symm.trans e) h⟩
section
attribute [local go_sem] Oper.semAt_some
set_option maxRecDepth 100000 in
set_option maxHeartbeats 4000000 in
theorem decCh_any (s : List UInt8) (w : World) (hG : Sh.Glob w) (hl : s.length ≤ 140737488355328) : Calls Tryz.prog 12 #[.string ⟨s.toArray⟩] w (DcP s w) := by
  have h2w := hG.two
  have HR := fun w1 => newr_any s w1
  have H1 := fun rb w1 (h : RD w1 rb ⟨s, 0, 0⟩) => cd1 s rb w1 h hl
  have H2 := fun rb w1 (h : RD w1 rb (cdN s).1) => cd2 s rb w1 h hl
  have H3 := fun rb w1 (h : RD w1 rb (cdF s).1) => cd3 s rb w1 h hl
  have H4 := fun rb w1 (h : RD w1 rb (cdH s).1) => cd4 s rb w1 h hl
  have H5 := fun rb w1 (h : RD w1 rb (cdD s).1) => cd5 s rb w1 h hl
  have H6 := fun rb w1 (h : RD w1 rb (cdM s).1) => cd6 s rb w1 h hl
  have H7 := fun rb w1 (h : RD w1 rb (cdB s).1) => cd7 s rb w1 h hl
  have H8 := fun w1 => decode_any (cdB s).2 w1 (Nat.le_trans (cdB_le s) (by decide))
  have hE1 : Hid (cdE s ≠ 0 → decE s = cdE s) := fun h => if_pos h
  have hE2 : Hid (cdE s = 0 → dE (cdB s).2 ≠ 0 → decE s = dE (cdB s).2) := fun h h2 => by unfold decE; rw [if_neg (fun e => e h), if_pos h2]
  have hE3 : Hid (cdE s = 0 → dE (cdB s).2 = 0 → (cdH s).2 = 0 → nwP (decC s) = false → decE s = 6) := fun h h2 h3 h4 => by unfold decE; rw [if_neg (fun e => e h), if_neg (fun e => e h2), if_pos ⟨h3, h4⟩]
  have hE4 : Hid (cdE s = 0 → dE (cdB s).2 = 0 → ¬ ((cdH s).2 = 0 ∧ nwP (decC s) = false) → decE s = 0) := fun h h2 h3 => by unfold decE; rw [if_neg (fun e => e h), if_neg (fun e => e h2), if_neg h3]
  have hOk : Hid (cdE s = 0 → dE (cdB s).2 = 0 → OkC (decC s)) := fun h h2 => (dec_ok h h2).1
  have hMd : Hid (dE (cdB s).2 = 0 → Sz (dM (cdB s).2) ∧ mapD (dM (cdB s).2) = dM (cdB s).2) := fun h => ⟨(dM_all h).1, (dM_all h).2.2.1⟩
  have hC : Hid (decC s = ⟨(cdN s).2, (cdF s).2, (cdH s).2, (cdD s).2, (cdM s).2, dM (cdB s).2, layT (dM (cdB s).2), []⟩) := rfl
  unfold TakeMP at H2 H5
  generalize (cdB s).1.fin = r7 at *
  generalize (cdB s).1 = r6 at *
  generalize (cdM s).1 = r5 at *
  generalize (cdD s).1 = r4 at *
  generalize (cdH s).1 = r3 at *
  generalize (cdF s).1 = r2 at *
  generalize (cdN s).1 = r1 at *
  generalize (cdN s).2 = nm at *
  generalize (cdF s).2 = fi at *
  generalize (cdH s).2 = ht at *
  generalize (cdD s).2 = hs at *
  generalize (cdM s).2 = me at *
  generalize (cdB s).2 = bb at *
  obtain ⟨e1, he1⟩ : ∃ y, y = cdE s := ⟨_, rfl⟩
  rw [← he1] at H7 hE1 hE2 hE3 hE4 hOk
  clear he1
  go_enter Tryz.func12, Tryz.ntmps12
  go_upto_region 2 with fail
  have h4 := Blk.new w (chG [] (.slice none 0 0) 0 [] (.slice none 0 0) (.pointer none) (.pointer none) (.slice none 0 0)) 103
  have hw1 : Below w.heap.size w (w.alloc (.cells (chG [] (.slice none 0 0) 0 [] (.slice none 0 0) (.pointer none) (.pointer none) (.slice none 0 0)) 103)) := (Below.refl _ _).alloc (Nat.le_refl _) _
  have hne : Hid (w.heap.size ≠ (w.alloc (.cells (chG [] (.slice none 0 0) 0 [] (.slice none 0 0) (.pointer none) (.pointer none) (.slice none 0 0)) 103)).heap.size) := by (show _ ≠ _; simp)
  change Code.wp _ _ _ _ (w.alloc (.cells (chG [] (.slice none 0 0) 0 [] (.slice none 0 0) (.pointer none) (.pointer none) (.slice none 0 0)) 103))
  generalize w.alloc (.cells (chG [] (.slice none 0 0) 0 [] (.slice none 0 0) (.pointer none) (.pointer none) (.slice none 0 0)) 103) = w1 at *
  go_upto_region 10 with (first
    | (go_at_call 38; refine (HR _).mono ?_; rintro e w2 ⟨rfl, hw2, hR2⟩; clear HR; have hQ : DCS w w2 w.heap.size w1.heap.size ⟨s, 0, 0⟩ _ := ⟨hR2, h4.belowSize hw2, hw1.trans (hw2.mono hw1.size), hne.out, Nat.le_refl _, hw1.size⟩; clear hR2 h4 hw2 hne)
    | (go_at_call 39; first
      | (refine (H1 _ _ hQ.rd).mono ?_; rintro e w3 ⟨rfl, hT⟩; clear H1; replace hQ := hQ.to hT; clear hT)
      | (refine (H6 _ _ hQ.rd).mono ?_; rintro e w13 ⟨rfl, hT⟩; clear H6; replace hVf := hVf.to hQ.rd hT; replace hVm := hVm.to hQ.rd hT; replace hQ := hQ.to hT; clear hT))
    | (go_at_call 40; first
      | (refine (H2 _ _ hQ.rd).mono ?_; rintro e w5 ⟨sf, rfl, hVf, hT⟩; clear H2; replace hVf := hVf.mono (Nat.zero_le _); obtain ⟨af, cf, rfl, hIf⟩ := hVf.ia; clear hIf; replace hQ := hQ.to hT; clear hT)
      | (refine (H5 _ _ hQ.rd).mono ?_; rintro e w11 ⟨sm, rfl, hVm, hT⟩; clear H5; replace hVm := hVm.mono (Nat.zero_le _); obtain ⟨am, cm, rfl, hIm⟩ := hVm.ia; clear hIm; replace hVf := hVf.to hQ.rd hT; replace hQ := hQ.to hT; clear hT))
    | (go_at_call 41; refine (H3 _ _ hQ.rd).mono ?_; rintro e w7 ⟨rfl, hT⟩; clear H3; replace hVf := hVf.to hQ.rd hT; replace hQ := hQ.to hT; clear hT)
    | (go_at_call 42; refine (H4 _ _ hQ.rd).mono ?_; rintro e w9 ⟨rfl, hT⟩; clear H4; replace hVf := hVf.to hQ.rd hT; replace hQ := hQ.to hT; clear hT)
    | (go_at_call 43; refine (H7 _ _ hQ.rd).mono ?_; rintro e w14 ⟨rfl, hT⟩; clear H7; replace hVf := hVf.to hQ.rd hT; replace hVm := hVm.to hQ.rd hT; replace hQ := hQ.to hT; clear hT)
    | (with_reducible refine at_list ?_; first
      | (refine wpList_storeCell (op := ⟨none, .store 9 (.tmp 14) (.tmp 13), _, _, _, _⟩) rfl _ _ _ rfl w.heap.size 0 rfl (.string ⟨nm.toArray⟩) rfl _ _ hQ.ch (by kernel_rfl) rfl rfl (by rw [chG_size]; decide) ?_; intro w4 hg hs4 hb; clear hs4; rw [chG_s0] at hb; replace hQ := hQ.set hg hb; clear hg hb)
      | (refine wpList_storeCell (op := ⟨none, .store 22 (.tmp 17) (.tmp 16), _, _, _, _⟩) rfl _ _ _ rfl w.heap.size 1 rfl (.slice af fi.length cf) rfl _ _ hQ.ch (by kernel_rfl) rfl rfl (by rw [chG_size]; decide) ?_; intro w6 hg hs6 hb; clear hs6; rw [chG_s1] at hb; replace hVf := hVf.grownT hg hQ.ch (by decide); replace hQ := hQ.set hg hb; clear hg hb)
      | (refine wpList_storeCell (op := ⟨none, .store 36 (.tmp 21) (.tmp 19), _, _, _, _⟩) rfl _ _ _ rfl w.heap.size 2 rfl (.int .u64 (ht : Nat)) rfl _ _ hQ.ch (by kernel_rfl) rfl rfl (by rw [chG_size]; decide) ?_; intro w8 hg hs8 hb; clear hs8; rw [chG_s2] at hb; replace hVf := hVf.grownT hg hQ.ch (by decide); replace hQ := hQ.set hg hb; clear hg hb)
      | (refine wpList_storeCell (op := ⟨none, .store 9 (.tmp 25) (.tmp 23), _, _, _, _⟩) rfl _ _ _ rfl w.heap.size 3 rfl (.string ⟨hs.toArray⟩) rfl _ _ hQ.ch (by kernel_rfl) rfl rfl (by rw [chG_size]; decide) ?_; intro w10 hg hs10 hb; clear hs10; rw [chG_s3] at hb; replace hVf := hVf.grownT hg hQ.ch (by decide); replace hQ := hQ.set hg hb; clear hg hb)
      | (refine wpList_storeCell (op := ⟨none, .store 22 (.tmp 29) (.tmp 27), _, _, _, _⟩) rfl _ _ _ rfl w.heap.size 4 rfl (.slice am me.length cm) rfl _ _ hQ.ch (by kernel_rfl) rfl rfl (by rw [chG_size]; decide) ?_; intro w12 hg hs12 hb; clear hs12; rw [chG_s4] at hb; replace hVf := hVf.grownT hg hQ.ch (by decide); replace hVm := hVm.grownT hg hQ.ch (by decide); replace hQ := hQ.set hg hb; clear hg hb)))
  clear hw1
  by_cases h1 : e1 = 0
  · subst h1
    replace hE2 := hE2.out rfl
    replace hE3 := hE3.out rfl
    replace hE4 := hE4.out rfl
    replace hOk := hOk.out rfl
    replace hE2 : Hid (dE bb ≠ 0 → decE s = dE bb) := hE2
    replace hE3 : Hid (dE bb = 0 → ht = 0 → nwP (decC s) = false → decE s = 6) := hE3
    replace hE4 : Hid (dE bb = 0 → ¬ (ht = 0 ∧ nwP (decC s) = false) → decE s = 0) := hE4
    replace hOk : Hid (dE bb = 0 → OkC (decC s)) := hOk
    clear hE1
    unfold DecP at H8
    obtain ⟨e2, he2⟩ : ∃ y, y = dE bb := ⟨_, rfl⟩
    rw [← he2] at H8 hE2 hE3 hE4 hOk hMd
    clear he2
    by_cases h2 : e2 = 0
    · subst h2
      replace hE3 := hE3.out rfl
      replace hE4 := hE4.out rfl
      have hok := hOk.out rfl
      obtain ⟨hsz, hmd⟩ := hMd.out rfl
      rw [hmd] at H8
      replace hE3 : Hid (ht = 0 → nwP (decC s) = false → decE s = 6) := hE3
      replace hE4 : Hid (¬ (ht = 0 ∧ nwP (decC s) = false) → decE s = 0) := hE4
      clear hmd hOk hMd hE2
      have hokf : OkM fi := by have := okM_iff.1 hok.first; rw [hC.out] at this; exact this
      have hokm : OkM me := by have := okM_iff.1 hok.mem; rw [hC.out] at this; exact this
      obtain ⟨gf, cf2, ef, _⟩ := hVf.cb hokf.ne
      obtain ⟨gm, cm2, em, _⟩ := hVm.cb hokm.ne
      cases ef
      cases em
      have HT := fun b w1 (h : ST w1 b (dM bb)) (hB : Below w.heap.size w w1) => treeOf_any b (dM bb) w1 (hG.belowSize hB) h hsz
      unfold TroP at HT
      generalize dM bb = mm at *
      go_upto_region 16 with (first
        | (go_at_call 44; refine (H8 _).mono ?_; rintro e w15 ⟨p, rfl, hw15, _, hp⟩; clear H8; obtain ⟨ob, hob, rfl, hST⟩ := hp rfl; clear hp; replace hVf := hVf.below hw15; replace hVm := hVm.below hw15; have hob2 : w.heap.size ≤ ob := Nat.le_trans hQ.bl.size hob; replace hQ := hQ.below hw15; clear hw15 hob)
        | (go_at_call 45; refine (HT _ _ hST hQ.bl).mono ?_; rintro e w16 ⟨q, rfl, hT, hF, hw16⟩; clear HT; have hbt : w.heap.size ≤ w15.heap.size := hQ.bl.size; replace hVf := hVf.below hw16; replace hVm := hVm.below hw16; replace hQ := hQ.below hw16; have hEX : EX w16 ob w15.heap.size mm (layT mm) := ⟨hST.below hw16, ⟨q, hT, hF⟩, hG.belowSize hQ.bl, by omega, by omega⟩; clear hST hT hF hw16)
        | (with_reducible refine at_list ?_; first
          | (refine wpList_storeCell (op := ⟨none, .store 72 (.tmp 48) (.tmp 45), _, _, _, _⟩) rfl _ _ _ rfl w.heap.size 5 rfl (.pointer (some ⟨ob, 0, none⟩)) rfl _ _ hQ.ch (by kernel_rfl) rfl rfl (by rw [chG_size]; decide) ?_; intro w17 hg hs17 hb; clear hs17; rw [chG_s5] at hb; replace hVf := hVf.grownT hg hQ.ch (by decide); replace hVm := hVm.grownT hg hQ.ch (by decide); replace hEX := hEX.other hg hQ.ch (by decide) (by decide) (by decide) h2w; replace hQ := hQ.set hg hb; clear hg hb)
          | (refine wpList_storeCell (op := ⟨none, .store 100 (.tmp 49) (.tmp 47), _, _, _, _⟩) rfl _ _ _ rfl w.heap.size 6 rfl (.pointer (some ⟨w15.heap.size, 0, none⟩)) rfl _ _ hQ.ch (by kernel_rfl) rfl rfl (by rw [chG_size]; decide) ?_; intro w18 hg hs18 hb; clear hs18; rw [chG_s6] at hb; replace hVf := hVf.grownT hg hQ.ch (by decide); replace hVm := hVm.grownT hg hQ.ch (by decide); replace hEX := hEX.other hg hQ.ch (by decide) (by decide) (by decide) h2w; replace hQ := hQ.set hg hb; clear hg hb)))
      obtain ⟨gf2, cf2, ef, hCf⟩ := hVf.cb hokf.ne
      obtain ⟨gm2, cm2, em, hCm⟩ := hVm.cb hokm.ne
      cases ef
      cases em
      have hCH : CH w18 w.heap.size w.heap.size ob w15.heap.size (.slice none 0 0) (decC s) := by
        rw [hC.out]
        exact ⟨⟨gf, cf, gm, cm, hQ.ch, hCf, hCm⟩, hEX, ⟨[], ⟨by simp, .inl ⟨rfl, rfl⟩⟩, BKL.nil _⟩, h2w, Nat.le_refl _, hob2, hbt⟩
      have hB18 := hQ.bl
      have c2 : w18.cell? ⟨w.heap.size, 2, none⟩ = some (.int .u64 (ht : Nat)) := (hQ.ch.cell 2).trans rfl
      have HN := isNew_any _ _ _ _ _ _ w18 hCH hok
      have hGood : Hid (∀ w', Below w18.heap.size w18 w' → decE s = 0 → DcP s w (.returned (.tuple #[.pointer (some ⟨w.heap.size, 0, none⟩), .int .i64 0])) w') := fun w' hb he => ⟨some ⟨w.heap.size, 0, none⟩, by rw [he], hB18.trans (hb.mono hB18.size), fun h => absurd he h, fun _ => ⟨w.heap.size, ob, w15.heap.size, rfl, hCH.below hb⟩⟩
      have hBad : Hid (∀ w', Below w18.heap.size w18 w' → decE s = 6 → DcP s w (.returned (.tuple #[.pointer none, .int .i64 6])) w') := fun w' hb he => DcP.bad 6 (by decide) he (hB18.trans (hb.mono hB18.size))
      generalize decC s = c at *
      clear hVf hVm hCf hCm hEX hC hok hsz hokf hokm hCH hQ
      simp only [Act.put]
      by_cases h3 : ht = 0
      · subst h3
        replace hE3 := hE3.out rfl
        cases hn : nwP c
        · have hE := hE3 hn
          rw [hn] at HN
          replace hE : Hid (decE s = 6) := hE
          clear hn hE3 hE4 hGood
          go_wp2_with (go_at_call 46; refine HN.mono ?_; rintro e w19 ⟨rfl, hw19⟩; clear HN)
          go_ret2
          exact hBad.out _ hw19 hE.out
        · have hE := hE4.out (fun e => by rw [hn] at e; exact absurd e.2 (by decide))
          rw [hn] at HN
          replace hE : Hid (decE s = 0) := hE
          clear hn hE3 hE4 hBad
          go_wp2_with (go_at_call 46; refine HN.mono ?_; rintro e w19 ⟨rfl, hw19⟩; clear HN)
          go_ret2
          exact hGood.out _ hw19 hE.out
      · have hE := hE4.out (fun e => h3 e.1)
        replace hE : Hid (decE s = 0) := hE
        have hd3 : ((ht : Int) == 0) = false := by rw [beq_eq_false_iff_ne]; omega
        replace h3 : Hid (¬ ht = 0) := h3
        clear HN hE3 hE4 hBad
        go_wp2_with fail
        go_ret2
        exact hGood.out _ (Below.refl _ _) hE.out
    · have hb2 : (e2 != 0) = true := by simpa using h2
      have hd2 : (e2 == 0) = false := by simpa using h2
      have hP := fun w' (hb : Below w.heap.size w w') => DcP.bad (w' := w') e2 h2 (hE2.out h2) hb
      replace h2 : Hid (¬ e2 = 0) := h2
      go_wp2_with (go_at_call 44; refine (H8 _).mono ?_; rintro e w15 ⟨p, rfl, hw15, hp, _⟩; replace hp := hp h2.out; subst hp; clear H8; replace hQ := hQ.below hw15)
      go_ret2
      exact hP _ hQ.bl
  · have hb1 : (e1 != 0) = true := by simpa using h1
    have hd1 : (e1 == 0) = false := by simpa using h1
    have hP := DcP.bad (w' := w14) e1 h1 (hE1.out h1) hQ.bl
    replace h1 : Hid (¬ e1 = 0) := h1
    go_wp2_with fail
    go_ret2
    exact hP
end
end Go.Proofs.YtmbdhngoldganaaGreatDoor
