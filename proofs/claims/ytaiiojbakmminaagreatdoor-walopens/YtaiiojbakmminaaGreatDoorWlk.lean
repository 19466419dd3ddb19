/- Changes of a disk, whether a planned fall strikes or not. The names of a log's files, plainly: generations and segments below a hundred. Disks that are synced, plainly: what is there by its names. -/
import Derived.Test.YtaiiojbakmminaaGreatDoorKHit
import Derived.Test.YtaiiojbakmminaaGreatDoorKSml
import Derived.Lib.ItoaNum
import Derived.Lib.Atoi
import Derived.Lib.Strings
import Derived.Test.YtaiiojbakmminaaGreatDoorKRgr
namespace Go.Proofs.YtaiiojbakmminaaGreatDoor
open Go Go.RowKit
/-- What a change leaves that is struck. -/
def HitP (w : World) (p : Nat) (b : Option Nat) (m : DM) (f : FA) (e : Ending) (w' : World) : Prop := e = .returned (.int .i64 7) ∧ ∃ b' a c, Chg w w' p b b' ∧ DK w' p b' { m with dead := true, l := settleL (failL f.keep f.torn m.l), pv := .slice a 0 c }
section
variable (p : Nat) (b : Option Nat) (m : DM) (w : World) (hK : DK w p b m) (hm : Okd m) (f : FA) (hP : PlA w m.pv f) (hat : f.at_ = (m.ch : Int)) (hby : ∀ f ∈ m.l, (kbyt f.is).length ≤ 1000000000000 ∧ (kbyt f.sure).length ≤ 1000000000000)
include hK hm hP hat hby
theorem HSof (w1 : World) (hB : Below w.heap.size w w1) : Calls Tryz.prog 74 #[.pointer (some ⟨p, 0, none⟩)] w1 fun e w' => e = .returned (.bool true) ∧ ∃ b' a c, Chg w1 w' p b b' ∧ DK w' p b' { m with dead := true, l := settleL (failL f.keep f.torn m.l), pv := .slice a 0 c } :=
  struck_hit p b m w1 (hK.below hB) f (hP.below hB) hat (Nat.le_trans hm.len (by omega)) hby
set_option maxRecDepth 100000 in
set_option maxHeartbeats 2000000 in
theorem put_hit (n stay s : B) (how : Nat) (h1 : stay.length ≤ 1000000000000) (h2 : s.length ≤ 1000000000000) (hq : fullE m ((stay.length : Int) + (s.length : Int) - ((kbyt (atL n m.l)).length : Int)) = false) :
    Calls Tryz.prog 58 #[.pointer (some ⟨p, 0, none⟩), .string ⟨n.toArray⟩, .string ⟨stay.toArray⟩, .string ⟨s.toArray⟩, .int .i64 (how : Nat)] w (HitP w p b m f) := by
  have HS := HSof p b m w hK hm f hP hat hby
  have hl := hm.len
  have hu := hm.used
  have hch := hm.ch
  have HA := at_any p b m n w hK hm.l.ris (by omega)
  have HF := fun w1 (hB : Below w.heap.size w w1) => isFull_any p b m ((stay.length : Int) + (s.length : Int) - ((kbyt (atL n m.l)).length : Int)) w1 (hK.below hB) (by omega) (by omega) hm.room
  have hal := at_len m n hm.l.ris
  rw [hq] at HF
  generalize atL n m.l = c at *
  have hw1 : IntKind.i64.wrap ((stay.length : Int) + (s.length : Int)) = (stay.length : Int) + (s.length : Int) := by rw [IntKind.wrap_i64]; omega
  have hw2 : IntKind.i64.wrap ((stay.length : Int) + (s.length : Int) - ((kbyt c).length : Int)) = (stay.length : Int) + (s.length : Int) - ((kbyt c).length : Int) := by rw [IntKind.wrap_i64]; omega
  generalize hd : (stay.length : Int) + (s.length : Int) - ((kbyt c).length : Int) = d at *
  clear hq hal hu hl hm hch hat hby hP
  go_enter Tryz.func58, Tryz.ntmps58
  go_wp2_with (first
    | (go_at_call 82; refine HA.mono ?_; rintro e w1 ⟨rfl, hw1'⟩)
    | (go_at_call 86; refine (HF _ hw1').mono ?_; rintro e w2 ⟨rfl, hw2'⟩; have hB2 := hw1'.trans (hw2'.mono hw1'.size))
    | (go_at_call 74; refine (HS _ hB2).mono ?_; rintro e w3 ⟨rfl, b3, a3, c3, hC3, hD3⟩)
    | (with_reducible refine at_list ?_; first
      | (refine wpList_run (op := ⟨some 20, _, _, _, _, _⟩) rfl _ _ (run_fieldC _ rfl c rfl) ?_)))
  go_ret
  exact ⟨rfl, b3, a3, c3, (Chg.below hB2).trans hC3, hD3⟩
set_option maxRecDepth 100000 in
set_option maxHeartbeats 2000000 in
theorem append_hit (n s : B) (hn : n.length ≤ 9223372036854775807) (h2 : s.length ≤ 1000000000000) (hna : namE m n = 0) (hq : fullE m (((kbyt (atL n m.l)).length : Int) + (s.length : Int) - ((kbyt (atL n m.l)).length : Int)) = false) :
    Calls Tryz.prog 46 #[.pointer (some ⟨p, 0, none⟩), .string ⟨n.toArray⟩, .string ⟨s.toArray⟩] w (HitP w p b m f) := by
  have hl := hm.len
  have hu := hm.used
  have HN := named_of p b m n w hK hn
  rw [hna] at HN
  have HA := at_any p b m n w hK hm.l.ris (by omega)
  have hal := at_len m n hm.l.ris
  have HP := fun w1 (hB : Below w.heap.size w w1) => put_hit p b m w1 (hK.below hB) hm f (hP.below hB) hat hby n (kbyt (atL n m.l)) s 1 (by omega) h2 hq
  clear hat hby hP hna hq
  generalize atL n m.l = c at *
  go_enter Tryz.func46, Tryz.ntmps46
  go_wp2_with (first
    | (go_at_call 57; refine HN.mono ?_; rintro e w0 ⟨rfl, hw0⟩; subst hw0)
    | (go_at_call 82; refine HA.mono ?_; rintro e w1 ⟨rfl, hw1⟩)
    | (go_at_call 58; refine (HP _ hw1).mono ?_; rintro e w4 ⟨rfl, b4, a4, c4, hC4, hD4⟩)
    | (with_reducible refine at_list ?_; first
      | (refine wpList_run (op := ⟨some 19, _, _, _, _, _⟩) rfl _ _ (run_fieldC _ rfl c rfl) ?_)))
  go_ret
  exact ⟨rfl, b4, a4, c4, (Chg.below hw1).trans hC4, hD4⟩
set_option maxRecDepth 100000 in
set_option maxHeartbeats 2000000 in
theorem write_hit (n s : B) (hn : n.length ≤ 9223372036854775807) (h2 : s.length ≤ 1000000000000) (hna : namE m n = 0) (hq : fullE m ((([] : B).length : Int) + (s.length : Int) - ((kbyt (atL n m.l)).length : Int)) = false) :
    Calls Tryz.prog 25 #[.pointer (some ⟨p, 0, none⟩), .string ⟨n.toArray⟩, .string ⟨s.toArray⟩] w (HitP w p b m f) := by
  have HN := named_of p b m n w hK hn
  rw [hna] at HN
  have HP := put_hit p b m w hK hm f hP hat hby n [] s 2 (by simp) h2 hq
  clear hat hby hP hna hq
  go_enter Tryz.func25, Tryz.ntmps25
  go_wp2_with (first
    | (go_at_call 57; refine HN.mono ?_; rintro e w0 ⟨rfl, hw0⟩; subst hw0)
    | (go_at_call 58; refine HP.mono ?_; rintro e w4 ⟨rfl, b4, a4, c4, hC4, hD4⟩))
  go_ret
  exact ⟨rfl, b4, a4, c4, hC4, hD4⟩
set_option maxRecDepth 100000 in
set_option maxHeartbeats 2000000 in
theorem remove_hit (n : B) (hn : n.length ≤ 9223372036854775807) (ht : theE m n = 0) :
    Calls Tryz.prog 78 #[.pointer (some ⟨p, 0, none⟩), .string ⟨n.toArray⟩] w (HitP w p b m f) := by
  have HS := HSof p b m w hK hm f hP hat hby
  have hl := hm.len
  have HT := there_any p b m n w hK hm.l.ris (by omega) hn
  rw [ht] at HT
  generalize theC m n = c at *
  clear hat hby hP ht
  go_enter Tryz.func78, Tryz.ntmps78
  go_wp2_with (first
    | (go_at_call 72; refine HT.mono ?_; rintro e w1 ⟨rfl, hw1⟩)
    | (go_at_call 74; refine (HS _ hB3).mono ?_; rintro e w4 ⟨rfl, b4, a4, c4, hC4, hD4⟩)
    | (with_reducible refine at_list ?_; first
      | (refine wpList_allocRow (op := ⟨some 5, _, _, _, _, _⟩) rfl _ rfl _ zCon.1 ?_; intro w2 hw2 hs2 h5; clear hs2; have hB2 := hw1.trans (hw2.mono hw1.size); have hsz := hw1.size)
      | (refine wpList_storeRow (op := ⟨none, .store 91 (.tmp 5) (.tmp 11), _, _, _, _⟩) rfl _ _ _ rfl w1.heap.size (cC c) rfl rfl _ _ h5 rfl (iCon _) (cC_one _) ?_; intro w3 hg3 hs3 h5b; clear hs3; have hB3 := hB2.trans (below_of_grown hg3 (by omega) hB2.size))))
  go_ret
  exact ⟨rfl, b4, a4, c4, (Chg.below hB3).trans hC4, hD4⟩
set_option maxRecDepth 100000 in
set_option maxHeartbeats 2000000 in
theorem move_hit (n t : B) (hn : n.length ≤ 9223372036854775807) (ht2 : t.length ≤ 9223372036854775807) (ht : theE m n = 0) (hot : okN t = true) (hnt : n ≠ t) :
    Calls Tryz.prog 41 #[.pointer (some ⟨p, 0, none⟩), .string ⟨n.toArray⟩, .string ⟨t.toArray⟩] w (HitP w p b m f) := by
  have HS := HSof p b m w hK hm f hP hat hby
  have hl := hm.len
  have HT := there_any p b m n w hK hm.l.ris (by omega) hn
  rw [ht] at HT
  have HN := fun w1 => name_any t w1 ht2
  rw [hot] at HN
  have hd : (n == t) = false := by simp [hnt]
  generalize theC m n = c at *
  clear hat hby hP ht hot hnt
  go_enter Tryz.func41, Tryz.ntmps41
  go_wp2_with (first
    | (go_at_call 72; refine HT.mono ?_; rintro e w1 ⟨rfl, hw1⟩)
    | (go_at_call 73; refine (HN _).mono ?_; rintro e w0 ⟨rfl, hw0⟩; subst hw0)
    | (go_at_call 74; refine (HS _ hB3).mono ?_; rintro e w4 ⟨rfl, b4, a4, c4, hC4, hD4⟩)
    | (with_reducible refine at_list ?_; first
      | (refine wpList_allocRow (op := ⟨some 7, _, _, _, _, _⟩) rfl _ rfl _ zCon.1 ?_; intro w2 hw2 hs2 h5; clear hs2; have hB2 := hw1.trans (hw2.mono hw1.size); have hsz := hw1.size)
      | (refine wpList_storeRow (op := ⟨none, .store 91 (.tmp 7) (.tmp 13), _, _, _, _⟩) rfl _ _ _ rfl w1.heap.size (cC c) rfl rfl _ _ h5 rfl (iCon _) (cC_one _) ?_; intro w3 hg3 hs3 h5b; clear hs3; have hB3 := hB2.trans (below_of_grown hg3 (by omega) hB2.size))))
  go_ret
  exact ⟨rfl, b4, a4, c4, (Chg.below hB3).trans hC4, hD4⟩
set_option maxRecDepth 100000 in
set_option maxHeartbeats 2000000 in
theorem truncate_hit (n : B) (q : Nat) (hn : n.length ≤ 9223372036854775807) (ht : theE m n = 0) (hzq : q ≤ (kbyt (theC m n)).length) :
    Calls Tryz.prog 117 #[.pointer (some ⟨p, 0, none⟩), .string ⟨n.toArray⟩, .int .i64 (q : Nat)] w (HitP w p b m f) := by
  have HS := HSof p b m w hK hm f hP hat hby
  have hl := hm.len
  have HT := there_any p b m n w hK hm.l.ris (by omega) hn
  rw [ht] at HT
  generalize theC m n = c at *
  clear hat hby hP ht
  have hz3 : ¬ ((kbyt c).length : Int) < (q : Int) := by omega
  go_enter Tryz.func117, Tryz.ntmps117
  go_wp2_with (first
    | (go_at_call 72; refine HT.mono ?_; rintro e w1 ⟨rfl, hw1⟩)
    | (go_at_call 74; refine (HS _ hB3).mono ?_; rintro e w4 ⟨rfl, b4, a4, c4, hC4, hD4⟩)
    | (with_reducible refine at_list ?_; first
      | (refine wpList_allocRow (op := ⟨some 7, _, _, _, _, _⟩) rfl _ rfl _ zCon.1 ?_; intro w2 hw2 hs2 h5; clear hs2; have hB2 := hw1.trans (hw2.mono hw1.size); have hsz := hw1.size)
      | (refine wpList_storeRow (op := ⟨none, .store 91 (.tmp 7) (.tmp 13), _, _, _, _⟩) rfl _ _ _ rfl w1.heap.size (cC c) rfl rfl _ _ h5 rfl (iCon _) (cC_one _) ?_; intro w3 hg3 hs3 h5b; clear hs3; have hB3 := hB2.trans (below_of_grown hg3 (by omega) hB2.size); have cc := (h5b.cell 1).trans (cC_g1 _))))
  go_ret
  exact ⟨rfl, b4, a4, c4, (Chg.below hB3).trans hC4, hD4⟩
end
end Go.Proofs.YtaiiojbakmminaaGreatDoor
namespace Go.Proofs.YtaiiojbakmminaaGreatDoor
open Go Go.RowKit
/-- A number below a hundred, by its digits. -/
def dg (n : Nat) : B := if n < 10 then [UInt8.ofNat (48 + n)] else [UInt8.ofNat (48 + n / 10), UInt8.ofNat (48 + n % 10)]
theorem dec_dg (n : Nat) (h : n < 100) : Lib.decDigits n = dg n := by
  unfold dg
  by_cases h1 : n < 10
  · rw [Lib.decDigits, dif_pos h1, if_pos h1]
  · rw [Lib.decDigits, dif_neg h1, if_neg h1, Lib.decDigits, dif_pos (by omega)]
    rfl
theorem itoa_dg (n : Nat) (h : n < 100) : Lib.itoa (n : Int) = dg n := by
  unfold Lib.itoa
  rw [if_neg (by omega), Int.toNat_natCast, dec_dg n h]
def isDig (b : UInt8) : Bool := decide (48 ≤ b) && decide (b ≤ 57)
theorem dg_all : ∀ n : Fin 100, (dg n.val).all isDig = true ∧ 0 < (dg n.val).length ∧ (dg n.val).length ≤ 2 ∧ Lib.atoi (dg n.val) = some (n.val : Int) := by decide +kernel
theorem dg_dig {n : Nat} (h : n < 100) : ∀ b ∈ dg n, isDig b = true := fun b hb => List.all_eq_true.1 (dg_all ⟨n, h⟩).1 b hb
theorem dg_len {n : Nat} (h : n < 100) : (dg n).length ≤ 2 := (dg_all ⟨n, h⟩).2.2.1
theorem dg_atoi {n : Nat} (h : n < 100) : Lib.atoi (dg n) = some (n : Int) := (dg_all ⟨n, h⟩).2.2.2
theorem dg_inj {n k : Nat} (h : n < 100) (h2 : k < 100) (e : dg n = dg k) : n = k := by
  have h3 := dg_atoi h
  rw [e, dg_atoi h2] at h3
  have := Option.some.inj h3
  omega
/-- base- -/
def preB : B := [98, 97, 115, 101, 45]
/-- seg- -/
def preS : B := [115, 101, 103, 45]
def dotNew : B := [46, 110, 101, 119]
def baseN (g : Nat) : B := preB ++ dg g
def newN (g : Nat) : B := baseN g ++ dotNew
def segP (g : Nat) : B := preS ++ dg g ++ [45]
def segN (g n : Nat) : B := segP g ++ dg n
theorem pre_app (p s : B) : Lib.hasPrefix (p ++ s) p = true := by
  unfold Lib.hasPrefix
  rw [List.isPrefixOf_iff_prefix]
  exact List.prefix_append _ _
theorem pre_eq {p s : B} (h : Lib.hasPrefix s p = true) : s = p ++ s.drop p.length := by
  unfold Lib.hasPrefix at h
  rw [List.isPrefixOf_iff_prefix] at h
  obtain ⟨t, rfl⟩ := h
  rw [List.drop_left' rfl]
theorem preB_seg (g n : Nat) : Lib.hasPrefix (segN g n) preB = false := rfl
theorem preB_base (g : Nat) : Lib.hasPrefix (baseN g) preB = true := pre_app _ _
theorem preB_new (g : Nat) : Lib.hasPrefix (newN g) preB = true := by unfold newN baseN; rw [List.append_assoc]; exact pre_app _ _
theorem preS_base (g : Nat) : Lib.hasPrefix (baseN g) preS = false := rfl
theorem preS_new (g : Nat) : Lib.hasPrefix (newN g) preS = false := rfl
theorem preS_seg (g n : Nat) : Lib.hasPrefix (segN g n) preS = true := by unfold segN segP; rw [List.append_assoc, List.append_assoc]; exact pre_app _ _
/-- Digits up to a sign that is none: the digits are the same. -/
theorem dig_split {a b : B} {x y : UInt8} {s t : B} (ha : ∀ u ∈ a, isDig u = true) (hb : ∀ u ∈ b, isDig u = true) (hx : isDig x = false) (hy : isDig y = false) (h : a ++ x :: s = b ++ y :: t) : a = b ∧ x :: s = y :: t := by
  induction a generalizing b with
  | nil =>
    cases b with
    | nil => exact ⟨rfl, h⟩
    | cons v b =>
      simp only [List.nil_append, List.cons_append, List.cons.injEq] at h
      rw [h.1, hb v (List.mem_cons_self ..)] at hx
      cases hx
  | cons u a ih =>
    cases b with
    | nil =>
      simp only [List.nil_append, List.cons_append, List.cons.injEq] at h
      rw [← h.1, ha u (List.mem_cons_self ..)] at hy
      cases hy
    | cons v b =>
      simp only [List.cons_append, List.cons.injEq] at h
      obtain ⟨h1, h2⟩ := ih (b := b) (fun u hu => ha u (List.mem_cons_of_mem _ hu)) (fun u hu => hb u (List.mem_cons_of_mem _ hu)) h.2
      exact ⟨by rw [h.1, h1], h2⟩
theorem seg_pre {g k n : Nat} (hg : g < 100) (hk : k < 100) (h : Lib.hasPrefix (segN k n) (segP g) = true) : g = k := by
  have e := pre_eq h
  unfold segN segP at e
  simp only [List.append_assoc] at e
  have e2 := List.append_cancel_left e
  have := dig_split (x := 45) (y := 45) (dg_dig hk) (dg_dig hg) (by decide) (by decide) (by simpa using e2)
  exact (dg_inj hk hg this.1).symm
theorem seg_preg (g n : Nat) : Lib.hasPrefix (segN g n) (segP g) = true := pre_app _ _
theorem seg_inj {g k n m : Nat} (hg : g < 100) (hk : k < 100) (hn : n < 100) (hm : m < 100) (h : segN g n = segN k m) : g = k ∧ n = m := by
  have h1 : g = k := by
    refine seg_pre (n := m) hg hk ?_
    rw [← h]
    exact seg_preg g n
  subst h1
  exact ⟨rfl, dg_inj hn hm (List.append_cancel_left h)⟩
theorem base_inj {g k : Nat} (hg : g < 100) (hk : k < 100) (h : baseN g = baseN k) : g = k := dg_inj hg hk (List.append_cancel_left h)
theorem base_seg (g k n : Nat) : baseN g ≠ segN k n := fun e => by
  have := preB_base g
  rw [e, preB_seg] at this
  cases this
theorem base_new {g k : Nat} (hg : g < 100) : baseN g ≠ newN k := fun e => by
  have e2 : dg g = dg k ++ dotNew := by
    have : preB ++ dg g = preB ++ (dg k ++ dotNew) := by rw [← List.append_assoc]; exact e
    exact List.append_cancel_left this
  have := dg_dig hg 46 (by rw [e2]; exact List.mem_append_right _ (by decide))
  exact absurd this (by decide)
/-- A number of a name, if it is a number from 1 on behind a prefix. -/
def numK (pre x : B) : Option Nat := if Lib.hasPrefix x pre = true then (match Lib.atoi (Lib.trimPrefix x pre) with
  | some n => if 1 ≤ n ∧ Lib.itoa n = Lib.trimPrefix x pre then some n.toNat else none
  | none => none) else none
theorem trim_app (p s : B) : Lib.trimPrefix (p ++ s) p = s := by
  unfold Lib.trimPrefix
  rw [if_pos (pre_app p s), List.drop_left' rfl]
theorem numK_app {p : B} {n : Nat} (h : n < 100) (h1 : 1 ≤ n) : numK p (p ++ dg n) = some n := by
  unfold numK
  rw [if_pos (pre_app _ _), trim_app, dg_atoi h]
  dsimp only
  rw [if_pos ⟨by omega, itoa_dg n h⟩, Int.toNat_natCast]
/-- Is it a file of another generation? -/
def othK (g : Nat) (x : B) : Bool := if Lib.hasPrefix x preB = true then !decide (x = baseN g) else Lib.hasPrefix x preS && !Lib.hasPrefix x (segP g)
theorem oth_base {g k : Nat} (hg : g < 100) (hk : k < 100) : othK g (baseN k) = !decide (g = k) := by
  unfold othK
  rw [if_pos (preB_base k)]
  congr 1
  rw [decide_eq_decide]
  exact ⟨fun e => (base_inj hk hg e).symm, fun e => by rw [e]⟩
theorem oth_new {g k : Nat} (hg : g < 100) : othK g (newN k) = true := by
  unfold othK
  rw [if_pos (preB_new k), decide_eq_false (base_new hg).symm]
  rfl
theorem oth_seg {g k n : Nat} (hg : g < 100) (hk : k < 100) : othK g (segN k n) = !decide (g = k) := by
  unfold othK
  rw [if_neg (by rw [preB_seg]; decide), preS_seg]
  by_cases h : g = k
  · subst h
    rw [seg_preg]
    simp
  · have : Lib.hasPrefix (segN k n) (segP g) = false := by
      cases e : Lib.hasPrefix (segN k n) (segP g) with
      | false => rfl
      | true => exact absurd (seg_pre hg hk e) h
    rw [this]
    simp [h]
/-- What the names of a log's files may be. -/
inductive WN : B → Prop
  | base (g : Nat) (h : g < 100) : WN (baseN g)
  | new (g : Nat) (h : g < 100) : WN (newN g)
  | seg (g n : Nat) (h : g < 100) (k : n < 100) : WN (segN g n)
theorem okB_dig {b : UInt8} (h : isDig b = true) : okB b = true := by
  unfold okB
  unfold isDig at h
  rw [h]
  simp
theorem ok_dg {n : Nat} (h : n < 100) : (dg n).all okB = true := List.all_eq_true.2 fun b hb => okB_dig (dg_dig h b hb)
theorem WN.ok {x : B} (h : WN x) : okN x = true := by
  cases h with
  | base g h =>
    unfold okN baseN preB
    have := dg_len h
    rw [List.all_append, ok_dg h, List.length_append]
    simp [okB]
    omega
  | new g h =>
    unfold okN newN baseN preB dotNew
    have := dg_len h
    rw [List.all_append, List.all_append, ok_dg h, List.length_append, List.length_append]
    simp [okB]
    omega
  | seg g n h k =>
    unfold okN segN segP preS
    have := dg_len h
    have := dg_len k
    rw [List.all_append, List.all_append, List.all_append, ok_dg h, ok_dg k, List.length_append, List.length_append, List.length_append]
    simp [okB]
    omega
theorem WN.len {x : B} (h : WN x) : x.length ≤ 15 := by
  cases h with
  | base g h => unfold baseN preB; have := dg_len h; rw [List.length_append]; simp; omega
  | new g h => unfold newN baseN preB dotNew; have := dg_len h; rw [List.length_append, List.length_append]; simp; omega
  | seg g n h k => unfold segN segP preS; have := dg_len h; have := dg_len k; rw [List.length_append, List.length_append, List.length_append]; simp; omega
end Go.Proofs.YtaiiojbakmminaaGreatDoor
namespace Go.Proofs.YtaiiojbakmminaaGreatDoor
open Go Go.RowKit
theorem view_live (v : F → Option B) (hv : ∀ f, gone f = true → v f = none) : ∀ l : List F, viewL v (liveL l) = viewL v l
  | [] => rfl
  | f :: r => by
    unfold liveL at *
    rw [List.filter_cons, view_cons]
    by_cases hg : gone f = true
    · rw [hg, if_neg (by simp), hv f hg]
      have := view_live v hv r
      unfold liveL at this
      rw [this]
      rfl
    · have hg : gone f = false := by simpa using hg
      rw [hg, if_pos (by simp), view_cons]
      have := view_live v hv r
      unfold liveL at this
      rw [this]
theorem view_map (v : F → Option B) (g : F → F) (hn : ∀ f, (g f).name = f.name) (l : List F) : viewL v (l.map g) = viewL (fun f => v (g f)) l := by
  unfold viewL
  rw [List.filterMap_map]
  congr 1
  funext f
  show (v (g f)).map (fun s => ((g f).name, s)) = _
  rw [hn]
theorem gone_is {f : F} (h : gone f = true) : f.is = none := by
  unfold gone at h
  cases hq : f.is with
  | none => rfl
  | some x => rw [hq] at h; simp at h
theorem gone_sure {f : F} (h : gone f = true) : f.sure = none := by
  unfold gone at h
  cases hq : f.sure with
  | none => rfl
  | some x => rw [hq] at h; simp at h
theorem settle_now (l : List F) : nowL (settleL l) = nowL l := by
  unfold nowL settleL
  rw [view_live _ (fun _ => gone_is), view_map _ stl (fun _ => rfl)]
  rfl
theorem settle_sure (l : List F) : sureL (settleL l) = nowL l := by
  unfold sureL settleL
  rw [view_live _ (fun _ => gone_sure), view_map _ stl (fun _ => rfl)]
  rfl
theorem settle_ok {ok : B → Bool} {l : List F} (h : Okl ok l) : Okl ok (settleL l) := by
  unfold settleL liveL
  refine ⟨?_, ?_, ?_⟩
  · have h1 : (l.map stl).Pairwise fun a b => a.name < b.name := by
      rw [List.pairwise_map]
      exact h.ris
    exact h1.filter _
  · intro f hf
    obtain ⟨g, hg, rfl⟩ := List.mem_map.1 (List.mem_filter.1 hf).1
    exact h.ok g hg
  · intro f hf
    simpa using (List.mem_filter.1 hf).2
theorem settle_len (l : List F) : (settleL l).length ≤ l.length := by
  unfold settleL liveL
  refine Nat.le_trans (List.length_filter_le ..) ?_
  simp
theorem usedP_ins (x : B × B) : ∀ l : List (B × B), usedP (insP x l) = x.2.length + usedP l
  | [] => rfl
  | y :: r => by
    rw [insP]
    split
    · rfl
    · show y.2.length + usedP (insP x r) = x.2.length + (y.2.length + usedP r)
      rw [usedP_ins x r]
      omega

abbrev PP := List (B × B)
def RisP (P : PP) : Prop := P.Pairwise fun a b => a.1 < b.1
def mkF (x : B × B) : F := ⟨x.1, some x.2, some x.2, 0⟩
/-- A disk that is synced, of what is there. -/
def mk (P : PP) : List F := P.map mkF
theorem now_mk (P : PP) : nowL (mk P) = P := by
  unfold nowL viewL mk
  rw [List.filterMap_map]
  induction P with
  | nil => rfl
  | cons x r ih => rw [List.filterMap_cons]; simp only [Function.comp, mkF, Option.map_some]; exact congrArg (x :: ·) ih
theorem ris_mk {P : PP} : Ris (mk P) ↔ RisP P := by
  unfold Ris mk RisP
  rw [List.pairwise_map]
  exact Iff.rfl
theorem settle_mk : ∀ l : List F, settleL l = mk (nowL l)
  | [] => rfl
  | f :: r => by
    have ih := settle_mk r
    unfold settleL liveL at *
    rw [List.map_cons, List.filter_cons, ih]
    unfold nowL
    rw [view_cons]
    cases hq : f.is with
    | none =>
      rw [if_neg (by simp [gone, stl, hq])]
      rfl
    | some s =>
      rw [if_pos (by simp [gone, stl, hq])]
      show stl f :: mk _ = mk ([(f.name, s)] ++ _)
      unfold stl mk
      rw [hq]
      rfl
theorem now_ris {l : List F} (h : Ris l) : RisP (nowL l) := by
  unfold RisP nowL viewL
  exact List.Pairwise.filterMap (R := fun a b : F => a.name < b.name) _ (fun a b hab x hx y hy => by
    obtain ⟨s, _, rfl⟩ := Option.map_eq_some_iff.1 hx
    obtain ⟨t, _, rfl⟩ := Option.map_eq_some_iff.1 hy
    exact hab) h
theorem getP_cons (n : B) (x : B × B) (r : PP) : getP n (x :: r) = if x.1 = n then some x.2 else getP n r := by
  unfold getP
  rw [List.find?_cons]
  by_cases h : x.1 = n
  · rw [if_pos h, beq_iff_eq.2 h]
    rfl
  · rw [if_neg h, beq_eq_false_iff_ne.2 h]
theorem getP_nil (n : B) : getP n [] = none := rfl
theorem getP_mem {n s : B} {P : PP} (hr : RisP P) : getP n P = some s ↔ (n, s) ∈ P := by
  induction P with
  | nil => simp [getP]
  | cons x r ih =>
    have h2 := List.pairwise_cons.1 hr
    rw [getP_cons, List.mem_cons]
    by_cases h : x.1 = n
    · rw [if_pos h]
      constructor
      · intro e
        have := Option.some.inj e
        exact .inl (by rw [← h, ← this])
      · rintro (e | e)
        · rw [← e]
        · have := h2.1 _ e
          rw [h] at this
          exact absurd this (lt_irr n)
    · rw [if_neg h, ih h2.2]
      exact ⟨.inr, fun e => e.elim (fun e => absurd (by rw [← e]) h) id⟩
theorem getP_name {n : B} {P : PP} : (getP n P).isSome = true ↔ n ∈ P.map (·.1) := by
  induction P with
  | nil => simp [getP]
  | cons x r ih =>
    rw [getP_cons, List.map_cons, List.mem_cons]
    by_cases h : x.1 = n
    · rw [if_pos h]
      exact ⟨fun _ => .inl h.symm, fun _ => rfl⟩
    · rw [if_neg h, ih]
      exact ⟨.inr, fun e => e.elim (fun e => absurd e.symm h) id⟩
theorem getP_gt {n : B} {P : PP} (h : ∀ y ∈ P, n < y.1) : getP n P = none := by
  cases e : getP n P with
  | none => rfl
  | some s =>
    have : n ∈ P.map (·.1) := getP_name.1 (by rw [e]; rfl)
    obtain ⟨y, hy, e2⟩ := List.mem_map.1 this
    have h3 := h y hy
    rw [e2] at h3
    exact absurd h3 (lt_irr n)
theorem ext_P : ∀ {P Q : PP}, RisP P → RisP Q → (∀ n, getP n P = getP n Q) → P = Q
  | [], [], _, _, _ => rfl
  | [], y :: Q, _, _, h => by
    have := h y.1
    rw [getP_cons, if_pos rfl] at this
    cases this
  | x :: P, [], _, _, h => by
    have := h x.1
    rw [getP_cons, if_pos rfl] at this
    cases this
  | x :: P, y :: Q, hp, hq, h => by
    have hp2 := List.pairwise_cons.1 hp
    have hq2 := List.pairwise_cons.1 hq
    have e1 : x.1 = y.1 := by
      apply Classical.byContradiction
      intro hne
      by_cases hlt : x.1 < y.1
      · have h1 := h x.1
        rw [getP_cons, if_pos rfl, getP_cons, if_neg (fun e => hne e.symm), getP_gt (fun z hz => lt_tr hlt (hq2.1 z hz))] at h1
        cases h1
      · have hgt := lt_tot hne hlt
        have h1 := h y.1
        rw [getP_cons, if_neg hne, getP_cons, if_pos rfl, getP_gt (fun z hz => lt_tr hgt (hp2.1 z hz))] at h1
        cases h1
    have e2 : x.2 = y.2 := by
      have h1 := h x.1
      rw [getP_cons, if_pos rfl, getP_cons, if_pos e1.symm] at h1
      exact Option.some.inj h1
    have e3 : P = Q := by
      refine ext_P hp2.2 hq2.2 fun n => ?_
      by_cases hn : x.1 = n
      · subst hn
        rw [getP_gt hp2.1, getP_gt (fun z hz => e1 ▸ hq2.1 z hz)]
      · have h1 := h n
        rw [getP_cons, if_neg hn, getP_cons, if_neg (fun e => hn (e1.trans e))] at h1
        exact h1
    rw [e3, Prod.ext e1 e2]
theorem woP_ris {n : B} {P : PP} (h : RisP P) : RisP (woP n P) := h.filter _
theorem getP_wo {n x : B} : ∀ {P : PP}, getP x (woP n P) = if x = n then none else getP x P
  | [] => by simp [woP, getP]
  | y :: r => by
    have ih := getP_wo (n := n) (x := x) (P := r)
    unfold woP at *
    rw [List.filter_cons]
    by_cases h : y.1 = n
    · rw [if_neg (by simp [h]), ih, getP_cons]
      by_cases hx : x = n
      · rw [if_pos hx, if_pos hx]
      · rw [if_neg hx, if_neg hx, if_neg (fun e => hx (e.symm.trans h))]
    · rw [if_pos (by simp [h]), getP_cons, getP_cons, ih]
      by_cases hx : x = n
      · rw [if_pos hx, if_neg (fun e => h (e.trans hx))]
        rw [if_pos hx]
      · rw [if_neg hx, if_neg hx]
theorem insP_all {x : B × B} : ∀ {P : PP} {y : B × B}, y ∈ insP x P ↔ y = x ∨ y ∈ P
  | [], y => by simp [insP]
  | z :: r, y => by
    rw [insP]
    split
    · simp
    · rw [List.mem_cons, insP_all (P := r), List.mem_cons]
      exact ⟨fun h => h.elim (fun h => .inr (.inl h)) (fun h => h.elim .inl (fun h => .inr (.inr h))), fun h => h.elim (fun h => .inr (.inl h)) (fun h => h.elim .inl (fun h => .inr (.inr h)))⟩
theorem insP_ris {x : B × B} : ∀ {P : PP}, RisP P → (∀ y ∈ P, y.1 ≠ x.1) → RisP (insP x P)
  | [], _, _ => by simp [insP, RisP]
  | z :: r, h, hx => by
    have h2 := List.pairwise_cons.1 h
    rw [insP]
    split
    · rename_i hlt
      exact List.pairwise_cons.2 ⟨fun y hy => (List.mem_cons.1 hy).elim (fun e => e ▸ hlt) (fun e => lt_tr hlt (h2.1 y e)), h⟩
    · rename_i hlt
      refine List.pairwise_cons.2 ⟨fun y hy => ?_, insP_ris h2.2 (fun y hy => hx y (List.mem_cons_of_mem _ hy))⟩
      rcases insP_all.1 hy with rfl | hy
      · exact lt_tot (fun e => hx z (List.mem_cons_self ..) e.symm) hlt
      · exact h2.1 y hy
theorem woP_ne {n : B} {P : PP} : ∀ y ∈ woP n P, y.1 ≠ n := fun y hy e => by
  have := (List.mem_filter.1 hy).2
  simp [e] at this
theorem putP_ris {n : B} {c : Option B} {P : PP} (h : RisP P) : RisP (putP n c P) := by
  cases c with
  | none => exact woP_ris h
  | some s => exact insP_ris (woP_ris h) woP_ne
theorem getP_ins {x : B × B} {n : B} : ∀ {P : PP}, (∀ y ∈ P, y.1 ≠ x.1) → getP n (insP x P) = if x.1 = n then some x.2 else getP n P
  | [], _ => getP_cons _ _ _
  | z :: r, hx => by
    rw [insP]
    split
    · exact getP_cons _ _ _
    · rw [getP_cons, getP_ins (fun y hy => hx y (List.mem_cons_of_mem _ hy)), getP_cons]
      by_cases h : z.1 = n
      · rw [if_pos h, if_neg (fun e => hx z (List.mem_cons_self ..) (h.trans e.symm)), if_pos h]
      · rw [if_neg h, if_neg h]
theorem getP_put {n x : B} {c : Option B} {P : PP} : getP x (putP n c P) = if x = n then c else getP x P := by
  cases c with
  | none => exact getP_wo
  | some s =>
    show getP x (insP (n, s) (woP n P)) = _
    rw [getP_ins woP_ne, getP_wo]
    by_cases h : x = n
    · rw [if_pos h.symm, if_pos h]
    · rw [if_neg (fun e => h e.symm), if_neg h, if_neg h]
theorem usedP_wo {n : B} : ∀ {P : PP}, RisP P → usedP (woP n P) + (kbyt (getP n P)).length = usedP P
  | [], _ => rfl
  | y :: r, h => by
    have h2 := List.pairwise_cons.1 h
    have ih := usedP_wo (n := n) h2.2
    have e : usedP (y :: r) = y.2.length + usedP r := rfl
    rw [getP_cons, e]
    unfold woP at *
    rw [List.filter_cons]
    by_cases hq : y.1 = n
    · rw [if_neg (by simp [hq]), if_pos hq]
      have : getP n r = none := getP_gt (fun z hz => hq ▸ h2.1 z hz)
      rw [this] at ih
      show _ + y.2.length = _
      have e2 : (kbyt (none : Option B)).length = 0 := rfl
      omega
    · rw [if_pos (by simp [hq]), if_neg hq]
      show y.2.length + usedP _ + _ = _
      omega
theorem usedP_put {n : B} {c : Option B} {P : PP} (h : RisP P) : usedP (putP n c P) + (kbyt (getP n P)).length = usedP P + (kbyt c).length := by
  have h1 := usedP_wo (n := n) h
  cases c with
  | none =>
    show usedP (woP n P) + _ = usedP P + 0
    omega
  | some s =>
    show usedP (insP (n, s) (woP n P)) + _ = usedP P + s.length
    rw [usedP_ins]
    show s.length + _ + _ = _
    omega
theorem used_mk (P : PP) : usedL (mk P) = usedP P := by rw [used_now, now_mk]
theorem at_mk {n : B} {P : PP} (h : RisP P) : atL n (mk P) = getP n P := by rw [at_now n _ (ris_mk.2 h), now_mk]
theorem names_mk (P : PP) : namesL (mk P) = P.map (·.1) := by unfold namesL; rw [now_mk]
theorem mk_len (P : PP) : (mk P).length = P.length := List.length_map ..
/-- What a synced disk of names that may be is. -/
theorem mk_ok {P : PP} (h : RisP P) (hn : ∀ x ∈ P, okN x.1 = true) : Okl okN (mk P) := by
  refine ⟨ris_mk.2 h, fun f hf => ?_, fun f hf => ?_⟩
  · obtain ⟨x, hx, rfl⟩ := List.mem_map.1 hf
    exact hn x hx
  · obtain ⟨x, hx, rfl⟩ := List.mem_map.1 hf
    rfl
theorem putP_len {n : B} {c : Option B} {P : PP} : (putP n c P).length ≤ P.length + 1 := by
  have h1 : (woP n P).length ≤ P.length := List.length_filter_le ..
  have h2 : ∀ (x : B × B) (Q : PP), (insP x Q).length = Q.length + 1 := fun x Q => by
    induction Q with
    | nil => rfl
    | cons y r ih => rw [insP]; split <;> simp [ih]
  cases c with
  | none => exact Nat.le_trans h1 (Nat.le_succ _)
  | some s =>
    show (insP (n, s) (woP n P)).length ≤ _
    rw [h2]
    exact Nat.succ_le_succ h1
theorem putP_names {n : B} {c : Option B} {P : PP} {q : B → Prop} (h : ∀ x ∈ P, q x.1) (hn : c.isSome = true → q n) : ∀ x ∈ putP n c P, q x.1 := fun x hx => by
  cases c with
  | none => exact h x (List.mem_filter.1 hx).1
  | some s =>
    rcases insP_all.1 hx with rfl | hx
    · exact hn rfl
    · exact h x (List.mem_filter.1 hx).1
/-- Nothing is loose: a loss of power takes nothing. -/
theorem fail_mk (z k : Int) (P : PP) : settleL (failL z k (mk P)) = mk P := by
  have : ∀ (P : PP) (acc : List F) (c q : Nat), ((mk P).foldl (fstep z k) (acc, c, q)).1 = acc ++ mk P := fun P => by
    induction P with
    | nil => intro acc c q; simp [mk]
    | cons x r ih =>
      intro acc c q
      show (List.foldl (fstep z k) (fstep z k (acc, c, q) (mkF x)) (mk r)).1 = _
      have e : fstep z k (acc, c, q) (mkF x) = (acc ++ [mkF x], c, q) := by
        unfold fstep
        rw [if_neg (by simp [isLoose, mkF])]
      rw [e, ih]
      simp [mk]
  have h := this P [] 0 0
  unfold failL fst_
  rw [h, settle_mk, List.nil_append, now_mk]
end Go.Proofs.YtaiiojbakmminaaGreatDoor
