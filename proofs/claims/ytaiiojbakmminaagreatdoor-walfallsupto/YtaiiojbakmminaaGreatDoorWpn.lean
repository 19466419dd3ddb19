/- A planned fall strikes: what struck, put, Move, Remove and Truncate of a disk do then. Changes of a disk, whether a planned fall strikes or not. The names of a log's files, plainly: generations and segments below a hundred. -/
import Derived.Test.YtaiiojbakmminaaGreatDoorKMov
import Derived.Test.YtaiiojbakmminaaGreatDoorKFal
import Derived.Test.YtaiiojbakmminaaGreatDoorKSml
import Derived.Lib.ItoaNum
import Derived.Lib.Atoi
import Derived.Lib.Strings
namespace Go.Proofs.YtaiiojbakmminaaGreatDoor
open Go Go.RowKit
theorem zFall : (∀ w, (zeroValue 32).run Tryz.prog w = .ok (.agg #[.int .i64 0, .int .i64 0, .int .i64 0]) w) ∧ (Tryz.prog.info? 32).map (·.size) = some 3 := zero_of_info (by kernel_rfl)
theorem iFall : (Tryz.prog.info? 32).map (·.size) = some 3 := zFall.2
theorem iSlP : (Tryz.prog.info? 45).map (·.size) = some 1 := by kernel_rfl
def faA (f : FA) : Array Value := #[.int .i64 f.at_, .int .i64 f.keep, .int .i64 f.torn]
theorem iFa (f : FA) : (Tryz.prog.info? 32).map (·.size) = some (faA f).size := iFall
theorem faA_one (f : FA) : (faA f).all (·.oneCell') = true := by simp [faA, Value.oneCell']
theorem faA_g1 (f : FA) : (faA f)[1]? = some (.int .i64 f.keep) := rfl
theorem faA_g2 (f : FA) : (faA f)[2]? = some (.int .i64 f.torn) := rfl
set_option maxRecDepth 100000 in
set_option maxHeartbeats 2000000 in
theorem struck_hit (p : Nat) (b : Option Nat) (m : DM) (w : World) (h : DK w p b m) (f : FA) (hP : PlA w m.pv f) (hat : f.at_ = (m.ch : Int)) (hl : m.l.length ≤ 1000000) (hby : ∀ f ∈ m.l, (kbyt f.is).length ≤ 1000000000000 ∧ (kbyt f.sure).length ≤ 1000000000000) :
    Calls Tryz.prog 74 #[.pointer (some ⟨p, 0, none⟩)] w fun e w' => e = .returned (.bool true) ∧ ∃ b' a c, Chg w w' p b b' ∧ DK w' p b' { m with dead := true, l := settleL (failL f.keep f.torn m.l), pv := .slice a 0 c } := by
  obtain ⟨sl, hD, hF, hb⟩ := h.out
  obtain ⟨g, o, cap, cur, fr, hpv, hcap, hg, hcell⟩ := hP.out
  have c4 : w.cell? ⟨p, 4, none⟩ = some (.slice (some ⟨g, o, none⟩) 1 cap) := (hD.cell 4).trans ((dC_g4 _ _).trans (congrArg some hpv))
  have c5 : w.cell? ⟨p, 5, none⟩ = some (.int .i64 (m.ch : Nat)) := (hD.cell 5).trans (dC_g5 _ _)
  have hcells : w.rangeAt g o (faA f).toList := fun j v hv => by
    simp only [World.cell?, hg]
    exact hcell j v hv
  have cA : w.cell? ⟨g, o, none⟩ = some (.int .i64 (m.ch : Int)) := by rw [← hat]; exact hcells 0 _ rfl
  have d1 : decide ((m.ch : Int) < (m.ch : Int)) = false := decide_eq_false (by omega)
  have hgl : g < w.heap.size := (Array.getElem?_eq_some_iff.1 hg).1
  have HFa : ∀ w1 a c, DK w1 p b { m with pv := .slice a 0 c } → Calls Tryz.prog 45 #[.pointer (some ⟨p, 0, none⟩), .int .i64 f.keep, .int .i64 f.torn] w1 (LayP w1 p b { m with dead := true, pv := .slice a 0 c } (settleL (failL f.keep f.torn m.l))) := fun w1 a c hK => kfail_any p b { m with pv := .slice a 0 c } f.keep f.torn w1 hK hl hby
  clear hcell hg hP hat
  go_enter Tryz.func74, Tryz.ntmps74
  go_wp2_with fail
  go_loopw [4] (fun _ wl => wl = w) (fun _ _ => 0)
  case atStart => rfl
  case round =>
    have hw2 := hrel.symm
    subst hw2
    clear hrel
    go_wp2_with fail
    go_region
    go_wp2_with fail
    go_region
    have hD2 := hD.drew.drew
    have hF2 := hF.drew.drew
    have hB2 : Below w.heap.size w w.drew.drew := (Below.refl _ w).drew.drew
    have hc2 : w.drew.drew.rangeAt g o (faA f).toList := rangeAt_below hcells hB2 hgl
    have c42 : w.drew.drew.cell? ⟨p, 4, none⟩ = some (.slice (some ⟨g, o, none⟩) 1 cap) := c4
    clear c4 c5 cA hcells
    generalize w.drew.drew = w2 at *
    have hsz := hB2.size
    by_cases hc1 : cap = 1
    · subst hc1
      go_wp2_with (first
        | (go_at_call 45; refine (HFa _ _ _ hK5).mono ?_; rintro e w6 ⟨rfl, b6, hC6, hD6⟩)
        | (with_reducible refine at_list ?_; first
          | (refine wpList_loadAt (op := ⟨some 64, _, _, _, _, _⟩) rfl _ _ rfl g o rfl (faA f) hc2 _ Tryz.underlying32 rfl (iFa f) ?_)
          | (refine wpList_allocRow (op := ⟨some 3, _, _, _, _, _⟩) rfl _ rfl _ zFall.1 ?_; intro w3 hw3 hs3 hQ3; clear hs3; have hD3 := hD2.belowSize hw3; have hF3 := hF2.below hw3)
          | (refine wpList_storeRow (op := ⟨none, .store 32 (.tmp 3) (.tmp 64), _, _, _, _⟩) rfl _ _ _ rfl w2.heap.size (faA f) rfl rfl _ _ hQ3 rfl (iFa f) (faA_one f) ?_; intro w4 hg4 hs4 hQ4; clear hs4; have hB4 : Below w2.heap.size w2 w4 := hw3.trans (below_of_grown hg4 (Nat.le_refl _) hw3.size); have hD4 := hD2.belowSize hB4; have hF4 := hF2.below hB4; clear hD3 hF3)
          | (refine wpList_loadCell (op := ⟨some 69, _, _, _, _, _⟩) rfl _ _ rfl p 4 rfl _ _ hD4 _ Tryz.underlying45 rfl (.slice (some ⟨g, o, none⟩) 1 1) ((dC_g4 _ _).trans (congrArg some hpv)) ?_)
          | (refine wpList_storeCell (op := ⟨none, .store 45 (.tmp 72) (.tmp 70), _, _, _, _⟩) rfl _ _ _ rfl p 4 rfl (.slice (some ⟨g, o, none⟩) 0 0) rfl _ _ hD4 iSlP rfl rfl (by rw [dC_size]; decide) ?_; intro w5 hg5 hs5 hD5; clear hs5; rw [dC_s4] at hD5; have hK5 : DK w5 p b { m with pv := .slice (some ⟨g, o, none⟩) 0 0 } := ⟨sl, hD5, hF4.grown hg5 (hF4.ne hD4 (by decide)), hb⟩; have hQ5 := hQ4.grown hg5 (fun e => by have := Option.some.inj e; have := hD2.lt; omega)))
          | (refine wpList_loadCell (op := ⟨some 75, _, _, _, _, _⟩) rfl _ _ rfl w2.heap.size 1 rfl _ _ hQ5 _ Tryz.underlying3 rfl _ (faA_g1 f) ?_)
          | (refine wpList_loadCell (op := ⟨some 77, _, _, _, _, _⟩) rfl _ _ rfl w2.heap.size 2 rfl _ _ hQ5 _ Tryz.underlying3 rfl _ (faA_g2 f) ?_))
      go_ret
      exact ⟨rfl, b6, _, _, ((Chg.below hB2).trans ((Chg.below hB4).trans (Chg.own hg5))).trans hC6, hD6⟩
    · have hc2b : ¬ (1 : Nat) = cap := fun e => hc1 e.symm
      go_wp2_with (first
        | (go_at_call 45; refine (HFa _ _ _ hK5).mono ?_; rintro e w6 ⟨rfl, b6, hC6, hD6⟩)
        | (with_reducible refine at_list ?_; first
          | (refine wpList_loadAt (op := ⟨some 64, _, _, _, _, _⟩) rfl _ _ rfl g o rfl (faA f) hc2 _ Tryz.underlying32 rfl (iFa f) ?_)
          | (refine wpList_allocRow (op := ⟨some 3, _, _, _, _, _⟩) rfl _ rfl _ zFall.1 ?_; intro w3 hw3 hs3 hQ3; clear hs3; have hD3 := hD2.belowSize hw3; have hF3 := hF2.below hw3)
          | (refine wpList_storeRow (op := ⟨none, .store 32 (.tmp 3) (.tmp 64), _, _, _, _⟩) rfl _ _ _ rfl w2.heap.size (faA f) rfl rfl _ _ hQ3 rfl (iFa f) (faA_one f) ?_; intro w4 hg4 hs4 hQ4; clear hs4; have hB4 : Below w2.heap.size w2 w4 := hw3.trans (below_of_grown hg4 (Nat.le_refl _) hw3.size); have hD4 := hD2.belowSize hB4; have hF4 := hF2.below hB4; clear hD3 hF3)
          | (refine wpList_loadCell (op := ⟨some 69, _, _, _, _, _⟩) rfl _ _ rfl p 4 rfl _ _ hD4 _ Tryz.underlying45 rfl (.slice (some ⟨g, o, none⟩) 1 cap) ((dC_g4 _ _).trans (congrArg some hpv)) ?_)
          | (refine wpList_storeCell (op := ⟨none, .store 45 (.tmp 72) (.tmp 70), _, _, _, _⟩) rfl _ _ _ rfl p 4 rfl (.slice (some ⟨g, o + 3, none⟩) 0 (cap - 1)) rfl _ _ hD4 iSlP rfl rfl (by rw [dC_size]; decide) ?_; intro w5 hg5 hs5 hD5; clear hs5; rw [dC_s4] at hD5; have hK5 : DK w5 p b { m with pv := .slice (some ⟨g, o + 3, none⟩) 0 (cap - 1) } := ⟨sl, hD5, hF4.grown hg5 (hF4.ne hD4 (by decide)), hb⟩; have hQ5 := hQ4.grown hg5 (fun e => by have := Option.some.inj e; have := hD2.lt; omega)))
          | (refine wpList_loadCell (op := ⟨some 75, _, _, _, _, _⟩) rfl _ _ rfl w2.heap.size 1 rfl _ _ hQ5 _ Tryz.underlying3 rfl _ (faA_g1 f) ?_)
          | (refine wpList_loadCell (op := ⟨some 77, _, _, _, _, _⟩) rfl _ _ rfl w2.heap.size 2 rfl _ _ hQ5 _ Tryz.underlying3 rfl _ (faA_g2 f) ?_))
      go_ret
      exact ⟨rfl, b6, _, _, ((Chg.below hB2).trans ((Chg.below hB4).trans (Chg.own hg5))).trans hC6, hD6⟩
end Go.Proofs.YtaiiojbakmminaaGreatDoor
namespace Go.Proofs.YtaiiojbakmminaaGreatDoor
open Go Go.RowKit
/-- What a change leaves that is struck. -/
def HitP (w : World) (p : Nat) (b : Option Nat) (m : DM) (f : FA) (e : Ending) (w' : World) : Prop := e = .returned (.int .i64 7) ∧ ∃ b' a c, Chg w w' p b b' ∧ DK w' p b' { m with dead := true, l := settleL (failL f.keep f.torn m.l), pv := .slice a 0 c }
section
variable (p : Nat) (b : Option Nat) (m : DM) (w : World) (hK : DK w p b m) (hm : Okd m) (f : FA) (hP : PlA w m.pv f) (hat : f.at_ = (m.ch : Int)) (hby : ∀ f ∈ m.l, (kbyt f.is).length ≤ 1000000000000 ∧ (kbyt f.sure).length ≤ 1000000000000)
include hK hm hP hat hby
theorem HSof (w1 : World) (hB : Below w.heap.size w w1) : Calls Tryz.prog 74 #[.pointer (some ⟨p, 0, none⟩)] w1 fun e w' => e = .returned (.bool true) ∧ ∃ b' a c, Chg w1 w' p b b' ∧ DK w' p b' { m with dead := true, l := settleL (failL f.keep f.torn m.l), pv := .slice a 0 c } :=
  struck_hit p b m w1 (hK.below hB) f (hP.below hB) hat (Nat.le_trans hm.len (by omega)) hby
set_option maxRecDepth 100000 in
set_option maxHeartbeats 2000000 in
theorem put_hit (n stay s : B) (how : Nat) (h1 : stay.length ≤ 1000000000000) (h2 : s.length ≤ 1000000000000) (hq : fullE m ((stay.length : Int) + (s.length : Int) - ((kbyt (atL n m.l)).length : Int)) = false) :
    Calls Tryz.prog 58 #[.pointer (some ⟨p, 0, none⟩), .string ⟨n.toArray⟩, .string ⟨stay.toArray⟩, .string ⟨s.toArray⟩, .int .i64 (how : Nat)] w (HitP w p b m f) := by
  have HS := HSof p b m w hK hm f hP hat hby
  have hl := hm.len
  have hu := hm.used
  have hch := hm.ch
  have HA := at_any p b m n w hK hm.l.ris (by omega)
  have HF := fun w1 (hB : Below w.heap.size w w1) => isFull_any p b m ((stay.length : Int) + (s.length : Int) - ((kbyt (atL n m.l)).length : Int)) w1 (hK.below hB) (by omega) (by omega) hm.room
  have hal := at_len m n hm.l.ris
  rw [hq] at HF
  generalize atL n m.l = c at *
  have hw1 : IntKind.i64.wrap ((stay.length : Int) + (s.length : Int)) = (stay.length : Int) + (s.length : Int) := by rw [IntKind.wrap_i64]; omega
  have hw2 : IntKind.i64.wrap ((stay.length : Int) + (s.length : Int) - ((kbyt c).length : Int)) = (stay.length : Int) + (s.length : Int) - ((kbyt c).length : Int) := by rw [IntKind.wrap_i64]; omega
  generalize hd : (stay.length : Int) + (s.length : Int) - ((kbyt c).length : Int) = d at *
  clear hq hal hu hl hm hch hat hby hP
  go_enter Tryz.func58, Tryz.ntmps58
  go_wp2_with (first
    | (go_at_call 82; refine HA.mono ?_; rintro e w1 ⟨rfl, hw1'⟩)
    | (go_at_call 86; refine (HF _ hw1').mono ?_; rintro e w2 ⟨rfl, hw2'⟩; have hB2 := hw1'.trans (hw2'.mono hw1'.size))
    | (go_at_call 74; refine (HS _ hB2).mono ?_; rintro e w3 ⟨rfl, b3, a3, c3, hC3, hD3⟩)
    | (with_reducible refine at_list ?_; first
      | (refine wpList_run (op := ⟨some 20, _, _, _, _, _⟩) rfl _ _ (run_fieldC _ rfl c rfl) ?_)))
  go_ret
  exact ⟨rfl, b3, a3, c3, (Chg.below hB2).trans hC3, hD3⟩
set_option maxRecDepth 100000 in
set_option maxHeartbeats 2000000 in
theorem append_hit (n s : B) (hn : n.length ≤ 9223372036854775807) (h2 : s.length ≤ 1000000000000) (hna : namE m n = 0) (hq : fullE m (((kbyt (atL n m.l)).length : Int) + (s.length : Int) - ((kbyt (atL n m.l)).length : Int)) = false) :
    Calls Tryz.prog 46 #[.pointer (some ⟨p, 0, none⟩), .string ⟨n.toArray⟩, .string ⟨s.toArray⟩] w (HitP w p b m f) := by
  have hl := hm.len
  have hu := hm.used
  have HN := named_of p b m n w hK hn
  rw [hna] at HN
  have HA := at_any p b m n w hK hm.l.ris (by omega)
  have hal := at_len m n hm.l.ris
  have HP := fun w1 (hB : Below w.heap.size w w1) => put_hit p b m w1 (hK.below hB) hm f (hP.below hB) hat hby n (kbyt (atL n m.l)) s 1 (by omega) h2 hq
  clear hat hby hP hna hq
  generalize atL n m.l = c at *
  go_enter Tryz.func46, Tryz.ntmps46
  go_wp2_with (first
    | (go_at_call 57; refine HN.mono ?_; rintro e w0 ⟨rfl, hw0⟩; subst hw0)
    | (go_at_call 82; refine HA.mono ?_; rintro e w1 ⟨rfl, hw1⟩)
    | (go_at_call 58; refine (HP _ hw1).mono ?_; rintro e w4 ⟨rfl, b4, a4, c4, hC4, hD4⟩)
    | (with_reducible refine at_list ?_; first
      | (refine wpList_run (op := ⟨some 19, _, _, _, _, _⟩) rfl _ _ (run_fieldC _ rfl c rfl) ?_)))
  go_ret
  exact ⟨rfl, b4, a4, c4, (Chg.below hw1).trans hC4, hD4⟩
set_option maxRecDepth 100000 in
set_option maxHeartbeats 2000000 in
theorem write_hit (n s : B) (hn : n.length ≤ 9223372036854775807) (h2 : s.length ≤ 1000000000000) (hna : namE m n = 0) (hq : fullE m ((([] : B).length : Int) + (s.length : Int) - ((kbyt (atL n m.l)).length : Int)) = false) :
    Calls Tryz.prog 25 #[.pointer (some ⟨p, 0, none⟩), .string ⟨n.toArray⟩, .string ⟨s.toArray⟩] w (HitP w p b m f) := by
  have HN := named_of p b m n w hK hn
  rw [hna] at HN
  have HP := put_hit p b m w hK hm f hP hat hby n [] s 2 (by simp) h2 hq
  clear hat hby hP hna hq
  go_enter Tryz.func25, Tryz.ntmps25
  go_wp2_with (first
    | (go_at_call 57; refine HN.mono ?_; rintro e w0 ⟨rfl, hw0⟩; subst hw0)
    | (go_at_call 58; refine HP.mono ?_; rintro e w4 ⟨rfl, b4, a4, c4, hC4, hD4⟩))
  go_ret
  exact ⟨rfl, b4, a4, c4, hC4, hD4⟩
set_option maxRecDepth 100000 in
set_option maxHeartbeats 2000000 in
theorem remove_hit (n : B) (hn : n.length ≤ 9223372036854775807) (ht : theE m n = 0) :
    Calls Tryz.prog 78 #[.pointer (some ⟨p, 0, none⟩), .string ⟨n.toArray⟩] w (HitP w p b m f) := by
  have HS := HSof p b m w hK hm f hP hat hby
  have hl := hm.len
  have HT := there_any p b m n w hK hm.l.ris (by omega) hn
  rw [ht] at HT
  generalize theC m n = c at *
  clear hat hby hP ht
  go_enter Tryz.func78, Tryz.ntmps78
  go_wp2_with (first
    | (go_at_call 72; refine HT.mono ?_; rintro e w1 ⟨rfl, hw1⟩)
    | (go_at_call 74; refine (HS _ hB3).mono ?_; rintro e w4 ⟨rfl, b4, a4, c4, hC4, hD4⟩)
    | (with_reducible refine at_list ?_; first
      | (refine wpList_allocRow (op := ⟨some 5, _, _, _, _, _⟩) rfl _ rfl _ zCon.1 ?_; intro w2 hw2 hs2 h5; clear hs2; have hB2 := hw1.trans (hw2.mono hw1.size); have hsz := hw1.size)
      | (refine wpList_storeRow (op := ⟨none, .store 91 (.tmp 5) (.tmp 11), _, _, _, _⟩) rfl _ _ _ rfl w1.heap.size (cC c) rfl rfl _ _ h5 rfl (iCon _) (cC_one _) ?_; intro w3 hg3 hs3 h5b; clear hs3; have hB3 := hB2.trans (below_of_grown hg3 (by omega) hB2.size))))
  go_ret
  exact ⟨rfl, b4, a4, c4, (Chg.below hB3).trans hC4, hD4⟩
set_option maxRecDepth 100000 in
set_option maxHeartbeats 2000000 in
theorem move_hit (n t : B) (hn : n.length ≤ 9223372036854775807) (ht2 : t.length ≤ 9223372036854775807) (ht : theE m n = 0) (hot : okN t = true) (hnt : n ≠ t) :
    Calls Tryz.prog 41 #[.pointer (some ⟨p, 0, none⟩), .string ⟨n.toArray⟩, .string ⟨t.toArray⟩] w (HitP w p b m f) := by
  have HS := HSof p b m w hK hm f hP hat hby
  have hl := hm.len
  have HT := there_any p b m n w hK hm.l.ris (by omega) hn
  rw [ht] at HT
  have HN := fun w1 => name_any t w1 ht2
  rw [hot] at HN
  have hd : (n == t) = false := by simp [hnt]
  generalize theC m n = c at *
  clear hat hby hP ht hot hnt
  go_enter Tryz.func41, Tryz.ntmps41
  go_wp2_with (first
    | (go_at_call 72; refine HT.mono ?_; rintro e w1 ⟨rfl, hw1⟩)
    | (go_at_call 73; refine (HN _).mono ?_; rintro e w0 ⟨rfl, hw0⟩; subst hw0)
    | (go_at_call 74; refine (HS _ hB3).mono ?_; rintro e w4 ⟨rfl, b4, a4, c4, hC4, hD4⟩)
    | (with_reducible refine at_list ?_; first
      | (refine wpList_allocRow (op := ⟨some 7, _, _, _, _, _⟩) rfl _ rfl _ zCon.1 ?_; intro w2 hw2 hs2 h5; clear hs2; have hB2 := hw1.trans (hw2.mono hw1.size); have hsz := hw1.size)
      | (refine wpList_storeRow (op := ⟨none, .store 91 (.tmp 7) (.tmp 13), _, _, _, _⟩) rfl _ _ _ rfl w1.heap.size (cC c) rfl rfl _ _ h5 rfl (iCon _) (cC_one _) ?_; intro w3 hg3 hs3 h5b; clear hs3; have hB3 := hB2.trans (below_of_grown hg3 (by omega) hB2.size))))
  go_ret
  exact ⟨rfl, b4, a4, c4, (Chg.below hB3).trans hC4, hD4⟩
end
end Go.Proofs.YtaiiojbakmminaaGreatDoor
namespace Go.Proofs.YtaiiojbakmminaaGreatDoor
open Go Go.RowKit
/-- A number below a hundred, by its digits. -/
def dg (n : Nat) : B := if n < 10 then [UInt8.ofNat (48 + n)] else [UInt8.ofNat (48 + n / 10), UInt8.ofNat (48 + n % 10)]
theorem dec_dg (n : Nat) (h : n < 100) : Lib.decDigits n = dg n := by
  unfold dg
  by_cases h1 : n < 10
  · rw [Lib.decDigits, dif_pos h1, if_pos h1]
  · rw [Lib.decDigits, dif_neg h1, if_neg h1, Lib.decDigits, dif_pos (by omega)]
    rfl
theorem itoa_dg (n : Nat) (h : n < 100) : Lib.itoa (n : Int) = dg n := by
  unfold Lib.itoa
  rw [if_neg (by omega), Int.toNat_natCast, dec_dg n h]
def isDig (b : UInt8) : Bool := decide (48 ≤ b) && decide (b ≤ 57)
theorem dg_all : ∀ n : Fin 100, (dg n.val).all isDig = true ∧ 0 < (dg n.val).length ∧ (dg n.val).length ≤ 2 ∧ Lib.atoi (dg n.val) = some (n.val : Int) := by decide +kernel
theorem dg_dig {n : Nat} (h : n < 100) : ∀ b ∈ dg n, isDig b = true := fun b hb => List.all_eq_true.1 (dg_all ⟨n, h⟩).1 b hb
theorem dg_len {n : Nat} (h : n < 100) : (dg n).length ≤ 2 := (dg_all ⟨n, h⟩).2.2.1
theorem dg_atoi {n : Nat} (h : n < 100) : Lib.atoi (dg n) = some (n : Int) := (dg_all ⟨n, h⟩).2.2.2
theorem dg_inj {n k : Nat} (h : n < 100) (h2 : k < 100) (e : dg n = dg k) : n = k := by
  have h3 := dg_atoi h
  rw [e, dg_atoi h2] at h3
  have := Option.some.inj h3
  omega
/-- base- -/
def preB : B := [98, 97, 115, 101, 45]
/-- seg- -/
def preS : B := [115, 101, 103, 45]
def dotNew : B := [46, 110, 101, 119]
def baseN (g : Nat) : B := preB ++ dg g
def newN (g : Nat) : B := baseN g ++ dotNew
def segP (g : Nat) : B := preS ++ dg g ++ [45]
def segN (g n : Nat) : B := segP g ++ dg n
theorem pre_app (p s : B) : Lib.hasPrefix (p ++ s) p = true := by
  unfold Lib.hasPrefix
  rw [List.isPrefixOf_iff_prefix]
  exact List.prefix_append _ _
theorem pre_eq {p s : B} (h : Lib.hasPrefix s p = true) : s = p ++ s.drop p.length := by
  unfold Lib.hasPrefix at h
  rw [List.isPrefixOf_iff_prefix] at h
  obtain ⟨t, rfl⟩ := h
  rw [List.drop_left' rfl]
theorem preB_seg (g n : Nat) : Lib.hasPrefix (segN g n) preB = false := rfl
theorem preB_base (g : Nat) : Lib.hasPrefix (baseN g) preB = true := pre_app _ _
theorem preB_new (g : Nat) : Lib.hasPrefix (newN g) preB = true := by unfold newN baseN; rw [List.append_assoc]; exact pre_app _ _
theorem preS_seg (g n : Nat) : Lib.hasPrefix (segN g n) preS = true := by unfold segN segP; rw [List.append_assoc, List.append_assoc]; exact pre_app _ _
/-- Digits up to a sign that is none: the digits are the same. -/
theorem dig_split {a b : B} {x y : UInt8} {s t : B} (ha : ∀ u ∈ a, isDig u = true) (hb : ∀ u ∈ b, isDig u = true) (hx : isDig x = false) (hy : isDig y = false) (h : a ++ x :: s = b ++ y :: t) : a = b ∧ x :: s = y :: t := by
  induction a generalizing b with
  | nil =>
    cases b with
    | nil => exact ⟨rfl, h⟩
    | cons v b =>
      simp only [List.nil_append, List.cons_append, List.cons.injEq] at h
      rw [h.1, hb v (List.mem_cons_self ..)] at hx
      cases hx
  | cons u a ih =>
    cases b with
    | nil =>
      simp only [List.nil_append, List.cons_append, List.cons.injEq] at h
      rw [← h.1, ha u (List.mem_cons_self ..)] at hy
      cases hy
    | cons v b =>
      simp only [List.cons_append, List.cons.injEq] at h
      obtain ⟨h1, h2⟩ := ih (b := b) (fun u hu => ha u (List.mem_cons_of_mem _ hu)) (fun u hu => hb u (List.mem_cons_of_mem _ hu)) h.2
      exact ⟨by rw [h.1, h1], h2⟩
theorem seg_pre {g k n : Nat} (hg : g < 100) (hk : k < 100) (h : Lib.hasPrefix (segN k n) (segP g) = true) : g = k := by
  have e := pre_eq h
  unfold segN segP at e
  simp only [List.append_assoc] at e
  have e2 := List.append_cancel_left e
  have := dig_split (x := 45) (y := 45) (dg_dig hk) (dg_dig hg) (by decide) (by decide) (by simpa using e2)
  exact (dg_inj hk hg this.1).symm
theorem seg_preg (g n : Nat) : Lib.hasPrefix (segN g n) (segP g) = true := pre_app _ _
theorem seg_inj {g k n m : Nat} (hg : g < 100) (hk : k < 100) (hn : n < 100) (hm : m < 100) (h : segN g n = segN k m) : g = k ∧ n = m := by
  have h1 : g = k := by
    refine seg_pre (n := m) hg hk ?_
    rw [← h]
    exact seg_preg g n
  subst h1
  exact ⟨rfl, dg_inj hn hm (List.append_cancel_left h)⟩
theorem base_inj {g k : Nat} (hg : g < 100) (hk : k < 100) (h : baseN g = baseN k) : g = k := dg_inj hg hk (List.append_cancel_left h)
theorem base_seg (g k n : Nat) : baseN g ≠ segN k n := fun e => by
  have := preB_base g
  rw [e, preB_seg] at this
  cases this
theorem new_seg (g k n : Nat) : newN g ≠ segN k n := fun e => by
  have := preB_new g
  rw [e, preB_seg] at this
  cases this
theorem base_new {g k : Nat} (hg : g < 100) : baseN g ≠ newN k := fun e => by
  have e2 : dg g = dg k ++ dotNew := by
    have : preB ++ dg g = preB ++ (dg k ++ dotNew) := by rw [← List.append_assoc]; exact e
    exact List.append_cancel_left this
  have := dg_dig hg 46 (by rw [e2]; exact List.mem_append_right _ (by decide))
  exact absurd this (by decide)
/-- A number of a name, if it is a number from 1 on behind a prefix. -/
def numK (pre x : B) : Option Nat := if Lib.hasPrefix x pre = true then (match Lib.atoi (Lib.trimPrefix x pre) with
  | some n => if 1 ≤ n ∧ Lib.itoa n = Lib.trimPrefix x pre then some n.toNat else none
  | none => none) else none
theorem trim_app (p s : B) : Lib.trimPrefix (p ++ s) p = s := by
  unfold Lib.trimPrefix
  rw [if_pos (pre_app p s), List.drop_left' rfl]
theorem numK_app {p : B} {n : Nat} (h : n < 100) (h1 : 1 ≤ n) : numK p (p ++ dg n) = some n := by
  unfold numK
  rw [if_pos (pre_app _ _), trim_app, dg_atoi h]
  dsimp only
  rw [if_pos ⟨by omega, itoa_dg n h⟩, Int.toNat_natCast]
/-- Is it a file of another generation? -/
def othK (g : Nat) (x : B) : Bool := if Lib.hasPrefix x preB = true then !decide (x = baseN g) else Lib.hasPrefix x preS && !Lib.hasPrefix x (segP g)
theorem oth_base {g k : Nat} (hg : g < 100) (hk : k < 100) : othK g (baseN k) = !decide (g = k) := by
  unfold othK
  rw [if_pos (preB_base k)]
  congr 1
  rw [decide_eq_decide]
  exact ⟨fun e => (base_inj hk hg e).symm, fun e => by rw [e]⟩
theorem oth_new {g k : Nat} (hg : g < 100) : othK g (newN k) = true := by
  unfold othK
  rw [if_pos (preB_new k), decide_eq_false (base_new hg).symm]
  rfl
theorem oth_seg {g k n : Nat} (hg : g < 100) (hk : k < 100) : othK g (segN k n) = !decide (g = k) := by
  unfold othK
  rw [if_neg (by rw [preB_seg]; decide), preS_seg]
  by_cases h : g = k
  · subst h
    rw [seg_preg]
    simp
  · have : Lib.hasPrefix (segN k n) (segP g) = false := by
      cases e : Lib.hasPrefix (segN k n) (segP g) with
      | false => rfl
      | true => exact absurd (seg_pre hg hk e) h
    rw [this]
    simp [h]
/-- What the names of a log's files may be. -/
inductive WN : B → Prop
  | base (g : Nat) (h : g < 100) : WN (baseN g)
  | new (g : Nat) (h : g < 100) : WN (newN g)
  | seg (g n : Nat) (h : g < 100) (k : n < 100) : WN (segN g n)
theorem okB_dig {b : UInt8} (h : isDig b = true) : okB b = true := by
  unfold okB
  unfold isDig at h
  rw [h]
  simp
theorem ok_dg {n : Nat} (h : n < 100) : (dg n).all okB = true := List.all_eq_true.2 fun b hb => okB_dig (dg_dig h b hb)
theorem WN.ok {x : B} (h : WN x) : okN x = true := by
  cases h with
  | base g h =>
    unfold okN baseN preB
    have := dg_len h
    rw [List.all_append, ok_dg h, List.length_append]
    simp [okB]
    omega
  | new g h =>
    unfold okN newN baseN preB dotNew
    have := dg_len h
    rw [List.all_append, List.all_append, ok_dg h, List.length_append, List.length_append]
    simp [okB]
    omega
  | seg g n h k =>
    unfold okN segN segP preS
    have := dg_len h
    have := dg_len k
    rw [List.all_append, List.all_append, List.all_append, ok_dg h, ok_dg k, List.length_append, List.length_append, List.length_append]
    simp [okB]
    omega
theorem WN.len {x : B} (h : WN x) : x.length ≤ 15 := by
  cases h with
  | base g h => unfold baseN preB; have := dg_len h; rw [List.length_append]; simp; omega
  | new g h => unfold newN baseN preB dotNew; have := dg_len h; rw [List.length_append, List.length_append]; simp; omega
  | seg g n h k => unfold segN segP preS; have := dg_len h; have := dg_len k; rw [List.length_append, List.length_append, List.length_append]; simp; omega
end Go.Proofs.YtaiiojbakmminaaGreatDoor
