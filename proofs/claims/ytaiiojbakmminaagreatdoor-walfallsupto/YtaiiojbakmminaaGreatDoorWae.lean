/- What Add of a log does. -/
import Derived.Test.YtaiiojbakmminaaGreatDoorWad
import Derived.Deep.CutRange
namespace Go.Proofs.YtaiiojbakmminaaGreatDoor
open Go Go.RowKit
/-- Does Add begin a segment? -/
def addC (L : LG) : Bool := decide (L.segs = 0) || decide (L.most ≤ (L.last : Int))
def addK (L : LG) : Nat := if addC L = true then L.segs + 1 else L.segs
def addJ (L : LG) : Nat := if addC L = true then 0 else L.last
def addR (L : LG) (m : DN) (tx : B) : DN × Nat := if addC L = true then wriN m (segN L.g (addK L)) tx else appN m (segN L.g (addK L)) tx
def addL (L : LG) (l : List B) : LG := { L with recs := L.recs ++ l, segs := addK L, last := addJ L + (frs l).length }
def addN (L : LG) (m : DN) (l : List B) : LG × (DN × Nat) := if (addR L m (frs l)).2 ≠ 0 then (L, addR L m (frs l)) else if (synN (addR L m (frs l)).1).2 ≠ 0 then (L, synN (addR L m (frs l)).1) else (addL L l, synN (addR L m (frs l)).1)
def a1F (b5 bl b6 b8 : Nat) : Value := .func (.func 47) #[] #[.pointer (some ⟨b5, 0, none⟩), .pointer (some ⟨bl, 0, none⟩), .pointer (some ⟨b6, 0, none⟩), .pointer (some ⟨b8, 0, none⟩)]
def a2F (bl br b6 b7 b8 : Nat) : Value := .func (.func 49) #[] #[.pointer (some ⟨bl, 0, none⟩), .pointer (some ⟨br, 0, none⟩), .pointer (some ⟨b6, 0, none⟩), .pointer (some ⟨b7, 0, none⟩), .pointer (some ⟨b8, 0, none⟩)]
theorem a1_stp (b5 bl b6 b8 : Nat) : Stp Tryz.prog (a1F b5 bl b6 b8) 47 #[.pointer (some ⟨b5, 0, none⟩), .pointer (some ⟨bl, 0, none⟩), .pointer (some ⟨b6, 0, none⟩), .pointer (some ⟨b8, 0, none⟩)] := ⟨fn1_of Tryz.func47 (by kernel_rfl) (by kernel_rfl), #[], _, rfl, by simp⟩
theorem a2_stp (bl br b6 b7 b8 : Nat) : Stp Tryz.prog (a2F bl br b6 b7 b8) 49 #[.pointer (some ⟨bl, 0, none⟩), .pointer (some ⟨br, 0, none⟩), .pointer (some ⟨b6, 0, none⟩), .pointer (some ⟨b7, 0, none⟩), .pointer (some ⟨b8, 0, none⟩)] := ⟨fn1_of Tryz.func49 (by kernel_rfl) (by kernel_rfl), #[], _, rfl, by simp⟩
theorem fcl_a1 (b1 b2 b3 b4 : Nat) : IsF (a1F b1 b2 b3 b4) := ⟨_, _, _, rfl⟩
theorem fcl_a2 (b1 b2 b3 b4 b5 : Nat) : IsF (a2F b1 b2 b3 b4 b5) := ⟨_, _, _, rfl⟩
/-- What is asked of a log to which something is added. -/
structure Oka (L : LG) (m : DN) (l : List B) : Prop where
  g : L.g < 100
  k : L.segs < 99
  n : m.l.length ≤ 990000
  c : m.ch ≤ 990000
  u : usedL m.l + (frs l).length ≤ 10000000000
  j : L.last ≤ 10000000000
  r : L.recs.length + l.length ≤ 1000000
  m : Okn m
theorem add_okn {L : LG} {m : DN} {l : List B} (h : Oka L m l) (h0 : (addR L m (frs l)).2 = 0) : Okn (addR L m (frs l)).1 := by
  have h1 := h.n
  have h2 := h.c
  have h3 := h.u
  have h5 := h.k
  have hs : okN (segN L.g (addK L)) = true := (WN.seg _ _ h.g (by unfold addK; split <;> omega)).ok
  unfold addR at *
  split at h0
  · rename_i hc
    rw [if_pos hc]
    obtain ⟨d1, d2, d3⟩ := wri_ok h0
    rw [d3]
    exact okn_chg h.m d2 hs (by omega) (by omega) (by show usedL m.l + (frs l).length ≤ _; omega)
  · rename_i hc
    rw [if_neg hc]
    obtain ⟨d1, d2, d3⟩ := app_ok h0
    rw [d3]
    have h4 : (kbyt (atL (segN L.g (addK L)) m.l)).length ≤ usedL m.l := by rw [at_now _ m.l h.m.l.ris, used_now]; exact used_get
    exact okn_chg h.m d2 hs (by omega) (by omega) (by show usedL m.l + (kbyt (atL (segN L.g (addK L)) m.l) ++ frs l).length ≤ _; rw [List.length_append]; omega)
theorem add_turn (q p bl br b5 b6 b7 b8 g : Nat) (b rb : Option Nat) (L : LG) (m : DN) (l : List B) (ad : Option Addr) (cap cp : Nat) (w : World) (hK : WK w q p b rb L m) (hG : Gw w) (ho : Oka L m l) (hT : TA w ad l) (hsep : ∀ a, ad = some a → some a.block ≠ rb)
    (kl : Blk w bl #[.pointer (some ⟨q, 0, none⟩)] 25) (kr : Blk w br #[.slice ad l.length cap] 30) (k5 : Blk w b5 #[ptF (if addC L = true then 25 else 46) p] 49) (k6 : Blk w b6 #[.int .i64 (addK L : Nat)] 3) (k7 : Blk w b7 #[.int .i64 (addJ L : Nat)] 3) (k8 : Blk w b8 #[.string ⟨(frs l).toArray⟩] 9) (n8 : some b8 ≠ rb)
    (kg : Blk w g #[a1F b5 bl b6 b8, syF p, a2F bl br b6 b7 b8] TF) :
    Calls Tryz.prog 37 #[.slice (some ⟨g, 0, none⟩) 3 cp] w (RsP w q p b rb (addN L m l)) := by
  have hu := ho.u
  have hj := ho.j
  have hks : addK L < 100 := by have := ho.k; unfold addK; split <;> omega
  have hjs : addJ L + (frs l).length ≤ 1000000000000 := by unfold addJ; split <;> omega
  have hso : okN (segN L.g (addK L)) = true := (WN.seg _ _ ho.g hks).ok
  have hsl : (segN L.g (addK L)).length ≤ 9223372036854775807 := by have := (WN.seg _ _ ho.g hks).len; omega
  have hfn : Fn1 Tryz.prog (if addC L = true then 25 else 46) := by
    split
    · exact fn1_of Tryz.func25 (by kernel_rfl) (by kernel_rfl)
    · exact fn1_of Tryz.func46 (by kernel_rfl) (by kernel_rfl)
  have HC0 : ∀ b' w1, DD w1 p b' m → Calls Tryz.prog (if addC L = true then 25 else 46) #[.pointer (some ⟨p, 0, none⟩), .string ⟨(segN L.g (addK L)).toArray⟩, .string ⟨(frs l).toArray⟩] w1 (ChN w1 p b' (addR L m (frs l))) := fun b' w1 hD => by
    unfold addR
    split
    · exact writeN p b' m _ _ w1 hD ho.m hso hsl (by omega)
    · exact appendN p b' m _ _ w1 hD ho.m hso hsl (by omega)
  have keep : ∀ {w' b' rb'}, Wch w w' q p b rb b' rb' → Gw w' ∧ TA w' ad l ∧ Blk w' bl #[.pointer (some ⟨q, 0, none⟩)] 25 ∧ Blk w' br #[.slice ad l.length cap] 30 ∧ Blk w' b5 #[ptF (if addC L = true then 25 else 46) p] 49 ∧ Blk w' b6 #[.int .i64 (addK L : Nat)] 3 ∧ Blk w' b7 #[.int .i64 (addJ L : Nat)] 3 ∧ Blk w' b8 #[.string ⟨(frs l).toArray⟩] 9 ∧ Blk w' g #[a1F b5 bl b6 b8, syF p, a2F bl br b6 b7 b8] TF ∧ some b8 ≠ rb' := fun hW =>
    ⟨hW.gw hK hG, hW.ta hK hT hsep, hW.blk hK kl (by decide) (by decide) (by decide) (.inl (by decide)), hW.blk hK kr (by decide) (by decide) (by decide) (.inl (by decide)), hW.blk hK k5 (by decide) (by decide) (by decide) (.inl (by decide)), hW.blk hK k6 (by decide) (by decide) (by decide) (.inl (by decide)), hW.blk hK k7 (by decide) (by decide) (by decide) (.inl (by decide)), hW.blk hK k8 (by decide) (by decide) (by decide) (.inr n8), hW.blk hK kg (by decide) (by decide) (by decide) (.inl (by decide)), hW.sep k8.lt n8⟩
  have ho1 := add_okn ho
  have eN : addN L m l = if (addR L m (frs l)).2 ≠ 0 then (L, addR L m (frs l)) else if (synN (addR L m (frs l)).1).2 ≠ 0 then (L, synN (addR L m (frs l)).1) else (addL L l, synN (addR L m (frs l)).1) := rfl
  rw [eN]
  have eL : addL L l = { L with recs := L.recs ++ l, segs := addK L, last := addJ L + (frs l).length } := rfl
  generalize addR L m (frs l) = R1 at *
  refine (inTurn_rule (some ⟨g, 0, none⟩) 3 cp (fun i => (#[a1F b5 bl b6 b8, syF p, a2F bl br b6 b7 b8][i]?).getD .nilFunc)
    (fun i w' => (∃ b' rb', Wch w w' q p b rb b' rb') ∧ match i with
      | 0 => St w q p b rb L m w'
      | 1 => R1.2 = 0 ∧ St w q p b rb L R1.1 w'
      | 2 => R1.2 = 0 ∧ (synN R1.1).2 = 0 ∧ St w q p b rb L (synN R1.1).1 w'
      | _ => R1.2 = 0 ∧ (synN R1.1).2 = 0 ∧ St w q p b rb (addL L l) (synN R1.1).1 w')
    (fun c w' => RsP w q p b rb (if R1.2 ≠ 0 then (L, R1) else if (synN R1.1).2 ≠ 0 then (L, synN R1.1) else (addL L l, synN R1.1)) (.returned (.int .i64 (c : Nat))) w') w (by omega) ?_ ?_ ?_ ?_).mono ?_
  · rintro i w' ⟨⟨b', rb', hW⟩, _⟩ hi
    have k := (keep hW).2.2.2.2.2.2.2.2.1
    obtain ⟨v, hv⟩ : ∃ v, #[a1F b5 bl b6 b8, syF p, a2F bl br b6 b7 b8][i]? = some v := ⟨_, Array.getElem?_eq_getElem (by simpa using hi)⟩
    refine ⟨g, 0, rfl, ?_⟩
    rw [Nat.zero_add, hv, k.cell i, hv]
    rfl
  · intro i w' hR hi
    match i, hR, hi with
    | 0, ⟨_, b', rb', hW, hK'⟩, _ =>
      obtain ⟨G, Ta, Kl, Kr, K5, K6, K7, K8, _, N8⟩ := keep hW
      refine ⟨_, _, a1_stp b5 bl b6 b8, (add1_any q p bl b5 b6 b8 _ (addK L) b' rb' L m (frs l) R1 w' hK' G ho.g hks hfn (HC0 b') Kl K5 K6 K8 N8).mono ?_⟩
      rintro e w2 ⟨rfl, b2, hW2, hK2⟩
      refine ⟨_, rfl, fun hc => ⟨⟨_, _, hW.trans hW2⟩, hc, _, _, hW.trans hW2, hK2⟩, fun hc => ?_⟩
      rw [if_pos hc]
      exact ⟨rfl, _, _, hW.trans hW2, hK2⟩
    | 1, ⟨_, z1, b', rb', hW, hK'⟩, _ =>
      obtain ⟨G, Ta, Kl, Kr, K5, K6, K7, K8, _, N8⟩ := keep hW
      refine ⟨_, _, sy_stp p, (syncS q p b' rb' L R1.1 w' hK' G (ho1 z1)).mono ?_⟩
      rintro e w2 ⟨rfl, b2, hW2, hK2⟩
      refine ⟨_, rfl, fun hc => ⟨⟨_, _, hW.trans hW2⟩, z1, hc, _, _, hW.trans hW2, hK2⟩, fun hc => ?_⟩
      rw [if_neg (by simp [z1]), if_pos hc]
      exact ⟨rfl, _, _, hW.trans hW2, hK2⟩
    | 2, ⟨_, z1, z2, b', rb', hW, hK'⟩, _ =>
      obtain ⟨G, Ta, Kl, Kr, K5, K6, K7, K8, _, N8⟩ := keep hW
      refine ⟨_, _, a2_stp bl br b6 b7 b8, (add2_any q p bl br b6 b7 b8 (addK L) (addJ L) b' rb' L (synN R1.1).1 (frs l) l ad cap w' hK' G Ta ho.r hjs Kl Kr K6 K7 K8 N8).mono ?_⟩
      rintro e w2 ⟨rfl, rb2, hW2, hK2⟩
      rw [← eL] at hK2
      exact ⟨0, rfl, fun _ => ⟨⟨_, _, hW.trans hW2⟩, z1, z2, _, _, hW.trans hW2, hK2⟩, fun hc => absurd rfl hc⟩
    | i + 3, _, hi => exact absurd hi (by omega)
  · rintro w' ⟨_, z1, z2, b', rb', hW, hK'⟩
    rw [if_neg (by simp [z1]), if_neg (by simp [z2])]
    exact ⟨by rw [z2], b', rb', hW, hK'⟩
  · exact ⟨⟨b, rb, Wch.refl _ _ _ _ _⟩, b, rb, Wch.refl _ _ _ _ _, hK⟩
  · rintro e w' ⟨c, rfl, h⟩
    exact h
end Go.Proofs.YtaiiojbakmminaaGreatDoor
