/- Disks that are synced, plainly: what is there by its names. A disk with what is planned: its changes in one word. -/
import Derived.Test.YtaiiojbakmminaaGreatDoorKFal
import Derived.Test.YtaiiojbakmminaaGreatDoorKNam
import Derived.Test.YtaiiojbakmminaaGreatDoorWpn
namespace Go.Proofs.YtaiiojbakmminaaGreatDoor
open Go Go.RowKit
theorem view_live (v : F → Option B) (hv : ∀ f, gone f = true → v f = none) : ∀ l : List F, viewL v (liveL l) = viewL v l
  | [] => rfl
  | f :: r => by
    unfold liveL at *
    rw [List.filter_cons, view_cons]
    by_cases hg : gone f = true
    · rw [hg, if_neg (by simp), hv f hg]
      have := view_live v hv r
      unfold liveL at this
      rw [this]
      rfl
    · have hg : gone f = false := by simpa using hg
      rw [hg, if_pos (by simp), view_cons]
      have := view_live v hv r
      unfold liveL at this
      rw [this]
theorem view_map (v : F → Option B) (g : F → F) (hn : ∀ f, (g f).name = f.name) (l : List F) : viewL v (l.map g) = viewL (fun f => v (g f)) l := by
  unfold viewL
  rw [List.filterMap_map]
  congr 1
  funext f
  show (v (g f)).map (fun s => ((g f).name, s)) = _
  rw [hn]
theorem gone_is {f : F} (h : gone f = true) : f.is = none := by
  unfold gone at h
  cases hq : f.is with
  | none => rfl
  | some x => rw [hq] at h; simp at h
theorem gone_sure {f : F} (h : gone f = true) : f.sure = none := by
  unfold gone at h
  cases hq : f.sure with
  | none => rfl
  | some x => rw [hq] at h; simp at h
theorem settle_now (l : List F) : nowL (settleL l) = nowL l := by
  unfold nowL settleL
  rw [view_live _ (fun _ => gone_is), view_map _ stl (fun _ => rfl)]
  rfl
theorem settle_sure (l : List F) : sureL (settleL l) = nowL l := by
  unfold sureL settleL
  rw [view_live _ (fun _ => gone_sure), view_map _ stl (fun _ => rfl)]
  rfl
theorem settle_ok {ok : B → Bool} {l : List F} (h : Okl ok l) : Okl ok (settleL l) := by
  unfold settleL liveL
  refine ⟨?_, ?_, ?_⟩
  · have h1 : (l.map stl).Pairwise fun a b => a.name < b.name := by
      rw [List.pairwise_map]
      exact h.ris
    exact h1.filter _
  · intro f hf
    obtain ⟨g, hg, rfl⟩ := List.mem_map.1 (List.mem_filter.1 hf).1
    exact h.ok g hg
  · intro f hf
    simpa using (List.mem_filter.1 hf).2
theorem settle_len (l : List F) : (settleL l).length ≤ l.length := by
  unfold settleL liveL
  refine Nat.le_trans (List.length_filter_le ..) ?_
  simp
theorem usedP_ins (x : B × B) : ∀ l : List (B × B), usedP (insP x l) = x.2.length + usedP l
  | [] => rfl
  | y :: r => by
    rw [insP]
    split
    · rfl
    · show y.2.length + usedP (insP x r) = x.2.length + (y.2.length + usedP r)
      rw [usedP_ins x r]
      omega

abbrev PP := List (B × B)
def RisP (P : PP) : Prop := P.Pairwise fun a b => a.1 < b.1
def mkF (x : B × B) : F := ⟨x.1, some x.2, some x.2, 0⟩
/-- A disk that is synced, of what is there. -/
def mk (P : PP) : List F := P.map mkF
theorem now_mk (P : PP) : nowL (mk P) = P := by
  unfold nowL viewL mk
  rw [List.filterMap_map]
  induction P with
  | nil => rfl
  | cons x r ih => rw [List.filterMap_cons]; simp only [Function.comp, mkF, Option.map_some]; exact congrArg (x :: ·) ih
theorem ris_mk {P : PP} : Ris (mk P) ↔ RisP P := by
  unfold Ris mk RisP
  rw [List.pairwise_map]
  exact Iff.rfl
theorem settle_mk : ∀ l : List F, settleL l = mk (nowL l)
  | [] => rfl
  | f :: r => by
    have ih := settle_mk r
    unfold settleL liveL at *
    rw [List.map_cons, List.filter_cons, ih]
    unfold nowL
    rw [view_cons]
    cases hq : f.is with
    | none =>
      rw [if_neg (by simp [gone, stl, hq])]
      rfl
    | some s =>
      rw [if_pos (by simp [gone, stl, hq])]
      show stl f :: mk _ = mk ([(f.name, s)] ++ _)
      unfold stl mk
      rw [hq]
      rfl
theorem now_ris {l : List F} (h : Ris l) : RisP (nowL l) := by
  unfold RisP nowL viewL
  exact List.Pairwise.filterMap (R := fun a b : F => a.name < b.name) _ (fun a b hab x hx y hy => by
    obtain ⟨s, _, rfl⟩ := Option.map_eq_some_iff.1 hx
    obtain ⟨t, _, rfl⟩ := Option.map_eq_some_iff.1 hy
    exact hab) h
theorem getP_cons (n : B) (x : B × B) (r : PP) : getP n (x :: r) = if x.1 = n then some x.2 else getP n r := by
  unfold getP
  rw [List.find?_cons]
  by_cases h : x.1 = n
  · rw [if_pos h, beq_iff_eq.2 h]
    rfl
  · rw [if_neg h, beq_eq_false_iff_ne.2 h]
theorem getP_nil (n : B) : getP n [] = none := rfl
theorem getP_mem {n s : B} {P : PP} (hr : RisP P) : getP n P = some s ↔ (n, s) ∈ P := by
  induction P with
  | nil => simp [getP]
  | cons x r ih =>
    have h2 := List.pairwise_cons.1 hr
    rw [getP_cons, List.mem_cons]
    by_cases h : x.1 = n
    · rw [if_pos h]
      constructor
      · intro e
        have := Option.some.inj e
        exact .inl (by rw [← h, ← this])
      · rintro (e | e)
        · rw [← e]
        · have := h2.1 _ e
          rw [h] at this
          exact absurd this (lt_irr n)
    · rw [if_neg h, ih h2.2]
      exact ⟨.inr, fun e => e.elim (fun e => absurd (by rw [← e]) h) id⟩
theorem getP_name {n : B} {P : PP} : (getP n P).isSome = true ↔ n ∈ P.map (·.1) := by
  induction P with
  | nil => simp [getP]
  | cons x r ih =>
    rw [getP_cons, List.map_cons, List.mem_cons]
    by_cases h : x.1 = n
    · rw [if_pos h]
      exact ⟨fun _ => .inl h.symm, fun _ => rfl⟩
    · rw [if_neg h, ih]
      exact ⟨.inr, fun e => e.elim (fun e => absurd e.symm h) id⟩
theorem getP_gt {n : B} {P : PP} (h : ∀ y ∈ P, n < y.1) : getP n P = none := by
  cases e : getP n P with
  | none => rfl
  | some s =>
    have : n ∈ P.map (·.1) := getP_name.1 (by rw [e]; rfl)
    obtain ⟨y, hy, e2⟩ := List.mem_map.1 this
    have h3 := h y hy
    rw [e2] at h3
    exact absurd h3 (lt_irr n)
theorem ext_P : ∀ {P Q : PP}, RisP P → RisP Q → (∀ n, getP n P = getP n Q) → P = Q
  | [], [], _, _, _ => rfl
  | [], y :: Q, _, _, h => by
    have := h y.1
    rw [getP_cons, if_pos rfl] at this
    cases this
  | x :: P, [], _, _, h => by
    have := h x.1
    rw [getP_cons, if_pos rfl] at this
    cases this
  | x :: P, y :: Q, hp, hq, h => by
    have hp2 := List.pairwise_cons.1 hp
    have hq2 := List.pairwise_cons.1 hq
    have e1 : x.1 = y.1 := by
      apply Classical.byContradiction
      intro hne
      by_cases hlt : x.1 < y.1
      · have h1 := h x.1
        rw [getP_cons, if_pos rfl, getP_cons, if_neg (fun e => hne e.symm), getP_gt (fun z hz => lt_tr hlt (hq2.1 z hz))] at h1
        cases h1
      · have hgt := lt_tot hne hlt
        have h1 := h y.1
        rw [getP_cons, if_neg hne, getP_cons, if_pos rfl, getP_gt (fun z hz => lt_tr hgt (hp2.1 z hz))] at h1
        cases h1
    have e2 : x.2 = y.2 := by
      have h1 := h x.1
      rw [getP_cons, if_pos rfl, getP_cons, if_pos e1.symm] at h1
      exact Option.some.inj h1
    have e3 : P = Q := by
      refine ext_P hp2.2 hq2.2 fun n => ?_
      by_cases hn : x.1 = n
      · subst hn
        rw [getP_gt hp2.1, getP_gt (fun z hz => e1 ▸ hq2.1 z hz)]
      · have h1 := h n
        rw [getP_cons, if_neg hn, getP_cons, if_neg (fun e => hn (e1.trans e))] at h1
        exact h1
    rw [e3, Prod.ext e1 e2]
theorem woP_ris {n : B} {P : PP} (h : RisP P) : RisP (woP n P) := h.filter _
theorem getP_wo {n x : B} : ∀ {P : PP}, getP x (woP n P) = if x = n then none else getP x P
  | [] => by simp [woP, getP]
  | y :: r => by
    have ih := getP_wo (n := n) (x := x) (P := r)
    unfold woP at *
    rw [List.filter_cons]
    by_cases h : y.1 = n
    · rw [if_neg (by simp [h]), ih, getP_cons]
      by_cases hx : x = n
      · rw [if_pos hx, if_pos hx]
      · rw [if_neg hx, if_neg hx, if_neg (fun e => hx (e.symm.trans h))]
    · rw [if_pos (by simp [h]), getP_cons, getP_cons, ih]
      by_cases hx : x = n
      · rw [if_pos hx, if_neg (fun e => h (e.trans hx))]
        rw [if_pos hx]
      · rw [if_neg hx, if_neg hx]
theorem insP_all {x : B × B} : ∀ {P : PP} {y : B × B}, y ∈ insP x P ↔ y = x ∨ y ∈ P
  | [], y => by simp [insP]
  | z :: r, y => by
    rw [insP]
    split
    · simp
    · rw [List.mem_cons, insP_all (P := r), List.mem_cons]
      exact ⟨fun h => h.elim (fun h => .inr (.inl h)) (fun h => h.elim .inl (fun h => .inr (.inr h))), fun h => h.elim (fun h => .inr (.inl h)) (fun h => h.elim .inl (fun h => .inr (.inr h)))⟩
theorem insP_ris {x : B × B} : ∀ {P : PP}, RisP P → (∀ y ∈ P, y.1 ≠ x.1) → RisP (insP x P)
  | [], _, _ => by simp [insP, RisP]
  | z :: r, h, hx => by
    have h2 := List.pairwise_cons.1 h
    rw [insP]
    split
    · rename_i hlt
      exact List.pairwise_cons.2 ⟨fun y hy => (List.mem_cons.1 hy).elim (fun e => e ▸ hlt) (fun e => lt_tr hlt (h2.1 y e)), h⟩
    · rename_i hlt
      refine List.pairwise_cons.2 ⟨fun y hy => ?_, insP_ris h2.2 (fun y hy => hx y (List.mem_cons_of_mem _ hy))⟩
      rcases insP_all.1 hy with rfl | hy
      · exact lt_tot (fun e => hx z (List.mem_cons_self ..) e.symm) hlt
      · exact h2.1 y hy
theorem woP_ne {n : B} {P : PP} : ∀ y ∈ woP n P, y.1 ≠ n := fun y hy e => by
  have := (List.mem_filter.1 hy).2
  simp [e] at this
theorem putP_ris {n : B} {c : Option B} {P : PP} (h : RisP P) : RisP (putP n c P) := by
  cases c with
  | none => exact woP_ris h
  | some s => exact insP_ris (woP_ris h) woP_ne
theorem getP_ins {x : B × B} {n : B} : ∀ {P : PP}, (∀ y ∈ P, y.1 ≠ x.1) → getP n (insP x P) = if x.1 = n then some x.2 else getP n P
  | [], _ => getP_cons _ _ _
  | z :: r, hx => by
    rw [insP]
    split
    · exact getP_cons _ _ _
    · rw [getP_cons, getP_ins (fun y hy => hx y (List.mem_cons_of_mem _ hy)), getP_cons]
      by_cases h : z.1 = n
      · rw [if_pos h, if_neg (fun e => hx z (List.mem_cons_self ..) (h.trans e.symm)), if_pos h]
      · rw [if_neg h, if_neg h]
theorem getP_put {n x : B} {c : Option B} {P : PP} : getP x (putP n c P) = if x = n then c else getP x P := by
  cases c with
  | none => exact getP_wo
  | some s =>
    show getP x (insP (n, s) (woP n P)) = _
    rw [getP_ins woP_ne, getP_wo]
    by_cases h : x = n
    · rw [if_pos h.symm, if_pos h]
    · rw [if_neg (fun e => h e.symm), if_neg h, if_neg h]
theorem usedP_wo {n : B} : ∀ {P : PP}, RisP P → usedP (woP n P) + (kbyt (getP n P)).length = usedP P
  | [], _ => rfl
  | y :: r, h => by
    have h2 := List.pairwise_cons.1 h
    have ih := usedP_wo (n := n) h2.2
    have e : usedP (y :: r) = y.2.length + usedP r := rfl
    rw [getP_cons, e]
    unfold woP at *
    rw [List.filter_cons]
    by_cases hq : y.1 = n
    · rw [if_neg (by simp [hq]), if_pos hq]
      have : getP n r = none := getP_gt (fun z hz => hq ▸ h2.1 z hz)
      rw [this] at ih
      show _ + y.2.length = _
      have e2 : (kbyt (none : Option B)).length = 0 := rfl
      omega
    · rw [if_pos (by simp [hq]), if_neg hq]
      show y.2.length + usedP _ + _ = _
      omega
theorem usedP_put {n : B} {c : Option B} {P : PP} (h : RisP P) : usedP (putP n c P) + (kbyt (getP n P)).length = usedP P + (kbyt c).length := by
  have h1 := usedP_wo (n := n) h
  cases c with
  | none =>
    show usedP (woP n P) + _ = usedP P + 0
    omega
  | some s =>
    show usedP (insP (n, s) (woP n P)) + _ = usedP P + s.length
    rw [usedP_ins]
    show s.length + _ + _ = _
    omega
theorem used_mk (P : PP) : usedL (mk P) = usedP P := by rw [used_now, now_mk]
theorem at_mk {n : B} {P : PP} (h : RisP P) : atL n (mk P) = getP n P := by rw [at_now n _ (ris_mk.2 h), now_mk]
theorem names_mk (P : PP) : namesL (mk P) = P.map (·.1) := by unfold namesL; rw [now_mk]
theorem mk_len (P : PP) : (mk P).length = P.length := List.length_map ..
/-- What a synced disk of names that may be is. -/
theorem mk_ok {P : PP} (h : RisP P) (hn : ∀ x ∈ P, okN x.1 = true) : Okl okN (mk P) := by
  refine ⟨ris_mk.2 h, fun f hf => ?_, fun f hf => ?_⟩
  · obtain ⟨x, hx, rfl⟩ := List.mem_map.1 hf
    exact hn x hx
  · obtain ⟨x, hx, rfl⟩ := List.mem_map.1 hf
    rfl
theorem putP_len {n : B} {c : Option B} {P : PP} : (putP n c P).length ≤ P.length + 1 := by
  have h1 : (woP n P).length ≤ P.length := List.length_filter_le ..
  have h2 : ∀ (x : B × B) (Q : PP), (insP x Q).length = Q.length + 1 := fun x Q => by
    induction Q with
    | nil => rfl
    | cons y r ih => rw [insP]; split <;> simp [ih]
  cases c with
  | none => exact Nat.le_trans h1 (Nat.le_succ _)
  | some s =>
    show (insP (n, s) (woP n P)).length ≤ _
    rw [h2]
    exact Nat.succ_le_succ h1
theorem putP_names {n : B} {c : Option B} {P : PP} {q : B → Prop} (h : ∀ x ∈ P, q x.1) (hn : c.isSome = true → q n) : ∀ x ∈ putP n c P, q x.1 := fun x hx => by
  cases c with
  | none => exact h x (List.mem_filter.1 hx).1
  | some s =>
    rcases insP_all.1 hx with rfl | hx
    · exact hn rfl
    · exact h x (List.mem_filter.1 hx).1
/-- Nothing is loose: a loss of power takes nothing. -/
theorem fail_mk (z k : Int) (P : PP) : settleL (failL z k (mk P)) = mk P := by
  have : ∀ (P : PP) (acc : List F) (c q : Nat), ((mk P).foldl (fstep z k) (acc, c, q)).1 = acc ++ mk P := fun P => by
    induction P with
    | nil => intro acc c q; simp [mk]
    | cons x r ih =>
      intro acc c q
      show (List.foldl (fstep z k) (fstep z k (acc, c, q) (mkF x)) (mk r)).1 = _
      have e : fstep z k (acc, c, q) (mkF x) = (acc ++ [mkF x], c, q) := by
        unfold fstep
        rw [if_neg (by simp [isLoose, mkF])]
      rw [e, ih]
      simp [mk]
  have h := this P [] 0 0
  unfold failL fst_
  rw [h, settle_mk, List.nil_append, now_mk]
end Go.Proofs.YtaiiojbakmminaaGreatDoor
namespace Go.Proofs.YtaiiojbakmminaaGreatDoor
open Go Go.RowKit
/-- A disk, with the fall that is planned, if one is. -/
structure DN where
  l : List F
  dead : Bool
  lim : Bool
  room : Int
  ch : Nat
  pl : Option FA
def DN.lo (m : DN) (v : Value) : DM := ⟨m.l, m.dead, m.lim, m.room, m.ch, v⟩
def PLs (w : World) (v : Value) : Option FA → Prop
  | none => ∃ a c, v = .slice a 0 c
  | some f => PlA w v f
structure DD (w : World) (p : Nat) (b : Option Nat) (m : DN) : Prop where
  out : ∃ v, DK w p b (m.lo v) ∧ PLs w v m.pl
structure Okn (m : DN) : Prop where
  l : Okl okN m.l
  len : m.l.length ≤ 999000
  used : usedL m.l ≤ 100000000000
  ch : m.ch ≤ 999000
  room : m.lim = true → 0 ≤ m.room ∧ m.room ≤ 9223372036854775807
  by_ : ∀ f ∈ m.l, (kbyt f.is).length ≤ 1000000000000 ∧ (kbyt f.sure).length ≤ 1000000000000
  pl : ∀ f, m.pl = some f → (m.ch : Int) ≤ f.at_ ∧ m.dead = false ∧ m.lim = false
theorem Okn.okd {m : DN} (h : Okn m) (v : Value) : Okd (m.lo v) := ⟨h.l, h.len, h.used, h.ch, h.room⟩
def hitN (m : DN) : Option FA := match m.pl with
  | some f => if f.at_ = (m.ch : Int) then some f else none
  | none => none
def fallN (m : DN) (f : FA) : DN := { m with dead := true, l := settleL (failL f.keep f.torn m.l), pl := none }
def chgN (m : DN) (l' : List F) : DN × Nat := match hitN m with
  | some f => (fallN m f, 7)
  | none => ({ m with ch := m.ch + 1, l := l' }, 0)
def ChN (w : World) (p : Nat) (b : Option Nat) (r : DN × Nat) (e : Ending) (w' : World) : Prop := e = .returned (.int .i64 (r.2 : Nat)) ∧ ∃ b', Chg w w' p b b' ∧ DD w' p b' r.1
theorem Chg.raw {w w' : World} {p g : Nat} {b b' : Option Nat} {m : DM} {cur : Array Value} {t : TypeId} {fr : Nat × Nat} (h : Chg w w' p b b') (hD : DK w p b m) (hg : w.heap[g]? = some (.cells cur t fr)) (h1 : t ≠ 61) (h2 : t ≠ 93) : w'.heap[g]? = some (.cells cur t fr) := by
  obtain ⟨sl, k1, k2, rfl⟩ := hD.out
  refine (h.block g (Array.getElem?_eq_some_iff.1 hg).1 (fun e => ?_) (fun e => ?_)).trans hg
  · subst e
    have := k1.out
    rw [hg] at this
    simp only [Option.some.injEq, Obj.cells.injEq] at this
    exact h1 this.2.1
  · rcases k2.2 with ⟨_, rfl⟩ | ⟨g', cap, h3, rfl, h4⟩
    · cases e
    · cases e
      obtain ⟨cur', h5, _⟩ := h4.out
      rw [hg] at h5
      simp only [Option.some.injEq, Obj.cells.injEq] at h5
      exact h2 h5.2.1
theorem PlA.chg {w w' : World} {p : Nat} {b b' : Option Nat} {m : DM} {v : Value} {f : FA} (h : PlA w v f) (hc : Chg w w' p b b') (hD : DK w p b m) : PlA w' v f := by
  obtain ⟨g, o, cap, cur, fr, h1, h2, h3, h4⟩ := h.out
  exact ⟨g, o, cap, cur, fr, h1, h2, hc.raw hD h3 (by decide) (by decide), h4⟩
theorem PLs.chg {w w' : World} {p : Nat} {b b' : Option Nat} {m : DM} {v : Value} {o : Option FA} (h : PLs w v o) (hc : Chg w w' p b b') (hD : DK w p b m) : PLs w' v o := by
  cases o with
  | none => exact h
  | some f => exact PlA.chg h hc hD
theorem PLs.below {w w' : World} {v : Value} {o : Option FA} (h : PLs w v o) (hb : Below w.heap.size w w') : PLs w' v o := by
  cases o with
  | none => exact h
  | some f => exact PlA.below h hb
theorem DD.below {w w' : World} {p : Nat} {b : Option Nat} {m : DN} (h : DD w p b m) (hb : Below w.heap.size w w') : DD w' p b m := by
  obtain ⟨v, h1, h2⟩ := h.out
  exact ⟨v, h1.below hb, h2.below hb⟩
theorem calm_of {w : World} {m : DN} {v : Value} (hm : Okn m) (hh : hitN m = none) (h : PLs w v m.pl) : Calm w (m.lo v) := by
  unfold hitN at hh
  cases hp : m.pl with
  | none =>
    rw [hp] at h
    exact .inl h
  | some f =>
    rw [hp] at h hh
    dsimp only at hh
    split at hh
    · cases hh
    · rename_i hne
      refine .inr ⟨f, h, ?_⟩
      have := (hm.pl f hp).1
      show (m.ch : Int) < f.at_
      omega
theorem hit_of {m : DN} {f : FA} (hh : hitN m = some f) : m.pl = some f ∧ f.at_ = (m.ch : Int) := by
  unfold hitN at hh
  cases hp : m.pl with
  | none => rw [hp] at hh; cases hh
  | some f' =>
    rw [hp] at hh
    dsimp only at hh
    split at hh
    · rename_i he
      have := Option.some.inj hh
      subst this
      exact ⟨rfl, he⟩
    · cases hh
/-- A change, where none strikes: what the disk's law says. -/
theorem chn_calm {w w' : World} {p : Nat} {b : Option Nat} {m : DN} {v : Value} {e : Ending} {l' : List F} (hK : DK w p b (m.lo v)) (hp : PLs w v m.pl) (hh : hitN m = none) (h : ChP w p b ({ m.lo v with ch := m.ch + 1, l := l' }, 0) e w') : ChN w p b (chgN m l') e w' := by
  obtain ⟨h1, b', h2, h3⟩ := h
  unfold chgN
  rw [hh]
  exact ⟨h1, b', h2, ⟨v, h3, hp.chg h2 hK⟩⟩
theorem chn_same {w w' : World} {p : Nat} {b : Option Nat} {m : DN} {v : Value} {e : Ending} {k : Nat} (hK : DK w p b (m.lo v)) (hp : PLs w v m.pl) (h : ChP w p b (m.lo v, k) e w') : ChN w p b (m, k) e w' := by
  obtain ⟨h1, b', h2, h3⟩ := h
  exact ⟨h1, b', h2, ⟨v, h3, hp.chg h2 hK⟩⟩
theorem chn_hit {w w' : World} {p : Nat} {b : Option Nat} {m : DN} {v : Value} {e : Ending} {f : FA} {l' : List F} (hh : hitN m = some f) (h : HitP w p b (m.lo v) f e w') : ChN w p b (chgN m l') e w' := by
  obtain ⟨h1, b', a, c, h2, h3⟩ := h
  unfold chgN
  rw [hh]
  exact ⟨h1, b', h2, ⟨.slice a 0 c, h3, a, c, rfl⟩⟩
/-- Is there no room for so many bytes more? -/
def fullN (m : DN) (d : Int) : Bool := m.lim && decide (0 < d) && decide (m.room - (usedL m.l : Nat) < d)
theorem full_lo (m : DN) (v : Value) (d : Int) : fullE (m.lo v) d = fullN m d := rfl
theorem nam_ok {m : DN} {v : Value} {n : B} (hn : okN n = true) : namE (m.lo v) n = if m.dead = true then 7 else 0 := by
  unfold namE
  rw [if_pos hn]
  rfl
/-- What Write leaves. -/
def wriN (m : DN) (n s : B) : DN × Nat := if m.dead = true then (m, 7) else if fullN m ((s.length : Int) - ((kbyt (atL n m.l)).length : Int)) = true then (m, 111) else chgN m (lay n (some s) 2 m.l)
def appN (m : DN) (n s : B) : DN × Nat := if m.dead = true then (m, 7) else if fullN m (s.length : Int) = true then (m, 111) else chgN m (lay n (some (kbyt (atL n m.l) ++ s)) 1 m.l)
def remN (m : DN) (n : B) : DN × Nat := if m.dead = true then (m, 7) else chgN m (lay n none 4 m.l)
def movN (m : DN) (n t : B) : DN × Nat := if m.dead = true then (m, 7) else chgN m (lay t (atL n m.l) 3 (lay n none 3 m.l))
def synN (m : DN) : DN × Nat := if m.dead = true then (m, 7) else ({ m with l := settleL m.l }, 0)
theorem nofull {m : DN} (hm : Okn m) {f : FA} (hh : hitN m = some f) (d : Int) : fullN m d = false := by
  unfold fullN
  rw [(hm.pl f (hit_of hh).1).2.2]
  rfl
theorem dead_hit {m : DN} (hm : Okn m) {f : FA} (hh : hitN m = some f) : m.dead = false := (hm.pl f (hit_of hh).1).2.1
theorem writeN (p : Nat) (b : Option Nat) (m : DN) (n s : B) (w : World) (hK : DD w p b m) (hm : Okn m) (hn : okN n = true) (hnl : n.length ≤ 9223372036854775807) (h2 : s.length ≤ 1000000000000) :
    Calls Tryz.prog 25 #[.pointer (some ⟨p, 0, none⟩), .string ⟨n.toArray⟩, .string ⟨s.toArray⟩] w (ChN w p b (wriN m n s)) := by
  obtain ⟨v, hD, hp⟩ := hK.out
  have hfe : ((([] : B).length : Int) + (s.length : Int) - ((kbyt (atL n m.l)).length : Int)) = (s.length : Int) - ((kbyt (atL n m.l)).length : Int) := by simp
  unfold wriN
  cases hh : hitN m with
  | none =>
    have h := write_any p b (m.lo v) n s w hD (hm.okd v) (calm_of hm hh hp) hnl h2
    refine h.mono (fun e w' hc => ?_)
    unfold wriD at hc
    rw [nam_ok hn] at hc
    by_cases hd : m.dead = true
    · rw [if_pos hd] at hc ⊢
      rw [if_neg (by decide)] at hc
      exact chn_same hD hp hc
    · rw [if_neg hd] at hc ⊢
      rw [if_pos rfl] at hc
      unfold putD at hc
      have hfe2 : ((([] : B).length : Int) + (s.length : Int) - ((kbyt (atL n (m.lo v).l)).length : Int)) = (s.length : Int) - ((kbyt (atL n m.l)).length : Int) := hfe
      rw [hfe2, full_lo] at hc
      by_cases hf : fullN m ((s.length : Int) - ((kbyt (atL n m.l)).length : Int)) = true
      · rw [if_pos hf] at hc ⊢
        exact chn_same hD hp hc
      · rw [if_neg hf] at hc ⊢
        exact chn_calm hD hp hh hc
  | some f =>
    have h := write_hit p b (m.lo v) w hD (hm.okd v) f (by have := hp; rw [(hit_of hh).1] at this; exact this) (hit_of hh).2 hm.by_ n s hnl h2 (by rw [nam_ok hn, if_neg (by rw [dead_hit hm hh]; decide)]) (by rw [full_lo]; exact nofull hm hh _)
    rw [if_neg (by rw [dead_hit hm hh]; decide), if_neg (by rw [nofull hm hh]; decide)]
    exact h.mono (fun e w' hc => chn_hit hh hc)
theorem appendN (p : Nat) (b : Option Nat) (m : DN) (n s : B) (w : World) (hK : DD w p b m) (hm : Okn m) (hn : okN n = true) (hnl : n.length ≤ 9223372036854775807) (h2 : s.length ≤ 1000000000000) :
    Calls Tryz.prog 46 #[.pointer (some ⟨p, 0, none⟩), .string ⟨n.toArray⟩, .string ⟨s.toArray⟩] w (ChN w p b (appN m n s)) := by
  obtain ⟨v, hD, hp⟩ := hK.out
  unfold appN
  cases hh : hitN m with
  | none =>
    have h := append_any p b (m.lo v) n s w hD (hm.okd v) (calm_of hm hh hp) hnl h2
    refine h.mono (fun e w' hc => ?_)
    unfold appD at hc
    rw [nam_ok hn] at hc
    by_cases hd : m.dead = true
    · rw [if_pos hd] at hc ⊢
      rw [if_neg (by decide)] at hc
      exact chn_same hD hp hc
    · rw [if_neg hd] at hc ⊢
      rw [if_pos rfl] at hc
      unfold putD at hc
      have hfe : (((kbyt (atL n (m.lo v).l)).length : Int) + (s.length : Int) - ((kbyt (atL n (m.lo v).l)).length : Int)) = (s.length : Int) := by omega
      rw [hfe, full_lo] at hc
      by_cases hf : fullN m (s.length : Int) = true
      · rw [if_pos hf] at hc ⊢
        exact chn_same hD hp hc
      · rw [if_neg hf] at hc ⊢
        exact chn_calm hD hp hh hc
  | some f =>
    have h := append_hit p b (m.lo v) w hD (hm.okd v) f (by have := hp; rw [(hit_of hh).1] at this; exact this) (hit_of hh).2 hm.by_ n s hnl h2 (by rw [nam_ok hn, if_neg (by rw [dead_hit hm hh]; decide)]) (by rw [full_lo]; exact nofull hm hh _)
    rw [if_neg (by rw [dead_hit hm hh]; decide), if_neg (by rw [nofull hm hh]; decide)]
    exact h.mono (fun e w' hc => chn_hit hh hc)
theorem the_ok {m : DN} {v : Value} {n : B} (hn : okN n = true) (ha : (atL n m.l).isSome = true) : theE (m.lo v) n = if m.dead = true then 7 else 0 := by
  unfold theE
  rw [nam_ok hn]
  by_cases hd : m.dead = true
  · rw [if_pos hd]
    rfl
  · rw [if_neg hd, if_pos rfl]
    show (if (atL n m.l).isSome = true then _ else _) = _
    rw [if_pos ha]
theorem theC_ok {m : DN} {v : Value} {n : B} (hn : okN n = true) (hd : ¬ m.dead = true) : theC (m.lo v) n = atL n m.l := by
  unfold theC
  rw [nam_ok hn, if_neg hd, if_pos rfl]
  rfl
theorem removeN (p : Nat) (b : Option Nat) (m : DN) (n : B) (w : World) (hK : DD w p b m) (hm : Okn m) (hn : okN n = true) (hnl : n.length ≤ 9223372036854775807) (ha : (atL n m.l).isSome = true) :
    Calls Tryz.prog 78 #[.pointer (some ⟨p, 0, none⟩), .string ⟨n.toArray⟩] w (ChN w p b (remN m n)) := by
  obtain ⟨v, hD, hp⟩ := hK.out
  unfold remN
  cases hh : hitN m with
  | none =>
    have h := remove_any p b (m.lo v) n w hD (hm.okd v) (calm_of hm hh hp) hnl
    refine h.mono (fun e w' hc => ?_)
    unfold remD at hc
    rw [the_ok hn ha] at hc
    by_cases hd : m.dead = true
    · rw [if_pos hd] at hc ⊢
      rw [if_neg (by decide)] at hc
      exact chn_same hD hp hc
    · rw [if_neg hd] at hc ⊢
      rw [if_pos rfl] at hc
      exact chn_calm hD hp hh hc
  | some f =>
    have h := remove_hit p b (m.lo v) w hD (hm.okd v) f (by have := hp; rw [(hit_of hh).1] at this; exact this) (hit_of hh).2 hm.by_ n hnl (by rw [the_ok hn ha, if_neg (by rw [dead_hit hm hh]; decide)])
    rw [if_neg (by rw [dead_hit hm hh]; decide)]
    exact h.mono (fun e w' hc => chn_hit hh hc)
theorem moveN (p : Nat) (b : Option Nat) (m : DN) (n t : B) (w : World) (hK : DD w p b m) (hm : Okn m) (hn : okN n = true) (ht : okN t = true) (hnt : n ≠ t) (hnl : n.length ≤ 9223372036854775807) (htl : t.length ≤ 9223372036854775807) (ha : (atL n m.l).isSome = true) :
    Calls Tryz.prog 41 #[.pointer (some ⟨p, 0, none⟩), .string ⟨n.toArray⟩, .string ⟨t.toArray⟩] w (ChN w p b (movN m n t)) := by
  obtain ⟨v, hD, hp⟩ := hK.out
  unfold movN
  cases hh : hitN m with
  | none =>
    have h := move_any p b (m.lo v) n t w hD (hm.okd v) (calm_of hm hh hp) hnl htl (fun _ => hn)
    refine h.mono (fun e w' hc => ?_)
    unfold movD at hc
    rw [the_ok hn ha] at hc
    by_cases hd : m.dead = true
    · rw [if_pos hd] at hc ⊢
      rw [if_neg (by decide)] at hc
      exact chn_same hD hp hc
    · rw [if_neg hd] at hc ⊢
      rw [if_pos rfl, if_pos ht, if_neg hnt, theC_ok hn hd] at hc
      exact chn_calm hD hp hh hc
  | some f =>
    have h := move_hit p b (m.lo v) w hD (hm.okd v) f (by have := hp; rw [(hit_of hh).1] at this; exact this) (hit_of hh).2 hm.by_ n t hnl htl (by rw [the_ok hn ha, if_neg (by rw [dead_hit hm hh]; decide)]) ht hnt
    rw [if_neg (by rw [dead_hit hm hh]; decide)]
    exact h.mono (fun e w' hc => chn_hit hh hc)
theorem syncN (p : Nat) (b : Option Nat) (m : DN) (w : World) (hK : DD w p b m) (hm : Okn m) :
    Calls Tryz.prog 27 #[.pointer (some ⟨p, 0, none⟩)] w (ChN w p b (synN m)) := by
  obtain ⟨v, hD, hp⟩ := hK.out
  have hl := hm.len
  have h := sync_any p b (m.lo v) w hD (by show m.l.length ≤ _; omega)
  refine h.mono (fun e w' hc => ?_)
  unfold synN
  by_cases hd : m.dead = true
  · rw [if_pos (show (m.lo v).dead = true from hd)] at hc
    rw [if_pos hd]
    exact chn_same hD hp hc
  · rw [if_neg (show ¬ (m.lo v).dead = true from hd)] at hc
    rw [if_neg hd]
    obtain ⟨h1, b', h2, h3⟩ := hc
    exact ⟨h1, b', h2, ⟨v, h3, hp.chg h2 hD⟩⟩
end Go.Proofs.YtaiiojbakmminaaGreatDoor
