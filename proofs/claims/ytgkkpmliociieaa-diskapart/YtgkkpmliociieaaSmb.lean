/- The plain disk and the disk, plainly: Sync, how much there is, which are loose. -/
import Derived.Test.YtgkkpmliociieaaSam
namespace Go.Proofs.Ytgkkpmliociieaa
open Go Go.RowKit
theorem view_live (v : F → Option B) (hv : ∀ f, gone f = true → v f = none) : ∀ l : List F, viewL v (liveL l) = viewL v l
  | [] => rfl
  | f :: r => by
    unfold liveL at *
    rw [List.filter_cons, view_cons]
    by_cases hg : gone f = true
    · rw [hg, if_neg (by simp), hv f hg]
      have := view_live v hv r
      unfold liveL at this
      rw [this]
      rfl
    · have hg : gone f = false := by simpa using hg
      rw [hg, if_pos (by simp), view_cons]
      have := view_live v hv r
      unfold liveL at this
      rw [this]
theorem view_map (v : F → Option B) (g : F → F) (hn : ∀ f, (g f).name = f.name) (l : List F) : viewL v (l.map g) = viewL (fun f => v (g f)) l := by
  unfold viewL
  rw [List.filterMap_map]
  congr 1
  funext f
  show (v (g f)).map (fun s => ((g f).name, s)) = _
  rw [hn]
theorem gone_is {f : F} (h : gone f = true) : f.is = none := by
  unfold gone at h
  cases hq : f.is with
  | none => rfl
  | some x => rw [hq] at h; simp at h
theorem gone_sure {f : F} (h : gone f = true) : f.sure = none := by
  unfold gone at h
  cases hq : f.sure with
  | none => rfl
  | some x => rw [hq] at h; simp at h
theorem settle_now (l : List F) : nowL (settleL l) = nowL l := by
  unfold nowL settleL
  rw [view_live _ (fun _ => gone_is), view_map _ stl (fun _ => rfl)]
  rfl
theorem settle_sure (l : List F) : sureL (settleL l) = nowL l := by
  unfold sureL settleL
  rw [view_live _ (fun _ => gone_sure), view_map _ stl (fun _ => rfl)]
  rfl
theorem settle_ok {ok : B → Bool} {l : List F} (h : Okl ok l) : Okl ok (settleL l) := by
  unfold settleL liveL
  refine ⟨?_, ?_, ?_⟩
  · have h1 : (l.map stl).Pairwise fun a b => a.name < b.name := by
      rw [List.pairwise_map]
      exact h.ris
    exact h1.filter _
  · intro f hf
    obtain ⟨g, hg, rfl⟩ := List.mem_map.1 (List.mem_filter.1 hf).1
    exact h.ok g hg
  · intro f hf
    simpa using (List.mem_filter.1 hf).2
theorem settle_len (l : List F) : (settleL l).length ≤ l.length := by
  unfold settleL liveL
  refine Nat.le_trans (List.length_filter_le ..) ?_
  simp
theorem sam_sync {d : DM} {m : RD} (h : Sam d m) : Sam { d with l := settleL d.l } (syD m) := by
  have e : (m.now.map syF).map pr = m.now.map pr := by
    rw [List.map_map]
    rfl
  exact ⟨by show (m.now.map syF).map pr = nowL (settleL d.l); rw [e, settle_now, h.now], by show (m.now.map syF).map pr = sureL (settleL d.l); rw [e, settle_sure, h.now], h.ch, h.off, h.lim, h.room⟩
theorem usedP_ins (x : B × B) : ∀ l : List (B × B), usedP (insP x l) = x.2.length + usedP l
  | [] => rfl
  | y :: r => by
    rw [insP]
    split
    · rfl
    · show y.2.length + usedP (insP x r) = x.2.length + (y.2.length + usedP r)
      rw [usedP_ins x r]
      omega
theorem usedP_wo (n : B) : ∀ l : List (B × B), usedP (woP n l) + (byt (getP n l)).length ≤ usedP l
  | [] => Nat.le_refl _
  | y :: r => by
    have ih := usedP_wo n r
    have e : usedP (y :: r) = y.2.length + usedP r := rfl
    unfold woP getP at *
    rw [e]
    cases hq : y.1 == n with
    | true =>
      rw [List.filter_cons, if_neg (by simp [hq]), List.find?_cons, hq]
      show usedP (List.filter _ r) + y.2.length ≤ _
      omega
    | false =>
      rw [List.filter_cons, if_pos (by simp [hq]), List.find?_cons, hq]
      show (y.2.length + usedP (List.filter (fun x => !(x.1 == n)) r)) + (byt ((List.find? (fun x => x.1 == n) r).map (·.2))).length ≤ y.2.length + usedP r
      omega
theorem usedP_put (n : B) (c : Option B) (l : List (B × B)) : usedP (putP n c l) ≤ usedP (woP n l) + (byt c).length := by
  cases c with
  | none => exact Nat.le_add_right ..
  | some s =>
    show usedP (insP (n, s) (woP n l)) ≤ _
    rw [usedP_ins]
    show s.length + _ ≤ _ + s.length
    omega
/-- How much a change may add. -/
theorem chD_ok {d : DM} (h : Okl okN d.l) (c : RC) : Okl okN (chD d c).1.l ∧ (chD d c).1.l.length ≤ d.l.length + 2 ∧ usedL (chD d c).1.l ≤ usedL d.l + c.s.length ∧ (chD d c).1.ch ≤ d.ch + 1 ∧ (chD d c).1.lim = d.lim ∧ (chD d c).1.room = d.room ∧ (chD d c).1.dead = d.dead := by
  have hr := h.ris
  have hw := usedP_wo c.name (nowL d.l)
  have keep : ∀ e : Nat, Okl okN (d, e).1.l ∧ (d, e).1.l.length ≤ d.l.length + 2 ∧ usedL (d, e).1.l ≤ usedL d.l + c.s.length ∧ (d, e).1.ch ≤ d.ch + 1 ∧ (d, e).1.lim = d.lim ∧ (d, e).1.room = d.room ∧ (d, e).1.dead = d.dead := fun e => ⟨h, Nat.le_add_right .., Nat.le_add_right .., Nat.le_add_right .., rfl, rfl, rfl⟩
  have one : ∀ (x : Option B) (k : Nat), namE d c.name = 0 → (byt x).length ≤ (byt (atL c.name d.l)).length + c.s.length → Okl okN (lay c.name x k d.l) ∧ (lay c.name x k d.l).length ≤ d.l.length + 2 ∧ usedL (lay c.name x k d.l) ≤ usedL d.l + c.s.length := fun x k hn hx => by
    have hok : okN c.name = true := by
      unfold namE at hn
      split at hn
      · cases hn
      · split at hn
        · assumption
        · cases hn
    refine ⟨lay_ok h hok, by have := lay_len c.name x k d.l hr; omega, ?_⟩
    rw [used_now, used_now, lay_now _ _ _ _ hr]
    rw [at_now _ _ hr] at hx
    have := usedP_put c.name x (nowL d.l)
    omega
  have hput : ∀ stay k, namE d c.name = 0 → stay.length ≤ (byt (atL c.name d.l)).length → Okl okN (putD d c.name stay c.s k).1.l ∧ (putD d c.name stay c.s k).1.l.length ≤ d.l.length + 2 ∧ usedL (putD d c.name stay c.s k).1.l ≤ usedL d.l + c.s.length ∧ (putD d c.name stay c.s k).1.ch ≤ d.ch + 1 ∧ (putD d c.name stay c.s k).1.lim = d.lim ∧ (putD d c.name stay c.s k).1.room = d.room ∧ (putD d c.name stay c.s k).1.dead = d.dead := fun stay k hn hs => by
    unfold putD
    split
    · exact keep _
    · obtain ⟨a1, a2, a3⟩ := one (some (stay ++ c.s)) k hn (by show (stay ++ c.s).length ≤ _; rw [List.length_append]; omega)
      exact ⟨a1, a2, a3, Nat.le_refl _, rfl, rfl, rfl⟩
  have hthe : theE d c.name = 0 → namE d c.name = 0 ∧ theC d c.name = atL c.name d.l := fun e => by
    unfold theE at e
    split at e
    · rename_i hn
      exact ⟨hn, by unfold theC; rw [if_pos hn]⟩
    · contradiction
  unfold chD
  split
  · unfold wriD
    split
    · exact hput [] 2 ‹_› (Nat.zero_le _)
    · exact keep _
  · split
    · unfold movD
      split
      · rename_i he
        obtain ⟨hn, hc⟩ := hthe he
        split
        · rename_i hot
          split
          · exact keep _
          · obtain ⟨a1, a2, a3⟩ := one none 3 hn (Nat.zero_le _)
            have l1 := lay_len c.name none 3 d.l hr
            have l2 := lay_len c.to (theC d c.name) 3 (lay c.name none 3 d.l) a1.ris
            refine ⟨lay_ok a1 hot, by show (lay _ _ _ _).length ≤ _; omega, ?_, Nat.le_refl _, rfl, rfl, rfl⟩
            show usedL (lay c.to (theC d c.name) 3 (lay c.name none 3 d.l)) ≤ _
            rw [used_now, used_now, lay_now _ _ _ _ a1.ris, lay_now _ _ _ _ hr, hc, at_now _ _ hr]
            have q1 := usedP_put c.to (getP c.name (nowL d.l)) (putP c.name none (nowL d.l))
            have q2 := usedP_wo c.to (putP c.name none (nowL d.l))
            have q3 := usedP_put c.name none (nowL d.l)
            have q4 : (byt (none : Option B)).length = 0 := rfl
            omega
        · exact keep _
      · exact keep _
    · split
      · unfold remD
        split
        · rename_i he
          obtain ⟨a1, a2, a3⟩ := one none 4 (hthe he).1 (Nat.zero_le _)
          exact ⟨a1, a2, a3, Nat.le_refl _, rfl, rfl, rfl⟩
        · exact keep _
      · split
        · unfold truD
          split
          · rename_i he
            split
            · obtain ⟨hn, hc⟩ := hthe he
              obtain ⟨a1, a2, a3⟩ := one (some ((byt (theC d c.name)).take c.n.toNat)) 5 hn (by rw [hc]; show (List.take _ _).length ≤ _; rw [List.length_take]; omega)
              exact ⟨a1, a2, a3, Nat.le_refl _, rfl, rfl, rfl⟩
            · exact keep _
          · exact keep _
        · unfold appD
          split
          · exact hput _ 1 ‹_› (Nat.le_refl _)
          · exact keep _
theorem ris_ext : ∀ {a b : List B}, a.Pairwise (· < ·) → b.Pairwise (· < ·) → (∀ x, x ∈ a ↔ x ∈ b) → a = b
  | [], [], _, _, _ => rfl
  | [], y :: b, _, _, h => absurd ((h y).2 (List.mem_cons_self ..)) (by simp)
  | x :: a, [], _, _, h => absurd ((h x).1 (List.mem_cons_self ..)) (by simp)
  | x :: a, y :: b, ha, hb, h => by
    have ha2 := List.pairwise_cons.1 ha
    have hb2 := List.pairwise_cons.1 hb
    have e : x = y := by
      rcases List.mem_cons.1 ((h x).1 (List.mem_cons_self ..)) with e | e
      · exact e
      · rcases List.mem_cons.1 ((h y).2 (List.mem_cons_self ..)) with e2 | e2
        · exact e2.symm
        · exact absurd (hb2.1 x e) (lt_as (ha2.1 y e2))
    subst e
    rw [ris_ext ha2.2 hb2.2 (fun z => ⟨fun hz => ?_, fun hz => ?_⟩)]
    · rcases List.mem_cons.1 ((h z).1 (List.mem_cons_of_mem _ hz)) with e | e
      · exact absurd (e ▸ ha2.1 z hz) (lt_irr _)
      · exact e
    · rcases List.mem_cons.1 ((h z).2 (List.mem_cons_of_mem _ hz)) with e | e
      · exact absurd (e ▸ hb2.1 z hz) (lt_irr _)
      · exact e
def nmR (l : List RF) : List B := l.map (·.name)
theorem nm_ins (f : RF) : ∀ (l : List RF) (x : B), x ∈ nmR (insR f l) ↔ x = f.name ∨ x ∈ nmR l
  | [], x => by simp [insR, nmR]
  | y :: r, x => by
    have ih := nm_ins f r x
    rw [insR]
    split
    · simp [nmR]
    · unfold nmR at *
      simp only [List.map_cons, List.mem_cons, ih]
      exact ⟨fun h => h.elim (fun h => .inr (.inl h)) (fun h => h.elim .inl (fun h => .inr (.inr h))), fun h => h.elim (fun h => .inr (.inl h)) (fun h => h.elim .inl (fun h => .inr (.inr h)))⟩
theorem ins_ris (f : RF) : ∀ (l : List RF), (nmR l).Pairwise (· < ·) → f.name ∉ nmR l → (nmR (insR f l)).Pairwise (· < ·)
  | [], _, _ => by simp [insR, nmR]
  | y :: r, h, hn => by
    have h2 := List.pairwise_cons.1 h
    have hn2 : f.name ≠ y.name ∧ f.name ∉ nmR r := by
      constructor
      · exact fun e => hn (by unfold nmR; rw [e]; exact List.mem_cons_self ..)
      · exact fun e => hn (List.mem_cons_of_mem _ e)
    rw [insR]
    split
    · rename_i hlt
      refine List.pairwise_cons.2 ⟨fun z hz => ?_, h⟩
      rcases List.mem_cons.1 hz with rfl | hz
      · exact hlt
      · exact lt_tr hlt (h2.1 z hz)
    · rename_i hlt
      refine List.pairwise_cons.2 ⟨fun z hz => ?_, ins_ris f r h2.2 hn2.2⟩
      rcases (nm_ins f r z).1 hz with rfl | hz
      · exact lt_tot hn2.1 hlt
      · exact h2.1 z hz
theorem wi_nm (f : RF) (l : List RF) (h : (nmR l).Pairwise (· < ·)) : (nmR (wiR f l)).Pairwise (· < ·) ∧ ∀ x, x ∈ nmR (wiR f l) ↔ x = f.name ∨ x ∈ nmR l := by
  have hw : ∀ x, x ∈ nmR (woR f.name l) ↔ x ∈ nmR l ∧ x ≠ f.name := fun x => by
    unfold nmR woR
    constructor
    · intro hx
      obtain ⟨g, hg, rfl⟩ := List.mem_map.1 hx
      have := List.mem_filter.1 hg
      exact ⟨List.mem_map.2 ⟨g, this.1, rfl⟩, by simpa using this.2⟩
    · rintro ⟨hx, hn⟩
      obtain ⟨g, hg, rfl⟩ := List.mem_map.1 hx
      exact List.mem_map.2 ⟨g, List.mem_filter.2 ⟨hg, by simpa using hn⟩, rfl⟩
  constructor
  · refine ins_ris f _ ?_ (fun e => ((hw _).1 e).2 rfl)
    unfold nmR woR at *
    rw [List.pairwise_map] at *
    exact h.filter _
  · intro x
    unfold wiR
    rw [nm_ins, hw]
    by_cases e : x = f.name
    · simp [e]
    · simp [e]
theorem all_nm (now : List RF) : ∀ (s acc : List RF), (nmR acc).Pairwise (· < ·) → (∀ x ∈ nmR now, x ∈ nmR acc) → (nmR (s.foldl (allS now) acc)).Pairwise (· < ·) ∧ ∀ x, x ∈ nmR (s.foldl (allS now) acc) ↔ x ∈ nmR acc ∨ x ∈ nmR s
  | [], acc, h, _ => ⟨h, fun x => by simp [nmR]⟩
  | f :: s, acc, h, hs => by
    have hf : ∀ x, x ∈ nmR (allS now acc f) ↔ x = f.name ∨ x ∈ nmR acc := fun x => by
      unfold allS
      split
      · rename_i hq
        constructor
        · exact .inr
        · rintro (rfl | hx)
          · refine hs _ ?_
            obtain ⟨g, hg⟩ := Option.isSome_iff_exists.1 hq
            unfold findR at hg
            have h1 := List.mem_of_find?_eq_some hg
            have h2 := List.find?_some hg
            exact List.mem_map.2 ⟨g, h1, by simpa using h2⟩
          · exact hx
      · exact (wi_nm f acc h).2 x
    have hp : (nmR (allS now acc f)).Pairwise (· < ·) := by
      unfold allS
      split
      · exact h
      · exact (wi_nm f acc h).1
    obtain ⟨i1, i2⟩ := all_nm now s (allS now acc f) hp (fun x hx => (hf x).2 (.inr (hs x hx)))
    refine ⟨i1, fun x => ?_⟩
    rw [List.foldl_cons, i2, hf]
    show _ ↔ _ ∨ x ∈ f.name :: nmR s
    rw [List.mem_cons]
    exact ⟨fun h => h.elim (fun h => h.elim (fun h => .inr (.inl h)) .inl) (fun h => .inr (.inr h)), fun h => h.elim (fun h => .inl (.inr h)) (fun h => h.elim (fun h => .inl (.inl h)) .inr)⟩
theorem view_names (v : F → Option B) : ∀ l : List F, Ris l → ((viewL v l).map (·.1)).Pairwise (· < ·)
  | [], _ => List.Pairwise.nil
  | f :: r, h => by
    have h2 := ris_cons.1 h
    rw [view_cons]
    cases hq : v f with
    | none => exact view_names v r h2.2
    | some s =>
      refine List.pairwise_cons.2 ⟨fun z hz => ?_, view_names v r h2.2⟩
      obtain ⟨y, hy, rfl⟩ := List.mem_map.1 hz
      exact view_gt h2.1 y hy
theorem nm_pr (l : List RF) : nmR l = (l.map pr).map (·.1) := by
  unfold nmR
  rw [List.map_map]
  rfl
/-- Both disks have the same loose files. -/
theorem sam_loose {d : DM} {m : RD} (h : Sam d m) (hd : Okl okN d.l) : lsR m.now m.sure (allR m.now m.sure) = (d.l.filter isLoose).map (·.name) := by
  have hr := hd.ris
  have hnow : (nmR m.now).Pairwise (· < ·) := by rw [nm_pr, h.now]; exact view_names _ _ hr
  obtain ⟨a1, a2⟩ := all_nm m.now m.sure m.now hnow (fun _ hx => hx)
  have hmem : ∀ (v : F → Option B) (l : List F) (x : B), x ∈ (viewL v l).map (·.1) ↔ ∃ f ∈ l, f.name = x ∧ (v f).isSome = true := fun v l x => by
    constructor
    · intro hx
      obtain ⟨y, hy, rfl⟩ := List.mem_map.1 hx
      obtain ⟨f, hf, e, e2⟩ := view_mem hy
      exact ⟨f, hf, e, by rw [e2]; rfl⟩
    · rintro ⟨f, hf, rfl, e⟩
      obtain ⟨s, hs⟩ := Option.isSome_iff_exists.1 e
      exact List.mem_map.2 ⟨(f.name, s), List.mem_filterMap.2 ⟨f, hf, by rw [hs]; rfl⟩, rfl⟩
  have hall : nmR (allR m.now m.sure) = d.l.map (·.name) := by
    refine ris_ext a1 ?_ (fun x => ?_)
    · rw [List.pairwise_map]
      exact hr
    · unfold allR
      rw [a2, nm_pr, nm_pr, h.now, h.sure]
      unfold nowL sureL
      rw [hmem, hmem]
      constructor
      · rintro (⟨f, hf, e, _⟩ | ⟨f, hf, e, _⟩)
        · exact List.mem_map.2 ⟨f, hf, e⟩
        · exact List.mem_map.2 ⟨f, hf, e⟩
      · intro hx
        obtain ⟨f, hf, e⟩ := List.mem_map.1 hx
        have hl := hd.live f hf
        unfold gone at hl
        cases hq : f.is.isSome with
        | true => exact .inl ⟨f, hf, e, hq⟩
        | false =>
          rw [hq] at hl
          exact .inr ⟨f, hf, e, by simpa using hl⟩
  have hb : ∀ f ∈ d.l, lsB m.now m.sure f.name = isLoose f := fun f hf => by
    unfold lsB isLoose
    rw [pr_some, pr_some, pr_s, pr_s, h.now, h.sure]
    unfold nowL sureL
    rw [view_get hr hf, view_get hr hf]
    cases f.is with
    | none =>
      cases f.sure with
      | none => rfl
      | some y => rfl
    | some x =>
      cases f.sure with
      | none => rfl
      | some y =>
        by_cases e : x = y
        · simp [e, byt]
        · simp [e, byt]
  unfold lsR
  have e1 : ((allR m.now m.sure).filter fun f => lsB m.now m.sure f.name).map (·.name) = (nmR (allR m.now m.sure)).filter (lsB m.now m.sure) := by
    unfold nmR
    rw [List.filter_map]
    rfl
  rw [e1, hall, List.filter_map]
  congr 1
  exact List.filter_congr fun f hf => hb f hf
end Go.Proofs.Ytgkkpmliociieaa
