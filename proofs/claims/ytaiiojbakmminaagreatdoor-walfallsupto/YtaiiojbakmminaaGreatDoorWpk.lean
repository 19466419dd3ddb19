/- A planned fall, plainly: what it leaves of a synced disk within Add, and within the taking away of files. What Plan of a disk does with one fall, or with none. -/
import Derived.Test.YtaiiojbakmminaaGreatDoorWdx
import Derived.Test.YtaiiojbakmminaaGreatDoorKNd
import Derived.Test.YtaiiojbakmminaaGreatDoorWst
namespace Go.Proofs.YtaiiojbakmminaaGreatDoor
open Go Go.RowKit
/-- A synced disk with a fall that is planned. -/
def pm (P : PP) (room : Int) (ch : Nat) (f : FA) : DN := ⟨mk P, false, false, room, ch, some f⟩
/-- A disk without power, of which nothing is loose. -/
def dm (P : PP) (room : Int) (ch : Nat) : DN := ⟨mk P, true, false, room, ch, none⟩
theorem chg_pm (P : PP) (room : Int) (ch : Nat) (f : FA) (l' : List F) : chgN (pm P room ch f) l' = if f.at_ = (ch : Int) then (dm P room ch, 7) else (⟨l', false, false, room, ch + 1, some f⟩, 0) := by
  unfold chgN hitN pm
  dsimp only
  by_cases h : f.at_ = (ch : Int)
  · rw [if_pos h, if_pos h]
    show (({ (⟨mk P, false, false, room, ch, some f⟩ : DN) with dead := true, l := settleL (failL f.keep f.torn (mk P)), pl := none } : DN), 7) = _
    rw [fail_mk]
    rfl
  · rw [if_neg h, if_neg h]
theorem full_pm (P : PP) (room : Int) (ch : Nat) (f : FA) (d : Int) : fullN (pm P room ch f) d = false := by simp [fullN, pm]
theorem wri_pm (P : PP) (room : Int) (ch : Nat) (f : FA) (n s : B) : wriN (pm P room ch f) n s = if f.at_ = (ch : Int) then (dm P room ch, 7) else (⟨lay n (some s) 2 (mk P), false, false, room, ch + 1, some f⟩, 0) := by
  unfold wriN
  rw [if_neg (by simp [pm]), full_pm, if_neg (by simp), chg_pm]
  rfl
theorem app_pm {P : PP} (h : RisP P) (room : Int) (ch : Nat) (f : FA) (n s : B) : appN (pm P room ch f) n s = if f.at_ = (ch : Int) then (dm P room ch, 7) else (⟨lay n (some (kbyt (getP n P) ++ s)) 1 (mk P), false, false, room, ch + 1, some f⟩, 0) := by
  unfold appN
  rw [if_neg (by simp [pm]), full_pm, if_neg (by simp), chg_pm]
  show (if f.at_ = (ch : Int) then (dm P room ch, 7) else (⟨lay n (some (kbyt (atL n (mk P)) ++ s)) 1 (mk P), false, false, room, ch + 1, some f⟩, 0)) = _
  rw [at_mk h]
theorem mov_pm {P : PP} (h : RisP P) (room : Int) (ch : Nat) (f : FA) (n t : B) : movN (pm P room ch f) n t = if f.at_ = (ch : Int) then (dm P room ch, 7) else (⟨lay t (getP n P) 3 (lay n none 3 (mk P)), false, false, room, ch + 1, some f⟩, 0) := by
  unfold movN
  rw [if_neg (by simp [pm]), chg_pm]
  show (if f.at_ = (ch : Int) then (dm P room ch, 7) else (⟨lay t (atL n (mk P)) 3 (lay n none 3 (mk P)), false, false, room, ch + 1, some f⟩, 0)) = _
  rw [at_mk h]
theorem syn_pm (l : List F) (room : Int) (ch : Nat) (f : FA) : synN ⟨l, false, false, room, ch, some f⟩ = (pm (nowL l) room ch f, 0) := by
  simp [synN, pm, settle_mk]
/-- Add on a disk with a fall that is planned. -/
theorem add_pm (L : LG) {P : PP} (h : RisP P) (room : Int) (ch : Nat) (f : FA) (l : List B) : addN L (pm P room ch f) l = if f.at_ = (ch : Int) then (L, (dm P room ch, 7)) else (addL L l, (pm (addP L P l) room (ch + 1) f, 0)) := by
  unfold addN addR addP addK
  by_cases hf : f.at_ = (ch : Int)
  · rw [if_pos hf]
    cases hc : addC L with
    | true => simp [wri_pm, hf]
    | false => simp [app_pm h, hf]
  · rw [if_neg hf]
    cases hc : addC L with
    | true => simp [wri_pm, hf, syn_pm, lay_now _ _ _ _ (ris_mk.2 h), now_mk]
    | false => simp [app_pm h, hf, syn_pm, lay_now _ _ _ _ (ris_mk.2 h), now_mk]
/-- Nothing of these files can be torn. -/
def Qt (l : List F) : Prop := ∀ f ∈ l, f.is = f.sure ∨ (f.last ≠ 1 ∧ f.last ≠ 2)
theorem qt_mk (P : PP) : Qt (mk P) := fun f hf => by
  obtain ⟨x, _, rfl⟩ := List.mem_map.1 hf
  exact .inl rfl
theorem lay_last {n : B} {c : Option B} {h : Nat} {l : List F} (hr : Ris l) {f : F} (hf : f ∈ lay n c h l) : f ∈ l ∨ f.last = h := by
  obtain ⟨A, T, rfl, hp, hA, ⟨hfn, f0, R, rfl, hn2, hR⟩ | ⟨hfn, hT⟩⟩ := split_at n l hr
  · rw [lay_found hfn hp] at hf
    split at hf
    · exact .inl (mem_skip hf)
    · rcases List.mem_append.1 hf with h1 | h1
      · exact .inl (List.mem_append_left _ h1)
      · rcases List.mem_cons.1 h1 with rfl | h1
        · exact .inr rfl
        · exact .inl (by simp [h1])
  · rw [lay_new hfn hp] at hf
    split at hf
    · exact .inl hf
    · rcases List.mem_append.1 hf with h1 | h1
      · exact .inl (List.mem_append_left _ h1)
      · rcases List.mem_cons.1 h1 with rfl | h1
        · exact .inr rfl
        · exact .inl (List.mem_append_right _ h1)
theorem qt_rem {l : List F} (h : Qt l) (hr : Ris l) (n : B) : Qt (lay n none 4 l) := fun f hf => by
  rcases lay_last hr hf with h1 | h1
  · exact h f h1
  · exact .inr ⟨by omega, by omega⟩
/-- Each file is as it was, or as it was sure to be. -/
inductive Pk : List F → List F → Prop
  | nil : Pk [] []
  | cons {f f' : F} {l r : List F} (hn : f'.name = f.name) (hi : f'.is = f.is ∨ f'.is = f.sure) (h : Pk l r) : Pk (f :: l) (f' :: r)
theorem fail_pk (z k : Int) : ∀ (l acc : List F) (c q : Nat), Qt l → ∃ r, (l.foldl (fstep z k) (acc, c, q)).1 = acc ++ r ∧ Pk l r
  | [], acc, c, q, _ => ⟨[], by simp, .nil⟩
  | f :: l, acc, c, q, hq => by
    have hq2 : Qt l := fun g hg => hq g (List.mem_cons_of_mem _ hg)
    have hf := hq f (List.mem_cons_self ..)
    rw [List.foldl_cons]
    have step : ∃ f' c' q', fstep z k (acc, c, q) f = (acc ++ [f'], c', q') ∧ f'.name = f.name ∧ (f'.is = f.is ∨ f'.is = f.sure) := by
      unfold fstep
      split
      · split
        · exact ⟨f, _, _, rfl, rfl, .inl rfl⟩
        · refine ⟨{ f with is := lostC f k (decide (q = 0)) }, _, _, rfl, rfl, ?_⟩
          show lostC f k (decide (q = 0)) = f.is ∨ lostC f k (decide (q = 0)) = f.sure
          rcases hf with h1 | ⟨h1, h2⟩
          · rename_i hl _
            exact absurd h1 (by
              unfold isLoose at hl
              simpa using hl)
          · right
            unfold lostC torn
            rw [if_neg (by simp [h1, h2])]
      · exact ⟨f, _, _, rfl, rfl, .inl rfl⟩
    obtain ⟨f', c', q', h1, h2, h3⟩ := step
    obtain ⟨r, h4, h5⟩ := fail_pk z k l (acc ++ [f']) c' q' hq2
    exact ⟨f' :: r, by rw [h1, h4]; simp, .cons h2 h3 h5⟩
theorem pk_names {l r : List F} (h : Pk l r) : r.map (·.name) = l.map (·.name) := by
  induction h with
  | nil => rfl
  | cons hn _ _ ih => simp [hn, ih]
theorem get_view (v : F → Option B) (n : B) {f : F} {l : List F} (hr : ∀ x ∈ l, f.name < x.name) : getP n (viewL v (f :: l)) = if f.name = n then v f else getP n (viewL v l) := by
  have hn : f.name = n → getP n (viewL v l) = none := fun e => getP_gt fun y hy => by
    obtain ⟨g, hg, h1, _⟩ := view_mem hy
    rw [← h1, ← e]
    exact hr g hg
  rw [view_cons]
  cases hv : v f with
  | none =>
    simp only [Option.map_none, Option.toList_none, List.nil_append]
    by_cases e : f.name = n
    · rw [if_pos e, hn e]
    · rw [if_neg e]
  | some s =>
    simp only [Option.map_some, Option.toList_some, List.cons_append, List.nil_append]
    rw [getP_cons]
theorem pk_get {l r : List F} (h : Pk l r) (hl : Ris l) : ∀ n, getP n (nowL r) = getP n (nowL l) ∨ getP n (nowL r) = getP n (sureL l) := by
  induction h with
  | nil => exact fun n => .inl rfl
  | @cons f f' l r hn hi h ih =>
    intro n
    obtain ⟨h1, h2⟩ := List.pairwise_cons.1 hl
    have h3 : ∀ x ∈ r, f'.name < x.name := fun x hx => by
      have h4 : x.name ∈ l.map (·.name) := by rw [← pk_names h]; exact List.mem_map.2 ⟨x, hx, rfl⟩
      obtain ⟨y, hy, e⟩ := List.mem_map.1 h4
      rw [hn, ← e]
      exact h1 y hy
    unfold nowL sureL at *
    rw [get_view _ n h3, get_view _ n h1, get_view _ n h1, hn]
    by_cases e : f.name = n
    · rw [if_pos e, if_pos e, if_pos e]; exact hi
    · rw [if_neg e, if_neg e, if_neg e]; exact ih h2 n
theorem pk_ris {l r : List F} (h : Pk l r) (hl : Ris l) : Ris r := by
  have e := pk_names h
  have h1 : (l.map (·.name)).Pairwise (· < ·) := List.pairwise_map.2 hl
  rw [← e] at h1
  exact List.pairwise_map.1 h1
/-- What a loss of power leaves where nothing can be torn. -/
theorem fail_qt (z k : Int) {l : List F} (hq : Qt l) (hl : Ris l) : ∃ P', settleL (failL z k l) = mk P' ∧ RisP P' ∧ ∀ n, getP n P' = getP n (nowL l) ∨ getP n P' = getP n (sureL l) := by
  obtain ⟨r, h1, h2⟩ := fail_pk z k l [] 0 0 hq
  refine ⟨nowL r, ?_, now_ris (pk_ris h2 hl), pk_get h2 hl⟩
  unfold failL fst_
  rw [h1, List.nil_append, settle_mk]
theorem swp_pm (f : FA) (room : Int) (P : PP) : ∀ (xs : List B) (l : List F) (ch : Nat), Okl okN l → Qt l → sureL l = P → (∀ n, getP n (nowL l) = none ∨ getP n (nowL l) = getP n P) → (ch : Int) ≤ f.at_ → (∀ x ∈ xs, okN x = true) →
    (∃ P' ch', swpN ⟨l, false, false, room, ch, some f⟩ xs = (dm P' room ch', 7) ∧ RisP P' ∧ ch' ≤ ch + xs.length ∧ ∀ n, getP n P' = getP n P ∨ (getP n P' = none ∧ (n ∈ xs ∨ getP n (nowL l) = none))) ∨
    (∃ l', swpN ⟨l, false, false, room, ch, some f⟩ xs = (⟨l', false, false, room, ch + xs.length, some f⟩, 0) ∧ RisP (nowL l') ∧ ((ch + xs.length : Nat) : Int) ≤ f.at_ ∧ ∀ n, getP n (nowL l') = if n ∈ xs then none else getP n (nowL l))
  | [], l, ch, hl, _, _, _, hc, _ => .inr ⟨l, rfl, now_ris hl.ris, by simpa using hc, fun n => by simp⟩
  | x :: r, l, ch, hl, hq, hs, hn, hc, hx => by
    by_cases hf : f.at_ = (ch : Int)
    · left
      obtain ⟨P', h1, h2, h3⟩ := fail_qt f.keep f.torn hq hl.ris
      have h4 : remN ⟨l, false, false, room, ch, some f⟩ x = (dm P' room ch, 7) := by
        unfold remN chgN hitN
        simp only [Bool.false_eq_true, if_false]
        rw [if_pos hf]
        show (({ (⟨l, false, false, room, ch, some f⟩ : DN) with dead := true, l := settleL (failL f.keep f.torn l), pl := none } : DN), 7) = _
        rw [h1]
        rfl
      refine ⟨P', ch, ?_, h2, by omega, fun n => ?_⟩
      · unfold swpN
        rw [h4, if_neg (by simp)]
      · rcases h3 n with h5 | h5
        · rcases hn n with h6 | h6
          · exact .inr ⟨h5.trans h6, .inr h6⟩
          · exact .inl (h5.trans h6)
        · rw [hs] at h5; exact .inl h5
    · have h1 : remN ⟨l, false, false, room, ch, some f⟩ x = (⟨lay x none 4 l, false, false, room, ch + 1, some f⟩, 0) := by
        unfold remN chgN hitN
        simp only [Bool.false_eq_true, if_false]
        rw [if_neg hf]
      have hxo := hx x (List.mem_cons_self ..)
      have hnow : ∀ n, getP n (nowL (lay x none 4 l)) = if n = x then none else getP n (nowL l) := fun n => by
        rw [lay_now x none 4 l hl.ris, getP_put]
      have e1 : swpN ⟨l, false, false, room, ch, some f⟩ (x :: r) = swpN ⟨lay x none 4 l, false, false, room, ch + 1, some f⟩ r := by
        conv => lhs; unfold swpN
        rw [h1, if_pos rfl]
      rw [e1]
      rcases swp_pm f room P r (lay x none 4 l) (ch + 1) (lay_ok hl hxo) (qt_rem hq hl.ris x) (by rw [lay_sure x none 4 l hl.ris, hs]) (fun n => by
        rw [hnow]
        split
        · exact .inl rfl
        · exact hn n) (by push_cast; omega) (fun y hy => hx y (List.mem_cons_of_mem _ hy)) with ⟨P', ch', k1, k2, k3, k4⟩ | ⟨l', k1, k2, k3, k4⟩
      · refine .inl ⟨P', ch', k1, k2, by simp only [List.length_cons]; omega, fun n => ?_⟩
        rcases k4 n with k5 | ⟨k5, k6⟩
        · exact .inl k5
        · refine .inr ⟨k5, ?_⟩
          rcases k6 with k6 | k6
          · exact .inl (List.mem_cons_of_mem _ k6)
          · rw [hnow] at k6
            by_cases e : n = x
            · exact .inl (e ▸ List.mem_cons_self ..)
            · rw [if_neg e] at k6; exact .inr k6
      · refine .inr ⟨l', ?_, k2, ?_, fun n => ?_⟩
        · rw [k1, List.length_cons, Nat.add_assoc, Nat.add_comm 1]
        · rw [List.length_cons]; omega
        · rw [k4, hnow]
          by_cases e1 : n = x
          · simp [e1]
          · simp [e1]
/-- A part of a disk. -/
theorem part_filter {P P' : PP} (h : RisP P) (h' : RisP P') (hn : ∀ n, getP n P' = getP n P ∨ getP n P' = none) : P' = P.filter fun x => (getP x.1 P').isSome := ext_P h' (h.filter _) fun n => by
  cases hq : getP n P' with
  | none =>
    cases hq2 : getP n (P.filter fun x => (getP x.1 P').isSome) with
    | none => rfl
    | some s =>
      have := (List.mem_filter.1 ((getP_mem (h.filter _)).1 hq2)).2
      simp only [hq] at this
      cases this
  | some s =>
    rcases hn n with h1 | h1
    · rw [hq] at h1
      exact ((getP_mem (h.filter _)).2 (List.mem_filter.2 ⟨(getP_mem h).1 h1.symm, by simp [hq]⟩)).symm
    · rw [hq] at h1; cases h1
/-- What a disk with a fall that is planned is behind a sweep: swept, or without power, with some of the others left. -/
theorem sweep_pm (g : Nat) {P : PP} (h : RisP P) (hP : ∀ x ∈ P, okN x.1 = true) (room : Int) (ch : Nat) (f : FA) (hf : (ch : Int) ≤ f.at_) :
    (∃ ch', ch' ≤ ch + P.length ∧ (ch' : Int) ≤ f.at_ ∧ sweepN g (pm P room ch f) = (pm (P.filter fun x => !othK g x.1) room ch' f, 0)) ∨
    (∃ P' ch', ch' ≤ ch + P.length ∧ sweepN g (pm P room ch f) = (dm P' room ch', 7) ∧ RisP P' ∧ ∀ n, getP n P' = getP n P ∨ (getP n P' = none ∧ othK g n = true)) := by
  have hnm : namesL (pm P room ch f).l = P.map (·.1) := names_mk P
  have hall : ∀ x ∈ othL g (pm P room ch f), okN x = true := fun x hx => by
    unfold othL at hx
    rw [hnm] at hx
    obtain ⟨h1, _⟩ := List.mem_filter.1 hx
    obtain ⟨y, h2, rfl⟩ := List.mem_map.1 h1
    exact hP y h2
  have hlen : (othL g (pm P room ch f)).length ≤ P.length := by
    unfold othL
    rw [hnm]
    exact Nat.le_trans (List.length_filter_le ..) (by simp)
  have hmem : ∀ n, n ∈ othL g (pm P room ch f) ↔ n ∈ P.map (·.1) ∧ othK g n = true := fun n => by
    unfold othL
    rw [hnm, List.mem_filter]
  by_cases h0 : othL g (pm P room ch f) = []
  · refine .inl ⟨ch, by omega, hf, ?_⟩
    have : P.filter (fun x => !othK g x.1) = P := List.filter_eq_self.2 fun x hx => by
      cases ho : othK g x.1 with
      | false => rfl
      | true =>
        have := (hmem x.1).2 ⟨List.mem_map.2 ⟨x, hx, rfl⟩, ho⟩
        rw [h0] at this
        cases this
    rw [this]
    unfold sweepN
    rw [if_pos h0]
  · have hsure : sureL (mk P) = P := by
      have := settle_sure (mk P)
      rw [settle_mk, now_mk] at this
      exact this
    rcases swp_pm f room P (othL g (pm P room ch f)) (mk P) ch (mk_ok h hP) (qt_mk P) hsure (fun n => by rw [now_mk]; exact .inr rfl) hf hall with ⟨P', ch', k1, k2, k3, k4⟩ | ⟨l', k1, k2, k3, k4⟩
    · refine .inr ⟨P', ch', by omega, ?_, k2, fun n => ?_⟩
      · unfold sweepN
        rw [if_neg h0]
        change (if (swpN ⟨mk P, false, false, room, ch, some f⟩ (othL g (pm P room ch f))).2 = 0 then synN (swpN ⟨mk P, false, false, room, ch, some f⟩ (othL g (pm P room ch f))).1 else swpN ⟨mk P, false, false, room, ch, some f⟩ (othL g (pm P room ch f))) = _
        rw [k1, if_neg (by simp)]
      · rcases k4 n with k5 | ⟨k5, k6⟩
        · exact .inl k5
        · rcases k6 with k6 | k6
          · exact .inr ⟨k5, ((hmem n).1 k6).2⟩
          · rw [now_mk] at k6; exact .inl (k5.trans k6.symm)
    · refine .inl ⟨ch + (othL g (pm P room ch f)).length, by omega, k3, ?_⟩
      have e : nowL l' = P.filter fun x => !othK g x.1 := ext_P k2 (h.filter _) fun n => by
        rw [k4, now_mk]
        cases hq : getP n P with
        | none =>
          rw [show getP n (P.filter fun x => !othK g x.1) = none from ?_]
          · simp
          · cases hq2 : getP n (P.filter fun x => !othK g x.1) with
            | none => rfl
            | some s =>
              have := (getP_mem (h.filter _)).1 hq2
              rw [(getP_mem h).2 (List.mem_filter.1 this).1] at hq
              cases hq
        | some s =>
          have hin := (getP_mem h).1 hq
          have hn : n ∈ P.map (·.1) := List.mem_map.2 ⟨_, hin, rfl⟩
          cases ho : othK g n with
          | true =>
            rw [if_pos ((hmem n).2 ⟨hn, ho⟩)]
            cases hq2 : getP n (P.filter fun x => !othK g x.1) with
            | none => rfl
            | some s2 =>
              have := (List.mem_filter.1 ((getP_mem (h.filter _)).1 hq2)).2
              simp [ho] at this
          | false =>
            rw [if_neg (fun hh => by rw [((hmem n).1 hh).2] at ho; cases ho)]
            exact ((getP_mem (h.filter _)).2 (List.mem_filter.2 ⟨hin, by simp [ho]⟩)).symm
      unfold sweepN
      rw [if_neg h0]
      change (if (swpN ⟨mk P, false, false, room, ch, some f⟩ (othL g (pm P room ch f))).2 = 0 then synN (swpN ⟨mk P, false, false, room, ch, some f⟩ (othL g (pm P room ch f))).1 else _) = _
      rw [k1, if_pos rfl, syn_pm, e]
end Go.Proofs.YtaiiojbakmminaaGreatDoor
namespace Go.Proofs.YtaiiojbakmminaaGreatDoor
open Go Go.RowKit
theorem iSlA : (Tryz.prog.info? 45).map (·.size) = some 1 := by kernel_rfl
theorem eqlNilA (w : World) : (binOp .eql 45 (.slice none 0 0) (.slice none 0 0)).run Tryz.prog w = .ok (.bool true) w := Lib.run_eql_slice_nil w 45 32 none 0 0 0 0 Tryz.underlying45
theorem eqlNilA1 (w : World) (b : Addr) (n c : Nat) : (binOp .eql 45 (.slice (some b) n c) (.slice none 0 0)).run Tryz.prog w = .ok (.bool false) w := Lib.run_eql_slice_nil w 45 32 (some b) n c 0 0 Tryz.underlying45
theorem infoFall : ∃ i, Tryz.prog.info? 32 = some i ∧ i.zero = some (.agg #[.int .i64 0, .int .i64 0, .int .i64 0]) ∧ i.size = 3 ∧ i.bytes ≤ 256 := by
  have h : (Tryz.prog.info? 32).map (fun i => (i.zero, i.size, decide (i.bytes ≤ 256))) = some (some (.agg #[.int .i64 0, .int .i64 0, .int .i64 0]), 3, true) := by kernel_rfl
  cases hq : Tryz.prog.info? 32 with
  | none => rw [hq] at h; cases h
  | some i => rw [hq] at h; simp at h; exact ⟨i, rfl, h.1, h.2.1, h.2.2⟩
theorem run_appendNewG {P : Program} {w : World} (st ty t : TypeId) (ba : Option Addr) (k : Nat) (l : List (List Value)) (g o c : Nat) (hall : ∀ x ∈ l, x.length = k) (hone : ∀ x ∈ l, ∀ u ∈ x, u.oneCell' = true) (hcell : ∀ (j : Nat) (v : Value), l.flatten[j]? = some v → w.cell? ⟨g, o + j, none⟩ = some v) (i : TypeInfo) (z : Value) (hz1 : z.cells.size = k)
    (hu : P.underlying st = some (.slice t)) (hi : P.info? t = some i) (hz : i.zero = some z) (hs : i.size = k) (hby : i.bytes ≤ 256) (h0 : 0 < l.length) (hlen : l.length ≤ 1000000) :
    ∃ (w1 : World) (cap1 : Nat), (Builtin.append_ #[st, st] ty #[.slice ba 0 0, .slice (some ⟨g, o, none⟩) l.length c]).run P w = .ok (.slice (some ⟨w.heap.size, 0, none⟩) l.length cap1) w1 ∧ Below w.heap.size w w1 ∧ GS w1 t k w.heap.size cap1 l := by
  have hfl := flat_len hall
  have hsrc : Src P i.size st (.slice (some ⟨g, o, none⟩) l.length c) l.length l.flatten w :=
    Src.ofSlice w hu ⟨g, o, none⟩ l.length c _ (by rw [hs, hfl]) (fun j u hj => by
      rw [Addr.add_mid]
      exact hcell j u hj) (fun u hu => by
        obtain ⟨x, hx, hux⟩ := List.mem_flatten.1 hu
        exact hone x hx u hux)
  have hold : (Builtin.firstCells i.size 0 (.slice ba 0 0)).run P w.drew = .ok ([] : List Value).toArray w.drew := by
    cases ba with
    | none => exact run_firstCells_none (w := w.drew) i.size 0 0 0
    | some b => exact run_firstCells_some w.drew i.size 0 b 0 0 [] (by simp) (fun j v hj => by simp at hj)
  have hr := run_append_grow_src (P := P) w st st ty t i _ hu hi hz ba 0 0 _ hold _ l.length _ hsrc (by omega) (by omega) (growslice_fits (by omega) (Nat.le_trans (Nat.mul_le_mul (show 0 + l.length ≤ 1000000 by omega) hby) (by decide)))
  have hge : 0 + l.length ≤ grownCap w (0 + l.length) 0 t := grownCap_ge w _ _ _
  refine ⟨_, _, by rw [Nat.zero_add] at hr; exact hr, (Below.refl _ w).drew.alloc (Nat.le_refl _) _, ?_⟩
  rw [Nat.zero_add] at hge
  refine ⟨_, heap_alloc_last w.drew _, hge, ?_, ?_⟩
  · simp only [Array.size_append, List.size_toArray, List.length_append, hfl, size_zeroCells, List.length_nil, hz1]
    have h9 : grownCap w l.length 0 t * k = l.length * k + (grownCap w l.length 0 t - l.length) * k := by
      rw [Nat.sub_mul]
      have := Nat.mul_le_mul_right k hge
      omega
    omega
  · intro j v hj
    have hjl := (List.getElem?_eq_some_iff.1 hj).1
    rw [Array.getElem?_append_left (by simpa using hjl)]
    simpa using hj
theorem bsl0A (w : World) : (Instr.buildSlice 45 0 #[]).run Tryz.prog w = .ok (.slice (some ⟨w.heap.size, 0, none⟩) 0 0) (w.alloc (.cells #[] 32)) := by
  simp [Instr.buildSlice, run_underlying Tryz.underlying45, sizeOf_run zFall.2, Sem.run_bind, Instr.fill, newRow, range0]
theorem run_bsl0A {op : Oper} {a : Act} {w : World} (ho : op.op = .buildSlice 45 0 #[]) : (execOp a.eval op).run Tryz.prog w = .ok (.value (.slice (some ⟨w.heap.size, 0, none⟩) 0 0)) (w.alloc (.cells #[] 32)) := by
  unfold execOp
  simp only [ho, Sem.run_bind, Array.map_empty, bsl0A, Result.andThen_ok]
  rfl
section
attribute [local go_sem] eqlNilA eqlNilA1
set_option maxRecDepth 100000 in
theorem sclA0 (w : World) : Calls Tryz.prog 51 #[.slice none 0 0] w fun e w' => e = .returned (.slice none 0 0) ∧ w' = w := by
  go_enter Tryz.func51, Tryz.ntmps51
  go_wp2_with fail
  go_ret
  exact ⟨rfl, rfl⟩
set_option maxRecDepth 100000 in
theorem sclA1 (f : FA) (g : Nat) (w : World) (hb : Blk w g (faA f) 32) : Calls Tryz.prog 51 #[.slice (some ⟨g, 0, none⟩) 1 1] w fun e w' => ∃ h c, e = .returned (.slice (some ⟨h, 0, none⟩) 1 c) ∧ Below w.heap.size w w' ∧ PlA w' (.slice (some ⟨h, 0, none⟩) 1 c) f := by
  obtain ⟨ii, hi, hz, hs, hby⟩ := infoFall
  have hA : Below w.heap.size w (w.alloc (.cells #[] 32)) := (Below.refl _ _).alloc (Nat.le_refl _) _
  have hb1 := hb.belowSize hA
  obtain ⟨w2, cap2, hr, hb2, hG⟩ := run_appendNewG (P := Tryz.prog) (w := w.alloc (.cells #[] 32)) 45 45 32 (some ⟨w.heap.size, 0, none⟩) 3 [faC f] g 0 1 (fun x hx => by rw [List.mem_singleton.1 hx]; rfl) (fun x hx u hu => by
    rw [List.mem_singleton.1 hx] at hu
    simp [faC] at hu
    rcases hu with rfl | rfl | rfl <;> rfl) (fun j v hj => by
    rw [Nat.zero_add, hb1.cell j]
    simpa [faA, faC] using hj) ii _ rfl Tryz.underlying45 hi hz hs hby (by simp) (by simp)
  have hPl : PlA w2 (.slice (some ⟨(w.alloc (.cells #[] 32)).heap.size, 0, none⟩) 1 cap2) f := by
    obtain ⟨cur, k1, k2, k3, k4⟩ := hG.out
    exact ⟨_, 0, cap2, cur, (0, 0), rfl, k2, k1, fun j u hj => by rw [Nat.zero_add]; exact k4 j u (by simpa using hj)⟩
  have hsz := hA.size
  generalize (w.alloc (.cells #[] 32)).heap.size = h2 at *
  go_enter Tryz.func51, Tryz.ntmps51
  go_wp2_with (with_reducible refine at_list ?_; first
    | (refine wpList_run (op := ⟨some 5, _, _, _, _, _⟩) rfl _ _ (run_bsl0A rfl) ?_)
    | (refine wpList_run (op := ⟨some 7, _, _, _, _, _⟩) rfl _ _ (wp_append _ _ _ _ rfl _ _ rfl rfl hr) ?_))
  go_ret
  exact ⟨_, _, rfl, hA.trans (hb2.mono hsz), hPl⟩
end
set_option maxRecDepth 100000 in
theorem insA (a : Option Addr) (n : Nat) (hn : n ≤ 1) (c : Nat) (x : Value) (w : World) : Calls Tryz.prog 105 #[.slice a n c, .int .i64 0, .int .i64 (n : Nat), x] w fun e w' => e = .returned (.tuple #[]) ∧ w' = w := by
  have h1 : ¬ (1 : Int) < (n : Int) := by omega
  go_enter Tryz.func105, Tryz.ntmps105
  go_wp2_with fail
  go_loopw [8] (fun v8 wl => v8 = .int .i64 1 ∧ wl = w) (fun _ _ => 0)
  case atStart => exact ⟨rfl, rfl⟩
  case round =>
    obtain ⟨rfl, hw⟩ := hrel
    have hw2 := hw.symm
    subst hw2
    go_wp2_with fail
    refine bodyPost_end (results_none rfl _ _ _) rfl ⟨rfl, rfl⟩
set_option maxRecDepth 100000 in
theorem stabA (a : Option Addr) (n : Nat) (hn : n ≤ 1) (c : Nat) (x : Value) (w : World) : Calls Tryz.prog 84 #[.slice a n c, .int .i64 (n : Nat), x] w fun e w' => e = .returned (.tuple #[]) ∧ w' = w := by
  have h1 : ¬ (20 : Int) ≤ (n : Int) := by omega
  have h2 : ¬ (20 : Int) < (n : Int) := by omega
  have HI := insA a n hn c x w
  go_enter Tryz.func84, Tryz.ntmps84
  go_wp2_with fail
  go_loopw [7, 8] (fun v7 v8 wl => v7 = .int .i64 0 ∧ v8 = .int .i64 20 ∧ wl = w) (fun _ _ _ => 0)
  case atStart => exact ⟨rfl, rfl, rfl⟩
  case round =>
    obtain ⟨rfl, rfl, hw⟩ := hrel
    have hw2 := hw.symm
    subst hw2
    go_wp2_with (go_at_call 105; refine HI.mono ?_; rintro e wx ⟨rfl, hwx⟩; have hwx2 := hwx.symm; subst hwx2; clear hwx)
    go_loopw [6, 7, 8, 9] (fun v6 _ _ _ wl => v6 = .int .i64 20 ∧ wl = w) (fun _ _ _ _ _ => 0)
    case atStart => exact ⟨rfl, rfl⟩
    case round =>
      obtain ⟨rfl, hw3⟩ := hrel
      have hw4 := hw3.symm
      subst hw4
      go_wp2_with fail
      refine bodyPost_end (results_none rfl _ _ _) rfl ⟨rfl, rfl⟩
set_option maxRecDepth 100000 in
theorem sortA (a : Option Addr) (n : Nat) (hn : n ≤ 1) (c : Nat) (x : Value) (w : World) : Calls Tryz.prog 52 #[.slice a n c, x] w fun e w' => e = .returned (.tuple #[]) ∧ w' = w := by
  have HS := stabA a n hn c x w
  go_enter Tryz.func52, Tryz.ntmps52
  go_wp2_with (go_at_call 84; refine HS.mono ?_; rintro e wx ⟨rfl, hwx⟩; have hwx2 := hwx.symm; subst hwx2; clear hwx)
  refine bodyPost_end (results_none rfl _ _ _) rfl ⟨rfl, rfl⟩
set_option maxRecDepth 100000 in
theorem plan_nil (p : Nat) (b : Option Nat) (m : DN) (w : World) (hD : DD w p b m) : Calls Tryz.prog 22 #[.pointer (some ⟨p, 0, none⟩), .slice none 0 0] w fun e w' => e = .returned (.tuple #[]) ∧ Chg w w' p b b ∧ DD w' p b { m with pl := none } := by
  obtain ⟨v, hK, _⟩ := hD.out
  obtain ⟨sl, hB, hF, hb⟩ := hK.out
  have HC := sclA0 w
  have HS := fun w1 => sortA none 0 (by omega) 0 (.func (.func 53) #[] #[]) w1
  go_enter Tryz.func22, Tryz.ntmps22
  go_wp2_with (first
    | (go_at_call 51; refine HC.mono ?_; rintro e wx ⟨rfl, hwx⟩; have hwx2 := hwx.symm; subst hwx2; clear hwx HC)
    | (go_at_call 52; refine (HS _).mono ?_; rintro e wx ⟨rfl, hwx⟩; have hwx2 := hwx.symm; subst hwx2; clear hwx)
    | (with_reducible refine at_list ?_; first
      | (refine wpList_storeCell (op := ⟨none, .store 45 (.tmp 10) (.tmp 8), _, _, _, _⟩) rfl _ _ _ rfl p 4 rfl (.slice none 0 0) rfl _ _ hB iSlA rfl rfl (by rw [dC_size]; decide) ?_; intro w1 hg1 hs1 hB1; clear hs1)
      | (refine wpList_loadCell (op := ⟨some 14, _, _, _, _, _⟩) rfl _ _ rfl p 4 rfl _ _ hB1 _ Tryz.underlying45 rfl _ rfl ?_)))
  rw [dC_s4] at hB1
  have hF1 := hF.grown hg1 (hF.ne hB (by decide))
  refine bodyPost_end (results_none rfl _ _ _) rfl ⟨rfl, Chg.own hg1, ⟨.slice none 0 0, ⟨sl, hB1, hF1, hb⟩, ⟨none, 0, rfl⟩⟩⟩
set_option maxRecDepth 100000 in
theorem plan_one (p g : Nat) (b : Option Nat) (m : DN) (f : FA) (w : World) (hD : DD w p b m) (hg : Blk w g (faA f) 32) : Calls Tryz.prog 22 #[.pointer (some ⟨p, 0, none⟩), .slice (some ⟨g, 0, none⟩) 1 1] w fun e w' => e = .returned (.tuple #[]) ∧ Chg w w' p b b ∧ DD w' p b { m with pl := some f } := by
  obtain ⟨v, hK, _⟩ := hD.out
  obtain ⟨sl, hB, hF, hb⟩ := hK.out
  have HC := sclA1 f g w hg
  have HS := fun a c w1 => sortA a 1 (by omega) c (.func (.func 53) #[] #[]) w1
  go_enter Tryz.func22, Tryz.ntmps22
  go_wp2_with (first
    | (go_at_call 51; refine HC.mono ?_; rintro e w1 ⟨h1, c1, rfl, hw1, hP1⟩; clear HC; have hB1 := hB.belowSize hw1)
    | (go_at_call 52; refine (HS _ _ _).mono ?_; rintro e wx ⟨rfl, hwx⟩; have hwx2 := hwx.symm; subst hwx2; clear hwx)
    | (with_reducible refine at_list ?_; first
      | (refine wpList_storeCell (op := ⟨none, .store 45 (.tmp 10) (.tmp 8), _, _, _, _⟩) rfl _ _ _ rfl p 4 rfl (.slice (some ⟨h1, 0, none⟩) 1 c1) rfl _ _ hB1 iSlA rfl rfl (by rw [dC_size]; decide) ?_; intro w2 hg2 hs2 hB2; clear hs2)
      | (refine wpList_loadCell (op := ⟨some 14, _, _, _, _, _⟩) rfl _ _ rfl p 4 rfl _ _ hB2 _ Tryz.underlying45 rfl _ rfl ?_)))
  rw [dC_s4] at hB2
  have hF1 := hF.below hw1
  have hF2 := hF1.grown hg2 (hF1.ne hB1 (by decide))
  have hP2 : PlA w2 (.slice (some ⟨h1, 0, none⟩) 1 c1) f := by
    obtain ⟨gg, o, cp, cur, fr, e1, e2, e3, e4⟩ := hP1.out
    refine ⟨gg, o, cp, cur, fr, e1, e2, (hg2.block gg (Array.getElem?_eq_some_iff.1 e3).1 (fun e => ?_)).trans e3, e4⟩
    have := Option.some.inj e
    subst this
    exact kind_ne e3 hB1.out (by decide) rfl
  refine bodyPost_end (results_none rfl _ _ _) rfl ⟨rfl, (Chg.below hw1).trans (Chg.own hg2), ⟨_, ⟨sl, hB2, hF2, hb⟩, hP2⟩⟩
end Go.Proofs.YtaiiojbakmminaaGreatDoor
