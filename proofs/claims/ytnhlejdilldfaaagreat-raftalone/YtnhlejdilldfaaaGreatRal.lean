/- A replica alone, plainly: it waits, it leads, it commits what it is proposed at once. -/
import Derived.Test.YtnhlejdilldfaaaGreatRpo
namespace Go.Proofs.YtnhlejdilldfaaaGreat
open Go Go.RowKit Go.Maps
/-- The number 0 takes part alone; nothing else is there. -/
structure Al (N : RN) (t v : Int) (L : List LE) (c role ld wt tk q : Int) : Prop where
  me : N.me = 0
  k : N.k = ⟨t, v, 0, 0, [], [0], L⟩
  role : N.role = role
  ld : N.leader = ld
  commit : N.commit = c
  draws : N.draws = []
  wait : N.wait = wt
  ticks : N.ticks = tk
  quiet : N.quiet = q
  next : ∀ x, N.next x = 0
  had : ∀ x, N.had x = 0
  ends : ∀ x, N.ends x = 0
  keys : N.keys.length ≤ 16
  plain : ∀ e ∈ L, e.conf = false ∧ e.mem = []
theorem ltM_none (base : List Int) (l : List LE) (h : ∀ e ∈ l, e.conf = false) : ∀ i, ltM base l i = (base, 0)
  | 0 => rfl
  | i + 1 => by
    by_cases hi : i < l.length
    · rw [ltM_no hi (h _ (List.getElem_mem hi))]
      exact ltM_none base l h i
    · show (if h : i < l.length then bif l[i].conf then (l[i].mem, i + 1) else ltM base l i else ltM base l i) = _
      rw [dif_neg hi]
      exact ltM_none base l h i
section
variable {N : RN} {t v : Int} {L : List LE} {c role ld wt tk q : Int}
theorem Al.mems (h : Al N t v L c role ld wt tk q) : N.mems = [0] := by
  unfold RN.mems RN.confOf
  rw [h.k]
  show (ltM [0] L L.length).1 = _
  rw [ltM_none _ _ (fun e he => (h.plain e he).1)]
theorem Al.last (h : Al N t v L c role ld wt tk q) : N.last = (L.length : Nat) := by
  unfold RN.last
  rw [h.k]
  exact Int.zero_add _
theorem Al.bnd (h : Al N t v L c role ld wt tk q) (ht : 0 ≤ t ∧ t ≤ 1000) (hL : L.length ≤ 1000) (hc : 0 ≤ c ∧ c ≤ (L.length : Nat)) : Bnd N where
  me := by rw [h.me]; omega
  term := by rw [h.k]; show 0 ≤ t ∧ t ≤ _; omega
  bi := by rw [h.k]; exact Int.le_refl _
  last := by rw [h.k]; show (0 : Int) + (L.length : Nat) ≤ _; omega
  bt := by rw [h.k]; show -9223372036854775808 ≤ (0 : Int) ∧ (0 : Int) ≤ _; omega
  base := by rw [h.k]; exact Nat.zero_le _
  bconf := by rw [h.k]; show 1 ≤ _; omega
  log := by rw [h.k]; show L.length ≤ _; omega
  keys := h.keys
  commit := by rw [h.commit, h.last, h.k]; exact hc
  next := fun x => by rw [h.next]; omega
  had := fun x => by rw [h.had]; omega
  ends := fun x => by rw [h.ends]; omega
theorem Al.gm (h : Al N t v L c role ld wt tk q) : Gm N where
  base := by
    rw [h.k]
    refine ⟨by show 1 ≤ 16; omega, fun x hx => ?_⟩
    have hx : x ∈ [(0 : Int)] := hx
    rw [List.mem_singleton] at hx
    omega
  log := fun e he => by
    rw [h.k] at he
    rw [(h.plain e he).2]
    exact ⟨Nat.zero_le _, fun _ hx => by cases hx⟩
theorem Al.room (h : Al N t v L c role ld wt tk q) (ht : 0 ≤ t ∧ t ≤ 1000) (hL : L.length ≤ 1000) (htk : 0 ≤ tk ∧ tk ≤ 1000) (hq : 0 ≤ q ∧ q ≤ 1000) : Room N where
  term := by rw [h.k]; show t + 1 ≤ _; omega
  last := by rw [h.last]; omega
  log := by rw [h.k]; show L.length + 1 ≤ _; omega
  ticks := by rw [h.ticks]; omega
  quiet := by rw [h.quiet]; omega
theorem Al.none (h : Al N t v L c role ld wt tk q) {x : Int} (hx : x ∈ N.mems) (hne : x ≠ N.me) : False := by
  rw [h.mems, List.mem_singleton] at hx
  exact hne (hx.trans h.me.symm)
theorem Al.nxt (h : Al N t v L c role ld wt tk q) : Nxt N := fun _ hx hne => (h.none hx hne).elim
theorem Al.ldi (h : Al N t v L c role ld wt tk q) : LdI N where
  next := fun x _ => by rw [h.next, h.last]; omega
  had := fun x _ => by rw [h.had, h.last]; omega
  ne := by rw [h.mems]; exact List.cons_ne_nil _ _
  one := fun _ hx hne => (h.none hx hne).elim
theorem Al.others (h : Al N t v L c role ld wt tk q) (f : Int → MSG) : N.others f = [] := by
  unfold RN.others
  rw [h.mems, h.me]
  rfl
theorem Al.most (h : Al N t v L c role ld wt tk q) : N.mostHave = (L.length : Nat) := by
  have h1 : N.hadBy 0 = (L.length : Nat) := by unfold RN.hadBy; rw [h.me, if_pos rfl, h.last]
  unfold RN.mostHave
  rw [h.mems]
  simp only [List.map_cons, List.map_nil, List.mergeSort_singleton]
  simp [h1]
theorem Al.push (h : Al N t v L c role ld wt tk q) (e : LE) (he : e.conf = false ∧ e.mem = []) : Al (N.push e) t v (L ++ [e]) c role ld wt tk q :=
  { h with
    me := h.me
    k := by show ({ N.k with log := N.k.log ++ [e] } : HD) = _; rw [h.k]
    plain := fun x hx => by
      rcases List.mem_append.1 hx with hx | hx
      · exact h.plain x hx
      · rw [List.mem_singleton] at hx; rw [hx]; exact he }
theorem Al.meet (h : Al N t v L c role ld wt tk q) : Al N.meet t v L c role ld wt tk q :=
  { h with
    next := fun x => by
      obtain ⟨y, hy, e1⟩ := meet_nx N x
      rw [e1, if_neg (fun ⟨a, _, b⟩ => h.none a b)]
      rcases hy with hy | hy
      · exact hy
      · exact hy.trans (h.next x)
    had := fun x => by
      rcases meet_hd N x with e | e
      · exact e
      · exact e.trans (h.had x)
    ends := fun x => by
      by_cases hg : (decide (0 ≤ x ∧ x < 16) && decide (x ∉ N.mems)) = true
      · unfold RN.meet
        dsimp only
        rw [if_pos hg]
      · unfold RN.meet
        dsimp only
        rw [if_neg hg]
        exact h.ends x }
theorem Al.settle (h : Al N t v L c role ld wt tk q) (hc : c < (L.length : Nat)) (ht : N.termAt (L.length : Nat) = t) : Al N.settle t v L (L.length : Nat) role ld wt tk q := by
  have hs : N.settleAt (N.mostHave - N.commit).toNat N.mostHave = (L.length : Nat) := by
    rw [h.most, h.commit]
    obtain ⟨n, hn⟩ : ∃ n, ((L.length : Nat) - c : Int).toNat = n + 1 := ⟨((L.length : Nat) - c : Int).toNat - 1, by omega⟩
    rw [hn]
    unfold RN.settleAt
    rw [if_pos (by rw [h.commit]; omega), if_pos (by rw [ht, h.k])]
  unfold RN.settle
  dsimp only
  rw [hs, if_neg]
  · exact { h with commit := rfl }
  · intro hh
    apply hh.2
    have : ({ N with commit := (L.length : Nat) } : RN).mems = N.mems := rfl
    rw [this, h.mems]
    show N.me ∈ [(0 : Int)]
    rw [h.me]
    exact List.mem_singleton.2 rfl
theorem Al.add (h : Al N t v L c role ld wt tk q) (e : LE) (he : e.conf = false ∧ e.mem = []) (ht : e.term = t) (hc : 0 ≤ c ∧ c ≤ (L.length : Nat)) : Al (N.add e) t v (L ++ [e]) (((L ++ [e]).length : Nat) : Int) role ld wt tk q ∧ N.addMsgs e = [] := by
  have h1 := (h.push e he).meet
  have hl : (L ++ [e]).length = L.length + 1 := by simp
  have h2 := h1.settle (by rw [hl]; omega) (by
    unfold RN.termAt RN.entry
    rw [h1.k]
    rw [if_neg (by show ¬ (((L ++ [e]).length : Nat) : Int) = 0; rw [hl]; omega)]
    show ((L ++ [e]).getD (((L ++ [e]).length : Nat) - 0 - 1 : Int).toNat RN.zle).term = t
    rw [show (((L ++ [e]).length : Nat) - 0 - 1 : Int).toNat = L.length by rw [hl]; omega]
    simp [List.getD, ht])
  exact ⟨h2, h2.others _⟩
theorem Al.text (h : Al N t v L c role ld wt tk q) (s : List UInt8) : N.text s = ⟨t, s, false, []⟩ := by
  unfold RN.text
  rw [h.k]
theorem Al.ticked (h : Al N t v L c role ld wt tk q) : Al N.ticked t v L c role ld wt (tk + 1) (q + 1) :=
  { h with ticks := by show N.ticks + 1 = _; rw [h.ticks], quiet := by show N.quiet + 1 = _; rw [h.quiet] }
theorem Al.tick_wait (h : Al N t v L c role ld wt tk q) (h3 : role ≠ 3) (hl : tk + 1 < wt) : Al N.tick.1 t v L c role ld wt (tk + 1) (q + 1) ∧ N.tick.2 = [] := by
  unfold RN.tick
  dsimp only
  rw [if_neg (by rw [h.ticked.role]; exact h3), if_pos (by rw [h.ticked.ticks, h.ticked.wait]; exact hl)]
  exact ⟨h.ticked, rfl⟩
theorem Al.tick_lead (h : Al N t v L c 3 ld wt tk q) : Al N.tick.1 t v L c 3 ld wt (if tk + 1 < 3 then tk + 1 else 0) (q + 1) ∧ N.tick.2 = [] := by
  have h1 := h.ticked
  unfold RN.tick
  dsimp only
  rw [if_pos h1.role]
  unfold RN.speak
  by_cases hl : tk + 1 < 3
  · rw [if_pos (by rw [h1.ticks]; exact hl), if_pos hl]
    exact ⟨h1, rfl⟩
  · rw [if_neg (by rw [h1.ticks]; exact hl), if_neg hl]
    exact ⟨{ h1 with ticks := rfl }, h1.others _⟩
theorem Al.stands (h : Al N t v L c role ld wt tk q) (hc : 0 ≤ c ∧ c ≤ (L.length : Nat)) : Al N.stand.1 (t + 1) 0 (L ++ [⟨t + 1, [], false, []⟩]) ((L.length : Nat) + 1 : Int) 3 0 (10 + (3 * (t + 1)) % 20) 0 q ∧ N.stand.2 = [] := by
  have hms : N.mayStand = true := by
    unfold RN.mayStand
    rw [h.mems, h.me]
    rfl
  have e1 : N.stand = N.cand.count N.me := by unfold RN.stand; rw [hms]; rfl
  have hcd : Al N.cand (t + 1) 0 L c 2 (-1) (10 + (3 * (t + 1)) % 20) 0 q := by
    refine { h with k := ?_, role := rfl, ld := rfl, commit := h.commit, draws := ?_, wait := ?_, ticks := rfl, me := h.me, quiet := h.quiet, next := h.next, had := h.had, ends := h.ends, keys := h.keys }
    · show ({ N.k with term := N.k.term + 1, vote := N.me } : HD) = _
      rw [h.k, h.me]
    · show N.draws.tail = []
      rw [h.draws]
      rfl
    · have : ∀ N2 : RN, N2.draws = [] → N2.drawV = (7 * N2.me + 3 * N2.k.term) % 20 := fun N2 e => by unfold RN.drawV; rw [e]
      show 10 + RN.drawV { N with k := { N.k with term := N.k.term + 1, vote := N.me }, role := 2, leader := -1 } = _
      refine (congrArg (10 + ·) (this { N with k := { N.k with term := N.k.term + 1, vote := N.me }, role := 2, leader := -1 } h.draws)).trans ?_
      show 10 + (7 * N.me + 3 * (N.k.term + 1)) % 20 = _
      rw [h.me, h.k]
      show 10 + (7 * 0 + 3 * (t + 1)) % 20 = 10 + (3 * (t + 1)) % 20
      rw [Int.mul_zero, Int.zero_add]
  have hvo : Al (N.cand.voted N.me) (t + 1) 0 L c 2 (-1) (10 + (3 * (t + 1)) % 20) 0 q := { hcd with }
  have hwon : (N.cand.voted N.me).won = true := by
    unfold RN.won
    rw [hvo.mems]
    have : (N.cand.voted N.me).votes 0 = true := by
      show (if (0 : Int) = N.me then true else _) = true
      rw [h.me]
      rfl
    simp [this]
  have e2 : N.cand.count N.me = (N.cand.voted N.me).lead := by
    unfold RN.count
    dsimp only
    rw [hwon]
    rfl
  rw [e1, e2]
  have hnl : Al (N.cand.voted N.me).newLead (t + 1) 0 L c 3 0 (10 + (3 * (t + 1)) % 20) 0 q := { hvo with role := rfl, ld := hvo.me, ticks := rfl, next := fun _ => rfl, had := fun _ => rfl, ends := fun _ => rfl, keys := by show (N.cand.voted N.me).mems.length ≤ 16; rw [hvo.mems]; show 1 ≤ 16; omega }
  have hno : (N.cand.voted N.me).noop = ⟨t + 1, [], false, []⟩ := by
    unfold RN.noop
    rw [hvo.k]
  have := hnl.add ⟨t + 1, [], false, []⟩ ⟨rfl, rfl⟩ rfl hc
  unfold RN.lead
  rw [hno]
  rw [show (((L ++ [(⟨t + 1, [], false, []⟩ : LE)]).length : Nat) : Int) = (L.length : Nat) + 1 by simp] at this
  exact this
theorem Al.tick_win (h : Al N t v L c role ld wt tk q) (h3 : role ≠ 3) (hl : ¬ tk + 1 < wt) (hc : 0 ≤ c ∧ c ≤ (L.length : Nat)) : Al N.tick.1 (t + 1) 0 (L ++ [⟨t + 1, [], false, []⟩]) ((L.length : Nat) + 1 : Int) 3 0 (10 + (3 * (t + 1)) % 20) 0 (q + 1) ∧ N.tick.2 = [] := by
  have h1 := h.ticked
  unfold RN.tick
  dsimp only
  rw [if_neg (by rw [h1.role]; exact h3), if_neg (by rw [h1.ticks, h1.wait]; exact hl)]
  exact h1.stands hc
/-- So far it has come behind so many ticks: it waits, or it leads. -/
def Run (N : RN) (t v : Int) (L : List LE) (c : Int) (i : Nat) : Prop :=
  ((i : Int) < 10 + (3 * t) % 20 ∧ Al N t v L c 1 (-1) (10 + (3 * t) % 20) i i) ∨
  (10 + (3 * t) % 20 ≤ (i : Int) ∧ ∃ tk, 0 ≤ tk ∧ tk ≤ 2 ∧ Al N (t + 1) 0 (L ++ [⟨t + 1, [], false, []⟩]) ((L.length : Nat) + 1 : Int) 3 0 (10 + (3 * (t + 1)) % 20) tk i)
theorem Run.zero (t v : Int) (L : List LE) (hL : ∀ e ∈ L, e.conf = false ∧ e.mem = []) : Run (RN.made 0 ⟨t, v, 0, 0, [], [0], L⟩ []) t v L 0 0 := by
  refine .inl ⟨by omega, ?_⟩
  refine ⟨rfl, rfl, rfl, rfl, rfl, rfl, ?_, rfl, rfl, fun _ => rfl, fun _ => rfl, fun _ => rfl, Nat.zero_le _, hL⟩
  show 10 + (7 * 0 + 3 * t) % 20 = 10 + (3 * t) % 20
  rw [Int.mul_zero, Int.zero_add]
theorem Run.tick {i : Nat} (h : Run N t v L c i) (hc : 0 ≤ c ∧ c ≤ (L.length : Nat)) : Run N.tick.1 t v L c (i + 1) ∧ N.tick.2 = [] := by
  have hi : ((i + 1 : Nat) : Int) = (i : Int) + 1 := by omega
  rcases h with ⟨h1, h2⟩ | ⟨h1, tk, h2, h3, h4⟩
  · by_cases hl : (i : Int) + 1 < 10 + (3 * t) % 20
    · have := h2.tick_wait (by decide) hl
      refine ⟨.inl ⟨by rw [hi]; exact hl, ?_⟩, this.2⟩
      rw [hi]
      exact this.1
    · have := h2.tick_win (by decide) hl hc
      refine ⟨.inr ⟨by rw [hi]; omega, 0, by omega, by omega, ?_⟩, this.2⟩
      rw [hi]
      exact this.1
  · have := h4.tick_lead
    refine ⟨.inr ⟨by omega, _, ?_, ?_, by rw [hi]; exact this.1⟩, this.2⟩
    · split <;> omega
    · split <;> omega
theorem Run.good {i : Nat} (h : Run N t v L c i) (hi : i ≤ 100) (ht : 0 ≤ t ∧ t ≤ 900) (hL : L.length ≤ 900) (hc : 0 ≤ c ∧ c ≤ (L.length : Nat)) : Bnd N ∧ Gm N ∧ Nxt N ∧ Room N ∧ Room N.ticked := by
  rcases h with ⟨h1, h2⟩ | ⟨h1, tk, h2, h3, h4⟩
  · exact ⟨h2.bnd (by omega) (by omega) hc, h2.gm, h2.nxt, h2.room (by omega) (by omega) (by omega) (by omega), h2.ticked.room (by omega) (by omega) (by omega) (by omega)⟩
  · have hl : (L ++ [(⟨t + 1, [], false, []⟩ : LE)]).length = L.length + 1 := by simp
    exact ⟨h4.bnd (by omega) (by omega) (by omega), h4.gm, h4.nxt, h4.room (by omega) (by omega) (by omega) (by omega), h4.ticked.room (by omega) (by omega) (by omega) (by omega)⟩
theorem Run.leads {i : Nat} (h : Run N t v L c i) (hi : 29 ≤ i) : ∃ tk, 0 ≤ tk ∧ tk ≤ 2 ∧ Al N (t + 1) 0 (L ++ [⟨t + 1, [], false, []⟩]) ((L.length : Nat) + 1 : Int) 3 0 (10 + (3 * (t + 1)) % 20) tk i := by
  rcases h with ⟨h1, h2⟩ | ⟨h1, h2⟩
  · omega
  · exact h2
end
end Go.Proofs.YtnhlejdilldfaaaGreat
