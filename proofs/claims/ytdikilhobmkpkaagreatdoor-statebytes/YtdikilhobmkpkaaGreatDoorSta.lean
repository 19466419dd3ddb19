/- A state's memory; what New, textsOf, Value, Get, KeyOf, NonceOf, Len do. -/
import Derived.Test.YtdikilhobmkpkaaGreatDoorMdl
import Derived.Test.YtdikilhobmkpkaaGreatDoorWrb
namespace Go.Proofs.YtdikilhobmkpkaaGreatDoor
open Go Go.RowKit Go.Maps
theorem K9 : Keyed Tryz.prog 9 := string_keyed Tryz.underlying9
theorem zHeld : (∀ w, (zeroValue 65).run Tryz.prog w = .ok (.agg #[.string ⟨#[]⟩]) w) ∧ (Tryz.prog.info? 65).map (·.size) = some 1 := zero_of_info (by kernel_rfl)
theorem key9 {s : List UInt8} (h : s.length ≤ maxLen) : keyOf Tryz.prog 9 (.string ⟨s.toArray⟩) = some (.string s) := by
  have hs : (ByteArray.mk s.toArray).size ≤ maxLen := by show s.toArray.size ≤ _; simpa using h
  simp [keyOf, mapKey, Tryz.underlying9, hs]
/-- Block mb is a map that has the texts m. -/
abbrev MB (w : World) (mb : Nat) (m : List KV) : Prop := MP Tryz.prog 9 w mb m
section
variable {ops : Array Oper} {rest : List Oper} {o : Oper} {a : Act} {w : World} {Q : Exit → Act → World → Prop}
theorem wpList_lookM (hg : o.guard = none) (x y : Operand) (hop : o.op = Op.lookup 55 x y true) (b : Nat) (m : List KV) (hx : a.eval x = .map (some b)) (hown : MB w b m) (s : List UInt8) (hy : a.eval y = .string ⟨s.toArray⟩) (hs : s.length ≤ maxLen)
    (h : wpList Tryz.prog ops Q rest (a.put o.dst (.tuple #[hv ((getM m s).getD []), .bool (getM m s).isSome])) w) : wpList Tryz.prog ops Q (o :: rest) a w := by
  refine wpList_lookup_own_ok w hg x y _ hop 9 65 K9 Tryz.underlying55 hld (zHeld.1 _) (.lit (.string [])) [] (hld_mk (v := []) (by simp)) b _ (dm m) hx hown _ (.string s) hy (key9 hs) ?_
  intro v ps hv1
  obtain ⟨u, rfl, e, _⟩ := hld_inv hv1
  rw [dm_at] at e
  rw [dm_has]
  simp only [Prod.mk.injEq, DataW.lit.injEq, Lit.string.injEq] at e
  rw [← e.1]
  exact h
theorem wpList_lookN (hg : o.guard = none) (x y : Operand) (hop : o.op = Op.lookup 55 x y true) (hx : a.eval x = .map none) (s : List UInt8) (hy : a.eval y = .string ⟨s.toArray⟩) (hs : s.length ≤ maxLen)
    (h : wpList Tryz.prog ops Q rest (a.put o.dst (.tuple #[hv [], .bool false])) w) : wpList Tryz.prog ops Q (o :: rest) a w := by
  refine wpList_run hg _ w ?_ h
  have hr := Maps.look_nil (P := Tryz.prog) (w := w) (t := 55) true K9 Tryz.underlying55 (zHeld.1 w) (key9 hs)
  simp only [execOp, hop, hx, hy, Sem.run_bind, hr, Result.andThen]
  rfl
theorem wpList_lenM (hg : o.guard = none) (x : Operand) (hop : o.op = Op.call { callee := .builtin .len, args := #[x], argTypes := #[55] }) (b : Nat) (m : List KV) (hx : a.eval x = .map (some b)) (hown : MB w b m)
    (h : wpList Tryz.prog ops Q rest (a.put o.dst (.int .i64 (m.length : Nat))) w) : wpList Tryz.prog ops Q (o :: rest) a w := by
  refine wpList_len_own w hg x _ hop 9 65 Tryz.underlying55 hld b _ (dm m) hx hown ?_
  rw [dm_size]
  exact h
theorem wpList_lenN (hg : o.guard = none) (x : Operand) (hop : o.op = Op.call { callee := .builtin .len, args := #[x], argTypes := #[55] }) (hx : a.eval x = .map none)
    (h : wpList Tryz.prog ops Q rest (a.put o.dst (.int .i64 0)) w) : wpList Tryz.prog ops Q (o :: rest) a w := by
  refine wpList_run hg _ w ?_ h
  have hr := Maps.len_nil (P := Tryz.prog) (w := w) (t := 55) (k := 9) Tryz.underlying55 o.type
  simp only [execOp, hop, resolve, invoke, builtin, Sem.run_bind, Sem.run_pure, Result.andThen, List.map_toArray, List.map_cons, List.map_nil, hx, hr]
theorem wpList_putM (hg : o.guard = none) (x y z : Operand) (hop : o.op = Op.mapUpdate 55 x y z) (b : Nat) (m : List KV) (hx : a.eval x = .map (some b)) (hown : MB w b m) (hn : m.length < maxLen) (s v : List UInt8) (hy : a.eval y = .string ⟨s.toArray⟩) (hs : s.length ≤ maxLen)
    (hz : a.eval z = hv v) (hv1 : v.length ≤ maxLen)
    (h : ∀ w', MB w' b (putM s v m) → w.grownBy w' (some b) → wpList Tryz.prog ops Q rest (a.put o.dst undef) w') : wpList Tryz.prog ops Q (o :: rest) a w := by
  refine wpList_mapUpdate_in w hg x y z _ hop 9 65 K9 Tryz.underlying55 hld b _ (dm m) hx hown hn _ _ (.string s) hy hz (key9 hs) _ [] (hld_mk hv1) ?_
  intro w' h1 h2
  rw [dm_put] at h1
  exact h w' (MP.of h1 rfl) h2.grown
theorem wpList_delM (hg : o.guard = none) (x y : Operand) (hop : o.op = Op.call { callee := .builtin .delete, args := #[x, y], argTypes := #[55, 9] }) (b : Nat) (m : List KV) (hx : a.eval x = .map (some b)) (hown : MB w b m) (s : List UInt8) (hy : a.eval y = .string ⟨s.toArray⟩) (hs : s.length ≤ maxLen)
    (h : ∀ w', MB w' b (delM s m) → w.grownBy w' (some b) → wpList Tryz.prog ops Q rest (a.put o.dst (.tuple #[])) w') : wpList Tryz.prog ops Q (o :: rest) a w := by
  refine wpList_delete_own w hg x y _ 9 hop 65 K9 Tryz.underlying55 hld b _ (dm m) hx hown _ (.string s) hy (key9 hs) ?_
  intro w' h1 h2
  rw [dm_del] at h1
  exact h w' (MP.of h1 rfl) h2.grown
end
/-- Block b is a state that has the texts m. -/
structure ST (w : World) (b : Nat) (m : List KV) : Prop where
  out : ∃ mb, Blk w b #[.map (some mb)] 57 ∧ MB w mb m
theorem ST.lt {w : World} {b : Nat} {m : List KV} (h : ST w b m) : b < w.heap.size := by
  obtain ⟨mb, h1, _⟩ := h.out
  exact h1.lt
theorem ST.below {w w' : World} {b : Nat} {m : List KV} (h : ST w b m) (hb : Below w.heap.size w w') : ST w' b m := by
  obtain ⟨mb, h1, h2⟩ := h.out
  exact ⟨mb, h1.belowSize hb, h2.below hb⟩
theorem ST.kept {w w' : World} {b b' : Nat} {c : Array Value} {t : TypeId} {m : List KV} (h : ST w b m) (hb : w.grownBy w' (some b')) (hc : Blk w b' c t) (hne : b ≠ b') : ST w' b m := by
  obtain ⟨mb, h1, h2⟩ := h.out
  refine ⟨mb, h1.grown hb (fun e => hne (Option.some.inj e)), h2.kept hb (fun e => ?_)⟩
  have e := Option.some.inj e
  subst e
  obtain ⟨es, clock, h3, _⟩ := h2
  rw [hc.out] at h3
  cases h3
theorem ST.ris {w : World} {b : Nat} {m : List KV} (h : ST w b m) : Ris m := by
  obtain ⟨mb, _, h2⟩ := h.out
  exact h2.ris K9
theorem ST.max {w : World} {b : Nat} {m : List KV} (h : ST w b m) : ∀ p ∈ m, p.1.length ≤ maxLen ∧ p.2.length ≤ maxLen := by
  obtain ⟨mb, _, h2⟩ := h.out
  exact h2.max Tryz.underlying9
set_option maxRecDepth 100000 in
theorem new_any (w : World) : Calls Tryz.prog 5 #[] w fun e w' => e = .returned (.pointer (some ⟨w.heap.size + 1, 0, none⟩)) ∧ Below w.heap.size w w' ∧ ST w' (w.heap.size + 1) [] ∧ w'.heap.size = w.heap.size + 2 := by
  have hmm := @run_makeMap Tryz.prog
  go_enter Tryz.func5, Tryz.ntmps5
  go_wp2
  go_ret
  refine ⟨rfl, ((Below.refl _ w).alloc (Nat.le_refl _) _).alloc (by simp) _, ⟨w.heap.size, ?_, ?_⟩, by simp⟩
  · have := Blk.new (w.alloc (.map #[] 0)) #[.map (some w.heap.size)] 57
    simpa using this
  · exact MP.of (World.ownsMap.alloc (World.ownsMap_made w Tryz.prog 9 hld) _) rfl
theorem texts_any (b mb : Nat) (w : World) (h : Blk w b #[.map (some mb)] 57) : Calls Tryz.prog 46 #[.pointer (some ⟨b, 0, none⟩)] w fun e w' => e = .returned (.map (some mb)) ∧ w' = w := by
  have c0 := (h.cell 0).trans rfl
  go_enter Tryz.func46, Tryz.ntmps46
  go_wp2
  go_ret
  exact ⟨rfl, rfl⟩
theorem texts_nil (w : World) : Calls Tryz.prog 46 #[.pointer none] w fun e w' => e = .returned (.map none) ∧ w' = w := by
  go_enter Tryz.func46, Tryz.ntmps46
  go_wp2
  go_ret
  exact ⟨rfl, rfl⟩
end Go.Proofs.YtdikilhobmkpkaaGreatDoor
