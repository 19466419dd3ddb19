/- Apply, plainly. -/
import Derived.Test.YtdikilhobmkpkaaGreatDoorStd
import Derived.Test.YtdikilhobmkpkaaGreatDoorIdt
import Derived.Sort.OwnSorted
import Derived.Lib.SlicesCompact
namespace Go.Proofs.YtdikilhobmkpkaaGreatDoor
open Go Go.RowKit Go.Maps
theorem insM_length (x : KV) : ∀ m : List KV, (insM x m).length = m.length + 1
  | [] => rfl
  | y :: r => by
    unfold insM
    split
    · simp
    · simp [insM_length x r]
theorem delM_length (k : List UInt8) (m : List KV) : (delM k m).length ≤ m.length := List.length_filter_le _ _
theorem putM_length (k v : List UInt8) (m : List KV) : (putM k v m).length ≤ m.length + 1 := by
  unfold putM
  rw [insM_length]
  have := delM_length k m
  omega
theorem doM_length (m : List KV) (o : O) : (doM m o).length ≤ m.length + 1 := by
  unfold doM
  split
  · exact putM_length _ _ _
  · split
    · have := delM_length (kOf o.key) m
      omega
    · omega
def stepM (mm : List KV) (o : O) : Option (List KV) := if agM mm o = true then some (doM mm o) else none
/-- What the operations do, one behind the other; none where a check falls. -/
def runM (m : List KV) (l : List O) : Option (List KV) := l.foldl (fun acc o => acc.bind fun mm => stepM mm o) (some m)
theorem foldl_none (l : List O) : l.foldl (fun (acc : Option (List KV)) o => acc.bind fun mm => stepM mm o) none = none := by
  induction l with
  | nil => rfl
  | cons o r ih => exact ih
theorem runM_snoc (m : List KV) (l : List O) (o : O) : runM m (l ++ [o]) = (runM m l).bind fun mm => stepM mm o := by
  unfold runM
  rw [List.foldl_append]
  rfl
theorem runM_cut {m : List KV} {l : List O} {i : Nat} (h : runM m (l.take i) = none) : runM m l = none := by
  rw [← List.take_append_drop i l]
  unfold runM at h ⊢
  rw [List.foldl_append, h, foldl_none]
/-- The texts that were touched, as they come. -/
def txs (c : Nat) (l : List O) : List (List UInt8) := nOf c :: (l.filter tch).map fun o => kOf o.key
theorem txs_snoc (c : Nat) (l : List O) (o : O) : txs c (l ++ [o]) = txs c l ++ (bif tch o then [kOf o.key] else []) := by
  unfold txs
  rw [List.filter_append, List.map_append]
  cases h : tch o <;> simp [h]
theorem txs_len (c : Nat) (l : List O) : (txs c l).length ≤ l.length + 1 := by
  unfold txs
  have := List.length_filter_le tch l
  simp
  omega
/-- The state behind the last operation, with the client's text. -/
def endM (t : TX) (mm : List KV) : List KV := putM (nOf t.client) (lastB t.nonce (idB t)) mm
/-- The error that Apply tells. -/
def apE (m : List KV) (t : TX) : Int :=
  if okTx t = true then
    if t.nonce - 1 = lastM m t.client then
      match runM m t.ops with
      | none => 51
      | some mm => if 1024 < (endM t mm).length then 52 else 0
    else 50
  else 40
/-- The state that Apply leaves. -/
def apM (m : List KV) (t : TX) : List KV := if apE m t = 0 then match runM m t.ops with | none => m | some mm => endM t mm else m
/-- How many texts Apply tells. -/
def apL (m : List KV) (t : TX) : Nat := if apE m t = 0 then (Lib.compact ((txs t.client t.ops).mergeSort fun x y => decide (x ≤ y))).length else 0
theorem apE_not {m : List KV} {t : TX} (h : ¬ okTx t = true) : apE m t = 40 := if_neg h
theorem apE_nonce {m : List KV} {t : TX} (h : okTx t = true) (h1 : ¬ t.nonce - 1 = lastM m t.client) : apE m t = 50 := by unfold apE; rw [if_pos h, if_neg h1]
theorem apE_check {m : List KV} {t : TX} (h : okTx t = true) (h1 : t.nonce - 1 = lastM m t.client) (h2 : runM m t.ops = none) : apE m t = 51 := by unfold apE; rw [if_pos h, if_pos h1, h2]
theorem apE_room {m mm : List KV} {t : TX} (h : okTx t = true) (h1 : t.nonce - 1 = lastM m t.client) (h2 : runM m t.ops = some mm) (h3 : 1024 < (endM t mm).length) : apE m t = 52 := by
  unfold apE; rw [if_pos h, if_pos h1, h2]; exact if_pos h3
theorem apE_ok {m mm : List KV} {t : TX} (h : okTx t = true) (h1 : t.nonce - 1 = lastM m t.client) (h2 : runM m t.ops = some mm) (h3 : ¬ 1024 < (endM t mm).length) : apE m t = 0 := by
  unfold apE; rw [if_pos h, if_pos h1, h2]; exact if_neg h3
theorem apM_err {m : List KV} {t : TX} (h : apE m t ≠ 0) : apM m t = m := if_neg h
theorem apM_ok {m mm : List KV} {t : TX} (h : apE m t = 0) (h2 : runM m t.ops = some mm) : apM m t = endM t mm := by unfold apM; rw [if_pos h, h2]
theorem apL_err {m : List KV} {t : TX} (h : apE m t ≠ 0) : apL m t = 0 := if_neg h
theorem apL_ok {m : List KV} {t : TX} (h : apE m t = 0) : apL m t = (Lib.compact ((txs t.client t.ops).mergeSort fun x y => decide (x ≤ y))).length := if_pos h
/-- What a call of Apply leaves. -/
structure ApP (m : List KV) (t : TX) (b : Nat) (w : World) (e : Ending) (w' : World) : Prop where
  out : ∃ (sl : Option Addr) (cp : Nat), e = .returned (.tuple #[.slice sl (apL m t) cp, .int .i64 (apE m t)])
  st : ST w' b (apM m t)
  grown : w.grownBy w' (some b)
/-- A slice of texts that the call has made. -/
def TS (w : World) (lo : Nat) (v : Value) (l : List (List UInt8)) : Prop := w.ownsRow lo 9 1 v l.length (l.map encStr) ∧ v ≠ .slice none 0 0
theorem TS.kept {w w' : World} {lo : Nat} {v : Value} {l : List (List UInt8)} {row : Option Nat} (h : TS w lo v l) (hg : w.grownBy w' row) (hne : v.ownBlock ≠ row) : TS w' lo v l := ⟨h.1.kept hg (.inr hne), h.2⟩
theorem TS.form {w : World} {lo : Nat} {v : Value} {l : List (List UInt8)} (h : TS w lo v l) : ∃ g cap, v = .slice (some ⟨g, 0, none⟩) l.length cap ∧ lo ≤ g ∧ g < w.heap.size ∧ l.length ≤ cap := by
  rcases h.1.2 with ⟨h1, _⟩ | ⟨g, cap, cur, rfl, hb, hc, hn, _⟩
  · exact absurd h1 h.2
  · exact ⟨g, cap, rfl, hb, (Array.getElem?_eq_some_iff.1 hc).1, hn⟩
theorem info9 : ∃ i, Tryz.prog.info? 9 = some i ∧ i.zero = some (.string ⟨#[]⟩) ∧ i.size = 1 ∧ i.bytes = 16 := by
  have h : (Tryz.prog.info? 9).map (fun i => (i.zero, i.size, i.bytes)) = some (some (.string ⟨#[]⟩), 1, 16) := by kernel_rfl
  cases hq : Tryz.prog.info? 9 with
  | none => rw [hq] at h; cases h
  | some i => rw [hq] at h; simp at h; exact ⟨i, rfl, h.1, h.2.1, h.2.2⟩
section
variable {ops : Array Oper} {rest : List Oper} {op : Oper} {a : Act} {w : World} {Q : Exit → Act → World → Prop}
theorem wpList_bslT (hgd : op.guard = none) (x : Operand) (ho : op.op = .buildSlice 26 1 #[(0, x)]) (s : List UInt8) (hx : a.eval x = .string ⟨s.toArray⟩)
    (h : ∀ w1 : World, Below w.heap.size w w1 → w1.heap.size = w.heap.size + 1 → TS w1 w.heap.size (.slice (some ⟨w.heap.size, 0, none⟩) 1 1) [s] → w1.cell? ⟨w.heap.size, 0, none⟩ = some (.string ⟨s.toArray⟩) → wpList Tryz.prog ops Q rest (a.put op.dst (.slice (some ⟨w.heap.size, 0, none⟩) 1 1)) w1) : wpList Tryz.prog ops Q (op :: rest) a w := by
  refine wpList_run hgd _ _ ?_ (h _ ((Below.refl _ _).alloc (Nat.le_refl _) (.cells #[.string ⟨s.toArray⟩] 9)) (by simp) ⟨⟨rfl, .inr ⟨w.heap.size, 1, #[.string ⟨s.toArray⟩], rfl, Nat.le_refl _, heap_alloc_last w _, Nat.le_refl _, by unfold maxLen; omega, rfl, rfl⟩⟩, by simp⟩ ((Blk.new w #[.string ⟨s.toArray⟩] 9).cell 0))
  unfold execOp
  have e : (#[(0, x)] : Array (Nat × Operand)).map (fun (i, x) => (i, a.eval x)) = #[(0, .string ⟨s.toArray⟩)] := by simp [hx]
  have hr := bslS s w
  rw [← e] at hr
  simp only [ho, Sem.run_bind, hr, Result.andThen_ok]
  rfl
theorem wpList_appT (hgd : op.guard = none) (x y : Operand) (ho : op.op = .call { callee := .builtin .append, args := #[x, y], argTypes := #[26, 26] }) (lo : Nat) (v : Value) (l : List (List UInt8)) (hx : a.eval x = v) (hT : TS w lo v l)
    (g : Nat) (s : List UInt8) (hy : a.eval y = .slice (some ⟨g, 0, none⟩) 1 1) (hc : w.cell? ⟨g, 0, none⟩ = some (.string ⟨s.toArray⟩)) (hl : l.length ≤ 1000) (hlo : lo ≤ w.heap.size)
    (h : ∀ v' w', TS w' lo v' (l ++ [s]) → w.grownBy w' v.ownBlock → wpList Tryz.prog ops Q rest (a.put op.dst v') w') : wpList Tryz.prog ops Q (op :: rest) a w := by
  obtain ⟨i, hi, hz, hs, hb⟩ := info9
  refine wpList_append_own w hgd x y _ ho lo 9 i _ 1 16 Tryz.underlying26 hi hz hs hb rfl (by omega) v l.length _ hx hT.1 ⟨g, 0, none⟩ 1 1 [encStr s] hy rfl ?_ (by simp [Value.oneCell']) (by unfold maxLen; omega) (by omega) hlo ?_
  · intro j u hj
    cases j with
    | zero => simp at hj; subst hj; exact hc
    | succ j => simp at hj
  · intro v' w' h1 h2 h3
    refine h v' w' ⟨by rw [List.length_append, List.map_append]; exact h1, fun e => ?_⟩ h2
    exact absurd (h3.1 e).2 (by omega)
end
end Go.Proofs.YtdikilhobmkpkaaGreatDoor
