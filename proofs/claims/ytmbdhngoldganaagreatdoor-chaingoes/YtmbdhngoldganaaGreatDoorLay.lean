/- What ID and the plain ID do. Apply, plainly. What maps.Copy does to an empty map; what Clone does. What Apply does. What strings.CutPrefix, slices.Compact, slices.Sort, slices.Sorted and maps.Keys do, as the library of contracts has it, at this program's numbers. -/
import Derived.Test.YtmbdhngoldganaaGreatDoorPut
import Derived.Test.YtmbdhngoldganaaGreatDoorSTgd
import Derived.Sort.OwnSorted
import Derived.Lib.SlicesCompact
import Derived.Laws.IdiomRangeMap
import Derived.Shelf.Small.Wraps
import Derived.Shelf.Slices.CompactS
import Derived.Shelf.SlIter.Nil
import Derived.Shelf.SortM.Plain
import Derived.Shelf.SortM.SortNone
import Derived.Test.YtmbdhngoldganaaGreatDoorChecked
namespace Go.Proofs.YtmbdhngoldganaaGreatDoor
open Go Go.RowKit
theorem bslS (s : List UInt8) (w : World) : (Instr.buildSlice 28 1 #[(0, .string ⟨s.toArray⟩)]).run Tryz.prog w = .ok (.slice (some ⟨w.heap.size, 0, none⟩) 1 1) (w.alloc (.cells #[.string ⟨s.toArray⟩] 9)) := by
  have i9' : (Tryz.prog.info? 9).map (·.size) = some 1 := by kernel_rfl
  simp [Instr.buildSlice, run_underlying Tryz.underlying28, sizeOf_run i9', Sem.run_bind, Instr.fill, newRow, Tryz.zeroValue9, Value.cells, range1]
theorem wpList_bslS {ops : Array Oper} {rest : List Oper} {op : Oper} {a : Act} {w : World} {Q : Exit → Act → World → Prop} (hgd : op.guard = none) (x : Operand) (ho : op.op = .buildSlice 28 1 #[(0, x)]) (s : List UInt8) (hx : a.eval x = .string ⟨s.toArray⟩)
    (h : ∀ w1 : World, Below w.heap.size w w1 → w1.cell? ⟨w.heap.size, 0, none⟩ = some (.string ⟨s.toArray⟩) → wpList Tryz.prog ops Q rest (a.put op.dst (.slice (some ⟨w.heap.size, 0, none⟩) 1 1)) w1) : wpList Tryz.prog ops Q (op :: rest) a w := by
  refine wpList_run hgd _ _ ?_ (h _ ((Below.refl _ _).alloc (Nat.le_refl _) (.cells #[.string ⟨s.toArray⟩] 9)) ?_)
  · unfold execOp
    have e : (#[(0, x)] : Array (Nat × Operand)).map (fun (i, x) => (i, a.eval x)) = #[(0, .string ⟨s.toArray⟩)] := by simp [hx]
    have hr := bslS s w
    rw [← e] at hr
    simp only [ho, Sem.run_bind, hr, Result.andThen_ok]
    rfl
  · exact (Blk.new w #[.string ⟨s.toArray⟩] 9).cell 0
/-- A transaction's digest. -/
def idB (t : TX) : List UInt8 := Sh.digest (Sh.tagTo 84 [txB t] 1)
theorem tag_len (s : List UInt8) (h : s.length ≤ 1000) : (Sh.tagTo 84 [s] 1).length ≤ 549755813888 := by
  have : Sh.tagTo 84 [s] 1 = [84] ++ Sh.be s.length 4 ++ s := rfl
  rw [this, List.length_append, List.length_append, Sh.be_length]
  simp
  omega
theorem one_cell {w : World} {b : Nat} {s : List UInt8} (hc : w.cell? ⟨b, 0, none⟩ = some (.string ⟨s.toArray⟩)) : ∀ i, i < 1 → w.cell? ⟨b, 0 + i, none⟩ = some (.string ⟨([s].getD i []).toArray⟩) := fun i hi => by
  have h0 : i = 0 := by omega
  subst h0
  exact hc
set_option maxRecDepth 100000 in
set_option maxHeartbeats 400000 in
theorem id_any (t : TX) (ht : OkT t) (a : Option Addr) (cap : Nat) (w : World) (h : SL w a t.ops) (hG : Sh.Glob w) :
    Calls Tryz.prog 176 #[.agg (txc t.client t.nonce (.slice a t.ops.length cap))] w fun e w' => e = .returned (.string ⟨(idB t).toArray⟩) ∧ Below w.heap.size w w' := by
  have hle := txB_le ht
  have HB := fun w' (hB : Below w.heap.size w w') => bytesOf_any t ht a cap w' (h.below hB)
  have HI : Hid (idB t = Sh.digest (Sh.tagTo 84 [txB t] 1)) := by exact rfl
  rw [HI.out]
  have HT := fun b w' (hG : Sh.Glob w') (hc : w'.cell? ⟨b, 0, none⟩ = some (.string ⟨(txB t).toArray⟩)) => Sh.tagged_any 84 b 0 1 1 [txB t] w' hG (one_cell hc) (tag_len _ (by omega))
  change ∀ b w', Sh.Glob w' → w'.cell? ⟨b, 0, none⟩ = some (.string ⟨(txB t).toArray⟩) → Calls Tryz.prog 120 #[.int .u8 84, .slice (some ⟨b, 0, none⟩) 1 1] w' _ at HT
  generalize Sh.digest (Sh.tagTo 84 [txB t] 1) = dg at *
  generalize txB t = tb at *
  generalize (Value.slice a t.ops.length cap) = sl at *
  go_enter Tryz.func176, Tryz.ntmps176
  go_wp2_with (first
    | (go_at_call 199; refine (HB _ hw1).mono ?_; rintro e w2 ⟨rfl, hw2⟩; have hB2 := hw1.trans (hw2.mono hw1.size))
    | (go_at_call 120; refine (HT _ _ (hG.belowSize (hB2.trans (hw3.mono hB2.size))) hc3).mono ?_; rintro e w4 ⟨rfl, hw4⟩)
    | (with_reducible refine at_list ?_; first
      | (refine wpList_boxRow (op := ⟨some 1, _, _, _, _, _⟩) rfl _ _ rfl _ rfl ?_; intro w1 hw1 hs1 hb1; replace hs1 := hs1.symm)
      | (refine wpList_loadRow (op := ⟨some 3, _, _, _, _, _⟩) rfl _ _ rfl w.heap.size rfl _ _ hb1 _ Tryz.underlying95 rfl (by rw [txc_size]; exact zTx.2) ?_)
      | (refine wpList_bslS (op := ⟨some 5, _, _, _, _, _⟩) rfl _ rfl tb rfl ?_; intro w3 hw3 hc3)))
  go_ret
  exact ⟨rfl, (hB2.trans (hw3.mono hB2.size)).trans (hw4.mono (Nat.le_trans hB2.size hw3.size))⟩
end Go.Proofs.YtmbdhngoldganaaGreatDoor
namespace Go.Proofs.YtmbdhngoldganaaGreatDoor
open Go Go.RowKit Go.Maps
theorem insM_length (x : KV) : ∀ m : List KV, (insM x m).length = m.length + 1
  | [] => rfl
  | y :: r => by
    unfold insM
    split
    · simp
    · simp [insM_length x r]
theorem delM_length (k : List UInt8) (m : List KV) : (delM k m).length ≤ m.length := List.length_filter_le _ _
theorem putM_length (k v : List UInt8) (m : List KV) : (putM k v m).length ≤ m.length + 1 := by
  unfold putM
  rw [insM_length]
  have := delM_length k m
  omega
theorem doM_length (m : List KV) (o : O) : (doM m o).length ≤ m.length + 1 := by
  unfold doM
  split
  · exact putM_length _ _ _
  · split
    · have := delM_length (kOf o.key) m
      omega
    · omega
def stepM (mm : List KV) (o : O) : Option (List KV) := if agM mm o = true then some (doM mm o) else none
/-- What the operations do, one behind the other; none where a check falls. -/
def runM (m : List KV) (l : List O) : Option (List KV) := l.foldl (fun acc o => acc.bind fun mm => stepM mm o) (some m)
theorem foldl_none (l : List O) : l.foldl (fun (acc : Option (List KV)) o => acc.bind fun mm => stepM mm o) none = none := by
  induction l with
  | nil => rfl
  | cons o r ih => exact ih
theorem runM_snoc (m : List KV) (l : List O) (o : O) : runM m (l ++ [o]) = (runM m l).bind fun mm => stepM mm o := by
  unfold runM
  rw [List.foldl_append]
  rfl
theorem runM_cut {m : List KV} {l : List O} {i : Nat} (h : runM m (l.take i) = none) : runM m l = none := by
  rw [← List.take_append_drop i l]
  unfold runM at h ⊢
  rw [List.foldl_append, h, foldl_none]
/-- The texts that were touched, as they come. -/
def txs (c : Nat) (l : List O) : List (List UInt8) := nOf c :: (l.filter tch).map fun o => kOf o.key
theorem txs_snoc (c : Nat) (l : List O) (o : O) : txs c (l ++ [o]) = txs c l ++ (bif tch o then [kOf o.key] else []) := by
  unfold txs
  rw [List.filter_append, List.map_append]
  cases h : tch o <;> simp [h]
theorem txs_len (c : Nat) (l : List O) : (txs c l).length ≤ l.length + 1 := by
  unfold txs
  have := List.length_filter_le tch l
  simp
  omega
/-- The state behind the last operation, with the client's text. -/
def endM (t : TX) (mm : List KV) : List KV := putM (nOf t.client) (lastB t.nonce (idB t)) mm
/-- The error that Apply tells. -/
def apE (m : List KV) (t : TX) : Int :=
  if okTx t = true then
    if t.nonce - 1 = lastM m t.client then
      match runM m t.ops with
      | none => 51
      | some mm => if 1024 < (endM t mm).length then 52 else 0
    else 50
  else 40
/-- The state that Apply leaves. -/
def apM (m : List KV) (t : TX) : List KV := if apE m t = 0 then match runM m t.ops with | none => m | some mm => endM t mm else m
/-- How many texts Apply tells. -/
def apL (m : List KV) (t : TX) : Nat := if apE m t = 0 then (Lib.compact ((txs t.client t.ops).mergeSort fun x y => decide (x ≤ y))).length else 0
theorem apE_not {m : List KV} {t : TX} (h : ¬ okTx t = true) : apE m t = 40 := if_neg h
theorem apE_nonce {m : List KV} {t : TX} (h : okTx t = true) (h1 : ¬ t.nonce - 1 = lastM m t.client) : apE m t = 50 := by unfold apE; rw [if_pos h, if_neg h1]
theorem apE_check {m : List KV} {t : TX} (h : okTx t = true) (h1 : t.nonce - 1 = lastM m t.client) (h2 : runM m t.ops = none) : apE m t = 51 := by unfold apE; rw [if_pos h, if_pos h1, h2]
theorem apE_room {m mm : List KV} {t : TX} (h : okTx t = true) (h1 : t.nonce - 1 = lastM m t.client) (h2 : runM m t.ops = some mm) (h3 : 1024 < (endM t mm).length) : apE m t = 52 := by
  unfold apE; rw [if_pos h, if_pos h1, h2]; exact if_pos h3
theorem apE_ok {m mm : List KV} {t : TX} (h : okTx t = true) (h1 : t.nonce - 1 = lastM m t.client) (h2 : runM m t.ops = some mm) (h3 : ¬ 1024 < (endM t mm).length) : apE m t = 0 := by
  unfold apE; rw [if_pos h, if_pos h1, h2]; exact if_neg h3
theorem apM_err {m : List KV} {t : TX} (h : apE m t ≠ 0) : apM m t = m := if_neg h
theorem apM_ok {m mm : List KV} {t : TX} (h : apE m t = 0) (h2 : runM m t.ops = some mm) : apM m t = endM t mm := by unfold apM; rw [if_pos h, h2]
theorem apL_err {m : List KV} {t : TX} (h : apE m t ≠ 0) : apL m t = 0 := if_neg h
theorem apL_ok {m : List KV} {t : TX} (h : apE m t = 0) : apL m t = (Lib.compact ((txs t.client t.ops).mergeSort fun x y => decide (x ≤ y))).length := if_pos h
/-- The texts that Apply tells. -/
def apT (t : TX) : List (List UInt8) := Lib.compact ((txs t.client t.ops).mergeSort fun x y => decide (x ≤ y))
/-- The texts l lie in block g. -/
def XT (w : World) (g : Nat) (l : List (List UInt8)) : Prop := ∀ i x, l[i]? = some x → w.cell? ⟨g, i, none⟩ = some (.string ⟨x.toArray⟩)
/-- What a call of Apply leaves. -/
structure ApP (m : List KV) (t : TX) (b : Nat) (w : World) (e : Ending) (w' : World) : Prop where
  out : ∃ (sl : Option Addr) (cp : Nat), e = .returned (.tuple #[.slice sl (apL m t) cp, .int .i64 (apE m t)])
  st : ST w' b (apM m t)
  grown : w.grownBy w' (some b)
  txt : apE m t = 0 → ∃ g cp, e = .returned (.tuple #[.slice (some ⟨g, 0, none⟩) (apT t).length cp, .int .i64 0]) ∧ w.heap.size ≤ g ∧ XT w' g (apT t)
/-- A slice of texts that the call has made. -/
def TS (w : World) (lo : Nat) (v : Value) (l : List (List UInt8)) : Prop := w.ownsRow lo 9 1 v l.length (l.map encStr) ∧ v ≠ .slice none 0 0
theorem TS.kept {w w' : World} {lo : Nat} {v : Value} {l : List (List UInt8)} {row : Option Nat} (h : TS w lo v l) (hg : w.grownBy w' row) (hne : v.ownBlock ≠ row) : TS w' lo v l := ⟨h.1.kept hg (.inr hne), h.2⟩
theorem info9 : ∃ i, Tryz.prog.info? 9 = some i ∧ i.zero = some (.string ⟨#[]⟩) ∧ i.size = 1 ∧ i.bytes = 16 := by
  have h : (Tryz.prog.info? 9).map (fun i => (i.zero, i.size, i.bytes)) = some (some (.string ⟨#[]⟩), 1, 16) := by kernel_rfl
  cases hq : Tryz.prog.info? 9 with
  | none => rw [hq] at h; cases h
  | some i => rw [hq] at h; simp at h; exact ⟨i, rfl, h.1, h.2.1, h.2.2⟩
section
variable {ops : Array Oper} {rest : List Oper} {op : Oper} {a : Act} {w : World} {Q : Exit → Act → World → Prop}
theorem wpList_bslT (hgd : op.guard = none) (x : Operand) (ho : op.op = .buildSlice 28 1 #[(0, x)]) (s : List UInt8) (hx : a.eval x = .string ⟨s.toArray⟩)
    (h : ∀ w1 : World, Below w.heap.size w w1 → w1.heap.size = w.heap.size + 1 → TS w1 w.heap.size (.slice (some ⟨w.heap.size, 0, none⟩) 1 1) [s] → w1.cell? ⟨w.heap.size, 0, none⟩ = some (.string ⟨s.toArray⟩) → wpList Tryz.prog ops Q rest (a.put op.dst (.slice (some ⟨w.heap.size, 0, none⟩) 1 1)) w1) : wpList Tryz.prog ops Q (op :: rest) a w := by
  refine wpList_run hgd _ _ ?_ (h _ ((Below.refl _ _).alloc (Nat.le_refl _) (.cells #[.string ⟨s.toArray⟩] 9)) (by simp) ⟨⟨rfl, .inr ⟨w.heap.size, 1, #[.string ⟨s.toArray⟩], rfl, Nat.le_refl _, heap_alloc_last w _, Nat.le_refl _, by unfold maxLen; omega, rfl, rfl⟩⟩, by simp⟩ ((Blk.new w #[.string ⟨s.toArray⟩] 9).cell 0))
  unfold execOp
  have e : (#[(0, x)] : Array (Nat × Operand)).map (fun (i, x) => (i, a.eval x)) = #[(0, .string ⟨s.toArray⟩)] := by simp [hx]
  have hr := bslS s w
  rw [← e] at hr
  simp only [ho, Sem.run_bind, hr, Result.andThen_ok]
  rfl
theorem wpList_appT (hgd : op.guard = none) (x y : Operand) (ho : op.op = .call { callee := .builtin .append, args := #[x, y], argTypes := #[28, 28] }) (lo : Nat) (v : Value) (l : List (List UInt8)) (hx : a.eval x = v) (hT : TS w lo v l)
    (g : Nat) (s : List UInt8) (hy : a.eval y = .slice (some ⟨g, 0, none⟩) 1 1) (hc : w.cell? ⟨g, 0, none⟩ = some (.string ⟨s.toArray⟩)) (hl : l.length ≤ 1000) (hlo : lo ≤ w.heap.size)
    (h : ∀ v' w', TS w' lo v' (l ++ [s]) → w.grownBy w' v.ownBlock → wpList Tryz.prog ops Q rest (a.put op.dst v') w') : wpList Tryz.prog ops Q (op :: rest) a w := by
  obtain ⟨i, hi, hz, hs, hb⟩ := info9
  refine wpList_append_own w hgd x y _ ho lo 9 i _ 1 16 Tryz.underlying28 hi hz hs hb rfl (by omega) v l.length _ hx hT.1 ⟨g, 0, none⟩ 1 1 [encStr s] hy rfl ?_ (by simp [Value.oneCell']) (by unfold maxLen; omega) (by omega) hlo ?_
  · intro j u hj
    cases j with
    | zero => simp at hj; subst hj; exact hc
    | succ j => simp at hj
  · intro v' w' h1 h2 h3
    refine h v' w' ⟨by rw [List.length_append, List.map_append]; exact h1, fun e => ?_⟩ h2
    exact absurd (h3.1 e).2 (by omega)
end
end Go.Proofs.YtmbdhngoldganaaGreatDoor
namespace Go.Proofs.YtmbdhngoldganaaGreatDoor
open Go Go.RowKit Go.Maps
theorem invK {key : Value} {kl : Lit} (hk : keyOf Tryz.prog 9 key = some kl) : ∃ x : List UInt8, key = encStr x := by
  obtain ⟨x, hx, _⟩ := Maps.keyOf_str Tryz.underlying9 hk
  exact ⟨x, hx⟩
theorem invV {v : Value} {y : DataW Unit × List MemPlace} (h : hld v = some y) : ∃ x : List UInt8, v = hv x := by
  obtain ⟨x, hx, _⟩ := hld_inv h
  exact ⟨x, hx⟩
set_option maxHeartbeats 1000000 in
set_option maxRecDepth 100000 in
theorem copy_any (bd bs : Nat) (m : List KV) (w : World) (hd : MB w bd []) (hs : MB w bs m) (hne : bd ≠ bs) (hm : m.length ≤ 100000) :
    Calls Tryz.prog 121 #[.map (some bd), .map (some bs)] w fun e w' => e = .returned (.tuple #[]) ∧ MB w' bd m ∧ w.grownBy w' (some bd) := by
  have hbd := hd.lt
  have hbs := hs.lt
  have hd' : w.ownsMap Tryz.prog 9 hld bd 0 (.map []) := hd
  have hs' : w.ownsMap Tryz.prog 9 hld bs m.length (dm m) := hs
  have hsz := dm_size m
  go_enter Tryz.func121, Tryz.ntmps121
  go_wp2_with (first
    | (at_range; refine wpList_range_own _ rfl _ 165 rfl 9 164 K9 Tryz.underlying165 hld bs m.length _ rfl hs' ?_; intro w0 hrg0 hg0 hs0))
  go_frame
  go_loopw [8] (fun _ wr => ∃ (left : Lit → Bool) (cnt : Nat) (Dout : DataW Unit), wr.ranges Tryz.prog 9 hld bs w.heap.size m.length (dm m) left cnt ∧ cnt ≤ m.length ∧ wr.ownsMap Tryz.prog 9 hld bd (m.length - cnt) Dout ∧ Maps.Agree Dout (dm m) left ∧ w.grownBy wr (some bd))
    (fun _ wr => wr.rangeLeft bs w.heap.size)
  case atStart =>
    exact ⟨_, _, .map [], hrg0, by rw [hsz]; exact Nat.le_refl _, (hd'.kept hg0 (by simp)).mono (by omega), Maps.agree_start (dm m), hg0.but _⟩
  case round =>
    obtain ⟨left, cnt, Dout, hrg, hcs, hout, hA, hgw⟩ := hrel
    go_wp2_with (first
      | (at_next; refine wpList_next_ranges _ rfl _ rfl 9 K9 hld encStr hv (fun key kl h => invK h) (fun v y h => invV h) bs w.heap.size m.length _ _ _ rfl hrg ?_ ?_))
    · intro hc0 hl0
      go_wp2
      go_end0
      have e := Maps.agree_end hA hl0 (hout.canon K9) (hs'.canon K9)
      exact ⟨rfl, MP.of hout e, hgw⟩
    · intro x c kl yd yp w1 cnt1 hkey hlx hv1 hat hrg1 hlt hg1 hs1 hen
      clear hs1
      have hm1 : cnt1 < cnt := hlt
      go_wp2_with (first
        | (at_mapUpdate; refine wpList_mapUpdate_own _ rfl _ _ _ 165 rfl 9 164 K9 Tryz.underlying165 hld bd _ _ rfl ((hout.kept hg1 (fun e => by have := Option.some.inj e; omega)).kept hg13 (by simp)) (by unfold maxLen; omega) _ _ _ rfl rfl hkey yd yp hv1 ?_; intro w4 hout4 hg4; go_frame)
        | (with_reducible refine at_list ?_; first
          | (refine wpList_allocRow (op := ⟨some 5, _, _, _, _, _⟩) rfl _ rfl _ zHeld.1 ?_; intro w2 hw2 hs2 hb2; replace hs2 := hs2.symm)
          | (refine wpList_storeHeld (op := ⟨none, _, _, _, _, _⟩) rfl _ _ rfl w1.heap.size rfl c rfl _ hb2 ?_; intro w3 hg3 hs3 hb3 c3; replace hs3 := hs3.symm; have hB3 : Below w1.heap.size w1 w3 := hw2.trans (below_of_grown hg3 (Nat.le_refl _) hw2.size); have hg13 : w1.grownBy w3 none := grown_of_below hB3)
          | (refine wpList_loadHeld (op := ⟨some 15, _, _, _, _, _⟩) rfl _ rfl w1.heap.size rfl c hb3 ?_)))
      have hrg4 := (hrg1.kept hg13 (by simp) (by simp)).kept hg4 (fun e => hne (Option.some.inj e).symm) (fun e => by have := Option.some.inj e; omega)
      go_roundw
      case rel =>
        exact ⟨_, cnt1, _, hrg4, by omega, hout4.mono (by omega), Maps.agree_step hA hout.isMap (K9.key hkey) hat, ((hgw.andThen hg1 (fun j hj => .inl (by cases hj; exact Nat.le_refl _))).andThen hg13 (fun j hj => by cases hj)).andThen hg4 (fun j hj => .inr hj)⟩
      case measure => rw [hrg4.left_eq, hrg.left_eq]; exact hlt
theorem newb_any (w : World) : Calls Tryz.prog 96 #[] w fun e w' => e = .returned (.pointer (some ⟨w.heap.size + 1, 0, none⟩)) ∧ Below w.heap.size w w' ∧ Blk w' (w.heap.size + 1) #[.map (some w.heap.size)] 167 ∧ MB w' w.heap.size [] := by
  have hmm := @run_makeMap Tryz.prog
  go_enter Tryz.func96, Tryz.ntmps96
  go_wp2
  go_ret
  refine ⟨rfl, ((Below.refl _ w).alloc (Nat.le_refl _) _).alloc (by simp) _, ?_, ?_⟩
  · have := Blk.new (w.alloc (.map #[] 0)) #[.map (some w.heap.size)] 167
    simpa using this
  · exact MP.of (World.ownsMap.alloc (World.ownsMap_made w Tryz.prog 9 hld) _) rfl
set_option maxRecDepth 100000 in
theorem clone_st (b : Nat) (m : List KV) (w : World) (h : ST w b m) (hm : m.length ≤ 100000) :
    Calls Tryz.prog 71 #[.pointer (some ⟨b, 0, none⟩)] w fun e w' => e = .returned (.pointer (some ⟨w.heap.size + 1, 0, none⟩)) ∧ Below w.heap.size w w' ∧ Blk w' (w.heap.size + 1) #[.map (some w.heap.size)] 167 ∧ MB w' w.heap.size m := by
  obtain ⟨mb, hB, hM⟩ := h.out
  have hbl := hB.lt
  have hml := hM.lt
  have HN := newb_any w
  have HC := fun w' (h1 : MB w' w.heap.size []) (h2 : MB w' mb m) => copy_any w.heap.size mb m w' h1 h2 (by omega) hm
  have cb : w.cell? ⟨b, 0, none⟩ = some (.map (some mb)) := hB.cell 0
  go_enter Tryz.func71, Tryz.ntmps71
  go_wp2_with (go_at_call 96; refine HN.mono ?_; rintro e w1 ⟨rfl, hw1, hb1, hm1⟩; have c1 : w1.cell? ⟨w.heap.size + 1, 0, none⟩ = some (.map (some w.heap.size)) := hb1.cell 0; have cb1 := (hw1.cell (p := ⟨b, 0, none⟩) hbl).trans cb)
  go_region_held3 (fun w' => w'.cell? ⟨b, 0, none⟩ = some (.map (some mb)) ∧ w'.cell? ⟨w.heap.size + 1, 0, none⟩ = some (.map (some w.heap.size))) ((go_split_ands; exact ⟨by assumption, by assumption⟩)) ((go_at_call 121; refine (HC _ hm1.drew (hM.below hw1).drew).mono ?_; rintro e w2 ⟨rfl, hm2, hg2⟩; have d0 : w2.cell? ⟨b, 0, none⟩ = some (.map (some mb)) := cell_gr (w := w1.drew) cb1 hg2 (by omega); have d1 : w2.cell? ⟨w.heap.size + 1, 0, none⟩ = some (.map (some w.heap.size)) := cell_gr (w := w1.drew) c1 hg2 (by omega)))
  go_wp2_with fail
  go_ret
  exact ⟨rfl, hw1.trans (below_of_grown (grown_trans (grown_drew _ _) hg2) (Nat.le_refl _) hw1.size), hb1.grown (grown_trans (grown_drew _ _) hg2) (fun e => by have := Option.some.inj e; omega), hm2⟩
end Go.Proofs.YtmbdhngoldganaaGreatDoor
namespace Go.Proofs.YtmbdhngoldganaaGreatDoor
open Go Go.RowKit Go.Maps
theorem ApP.err {m : List KV} {t : TX} {b : Nat} {w w' : World} {e : Ending} {x : Int} (h : apE m t = x) (hx : x ≠ 0) (hS : ST w b m) (hB : Below w.heap.size w w') (he : e = .returned (.tuple #[.slice none 0 0, .int .i64 x])) : ApP m t b w e w' := by
  subst h
  refine ⟨⟨none, 0, by rw [he, apL_err hx]⟩, ?_, grown_of_below hB, fun h0 => absurd h0 hx⟩
  rw [apM_err hx]
  exact hS.below hB
theorem TS.xt {w : World} {lo g n cap : Nat} {l : List (List UInt8)} (h : TS w lo (.slice (some ⟨g, 0, none⟩) n cap) l) : XT w g l := by
  intro i x hx
  rcases h.1.2 with ⟨h1, _⟩ | ⟨g', cap', cur, h0, _, hc, _, _, _, h4⟩
  · cases h1
  · simp only [Value.slice.injEq, Option.some.injEq, Addr.mk.injEq] at h0
    obtain ⟨⟨rfl, _⟩, _, _⟩ := h0
    have h5 : (cur.toList.take (l.length * 1))[i]? = some (encStr x) := by rw [h4, List.getElem?_map, hx]; rfl
    rw [List.getElem?_take] at h5
    split at h5
    · rw [Array.getElem?_toList] at h5
      simp only [World.cell?, hc]
      exact h5
    · cases h5
theorem TS.ne_map {w : World} {lo mb : Nat} {v : Value} {l : List (List UInt8)} {m : List KV} (h : TS w lo v l) (hM : MB w mb m) : v.ownBlock ≠ some mb := by
  rcases h.1.2 with ⟨h1, _⟩ | ⟨g, cap, cur, rfl, _, hc, _⟩
  · exact absurd h1 h.2
  · intro e
    obtain rfl : g = mb := by simpa [Value.ownBlock] using e
    obtain ⟨es, clock, h3, _⟩ := hM
    rw [hc] at h3
    cases h3
theorem TS.ne_blk {w : World} {lo b : Nat} {v : Value} {l : List (List UInt8)} {c : Array Value} {t : TypeId} (h : TS w lo v l) (hb : Blk w b c t) (ht : t ≠ 9) : v.ownBlock ≠ some b := by
  rcases h.1.2 with ⟨h1, _⟩ | ⟨g, cap, cur, rfl, _, hc, _⟩
  · exact absurd h1 h.2
  · intro e
    obtain rfl : g = b := by simpa [Value.ownBlock] using e
    have h3 := hb.out
    rw [hc] at h3
    simp only [Option.some.injEq, Obj.cells.injEq] at h3
    exact ht h3.2.1.symm
theorem TS.low {w : World} {lo : Nat} {v : Value} {l : List (List UInt8)} (h : TS w lo v l) : ∀ k, v.ownBlock = some k → lo ≤ k := fun k e => (h.1.lt k e).1
theorem TS.lower {w : World} {lo lo' : Nat} {v : Value} {l : List (List UInt8)} (h : TS w lo v l) (hl : lo' ≤ lo) : TS w lo' v l := by
  refine ⟨⟨h.1.1, ?_⟩, h.2⟩
  rcases h.1.2 with h1 | ⟨g, cap, cur, h1, h2, h3⟩
  · exact .inl h1
  · exact .inr ⟨g, cap, cur, h1, Nat.le_trans hl h2, h3⟩
theorem TS.below {w w' : World} {lo : Nat} {v : Value} {l : List (List UInt8)} (h : TS w lo v l) (hb : Below w.heap.size w w') : TS w' lo v l := by
  refine ⟨h.1.kept (row := none) (grown_of_below hb) ?_, h.2⟩
  rcases h.1.2 with ⟨h1, _⟩ | ⟨g, cap, cur, rfl, _⟩
  · exact absurd h1 h.2
  · exact .inr (by simp [Value.ownBlock])
theorem clone_ex (b : Nat) (m : List KV) (w : World) (h : ST w b m) (hm : m.length ≤ 100000) :
    Calls Tryz.prog 71 #[.pointer (some ⟨b, 0, none⟩)] w fun e w' => ∃ bb mb, e = .returned (.pointer (some ⟨bb, 0, none⟩)) ∧ Below w.heap.size w w' ∧ w.heap.size ≤ mb ∧ w.heap.size ≤ bb ∧ Blk w' bb #[.map (some mb)] 167 ∧ MB w' mb m :=
  (clone_st b m w h hm).mono fun _ _ ⟨h1, h2, h3, h4⟩ => ⟨_, _, h1, h2, Nat.le_refl _, by omega, h3, h4⟩
set_option maxRecDepth 100000 in
set_option maxHeartbeats 400000 in
theorem apply_not (t : TX) (a : Option Addr) (cap b : Nat) (m : List KV) (w : World) (hS : ST w b m) (hL : SL w a t.ops) (hn : ¬ okTx t = true) :
    Calls Tryz.prog 144 #[.pointer (some ⟨b, 0, none⟩), .agg (txc t.client t.nonce (.slice a t.ops.length cap))] w (ApP m t b w) := by
  have HC := fun w1 (hw1 : Below w.heap.size w w1) => check_any t a cap w1 (hL.below hw1)
  rw [chk_not hn] at HC
  have HE : Hid (apE m t = 40) := apE_not hn
  have hER := @ApP.err m t b w
  clear hn
  generalize ApP m t b w = P at *
  obtain ⟨c, n, l⟩ := t
  dsimp only at *
  generalize (Value.slice a l.length cap) = sl at *
  go_enter Tryz.func144, Tryz.ntmps144
  go_wp2_with (first
    | (go_at_call 143; refine (HC _ hw1).mono ?_; rintro e w2 ⟨rfl, hw2⟩; have hB2 := hw1.trans (hw2.mono hw1.size); have hb2 := hb1.belowSize hw2; have c0 := (hb2.cell 0).trans (txc_g0 _ _ _); have c1 := (hb2.cell 1).trans (txc_g1 _ _ _))
    | (with_reducible refine at_list ?_; first
      | (refine wpList_boxRow (op := ⟨some 3, _, _, _, _, _⟩) rfl _ _ rfl _ rfl ?_; intro w1 hw1 hs1 hb1; replace hs1 := hs1.symm; have c0 := (hb1.cell 0).trans (txc_g0 _ _ _); have c1 := (hb1.cell 1).trans (txc_g1 _ _ _); have c2 := (hb1.cell 2).trans (txc_g2 _ _ _))
      | (refine wpList_loadRow (op := ⟨some 15, _, _, _, _, _⟩) rfl _ _ rfl w.heap.size rfl _ _ hb1 _ Tryz.underlying95 rfl (by rw [txc_size]; exact zTx.2) ?_)))
  exact hER HE.out (by decide) hS hB2 rfl
set_option maxRecDepth 100000 in
set_option maxHeartbeats 400000 in
theorem apply_nonce (t : TX) (a : Option Addr) (cap b : Nat) (m : List KV) (w : World) (hS : ST w b m) (hL : SL w a t.ops) (hk : okTx t = true) (hc : t.client < 18446744073709551616) (hnn : t.nonce < 18446744073709551616) (hv1 : (valM m (nOf t.client)).length ≤ 140737488355328) (hn : ¬ t.nonce - 1 = lastM m t.client) :
    Calls Tryz.prog 144 #[.pointer (some ⟨b, 0, none⟩), .agg (txc t.client t.nonce (.slice a t.ops.length cap))] w (ApP m t b w) := by
  have HC := fun w1 (hw1 : Below w.heap.size w w1) => check_any t a cap w1 (hL.below hw1)
  rw [chk_zero hk] at HC
  have HS := fun w1 (hw1 : Below w.heap.size w w1) => last_st b m t.client w1 (hS.below hw1) hv1
  have HE : Hid (apE m t = 50) := apE_nonce hk hn
  have hn0 := (okTx_of hk).nonce
  have hER := @ApP.err m t b w
  generalize lastI m t.client = li at *
  generalize lastM m t.client = ln at *
  generalize ApP m t b w = P at *
  obtain ⟨c, n, l⟩ := t
  dsimp only at *
  generalize (Value.slice a l.length cap) = sl at *
  go_enter Tryz.func144, Tryz.ntmps144
  go_wp2_with (first
    | (go_at_call 143; refine (HC _ hw1).mono ?_; rintro e w2 ⟨rfl, hw2⟩; have hB2 := hw1.trans (hw2.mono hw1.size); have hb2 := hb1.belowSize hw2; have c0 := (hb2.cell 0).trans (txc_g0 _ _ _); have c1 := (hb2.cell 1).trans (txc_g1 _ _ _))
    | (go_at_call 67; refine (HS _ hB2).mono ?_; rintro e w3 ⟨rfl, hw3⟩; have hB3 := hB2.trans (hw3.mono hB2.size); have hb3 := hb2.belowSize hw3; have c0 := (hb3.cell 0).trans (txc_g0 _ _ _); have c1 := (hb3.cell 1).trans (txc_g1 _ _ _))
    | (with_reducible refine at_list ?_; first
      | (refine wpList_boxRow (op := ⟨some 3, _, _, _, _, _⟩) rfl _ _ rfl _ rfl ?_; intro w1 hw1 hs1 hb1; replace hs1 := hs1.symm; have c0 := (hb1.cell 0).trans (txc_g0 _ _ _); have c1 := (hb1.cell 1).trans (txc_g1 _ _ _); have c2 := (hb1.cell 2).trans (txc_g2 _ _ _))
      | (refine wpList_loadRow (op := ⟨some 15, _, _, _, _, _⟩) rfl _ _ rfl w.heap.size rfl _ _ hb1 _ Tryz.underlying95 rfl (by rw [txc_size]; exact zTx.2) ?_)))
  exact hER HE.out (by decide) hS hB3 rfl
end Go.Proofs.YtmbdhngoldganaaGreatDoor
namespace Go.Proofs.YtmbdhngoldganaaGreatDoor
open Go.Shelf
def layCompact_ren : Go.Shelf.Ren := ⟨fun | 194 => 177 | n => n, fun | 31 => 28 | 9 => 9 | 3 => 3 | 4 => 4 | 0 => 0 | n => n, fun | n => n⟩
theorem layCompact : Go.Proofs.Lays.n194 Tryz.prog layCompact_ren := {
  mixed := by kernel_rfl
  f194 := Tryz.func177.trans (congrArg some (by kernel_rfl))
  t0 := Tryz.underlying0
  a0 := Tryz.isAgg0
  z0 := Tryz.sizeOf0
  v0 := Tryz.zeroValue0
  t3 := Tryz.underlying3
  a3 := Tryz.isAgg3
  z3 := Tryz.sizeOf3
  v3 := Tryz.zeroValue3
  t4 := Tryz.underlying4
  a4 := Tryz.isAgg4
  z4 := Tryz.sizeOf4
  v4 := Tryz.zeroValue4
  t9 := Tryz.underlying9
  a9 := Tryz.isAgg9
  z9 := Tryz.sizeOf9
  v9 := Tryz.zeroValue9
  t31 := Tryz.underlying28
  a31 := Tryz.isAgg28
  z31 := Tryz.sizeOf28
  v31 := Tryz.zeroValue28 }
def layKeys_ren : Go.Shelf.Ren := ⟨fun | 7 => 131 | 10 => 161 | n => n, fun | 23 => 165 | 26 => 9 | 3 => 164 | 28 => 208 | 0 => 0 | 27 => 207 | 33 => 41 | 4 => 4 | n => n, fun | n => n⟩
theorem layKeys : Go.Proofs.SlLaysZ.n7 Tryz.prog layKeys_ren := {
  mixed := by kernel_rfl
  f7 := ⟨Tryz.f131.name, by decide, Tryz.func131.trans (congrArg some (by kernel_rfl))⟩
  f10 := ⟨Tryz.f161.name, by decide, Tryz.func161.trans (congrArg some (by kernel_rfl))⟩
  t0 := Tryz.underlying0
  a0 := Tryz.isAgg0
  z0 := Tryz.sizeOf0
  v0 := Tryz.zeroValue0
  t4 := Tryz.underlying4
  a4 := Tryz.isAgg4
  z4 := Tryz.sizeOf4
  v4 := Tryz.zeroValue4
  t23 := Tryz.underlying165
  a23 := Tryz.isAgg165
  z23 := Tryz.sizeOf165
  v23 := Tryz.zeroValue165
  t26 := Tryz.underlying9
  a26 := Tryz.isAgg9
  z26 := Tryz.sizeOf9
  v26 := Tryz.zeroValue9
  t27 := Tryz.underlying207
  a27 := Tryz.isAgg207
  z27 := Tryz.sizeOf207
  v27 := Tryz.zeroValue207
  t28 := Tryz.underlying208
  a28 := Tryz.isAgg208
  z28 := Tryz.sizeOf208
  v28 := Tryz.zeroValue208
  t33 := Tryz.underlying41
  a33 := Tryz.isAgg41
  z33 := Tryz.sizeOf41
  v33 := Tryz.zeroValue41 }
def laySorted_ren : Go.Shelf.Ren := ⟨fun | 6 => 130 | 8 => 159 | 9 => 160 | 11 => 192 | 13 => 194 | 12 => 193 | 23 => 213 | 24 => 214 | 14 => 204 | 15 => 205 | 16 => 206 | 17 => 207 | 18 => 208 | 19 => 209 | 20 => 210 | 21 => 211 | 22 => 212 | 25 => 222 | 26 => 223 | 27 => 224 | 28 => 225 | 29 => 226 | 30 => 227 | 31 => 232 | n => n, fun | 26 => 9 | 28 => 208 | 24 => 28 | 0 => 0 | 3 => 3 | 37 => 212 | 48 => 235 | 50 => 36 | 4 => 4 | 40 => 276 | 39 => 275 | 45 => 153 | 5 => 5 | 9 => 9 | 51 => 292 | 55 => 295 | 57 => 302 | 58 => 303 | 33 => 41 | n => n, fun | n => n⟩
theorem laySorted : Go.Proofs.SlLaysZ.n6 Tryz.prog laySorted_ren := {
  mixed := by kernel_rfl
  f6 := ⟨Tryz.f130.name, by decide, Tryz.func130.trans (congrArg some (by kernel_rfl))⟩
  f8 := ⟨Tryz.f159.name, by decide, Tryz.func159.trans (congrArg some (by kernel_rfl))⟩
  f11 := ⟨Tryz.f192.name, by decide, Tryz.func192.trans (congrArg some (by kernel_rfl))⟩
  t0 := Tryz.underlying0
  a0 := Tryz.isAgg0
  z0 := Tryz.sizeOf0
  v0 := Tryz.zeroValue0
  t24 := Tryz.underlying28
  a24 := Tryz.isAgg28
  z24 := Tryz.sizeOf28
  v24 := Tryz.zeroValue28
  t26 := Tryz.underlying9
  a26 := Tryz.isAgg9
  z26 := Tryz.sizeOf9
  v26 := Tryz.zeroValue9
  t28 := Tryz.underlying208
  a28 := Tryz.isAgg208
  z28 := Tryz.sizeOf208
  v28 := Tryz.zeroValue208
  i26 := by kernel_rfl }
def laySort_ren : Go.Shelf.Ren := ⟨fun | 6 => 160 | 8 => 194 | 9 => 193 | 19 => 213 | 20 => 214 | 21 => 204 | 22 => 205 | 23 => 206 | 24 => 207 | 25 => 208 | 26 => 209 | 27 => 210 | 28 => 211 | 29 => 212 | 36 => 222 | 31 => 223 | 32 => 224 | 37 => 225 | 38 => 226 | 39 => 227 | 41 => 232 | n => n, fun | 27 => 28 | 29 => 9 | 3 => 3 | 32 => 212 | 26 => 28 | 0 => 0 | 44 => 235 | 46 => 36 | 4 => 4 | 36 => 276 | 35 => 275 | 41 => 153 | 5 => 5 | 9 => 9 | 53 => 292 | 57 => 295 | 63 => 302 | 64 => 303 | n => n, fun | n => n⟩
theorem laySort : Go.Proofs.SlLaysM.n6 Tryz.prog laySort_ren := {
  mixed := by kernel_rfl
  f6 := ⟨Tryz.f160.name, by decide, Tryz.func160.trans (congrArg some (by kernel_rfl))⟩
  f8 := Tryz.func194.trans (congrArg some (by kernel_rfl))
  f9 := ⟨Tryz.f193.name, by decide, Tryz.func193.trans (congrArg some (by kernel_rfl))⟩
  f19 := Tryz.func213.trans (congrArg some (by kernel_rfl))
  f20 := Tryz.func214.trans (congrArg some (by kernel_rfl))
  f21 := ⟨Tryz.f204.name, by decide, Tryz.func204.trans (congrArg some (by kernel_rfl))⟩
  f22 := ⟨Tryz.f205.name, by decide, Tryz.func205.trans (congrArg some (by kernel_rfl))⟩
  f23 := ⟨Tryz.f206.name, by decide, Tryz.func206.trans (congrArg some (by kernel_rfl))⟩
  f24 := ⟨Tryz.f207.name, by decide, Tryz.func207.trans (congrArg some (by kernel_rfl))⟩
  f25 := ⟨Tryz.f208.name, by decide, Tryz.func208.trans (congrArg some (by kernel_rfl))⟩
  f26 := ⟨Tryz.f209.name, by decide, Tryz.func209.trans (congrArg some (by kernel_rfl))⟩
  f27 := ⟨Tryz.f210.name, by decide, Tryz.func210.trans (congrArg some (by kernel_rfl))⟩
  f28 := ⟨Tryz.f211.name, by decide, Tryz.func211.trans (congrArg some (by kernel_rfl))⟩
  f29 := ⟨Tryz.f212.name, by decide, Tryz.func212.trans (congrArg some (by kernel_rfl))⟩
  f31 := Tryz.func223.trans (congrArg some (by kernel_rfl))
  f32 := Tryz.func224.trans (congrArg some (by kernel_rfl))
  f36 := ⟨Tryz.f222.name, by decide, Tryz.func222.trans (congrArg some (by kernel_rfl))⟩
  f37 := ⟨Tryz.f225.name, by decide, Tryz.func225.trans (congrArg some (by kernel_rfl))⟩
  f38 := ⟨Tryz.f226.name, by decide, Tryz.func226.trans (congrArg some (by kernel_rfl))⟩
  f39 := ⟨Tryz.f227.name, by decide, Tryz.func227.trans (congrArg some (by kernel_rfl))⟩
  f41 := ⟨Tryz.f232.name, by decide, Tryz.func232.trans (congrArg some (by kernel_rfl))⟩
  t0 := Tryz.underlying0
  a0 := Tryz.isAgg0
  z0 := Tryz.sizeOf0
  v0 := Tryz.zeroValue0
  t3 := Tryz.underlying3
  a3 := Tryz.isAgg3
  z3 := Tryz.sizeOf3
  v3 := Tryz.zeroValue3
  t4 := Tryz.underlying4
  a4 := Tryz.isAgg4
  z4 := Tryz.sizeOf4
  v4 := Tryz.zeroValue4
  t5 := Tryz.underlying5
  a5 := Tryz.isAgg5
  z5 := Tryz.sizeOf5
  v5 := Tryz.zeroValue5
  t9 := Tryz.underlying9
  a9 := Tryz.isAgg9
  z9 := Tryz.sizeOf9
  v9 := Tryz.zeroValue9
  t26 := Tryz.underlying28
  a26 := Tryz.isAgg28
  z26 := Tryz.sizeOf28
  v26 := Tryz.zeroValue28
  t27 := Tryz.underlying28
  a27 := Tryz.isAgg28
  z27 := Tryz.sizeOf28
  v27 := Tryz.zeroValue28
  t29 := Tryz.underlying9
  a29 := Tryz.isAgg9
  z29 := Tryz.sizeOf9
  v29 := Tryz.zeroValue9
  t32 := Tryz.underlying212
  a32 := Tryz.isAgg212
  z32 := Tryz.sizeOf212
  v32 := Tryz.zeroValue212
  t35 := Tryz.underlying275
  a35 := Tryz.isAgg275
  z35 := Tryz.sizeOf275
  v35 := Tryz.zeroValue275
  t36 := Tryz.underlying276
  a36 := Tryz.isAgg276
  z36 := Tryz.sizeOf276
  v36 := Tryz.zeroValue276
  t41 := Tryz.underlying153
  a41 := Tryz.isAgg153
  z41 := Tryz.sizeOf153
  v41 := Tryz.zeroValue153
  t44 := Tryz.underlying235
  a44 := Tryz.isAgg235
  z44 := Tryz.sizeOf235
  v44 := Tryz.zeroValue235
  t46 := Tryz.underlying36
  a46 := Tryz.isAgg36
  z46 := Tryz.sizeOf36
  v46 := Tryz.zeroValue36
  t53 := Tryz.underlying292
  a53 := Tryz.isAgg292
  z53 := Tryz.sizeOf292
  v53 := Tryz.zeroValue292
  t57 := Tryz.underlying295
  a57 := Tryz.isAgg295
  z57 := Tryz.sizeOf295
  v57 := Tryz.zeroValue295
  t63 := Tryz.underlying302
  a63 := Tryz.isAgg302
  z63 := Tryz.sizeOf302
  v63 := Tryz.zeroValue302
  t64 := Tryz.underlying303
  a64 := Tryz.isAgg303
  z64 := Tryz.sizeOf303
  v64 := Tryz.zeroValue303 }
end Go.Proofs.YtmbdhngoldganaaGreatDoor
