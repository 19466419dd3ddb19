/- What awake of the block's law does. A region that draws its order, whatever it holds: each operation leaves a value with a property; whatever the order, behind the region each has its own. What is kept in a region that makes a block and forgets it. What is kept in a region that makes a block, and keeps it. What is kept in a region that makes a block: with what stands ahead of it, each by itself. -/
import Derived.Test.YtmbdhngoldganaaGreatDoorMke
import Derived.Test.YtmbdhngoldganaaGreatDoorRow
import Derived.RegionTactic
namespace Go.Proofs.YtmbdhngoldganaaGreatDoor
open Go Go.RowKit
theorem EX.new {w : World} {b bt : Nat} (h : ST w b []) (ht : Sh.Blk w bt #[.pointer none] 215) (hG : Sh.Glob w) (h2 : 2 ≤ b ∧ 2 ≤ bt) : EX w b bt [] .emp := ⟨h, ⟨none, ht, rfl⟩, hG, h2⟩
def ob1 : O := ⟨1, [97], [49]⟩
def ob2 : O := ⟨1, [97], [50]⟩
def tb1 : TX := ⟨1, 1, [ob1]⟩
def tb2 : TX := ⟨1, 3, [ob2]⟩
theorem tb1_ok : okTx tb1 = true := by decide
theorem tb1_run : runM [] tb1.ops = some [([107, 97], [49])] := by decide
theorem tb1_end (lb : List UInt8) : putM (nOf 1) lb [([107, 97], [49])] = [([107, 97], [49]), (nOf 1, lb)] := by
  have h1 : delM (nOf 1) [([107, 97], [49])] = [([107, 97], [49])] := by decide
  have h2 : bytesBefore (nOf 1) [107, 97] = false := by decide
  unfold putM
  rw [h1]
  unfold insM
  simp only [h2]
  rfl
theorem tb1_e : apE [] tb1 = 0 := apE_ok tb1_ok rfl tb1_run (by
  have e : endM tb1 [([107, 97], [49])] = putM (nOf 1) (lastB 1 (idB tb1)) [([107, 97], [49])] := rfl
  rw [e, tb1_end]
  decide)
theorem tb1_m : apM [] tb1 = [([107, 97], [49]), (nOf 1, lastB 1 (idB tb1))] := by
  rw [apM_ok tb1_e tb1_run]
  exact tb1_end _
theorem builtOb1 : Tryz.prog.built 97 [(0, .int .i64 1), (1, .string ⟨#[97]⟩), (2, .string ⟨#[49]⟩)] = some (opc ob1) := by kernel_rfl
theorem builtTb (n : Int) (k v : Nat) (hk : n = (k : Nat)) : Tryz.prog.built 95 [(0, .int .u64 1), (1, .int .u64 n), (2, .slice (some ⟨v, 0, none⟩) 1 1)] = some (txc 1 k (.slice (some ⟨v, 0, none⟩) 1 1)) := by subst hk; kernel_rfl
theorem Blk.ia1 {w : World} {g : Nat} {x : Int} (h : Blk w g #[.int .i64 x] 3) : IA w (some ⟨g, 0, none⟩) [x] := fun i v hv => by
  refine ⟨g, 0, rfl, ?_⟩
  rw [Nat.zero_add, h.cell]
  have hi : i < 1 := (List.getElem?_eq_some_iff.1 hv).1
  obtain rfl : i = 0 := by omega
  simp at hv
  subst hv
  rfl
theorem Blk.sl1 {w : World} {g : Nat} {o : O} (h : Blk w g (opc o) 97) : SL w (some ⟨g, 0, none⟩) [o] := fun i hi => by
  have h0 : i = 0 := by simp at hi; omega
  subst h0
  exact ⟨g, 0, rfl, fun j v hv => by rw [Nat.zero_mul, Nat.add_zero, Nat.zero_add, h.cell]; have hv2 : (opc o).toList[j]? = some v := hv; simpa using hv2⟩
end Go.Proofs.YtmbdhngoldganaaGreatDoor
namespace Go.Proofs.YtmbdhngoldganaaGreatDoor
open Go Go.RowKit
def waitsB (ops : Array Oper) (i k : Nat) : Bool := ((ops[i]?).map (·.after.any fun e => e.on == k && Region.binds .any e)).getD false
def oldB (ops : Array Oper) (i t : Nat) : Bool := (List.range ops.size).all fun k => ((ops[k]?).map fun o => o.dst != some t || waitsB ops k i).getD true
theorem waitsB_spec {ops : Array Oper} {i k : Nat} (h : waitsB ops i k = true) : ∃ o, ops[i]? = some o ∧ ∃ e ∈ o.after, Region.binds .any e = true ∧ e.on = k := by
  unfold waitsB at h
  cases ho : ops[i]? with
  | none => rw [ho] at h; cases h
  | some o =>
    rw [ho] at h
    simp only [Option.map_some, Option.getD_some, Array.any_eq_true] at h
    obtain ⟨j, hj, h⟩ := h
    rw [Bool.and_eq_true] at h
    exact ⟨o, rfl, o.after[j], Array.getElem_mem hj, h.2, by simpa using h.1⟩
def cntF (l : List Bool) : Nat := (l.filter (!·)).length
theorem cntF_set : ∀ (l : List Bool) (i : Nat), l[i]? = some false → cntF (l.set i true) + 1 = cntF l
  | b :: l, 0, h => by
    have hb : b = false := by simpa using h
    subst hb
    rfl
  | b :: l, i + 1, h => by
    have := cntF_set l i (by simpa using h)
    cases b
    · simp only [cntF, List.set_cons_succ] at *; simp at *; omega
    · simp only [cntF, List.set_cons_succ] at *; simp at *; omega
theorem cntF_pos : ∀ (l : List Bool) (i : Nat), l[i]? = some false → 0 < cntF l := fun l i h => by have := cntF_set l i h; omega
theorem mem_readyM {ops : Array Oper} {listed : Array Bool} {i : Nat} (hs : listed.size = ops.size) : i ∈ Region.ready .any ops listed ↔ listed[i]? = some false ∧ ∀ k, waitsB ops i k = true → listed.getD k false = true := by
  unfold Region.ready
  rw [List.mem_filter, List.mem_range, Bool.and_eq_true]
  constructor
  · rintro ⟨h1, h2, h3⟩
    have hl : i < listed.size := by omega
    refine ⟨?_, fun k hk => ?_⟩
    · simp [hl] at h2 ⊢; exact h2
    · obtain ⟨o, ho, e, he, hb, rfl⟩ := waitsB_spec hk
      rw [ho] at h3
      simp only [Option.map_some, Option.getD_some] at h3
      have := Array.all_eq_true_iff_forall_mem.1 h3 e he
      rw [hb] at this
      simpa using this
  · rintro ⟨h1, h2⟩
    have hl : i < listed.size := (Array.getElem?_eq_some_iff.1 h1).1
    have hi : i < ops.size := by omega
    refine ⟨hi, by simp [h1], ?_⟩
    rw [Array.getElem?_eq_getElem hi]
    simp only [Option.map_some, Option.getD_some]
    rw [Array.all_eq_true_iff_forall_mem]
    intro e he
    by_cases hb : Region.binds .any e = true
    · have hw : waitsB ops i e.on = true := by
        unfold waitsB
        rw [Array.getElem?_eq_getElem hi]
        simp only [Option.map_some, Option.getD_some, Array.any_eq_true]
        obtain ⟨j, hj, rfl⟩ := Array.mem_iff_getElem.1 he
        exact ⟨j, hj, by simp [hb]⟩
      simp [hb]
      simpa using h2 e.on hw
    · simp [hb]
theorem getD_setB (l : Array Bool) (i j : Nat) (hi : i < l.size) : (l.setIfInBounds i true).getD j false = if j = i then true else l.getD j false := by
  by_cases h : j = i
  · subst h; simp [hi]
  · rw [if_neg h]
    simp only [Array.getD_eq_getD_getElem?, Array.getElem?_setIfInBounds, if_neg (fun e => h (Eq.symm e))]
theorem put_same {a : Act} {d : Nat} (v : Value) (h : d < a.tmps.size) : (a.put (some d) v).tmps.getD d undef = v := by
  simp [Act.put, h]
theorem put_other {a : Act} {dst : Option Tmp} {t : Nat} (v : Value) (h : dst ≠ some t) : (a.put dst v).tmps.getD t undef = a.tmps.getD t undef := by
  cases dst with
  | none => rfl
  | some d =>
    have hne : d ≠ t := fun e => h (by rw [e])
    simp only [Act.put, Array.getD_eq_getD_getElem?, Array.getElem?_setIfInBounds, if_neg hne]
theorem put_size (a : Act) (dst : Option Tmp) (v : Value) : (a.put dst v).tmps.size = a.tmps.size := by cases dst <;> simp [Act.put]
theorem put_defers (a : Act) (dst : Option Tmp) (v : Value) : (a.put dst v).defers = a.defers := by cases dst <;> simp [Act.put]
def puts (vs : Nat → Value) : Nat → List (Option Tmp) → Act → Act
  | _, [], a => a
  | i, d :: r, a => puts vs (i + 1) r (a.put d (vs i))
theorem puts_size (vs : Nat → Value) : ∀ (ds : List (Option Tmp)) (i : Nat) (a : Act), (puts vs i ds a).tmps.size = a.tmps.size
  | [], _, _ => rfl
  | d :: r, i, a => by rw [puts, puts_size vs r, put_size]
theorem puts_defers (vs : Nat → Value) : ∀ (ds : List (Option Tmp)) (i : Nat) (a : Act), (puts vs i ds a).defers = a.defers
  | [], _, _ => rfl
  | d :: r, i, a => by rw [puts, puts_defers vs r, put_defers]
theorem puts_getD (vs : Nat → Value) (a : Act) (t : Nat) : ∀ (ds : List (Option Tmp)) (i : Nat) (b : Act), b.tmps.size = a.tmps.size → (∀ (j d : Nat), ds[j]? = some (some d) → d < a.tmps.size ∧ vs (i + j) = a.tmps.getD d undef) →
    (b.tmps.getD t undef = a.tmps.getD t undef ∨ ∃ j : Nat, ds[j]? = some (some t)) → (puts vs i ds b).tmps.getD t undef = a.tmps.getD t undef
  | [], _, b, _, _, h => by
    rcases h with h | ⟨j, h⟩
    · exact h
    · simp at h
  | d :: r, i, b, hs, hv, h => by
    rw [puts]
    refine puts_getD vs a t r (i + 1) _ (by rw [put_size, hs]) (fun j e he => ?_) ?_
    · have := hv (j + 1) e (by simpa using he)
      rw [show i + 1 + j = i + (j + 1) from by omega]
      exact this
    · by_cases hd : d = some t
      · subst hd
        obtain ⟨h1, h2⟩ := hv 0 t rfl
        left
        rw [put_same _ (by rw [hs]; exact h1), ← h2]
        rfl
      · rw [put_other _ hd]
        rcases h with h | ⟨j, h⟩
        · exact .inl h
        · cases j with
          | zero => simp at h; exact absurd h hd
          | succ j => exact .inr ⟨j, by simpa using h⟩
def madeB (ops : Array Oper) (n : Nat) : Bool :=
  ((List.range ops.size).all fun i => ((ops[i]?).map fun o => o.after.all fun e => !Region.binds .any e || decide (e.on < i)).getD true) &&
  ((List.range ops.size).all fun i => (List.range ops.size).all fun k => i == k || ((ops[i]?).map fun o => ((ops[k]?).map fun q => o.dst.isNone || o.dst != q.dst).getD true).getD true) &&
  ((List.range ops.size).all fun i => ((ops[i]?).map fun o => match o.dst with | some d => decide (d < n) | none => true).getD true)
def updV (vs : Nat → Value) (i : Nat) (v : Value) : Nat → Value := fun k => if k = i then v else vs k
theorem updV_same (vs : Nat → Value) (i : Nat) (v : Value) : updV vs i v i = v := if_pos rfl
theorem updV_other {vs : Nat → Value} {i k : Nat} {v : Value} (h : k ≠ i) : updV vs i v k = vs k := if_neg h
def QK (Q : Exit → Act → World → Prop) (K : Act → World → Prop) : Exit → Act → World → Prop
  | .normal, a, w => K a w
  | e, a, w => Q e a w
section
variable {P : Program} {ops : Array Oper} {Q : Exit → Act → World → Prop}
theorem wp_QK {o : Oper} {a : Act} {w : World} {K : Act → World → Prop} (h : o.wp P a w (wpList P ops (QK Q K) []) (QK Q K)) : o.wp P a w K Q := by
  have hl : LetsOut (QK Q K) → LetsOut Q := fun ⟨a, w, h⟩ => ⟨a, w, h⟩
  unfold Oper.wp at h ⊢
  generalize (execOp a.eval o).run P w = r at h ⊢
  match r, h with
  | .ok (.value v) w', h => exact h
  | .ok .skip w', h => exact h
  | .ok (.defer d) w', h => exact h
  | .ok (.enter f args) w', h =>
    refine Calls.mono h fun e w'' h => ?_
    match e, h with
    | .returned v, h => exact h
    | .panicked c, h => exact h
    | .outgrown, h => exact hl h
  | .ok (.row row args) w', h => exact Rows.mono h fun v w'' h => h
  | .halt (.panic v) w', h => exact h
theorem wpOp_list {i : Nat} {o : Oper} {K : Act → World → Prop} {a : Act} {w : World} (ho : ops[i]? = some o) (h : wpList P ops (QK Q K) [o] a w) : wpOp P ops Q i K a w := by
  unfold wpOp
  rw [ho]
  unfold wpList at h
  show if Region.wanted o (yielded ops a.tmps) = true then _ else _
  split
  · rename_i hw
    rw [if_pos hw] at h
    rcases h with h | ⟨h1, a', w', h2⟩
    · exact .inl (wp_QK h)
    · exact .inr ⟨h1, a', w', h2⟩
  · rename_i hw
    rw [if_neg hw] at h
    exact h
variable {E : Nat → (Nat → Value) → World → World → Value → Prop} {Pr : Nat → (Nat → Value) → World → Value → Prop} {G : (Nat → Bool) → (Nat → Value) → World → Prop}
structure KnownR (ops : Array Oper) (Pr : Nat → (Nat → Value) → World → Value → Prop) (G : (Nat → Bool) → (Nat → Value) → World → Prop) (a0 : Act) (i : Nat) (vs : Nat → Value) (a : Act) (w : World) : Prop where
  gen : ∃ L : Nat → Bool, L i = false ∧ (∀ k, waitsB ops i k = true → L k = true) ∧ (∀ j k, L j = true → waitsB ops j k = true → L k = true) ∧ G L vs w
  dep : ∀ k, waitsB ops i k = true → Pr k vs w (vs k)
  slot : ∀ (k d : Nat), waitsB ops i k = true → ((ops[k]?).bind (·.dst)) = some d → a.tmps.getD d undef = vs k
  old : ∀ (t : Nat), oldB ops i t = true → a.tmps.getD t undef = a0.tmps.getD t undef
structure InvR (ops : Array Oper) (Pr : Nat → (Nat → Value) → World → Value → Prop) (G : (Nat → Bool) → (Nat → Value) → World → Prop) (a0 : Act) (listed : Array Bool) (vs : Nat → Value) (a : Act) (w : World) : Prop where
  size : listed.size = ops.size
  gen : G (fun k => listed.getD k false) vs w
  closed : ∀ (i k : Nat), listed.getD i false = true → waitsB ops i k = true → listed.getD k false = true
  frame : ∀ t : Nat, (∀ i : Nat, listed.getD i false = true → ((ops[i]?).bind (·.dst)) ≠ some t) → a.tmps.getD t undef = a0.tmps.getD t undef
  slots : ∀ (i d : Nat), listed.getD i false = true → ((ops[i]?).bind (·.dst)) = some d → a.tmps.getD d undef = vs i
  vals : ∀ i : Nat, listed.getD i false = true → Pr i vs w (vs i)
  tsize : a.tmps.size = a0.tmps.size
  defers : a.defers = a0.defers
theorem InvR.step {a0 a : Act} {w w' : World} {listed : Array Bool} {vs : Nat → Value} {i : Nat} {o : Oper} {v : Value} (hB : madeB ops a0.tmps.size = true)
    (hG : ∀ L i w w' vs v, i < ops.size → L i = false → (∀ k, waitsB ops i k = true → L k = true) → G L vs w → E i vs w w' v → Pr i vs w' v → G (fun k => k == i || L k) (updV vs i v) w')
    (hcong : ∀ i vs vs' w v, (∀ k, waitsB ops i k = true → vs k = vs' k) → Pr i vs w v → Pr i vs' w v)
    (hst : ∀ i j vs w w' u v, i ≠ j → waitsB ops j i = false → E i vs w w' u → Pr j vs w v → Pr j vs w' v)
    (h : InvR ops Pr G a0 listed vs a w) (ho : ops[i]? = some o) (hun : listed[i]? = some false)
    (hw : ∀ k, waitsB ops i k = true → listed.getD k false = true) (hE : E i vs w w' v) (hv : Pr i vs w' v) : InvR ops Pr G a0 (listed.setIfInBounds i true) (updV vs i v) (a.put o.dst v) w' := by
  have hi : i < ops.size := (Array.getElem?_eq_some_iff.1 ho).1
  have hil : i < listed.size := by rw [h.size]; exact hi
  have hdo : ((ops[i]?).bind (·.dst)) = o.dst := by rw [ho]; rfl
  have hli : listed.getD i false = false := by simp [Array.getD_eq_getD_getElem?, hun]
  unfold madeB at hB
  rw [Bool.and_eq_true, Bool.and_eq_true] at hB
  obtain ⟨⟨hB1, hB2⟩, hB3⟩ := hB
  have hnw : ∀ j, listed.getD j false = true → waitsB ops j i = false := fun j hj => by
    cases hq : waitsB ops j i
    · rfl
    · have := h.closed j i hj hq
      rw [hli] at this
      cases this
  have hselfw : waitsB ops i i = false := by
    cases hq : waitsB ops i i
    · rfl
    · have := hw i hq
      rw [hli] at this
      cases this
  have hupd : ∀ j, j ≠ i → updV vs i v j = vs j := fun j hj => if_neg hj
  have hupi : updV vs i v i = v := if_pos rfl
  refine ⟨by simp [h.size], ?_, fun j k hj hk => ?_, fun t ht => ?_, fun j d hj hd => ?_, fun j hj => ?_, by rw [put_size, h.tsize], by rw [put_defers, h.defers]⟩
  · have := hG _ i w w' vs v hi hli hw h.gen hE hv
    have e : (fun k => (listed.setIfInBounds i true).getD k false) = fun k => k == i || listed.getD k false := by
      funext k
      rw [getD_setB _ _ _ hil]
      by_cases hk : k = i <;> simp [hk]
    rw [e]
    exact this
  · rw [getD_setB _ _ _ hil] at hj ⊢
    by_cases e : j = i
    · subst e
      rw [hw k hk]
      split <;> rfl
    · rw [if_neg e] at hj
      rw [h.closed j k hj hk]
      split <;> rfl
  · have h1 := ht i (by rw [getD_setB _ _ _ hil, if_pos rfl])
    rw [hdo] at h1
    rw [put_other _ h1]
    refine h.frame t (fun j hj => ht j ?_)
    rw [getD_setB _ _ _ hil, hj]
    split <;> rfl
  · rw [getD_setB _ _ _ hil] at hj
    by_cases e : j = i
    · subst e
      rw [hdo] at hd
      have h3 := List.all_eq_true.1 hB3 j (List.mem_range.2 hi)
      rw [ho] at h3
      simp only [Option.map_some, Option.getD_some, hd] at h3
      rw [hd, put_same _ (by rw [h.tsize]; exact of_decide_eq_true h3), hupi]
    · rw [if_neg e] at hj
      have hne : o.dst ≠ some d := by
        intro e2
        have h1 := List.all_eq_true.1 (List.all_eq_true.1 hB2 i (List.mem_range.2 hi)) j
        cases hoj : ops[j]? with
        | none => rw [hoj] at hd; cases hd
        | some oj =>
          have hjs : j < ops.size := (Array.getElem?_eq_some_iff.1 hoj).1
          have h1 := h1 (List.mem_range.2 hjs)
          rw [hoj] at hd
          have hd : oj.dst = some d := hd
          rw [ho, hoj] at h1
          simp only [Option.map_some, Option.getD_some, e2, hd] at h1
          simp at h1
          exact e h1.symm
      rw [put_other _ hne, hupd j e]
      exact h.slots j d hj hd
  · rw [getD_setB _ _ _ hil] at hj
    by_cases e : j = i
    · subst e
      rw [hupi]
      exact hcong j vs _ w' v (fun k hk => (hupd k (fun e => by subst e; rw [hselfw] at hk; cases hk)).symm) hv
    · rw [if_neg e] at hj
      rw [hupd j e]
      refine hcong j vs _ w' _ (fun k hk => (hupd k (fun e2 => ?_)).symm) (hst i j vs w w' v _ (fun e2 => e e2.symm) (hnw j hj) hE (h.vals j hj))
      subst e2
      rw [hnw j hj] at hk
      cases hk
def dstsR (ops : Array Oper) : List (Option Tmp) := ops.toList.map (·.dst)
theorem dstsR_get {i : Nat} {d : Nat} : (dstsR ops)[i]? = some (some d) ↔ ((ops[i]?).bind (·.dst)) = some d := by
  unfold dstsR
  rw [List.getElem?_map, Array.getElem?_toList]
  cases ops[i]? with
  | none => simp
  | some o => simp
theorem InvR.all {a0 a : Act} {w : World} {listed : Array Bool} {vs : Nat → Value} (hB : madeB ops a0.tmps.size = true) (h : InvR ops Pr G a0 listed vs a w) (hall : ∀ i, i < ops.size → listed.getD i false = true) : a = puts vs 0 (dstsR ops) a0 := by
  unfold madeB at hB
  rw [Bool.and_eq_true, Bool.and_eq_true] at hB
  obtain ⟨_, hB3⟩ := hB
  have hlt : ∀ {j d : Nat}, ((ops[j]?).bind (·.dst)) = some d → j < ops.size ∧ d < a0.tmps.size := fun {j d} hd => by
    cases hoj : ops[j]? with
    | none => rw [hoj] at hd; cases hd
    | some oj =>
      have hjs : j < ops.size := (Array.getElem?_eq_some_iff.1 hoj).1
      rw [hoj] at hd
      have hd : oj.dst = some d := hd
      have h3 := List.all_eq_true.1 hB3 j (List.mem_range.2 hjs)
      rw [hoj] at h3
      simp only [Option.map_some, Option.getD_some, hd] at h3
      exact ⟨hjs, of_decide_eq_true h3⟩
  obtain ⟨at1, ad⟩ := a
  have hsz := h.tsize
  have hdf := h.defers
  have e1 : ∀ t : Nat, (puts vs 0 (dstsR ops) a0).tmps.getD t undef = at1.getD t undef := fun t => by
    refine puts_getD _ ⟨at1, ad⟩ t _ 0 a0 hsz.symm (fun j d hj => ?_) ?_
    · have hj := dstsR_get.1 hj
      obtain ⟨h1, h2⟩ := hlt hj
      refine ⟨by rw [hsz]; exact h2, ?_⟩
      rw [Nat.zero_add]
      exact (h.slots j d (hall j h1) hj).symm
    · by_cases he : ∃ j : Nat, (dstsR ops)[j]? = some (some t)
      · exact .inr he
      · left
        exact (h.frame t (fun i hi hd => he ⟨i, dstsR_get.2 hd⟩)).symm
  have e2 := puts_size vs (dstsR ops) 0 a0
  have e3 := puts_defers vs (dstsR ops) 0 a0
  generalize puts vs 0 (dstsR ops) a0 = b at *
  obtain ⟨bt, bd⟩ := b
  simp only at e1 e2 e3 hsz hdf
  have : at1 = bt := by
    apply Array.ext (by omega)
    intro t h1 h2
    have := e1 t
    simp only [Array.getD_eq_getD_getElem?, Array.getElem?_eq_getElem h1, Array.getElem?_eq_getElem h2, Option.getD_some] at this
    exact this.symm
  rw [this, e3, hdf]
theorem wpAny_made {a0 : Act} (hB : madeB ops a0.tmps.size = true)
    (hG : ∀ L i w w' vs v, i < ops.size → L i = false → (∀ k, waitsB ops i k = true → L k = true) → G L vs w → E i vs w w' v → Pr i vs w' v → G (fun k => k == i || L k) (updV vs i v) w')
    (hcong : ∀ i vs vs' w v, (∀ k, waitsB ops i k = true → vs k = vs' k) → Pr i vs w v → Pr i vs' w v)
    (hst : ∀ i j vs w w' u v, i ≠ j → waitsB ops j i = false → E i vs w w' u → Pr j vs w v → Pr j vs w' v)
    (hop : ∀ i o, ops[i]? = some o → ∀ a vs w, KnownR ops Pr G a0 i vs a w → ∀ K : Act → World → Prop, (∀ v w', E i vs w w' v → Pr i vs w' v → K (a.put o.dst v) w') → wpList P ops (QK Q K) [o] a w)
    (hfin : ∀ vs w, (∀ i, i < ops.size → Pr i vs w (vs i)) → (∃ L, (∀ i, i < ops.size → L i = true) ∧ G L vs w) → Q .normal (puts vs 0 (dstsR ops) a0) w) :
    ∀ (fuel : Nat) (listed : Array Bool) (vs : Nat → Value) (a : Act) (w : World), InvR ops Pr G a0 listed vs a w → cntF listed.toList = fuel → wpAny P .any ops Q fuel listed a w := by
  have hend : ∀ (listed : Array Bool) (vs : Nat → Value) (a : Act) (w : World), InvR ops Pr G a0 listed vs a w → (∀ i, i < ops.size → listed.getD i false = true) → Q .normal a w := fun listed vs a w h hall => by
    rw [h.all hB hall]
    exact hfin vs w (fun i hi => h.vals i (hall i hi)) ⟨_, hall, h.gen⟩
  have hlist : ∀ (listed : Array Bool), listed.size = ops.size → Region.ready .any ops listed = [] → ∀ m i, i < m → i < ops.size → listed.getD i false = true := fun listed hs hr => by
    have hB' := hB
    unfold madeB at hB'
    rw [Bool.and_eq_true, Bool.and_eq_true] at hB'
    obtain ⟨⟨hB1, _⟩, _⟩ := hB'
    intro m
    induction m with
    | zero => intro i hi; omega
    | succ m ihm =>
      intro i hi his
      by_cases hlt : i < m
      · exact ihm i hlt his
      · have hil : i < listed.size := by rw [hs]; exact his
        by_cases hb : listed[i] = true
        · simp [hil, hb]
        · have : i ∈ Region.ready .any ops listed := (mem_readyM hs).2 ⟨by simp [hil]; simpa using hb, fun k hk => by
            obtain ⟨o, ho, e, he, hbn, rfl⟩ := waitsB_spec hk
            have h1 := List.all_eq_true.1 hB1 i (List.mem_range.2 his)
            rw [ho] at h1
            simp only [Option.map_some, Option.getD_some] at h1
            have h2 := Array.all_eq_true_iff_forall_mem.1 h1 e he
            rw [hbn] at h2
            have h2 : e.on < i := by simpa using h2
            exact ihm e.on (by omega) (by omega)⟩
          rw [hr] at this
          cases this
  intro fuel
  induction fuel with
  | zero =>
    intro listed vs a w h hc
    have hall : ∀ i, i < ops.size → listed.getD i false = true := fun i hi => by
      have hil : i < listed.size := by rw [h.size]; exact hi
      by_cases hb : listed[i] = true
      · simp [hil, hb]
      · have := cntF_pos listed.toList i (by simp [hil]; simpa using hb)
        omega
    refine ⟨?_, hend listed vs a w h hall⟩
    rw [List.eq_nil_iff_forall_not_mem]
    intro i hi
    obtain ⟨hun, _⟩ := (mem_readyM h.size).1 hi
    have hil : i < listed.size := (Array.getElem?_eq_some_iff.1 hun).1
    have := hall i (by rw [← h.size]; exact hil)
    simp [Array.getD_eq_getD_getElem?, hun] at this
  | succ fuel ih =>
    intro listed vs a w h hc
    refine ⟨fun hr => hend listed vs a w h (fun i hi => hlist listed h.size hr (i + 1) i (by omega) hi), fun i hi => ?_⟩
    obtain ⟨hun, hwt⟩ := (mem_readyM h.size).1 hi
    have hil : i < listed.size := (Array.getElem?_eq_some_iff.1 hun).1
    have his : i < ops.size := by rw [← h.size]; exact hil
    have hli : listed.getD i false = false := by simp [Array.getD_eq_getD_getElem?, hun]
    have ho : ops[i]? = some ops[i] := Array.getElem?_eq_getElem his
    refine wpOp_list ho (hop i _ ho a vs w ⟨⟨_, hli, hwt, h.closed, h.gen⟩, fun k hk => h.vals k (hwt k hk), fun k d hk hd => h.slots k d (hwt k hk) hd, fun t ht => h.frame t (fun k hk hd => ?_)⟩ _ (fun v w' hE hv => ih _ _ _ _ (h.step hB hG hcong hst ho hun hwt hE hv) ?_))
    · have hks : k < ops.size := by
        cases hok : ops[k]? with
        | none => rw [hok] at hd; cases hd
        | some _ => exact (Array.getElem?_eq_some_iff.1 hok).1
      have h1 := List.all_eq_true.1 ht k (List.mem_range.2 hks)
      rw [Array.getElem?_eq_getElem hks] at hd h1
      have hd : ops[k].dst = some t := hd
      simp only [Option.map_some, Option.getD_some, hd, bne_self_eq_false, Bool.false_or] at h1
      have h2 := h.closed k i hk h1
      rw [hli] at h2
      cases h2
    · have := cntF_set listed.toList i (by simpa using hun)
      simp only [Array.toList_setIfInBounds]
      omega
theorem cntF_rep (n : Nat) : cntF (List.replicate n false) = n := by
  unfold cntF
  rw [List.filter_eq_self.2 (fun x hx => by rw [(List.mem_replicate.1 hx).2]; rfl), List.length_replicate]
theorem wp_region_made {id : Nat} {a0 : Act} {w : World} (hm : P.follows .mixedOrders = true) (E : Nat → (Nat → Value) → World → World → Value → Prop) (Pr : Nat → (Nat → Value) → World → Value → Prop) (G : (Nat → Bool) → (Nat → Value) → World → Prop)
    (hB : madeB ops a0.tmps.size = true) (h0 : G (fun _ => false) (fun _ => undef) w.drew)
    (hG : ∀ L i w w' vs v, i < ops.size → L i = false → (∀ k, waitsB ops i k = true → L k = true) → G L vs w → E i vs w w' v → Pr i vs w' v → G (fun k => k == i || L k) (updV vs i v) w')
    (hcong : ∀ i vs vs' w v, (∀ k, waitsB ops i k = true → vs k = vs' k) → Pr i vs w v → Pr i vs' w v)
    (hst : ∀ i j vs w w' u v, i ≠ j → waitsB ops j i = false → E i vs w w' u → Pr j vs w v → Pr j vs w' v)
    (hop : ∀ i o, ops[i]? = some o → ∀ a vs w, KnownR ops Pr G a0 i vs a w → ∀ K : Act → World → Prop, (∀ v w', E i vs w w' v → Pr i vs w' v → K (a.put o.dst v) w') → wpList P ops (QK Q K) [o] a w)
    (hfin : ∀ vs w, (∀ i, i < ops.size → Pr i vs w (vs i)) → (∃ L, (∀ i, i < ops.size → L i = true) ∧ G L vs w) → Q .normal (puts vs 0 (dstsR ops) a0) w) : (Code.region id ops true).wp P Q a0 w := by
  refine wp_region_any hm ?_
  have hgf : ∀ k : Nat, (Array.replicate ops.size false).getD k false = false := fun k => by
    simp only [Array.getD_eq_getD_getElem?, Array.getElem?_replicate]
    split <;> rfl
  refine wpAny_made hB hG hcong hst hop hfin _ _ (fun _ => undef) a0 _ ⟨by simp, ?_, fun i k hi => ?_, fun _ _ => rfl, fun i d hi => ?_, fun i hi => ?_, rfl, rfl⟩ ?_
  · have e : (fun k => (Array.replicate ops.size false).getD k false) = fun _ => false := funext hgf
    rw [e]
    exact h0
  · rw [hgf] at hi; cases hi
  · rw [hgf] at hi; cases hi
  · rw [hgf] at hi; cases hi
  · rw [Array.toList_replicate, cntF_rep]
theorem run_callF {f : FuncId} {op : Oper} {a : Act} {w : World} {fn : Func} (hf : P.funcs[f]? = some fn) (hn : (fn.name == "runtime.NumGoroutine") = false) (hb : fn.body.isNone = false) (xs : Array Operand) (tys : Array TypeId) (ho : op.op = .call { callee := .value (.func f), args := xs, argTypes := tys }) : (execOp a.eval op).run P w = .ok (.enter f (xs.map a.eval)) w := by
  unfold execOp
  simp only [ho]
  have hn' : ¬ fn.name = "runtime.NumGoroutine" := by simpa using hn
  have hb' : ¬ fn.body = none := fun e => by rw [e] at hb; cases hb
  simp [resolve, invoke, Act.eval, Deferred.ofValue, callFunc, hf, hn', hb']
theorem wpList_callR {rest : List Oper} {op : Oper} {a : Act} {w : World} {f : FuncId} {fn : Func} (hf : P.funcs[f]? = some fn) (hn : (fn.name == "runtime.NumGoroutine") = false) (hb : fn.body.isNone = false) (hgd : op.guard = none) (xs : Array Operand) (tys : Array TypeId) (ho : op.op = .call { callee := .value (.func f), args := xs, argTypes := tys })
    (args : Array Value) (hargs : xs.map a.eval = args) (R : Ending → World → Prop) (hc : Calls P f args w R) (h : ∀ e w', R e w' → ∃ v, e = .returned v ∧ wpList P ops Q rest (a.put op.dst v) w') : wpList P ops Q (op :: rest) a w := by
  refine wpList_plain hgd fun K hK => ?_
  unfold Oper.wp
  rw [run_callF hf hn hb xs tys ho, Oper.upon_enter, hargs]
  refine hc.mono fun e w'' hh => ?_
  obtain ⟨v, rfl, h2⟩ := h e w'' hh
  exact hK _ _ h2
theorem wpList_pure {rest : List Oper} {op : Oper} {a : Act} {w : World} (hgd : op.guard = none) (v : Value) (hr : (execOp a.eval op).run P w = .ok (.value v) w) (h : wpList P ops Q rest (a.put op.dst v) w) : wpList P ops Q (op :: rest) a w := wpList_run hgd v w hr h
theorem run_move {op : Oper} {a : Act} {w : World} (x : Operand) (ho : op.op = .move x) : (execOp a.eval op).run P w = .ok (.value (a.eval x)) w := by
  unfold execOp
  simp [ho]
theorem run_assign {op : Oper} {a : Act} {w : World} (x : Operand) (ho : op.op = .assign x) : (execOp a.eval op).run P w = .ok (.value (a.eval x)) w := by
  unfold execOp
  simp [ho]
theorem run_extract {op : Oper} {a : Act} {w : World} (x : Operand) (k : Nat) (ho : op.op = .extract x k) (vs : Array Value) (hx : a.eval x = .tuple vs) (v : Value) (hv : vs[k]? = some v) : (execOp a.eval op).run P w = .ok (.value v) w := by
  unfold execOp
  simp [ho, hx, Instr.extract, hv]
end
end Go.Proofs.YtmbdhngoldganaaGreatDoor
namespace Go.Proofs.YtmbdhngoldganaaGreatDoor
open Go Go.RowKit
def Keep46 (w w' : World) : Prop := ∀ b c, Blk w b c 53 → c.size = 6 → ∃ c', Blk w' b c' 53 ∧ c'.size = 6
theorem Keep46.below {w w' : World} (h : Below w.heap.size w w') : Keep46 w w' := fun _ c hb hc => ⟨c, hb.belowSize h, hc⟩
theorem Keep46.two {bs bt : Nat} {w w' : World} {m : List KV} {t : Tr} (hE : EX w bs bt m t) (h : Two bs bt w w') : Keep46 w w' := fun b c hb hc => by
  obtain ⟨mb, h6, _⟩ := hE.st.out
  obtain ⟨q, h4, _⟩ := hE.tr
  exact ⟨c, hb.two h (hb.neT h6 (by decide)) (hb.neT (Blk.of_sh h4) (by decide)), hc⟩
theorem Keep46.store {w w' : World} {g : Nat} {c' : Array Value} (hg : w.grownBy w' (some g)) (hb : Blk w' g c' 53) (hc : c'.size = 6) : Keep46 w w' := fun b c h hs => by
  by_cases e : b = g
  · subst e; exact ⟨c', hb, hc⟩
  · exact ⟨c, h.grown hg (fun e2 => e (Option.some.inj e2)), hs⟩
def AlcP (N : Nat) (w : World) (v : Value) : Prop := ∃ g c, v = .pointer (some ⟨g, 0, none⟩) ∧ N ≤ g ∧ Blk w g c 53 ∧ c.size = 6
end Go.Proofs.YtmbdhngoldganaaGreatDoor
namespace Go.Proofs.YtmbdhngoldganaaGreatDoor
open Go Go.RowKit
def MkQ (w : World) (bs bt : Nat) (m : List KV) (t : Tr) (ht : Nat) (p : List UInt8) (l : List TX) (mem : List Int) (v : Value) (w' : World) : Prop :=
  ∃ lo a cap st dls gm cm, v = .tuple #[.agg (bk ht p (rootD Sh.digest (bys (exD m l))) ((exR m t l).hash Sh.TgD) (.slice (some ⟨gm, 0, none⟩) mem.length cm) (.slice a (exD m l).length cap)), st, .int .i64 0] ∧
    DN w w' bs bt lo (exS m l) (exR m t l) (.slice a (exD m l).length cap) st dls (exD m l) (exE m l) ∧ CB w' gm mem ∧ w.heap.size ≤ gm
theorem MkQ.below {w w1 w2 : World} {bs bt : Nat} {m : List KV} {t : Tr} {ht : Nat} {p : List UInt8} {l : List TX} {mem : List Int} {v : Value} (h : MkQ w bs bt m t ht p l mem v w1) (hb : Below w1.heap.size w1 w2) : MkQ w bs bt m t ht p l mem v w2 := by
  obtain ⟨lo, a, cap, st, dls, gm, cm, e, h1, h2, h3⟩ := h
  exact ⟨lo, a, cap, st, dls, gm, cm, e, h1.below hb, h2.below hb, h3⟩
theorem MkQ.store {w w1 w2 : World} {bs bt : Nat} {m : List KV} {t : Tr} {ht : Nat} {p : List UInt8} {l : List TX} {mem : List Int} {v : Value} {g : Nat} {c : Array Value} (h : MkQ w bs bt m t ht p l mem v w1) (hg : w1.grownBy w2 (some g)) (hb : Blk w1 g c 53) (hN : w.heap.size ≤ g) : MkQ w bs bt m t ht p l mem v w2 := by
  obtain ⟨lo, a, cap, st, dls, gm, cm, e, h1, h2, h3⟩ := h
  exact ⟨lo, a, cap, st, dls, gm, cm, e, h1.other hg hb hN (by decide) (hne7 h1 hb), h2.other hg hb (by decide), h3⟩
theorem MkP.mkQ {w w0 w1 : World} {bs bt : Nat} {m : List KV} {t : Tr} {ht : Nat} {p : List UInt8} {l : List TX} {mem : List Int} {e : Ending} (h : MkP w0 bs bt m t ht p l mem e w1) (hb : Below w.heap.size w w0) (h2 : 2 ≤ w.heap.size) : ∃ v, e = .returned v ∧ MkQ w bs bt m t ht p l mem v w1 := by
  obtain ⟨lo, a, cap, st, dls, gm, cm, e, h1, h3, h4⟩ := h
  exact ⟨_, e, lo, a, cap, st, dls, gm, cm, rfl, h1.start hb h2, h3, Nat.le_trans hb.size h4⟩
theorem MkP.keep {w w' : World} {bs bt : Nat} {m : List KV} {t : Tr} {ht : Nat} {p : List UInt8} {l : List TX} {mem : List Int} {e : Ending} (hE : EX w bs bt m t) (h : MkP w bs bt m t ht p l mem e w') : Keep46 w w' ∧ w.heap.size ≤ w'.heap.size := by
  obtain ⟨lo, a, cap, st, dls, gm, cm, e, h1, _⟩ := h
  exact ⟨Keep46.two hE h1.two, h1.two.size⟩
def KP (N ia ist ie : Nat) (B : Nat → (Nat → Value) → Value → Prop) (i : Nat) (vs : Nat → Value) (w : World) (v : Value) : Prop :=
  (i = ia → AlcP N w v) ∧ (i = ist → ∃ g c, vs ia = .pointer (some ⟨g, 0, none⟩) ∧ vs ie = .agg c ∧ N ≤ g ∧ Blk w g c 53) ∧ B i vs v
end Go.Proofs.YtmbdhngoldganaaGreatDoor
namespace Go.Proofs.YtmbdhngoldganaaGreatDoor
open Go Go.RowKit
def K2E (N im ist : Nat) (Sp : Nat → World → Value → Prop) (QM : Value → World → Prop) (i : Nat) (_ : Nat → Value) (w w' : World) (v : Value) : Prop :=
  (i ≠ im → i ≠ ist → Below w.heap.size w w') ∧ (i = ist → ∃ g c, N ≤ g ∧ Blk w g c 53 ∧ w.grownBy w' (some g)) ∧ Keep46 w w' ∧ Sp i w' v ∧ (i = im → QM v w') ∧ w.heap.size ≤ w'.heap.size
def K2G (N : Nat) (w0 : World) (im : Nat) (Sp : Nat → World → Value → Prop) (QM : Value → World → Prop) (L : Nat → Bool) (vs : Nat → Value) (w : World) : Prop :=
  N ≤ w.heap.size ∧ (L im = false → Below N w0 w ∧ ∀ i, L i = true → Sp i w (vs i)) ∧ (L im = true → QM (vs im) w)
theorem K2G.step {N : Nat} {w0 : World} {im ist : Nat} {Sp : Nat → World → Value → Prop} {QM : Value → World → Prop} {L : Nat → Bool} {vs : Nat → Value} {w w' : World} {i : Nat} {v : Value}
    (hsp : ∀ i w w' v, Sp i w v → Below w.heap.size w w' → Sp i w' v)
    (hq1 : ∀ v w w', QM v w → Below w.heap.size w w' → QM v w') (hq2 : ∀ v w w' g c, QM v w → w.grownBy w' (some g) → Blk w g c 53 → N ≤ g → N ≤ w.heap.size → QM v w')
    (h : K2G N w0 im Sp QM L vs w) (hs : i = ist → L im = true) (hE : K2E N im ist Sp QM i vs w w' v) : K2G N w0 im Sp QM (fun k => k == i || L k) (updV vs i v) w' := by
  obtain ⟨h1, h2, h3⟩ := h
  obtain ⟨e1, e2, _, e4, e5, e6⟩ := hE
  refine ⟨Nat.le_trans h1 e6, fun hf => ?_, fun hf => ?_⟩
  · simp only [Bool.or_eq_false_iff, beq_eq_false_iff_ne] at hf
    obtain ⟨hi, hL⟩ := hf
    have hi2 : i ≠ ist := fun e => by rw [hs e] at hL; cases hL
    have b := e1 (Ne.symm hi) hi2
    obtain ⟨k1, k2⟩ := h2 hL
    refine ⟨k1.trans (b.mono h1), fun j hb => ?_⟩
    by_cases e : j = i
    · subst e; rw [updV_same]; exact e4
    · rw [updV_other e]
      simp [e] at hb
      exact hsp _ _ _ _ (k2 j hb) b
  · by_cases e : im = i
    · subst e; rw [updV_same]; exact e5 rfl
    · rw [updV_other e]
      simp [e] at hf
      by_cases e3 : i = ist
      · obtain ⟨g, c, g1, g2, g3⟩ := e2 e3
        exact hq2 _ _ _ _ _ (h3 hf) g3 g2 g1 h1
      · exact hq1 _ _ _ (h3 hf) (e1 (Ne.symm e) e3)
theorem KP.stay2 {N im ist ia ie : Nat} {Sp : Nat → World → Value → Prop} {QM : Value → World → Prop} {B : Nat → (Nat → Value) → Value → Prop} {i j : Nat} {vs vs' : Nat → Value} {w w' : World} {u v : Value} (hE : K2E N im ist Sp QM i vs w w' u) (hij : i ≠ j) (him : j = ist → i ≠ im) (h : KP N ia ist ie B j vs' w v) : KP N ia ist ie B j vs' w' v := ⟨fun e => by
  obtain ⟨g, c, h1, h2, h3, h4⟩ := h.1 e
  obtain ⟨c', h5, h6⟩ := hE.2.2.1 g c h3 h4
  exact ⟨g, c', h1, h2, h5, h6⟩, fun e => by
  obtain ⟨g, c, h1, h2, h3, h4⟩ := h.2.1 e
  exact ⟨g, c, h1, h2, h3, h4.belowSize (hE.1 (him e) (fun e2 => hij (e2.trans e.symm)))⟩, h.2.2⟩
def SqS (N : Nat) (m : List KV) (w : World) (v : Value) : Prop := ∃ b, v = .pointer (some ⟨b, 0, none⟩) ∧ N ≤ b ∧ ST w b m
def SqT (N : Nat) (t : Tr) (w : World) (v : Value) : Prop := ∃ b q, v = .pointer (some ⟨b, 0, none⟩) ∧ N ≤ b ∧ Sh.Blk w b #[.pointer q] 215 ∧ Sh.HF w t q
theorem SqS.below {N : Nat} {m : List KV} {w w' : World} {v : Value} (h : SqS N m w v) (hb : Below w.heap.size w w') : SqS N m w' v := by
  obtain ⟨g, h1, h2, h3⟩ := h
  exact ⟨g, h1, h2, h3.below hb⟩
theorem SqT.below {N : Nat} {t : Tr} {w w' : World} {v : Value} (h : SqT N t w v) (hb : Below w.heap.size w w') : SqT N t w' v := by
  obtain ⟨g, q, h1, h2, h3, h4⟩ := h
  exact ⟨g, q, h1, h2, h3.belowSize hb, h4.below hb⟩
def MkO (w : World) (m : List KV) (t : Tr) (ht : Nat) (p : List UInt8) (l : List TX) (mem : List Int) (v : Value) (w' : World) : Prop := ∃ bu bv, w.heap.size ≤ bu ∧ w.heap.size ≤ bv ∧ MkQ w bu bv m t ht p l mem v w'
theorem MkO.below {w w1 w2 : World} {m : List KV} {t : Tr} {ht : Nat} {p : List UInt8} {l : List TX} {mem : List Int} {v : Value} (h : MkO w m t ht p l mem v w1) (hb : Below w1.heap.size w1 w2) : MkO w m t ht p l mem v w2 := by
  obtain ⟨bu, bv, h1, h2, h3⟩ := h
  exact ⟨bu, bv, h1, h2, h3.below hb⟩
theorem MkO.store {w w1 w2 : World} {m : List KV} {t : Tr} {ht : Nat} {p : List UInt8} {l : List TX} {mem : List Int} {v : Value} {g : Nat} {c : Array Value} (h : MkO w m t ht p l mem v w1) (hg : w1.grownBy w2 (some g)) (hb : Blk w1 g c 53) (hN : w.heap.size ≤ g) : MkO w m t ht p l mem v w2 := by
  obtain ⟨bu, bv, h1, h2, h3⟩ := h
  exact ⟨bu, bv, h1, h2, h3.store hg hb hN⟩
def MkN (w : World) (er : Int) (v : Value) (w' : World) : Prop := v = .tuple #[.agg (bk 0 [] [] [] (.slice none 0 0) (.slice none 0 0)), .slice none 0 0, .int .i64 er] ∧ Below w.heap.size w w'
theorem MkN.below {w w1 w2 : World} {er : Int} {v : Value} (h : MkN w er v w1) (hb : Below w1.heap.size w1 w2) : MkN w er v w2 := ⟨h.1, h.2.trans (hb.mono h.2.size)⟩
theorem MkN.store {w w1 w2 : World} {er : Int} {v : Value} {g : Nat} (h : MkN w er v w1) (hg : w1.grownBy w2 (some g)) (hN : w.heap.size ≤ g) : MkN w er v w2 := ⟨h.1, h.2.trans (below_of_grown hg hN h.2.size)⟩
end Go.Proofs.YtmbdhngoldganaaGreatDoor
