/- What WalReads tells: whatever bytes segments have, they are read up to the first frame that is not right. -/
import Derived.Test.YtaiiojbakmminaaGreatDoorWpl
import Derived.Test.YtaiiojbakmminaaGreatDoorUg
import Derived.Test.YtaiiojbakmminaaGreatDoorWge
import Derived.Deep.CutBlock
import Derived.Deep.CutRange
namespace Go.Proofs.YtaiiojbakmminaaGreatDoor
open Go Go.RowKit
section
variable {ops : Array Oper} {rest : List Oper} {op : Oper} {a : Act} {w : World} {Q : Exit → Act → World → Prop}
theorem wpList_tsE (hgd : op.guard = none) (ho : op.op = .buildSlice 30 0 #[])
    (h : ∀ w1 : World, Below w.heap.size w w1 → TS w1 (.slice (some ⟨w.heap.size, 0, none⟩) 0 0) (some w.heap.size) [] → wpList Tryz.prog ops Q rest (a.put op.dst (.slice (some ⟨w.heap.size, 0, none⟩) 0 0)) w1) : wpList Tryz.prog ops Q (op :: rest) a w := by
  refine wpList_run hgd _ _ ?_ (h _ ((Below.refl _ _).alloc (Nat.le_refl _) _) ⟨.inr ⟨w.heap.size, 0, 0, #[], rfl, rfl, (Blk.new _ _ _).out, by simp, by simp, fun j x hx => by simp at hx⟩⟩)
  unfold execOp
  simp only [ho, Sem.run_bind, Array.map_empty, tsl0, Result.andThen_ok]
  rfl
theorem iU8 : (Tryz.prog.info? 5).map (·.size) = some 1 := by kernel_rfl
theorem bslY (z : Int) (w : World) : (Instr.buildSlice 50 1 #[(0, .int .u8 z)]).run Tryz.prog w = .ok (.slice (some ⟨w.heap.size, 0, none⟩) 1 1) (w.alloc (.cells #[.int .u8 z] 5)) := by
  simp [Instr.buildSlice, run_underlying Tryz.underlying50, sizeOf_run iU8, Sem.run_bind, Instr.fill, newRow, Tryz.zeroValue5, Value.cells, krange1]
/-- A slice of one byte. -/
theorem wpList_bsl1 (hgd : op.guard = none) (x : Operand) (ho : op.op = .buildSlice 50 1 #[(0, x)]) (c : UInt8) (hx : a.eval x = .int .u8 (n8 c))
    (h : ∀ w1 : World, Below w.heap.size w w1 → Blk w1 w.heap.size (row8 (fun _ => c) 1) 5 → wpList Tryz.prog ops Q rest (a.put op.dst (.slice (some ⟨w.heap.size, 0, none⟩) 1 1)) w1) : wpList Tryz.prog ops Q (op :: rest) a w := by
  have e : (#[(0, x)] : Array (Nat × Operand)).map (fun (i, x) => (i, a.eval x)) = #[(0, .int .u8 (n8 c))] := by simp [hx]
  refine wpList_run hgd _ _ ?_ (h _ ((Below.refl _ _).alloc (Nat.le_refl _) _) (Blk.new _ _ _))
  unfold execOp
  simp only [ho, Sem.run_bind, e, bslY, Result.andThen_ok]
  rfl
end
/-- A slice of texts within a slice. -/
structure SG where
  a : Option Addr
  l : List B
  c : Nat
/-- Slices of texts lie at an address. -/
structure SA (w : World) (ad : Option Addr) (l : List SG) : Prop where
  out : ∀ (i : Nat) (x : SG), l[i]? = some x → ∃ g o, ad = some ⟨g, o, none⟩ ∧ w.cell? ⟨g, o + i, none⟩ = some (.slice x.a x.l.length x.c) ∧ XA w x.a x.l ∧ x.l.length ≤ x.c
theorem cut_len (l : List B) : (cutL l).length ≤ 6 := by unfold cutL; rw [List.length_map, List.length_take]; omega
theorem cut_mem {l : List B} {x : B} (h : x ∈ cutL l) : x.length ≤ 200 := by
  obtain ⟨y, _, rfl⟩ := List.mem_map.1 h
  unfold c200
  rw [List.length_take]
  omega
theorem frs_cutl (l : List B) : (frs (cutL l)).length ≤ 1248 := frs_cut (cut_len l) (fun _ hx => cut_mem hx)
/-- The bytes of a segment. -/
def txT (R : B) (sl : List SG) (i : Nat) : B := frs (cutL ((sl.getD i ⟨none, [], 0⟩).l)) ++ (if i = 1 then R else [])
def txsN (R : B) (sl : List SG) (i : Nat) : List B := (List.range i).map (txT R sl)
theorem txs_succ (R : B) (sl : List SG) (i : Nat) : txsN R sl (i + 1) = txsN R sl i ++ [txT R sl i] := by unfold txsN; rw [List.range_succ, List.map_append]; rfl
theorem txs_len (R : B) (sl : List SG) (i : Nat) : (txsN R sl i).length = i := by unfold txsN; simp
theorem txT_len {R : B} (sl : List SG) (i : Nat) (hR : R.length ≤ 2000) : (txT R sl i).length ≤ 3248 := by
  unfold txT
  have := frs_cutl ((sl.getD i ⟨none, [], 0⟩).l)
  rw [List.length_append]
  by_cases h : i = 1
  · rw [if_pos h]; omega
  · rw [if_neg h, List.length_nil]; omega
theorem txT_at {R : B} {sl : List SG} {i : Nat} {x : SG} (h : sl[i]? = some x) : txT R sl i = frs (cutL x.l) ++ (if i = 1 then R else []) := by
  unfold txT
  rw [List.getD_eq_getElem?_getD, h]
  rfl
theorem txs_mem {R : B} {sl : List SG} {i : Nat} {t : B} (hR : R.length ≤ 2000) (h : t ∈ txsN R sl i) : t.length ≤ 3248 := by
  obtain ⟨j, _, rfl⟩ := List.mem_map.1 h
  exact txT_len sl j hR
theorem unfT_few (s : B) : (unfT s).1.length ≤ s.length := unfF_len _ s
theorem rd_few {R : B} {sl : List SG} (hR : R.length ≤ 2000) : ∀ i, (rdS (txsN R sl i)).1.length ≤ i * 3248 ∧ (rdS (txsN R sl i)).2.1 ≤ i * 3248
  | 0 => ⟨Nat.le_refl _, Nat.le_refl _⟩
  | i + 1 => by
    have h1 := rd_few (sl := sl) hR i
    have h2 := txT_len sl i hR
    have h3 := unfT_few (txT R sl i)
    rw [txs_succ, rdS_snoc]
    split
    · exact ⟨by dsimp only; omega, by dsimp only; omega⟩
    · refine ⟨?_, ?_⟩
      · show ((rdS (txsN R sl i)).1 ++ _).length ≤ _
        rw [List.length_append]
        omega
      · show (rdS (txsN R sl i)).2.1 + (_ - _) ≤ _
        omega
theorem few_flat {R : B} {sl : List SG} (hR : R.length ≤ 2000) : ∀ i, (((txsN R sl i).map fun t => (unfT t).1).flatten).length ≤ i * 3248
  | 0 => Nat.le_refl _
  | i + 1 => by
    have h1 := few_flat (sl := sl) hR i
    have h2 := txT_len sl i hR
    have h3 := unfT_few (txT R sl i)
    have e : ([txT R sl i].map fun t => (unfT t).1).flatten = (unfT (txT R sl i)).1 := by simp
    rw [txs_succ, List.map_append, List.flatten_append, List.length_append, e]
    omega
/-- A segment more, beside others. -/
theorem dx_more {P : PP} {g : Nat} {bt : B} {txs : List B} (h : Dx P g bt txs) (t : B) (hn : txs.length < 90) (hl : P.length ≤ 299) : Dx (putP (segN g (txs.length + 1)) (some t) P) g bt (txs ++ [t]) := by
  have hgl := h.g2
  refine ⟨putP_ris h.ris, h.g1, h.g2, by simp; omega, ?_, fun i u hu => ?_, fun x hx => ?_, ?_⟩
  · rw [getP_put, if_neg (base_seg _ _ _)]; exact h.base
  · rw [getP_put]
    by_cases e : i = txs.length
    · subst e
      rw [if_pos rfl]
      simpa using hu
    · have hi : i < txs.length := by
        have := (List.getElem?_eq_some_iff.1 hu).1
        simp at this
        omega
      rw [if_neg (fun e2 => e (by have := (seg_inj hgl hgl (by omega) (by omega) e2).2; omega))]
      rw [List.getElem?_append_left hi] at hu
      exact h.seg i u hu
  · refine putP_names (q := fun n => n = baseN g ∨ (∃ i, i < (txs ++ [t]).length ∧ n = segN g (i + 1)) ∨ Oth g n) (fun y hy => ?_) (fun _ => .inr (.inl ⟨txs.length, by simp, rfl⟩)) x hx
    rcases h.only y hy with e | ⟨i, hi, e⟩ | e
    · exact .inl e
    · exact .inr (.inl ⟨i, by simp; omega, e⟩)
    · exact .inr (.inr e)
  · have := putP_len (n := segN g (txs.length + 1)) (c := some t) (P := P)
    omega
/-- What another file is. -/
theorem dx_oth {P : PP} {g : Nat} {bt : B} (h : Dx P g bt []) (n s : B) (ho : Oth g n) (hl : P.length ≤ 299) : Dx (putP n (some s) P) g bt [] := by
  have hb : n ≠ baseN g := fun e => by
    have := ho.oth h.g2
    rw [e, oth_base h.g2 h.g2] at this
    simp at this
  refine ⟨putP_ris h.ris, h.g1, h.g2, h.n, by rw [getP_put, if_neg (fun e => hb e.symm)]; exact h.base, fun i t ht => by simp at ht, fun x hx => ?_, by have := putP_len (n := n) (c := some s) (P := P); omega⟩
  refine putP_names (q := fun n => n = baseN g ∨ (∃ i, i < ([] : List B).length ∧ n = segN g (i + 1)) ∨ Oth g n) (fun y hy => h.only y hy) (fun _ => .inr (.inr ho)) x hx
theorem dx_first (bt : B) : Dx (putP (baseN 4) (some bt) []) 4 bt [] :=
  ⟨putP_ris (by simp [RisP]), by decide, by decide, by simp, by rw [getP_put, if_pos rfl], fun i t ht => by simp at ht, fun x hx => .inl (by
    have e : putP (baseN 4) (some bt) [] = [(baseN 4, bt)] := rfl
    rw [e] at hx
    rw [List.mem_singleton.1 hx]), Nat.le_trans (putP_len (n := baseN 4) (c := some bt) (P := [])) (by decide)⟩
def P0 (bt : B) : PP := putP (newN 5) (some [120]) (putP (segN 2 1) (some [101, 108, 100, 101, 114]) (putP (baseN 2) (some [101, 108, 100, 101, 114]) (putP (baseN 4) (some bt) [])))
theorem dx_P0 (bt : B) : Dx (P0 bt) 4 bt [] ∧ (P0 bt).length ≤ 4 ∧ usedP (P0 bt) ≤ bt.length + 11 := by
  have l1 := putP_len (n := baseN 4) (c := some bt) (P := [])
  have l2 := putP_len (n := baseN 2) (c := some [101, 108, 100, 101, 114]) (P := putP (baseN 4) (some bt) [])
  have l3 := putP_len (n := segN 2 1) (c := some [101, 108, 100, 101, 114]) (P := putP (baseN 2) (some [101, 108, 100, 101, 114]) (putP (baseN 4) (some bt) []))
  have l4 := putP_len (n := newN 5) (c := some [120]) (P := putP (segN 2 1) (some [101, 108, 100, 101, 114]) (putP (baseN 2) (some [101, 108, 100, 101, 114]) (putP (baseN 4) (some bt) [])))
  have l0 : ([] : PP).length = 0 := rfl
  have d1 := dx_first bt
  have d2 := dx_oth d1 (baseN 2) [101, 108, 100, 101, 114] (.base 2 (by decide) (by decide)) (by omega)
  have d3 := dx_oth d2 (segN 2 1) [101, 108, 100, 101, 114] (.seg 2 1 (by decide) (by decide) (by decide)) (by omega)
  have d4 := dx_oth d3 (newN 5) [120] (.new 5 (by decide)) (by omega)
  have u1 := usedP_put (n := baseN 4) (c := some bt) (P := []) (by simp [RisP])
  have u2 := usedP_put (n := baseN 2) (c := some [101, 108, 100, 101, 114]) d1.ris
  have u3 := usedP_put (n := segN 2 1) (c := some [101, 108, 100, 101, 114]) d2.ris
  have u4 := usedP_put (n := newN 5) (c := some [120]) d3.ris
  have e0 : usedP ([] : PP) = 0 := rfl
  have e1 : (kbyt (some bt)).length = bt.length := rfl
  have e2 : (kbyt (some ([101, 108, 100, 101, 114] : B))).length = 5 := rfl
  have e3 : (kbyt (some ([120] : B))).length = 1 := rfl
  refine ⟨d4, by unfold P0; omega, ?_⟩
  unfold P0
  omega
theorem p0_used (bt : B) : usedP (putP [98, 97, 115, 101, 45, 52] (some bt) []) ≤ bt.length ∧ usedP (putP [98, 97, 115, 101, 45, 50] (some [101, 108, 100, 101, 114]) (putP [98, 97, 115, 101, 45, 52] (some bt) [])) ≤ bt.length + 5 ∧ usedP (putP [115, 101, 103, 45, 50, 45, 49] (some [101, 108, 100, 101, 114]) (putP [98, 97, 115, 101, 45, 50] (some [101, 108, 100, 101, 114]) (putP [98, 97, 115, 101, 45, 52] (some bt) []))) ≤ bt.length + 10 := by
  have r0 : RisP ([] : PP) := by simp [RisP]
  have r1 := putP_ris (n := [98, 97, 115, 101, 45, 52]) (c := some bt) r0
  have r2 := putP_ris (n := [98, 97, 115, 101, 45, 50]) (c := some [101, 108, 100, 101, 114]) r1
  have u1 := usedP_put (n := [98, 97, 115, 101, 45, 52]) (c := some bt) r0
  have u2 := usedP_put (n := [98, 97, 115, 101, 45, 50]) (c := some [101, 108, 100, 101, 114]) r1
  have u3 := usedP_put (n := [115, 101, 103, 45, 50, 45, 49]) (c := some [101, 108, 100, 101, 114]) r2
  have e0 : usedP ([] : PP) = 0 := rfl
  have e1 : (kbyt (some bt)).length = bt.length := rfl
  have e2 : (kbyt (some ([101, 108, 100, 101, 114] : B))).length = 5 := rfl
  omega
theorem nm4 : baseN 4 = [98, 97, 115, 101, 45, 52] := by decide
theorem nm2 : baseN 2 = [98, 97, 115, 101, 45, 50] := by decide
theorem nm21 : segN 2 1 = [115, 101, 103, 45, 50, 45, 49] := by decide
theorem nm5 : newN 5 = [98, 97, 115, 101, 45, 53, 46, 110, 101, 119] := by decide
theorem P0_eq (bt : B) : putP [98, 97, 115, 101, 45, 53, 46, 110, 101, 119] (some [120]) (putP [115, 101, 103, 45, 50, 45, 49] (some [101, 108, 100, 101, 114]) (putP [98, 97, 115, 101, 45, 50] (some [101, 108, 100, 101, 114]) (putP [98, 97, 115, 101, 45, 52] (some bt) []))) = P0 bt := by
  unfold P0
  rw [nm4, nm2, nm21, nm5]
theorem seg_name {i : Nat} (h : i < 4) : ([115, 101, 103, 45, 52, 45] ++ [UInt8.ofNat (48 + (i + 1))] : B) = segN 4 (i + 1) := by
  obtain rfl | rfl | rfl | rfl : i = 0 ∨ i = 1 ∨ i = 2 ∨ i = 3 := by omega
  all_goals decide
theorem u8_name {i : Nat} (h : i < 4) : IntKind.u8.wrap (48 + ((i : Int) + 1)) = n8 (UInt8.ofNat (48 + (i + 1))) := by
  obtain rfl | rfl | rfl | rfl : i = 0 ∨ i = 1 ∨ i = 2 ∨ i = 3 := by omega
  all_goals decide
/-- Open where the base has no bytes. -/
theorem dc_bare {w wl : World} {p k : Nat} {P : PP} (h : Dc w wl p P k) (hG : Gw w) (hk : k ≤ 1000) (txs : List B) (hX : Dx P 4 [] txs) (hu : usedP P ≤ 4000000) :
    Calls Tryz.prog 10 #[.pointer (some ⟨p, 0, none⟩), .int .i64 100] wl fun e w' => e = .returned (.tuple #[.pointer none, .int .i64 0, .int .i64 6]) ∧ Below w.heap.size w w' := by
  obtain ⟨b, room, ch, h1, h2, h3⟩ := h.out
  have h2g := hG.two
  refine (open_bare p 4 b (cm P room ch) 100 P txs (by decide) wl hX rfl h2 (Nat.le_trans h2g h.p) (fun j e => Nat.le_trans h2g (h3 j e)) (hG.below h.bel) (dx_okn hX room ch (by omega) (by omega)) rfl).mono ?_
  rintro e w' ⟨rfl, q, b', rb', hq, hW⟩
  obtain ⟨hlo, _, _⟩ := wch_low hW h.bel.size (Nat.le_trans h.bel.size hq) h.p h3 (fun k e => by cases e)
  exact ⟨rfl, h.bel.trans hlo⟩
/-- A slice without its first. -/
def sl1 (g o n c : Nat) : Value := if c = 1 then .slice (some ⟨g, o, none⟩) 0 0 else .slice (some ⟨g, o + 1, none⟩) n (c - 1)
theorem run_sl1 {op : Oper} {a : Act} {w : World} (x : Operand) (ho : op.op = .slice 30 x (some (.const (.int .i64 1))) none none) (g o n c : Nat) (hx : a.eval x = .slice (some ⟨g, o, none⟩) (n + 1) c) (hc : n + 1 ≤ c) : (execOp a.eval op).run Tryz.prog w = .ok (.value (sl1 g o n c)) w := by
  have hu := Tryz.underlying30
  unfold execOp
  simp only [ho, hx]
  unfold sl1
  by_cases e : c = 1
  · have hn : n = 0 := by omega
    subst e hn
    rw [if_pos rfl]
    go_simp
  · rw [if_neg e]
    go_simp
    try (intro h; omega)
theorem ts_sl1 {w : World} {fb : Option Nat} {a : Option Addr} {c : Nat} {s : B} {k : List B} (h : TS w (.slice a (k.length + 1) c) fb (s :: k)) : ∃ g o, a = some ⟨g, o, none⟩ ∧ k.length + 1 ≤ c ∧ w.cell? ⟨g, o, none⟩ = some (.string ⟨s.toArray⟩) ∧ ∃ a1 c1, sl1 g o k.length c = .slice a1 k.length c1 ∧ TA w a1 k := by
  rcases h.out with ⟨h1, _⟩ | ⟨g', o, cap, cur, h1, h2, h3, h4, h5, h6⟩
  · cases h1
  · simp only [Value.slice.injEq] at h1
    obtain ⟨rfl, _, rfl⟩ := h1
    rw [List.length_cons] at h4
    have hc0 := h6 0 s rfl
    refine ⟨g', o, rfl, h4, (show w.cell? ⟨g', o, none⟩ = some (sv s) from by simpa [World.cell?, h3] using hc0), ?_⟩
    unfold sl1
    by_cases e : c = 1
    · rw [if_pos e]
      have : k = [] := List.length_eq_zero_iff.1 (by omega)
      subst this
      exact ⟨_, _, rfl, TA.nil _ _⟩
    · rw [if_neg e]
      exact ⟨_, _, rfl, ⟨.inr ⟨g', o + 1, cur, (0, 0), rfl, h3, fun j x hx => by
        have := h6 (j + 1) x (by simpa using hx)
        rwa [show o + (j + 1) = o + 1 + j by omega] at this⟩⟩⟩
theorem oth_not {y : B} (h : othK 4 y = false) : y ≠ [98, 97, 115, 101, 45, 50] ∧ y ≠ [115, 101, 103, 45, 50, 45, 49] ∧ y ≠ [98, 97, 115, 101, 45, 53, 46, 110, 101, 119] := by
  refine ⟨fun e => ?_, fun e => ?_, fun e => ?_⟩
  · rw [e, ← nm2, oth_base (by decide) (by decide)] at h; simp at h
  · rw [e, ← nm21, oth_seg (by decide) (by decide)] at h; simp at h
  · rw [e, ← nm5, oth_new (by decide)] at h; simp at h
set_option maxRecDepth 100000 in
set_option maxHeartbeats 8000000 in
theorem walReads_any (rl : List B) (ra : Option Addr) (rc : Nat) (sl : List SG) (sa : Option Addr) (sc : Nat) (rest : B) (w : World) (hG : Gw w) (hR : XA w ra rl) (hrc : rl.length ≤ rc) (hS : SA w sa sl) (hrs : rest.length ≤ 9223372036854775807) :
    Calls Tryz.prog 5 #[.slice ra rl.length rc, .slice sa sl.length sc, .string ⟨rest.toArray⟩] w fun e w' => e = .returned (.bool true) ∧ Below w.heap.size w w' := by
  have HN := newD w
  have HC := fun w1 (hB : Below w.heap.size w w1) => cut_any rl ra rc w1 (hR.below hB) hrc
  obtain ⟨K, hK⟩ : ∃ K, Hid (cutL rl = K) := ⟨_, rfl⟩
  obtain ⟨R, hRd⟩ : ∃ R, Hid (rest.take 2000 = R) := ⟨_, rfl⟩
  have hRl : R.length ≤ 2000 := by rw [← hRd.out, List.length_take]; omega
  have hK6 : K.length ≤ 6 := by rw [← hK.out]; exact cut_len rl
  have hKm : ∀ x ∈ K, x.length ≤ 200 := fun x hx => cut_mem (l := rl) (by rw [hK.out]; exact hx)
  rw [hK.out] at HC
  go_enter Tryz.func5, Tryz.ntmps5
  go_upto_if 32 with (go_at_call 9; refine HN.mono ?_; rintro e w1 ⟨rfl, hw1, hD1⟩)
  have hDs1 : Ds w w1 w.heap.size [] 0 := ⟨⟨none, _, hD1, lz_new 0, fun j e => by cases e⟩, hw1, Nat.le_refl _⟩
  clear HN hD1
  go_cut [2] from 30 to 34 (fun s2 wx => s2 = .string ⟨R.toArray⟩ ∧ wx = w1)
  case first =>
    by_cases h1 : 2000 < rest.length
    · have hz1 : (2000 : Int) < (rest.length : Int) := by omega
      have hex : (ByteArray.mk rest.toArray).extract 0 2000 = ⟨R.toArray⟩ := by rw [← hRd.out]; exact kextract_take rest 2000
      go_wp2_with fail
      go_meet
      case rel => exact ⟨rfl, rfl⟩
    · have hz1 : ¬ (2000 : Int) < (rest.length : Int) := by omega
      have e : rest = R := by rw [← hRd.out, List.take_of_length_le (by omega)]
      go_wp2_with fail
      go_meet
      case rel => exact ⟨rfl, rfl⟩
  case rest =>
    obtain ⟨e2, hwx⟩ := hcut
    subst e2
    have hwx2 := hwx.symm; subst hwx2; clear hwx
    clear hRd
    go_wp2_with (with_reducible refine at_list ?_; refine wpList_tsE (op := ⟨some 35, _, _, _, _, _⟩) rfl rfl ?_; intro w2 hw2 hT2)
    have hDs2 := hDs1.below hw2
    have hlo2 := hDs1.bel.size
    go_loopw [8, 9, 10] (fun v8 v9 v10 wl => ∃ (i : Nat) (fb : Option Nat), i ≤ K.length ∧ v8 = .string ⟨(frs (K.take i)).toArray⟩ ∧ v10 = .int .i64 i ∧ TS wl v9 fb (K.take i) ∧ (∀ j, fb = some j → w.heap.size ≤ j) ∧ Ds w wl w.heap.size [] 0) (fun _ _ v10 _ => K.length - (intOf v10).toNat)
    case atStart => exact ⟨0, some w1.heap.size, by omega, rfl, rfl, hT2, fun j e => by cases e; exact hlo2, hDs2⟩
    case round =>
      clear hDs1 hDs2 hT2 hw2 hw1 hlo2
      obtain ⟨i, fb, hil, rfl, rfl, hT, hlo, hDs⟩ := hrel
      have HC1 := HC wr hDs.bel
      have hsz := hDs.bel.size
      by_cases hlt : i < K.length
      · have hz2 : (i : Int) < (K.length : Int) := by omega
        obtain ⟨y, hy⟩ : ∃ y, K[i]? = some y := ⟨_, List.getElem?_eq_getElem hlt⟩
        have hyl := hKm y (List.mem_of_getElem? hy)
        have HF := fun w => rframe_any y w (by omega)
        have efr : Hid (frs (K.take (i + 1)) = frs (K.take i) ++ frame y) := frs_take hy
        have etk : Hid (K.take (i + 1) = K.take i ++ [y]) := take_snoc hy
        have hfl := frame_len y
        have hsl : (frs (K.take i)).length ≤ 1248 := frs_cut (by rw [List.length_take]; omega) (fun x hx => hKm x (List.mem_of_mem_take hx))
        have hcat : ¬ 9223372036854775807 < (frs (K.take i)).length + (frame y).length := by omega
        have hfew : (K.take i).length + [y].length ≤ 1000000 := by simp; omega
        generalize frs (K.take i) = F0 at *
        generalize frame y = fy at *
        go_wp2_with (first
          | (go_at_call 13; first
             | (refine HC1.mono ?_; rintro e w3 ⟨v3, rb3, rfl, hw3, hT3, _⟩; clear HC1; obtain ⟨a3, c3, rfl, _⟩ := hT3.sl; have hDs3 := hDs.below hw3; have HC2 := HC w3 hDs3.bel)
             | (refine HC2.mono ?_; rintro e w4 ⟨v4, rb4, rfl, hw4, hT4, _⟩; clear HC2; obtain ⟨a4, c4, rfl, hc4, _⟩ := hT4.sl; have hDs4 := hDs3.below hw4; obtain ⟨g4, o4, rfl, hcell4⟩ := hc4 i y hy; replace hcell4 : w4.cell? ⟨g4, o4 + i, none⟩ = some (.string ⟨y.toArray⟩) := hcell4)
             | (refine HC5.mono ?_; rintro e w6 ⟨v6, rb6, rfl, hw6, hT6, _⟩; clear HC5; obtain ⟨a6, c6, rfl, hc6, _⟩ := hT6.sl; have hDs6 := hDs5.below hw6; obtain ⟨g6, o6, rfl, hcell6⟩ := hc6 i y hy; replace hcell6 : w6.cell? ⟨g6, o6 + i, none⟩ = some (.string ⟨y.toArray⟩) := hcell6))
          | (go_at_call 24; refine (HF _).mono ?_; rintro e w5 ⟨rfl, hw5⟩; have hDs5 := hDs4.below hw5; have HC5 := HC w5 hDs5.bel)
          | ((with_reducible (refine at_list ?_; refine wpList_tsl1 (op := ⟨some 57, _, _, _, _, _⟩) rfl _ rfl y rfl ?_)); intro w7 hw7 hb7; have hTA := ta_blk hb7; have hDs7 := hDs6.below hw7; have hT7 := ((((hT.below hw3).below hw4).below hw5).below hw6).below hw7)
          | ((with_reducible (refine at_list ?_; refine wpList_appTS (op := ⟨some 58, _, _, _, _, _⟩) rfl _ _ rfl u9 fb (K.take i) hT7 rfl (some ⟨w6.heap.size, 0, none⟩) 1 [y] hTA rfl hfew ?_)); intro w8 v8 fb8 hg8 hn8 hT8; have hDs8 := hDs7.row hg8 hT7.sb hlo))
        go_roundw
        case rel =>
          refine ⟨i + 1, fb8, by omega, ?_, by go_num, by rw [etk.out]; exact hT8, fun j e => ?_, hDs8⟩
          · rw [efr.out, ← mkA2]
          · rcases hn8 j e with h5 | h5
            · exact hlo j h5
            · have := hDs7.bel.size; omega
        case measure => simp [intOf]; omega
      · have hz2 : ¬ (i : Int) < (K.length : Int) := by omega
        have hin : K.take i = K := List.take_of_length_le (by omega)
        rw [hin] at hT ⊢
        have hBl : (frs K).length ≤ 1248 := frs_cut hK6 hKm
        obtain ⟨BT, hBT⟩ : ∃ b, Hid (frs K = b) := ⟨_, rfl⟩
        rw [hBT.out] at hBl ⊢
        obtain ⟨hu1, hu2, hu3⟩ := p0_used BT
        have hu0 : usedP ([] : PP) = 0 := rfl
        clear hin
        go_wp2_with (first
          | (go_at_call 13; refine HC1.mono ?_; rintro e w3 ⟨v3, rb3, rfl, hw3, hT3, _⟩; clear HC1; obtain ⟨a3, c3, rfl, _⟩ := hT3.sl; have hDs3 := hDs.below hw3; have HA3 := awakeW w3 (hG.below hDs3.bel))
          | (go_at_call 11; refine HA3.mono ?_; rintro e w4 ⟨rfl, hw4⟩; have hDs4 := hDs3.below hw4; have W1 := ds_write hDs4 [98, 97, 115, 101, 45, 52] BT (by decide) (by decide) (by decide) (by omega))
          | (go_at_call 25; first
            | (refine W1.mono ?_; rintro e w5 ⟨rfl, hDs5, hKo5⟩; clear W1; have W2 := ds_write hDs5 [98, 97, 115, 101, 45, 50] [101, 108, 100, 101, 114] (by decide) (by decide) (by decide) (by have e : ([101, 108, 100, 101, 114] : B).length = 5 := rfl; omega))
            | (refine W2.mono ?_; rintro e w6 ⟨rfl, hDs6, hKo6⟩; clear W2; have W3 := ds_write hDs6 [115, 101, 103, 45, 50, 45, 49] [101, 108, 100, 101, 114] (by decide) (by decide) (by decide) (by have e : ([101, 108, 100, 101, 114] : B).length = 5 := rfl; omega))
            | (refine W3.mono ?_; rintro e w7 ⟨rfl, hDs7, hKo7⟩; clear W3; have W4 := ds_write hDs7 [98, 97, 115, 101, 45, 53, 46, 110, 101, 119] [120] (by decide) (by decide) (by decide) (by have e : ([120] : B).length = 1 := rfl; omega))
            | (refine W4.mono ?_; rintro e w8 ⟨rfl, hDs8, hKo8⟩; clear W4; rw [P0_eq] at hDs8)))
        replace hDs8 : Ds w w8 w.heap.size (P0 BT) 4 := hDs8
        have hT8 := hKo8.ts (hKo7.ts (hKo6.ts (hKo5.ts ((hT.below hw3).below hw4))))
        obtain ⟨hdx0, hpl0, hpu0⟩ := dx_P0 BT
        clear hT hw3 hw4 hKo5 hKo6 hKo7 hKo8 hDs3 hDs4 hDs5 hDs6 hDs7 hDs hT3 hu0 hu1 hu2 hu3 hz2 HC
        go_loopw [9, 11, 12, 13, 14, 15, 16, 17, 18, 19, 20] (fun v9 v11 v12 v13 v14 _ _ _ _ _ _ wl => ∃ (i : Nat) (fb : Option Nat) (P : PP), i ≤ sl.length ∧ i ≤ 4 ∧ v11 = .int .i64 i ∧ v12 = .int .i64 ((rdS (txsN R sl i)).2.1 : Nat) ∧ v13 = .bool (rdS (txsN R sl i)).2.2 ∧ v14 = .int .i64 i ∧ TS wl v9 fb (K ++ (rdS (txsN R sl i)).1) ∧ (∀ j, fb = some j → w.heap.size ≤ j) ∧ Ds w wl w.heap.size P (4 + i) ∧ Dx P 4 BT (txsN R sl i) ∧ P.length ≤ 4 + i ∧ usedP P ≤ 2000 + i * 3248) (fun _ _ _ _ v14 _ _ _ _ _ _ _ => 4 - (intOf v14).toNat)
        case atStart => exact ⟨0, fb, P0 BT, by omega, by omega, rfl, rfl, rfl, rfl, by rw [show (rdS (txsN R sl 0)).1 = [] from rfl, List.append_nil]; exact hT8, hlo, hDs8, hdx0, hpl0, by omega⟩
        case round =>
          clear hT8 hDs8 hdx0 hpl0 hpu0 hlo
          obtain ⟨i, fb, P, hil, hi4, rfl, rfl, rfl, rfl, hT, hlo, hDs, hdx, hpl, hpu⟩ := hrel
          by_cases hlt : i < sl.length ∧ i < 4
          · obtain ⟨hlt1, hlt2⟩ := hlt
            have hz1 : (i : Int) < (sl.length : Int) := by omega
            have hz2 : (i : Int) < (4 : Int) := by omega
            obtain ⟨x, hx⟩ : ∃ x, sl[i]? = some x := ⟨_, List.getElem?_eq_getElem hlt1⟩
            have hSx := hS.out i x hx
            have htx := txT_at (R := R) hx
            have htxl := txT_len sl i hRl
            obtain ⟨g, o, rfl, hc0, hXx, hxc⟩ := hSx
            have hCS := fun w1 (hB : Below w.heap.size w w1) => (hB.cell (World.block_lt_of_cell? w ⟨g, o + i, none⟩ hc0)).trans hc0
            have HCx := fun w1 (hB : Below w.heap.size w w1) => cut_any x.l x.a x.c w1 (hXx.below hB) hxc
            obtain ⟨C, hC⟩ : ∃ C, Hid (cutL x.l = C) := ⟨_, rfl⟩
            have hC6 : C.length ≤ 6 := by rw [← hC.out]; exact cut_len x.l
            have hCm : ∀ y ∈ C, y.length ≤ 200 := fun y hy => cut_mem (l := x.l) (by rw [hC.out]; exact hy)
            rw [hC.out] at HCx htx
            have hfw := rd_few (sl := sl) hRl i
            obtain ⟨rd, hrd⟩ : ∃ r, Hid (rdS (txsN R sl i) = r) := ⟨_, rfl⟩
            obtain ⟨A, tn, br⟩ := rd
            rw [hrd.out] at hT hfw ⊢
            dsimp only at hT hfw ⊢
            obtain ⟨KA, hKA⟩ : ∃ l, Hid (K ++ A = l) := ⟨_, rfl⟩
            have hKAl : KA.length ≤ 20000 := by rw [← hKA.out, List.length_append]; omega
            rw [hKA.out] at hT
            obtain ⟨a9, c9, rfl, _⟩ := hT.sl
            have htxn : (txsN R sl i).length = i := txs_len R sl i
            have hcs := hCS wr hDs.bel
            clear hS hc0
            go_wp2_with fail
            go_loopw [15, 16] (fun v15 v16 wl => ∃ (k : Nat), k ≤ C.length ∧ v15 = .string ⟨(frs (C.take k)).toArray⟩ ∧ v16 = .int .i64 k ∧ TS wl (.slice a9 KA.length c9) fb KA ∧ Ds w wl w.heap.size P (4 + i)) (fun _ v16 _ => C.length - (intOf v16).toNat)
            case atStart => exact ⟨0, by omega, rfl, rfl, hT, hDs⟩
            case round =>
              clear hT hDs hcs
              obtain ⟨k, hkl, rfl, rfl, hT, hDs⟩ := hrel
              have hcs := hCS wr hDs.bel
              have HC1 := HCx wr hDs.bel
              by_cases hlt3 : k < C.length
              · have hz3 : (k : Int) < (C.length : Int) := by omega
                obtain ⟨y, hy⟩ : ∃ y, C[k]? = some y := ⟨_, List.getElem?_eq_getElem hlt3⟩
                have hyl := hCm y (List.mem_of_getElem? hy)
                have HF := fun w => rframe_any y w (by omega)
                have efr : Hid (frs (C.take (k + 1)) = frs (C.take k) ++ frame y) := frs_take hy
                have hfl := frame_len y
                have hsl : (frs (C.take k)).length ≤ 1248 := frs_cut (by rw [List.length_take]; omega) (fun x hx => hCm x (List.mem_of_mem_take hx))
                have hcat : ¬ 9223372036854775807 < (frs (C.take k)).length + (frame y).length := by omega
                generalize frs (C.take k) = F0 at *
                generalize frame y = fy at *
                go_wp2_with (first
                  | (go_at_call 13; first
                     | (refine HC1.mono ?_; rintro e w3 ⟨v3, rb3, rfl, hw3, hT3, _⟩; clear HC1; obtain ⟨a3, c3, rfl, _⟩ := hT3.sl; have hDs3 := hDs.below hw3; have HC2 := HCx w3 hDs3.bel; have hcs3 := hCS w3 hDs3.bel)
                     | (refine HC2.mono ?_; rintro e w4 ⟨v4, rb4, rfl, hw4, hT4, _⟩; clear HC2; obtain ⟨a4, c4, rfl, hc4, _⟩ := hT4.sl; have hDs4 := hDs3.below hw4; obtain ⟨g4, o4, rfl, hcell4⟩ := hc4 k y hy; replace hcell4 : w4.cell? ⟨g4, o4 + k, none⟩ = some (.string ⟨y.toArray⟩) := hcell4))
                  | (go_at_call 24; refine (HF _).mono ?_; rintro e w5 ⟨rfl, hw5⟩; have hDs5 := hDs4.below hw5; have hT5 := ((hT.below hw3).below hw4).below hw5))
                go_roundw
                case rel =>
                  refine ⟨k + 1, by omega, ?_, by go_num, hT5, hDs5⟩
                  rw [efr.out, ← mkA2]
                case measure => simp [intOf]; omega
              · have hz3 : ¬ (k : Int) < (C.length : Int) := by omega
                have hin : C.take k = C := List.take_of_length_le (by omega)
                rw [hin]
                have hFC : (frs C).length ≤ 1248 := frs_cut hC6 hCm
                go_upto_if 114 with (go_at_call 13; refine HC1.mono ?_; rintro e w3 ⟨v3, rb3, rfl, hw3, hT3, _⟩; clear HC1; obtain ⟨a3, c3, rfl, _⟩ := hT3.sl; have hDs3 := hDs.below hw3; have hT3b := hT.below hw3)
                clear hcs hz3 hT hDs
                go_cut [15] from 113 to 117 (fun s15 wx => s15 = .string ⟨(txT R sl i).toArray⟩ ∧ wx = w3)
                case first =>
                  by_cases h1 : i = 1
                  · have e : txT R sl i = frs C ++ R := by rw [htx, if_pos h1]
                    have hcat : ¬ 9223372036854775807 < (frs C).length + R.length := by omega
                    have hzi : (i : Int) = 1 := by omega
                    clear htx
                    generalize frs C = F0 at *
                    go_wp2_with fail
                    go_meet
                    case rel => exact ⟨by rw [e, ← mkA2], rfl⟩
                  · have e : txT R sl i = frs C := by rw [htx, if_neg h1, List.append_nil]
                    have hzi : ¬ (i : Int) = 1 := by omega
                    clear htx
                    generalize frs C = F0 at *
                    go_wp2_with fail
                    go_meet
                    case rel => exact ⟨by rw [e], rfl⟩
                case rest =>
                  obtain ⟨e15, hwx⟩ := hcut
                  subst e15
                  have hwx2 := hwx.symm; subst hwx2; clear hwx
                  clear htx hCS HCx hXx
                  have hTN := txs_succ R sl i
                  obtain ⟨t, ht⟩ : ∃ t, Hid (txT R sl i = t) := ⟨_, rfl⟩
                  rw [ht.out] at htxl hTN ⊢
                  have hdx2 := dx_more hdx t (by omega) (by omega)
                  rw [← hTN, htxn] at hdx2
                  have hpl2 : (putP (segN 4 (i + 1)) (some t) P).length ≤ 4 + (i + 1) := by
                    have := putP_len (n := segN 4 (i + 1)) (c := some t) (P := P)
                    omega
                  have hpu2 : usedP (putP (segN 4 (i + 1)) (some t) P) ≤ 2000 + (i + 1) * 3248 := by
                    have := usedP_put (n := segN 4 (i + 1)) (c := some t) hdx.ris
                    have e1 : (kbyt (some t)).length = t.length := rfl
                    omega
                  have hrs2 := rdS_snoc (txsN R sl i) t
                  rw [← hTN, hrd.out] at hrs2
                  dsimp only at hrs2
                  have hnl := (WN.seg 4 (i + 1) (by decide) (by omega)).len
                  have hW := fun w4 (hB : Below w3.heap.size w3 w4) => ds_write (hDs3.below hB) (segN 4 (i + 1)) t (WN.seg 4 (i + 1) (by decide) (by omega)).ok (by omega) (by omega) (by omega)
                  obtain ⟨c8, hc8⟩ : ∃ c, Hid (UInt8.ofNat (48 + (i + 1)) = c) := ⟨_, rfl⟩
                  have hy8 : IntKind.u8.wrap (48 + ((i : Int) + 1)) = n8 c8 := by rw [← hc8.out]; exact u8_name hlt2
                  have hnm := seg_name hlt2
                  rw [hc8.out] at hnm
                  have en : (ByteArray.mk #[115, 101, 103, 45, 52, 45] ++ strF (fun _ => c8) 1) = ⟨(segN 4 (i + 1)).toArray⟩ := by
                    rw [← hnm, ← mkA2]
                    rfl
                  rw [← en] at hW
                  clear hTN hnm en
                  go_upto_if 130 with (first
                    | (go_at_call 25; refine (hW w4 hw4).mono ?_; rintro e w5 ⟨rfl, hDs5, hKo5⟩; have hT5 := hKo5.ts (hT3b.below hw4); clear hW hw4 hb4)
                    | (with_reducible refine at_list ?_; first
                      | (refine wpList_bsl1 (op := ⟨some 124, _, _, _, _, _⟩) rfl _ rfl c8 rfl ?_; intro w4 hw4 hb4)
                      | (refine wpList_bytesString (op := ⟨some 125, _, _, _, _, _⟩) rfl _ _ _ rfl _ 1 1 rfl 5 Tryz.underlying50 Tryz.underlying5 Tryz.underlying9 _ 1 _ hb4 (Nat.le_refl _) ?_)))
                  obtain ⟨P2, hP2⟩ : ∃ P2, Hid (putP (segN 4 (i + 1)) (some t) P = P2) := ⟨_, rfl⟩
                  rw [hP2.out] at hDs5 hdx2 hpl2 hpu2
                  clear hy8 hc8 hrd hdx hpl hpu hnl htxn hDs3 hT3b hw3 hT3
                  obtain ⟨hfw1, hfw2⟩ := hfw
                  have htl64 : t.length ≤ 3248 := htxl
                  cases br with
                  | true =>
                    rw [if_pos rfl] at hrs2
                    go_wp2_with fail
                    go_roundw
                    case rel =>
                      refine ⟨i + 1, fb, P2, ?_⟩
                      rw [hrs2]
                      exact ⟨by omega, by omega, by go_num, by go_num, rfl, by go_num, by rw [hKA.out]; exact hT5, hlo, hDs5, hdx2, by omega, hpu2⟩
                    case measure => simp [intOf]; omega
                  | false =>
                    rw [if_neg (by simp)] at hrs2
                    have hwl5 := hDs5.bel.size
                    go_upto_block 6 with fail
                    go_cut [9, 17, 18, 19, 20] from 135 to 152 (fun s9 s17 _ _ _ wx => ∃ fb', s17 = .int .i64 ((unfT t).2 : Nat) ∧ TS wx s9 fb' (KA ++ (unfT t).1) ∧ (∀ j, fb' = some j → w.heap.size ≤ j) ∧ Ds w wx w.heap.size P2 (4 + i + 1))
                    case first =>
                      go_wp2_with fail
                      go_loopw [9, 17, 18, 19, 20] (fun v9 v17 _ _ _ wl => ∃ (at_ : Nat) (fb' : Option Nat) (ts : List B), at_ ≤ t.length ∧ v17 = .int .i64 at_ ∧ TS wl v9 fb' (KA ++ ts) ∧ (∀ j, fb' = some j → w.heap.size ≤ j) ∧ Ds w wl w.heap.size P2 (4 + i + 1) ∧ 8 * ts.length ≤ at_ ∧ Hid (unfT t = (ts ++ (unfT (t.drop at_)).1, at_ + (unfT (t.drop at_)).2))) (fun _ v17 _ _ _ _ => t.length - (intOf v17).toNat)
                      case atStart => exact ⟨0, fb, [], by omega, rfl, by rw [List.append_nil]; exact hT5, hlo, hDs5, by simp, (by show unfT t = _; simp)⟩
                      case round =>
                        clear hT5 hDs5 hlo hwl5 hKo5
                        obtain ⟨at_, fb', ts, hal, rfl, hT, hlo, hDs, htl, hH⟩ := hrel
                        by_cases hlt5 : at_ < t.length
                        · have hz5 : (at_ : Int) < (t.length : Int) := by omega
                          have HU := runframe_any t (at_ : Nat) wr (by omega)
                          obtain ⟨d1, d2, d3⟩ := unframe_drop t at_ hal
                          have hne : t.drop at_ ≠ [] := fun e => by have := congrArg List.length e; rw [List.length_drop] at this; simp at this; omega
                          by_cases he : (unframe (t.drop at_) 0).2.2 = 0
                          · obtain ⟨n, e1, e2, e3, -, -⟩ := unf_pos he
                            have hst : Hid (unfT (t.drop at_) = ((unframe (t.drop at_) 0).1 :: (unfT ((t.drop at_).drop n)).1, n + (unfT ((t.drop at_).drop n)).2)) := unfT_step hne he e1
                            have e4 := d3 he
                            rw [List.length_drop] at e3
                            rw [d1, d2, he, e4, e1] at HU
                            have hadd : ((at_ : Int) + (n : Int)) = ((at_ + n : Nat) : Int) := by omega
                            rw [hadd] at HU
                            clear d1 d2 d3 he e1 e4 hne hadd
                            generalize (unframe (t.drop at_) 0).1 = tx at *
                            have hfew : (KA ++ ts).length + [tx].length ≤ 1000000 := by simp; omega
                            go_wp2_with (first
                              | (go_at_call 26; refine HU.mono ?_; rintro e w2 ⟨rfl, hw2⟩; have hDs2 := hDs.below hw2)
                              | ((with_reducible (refine at_list ?_; refine wpList_tsl1 (op := ⟨some 150, _, _, _, _, _⟩) rfl _ rfl tx rfl ?_)); intro w3 hw3 hb3; have hTA := ta_blk hb3; have hDs3 := hDs2.below hw3; have hT3 := (hT.below hw2).below hw3)
                              | ((with_reducible (refine at_list ?_; refine wpList_appTS (op := ⟨some 151, _, _, _, _, _⟩) rfl _ _ rfl u9 fb' (KA ++ ts) hT3 rfl (some ⟨w2.heap.size, 0, none⟩) 1 [tx] hTA rfl hfew ?_)); intro w4 v4 fb4 hg4 hn4 hT4; have hDs4 := hDs3.row hg4 hT3.sb hlo))
                            go_roundw
                            case rel =>
                              refine ⟨at_ + n, fb4, ts ++ [tx], by omega, by go_num, by rw [← List.append_assoc]; exact hT4, fun j e => ?_, hDs4, by simp; omega, ?_⟩
                              · rcases hn4 j e with h5 | h5
                                · exact hlo j h5
                                · have := hDs3.bel.size; omega
                              · show unfT t = _
                                rw [hH.out, hst.out, List.drop_drop]
                                simp
                                omega
                            case measure => simp [intOf]; omega
                          · have hbad := unfT_bad he
                            have hR5 : Hid (unfT t = (ts, at_)) := by
                              show unfT t = _
                              rw [hH.out, hbad]
                              simp
                            rw [d2] at HU
                            generalize (unframe (t.drop at_) 0).2.2 = ec at *
                            clear hH d1 d2 d3 hne hbad
                            have hez : (ec != 0) = true := by simpa using he
                            go_wp2_with (go_at_call 26; refine HU.mono ?_; rintro e w2 ⟨rfl, hw2⟩; have hDs2 := hDs.below hw2; have hT2 := hT.below hw2)
                            go_meet
                            case rel => exact ⟨fb', by rw [hR5.out], by rw [hR5.out]; exact hT2, hlo, hDs2⟩
                        · have hR5 : Hid (unfT t = (ts, at_)) := by
                            show unfT t = _
                            rw [hH.out, List.drop_of_length_le (by omega), unfT_nil]
                            simp
                          have hz5 : ¬ (at_ : Int) < (t.length : Int) := by omega
                          clear hH
                          go_wp2_with fail
                          go_meet
                          case rel => exact ⟨fb', by rw [hR5.out], by rw [hR5.out]; exact hT, hlo, hDs⟩
                    case rest =>
                      clear hT5 hDs5 hlo hwl5
                      obtain ⟨fb', e17, hT, hlo, hDs⟩ := hcut
                      subst e17
                      have hut := (unfT_take t).1
                      obtain ⟨ut, hut2⟩ : ∃ u, Hid ((unfT t).2 = u) := ⟨_, rfl⟩
                      obtain ⟨us, hus⟩ : ∃ u, Hid ((unfT t).1 = u) := ⟨_, rfl⟩
                      rw [hut2.out] at hut hrs2 ⊢
                      rw [hus.out] at hT hrs2
                      rw [← hKA.out, List.append_assoc] at hT
                      by_cases hlt6 : ut < t.length
                      · have hz6 : (ut : Int) < (t.length : Int) := by omega
                        rw [decide_eq_true hlt6] at hrs2
                        go_wp2_with fail
                        go_roundw
                        case rel =>
                          refine ⟨i + 1, fb', P2, ?_⟩
                          rw [hrs2]
                          exact ⟨by omega, by omega, by go_num, by go_num, rfl, by go_num, hT, hlo, hDs, hdx2, by omega, hpu2⟩
                        case measure => simp [intOf]; omega
                      · have hz6 : ¬ (ut : Int) < (t.length : Int) := by omega
                        rw [decide_eq_false hlt6] at hrs2
                        go_wp2_with fail
                        go_roundw
                        case rel =>
                          refine ⟨i + 1, fb', P2, ?_⟩
                          rw [hrs2]
                          exact ⟨by omega, by omega, by go_num, by go_num, rfl, by go_num, hT, hlo, hDs, hdx2, by omega, hpu2⟩
                        case measure => simp [intOf]; omega
          · have hend : (¬ (i : Int) < (sl.length : Int)) ∨ ((i : Int) < (sl.length : Int) ∧ ¬ (i : Int) < 4) := by omega
            go_upto_region 15 with fail
            go_cut [89] from 82 to 162 (fun c wx => c = .bool false ∧ wx = wr)
            case first =>
              clear hlt
              rcases hend with hz1 | ⟨hz1, hz2⟩
              · go_wp2_with fail
                go_meet
                case rel => exact ⟨rfl, rfl⟩
              · go_wp2_with fail
                go_meet
                case rel => exact ⟨rfl, rfl⟩
            case rest =>
              obtain ⟨e89, hwx⟩ := hcut
              subst e89
              have hwx2 := hwx.symm; subst hwx2; clear hwx
              clear hend hlt
              have HSy := ds_sync hDs
              have hfw := rd_few (sl := sl) hRl i
              have hff := few_flat (sl := sl) hRl i
              have htm : ∀ t ∈ txsN R sl i, t.length ≤ 2147483647 := fun t ht => by have := txs_mem hRl ht; omega
              have hrdl := hfw.1
              cases K with
              | nil =>
                have e : BT = [] := hBT.out.symm
                subst e
                go_wp2_with (first
                  | (go_at_call 27; refine HSy.mono ?_; rintro e w6 ⟨rfl, hDc6, hKo6⟩; clear HSy; have HO6 := dc_bare hDc6 hG (by omega) _ hdx (by omega))
                  | (go_at_call 10; refine HO6.mono ?_; rintro e w7 ⟨rfl, hB7⟩; clear HO6))
                go_ret
                exact ⟨rfl, hB7⟩
              | cons s l =>
                have hbne : ¬ BT = [] := fun e => by
                  have h9 := hBT.out
                  rw [e] at h9
                  have := congrArg List.length h9
                  rw [show frs (s :: l) = frame s ++ frs l from rfl, List.length_append, frame_len] at this
                  simp at this
                have hbe : BT.isEmpty = false := by
                  cases BT with
                  | nil => exact absurd rfl hbne
                  | cons _ _ => rfl
                rw [← hBT.out] at hdx
                have hll : l.length ≤ 5 := by simp at hK6; omega
                obtain ⟨tn, htn⟩ : ∃ n, Hid ((rdS (txsN R sl i)).2.1 = n) := ⟨_, rfl⟩
                obtain ⟨kk, hkk⟩ : ∃ n, Hid (l ++ (rdS (txsN R sl i)).1 = n) := ⟨_, rfl⟩
                have hkl : kk.length ≤ 20000 := by rw [← hkk.out, List.length_append]; omega
                rw [List.cons_append, hkk.out] at hT
                rw [htn.out]
                obtain ⟨a9, c9, e9, _⟩ := hT.sl
                rw [List.length_cons] at e9
                subst e9
                go_upto_region 41 with (first
                  | (go_at_call 27; refine HSy.mono ?_; rintro e w6 ⟨rfl, hDc6, hKo6⟩; clear HSy; have HO6 := dc_open hDc6 hG (by omega) s l _ hdx (by omega) (by omega) (by omega) htm; rw [htn.out, hkk.out] at HO6; have hT6 := hKo6.ts hT)
                  | (go_at_call 10; refine HO6.mono ?_; rintro e w7 ⟨q, rfl, hOc7, hKo7⟩; clear HO6; have hT7 := hKo7.ts hT6))
                have hkl2 : kk.length ≤ 1000000 := by omega
                have hB7 := hOc7.bel
                obtain ⟨g9, o9, rfl, hcl9, hc9, a1, c1, hs1, hTA1⟩ := ts_sl1 hT7
                clear hT hT6 hT7 hKo6 hKo7 hDc6 hDs hdx hbe hbne hff htm hfw hrdl hpl hpu
                clear hlo
                refine wp_region_held_drew (S := fun w' : World => w'.cell? ⟨g9, o9, none⟩ = some (.string ⟨s.toArray⟩) ∧ Oc w w' q w.heap.size s kk ∧ TA w' a1 kk) (by kernel_rfl) (⟨(Below.drewS w7).cell (World.block_lt_of_cell? w7 ⟨g9, o9, none⟩ hc9) |>.trans hc9, hOc7.below (Below.drewS w7), hTA1.below (Below.drewS w7)⟩) (fun hH => ?_)
                try go_frame
                refine wpAnyH_take (i := 0) (oi := ⟨some 180, _, _, _, _, _⟩) (v := .int .i64 0) rfl (by kernel_rfl) (by kernel_rfl) (by kernel_rfl) (fun _ _ _ h => h) (Or.inl ⟨by rfl, fun w hSw => by go_simp⟩) hH ?_
                try simp only [Act.put, List.setIfInBounds_toArray, List.set_cons_zero, List.set_cons_succ]
                refine wpAnyH_take (i := 1) (oi := ⟨some 181, _, _, _, _, _⟩) (v := .bool false) rfl (by kernel_rfl) (by kernel_rfl) (by kernel_rfl) (fun _ _ _ h => h) (Or.inl ⟨by rfl, fun w hSw => by go_simp⟩) hH ?_
                try simp only [Act.put, List.setIfInBounds_toArray, List.set_cons_zero, List.set_cons_succ]
                refine wpAnyH_take (i := 2) (oi := ⟨some 182, _, _, _, _, _⟩) (v := .bool false) rfl (by kernel_rfl) (by kernel_rfl) (by kernel_rfl) (fun _ _ _ h => h) (Or.inl ⟨by rfl, fun w hSw => by go_simp⟩) hH ?_
                try simp only [Act.put, List.setIfInBounds_toArray, List.set_cons_zero, List.set_cons_succ]
                refine wpAnyH_take (i := 3) (oi := ⟨some 183, _, _, _, _, _⟩) (v := .int .i64 (tn : Nat)) rfl (by kernel_rfl) (by kernel_rfl) (by kernel_rfl) (fun _ _ _ h => h) (Or.inl ⟨by rfl, fun w hSw => by go_simp⟩) hH ?_
                try simp only [Act.put, List.setIfInBounds_toArray, List.set_cons_zero, List.set_cons_succ]
                refine wpAnyH_take (i := 4) (oi := ⟨some 184, _, _, _, _, _⟩) (v := .int .i64 (tn : Nat)) rfl (by kernel_rfl) (by kernel_rfl) (by kernel_rfl) (fun _ _ _ h => h) (Or.inl ⟨by rfl, fun w hSw => by go_simp⟩) hH ?_
                try simp only [Act.put, List.setIfInBounds_toArray, List.set_cons_zero, List.set_cons_succ]
                refine wpAnyH_take (i := 5) (oi := ⟨some 185, _, _, _, _, _⟩) (v := .bool false) rfl (by kernel_rfl) (by kernel_rfl) (by kernel_rfl) (fun _ _ _ h => h) (Or.inl ⟨by rfl, fun w hSw => by go_simp⟩) hH ?_
                try simp only [Act.put, List.setIfInBounds_toArray, List.set_cons_zero, List.set_cons_succ]
                refine wpAnyH_take (i := 6) (oi := ⟨some 186, _, _, _, _, _⟩) (v := .bool false) rfl (by kernel_rfl) (by kernel_rfl) (by kernel_rfl) (fun _ _ _ h => h) (Or.inl ⟨by rfl, fun w hSw => by go_simp⟩) hH ?_
                try simp only [Act.put, List.setIfInBounds_toArray, List.set_cons_zero, List.set_cons_succ]
                refine wpAnyH_take (i := 7) (oi := ⟨some 187, _, _, _, _, _⟩) (v := .bool false) rfl (by kernel_rfl) (by kernel_rfl) (by kernel_rfl) (fun _ _ _ h => h) (Or.inl ⟨by rfl, fun w hSw => by go_simp⟩) hH ?_
                try simp only [Act.put, List.setIfInBounds_toArray, List.set_cons_zero, List.set_cons_succ]
                refine wpAnyH_take (i := 8) (oi := ⟨some 188, _, _, _, _, _⟩) (v := .pointer (some ⟨q, 0, none⟩)) rfl (by kernel_rfl) (by kernel_rfl) (by kernel_rfl) (fun _ _ _ h => h) (Or.inl ⟨by rfl, fun w hSw => by go_simp⟩) hH ?_
                try simp only [Act.put, List.setIfInBounds_toArray, List.set_cons_zero, List.set_cons_succ]
                refine wpAnyH_take (i := 10) (oi := ⟨some 190, _, _, _, _, _⟩) (v := .slice (some ⟨g9, o9, none⟩) (kk.length + 1) c9) rfl (by kernel_rfl) (by kernel_rfl) (by kernel_rfl) (fun _ _ _ h => h) (Or.inl ⟨by rfl, fun w hSw => by go_simp⟩) hH ?_
                try simp only [Act.put, List.setIfInBounds_toArray, List.set_cons_zero, List.set_cons_succ]
                refine wpAnyH_take (i := 11) (oi := ⟨some 191, _, _, _, _, _⟩) (v := .pointer (some ⟨g9, o9, none⟩)) rfl (by kernel_rfl) (by kernel_rfl) (by kernel_rfl) (fun _ _ _ h => h) (Or.inl ⟨by rfl, fun w hSw => by go_simp⟩) hH ?_
                try simp only [Act.put, List.setIfInBounds_toArray, List.set_cons_zero, List.set_cons_succ]
                refine wpAnyH_take (i := 12) (oi := ⟨some 192, _, _, _, _, _⟩) (v := .string ⟨s.toArray⟩) rfl (by kernel_rfl) (by kernel_rfl) (by kernel_rfl) (fun _ _ _ h => h) (Or.inl ⟨by rfl, fun w hSw => run_loadC _ _ rfl _ _ rfl _ Tryz.underlying9 rfl _ hSw.1⟩) hH ?_
                try simp only [Act.put, List.setIfInBounds_toArray, List.set_cons_zero, List.set_cons_succ]
                refine wpAnyH_solo (i := 9) (o := ⟨some 189, _, _, _, _, _⟩) rfl (by kernel_rfl) (fun K hK => ?_)
                refine wpList_callG Tryz.func17 (by kernel_rfl) (by kernel_rfl) (by rfl) _ _ rfl #[.pointer (some ⟨q, 0, none⟩)] (args1 rfl) _ (tl_snap hH.2.1.tl) ?_
                rintro e w' ⟨rfl, hw'⟩
                have hw2' := hw'.symm
                subst hw2'
                clear hw'
                refine ⟨_, rfl, ?_⟩
                refine hK _ _ hH ?_
                clear hK K
                try simp only [Act.put, List.setIfInBounds_toArray, List.set_cons_zero, List.set_cons_succ]
                refine wpAnyH_take (i := 13) (oi := ⟨some 193, _, _, _, _, _⟩) (v := .bool false) rfl (by kernel_rfl) (by kernel_rfl) (by kernel_rfl) (fun _ _ _ h => h) (Or.inl ⟨by rfl, fun w hSw => by go_simp⟩) hH ?_
                try simp only [Act.put, List.setIfInBounds_toArray, List.set_cons_zero, List.set_cons_succ]
                refine wpAnyH_take (i := 14) (oi := ⟨some 194, _, _, _, _, _⟩) (v := .bool false) rfl (by kernel_rfl) (by kernel_rfl) (by kernel_rfl) (fun _ _ _ h => h) (Or.inl ⟨by rfl, fun w hSw => by go_simp⟩) hH ?_
                try simp only [Act.put, List.setIfInBounds_toArray, List.set_cons_zero, List.set_cons_succ]
                refine wpAnyH_take (i := 15) (oi := ⟨some 195, _, _, _, _, _⟩) (v := .bool false) rfl (by kernel_rfl) (by kernel_rfl) (by kernel_rfl) (fun _ _ _ h => h) (Or.inl ⟨by rfl, fun w hSw => by go_simp⟩) hH ?_
                try simp only [Act.put, List.setIfInBounds_toArray, List.set_cons_zero, List.set_cons_succ]
                refine wpAnyH_take (i := 16) (oi := ⟨some 196, _, _, _, _, _⟩) (v := .pointer (some ⟨q, 0, none⟩)) rfl (by kernel_rfl) (by kernel_rfl) (by kernel_rfl) (fun _ _ _ h => h) (Or.inl ⟨by rfl, fun w hSw => by go_simp⟩) hH ?_
                try simp only [Act.put, List.setIfInBounds_toArray, List.set_cons_zero, List.set_cons_succ]
                refine wpAnyH_take (i := 18) (oi := ⟨some 198, _, _, _, _, _⟩) (v := .slice (some ⟨g9, o9, none⟩) (kk.length + 1) c9) rfl (by kernel_rfl) (by kernel_rfl) (by kernel_rfl) (fun _ _ _ h => h) (Or.inl ⟨by rfl, fun w hSw => by go_simp⟩) hH ?_
                try simp only [Act.put, List.setIfInBounds_toArray, List.set_cons_zero, List.set_cons_succ]
                refine wpAnyH_take (i := 19) (oi := ⟨some 199, _, _, _, _, _⟩) (v := .slice a1 kk.length c1) rfl (by kernel_rfl) (by kernel_rfl) (by kernel_rfl) (fun _ _ _ h => h) (Or.inl ⟨by rfl, fun w hSw => (run_sl1 _ rfl g9 o9 kk.length c9 rfl hcl9).trans (by rw [hs1])⟩) hH ?_
                try simp only [Act.put, List.setIfInBounds_toArray, List.set_cons_zero, List.set_cons_succ]
                refine wpAnyH_solo (i := 17) (o := ⟨some 197, _, _, _, _, _⟩) rfl (by kernel_rfl) (fun K hK => ?_)
                refine wpList_callG Tryz.func20 (by kernel_rfl) (by kernel_rfl) (by rfl) _ _ rfl #[.pointer (some ⟨q, 0, none⟩)] (args1 rfl) _ (tl_all hH.2.1.tl) ?_
                rintro e w8 ⟨aA, cA, rfl, hw8, hTA8⟩
                have hH8 := And.intro ((hw8.cell (World.block_lt_of_cell? _ ⟨g9, o9, none⟩ hH.1)).trans hH.1) (And.intro (hH.2.1.below hw8) (hH.2.2.below hw8))
                refine ⟨_, rfl, ?_⟩
                refine hK _ _ hH8 ?_
                clear hK K
                try simp only [Act.put, List.setIfInBounds_toArray, List.set_cons_zero, List.set_cons_succ]
                refine wpAnyH_solo (i := 20) (o := ⟨some 200, _, _, _, _, _⟩) rfl (by kernel_rfl) (fun K hK => ?_)
                refine wpList_callG Tryz.func19 (by kernel_rfl) (by kernel_rfl) (by rfl) _ _ rfl #[.slice aA kk.length cA, .slice a1 kk.length c1] (args2 rfl rfl) _ (same_true kk aA a1 cA c1 w8 hTA8 hH8.2.2 hkl2) ?_
                rintro e w9 ⟨rfl, hw9⟩
                have hH9 := And.intro ((hw9.cell (World.block_lt_of_cell? _ ⟨g9, o9, none⟩ hH8.1)).trans hH8.1) (And.intro (hH8.2.1.below hw9) (hH8.2.2.below hw9))
                refine ⟨_, rfl, ?_⟩
                refine hK _ _ hH9 ?_
                clear hK K
                try simp only [Act.put, List.setIfInBounds_toArray, List.set_cons_zero, List.set_cons_succ]
                refine wpAnyH_take (i := 21) (oi := ⟨some 201, _, _, _, _, _⟩) (v := .bool false) rfl (by kernel_rfl) (by kernel_rfl) (by kernel_rfl) (fun _ _ _ h => h) (Or.inl ⟨by rfl, fun w hSw => by go_simp⟩) hH9 ?_
                try simp only [Act.put, List.setIfInBounds_toArray, List.set_cons_zero, List.set_cons_succ]
                refine wpAnyH_take (i := 22) (oi := ⟨some 202, _, _, _, _, _⟩) (v := .bool false) rfl (by kernel_rfl) (by kernel_rfl) (by kernel_rfl) (fun _ _ _ h => h) (Or.inl ⟨by rfl, fun w hSw => by go_simp⟩) hH9 ?_
                try simp only [Act.put, List.setIfInBounds_toArray, List.set_cons_zero, List.set_cons_succ]
                refine wpAnyH_take (i := 23) (oi := ⟨some 203, _, _, _, _, _⟩) (v := .bool false) rfl (by kernel_rfl) (by kernel_rfl) (by kernel_rfl) (fun _ _ _ h => h) (Or.inl ⟨by rfl, fun w hSw => by go_simp⟩) hH9 ?_
                try simp only [Act.put, List.setIfInBounds_toArray, List.set_cons_zero, List.set_cons_succ]
                refine wpAnyH_take (i := 24) (oi := ⟨some 204, _, _, _, _, _⟩) (v := .pointer (some ⟨q, 0, none⟩)) rfl (by kernel_rfl) (by kernel_rfl) (by kernel_rfl) (fun _ _ _ h => h) (Or.inl ⟨by rfl, fun w hSw => by go_simp⟩) hH9 ?_
                try simp only [Act.put, List.setIfInBounds_toArray, List.set_cons_zero, List.set_cons_succ]
                refine wpAnyH_solo (i := 25) (o := ⟨some 205, _, _, _, _, _⟩) rfl (by kernel_rfl) (fun K hK => ?_)
                refine wpList_callG Tryz.func28 (by kernel_rfl) (by kernel_rfl) (by rfl) _ _ rfl #[.pointer (some ⟨q, 0, none⟩)] (args1 rfl) _ (oc_gen hH9.2.1) ?_
                rintro e w' ⟨rfl, hw'⟩
                have hw2' := hw'.symm
                subst hw2'
                clear hw'
                refine ⟨_, rfl, ?_⟩
                refine hK _ _ hH9 ?_
                clear hK K
                try simp only [Act.put, List.setIfInBounds_toArray, List.set_cons_zero, List.set_cons_succ]
                refine wpAnyH_take (i := 26) (oi := ⟨some 206, _, _, _, _, _⟩) (v := .bool false) rfl (by kernel_rfl) (by kernel_rfl) (by kernel_rfl) (fun _ _ _ h => h) (Or.inl ⟨by rfl, fun w hSw => by go_simp⟩) hH9 ?_
                try simp only [Act.put, List.setIfInBounds_toArray, List.set_cons_zero, List.set_cons_succ]
                refine wpAnyH_take (i := 27) (oi := ⟨some 207, _, _, _, _, _⟩) (v := .bool false) rfl (by kernel_rfl) (by kernel_rfl) (by kernel_rfl) (fun _ _ _ h => h) (Or.inl ⟨by rfl, fun w hSw => by go_simp⟩) hH9 ?_
                try simp only [Act.put, List.setIfInBounds_toArray, List.set_cons_zero, List.set_cons_succ]
                refine wpAnyH_done (by kernel_rfl) ?_ _
                try simp only [Act.put]
                try go_simp
                go_upto_region 44 with (go_at_call 29; refine (oc_names hH9.2.1).mono ?_; rintro e w10 ⟨ns, an, cn, rfl, hw10, hTn, hnl, hno⟩)
                have hOc10 := hH9.2.1.below hw10
                clear hH9 hH8 hH hw9 hw8 hw10 hTA8 hTA1 hc9 hOc7 hS
                go_wp2_with fail
                go_loopw [25] (fun v25 wl => ∃ j : Nat, j ≤ ns.length ∧ v25 = .int .i64 j ∧ wl = w10) (fun v25 _ => ns.length - (intOf v25).toNat)
                case atStart => exact ⟨0, by omega, rfl, rfl⟩
                case round =>
                  obtain ⟨j, hjl, rfl, hwx⟩ := hrel
                  have hwx2 := hwx.symm; subst hwx2; clear hwx
                  by_cases hlt7 : j < ns.length
                  · have hz7 : (j : Int) < (ns.length : Int) := by omega
                    obtain ⟨y, hy⟩ : ∃ y, ns[j]? = some y := ⟨_, List.getElem?_eq_getElem hlt7⟩
                    obtain ⟨gn, on, rfl, hgl, hcn⟩ := hTn.at j y hy
                    replace hcn : w10.cell? ⟨gn, on + j, none⟩ = some (.string ⟨y.toArray⟩) := hcn
                    obtain ⟨n1, n2, n3⟩ := oth_not (hno y (List.mem_of_getElem? hy))
                    replace n1 := beq_eq_false_iff_ne.2 n1
                    replace n2 := beq_eq_false_iff_ne.2 n2
                    replace n3 := beq_eq_false_iff_ne.2 n3
                    go_wp2_with fail
                    exact ⟨⟨j + 1, by omega, by go_num, trivial⟩, by simp [intOf]; omega⟩
                  · have hz7 : ¬ (j : Int) < (ns.length : Int) := by omega
                    have HO := oc_open hOc10 hG
                    go_wp2_with (first
                      | (go_at_call 10; refine HO.mono ?_; rintro e w11 ⟨q2, rfl, hTq2, hTq1, hB11⟩; clear HO; have HS1 := tl_snap hTq2)
                      | (go_at_call 17; first
                         | (refine HS1.mono ?_; rintro e wx ⟨rfl, hwx⟩; have hwx2 := hwx.symm; subst hwx2; clear hwx; clear HS1; have HS2 := tl_snap hTq1)
                         | (refine HS2.mono ?_; rintro e wx ⟨rfl, hwx⟩; have hwx2 := hwx.symm; subst hwx2; clear hwx; clear HS2; have HA1 := tl_all hTq2))
                      | (go_at_call 20; first
                         | (refine HA1.mono ?_; rintro e w12 ⟨aB, cB, rfl, hw12, hTB⟩; clear HA1; have HA2 := tl_all (hTq1.below hw12))
                         | (refine HA2.mono ?_; rintro e w13 ⟨aC, cC, rfl, hw13, hTC⟩; clear HA2; have HE := same_true kk aB aC cB cC w13 (hTB.below hw13) hTC hkl2))
                      | (go_at_call 19; refine HE.mono ?_; rintro e w14 ⟨rfl, hw14⟩; clear HE))
                    go_ret
                    exact ⟨rfl, ((hB11.trans (hw12.mono hB11.size)).trans (hw13.mono (Nat.le_trans hB11.size hw12.size))).trans (hw14.mono (Nat.le_trans (Nat.le_trans hB11.size hw12.size) hw13.size))⟩
end Go.Proofs.YtaiiojbakmminaaGreatDoor
