/- What times does. -/
import Derived.Test.YtminjelnbnajhaaDoorTsp
import Derived.Test.YtminjelnbnajhaaDoorWh
namespace Go.Proofs.YtminjelnbnajhaaDoor
open Go Go.RowKit
def q (n : Nat) : Int := (n : Int)
def mulw (x y : Nat) : Nat := (x * y) % 18446744073709551616
def addw (x y : Nat) : Nat := (x + y) % 18446744073709551616
theorem mad_eq (x y o c : Nat) : mad x y o c = addw (addw (mulw x y) o) c := rfl
theorem rd_lt (l : List Nat) (j : Nat) : rd l j < 4294967296 := Nat.mod_lt _ (by omega)
theorem q_conv (l : List Nat) (j : Nat) : q (rd l j) % 18446744073709551616 = q (rd l j) := by have := rd_lt l j; unfold q; omega
theorem q_wconv (l : List Nat) (j : Nat) : IntKind.u64.wrap (q (rd l j)) = q (rd l j) := by rw [IntKind.wrap_u64]; exact q_conv l j
theorem q_mul (x y : Nat) : q x * q y % 18446744073709551616 = q (mulw x y) := by unfold q mulw; rw [Int.natCast_emod, Int.natCast_mul]; rfl
theorem q_wmul (x y : Nat) : IntKind.u64.wrap (q x * q y) = q (mulw x y) := by rw [IntKind.wrap_u64]; exact q_mul x y
theorem q_add (x y : Nat) : (q x + q y) % 18446744073709551616 = q (addw x y) := by unfold q addw; rw [Int.natCast_emod, Int.natCast_add]; rfl
theorem q_wadd (x y : Nat) : IntKind.u64.wrap (q x + q y) = q (addw x y) := by rw [IntKind.wrap_u64]; exact q_add x y
theorem q_shr (x : Nat) : q x / 4294967296 = q (x / 4294967296) := by unfold q; omega
theorem q_low (x : Nat) : q x % 4294967296 = q (x % 4294967296) := by unfold q; omega
theorem q_wlow (x : Nat) : IntKind.u32.wrap (q x) = q (x % 4294967296) := by rw [IntKind.wrap_u32]; exact q_low x
/-- A row of words. -/
def cv (v : Nat) : Value := .int .u32 (q (v % 4294967296))
def wrow (l : List Nat) : Array Value := (l.map cv).toArray
theorem wrow_size (l : List Nat) : (wrow l).size = l.length := by simp [wrow]
theorem wrow_get (l : List Nat) (j : Nat) (h : j < l.length) : (wrow l)[j]? = some (.int .u32 (q (rd l j))) := by
  simp [wrow, h, cv, rd]
theorem wrow_set (l : List Nat) (j n : Nat) : (wrow l).setIfInBounds j (.int .u32 (q (n % 4294967296))) = wrow (l.set j n) := by
  unfold wrow
  rw [List.setIfInBounds_toArray, List.map_set]
  rfl
theorem wrow_one (l : List Nat) : (wrow l).all (·.oneCell') = true := by
  rw [Array.all_eq_true_iff_forall_mem]
  intro v hv
  simp only [wrow, List.mem_toArray, List.mem_map] at hv
  obtain ⟨i, _, rfl⟩ := hv
  rfl
theorem madeCells_wrow (n : Nat) : madeCells #[Value.int .u32 0] n = wrow (List.replicate n 0) := by
  apply Array.ext_getElem?
  intro j
  by_cases hj : j < n
  · rw [wrow_get _ _ (by simpa using hj)]; simp [madeCells, hj, rd, q, Nat.mod_one]
  · rw [Array.getElem?_eq_none (xs := wrow _) (by rw [wrow_size]; simp; omega)]; simp [madeCells]; omega
/-- The words of l lie at the head of block g. -/
def WS (w : World) (g : Nat) (l : List Nat) : Prop := ∀ j, j < l.length → w.cell? ⟨g, j, none⟩ = some (.int .u32 (q (rd l j)))
theorem WS.lt {w : World} {g : Nat} {l : List Nat} (h : WS w g l) (hl : 0 < l.length) : g < w.heap.size := World.block_lt_of_cell? w _ (h 0 hl)
theorem WS.below {w w' : World} {g B : Nat} {l : List Nat} (h : WS w g l) (hb : Below B w w') (hl : g < B) : WS w' g l := fun j hj => by
  rw [hb.cell (p := ⟨g, j, none⟩) hl]; exact h j hj
theorem Blk.ws {w : World} {g t : Nat} {l : List Nat} (h : Blk w g (wrow l) t) : WS w g l := fun j hj => (h.cell j).trans (wrow_get l j hj)
theorem Blk.ws2 {w : World} {g t : Nat} {l : List Nat} (h : Blk w g (wrow l) t) (n : Nat) : WS w g (l.take n) := fun j hj => by
  have hj2 : j < l.length := by rw [List.length_take] at hj; omega
  rw [(h.cell j).trans (wrow_get l j hj2)]
  have : rd l j = rd (l.take n) j := by
    unfold rd
    rw [List.getD_eq_getElem?_getD, List.getD_eq_getElem?_getD, List.getElem?_take_of_lt (by rw [List.length_take] at hj; omega)]
  rw [this]
theorem inner_length (x : Nat) (b out : List Nat) (i : Nat) : ∀ k, (inner x b out i k).1.length = out.length
  | 0 => rfl
  | k + 1 => by rw [inner]; simp [inner_length x b out i k]
theorem outer_length (a b : List Nat) : ∀ i, (outer a b i).length = a.length + b.length
  | 0 => by simp [outer]
  | i + 1 => by rw [outer]; simp [inner_length, outer_length a b i]
theorem timesL_length (a b : List Nat) : (timesL a b).length = a.length + b.length := outer_length a b _
theorem info46 : ∃ i, Tryd.prog.info? 46 = some i ∧ i.zero = some (.int .u32 0) ∧ i.size = 1 ∧ i.bytes = 4 := by
  have h : (Tryd.prog.info? 46).map (fun i => (i.zero, i.size, i.bytes)) = some (some (.int .u32 0), 1, 4) := by kernel_rfl
  cases hq : Tryd.prog.info? 46 with
  | none => rw [hq] at h; cases h
  | some i => rw [hq] at h; simp at h; exact ⟨i, rfl, h.1, h.2.1, h.2.2⟩
section
variable {P : Program} {ops : Array Oper} {rest : List Oper} {op : Oper} {a : Act} {w : World} {Q : Exit → Act → World → Prop}
/-- A slice of words is made. -/
theorem wpList_makeW (hgd : op.guard = none) (ty : TypeId) (x y : Operand) (ho : op.op = .makeSlice ty x y) (n : Nat) (hx : a.eval x = .int .i64 (n : Int)) (hy : a.eval y = .int .i64 (n : Int)) (hm : n ≤ 1099511627776)
    (e : TypeId) (i : TypeInfo) (hu : P.underlying ty = some (.slice e)) (hi : P.info? e = some i) (hz : i.zero = some (.int .u32 0)) (hs : i.size = 1) (hb : i.bytes = 4)
    (h : ∀ w1 : World, Below w.heap.size w w1 → w1.heap.size = w.heap.size + 1 → Blk w1 w.heap.size (wrow (List.replicate n 0)) e → wpList P ops Q rest (a.put op.dst (.slice (some ⟨w.heap.size, 0, none⟩) n n)) w1) :
    wpList P ops Q (op :: rest) a w := by
  have hr := run_make (P := P) w ty e i _ hu hi hz .i64 .i64 (n : Int) (n : Int) (by omega) (by omega) (by rw [hb]; omega) (by omega)
  rw [Int.toNat_natCast, hs, Nat.mul_one, show (Value.int .u32 0).cells = #[Value.int .u32 0] from rfl, madeCells_wrow] at hr
  refine wpList_run hgd _ _ ?_ (h _ ((Below.refl _ _).alloc (Nat.le_refl _) _) (by simp) (Blk.new _ _ _))
  unfold execOp
  simp only [ho, hx, hy, Sem.run_bind, hr, Result.andThen_ok]
  rfl
theorem wpList_storeN (hgd : op.guard = none) (ty : TypeId) (x y : Operand) (ho : op.op = .store ty x y) (b o : Nat) (hx : a.eval x = .pointer (some ⟨b, o, none⟩)) (n : Nat) (hy : a.eval y = .int .u32 (q (n % 4294967296)))
    (l : List Nat) (t : TypeId) (hb : Blk w b (wrow l) t) (hi : (P.info? ty).map (·.size) = some 1) (hn : o < l.length)
    (h : ∀ w1 : World, w.grownBy w1 (some b) → w1.heap.size = w.heap.size → Blk w1 b (wrow (l.set o n)) t → wpList P ops Q rest (a.put op.dst undef) w1) : wpList P ops Q (op :: rest) a w :=
  wpList_storeCell hgd ty x y ho b o hx _ hy _ t hb hi rfl rfl (by rw [wrow_size]; exact hn) (fun w1 g s hb1 => h w1 g s (by rw [wrow_set] at hb1; exact hb1))
end
attribute [local go_sem] q_conv q_wconv q_mul q_wmul q_add q_wadd q_shr q_low q_wlow
set_option maxRecDepth 100000 in
set_option maxHeartbeats 1000000 in
theorem times_any (ga ca gb cb : Nat) (la lb : List Nat) (w : World) (ha : WS w ga la) (hb : WS w gb lb) (hla : la.length ≤ 8) (hlb : lb.length ≤ 8) (hga : ga < w.heap.size) (hgb : gb < w.heap.size) :
    Calls Tryd.prog 46 #[.slice (some ⟨ga, 0, none⟩) la.length ca, .slice (some ⟨gb, 0, none⟩) lb.length cb] w fun e w' => e = .returned (.slice (some ⟨w.heap.size, 0, none⟩) (la.length + lb.length) (la.length + lb.length)) ∧ Below w.heap.size w w' ∧ Blk w' w.heap.size (wrow (timesL la lb)) 46 := by
  obtain ⟨i46', hi46, hz46, hs46, hb46⟩ := info46
  have HA : Hid (WS w ga la) := ha
  have HB : Hid (WS w gb lb) := hb
  clear ha hb
  go_enter Tryd.func46, Tryd.ntmps46
  go_wp2_with (with_reducible refine at_list ?_; first
    | (refine wpList_makeW rfl _ _ _ rfl (la.length + lb.length) rfl rfl (by omega) _ _ Tryd.underlying77 hi46 hz46 hs46 hb46 ?_; intro w1 hw1 hs1 hb1; replace hs1 := hs1.symm))
  clear hs1
  go_loopw [6] (fun v6 wl => ∃ i : Nat, i ≤ la.length ∧ v6 = .int .i64 i ∧ Below w.heap.size w wl ∧ Blk wl w.heap.size (wrow (outer la lb i)) 46) (fun v6 _ => la.length - (intOf v6).toNat)
  case atStart => exact ⟨0, by omega, rfl, hw1, hb1⟩
  case round =>
    clear hw1 hb1
    obtain ⟨i, hi, rfl, hB, hbo⟩ := hrel
    by_cases hlt : i < la.length
    · go_wp2_with fail
      go_loopw [7, 8] (fun v7 v8 wl => ∃ k : Nat, k ≤ lb.length ∧ v8 = .int .i64 k ∧ v7 = .int .u64 (q (inner (rd la i) lb (outer la lb i) i k).2) ∧ Below w.heap.size w wl ∧ Blk wl w.heap.size (wrow (inner (rd la i) lb (outer la lb i) i k).1) 46) (fun _ v8 _ => lb.length - (intOf v8).toNat)
      case atStart => exact ⟨0, by omega, rfl, rfl, hB, hbo⟩
      case round =>
        clear hB hbo
        obtain ⟨k, hk, rfl, rfl, hB, hbo⟩ := hrel
        have hol : (inner (rd la i) lb (outer la lb i) i k).1.length = la.length + lb.length := by rw [inner_length, outer_length]
        by_cases hlk : k < lb.length
        · have HE : Hid (inner (rd la i) lb (outer la lb i) i (k + 1) = ((inner (rd la i) lb (outer la lb i) i k).1.set (i + k) (mad (rd la i) (rd lb k) (rd (inner (rd la i) lb (outer la lb i) i k).1 (i + k)) (inner (rd la i) lb (outer la lb i) i k).2), mad (rd la i) (rd lb k) (rd (inner (rd la i) lb (outer la lb i) i k).1 (i + k)) (inner (rd la i) lb (outer la lb i) i k).2 / 4294967296)) := by rw [inner]; exact rfl
          generalize hO : (inner (rd la i) lb (outer la lb i) i k).1 = O at *
          generalize hC : (inner (rd la i) lb (outer la lb i) i k).2 = C at *
          have c1 : wr.cell? ⟨ga, i, none⟩ = some (.int .u32 (q (rd la i))) := by rw [hB.cell (p := ⟨ga, i, none⟩) hga]; exact HA.out i hlt
          have c2 : wr.cell? ⟨gb, k, none⟩ = some (.int .u32 (q (rd lb k))) := by rw [hB.cell (p := ⟨gb, k, none⟩) hgb]; exact HB.out k hlk
          have c3 : wr.cell? ⟨w.heap.size, i + k, none⟩ = some (.int .u32 (q (rd O (i + k)))) := (hbo.cell _).trans (wrow_get O _ (by omega))
          have hik : i + k < O.length := by omega
          have hol2 : la.length + lb.length ≤ O.length := by omega
          clear hol hO hC
          go_wp2_with fail
          go_quiet (fail)
          have hbq := hbo.drewN nq
          have hBq := below_draws hB nq
          have hsq : wr.heap.size = (wr.drewN nq).heap.size := rfl
          generalize wr.drewN nq = wq at *
          clear hB hbo c1 c2 c3 hsq
          rw [← mad_eq]
          generalize hM : mad (rd la i) (rd lb k) (rd O (i + k)) C = M at *
          clear hM
          go_wp2_with (with_reducible refine at_list ?_; first
            | (refine wpList_storeN rfl _ _ _ rfl w.heap.size (i + k) rfl M rfl O _ hbq i38 hik ?_; intro w4 hg4 hs4 hb4; replace hs4 := hs4.symm))
          go_roundw
          case rel => exact ⟨k + 1, by omega, by go_num, by rw [HE.out], hBq.trans (below_of_grown hg4 (Nat.le_refl _) hBq.size), by rw [HE.out]; exact hb4⟩
          case measure => simp [intOf]; omega
        · have HE : Hid (outer la lb (i + 1) = (inner (rd la i) lb (outer la lb i) i lb.length).1.set (i + lb.length) (inner (rd la i) lb (outer la lb i) i lb.length).2) := by rw [outer]; exact rfl
          have hkk : k = lb.length := by omega
          subst hkk
          generalize hO : (inner (rd la i) lb (outer la lb i) i lb.length).1 = O at *
          generalize hC : (inner (rd la i) lb (outer la lb i) i lb.length).2 = C at *
          have hik : i + lb.length < O.length := by omega
          clear hO hC hol
          go_wp2_with (with_reducible refine at_list ?_; first
            | (refine wpList_storeN rfl _ _ _ rfl w.heap.size (i + lb.length) rfl C rfl O _ hbo i38 hik ?_; intro w4 hg4 hs4 hb4; replace hs4 := hs4.symm))
          go_roundw
          case rel => exact ⟨i + 1, by omega, by go_num, hB.trans (below_of_grown hg4 (Nat.le_refl _) hB.size), by rw [HE.out]; exact hb4⟩
          case measure => simp [intOf]; omega
    · have hb2 : Blk wr w.heap.size (wrow (timesL la lb)) 46 := by
        unfold timesL
        rw [show la.length = i from by omega]
        exact hbo
      clear hbo
      go_wp2_with fail
      go_ret
      exact ⟨rfl, hB, hb2⟩
end Go.Proofs.YtminjelnbnajhaaDoor
