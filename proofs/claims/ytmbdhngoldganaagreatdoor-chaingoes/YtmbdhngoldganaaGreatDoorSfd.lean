/- What find does. -/
import Derived.Test.YtmbdhngoldganaaGreatDoorSwy
import Derived.Test.YtmbdhngoldganaaGreatDoorGsl
import Derived.Sort.CutIn
namespace Go.Proofs.YtmbdhngoldganaaGreatDoor.Sh
open Go Go.RowKit Go.Shelf
/-- The rounds so far are the first ones. -/
def IsW (pre : List (Fin 256)) : Prop := pre = allW.take pre.length
theorem IsW.snoc {pre : List (Fin 256)} {x : Fin 256} (h : IsW (pre ++ [x])) (hl : pre.length < 256) : IsW pre ∧ x.1 = pre.length := by
  unfold IsW at h
  rw [List.length_append, List.length_singleton, allW_take hl] at h
  have h2 := List.append_inj' h rfl
  refine ⟨h2.1, ?_⟩
  rw [(List.cons.inj h2.2).1]
theorem IsW.all : IsW allW := by unfold IsW; rw [List.take_length]
theorem IsW.take {k : Nat} (h : k ≤ 256) : IsW (allW.take k) := by
  unfold IsW
  rw [List.length_take, allW_len, Nat.min_eq_left h]
/-- How far a way down has come: at the half u, d deep, with the digests bs beside. -/
structure FI (t : Tr) (p : List UInt8) (d : Nat) (u : Tr) (bs : List (List UInt8)) : Prop where
  bs : (t.way TgD 0 p).1 = bs ++ (u.way TgD d p).1
  lv : (t.way TgD 0 p).2 = (u.way TgD d p).2
  find : Tr.find 0 t p = Tr.find d u p
  canon : Tr.Canon d u
theorem FI.start {t : Tr} (p : List UInt8) (h : Tr.Canon 0 t) : FI t p 0 t [] := ⟨rfl, rfl, rfl, h⟩
theorem FI.left {t l r : Tr} {p : List UInt8} {d : Nat} {bs : List (List UInt8)} (h : FI t p d (.nd l r) bs) (hb : bitD p d = 0) : FI t p (d + 1) l (bs ++ [r.hash TgD]) := by
  have e : (Tr.nd l r).way TgD d p = (r.hash TgD :: (l.way TgD (d + 1) p).1, (l.way TgD (d + 1) p).2) := if_pos hb
  refine ⟨?_, ?_, ?_, h.canon.2.1⟩
  · rw [h.bs, e, List.append_assoc]; rfl
  · rw [h.lv, e]
  · rw [h.find]; exact if_pos hb
theorem FI.right {t l r : Tr} {p : List UInt8} {d : Nat} {bs : List (List UInt8)} (h : FI t p d (.nd l r) bs) (hb : bitD p d = 1) : FI t p (d + 1) r (bs ++ [l.hash TgD]) := by
  have hb0 : ¬ bitD p d = 0 := by omega
  have e : (Tr.nd l r).way TgD d p = (l.hash TgD :: (r.way TgD (d + 1) p).1, (r.way TgD (d + 1) p).2) := if_neg hb0
  refine ⟨?_, ?_, ?_, h.canon.2.2.1⟩
  · rw [h.bs, e, List.append_assoc]; rfl
  · rw [h.lv, e]
  · rw [h.find]; exact if_neg hb0
/-- At its end: no half of two. -/
def lone1 : Tr → Bool
  | .nd _ _ => false
  | _ => true
/-- What a way down comes to. -/
structure FE (t : Tr) (p : List UInt8) (u : Tr) (bs : List (List UInt8)) : Prop where
  bs : bs = (t.way TgD 0 p).1
  lv : u.leaves = (t.way TgD 0 p).2
  find : Tr.find 0 t p = if isAtT p u then u.leaves.head? else none
  lone : lone1 u = true
theorem FI.fin {t u : Tr} {p : List UInt8} {d : Nat} {bs : List (List UInt8)} (h : FI t p d u bs) (hl : lone1 u = true) : FE t p u bs := by
  have h1 := h.bs
  have h2 := h.lv
  have h3 := h.find
  cases u with
  | emp => exact ⟨by rw [h1]; exact (List.append_nil _).symm, h2.symm, h3, hl⟩
  | lf x =>
    refine ⟨by rw [h1]; exact (List.append_nil _).symm, h2.symm, ?_, hl⟩
    rw [h3]
    show (if x.1 = p then some x else none) = if (x.1 == p) = true then some x else none
    by_cases e : x.1 = p
    · rw [if_pos e, if_pos (by rw [e]; exact beq_self_eq_true p)]
    · rw [if_neg e, if_neg (by rw [beq_iff_eq]; exact e)]
  | nd l r => cases hl
theorem FI.at256 {t u : Tr} {p : List UInt8} {bs : List (List UInt8)} (h : FI t p 256 u bs) : lone1 u = true := by
  cases u with
  | emp => rfl
  | lf x => rfl
  | nd l r => exact absurd h.canon.1 (by omega)
theorem HF.lone {w : World} {t : Tr} {q : Option Addr} (h : HF w t q) (hc : t.cnt < 2) : lone1 t = true := by
  cases t with
  | emp => rfl
  | lf x => rfl
  | nd l r =>
    obtain ⟨_, _, _, _, _, _, _, h2⟩ := h
    rw [Tr.cnt_nd] at hc
    omega
theorem lone_cnt {t : Tr} (h : lone1 t = true) : t.cnt ≤ 1 := by
  cases t with
  | emp => exact Nat.zero_le _
  | lf x => exact Nat.le_refl _
  | nd l r => cases h
theorem GL.xa {w : World} {t : TypeId} {lo n k : Nat} {a : Option Addr} {bs : List (List UInt8)} (h : GL w t 1 lo (.slice a n k) (bs.map fun x => [sv x])) : XA w a bs := by
  obtain ⟨a', c', e, hh⟩ := h.sl
  cases e
  intro i hi
  obtain ⟨g, rfl, h2⟩ := hh i (by rw [List.length_map]; exact hi)
  refine ⟨g, 0, rfl, ?_⟩
  have := h2 0 (sv bs[i]) (by simp)
  rw [Nat.mul_one, Nat.add_zero] at this
  rw [Nat.zero_add]
  exact this
/-- What find leaves. -/
def FindP (t : Tr) (p : List UInt8) (w : World) (e : Ending) (w' : World) : Prop :=
  ∃ a c bs u qu, e = .returned (.tuple #[.slice a bs.length c, .pointer qu]) ∧ XA w' a bs ∧ (∀ g o, a = some ⟨g, o, none⟩ → w.heap.size ≤ g) ∧ HF w u qu ∧ u.cnt ≤ 1 ∧ FE t p u bs ∧ Below w.heap.size w w'
/-- The memory between two rounds of find. -/
structure FM (w : World) (p : List UInt8) (lo B : Nat) (qh : Option Addr) (sl : Value) (bs : List (List UInt8)) (W : World) : Prop where
  h : Blk W w.heap.size #[.pointer qh] 190
  s : Blk W (w.heap.size + 1) #[sl] 28
  gl : GL W 9 1 lo sl (bs.map fun x => [sv x])
  path : Blk W B #[.string ⟨p.toArray⟩] 9
  below : Below w.heap.size w W
  size : lo ≤ W.heap.size
theorem FM.turn {w : World} {p : List UInt8} {lo B : Nat} {qh : Option Addr} {sl : Value} {bs : List (List UInt8)} {W W' : World} {row : Option Nat} (h : FM w p lo B qh sl bs W) (hl : w.heap.size ≤ lo) (hg : W.grownBy W' row) (hr : ∀ r, row = some r → lo ≤ r ∧ ∃ o : Obj, W.heap[r]? = some o ∧ o.isCells = false) : FM w p lo B qh sl bs W' :=
  ⟨h.h.turn hg (fun r e => (hr r e).2), h.s.turn hg (fun r e => (hr r e).2), h.gl.turn hg (fun r e => (hr r e).2), h.path.turn hg (fun r e => (hr r e).2), h.below.grown hg h.below.size (fun k e => Nat.le_trans hl (hr k e).1), Nat.le_trans h.size hg.size⟩
theorem FM.below' {w : World} {p : List UInt8} {lo B : Nat} {qh : Option Addr} {sl : Value} {bs : List (List UInt8)} {W W' : World} (h : FM w p lo B qh sl bs W) (hb : Below W.heap.size W W') : FM w p lo B qh sl bs W' :=
  ⟨h.h.belowSize hb, h.s.belowSize hb, h.gl.below hb, h.path.belowSize hb, h.below.trans (hb.mono h.below.size), Nat.le_trans h.size hb.size⟩
/-- The same, with the slice that was made and not yet kept. -/
structure FM5 (w : World) (p : List UInt8) (lo B : Nat) (qh : Option Addr) (sl sl' : Value) (bs : List (List UInt8)) (W : World) : Prop where
  h : Blk W w.heap.size #[.pointer qh] 190
  s : Blk W (w.heap.size + 1) #[sl] 28
  gl : GL W 9 1 lo sl' (bs.map fun x => [sv x])
  path : Blk W B #[.string ⟨p.toArray⟩] 9
  below : Below w.heap.size w W
  size : lo ≤ W.heap.size
theorem FM.app {w : World} {p : List UInt8} {lo B : Nat} {qh : Option Addr} {sl sl' : Value} {bs : List (List UInt8)} {dg : List UInt8} {W W' : World} (h : FM w p lo B qh sl bs W) (hg : W.grownBy W' (slBlk sl)) (hG : GL W' 9 1 lo sl' ((bs.map fun x => [sv x]) ++ [[sv dg]])) (hlo : w.heap.size + 2 ≤ lo) (hB : B < lo) : FM5 w p lo B qh sl sl' (bs ++ [dg]) W' :=
  ⟨h.h.grown hg (fun e => h.gl.ne h.h (.inr (by omega)) _ e.symm rfl), h.s.grown hg (fun e => h.gl.ne h.s (.inr (by omega)) _ e.symm rfl), by rw [List.map_append]; exact hG, h.path.grown hg (fun e => h.gl.ne h.path (.inr hB) _ e.symm rfl), h.below.grown hg h.below.size (fun k e => by have := (h.gl.lt k e).1; omega), Nat.le_trans h.size hg.size⟩
theorem FM5.put {w : World} {p : List UInt8} {lo B : Nat} {qh : Option Addr} {sl sl' : Value} {bs : List (List UInt8)} {W : World} (h : FM5 w p lo B qh sl sl' bs W) (hlo : w.heap.size + 2 ≤ lo) (hB : w.heap.size + 1 < B) : FM w p lo B qh sl' bs (W.setCell ⟨w.heap.size + 1, 0, none⟩ sl') := by
  have hg := grown_setCell (w.heap.size + 1) sl' 0 W
  exact ⟨h.h.grown hg (fun e => by have := Option.some.inj e; omega), h.s.setCell 0 sl', h.gl.grown hg (h.gl.ne h.s (.inr (by omega))), h.path.grown hg (fun e => by have := Option.some.inj e; omega), h.below.grown hg h.below.size (fun k e => by cases e; omega), Nat.le_trans h.size hg.size⟩
theorem FM.move {w : World} {p : List UInt8} {lo B : Nat} {qh qn : Option Addr} {sl : Value} {bs : List (List UInt8)} {W : World} (h : FM w p lo B qh sl bs W) (hlo : w.heap.size + 2 ≤ lo) (hB : w.heap.size + 1 < B) : FM w p lo B qn sl bs (W.setCell ⟨w.heap.size, 0, none⟩ (.pointer qn)) := by
  have hg := grown_setCell w.heap.size (.pointer qn) 0 W
  exact ⟨h.h.setCell 0 (.pointer qn), h.s.grown hg (fun e => by have := Option.some.inj e; omega), h.gl.grown hg (h.gl.ne h.h (.inr (by omega))), h.path.grown hg (fun e => by have := Option.some.inj e; omega), h.below.grown hg h.below.size (fun k e => by cases e; omega), Nat.le_trans h.size hg.size⟩
theorem run_bsl1 {op : Oper} {a : Act} {w : World} (x : Operand) (ho : op.op = .buildSlice 28 1 #[(0, x)]) {u : List UInt8} (hx : a.eval x = .string ⟨u.toArray⟩) : (execOp a.eval op).run Tryz.prog w = .ok (.value (.slice (some ⟨w.heap.size, 0, none⟩) 1 1)) (w.alloc (.cells #[sv u] 9)) := by
  unfold execOp
  have e : (#[(0, x)] : Array (Nat × Operand)).map (fun (i, x) => (i, a.eval x)) = #[(0, sv u)] := by simp [hx, sv]
  have hr := tsl1 u w
  rw [← e] at hr
  simp only [ho, Sem.run_bind, hr, Result.andThen_ok]
  rfl
section
attribute [local go_sem] Oper.semAt_some
set_option maxRecDepth 100000 in
set_option maxHeartbeats 2000000 in
theorem find_any (t : Tr) (q : Option Addr) (p : List UInt8) (w : World) (h : HF w t q) (hc : Tr.Canon 0 t) (hp : p.length = 32) (hn : t.cnt ≤ 100000) :
    Calls Tryz.prog 123 #[.pointer q, .string ⟨p.toArray⟩] w (FindP t p w) := by
  obtain ⟨i9', hi9, hz9, hs9, hby9⟩ := info9
  replace hby9 : i9'.bytes ≤ 256 := by omega
  refine (callsIn_wide (n := 6)).1 (callsIn_of_wp_marks Tryz.func123 rfl trivial ?_ rfl)
  refine wpIn_wide.2 ?_
  simp only [Tryz.ntmps123, List.size_toArray, List.length_cons, List.length_nil, Nat.reduceAdd, Nat.reduceSub, Array.replicate_succ, Array.replicate_zero, List.push_toArray, List.append_toArray, List.nil_append, List.cons_append]
  have HW := way_any p
  go_wp2_with (go_at_call 156; refine (HW _).mono ?_; rintro e w2 ⟨rfl, hb2, hw2⟩)
  clear HW
  have hA : Below w.heap.size w ((w.alloc (.cells #[.pointer q] 190)).alloc (.cells #[.slice none 0 0] 28)) := ((Below.refl _ w).alloc (Nat.le_refl _) _).alloc (by simp) _
  have hBh : Blk ((w.alloc (.cells #[.pointer q] 190)).alloc (.cells #[.slice none 0 0] 28)) w.heap.size #[.pointer q] 190 := (Blk.new w _ _).alloc _
  have hBs : Blk ((w.alloc (.cells #[.pointer q] 190)).alloc (.cells #[.slice none 0 0] 28)) (w.heap.size + 1) #[.slice none 0 0] 28 := by
    have := Blk.new (w.alloc (.cells #[.pointer q] 190)) #[.slice none 0 0] 28
    rwa [World.size_alloc] at this
  have hsz : ((w.alloc (.cells #[.pointer q] 190)).alloc (.cells #[.slice none 0 0] 28)).heap.size = w.heap.size + 1 + 1 := by simp
  rw [hsz] at hb2
  have hlo : w.heap.size + 2 ≤ w2.heap.size := by have := hw2.size; rw [hsz] at this; exact this
  have hlt : w.heap.size + 1 + 1 < w2.heap.size := hb2.lt
  have M2 : FM w p w2.heap.size (w.heap.size + 1 + 1) q (.slice none 0 0) [] w2 := ⟨hBh.belowSize hw2, hBs.belowSize hw2, GL.nil _ _ _ _, hb2, hA.trans (hw2.mono hA.size), Nat.le_refl _⟩
  clear hA hBh hBs hsz hw2
  generalize ((w.alloc (.cells #[.pointer q] 190)).alloc (.cells #[.slice none 0 0] 28)) = w1 at *
  obtain ⟨lo, hlo'⟩ : ∃ lo, w2.heap.size = lo := ⟨_, rfl⟩
  obtain ⟨B, hB'⟩ : ∃ B, w.heap.size + 1 + 1 = B := ⟨_, rfl⟩
  rw [hlo'] at hlo hlt M2
  rw [hB'] at hlt M2 hb2
  have hBs1 : w.heap.size + 1 < B := by omega
  refine (wpIn_wide (n := 6)).1 ?_
  rw [hB']
  refine wpIn_rangeFunc_ownG rfl (by omega) (gf := 190) (lb := #[.pointer (some ⟨B, 0, none⟩)]) rfl trivial (enters_of Tryz.func190 (by kernel_rfl) rfl)
    (way_stops 5 (by omega) B p hp w2 hb2) kpW_t (kpW_b (w := w2)) (Below.refl _ _) (fun _ => rfl)
    (fun pre W => ∃ td qh sl bs, FM w p lo B qh sl bs W ∧ HF w td qh ∧ td.cnt ≤ 100000 ∧ bs.length ≤ pre.length ∧ Hid (IsW pre → FI t p pre.length td bs))
    (fun c pre W => c = .exit 0 ∧ ∃ td qh sl bs, FM w p lo B qh sl bs W ∧ HF w td qh ∧ td.cnt < 2 ∧ Hid (IsW pre → FI t p (pre.length - 1) td bs))
    (fun s W W' row hs hg hr => by
      obtain ⟨td, qh, sl, bs, hM, hrest⟩ := hs
      exact ⟨td, qh, sl, bs, hM.turn (by omega) hg (by rw [hlo'] at hr; exact hr), hrest⟩)
    (fun c s W W' row hs hg hr => by
      obtain ⟨hc, td, qh, sl, bs, hM, hrest⟩ := hs
      exact ⟨hc, td, qh, sl, bs, hM.turn (by omega) hg (by rw [hlo'] at hr; exact hr), hrest⟩)
    ⟨t, q, _, [], M2, h, hn, Nat.le_refl _, fun _ => FI.start p hc⟩
    (fun x => { tmps := #[.pointer q, .string ⟨p.toArray⟩, .pointer (some ⟨w.heap.size, 0, none⟩), undef, .slice none 0 0, .pointer none, .pointer (some ⟨w.heap.size + 1, 0, none⟩), undef, .int .i64 ((bitD p x.1 : Nat) : Int), .string ⟨p.toArray⟩, .func (.func 190) #[] #[.pointer (some ⟨B, 0, none⟩)], .int .i64 ((x.1 : Nat) : Int), .int .i64 ((bitD p x.1 : Nat) : Int), undef, undef, undef, undef, undef, undef, undef, undef, undef, undef, undef, undef, undef, undef, undef, undef, undef, undef, undef, undef, undef, undef], defers := [] }) ?assign ?body ?done ?stop
  case assign =>
    intro l x W K hK
    gi_wp2
    exact hK
  case body =>
    rintro l pre x W ⟨td, qh, sl, bs, hM, hf, hcn, hbl, hFI⟩ hlt2
    have HC := count_any td qh W (hf.below hM.below)
    have ch : W.cell? ⟨w.heap.size, 0, none⟩ = some (.pointer qh) := hM.h.cell 0
    have cs : W.cell? ⟨w.heap.size + 1, 0, none⟩ = some sl := hM.s.cell 0
    by_cases h2 : td.cnt < 2
    · have h2i : (td.cnt : Int) < 2 := by omega
      gi_wp2_with (refine ⟨trivial, ?_⟩; gi_at_call 157; refine (CallsIn.inRound l (callsIn_wide.2 HC)).mono ?_; rintro e w3 ⟨rfl, hw3⟩; have hw3 := hw3.symm; subst hw3)
      refine ⟨(NC.refl _).from _, rfl, td, qh, sl, bs, hM, hf, h2, fun hW => ?_⟩
      rw [List.length_append, List.length_singleton, Nat.add_sub_cancel]
      exact hFI.out (hW.snoc hlt2).1
    · cases td with
      | emp => exact absurd h2 (by decide)
      | lf y => exact absurd h2 (fun h => h (by show 1 < 2; decide))
      | nd tl tr =>
        obtain ⟨b, pl, pr, rfl, hb, hl, hr, h22⟩ := hf
        rw [Tr.cnt_nd] at HC hcn
        have hbit := bitD_lt p x.1
        have hFI' := fun (hW : IsW (pre ++ [x])) => hFI.out (hW.snoc hlt2).1
        have hxe := fun (hW : IsW (pre ++ [x])) => (hW.snoc hlt2).2
        have hlp := hl.below hM.below
        have hrp := hr.below hM.below
        obtain ⟨c0, c1, c2, c3, c4, c5⟩ := half_cells (hb.belowSize hM.below)
        have hlbx : b < w.heap.size := hb.lt
        generalize hcl : tl.cnt + tr.cnt = nn at *
        have h2i : ¬ (nn : Int) < 2 := by omega
        by_cases hb0 : bitD p x.1 = 0
        · rw [hb0]
          gi_upto_region 5 with (refine ⟨trivial, ?_⟩; gi_at_call 157; refine (CallsIn.inRound l (callsIn_wide.2 HC)).mono ?_; rintro e w3 ⟨rfl, hw3⟩; have hw3 := hw3.symm; subst hw3)
          have HH := hhash_any tr pr W.drew hrp.drew
          obtain ⟨dg, hdg⟩ : ∃ dg, tr.hash TgD = dg := ⟨_, rfl⟩
          rw [hdg] at HH
          have M0 := hM.below' (Below.refl W.heap.size W).drew
          have hcb : ∀ {V : World} {o : Nat} {v : Value}, Below w.heap.size w V → W.cell? ⟨b, o, none⟩ = some v → V.cell? ⟨b, o, none⟩ = some v := fun hV hv => by rw [hV.cell (p := ⟨b, _, none⟩) hlbx, ← hM.below.cell (p := ⟨b, _, none⟩) hlbx]; exact hv
          have hS3 : ∀ {V : World}, FM w p lo B (some ⟨b, 0, none⟩) sl bs V → V.cell? ⟨w.heap.size, 0, none⟩ = some (.pointer (some ⟨b, 0, none⟩)) ∧ V.cell? ⟨w.heap.size + 1, 0, none⟩ = some sl ∧ V.cell? ⟨b, 5, none⟩ = some (.pointer pr) := fun M => ⟨M.h.cell 0, M.s.cell 0, hcb M.below c5⟩
          have s0 := hS3 M0
          refine region_in_L (z := 11) (S := fun V => V.cell? ⟨w.heap.size, 0, none⟩ = some (.pointer (some ⟨b, 0, none⟩)) ∧ V.cell? ⟨w.heap.size + 1, 0, none⟩ = some sl ∧ V.cell? ⟨b, 5, none⟩ = some (.pointer pr)) (by kernel_rfl) (by rintro ⟨_, _, h⟩; exact h) (by kernel_rfl) ?_
          refine wpAnyL_take (i := 0) (oi := ⟨some 16, _, _, _, _, _⟩) (v := sl) rfl (by kernel_rfl) (by kernel_rfl) (by kernel_rfl) (by kernel_rfl) (fun _ _ _ h => h) (Or.inl ⟨by rfl, fun w hSw => by (try dsimp only at hSw); obtain ⟨r0, r1, r2⟩ := hSw; go_simp⟩) s0 ?_
          refine wpAnyL_take (i := 1) (oi := ⟨some 17, _, _, _, _, _⟩) (v := .pointer (some ⟨b, 0, none⟩)) rfl (by kernel_rfl) (by kernel_rfl) (by kernel_rfl) (by kernel_rfl) (fun _ _ _ h => h) (Or.inl ⟨by rfl, fun w hSw => by (try dsimp only at hSw); obtain ⟨r0, r1, r2⟩ := hSw; go_simp⟩) s0 ?_
          refine wpAnyL_take (i := 2) (oi := ⟨some 18, _, _, _, _, _⟩) (v := .int .i64 0) rfl (by kernel_rfl) (by kernel_rfl) (by kernel_rfl) (by kernel_rfl) (fun _ _ _ h => h) (Or.inl ⟨by rfl, fun w hSw => by (go_simp; try rfl)⟩) s0 ?_
          try simp only [Act.put, List.setIfInBounds_toArray, List.set_cons_zero, List.set_cons_succ]
          refine wpAnyL_take (i := 3) (oi := ⟨some 19, _, _, _, _, _⟩) (v := .int .i64 1) rfl (by kernel_rfl) (by kernel_rfl) (by kernel_rfl) (by kernel_rfl) (fun _ _ _ h => h) (Or.inl ⟨by rfl, fun w hSw => by (go_simp; try rfl)⟩) s0 ?_
          try simp only [Act.put, List.setIfInBounds_toArray, List.set_cons_zero, List.set_cons_succ]
          refine wpAnyL_take (i := 4) (oi := ⟨some 20, _, _, _, _, _⟩) (v := .pointer (some ⟨b, 0, none⟩)) rfl (by kernel_rfl) (by kernel_rfl) (by kernel_rfl) (by kernel_rfl) (fun _ _ _ h => h) (Or.inl ⟨by rfl, fun w hSw => by (go_simp; try rfl)⟩) s0 ?_
          try simp only [Act.put, List.setIfInBounds_toArray, List.set_cons_zero, List.set_cons_succ]
          refine wpAnyL_take (i := 5) (oi := ⟨some 21, _, _, _, _, _⟩) (v := .pointer (some ⟨b, 4, none⟩)) rfl (by kernel_rfl) (by kernel_rfl) (by kernel_rfl) (by kernel_rfl) (fun _ _ _ h => h) (Or.inl ⟨by rfl, fun w hSw => by (go_simp; try rfl)⟩) s0 ?_
          try simp only [Act.put, List.setIfInBounds_toArray, List.set_cons_zero, List.set_cons_succ]
          refine wpAnyL_take (i := 6) (oi := ⟨some 22, _, _, _, _, _⟩) (v := .pointer (some ⟨b, 5, none⟩)) rfl (by kernel_rfl) (by kernel_rfl) (by kernel_rfl) (by kernel_rfl) (fun _ _ _ h => h) (Or.inl ⟨by rfl, fun w hSw => by (go_simp; try rfl)⟩) s0 ?_
          try simp only [Act.put, List.setIfInBounds_toArray, List.set_cons_zero, List.set_cons_succ]
          refine wpAnyL_take (i := 7) (oi := ⟨some 23, _, _, _, _, _⟩) (v := .pointer pr) rfl (by kernel_rfl) (by kernel_rfl) (by kernel_rfl) (by kernel_rfl) (fun _ _ _ h => h) (Or.inl ⟨by rfl, fun w hSw => by (try dsimp only at hSw); obtain ⟨r0, r1, r2⟩ := hSw; go_simp⟩) s0 ?_
          try simp only [Act.put, List.setIfInBounds_toArray, List.set_cons_zero, List.set_cons_succ]
          refine wpAnyL_one (i := 8) (o := ⟨some 24, .call ⟨.value (.func 148), #[.tmp 23], #[190]⟩, _, _, _, _⟩) rfl (by kernel_rfl) (fun K hK => ?_)
          rw [if_pos (by rfl)]
          go_simp
          refine (HH).mono ?_
          rintro e w3 ⟨rfl, hw3⟩
          have M3 := M0.below' hw3
          have s1 := hS3 M3
          refine hK.out _ _ (fun _ => s1) ?_
          clear hK K
          try simp only [Act.put, List.setIfInBounds_toArray, List.set_cons_zero, List.set_cons_succ]
          try simp only [Act.put, List.setIfInBounds_toArray, List.set_cons_zero, List.set_cons_succ]
          refine wpAnyL_one (i := 9) (o := ⟨some 25, .buildSlice 28 1 #[(0, .tmp 24)], _, _, _, _⟩) rfl (by kernel_rfl) (fun K hK => ?_)
          rw [if_pos (by rfl)]
          refine wp_runK (.slice (some ⟨w3.heap.size, 0, none⟩) 1 1) (w3.alloc (.cells #[sv dg] 9)) (run_bsl1 _ rfl rfl) ?_
          have hw4 : Below w3.heap.size w3 (w3.alloc (.cells #[sv dg] 9)) := (Below.refl _ _).alloc (Nat.le_refl _) _
          have hb4 := Blk.new w3 #[sv dg] 9
          generalize w3.alloc (.cells #[sv dg] 9) = w4 at *
          have M4 := M3.below' hw4
          have s2 := hS3 M4
          refine hK.out _ _ (fun _ => s2) ?_
          clear hK K
          try simp only [Act.put, List.setIfInBounds_toArray, List.set_cons_zero, List.set_cons_succ]
          refine wpAnyL_one (i := 10) (o := ⟨some 26, .call ⟨.builtin .append, #[.tmp 16, .tmp 25], #[28, 28]⟩, _, _, _, _⟩) rfl (by kernel_rfl) (fun K hK => ?_)
          refine step_appGL rfl _ _ 28 9 rfl 1 lo sl _ M4.size rfl M4.gl w3.heap.size 1 rfl [sv dg] rfl (by simp [sv, Value.oneCell']) 9 hb4 i9' (.string ⟨#[]⟩) rfl Tryz.underlying28 hi9 hz9 hs9 hby9 (by rw [List.length_map]; omega) ?_
          intro w5 sl5 hg5 hG5
          have M5 := M4.app hg5 hG5 hlo hlt
          have s3 : w5.cell? ⟨w.heap.size, 0, none⟩ = some (.pointer (some ⟨b, 0, none⟩)) ∧ w5.cell? ⟨w.heap.size + 1, 0, none⟩ = some sl ∧ w5.cell? ⟨b, 5, none⟩ = some (.pointer pr) := ⟨M5.h.cell 0, M5.s.cell 0, hcb M5.below c5⟩
          have NC5 : NC W w5 := (((NC.below (Below.refl W.heap.size W).drew).trans (NC.below hw3)).trans (NC.below hw4)).trans (NC.app hg5 M4.gl)
          obtain ⟨a5, k5, e5, _⟩ := hG5.sl
          generalize List.length _ = n5 at e5
          subst e5
          refine hK.out _ _ (fun _ => s3) ?_
          clear hK K
          try simp only [Act.put, List.setIfInBounds_toArray, List.set_cons_zero, List.set_cons_succ]
          refine wpAnyL_one (i := 11) (o := ⟨none, .store 28 (.tmp 6) (.tmp 26), _, _, _, _⟩) rfl (by kernel_rfl) (fun K hK => ?_)
          rw [if_pos (by rfl)]
          have f5 := M5.s.frozen 0
          obtain ⟨_, s31, _⟩ := s3
          go_simp
          have M6 := M5.put hlo hBs1
          have NC6 := NC5.trans (NC.blk (grown_setCell (w.heap.size + 1) (.slice a5 n5 k5) 0 w5) M5.s)
          refine hK.out _ _ (fun h => absurd rfl h) ?_
          clear hK K
          try simp only [Act.put, List.setIfInBounds_toArray, List.set_cons_zero, List.set_cons_succ]
          refine wpAnyL_done (by kernel_rfl) ?_ _
          generalize w5.setCell ⟨w.heap.size + 1, 0, none⟩ (.slice a5 n5 k5) = w6 at *
          have q0 : w6.cell? ⟨w.heap.size, 0, none⟩ = some (.pointer (some ⟨b, 0, none⟩)) := M6.h.cell 0
          have q1 := M6.h.frozen 0
          have q2 : w6.cell? ⟨b, 4, none⟩ = some (.pointer pl) := hcb M6.below c4
          gi_wp2
          have M7 := M6.move (qn := pl) hlo hBs1
          have NC7 := NC6.trans (NC.blk (grown_setCell w.heap.size (.pointer pl) 0 w6) M6.h)
          refine ⟨NC7.from _, fun _ => M7.path, tl, pl, _, _, M7, hl, by omega, by simp; omega, fun hW => ?_⟩
          rw [List.length_append, List.length_singleton, ← hdg]
          have e := hxe hW
          exact (hFI' hW).left (by rw [← e]; exact hb0)
        · have hb1 : bitD p x.1 = 1 := by omega
          rw [hb1]
          gi_upto_region 5 with (refine ⟨trivial, ?_⟩; gi_at_call 157; refine (CallsIn.inRound l (callsIn_wide.2 HC)).mono ?_; rintro e w3 ⟨rfl, hw3⟩; have hw3 := hw3.symm; subst hw3)
          have HH := hhash_any tl pl W.drew hlp.drew
          obtain ⟨dg, hdg⟩ : ∃ dg, tl.hash TgD = dg := ⟨_, rfl⟩
          rw [hdg] at HH
          have M0 := hM.below' (Below.refl W.heap.size W).drew
          have hcb : ∀ {V : World} {o : Nat} {v : Value}, Below w.heap.size w V → W.cell? ⟨b, o, none⟩ = some v → V.cell? ⟨b, o, none⟩ = some v := fun hV hv => by rw [hV.cell (p := ⟨b, _, none⟩) hlbx, ← hM.below.cell (p := ⟨b, _, none⟩) hlbx]; exact hv
          have hS3 : ∀ {V : World}, FM w p lo B (some ⟨b, 0, none⟩) sl bs V → V.cell? ⟨w.heap.size, 0, none⟩ = some (.pointer (some ⟨b, 0, none⟩)) ∧ V.cell? ⟨w.heap.size + 1, 0, none⟩ = some sl ∧ V.cell? ⟨b, 4, none⟩ = some (.pointer pl) := fun M => ⟨M.h.cell 0, M.s.cell 0, hcb M.below c4⟩
          have s0 := hS3 M0
          refine region_in_L (z := 11) (S := fun V => V.cell? ⟨w.heap.size, 0, none⟩ = some (.pointer (some ⟨b, 0, none⟩)) ∧ V.cell? ⟨w.heap.size + 1, 0, none⟩ = some sl ∧ V.cell? ⟨b, 4, none⟩ = some (.pointer pl)) (by kernel_rfl) (by rintro ⟨_, _, h⟩; exact h) (by kernel_rfl) ?_
          refine wpAnyL_take (i := 0) (oi := ⟨some 16, _, _, _, _, _⟩) (v := sl) rfl (by kernel_rfl) (by kernel_rfl) (by kernel_rfl) (by kernel_rfl) (fun _ _ _ h => h) (Or.inl ⟨by rfl, fun w hSw => by (try dsimp only at hSw); obtain ⟨r0, r1, r2⟩ := hSw; go_simp⟩) s0 ?_
          refine wpAnyL_take (i := 1) (oi := ⟨some 17, _, _, _, _, _⟩) (v := .pointer (some ⟨b, 0, none⟩)) rfl (by kernel_rfl) (by kernel_rfl) (by kernel_rfl) (by kernel_rfl) (fun _ _ _ h => h) (Or.inl ⟨by rfl, fun w hSw => by (try dsimp only at hSw); obtain ⟨r0, r1, r2⟩ := hSw; go_simp⟩) s0 ?_
          refine wpAnyL_take (i := 2) (oi := ⟨some 18, _, _, _, _, _⟩) (v := .int .i64 1) rfl (by kernel_rfl) (by kernel_rfl) (by kernel_rfl) (by kernel_rfl) (fun _ _ _ h => h) (Or.inl ⟨by rfl, fun w hSw => by (go_simp; try rfl)⟩) s0 ?_
          try simp only [Act.put, List.setIfInBounds_toArray, List.set_cons_zero, List.set_cons_succ]
          refine wpAnyL_take (i := 3) (oi := ⟨some 19, _, _, _, _, _⟩) (v := .int .i64 0) rfl (by kernel_rfl) (by kernel_rfl) (by kernel_rfl) (by kernel_rfl) (fun _ _ _ h => h) (Or.inl ⟨by rfl, fun w hSw => by (go_simp; try rfl)⟩) s0 ?_
          try simp only [Act.put, List.setIfInBounds_toArray, List.set_cons_zero, List.set_cons_succ]
          refine wpAnyL_take (i := 4) (oi := ⟨some 20, _, _, _, _, _⟩) (v := .pointer (some ⟨b, 0, none⟩)) rfl (by kernel_rfl) (by kernel_rfl) (by kernel_rfl) (by kernel_rfl) (fun _ _ _ h => h) (Or.inl ⟨by rfl, fun w hSw => by (go_simp; try rfl)⟩) s0 ?_
          try simp only [Act.put, List.setIfInBounds_toArray, List.set_cons_zero, List.set_cons_succ]
          refine wpAnyL_take (i := 5) (oi := ⟨some 21, _, _, _, _, _⟩) (v := .pointer (some ⟨b, 4, none⟩)) rfl (by kernel_rfl) (by kernel_rfl) (by kernel_rfl) (by kernel_rfl) (fun _ _ _ h => h) (Or.inl ⟨by rfl, fun w hSw => by (go_simp; try rfl)⟩) s0 ?_
          try simp only [Act.put, List.setIfInBounds_toArray, List.set_cons_zero, List.set_cons_succ]
          refine wpAnyL_take (i := 6) (oi := ⟨some 22, _, _, _, _, _⟩) (v := .pointer (some ⟨b, 4, none⟩)) rfl (by kernel_rfl) (by kernel_rfl) (by kernel_rfl) (by kernel_rfl) (fun _ _ _ h => h) (Or.inl ⟨by rfl, fun w hSw => by (go_simp; try rfl)⟩) s0 ?_
          try simp only [Act.put, List.setIfInBounds_toArray, List.set_cons_zero, List.set_cons_succ]
          refine wpAnyL_take (i := 7) (oi := ⟨some 23, _, _, _, _, _⟩) (v := .pointer pl) rfl (by kernel_rfl) (by kernel_rfl) (by kernel_rfl) (by kernel_rfl) (fun _ _ _ h => h) (Or.inl ⟨by rfl, fun w hSw => by (try dsimp only at hSw); obtain ⟨r0, r1, r2⟩ := hSw; go_simp⟩) s0 ?_
          try simp only [Act.put, List.setIfInBounds_toArray, List.set_cons_zero, List.set_cons_succ]
          refine wpAnyL_one (i := 8) (o := ⟨some 24, .call ⟨.value (.func 148), #[.tmp 23], #[190]⟩, _, _, _, _⟩) rfl (by kernel_rfl) (fun K hK => ?_)
          rw [if_pos (by rfl)]
          go_simp
          refine (HH).mono ?_
          rintro e w3 ⟨rfl, hw3⟩
          have M3 := M0.below' hw3
          have s1 := hS3 M3
          refine hK.out _ _ (fun _ => s1) ?_
          clear hK K
          try simp only [Act.put, List.setIfInBounds_toArray, List.set_cons_zero, List.set_cons_succ]
          try simp only [Act.put, List.setIfInBounds_toArray, List.set_cons_zero, List.set_cons_succ]
          refine wpAnyL_one (i := 9) (o := ⟨some 25, .buildSlice 28 1 #[(0, .tmp 24)], _, _, _, _⟩) rfl (by kernel_rfl) (fun K hK => ?_)
          rw [if_pos (by rfl)]
          refine wp_runK (.slice (some ⟨w3.heap.size, 0, none⟩) 1 1) (w3.alloc (.cells #[sv dg] 9)) (run_bsl1 _ rfl rfl) ?_
          have hw4 : Below w3.heap.size w3 (w3.alloc (.cells #[sv dg] 9)) := (Below.refl _ _).alloc (Nat.le_refl _) _
          have hb4 := Blk.new w3 #[sv dg] 9
          generalize w3.alloc (.cells #[sv dg] 9) = w4 at *
          have M4 := M3.below' hw4
          have s2 := hS3 M4
          refine hK.out _ _ (fun _ => s2) ?_
          clear hK K
          try simp only [Act.put, List.setIfInBounds_toArray, List.set_cons_zero, List.set_cons_succ]
          refine wpAnyL_one (i := 10) (o := ⟨some 26, .call ⟨.builtin .append, #[.tmp 16, .tmp 25], #[28, 28]⟩, _, _, _, _⟩) rfl (by kernel_rfl) (fun K hK => ?_)
          refine step_appGL rfl _ _ 28 9 rfl 1 lo sl _ M4.size rfl M4.gl w3.heap.size 1 rfl [sv dg] rfl (by simp [sv, Value.oneCell']) 9 hb4 i9' (.string ⟨#[]⟩) rfl Tryz.underlying28 hi9 hz9 hs9 hby9 (by rw [List.length_map]; omega) ?_
          intro w5 sl5 hg5 hG5
          have M5 := M4.app hg5 hG5 hlo hlt
          have s3 : w5.cell? ⟨w.heap.size, 0, none⟩ = some (.pointer (some ⟨b, 0, none⟩)) ∧ w5.cell? ⟨w.heap.size + 1, 0, none⟩ = some sl ∧ w5.cell? ⟨b, 4, none⟩ = some (.pointer pl) := ⟨M5.h.cell 0, M5.s.cell 0, hcb M5.below c4⟩
          have NC5 : NC W w5 := (((NC.below (Below.refl W.heap.size W).drew).trans (NC.below hw3)).trans (NC.below hw4)).trans (NC.app hg5 M4.gl)
          obtain ⟨a5, k5, e5, _⟩ := hG5.sl
          generalize List.length _ = n5 at e5
          subst e5
          refine hK.out _ _ (fun _ => s3) ?_
          clear hK K
          try simp only [Act.put, List.setIfInBounds_toArray, List.set_cons_zero, List.set_cons_succ]
          refine wpAnyL_one (i := 11) (o := ⟨none, .store 28 (.tmp 6) (.tmp 26), _, _, _, _⟩) rfl (by kernel_rfl) (fun K hK => ?_)
          rw [if_pos (by rfl)]
          have f5 := M5.s.frozen 0
          obtain ⟨_, s31, _⟩ := s3
          go_simp
          have M6 := M5.put hlo hBs1
          have NC6 := NC5.trans (NC.blk (grown_setCell (w.heap.size + 1) (.slice a5 n5 k5) 0 w5) M5.s)
          refine hK.out _ _ (fun h => absurd rfl h) ?_
          clear hK K
          try simp only [Act.put, List.setIfInBounds_toArray, List.set_cons_zero, List.set_cons_succ]
          refine wpAnyL_done (by kernel_rfl) ?_ _
          generalize w5.setCell ⟨w.heap.size + 1, 0, none⟩ (.slice a5 n5 k5) = w6 at *
          have q0 : w6.cell? ⟨w.heap.size, 0, none⟩ = some (.pointer (some ⟨b, 0, none⟩)) := M6.h.cell 0
          have q1 := M6.h.frozen 0
          have q2 : w6.cell? ⟨b, 5, none⟩ = some (.pointer pr) := hcb M6.below c5
          gi_wp2
          have M7 := M6.move (qn := pr) hlo hBs1
          have NC7 := NC6.trans (NC.blk (grown_setCell w.heap.size (.pointer pr) 0 w6) M6.h)
          refine ⟨NC7.from _, fun _ => M7.path, tr, pr, _, _, M7, hr, by omega, by simp; omega, fun hW => ?_⟩
          rw [List.length_append, List.length_singleton, ← hdg]
          have e := hxe hW
          exact (hFI' hW).right (by rw [← e]; exact hb1)
  case done =>
    rintro D ys W hD rfl ⟨td, qh, sl, bs, hM, hf, hcn, hbl, hFI⟩ hK
    have hfin : FE t p td bs := by
      have := hFI.out IsW.all
      rw [allW_len] at this
      exact this.fin this.at256
    have d0 : W.drew.cell? ⟨w.heap.size, 0, none⟩ = some (.pointer qh) ∧ W.drew.cell? ⟨w.heap.size + 1, 0, none⟩ = some sl := ⟨hM.h.drew.cell 0, hM.s.drew.cell 0⟩
    obtain ⟨a, k, rfl, hGa⟩ := hM.gl.sl
    go_upto_region 7 with fail
    go_region_held3 (fun V => V.cell? ⟨w.heap.size, 0, none⟩ = some (.pointer qh) ∧ V.cell? ⟨w.heap.size + 1, 0, none⟩ = some (.slice a (bs.map fun x => [sv x]).length k)) (assumption) (fail)
    go_wp2_with fail
    have hKd : W.drew.heap[D]? = some (.deferred (some [])) := hK
    refine ⟨by simp, .inl ⟨_, _, rfl, run_takeDeferred hKd, ?_⟩⟩
    have hG8 := hM.gl.drew.turn (grownBy_putObj' W.drew D (.deferred none)) (fun r e => by cases e; exact ⟨_, hKd, rfl⟩)
    have hB8 : Below w.heap.size w W.drew := hM.below.drew
    refine ⟨_, results_tmp2 rfl _ _ _, a, k, bs, td, qh, rfl, hG8.xa, (fun g o e => by have := (hG8.lt g (by rw [e]; rfl)).1; omega), hf, lone_cnt hfin.lone, hfin, hB8.trans (belowK_b (w := w) (Nat.le_refl _) W.drew D _ _ (by omega) hKd rfl rfl)⟩
  case stop =>
    rintro D c pre W hD ⟨j, hj, rfl⟩ ⟨rfl, td, qh, sl, bs, hM, hf, h2, hFI⟩ hK
    have hfin : FE t p td bs := (hFI.out (IsW.take hj)).fin (hf.lone h2)
    have d0 : W.drew.cell? ⟨w.heap.size, 0, none⟩ = some (.pointer qh) ∧ W.drew.cell? ⟨w.heap.size + 1, 0, none⟩ = some sl := ⟨hM.h.drew.cell 0, hM.s.drew.cell 0⟩
    obtain ⟨a, k, rfl, hGa⟩ := hM.gl.sl
    refine wpIn_exit ?_
    go_upto_region 7 with fail
    go_region_held3 (fun V => V.cell? ⟨w.heap.size, 0, none⟩ = some (.pointer qh) ∧ V.cell? ⟨w.heap.size + 1, 0, none⟩ = some (.slice a (bs.map fun x => [sv x]).length k)) (assumption) (fail)
    go_wp2_with fail
    have hKd : W.drew.heap[D]? = some (.deferred (some [])) := hK
    refine ⟨by simp, .inl ⟨_, _, rfl, run_takeDeferred hKd, ?_⟩⟩
    have hG8 := hM.gl.drew.turn (grownBy_putObj' W.drew D (.deferred none)) (fun r e => by cases e; exact ⟨_, hKd, rfl⟩)
    have hB8 : Below w.heap.size w W.drew := hM.below.drew
    refine ⟨_, results_tmp2 rfl _ _ _, a, k, bs, td, qh, rfl, hG8.xa, (fun g o e => by have := (hG8.lt g (by rw [e]; rfl)).1; omega), hf, lone_cnt hfin.lone, hfin, hB8.trans (belowK_b (w := w) (Nat.le_refl _) W.drew D _ _ (by omega) hKd rfl rfl)⟩
end
end Go.Proofs.YtmbdhngoldganaaGreatDoor.Sh
