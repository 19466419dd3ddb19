/- Headers, plainly: who may take part, which headers may be, their bytes, and what a reader takes. Bytes that are read as a header are just its bytes, and its bytes are read as it. Who takes part in memory; what the plain Members, MembersBytes and Hash do. What the plain Hash, MembersBytes, Check and Bytes do. What the plain Bytes of a header does. -/
import Derived.Test.YtmbdhngoldganaaGreatDoorChk
import Derived.Test.YtmbdhngoldganaaGreatDoorSta
import Derived.BigQuiet
import Derived.Deep.RegionHeld3
import Derived.Test.YtmbdhngoldganaaGreatDoorKys
namespace Go.Proofs.YtmbdhngoldganaaGreatDoor
open Go
structure HH where
  height : Nat
  prev : List UInt8
  txr : List UInt8
  str : List UInt8
  mem : List Int
/-- May they be who takes part? -/
def okM (l : List Int) : Bool := decide (l ≠ []) && ((l.all fun m => decide (0 ≤ m ∧ m ≤ 15)) && decide (l.Pairwise (· < ·)))
structure OkM (l : List Int) : Prop where
  ne : l ≠ []
  each : ∀ m ∈ l, 0 ≤ m ∧ m ≤ 15
  up : l.Pairwise (· < ·)
theorem okM_iff {l : List Int} : okM l = true ↔ OkM l := by
  unfold okM
  rw [Bool.and_eq_true, Bool.and_eq_true, decide_eq_true_eq, decide_eq_true_eq, List.all_eq_true]
  exact ⟨fun ⟨h1, h2, h3⟩ => ⟨h1, fun m hm => of_decide_eq_true (h2 m hm), h3⟩, fun h => ⟨h.ne, fun m hm => decide_eq_true (h.each m hm), h.up⟩⟩
theorem rising_len : ∀ (l : List Int) (a b : Int), a ≤ b + 1 → (∀ m ∈ l, a ≤ m ∧ m ≤ b) → l.Pairwise (· < ·) → (l.length : Int) ≤ b - a + 1
  | [], a, b, h, _, _ => by simp only [List.length_nil]; omega
  | x :: r, a, b, h, hm, hp => by
    obtain ⟨h1, h2⟩ := List.pairwise_cons.1 hp
    obtain ⟨h3, h4⟩ := hm x (List.mem_cons_self ..)
    have h5 := rising_len r (x + 1) b (by omega) (fun m hr => ⟨by have := h1 m hr; omega, (hm m (List.mem_cons_of_mem _ hr)).2⟩) h2
    rw [List.length_cons]
    omega
theorem OkM.len {l : List Int} (h : OkM l) : l.length ≤ 16 := by
  have := rising_len l 0 15 (by decide) h.each h.up
  omega
theorem OkM.pos {l : List Int} (h : OkM l) : 0 < l.length := List.length_pos_iff.2 h.ne
def memsB (l : List Int) : List UInt8 := l.flatMap fun m => num m.toNat 1
def memB (l : List Int) : List UInt8 := num l.length 1 ++ memsB l
theorem memsB_nil : memsB [] = [] := rfl
theorem memsB_snoc (l : List Int) (m : Int) : memsB (l ++ [m]) = memsB l ++ num m.toNat 1 := by simp [memsB]
theorem memsB_len : ∀ l : List Int, (memsB l).length = l.length
  | [] => rfl
  | x :: r => by
    rw [memsB, List.flatMap_cons, List.length_append, num_length, List.length_cons]
    have := memsB_len r
    rw [memsB] at this
    omega
theorem memB_len (l : List Int) : (memB l).length = 1 + l.length := by rw [memB, List.length_append, num_length, memsB_len]
def okH (h : HH) : Bool := decide (h.height ≠ 0 ∧ h.prev.length = 32 ∧ h.txr.length = 32 ∧ h.str.length = 32) && okM h.mem
structure OkH (h : HH) : Prop where
  h0 : h.height ≠ 0
  p : h.prev.length = 32
  t : h.txr.length = 32
  s : h.str.length = 32
  m : OkM h.mem
theorem okH_iff {h : HH} : okH h = true ↔ OkH h := by
  unfold okH
  rw [Bool.and_eq_true, decide_eq_true_eq, okM_iff]
  exact ⟨fun ⟨⟨a, b, c, d⟩, e⟩ => ⟨a, b, c, d, e⟩, fun ⟨a, b, c, d, e⟩ => ⟨⟨a, b, c, d⟩, e⟩⟩
def chkH (h : HH) : Int := if okH h = true then 0 else 80
/-- A header's bytes. -/
def hB (h : HH) : List UInt8 := num h.height 8 ++ (h.prev ++ (h.txr ++ (h.str ++ memB h.mem)))
theorem hB_len {h : HH} (k : OkH h) : (hB h).length = 105 + h.mem.length := by
  unfold hB
  simp only [List.length_append, num_length, k.p, k.t, k.s, memB_len]
  omega
end Go.Proofs.YtmbdhngoldganaaGreatDoor
namespace Go.Proofs.YtmbdhngoldganaaGreatDoor
open Go Go.RowKit
/-- The numbers l lie at a. -/
def IA (w : World) (a : Option Addr) (l : List Int) : Prop := ∀ i x, l[i]? = some x → ∃ g o, a = some ⟨g, o, none⟩ ∧ w.cell? ⟨g, o + i, none⟩ = some (.int .i64 x)
theorem IA.below {w w' : World} {a : Option Addr} {l : List Int} (h : IA w a l) (hb : Below w.heap.size w w') : IA w' a l := fun i x hx => by
  obtain ⟨g, o, ha, hc⟩ := h i x hx
  exact ⟨g, o, ha, by rw [hb.cell (World.block_lt_of_cell? _ _ hc)]; exact hc⟩
theorem IA.ex {w : World} {a : Option Addr} {l : List Int} (h : IA w a l) (h0 : 0 < l.length) : ∃ g o, a = some ⟨g, o, none⟩ := by
  obtain ⟨g, o, ha, _⟩ := h 0 _ (List.getElem?_eq_getElem h0)
  exact ⟨g, o, ha⟩
theorem IA.cell {w : World} {g o : Nat} {l : List Int} (h : IA w (some ⟨g, o, none⟩) l) {i : Nat} (hi : i < l.length) : w.cell? ⟨g, o + i, none⟩ = some (.int .i64 (l.getD i 0)) := by
  obtain ⟨g', o', ha, hc⟩ := h i _ (List.getElem?_eq_getElem hi)
  simp only [Option.some.injEq, Addr.mk.injEq, and_true] at ha
  obtain ⟨rfl, rfl⟩ := ha
  rw [hc, List.getD_eq_getElem?_getD, List.getElem?_eq_getElem hi]
  rfl
theorem okM_at {l : List Int} : okM l = true ↔ 0 < l.length ∧ ∀ i, i < l.length → 0 ≤ l.getD i 0 ∧ l.getD i 0 ≤ 15 ∧ (0 < i → l.getD (i - 1) 0 < l.getD i 0) := by
  rw [okM_iff]
  have hg : ∀ {i : Nat} (h : i < l.length), l.getD i 0 = l[i] := fun h => by rw [List.getD_eq_getElem?_getD, List.getElem?_eq_getElem h]; rfl
  constructor
  · intro h
    refine ⟨h.pos, fun i hi => ?_⟩
    obtain ⟨h1, h2⟩ := h.each _ (List.getElem_mem hi)
    rw [hg hi]
    refine ⟨h1, h2, fun h0 => ?_⟩
    rw [hg (show i - 1 < l.length by omega)]
    exact List.pairwise_iff_getElem.1 h.up _ _ _ _ (by omega)
  · rintro ⟨h0, h⟩
    refine ⟨List.length_pos_iff.1 h0, fun m hm => ?_, List.pairwise_iff_getElem.2 ?_⟩
    · obtain ⟨i, hi, rfl⟩ := List.getElem_of_mem hm
      have := h i hi
      rw [hg hi] at this
      exact ⟨this.1, this.2.1⟩
    · have key : ∀ (d i : Nat) (hi : i + (d + 1) < l.length), l[i]'(by omega) < l[i + (d + 1)] := by
        intro d
        induction d with
        | zero =>
          intro i hi
          have := (h (i + 1) hi).2.2 (by omega)
          rw [hg hi, show i + 1 - 1 = i by omega, hg (show i < l.length by omega)] at this
          exact this
        | succ d ih =>
          intro i hi
          have h1 := ih i (by omega)
          have hi' : i + (d + 1) + 1 < l.length := hi
          have h2 := (h (i + (d + 1) + 1) hi').2.2 (by omega)
          rw [hg hi', show i + (d + 1) + 1 - 1 = i + (d + 1) by omega, hg (show i + (d + 1) < l.length by omega)] at h2
          exact Int.lt_trans h1 h2
      intro i j hi hj hij
      obtain ⟨d, rfl⟩ : ∃ d, j = i + (d + 1) := ⟨j - i - 1, by omega⟩
      exact key d i hj
theorem rise_le {l : List Int} {i : Nat} (h : ∀ j, j < i → 0 ≤ l.getD j 0 ∧ l.getD j 0 ≤ 15 ∧ (0 < j → l.getD (j - 1) 0 < l.getD j 0)) : i ≤ 16 := by
  have key : ∀ j, j < i → (j : Int) ≤ l.getD j 0 := by
    intro j
    induction j with
    | zero => intro hj; exact (h 0 hj).1
    | succ j ih =>
      intro hj
      have h1 := ih (by omega)
      have h2 := (h (j + 1) hj).2.2 (by omega)
      rw [show j + 1 - 1 = j by omega] at h2
      omega
  refine Classical.byContradiction fun hc => ?_
  have h1 := key 16 (by omega)
  have h2 := (h 16 (by omega)).2.1
  omega
set_option maxRecDepth 100000 in
set_option maxHeartbeats 4000000 in
theorem rmembers_any (l : List Int) (a : Option Addr) (cap : Nat) (w : World) (hA : IA w a l) (B : Bool) (hB0 : Hid (okM l = B)) :
    Calls Tryz.prog 55 #[.slice a l.length cap] w fun e w' => e = .returned (.bool B) ∧ Below w.heap.size w w' := by
  go_enter Tryz.func55, Tryz.ntmps55
  go_wp2_with fail
  go_loopw [3] (fun v3 wl => ∃ i : Nat, i ≤ l.length ∧ v3 = .int .i64 i ∧ Hid (∀ j, j < i → 0 ≤ l.getD j 0 ∧ l.getD j 0 ≤ 15 ∧ (0 < j → l.getD (j - 1) 0 < l.getD j 0)) ∧ Below w.heap.size w wl) (fun v3 _ => l.length - (intOf v3).toNat)
  case atStart => exact ⟨0, by omega, rfl, (fun j hj => absurd hj (Nat.not_lt_zero _)), Below.refl _ _⟩
  case round =>
    obtain ⟨i, hil, rfl, hI, hB⟩ := hrel
    have hi16 : i ≤ 16 := rise_le hI.out
    by_cases hlt : i < l.length
    · obtain ⟨g, o, rfl⟩ := hA.ex (by omega)
      have c0 := (hA.below hB).cell hlt
      have hz1 : (0 : Int) ≤ (i : Int) := by omega
      have hz2 : (i : Int) < (l.length : Int) := by omega
      have hz3 : i < l.length := hlt
      by_cases hbad : l.getD i 0 < 0 ∨ 15 < l.getD i 0 ∨ 0 < i ∧ l.getD i 0 ≤ l.getD (i - 1) 0
      · have hBf : B = false := by
          rw [← hB0.out, Bool.eq_false_iff]
          intro h
          have := (okM_at.1 h).2 i hlt
          rcases hbad with h1 | h1 | ⟨h1, h2⟩
          · omega
          · omega
          · have := this.2.2 h1; omega
        subst hBf
        by_cases h1 : l.getD i 0 < 0
        · clear hbad hI
          generalize l.getD i 0 = x at *
          have hd1 : decide (x < 0) = true := decide_eq_true h1
          go_wp2_with fail
          go_quiet (fail)
          go_wp2_with fail
          go_ret
          exact ⟨rfl, below_draws hB _⟩
        · by_cases h2 : 15 < l.getD i 0
          · clear hbad hI
            generalize l.getD i 0 = x at *
            have hd1 : decide (x < 0) = false := decide_eq_false h1
            have hd2 : decide (15 < x) = true := decide_eq_true h2
            go_wp2_with fail
            go_quiet (fail)
            go_wp2_with fail
            go_ret
            exact ⟨rfl, below_draws hB _⟩
          · obtain ⟨h3, h4⟩ := (hbad.resolve_left h1).resolve_left h2
            have c1 := (hA.below hB).cell (show i - 1 < l.length by omega)
            have hw1 : IntKind.i64.wrap ((i : Int) - 1) = ((i - 1 : Nat) : Int) := by rw [IntKind.wrap_i64]; omega
            have hz4 : (0 : Int) ≤ ((i - 1 : Nat) : Int) := by omega
            have hz5 : ((i - 1 : Nat) : Int) < (l.length : Int) := by omega
            have hz6 : i - 1 < l.length := by omega
            have hz7 : (0 : Int) < (i : Int) := by omega
            clear hbad hI
            generalize l.getD i 0 = x at *
            generalize l.getD (i - 1) 0 = y at *
            generalize i - 1 = k at *
            have hd1 : decide (x < 0) = false := decide_eq_false h1
            have hd2 : decide (15 < x) = false := decide_eq_false h2
            have hd3 : decide (x ≤ y) = true := decide_eq_true h4
            go_wp2_with fail
            go_quiet (fail)
            go_wp2_with fail
            go_ret
            exact ⟨rfl, below_draws hB _⟩
      · have h1 : ¬ l.getD i 0 < 0 := fun h => hbad (.inl h)
        have h2 : ¬ 15 < l.getD i 0 := fun h => hbad (.inr (.inl h))
        have hI2 : Hid (∀ j, j < i + 1 → 0 ≤ l.getD j 0 ∧ l.getD j 0 ≤ 15 ∧ (0 < j → l.getD (j - 1) 0 < l.getD j 0)) := fun j hj => by
          by_cases hji : j < i
          · exact hI.out j hji
          · obtain rfl : j = i := by omega
            exact ⟨by omega, by omega, fun h0 => by
              have : ¬ (0 < j ∧ l.getD j 0 ≤ l.getD (j - 1) 0) := fun h => hbad (.inr (.inr h))
              omega⟩
        by_cases h0 : 0 < i
        · have h4 : ¬ l.getD i 0 ≤ l.getD (i - 1) 0 := fun h => hbad (.inr (.inr ⟨h0, h⟩))
          have c1 := (hA.below hB).cell (show i - 1 < l.length by omega)
          have hw1 : IntKind.i64.wrap ((i : Int) - 1) = ((i - 1 : Nat) : Int) := by rw [IntKind.wrap_i64]; omega
          have hz4 : (0 : Int) ≤ ((i - 1 : Nat) : Int) := by omega
          have hz5 : ((i - 1 : Nat) : Int) < (l.length : Int) := by omega
          have hz6 : i - 1 < l.length := by omega
          have hz7 : (0 : Int) < (i : Int) := by omega
          clear hbad hI
          generalize l.getD i 0 = x at *
          generalize l.getD (i - 1) 0 = y at *
          generalize i - 1 = k at *
          have hd1 : decide (x < 0) = false := decide_eq_false h1
          have hd2 : decide (15 < x) = false := decide_eq_false h2
          have hd3 : decide (x ≤ y) = false := decide_eq_false h4
          go_wp2_with fail
          go_quiet (fail)
          go_wp2_with fail
          go_roundw
          case rel => exact ⟨i + 1, by omega, by go_num, hI2, below_draws hB _⟩
          case measure => simp [intOf]; omega
        · have hz7 : ¬ (0 : Int) < (i : Int) := by omega
          clear hbad hI
          generalize l.getD i 0 = x at *
          have hd1 : decide (x < 0) = false := decide_eq_false h1
          have hd2 : decide (15 < x) = false := decide_eq_false h2
          go_wp2_with fail
          go_quiet (fail)
          go_wp2_with fail
          go_roundw
          case rel => exact ⟨i + 1, by omega, by go_num, hI2, below_draws hB _⟩
          case measure => simp [intOf]; omega
    · have hz2 : ¬ (i : Int) < (l.length : Int) := by omega
      have hBl : B = decide (0 < l.length) := by
        rw [← hB0.out, Bool.eq_iff_iff, decide_eq_true_eq, okM_at]
        exact ⟨fun h => h.1, fun h => ⟨h, fun j hj => hI.out j (by omega)⟩⟩
      clear hI hB0
      subst hBl
      go_wp2_with fail
      go_ret
      exact ⟨rfl, hB⟩
end Go.Proofs.YtmbdhngoldganaaGreatDoor
namespace Go.Proofs.YtmbdhngoldganaaGreatDoor
open Go Go.RowKit
theorem hash32_same {s : List UInt8} (h : s.length = 32) : hash32 s = s := by
  unfold hash32
  rw [h, List.replicate_zero, List.append_nil, List.take_of_length_le (by omega)]
theorem memsB_take {l : List Int} {i : Nat} (h : i < l.length) : memsB (l.take (i + 1)) = memsB (l.take i) ++ num (l.getD i 0).toNat 1 := by
  rw [List.take_succ_eq_append_getElem h, memsB_snoc, List.getD_eq_getElem?_getD, List.getElem?_eq_getElem h]
  rfl
/-- The cells of a header. -/
def hc (h : HH) (a : Option Addr) (cap : Nat) : Array Value := #[.int .u64 h.height, .string ⟨h.prev.toArray⟩, .string ⟨h.txr.toArray⟩, .string ⟨h.str.toArray⟩, .slice a h.mem.length cap]
end Go.Proofs.YtmbdhngoldganaaGreatDoor
namespace Go.Proofs.YtmbdhngoldganaaGreatDoor
open Go Go.RowKit
end Go.Proofs.YtmbdhngoldganaaGreatDoor
