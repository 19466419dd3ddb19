/- What a proof shows; awake, out of what the calls of a tree do. -/
import Derived.Test.YtmeolaeoaoldoaaDoorSdo
namespace Go.Proofs.YtmeolaeoaoldoaaDoor.Sh
open Go Go.RowKit
/-- A proof: the digests beside, whether there is a leaf, the leaf. -/
structure Pf7 where
  bs : List (List UInt8)
  has : Bool
  lp : List UInt8
  lv : List UInt8
def pathD7 (k : List UInt8) : List UInt8 := TgD 80 [k]
def valD7 (v : List UInt8) : List UInt8 := TgD 86 [v]
/-- What a proof shows under a root. -/
def verP (root k v : List UInt8) (has : Bool) (p : Pf7) : Prop :=
  p.bs.length ≤ 256 ∧ (∀ x ∈ p.bs, x.length = 32) ∧ (p.has = true → p.lp.length = 32 ∧ p.lv.length = 32 ∧ ∀ j, j < p.bs.length → bitD p.lp j = bitD (pathD7 k) j) ∧ (has = true ↔ p.has = true ∧ p.lp = pathD7 k) ∧ (has = true → p.lv = valD7 v) ∧ upS TgD (pathD7 k) 0 p.bs (if p.has = true then hashL TgD (p.lp, p.lv) else emptyD) = root
/-- The proof of a key in a tree. -/
structure PrfOf (t : Tr) (k : List UInt8) (p : Pf7) : Prop where
  bs : p.bs = (t.way TgD 0 (pathD7 k)).1
  no : (t.way TgD 0 (pathD7 k)).2 = [] → p.has = false
  yes : ∀ x, (t.way TgD 0 (pathD7 k)).2 = [x] → p.has = true ∧ p.lp = x.1 ∧ p.lv = x.2
  len : p.lp.length ≤ 32 ∧ p.lv.length ≤ 32
/-- The calls that look at a tree. -/
structure SmtV (TR : World → Nat → Nat → Tr → Prop) : Prop extends SmtC TR where
  root : ∀ (w : World) (lo b : Nat) (t : Tr), Glob w → TR w lo b t → t.leaves.length ≤ 100 → Calls Tryd.prog 12 #[.pointer (some ⟨b, 0, none⟩)] w fun e w' => e = .returned (.string ⟨(t.hash TgD).toArray⟩) ∧ Below w.heap.size w w'
  prove : ∀ (w : World) (lo b : Nat) (t : Tr) (k : List UInt8), Glob w → TR w lo b t → t.leaves.length ≤ 100 → k.length ≤ 1000 → Calls Tryd.prog 21 #[.pointer (some ⟨b, 0, none⟩), .string ⟨k.toArray⟩] w fun e w' => ∃ a c p, e = .returned (.agg #[.slice a p.bs.length c, .bool p.has, .string ⟨p.lp.toArray⟩, .string ⟨p.lv.toArray⟩]) ∧ XA w' a p.bs ∧ PrfOf t k p ∧ Below w.heap.size w w'
  verify : ∀ (w : World) (root k v : List UInt8) (has : Bool) (a : Option Addr) (c : Nat) (p : Pf7) (b : Bool), Glob w → XA w a p.bs → root.length ≤ 1000 → k.length ≤ 1000 → v.length ≤ 1000 → p.bs.length ≤ 1000 → (∀ x ∈ p.bs, x.length ≤ 1000) → p.lp.length ≤ 1000 → p.lv.length ≤ 1000 → (b = true ↔ verP root k v has p) →
    Calls Tryd.prog 24 #[.string ⟨root.toArray⟩, .string ⟨k.toArray⟩, .string ⟨v.toArray⟩, .bool has, .agg #[.slice a p.bs.length c, .bool p.has, .string ⟨p.lp.toArray⟩, .string ⟨p.lv.toArray⟩]] w fun e w' => e = .returned (.bool b) ∧ Below w.heap.size w w'
  value : ∀ (w : World) (v : List UInt8), Glob w → v.length ≤ 1000 → Calls Tryd.prog 18 #[.string ⟨v.toArray⟩] w fun e w' => e = .returned (.string ⟨(valD7 v).toArray⟩) ∧ Below w.heap.size w w'
theorem hash_len (t : Tr) : (t.hash TgD).length = 32 := by
  cases t
  · rfl
  · exact TgD_len _ _
  · exact TgD_len _ _
theorem rootS_32 : ∀ (f : Nat) (l : List LF) (n : Nat), Stand l n → n + f = 256 → (rootS TgD f l n).length = 32
  | f, [], n, _, _ => by rw [rootS_nil]; decide
  | f, [x], n, _, _ => by rw [rootS_one]; exact TgD_len _ _
  | 0, x :: y :: r, n, h, hf => absurd (h.lt (by simp)) (by omega)
  | f + 1, x :: y :: r, n, _, _ => TgD_len _ _
theorem proof_32 : ∀ (f : Nat) (p : List UInt8) (n : Nat) (l : List LF), Stand l n → n + f = 256 → ∀ x ∈ (proofS TgD f l p n).1, x.length = 32
  | 0, p, n, l, hs, hf, x, hx => by
    have : l.length ≤ 1 := by
      apply Classical.byContradiction
      intro h
      have := hs.lt (by omega)
      omega
    rw [proofS_short TgD 0 this] at hx
    cases hx
  | f + 1, p, n, l, hs, hf, x, hx => by
    by_cases h2 : 2 ≤ l.length
    · rw [proofS_cut TgD h2] at hx
      rcases List.mem_cons.1 hx with rfl | hx
      · exact rootS_32 f _ _ (hs.half _) (by omega)
      · exact proof_32 f p (n + 1) _ (hs.half _) (by omega) x hx
    · rw [proofS_short TgD (f + 1) (by omega)] at hx
      cases hx
/-- What is proved of a tree is verified, just so. -/
theorem prf_ver {t : Tr} {k : List UInt8} {p : Pf7} (hc : Tr.Canon 0 t) (hv : ∀ x ∈ t.leaves, x.2.length = 32) (hp : PrfOf t k p) (v : List UInt8) (has : Bool) :
    verP (t.hash TgD) k v has p ↔ (has = true ↔ ∃ x ∈ t.leaves, x.1 = pathD7 k) ∧ (has = true → ∀ x ∈ t.leaves, x.1 = pathD7 k → x.2 = valD7 v) := by
  have hw := Tr.way_proof TgD (pathD7 k) hc (show 0 + 256 = 256 from rfl)
  obtain ⟨e1, e2, e3⟩ := proof_end TgD 256 (pathD7 k) 0 hc.stand rfl
  have hup := proof_up TgD 256 (pathD7 k) 0 hc.stand rfl
  have hroot := Tr.hash_root TgD hc (show 0 + 256 = 256 from rfl)
  have h32 := proof_32 256 (pathD7 k) 0 t.leaves hc.stand rfl
  have hhas := proof_has TgD 256 (pathD7 k) 0 hc.stand rfl
  have hbs := hp.bs
  have hno := hp.no
  have hyes := hp.yes
  rw [hw] at hbs hno hyes
  rw [← hroot] at hup
  generalize proofS TgD 256 t.leaves (pathD7 k) 0 = q at *
  obtain ⟨q1, q2⟩ := q
  dsimp only at *
  subst hbs
  match q2, e1 with
  | [], _ =>
    have hh := hno rfl
    have hnone : ¬ ∃ x ∈ t.leaves, x.1 = pathD7 k := fun ⟨x, hx, hxk⟩ => by
      have := hhas x hx hxk
      cases this
    unfold verP
    rw [hh]
    refine ⟨fun h => ⟨⟨fun h1 => absurd (h.2.2.2.1.1 h1).1 (by decide), fun h1 => absurd h1 hnone⟩, fun h1 => absurd (h.2.2.2.1.1 h1).1 (by decide)⟩, fun h => ⟨by omega, h32, fun h1 => Bool.noConfusion h1, ⟨fun h1 => absurd (h.1.1 h1) hnone, fun h1 => Bool.noConfusion h1.1⟩, fun h1 => absurd (h.1.1 h1) hnone, ?_⟩⟩
    rw [if_neg (by decide)]
    exact hup
  | [x], _ =>
    obtain ⟨h1, h2, h3⟩ := hyes x rfl
    obtain ⟨hx1, hx2⟩ := e3 x (by simp)
    have hxl := hc.len x hx1
    have hxv := hv x hx1
    have hiff : (∃ y ∈ t.leaves, y.1 = pathD7 k) ↔ x.1 = pathD7 k := ⟨fun ⟨y, hy, hyk⟩ => by
      have := hhas y hy hyk
      rw [(List.cons.inj this).1]
      exact hyk, fun h => ⟨x, hx1, h⟩⟩
    have hall : ∀ y ∈ t.leaves, y.1 = pathD7 k → y = x := fun y hy hyk => ((List.cons.inj (hhas y hy hyk)).1).symm
    unfold verP
    rw [h1, h2, h3]
    refine ⟨fun h => ⟨⟨fun h4 => hiff.2 (h.2.2.2.1.1 h4).2, fun h4 => h.2.2.2.1.2 ⟨rfl, hiff.1 h4⟩⟩, fun h4 y hy hyk => by rw [hall y hy hyk]; exact h.2.2.2.2.1 h4⟩, fun h => ⟨by omega, h32, fun _ => ⟨hxl, hxv, fun j hj => hx2 j (Nat.zero_le _) (by omega)⟩, ⟨fun h4 => ⟨rfl, hiff.1 (h.1.1 h4)⟩, fun h4 => h.1.2 (hiff.2 h4.2)⟩, fun h4 => h.2 h4 x hx1 (hiff.1 (h.1.1 h4)), ?_⟩⟩
    rw [if_pos rfl]
    exact hup
  | _ :: _ :: _, e1 => simp at e1
end Go.Proofs.YtmeolaeoaoldoaaDoor.Sh
