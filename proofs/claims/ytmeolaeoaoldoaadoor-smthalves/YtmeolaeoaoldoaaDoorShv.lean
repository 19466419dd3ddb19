/- Two leaves, plainly: where their ways part, the root, the proofs' lengths. SmtHalves of the landed tree: what it leans on. -/
import Derived.Test.YtmeolaeoaoldoaaDoorSpm
import Derived.Test.YtmeolaeoaoldoaaDoorSin
import Derived.Test.YtmeolaeoaoldoaaDoorSpv
namespace Go.Proofs.YtmeolaeoaoldoaaDoor
/-- Up to bit n the two paths are the same, there they part. -/
structure Part (x y : LF) (n : Nat) : Prop where
  lt : n < 256
  same : ∀ j, j < n → bitD x.1 j = bitD y.1 j
  ne : bitD x.1 n ≠ bitD y.1 n
theorem part_ex {x y : LF} (hx : x.1.length = 32) (hy : y.1.length = 32) (hne : x.1 ≠ y.1) {n : Nat} (h : ∀ j, j < n → bitD x.1 j = bitD y.1 j) : n < 256 := by
  apply Classical.byContradiction
  intro hn
  exact hne (bits_ext hx hy fun i hi => h i (by omega))
theorem half_one (x y : LF) (i b : Nat) : halfD [x, y] i b = (if bitD x.1 i = b then [x] else []) ++ (if bitD y.1 i = b then [y] else []) := by
  unfold halfD
  by_cases h1 : bitD x.1 i = b <;> by_cases h2 : bitD y.1 i = b <;> simp [h1, h2]
section
variable (Tg : UInt8 → List (List UInt8) → List UInt8)
/-- The root of two leaves, where they part. -/
theorem two_root_at {x y : LF} {n f : Nat} (h : Part x y n) : rootS Tg (f + 1) [x, y] n = if bitD x.1 n = 0 then joinD Tg (hashL Tg x) (hashL Tg y) else joinD Tg (hashL Tg y) (hashL Tg x) := by
  have h1 := bitD_lt x.1 n
  have h2 := bitD_lt y.1 n
  have h3 := h.ne
  rw [rootS_cut Tg (l := [x, y]) (Nat.le_refl 2), half_one, half_one]
  by_cases h0 : bitD x.1 n = 0
  · have h4 : bitD y.1 n = 1 := by omega
    rw [h0, h4]
    simp [rootS_one]
  · have h4 : bitD y.1 n = 0 := by omega
    have h5 : bitD x.1 n = 1 := by omega
    rw [h5, h4]
    simp [rootS_one]
/-- And above. -/
theorem two_root_up {x y : LF} {n i f : Nat} (h : Part x y n) (hi : i < n) : rootS Tg (f + 1) [x, y] i = if bitD x.1 i = 0 then joinD Tg (rootS Tg f [x, y] (i + 1)) emptyD else joinD Tg emptyD (rootS Tg f [x, y] (i + 1)) := by
  have h1 := bitD_lt x.1 i
  have h3 := h.same i hi
  rw [rootS_cut Tg (l := [x, y]) (Nat.le_refl 2), half_one, half_one, ← h3]
  by_cases h0 : bitD x.1 i = 0
  · rw [h0]
    simp [rootS_nil]
  · have h5 : bitD x.1 i = 1 := by omega
    rw [h5]
    simp [rootS_nil]
/-- As many digests stand beside either's way. -/
theorem two_proof_len {x y : LF} {n : Nat} (h : Part x y n) (p : List UInt8) (hp : p = x.1 ∨ p = y.1) : ∀ (f i : Nat), i + f = 256 → i ≤ n → (proofS Tg f [x, y] p i).1.length = n + 1 - i
  | 0, i, hf, hi => absurd h.lt (by omega)
  | f + 1, i, hf, hi => by
    rw [proofS_cut Tg (l := [x, y]) (Nat.le_refl 2)]
    show (proofS Tg f (halfD [x, y] i (bitD p i)) p (i + 1)).1.length + 1 = _
    by_cases hn : i = n
    · subst hn
      have h3 := h.ne
      have h4 : (halfD [x, y] i (bitD p i)).length ≤ 1 := by
        rw [half_one]
        rcases hp with rfl | rfl
        · rw [if_pos rfl, if_neg (fun e => h3 e.symm)]; simp
        · rw [if_neg h3]; split <;> simp
      rw [proofS_short Tg f h4]
      show 0 + 1 = _
      omega
    · have h3 := h.same i (by omega)
      have h4 : halfD [x, y] i (bitD p i) = [x, y] := by
        rw [half_one]
        rcases hp with rfl | rfl
        · rw [if_pos rfl, if_pos h3.symm]; rfl
        · rw [if_pos h3, if_pos rfl]; rfl
      rw [h4, two_proof_len h p hp f (i + 1) (by omega) (by omega)]
      omega
end
end Go.Proofs.YtmeolaeoaoldoaaDoor
namespace Go.Proofs.YtmeolaeoaoldoaaDoor.Sh
open Go Go.RowKit Go.Shelf
/-- A tree in block b, with its halves. -/
structure TM (b : Nat) (t : Tr) (W : World) : Prop where
  out : ∃ q, Blk W b #[.pointer q] 75 ∧ HF W t q
  canon : Tr.Canon 0 t
theorem TM.below {b : Nat} {t : Tr} {W W' : World} (h : TM b t W) (hb : Below W.heap.size W W') : TM b t W' := by
  obtain ⟨q, h1, h2⟩ := h.out
  exact ⟨⟨q, h1.belowSize hb, h2.below hb⟩, h.canon⟩
theorem TM.lt {b : Nat} {t : Tr} {W : World} (h : TM b t W) : b < W.heap.size := by
  obtain ⟨q, h1, _⟩ := h.out
  exact h1.lt
/-- What is written into another tree's block leaves a tree as it is. -/
theorem TM.other {b b2 : Nat} {t : Tr} {q : Option Addr} {W W' : World} (h : TM b t W) (hg : W.grownBy W' (some b2)) (hb : Blk W b2 #[.pointer q] 75) (hne : b ≠ b2) : TM b t W' := by
  obtain ⟨q, h1, h2⟩ := h.out
  exact ⟨⟨q, h1.grown hg (fun e => hne (Option.some.inj e)), h2.grown hg hb (by decide)⟩, h.canon⟩
theorem tmNew (w : World) : Calls Tryd.prog 15 #[] w fun e w' => e = .returned (.pointer (some ⟨w.heap.size, 0, none⟩)) ∧ TM w.heap.size .emp w' ∧ Below w.heap.size w w' :=
  (tnew_any w).mono fun _ _ ⟨he, hb, hw⟩ => ⟨he, ⟨⟨none, hb, rfl⟩, trivial⟩, hw⟩
/-- What a put leaves: the tree, all other blocks. -/
structure PutL (b : Nat) (t : Tr) (x : LF) (w w' : World) : Prop where
  tm : TM b (Tr.put 256 0 t x) w'
  grown : w.grownBy w' (some b)
  blk : ∃ q, Blk w b #[.pointer q] 75
theorem tmPut (b : Nat) (t : Tr) (k v : List UInt8) (w : World) (hG : Glob w) (h : TM b t w) (hn : t.leaves.length ≤ 1000) (hk : k.length ≤ 1000) (hv : v.length ≤ 1000) :
    Calls Tryd.prog 16 #[.pointer (some ⟨b, 0, none⟩), .string ⟨k.toArray⟩, .string ⟨v.toArray⟩] w fun e w' => e = .returned (.int .i64 0) ∧ PutL b t (ofD TgD k v) w w' := by
  obtain ⟨q, h1, h2⟩ := h.out
  refine (tput_any b q t k v w hG h1 h2 h.canon hn hk hv).mono ?_
  rintro e w' ⟨he, q', h5, h6, hg⟩
  exact ⟨he, ⟨⟨q', h5, h6⟩, (Tr.put_spec t 256 0 (ofD TgD k v) rfl h.canon (TgD_len _ _) (fun _ _ j hj => absurd hj (Nat.not_lt_zero _))).1⟩, hg, q, h1⟩
theorem PutL.other {b b2 : Nat} {t u : Tr} {x : LF} {w w' : World} (h : PutL b t x w w') (k : TM b2 u w) (hne : b2 ≠ b) : TM b2 u w' := by
  obtain ⟨q, hq⟩ := h.blk
  exact k.other h.grown hq hne
theorem PutL.blk2 {b i : Nat} {t : Tr} {x : LF} {c : Array Value} {ty : TypeId} {w w' : World} (h : PutL b t x w w') (k : Blk w i c ty) (hne : 75 ≠ ty) : Blk w' i c ty := by
  obtain ⟨q, hq⟩ := h.blk
  exact k.grown h.grown (fun e => hq.apart k hne (Option.some.inj e).symm)
theorem PutL.below {b lo : Nat} {t : Tr} {x : LF} {w0 w w' : World} (h : PutL b t x w w') (k : Below lo w0 w) (hl : lo ≤ b) : Below lo w0 w' := k.trans (below_of_grown h.grown hl (by obtain ⟨q, hq⟩ := h.blk; exact Nat.le_trans hl (Nat.le_of_lt hq.lt)))
theorem PutL.kl {b lo : Nat} {t : Tr} {x : LF} {w w' : World} {sl : Value} {m : List LF} (h : PutL b t x w w') (k : KL w 38 lo sl m) : KL w' 38 lo sl m := by
  obtain ⟨q, hq⟩ := h.blk
  exact k.grown h.grown hq (by decide)
theorem tmRoot (b : Nat) (t : Tr) (w : World) (h : TM b t w) : Calls Tryd.prog 12 #[.pointer (some ⟨b, 0, none⟩)] w fun e w' => e = .returned (.string ⟨(t.hash TgD).toArray⟩) ∧ Below w.heap.size w w' := by
  obtain ⟨q, h1, h2⟩ := h.out
  exact troot_any b q t w h1 h2
theorem tmLen (b : Nat) (t : Tr) (w : World) (h : TM b t w) : Calls Tryd.prog 11 #[.pointer (some ⟨b, 0, none⟩)] w fun e w' => e = .returned (.int .i64 t.cnt) ∧ w' = w := by
  obtain ⟨q, h1, h2⟩ := h.out
  exact tlen_any b q t w h1 h2
theorem tmGet (b : Nat) (t : Tr) (k : List UInt8) (w : World) (hG : Glob w) (h : TM b t w) (hn : t.leaves.length ≤ 1000) (hk : k.length ≤ 1000) : Calls Tryd.prog 17 #[.pointer (some ⟨b, 0, none⟩), .string ⟨k.toArray⟩] w (GetP (Tr.find 0 t (TgD 80 [k])) w) := by
  obtain ⟨q, h1, h2⟩ := h.out
  exact tget_any b q t k w hG h1 h2 h.canon hn hk
theorem tmProve (b : Nat) (t : Tr) (k : List UInt8) (w : World) (hG : Glob w) (h : TM b t w) (hn : t.leaves.length ≤ 1000) (hk : k.length ≤ 1000) : Calls Tryd.prog 21 #[.pointer (some ⟨b, 0, none⟩), .string ⟨k.toArray⟩] w fun e w' => ∃ a c p, e = .returned (.agg #[.slice a p.bs.length c, .bool p.has, .string ⟨p.lp.toArray⟩, .string ⟨p.lv.toArray⟩]) ∧ XA w' a p.bs ∧ PrfOf t k p ∧ Below w.heap.size w w' := by
  obtain ⟨q, h1, h2⟩ := h.out
  exact tprove_any b q t k w hG h1 h2 h.canon hn hk
theorem TRt.tm {w : World} {lo b : Nat} {t : Tr} (h : TRt w lo b t) : lo ≤ b ∧ TM b t w := ⟨h.1, ⟨h.2.2, h.2.1⟩⟩
/-- The tree of two keys with one value. -/
def twoT (x y : LF) : Tr := Tr.put 256 0 (.lf x) y
theorem twoT_same {x y : LF} (h : x.1 = y.1) : twoT x y = .lf y := by
  show (if x.1 = y.1 then Tr.lf y else _) = _
  exact if_pos h
theorem twoT_perm {x y : LF} (hx : x.1.length = 32) (hy : y.1.length = 32) (h : x.1 ≠ y.1) : (twoT x y).leaves.Perm [x, y] := by
  obtain ⟨_, h2⟩ := Tr.put_spec (.lf x) 256 0 y rfl hx hy (fun _ _ _ hj => absurd hj (Nat.not_lt_zero _))
  have e : Tr.lessD (Tr.lf x).leaves y.1 = [x] := Tr.lessD_other (fun z hz => by rw [List.mem_singleton.1 hz]; exact h)
  rw [e] at h2
  exact h2.trans (List.Perm.swap _ _ _)
theorem twoT_canon {x y : LF} (hx : x.1.length = 32) (hy : y.1.length = 32) : Tr.Canon 0 (twoT x y) := (Tr.put_spec (.lf x) 256 0 y rfl hx hy (fun _ _ _ hj => absurd hj (Nat.not_lt_zero _))).1
theorem twoT_root {x y : LF} (hx : x.1.length = 32) (hy : y.1.length = 32) (h : x.1 ≠ y.1) : (twoT x y).hash TgD = rootS TgD 256 [x, y] 0 := by
  rw [Tr.hash_root TgD (twoT_canon hx hy) (show 0 + 256 = 256 from rfl)]
  exact rootS_perm TgD 256 0 (twoT_perm hx hy h)
theorem twoT_way {x y : LF} (hx : x.1.length = 32) (hy : y.1.length = 32) {n : Nat} (h : Part x y n) (p : List UInt8) (hp : p = x.1 ∨ p = y.1) : ((twoT x y).way TgD 0 p).1.length = n + 1 := by
  have hne : x.1 ≠ y.1 := fun e => h.ne (by rw [e])
  have hc := twoT_canon hx hy
  rw [Tr.way_proof TgD p hc (show 0 + 256 = 256 from rfl), proofS_perm 256 p 0 (twoT_perm hx hy hne) hc.stand rfl, two_proof_len TgD h p hp 256 0 rfl (Nat.zero_le _)]
  rfl
end Go.Proofs.YtmeolaeoaoldoaaDoor.Sh
