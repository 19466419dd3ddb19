/- What is changed in up to 32 bits that stand side by side is found by the check. -/
import Derived.Test.YtaccklbijihppaaDoorAt
import Derived.Test.YtaccklbijihppaaDoorWc
namespace Go.Proofs.YtaccklbijihppaaDoor
open Go
/-- One bit more. -/
def one01 (d : Bool) : BitVec 32 := bif d then (BitVec.ofNat 32 1) else (BitVec.ofNat 32 0)
def feed (s : BitVec 32) (d : Bool) : BitVec 32 := stp (xor32 s (one01 d))
def crcB (s : BitVec 32) (l : List Bool) : BitVec 32 := l.foldl feed s
def bits8 (b : UInt8) : List Bool := (List.range 8).map fun i => b.toNat.testBit i
def bitsOf (l : List UInt8) : List Bool := l.flatMap bits8
theorem xor32_comm (x y : BitVec 32) : xor32 x y = xor32 y x := BitVec.xor_comm x y
theorem xor32_assoc (x y z : BitVec 32) : xor32 (xor32 x y) z = xor32 x (xor32 y z) := BitVec.xor_assoc x y z
theorem xor32_zero (x : BitVec 32) : xor32 x (BitVec.ofNat 32 0) = x := BitVec.xor_zero
theorem xor32_self (x : BitVec 32) : xor32 x x = (BitVec.ofNat 32 0) := BitVec.xor_self
theorem xor32_eq {x y : BitVec 32} (h : xor32 x y = (BitVec.ofNat 32 0)) : x = y := by
  have : xor32 (xor32 x y) y = xor32 (BitVec.ofNat 32 0) y := by rw [h]
  rw [xor32_assoc, xor32_self, xor32_zero, xor32_comm, xor32_zero] at this
  exact this
theorem feed_xor (s t : BitVec 32) (d : Bool) : feed (xor32 s t) d = xor32 (feed s d) (stp t) := by
  unfold feed
  rw [xor32_assoc, xor32_comm t, ← xor32_assoc, stp_xor]
theorem stpN_stp (t : BitVec 32) : ∀ n, stpN (stp t) n = stpN t (n + 1)
  | 0 => rfl
  | n + 1 => by rw [stpN, stpN_stp t n]; rfl
theorem crcB_xor : ∀ (l : List Bool) (s t : BitVec 32), crcB (xor32 s t) l = xor32 (crcB s l) (stpN t l.length)
  | [], _, _ => rfl
  | d :: l, s, t => by
    show crcB (feed (xor32 s t) d) l = xor32 (crcB (feed s d) l) (stpN t (l.length + 1))
    rw [feed_xor, crcB_xor l, stpN_stp]
theorem byte_zero : ∀ n : Fin 256, stp4 (stp4 (BitVec.ofNat 32 n.val)) = crcB (BitVec.ofNat 32 0) ((List.range 8).map fun i => n.val.testBit i) := by decide +kernel
theorem byt_bits (r : BitVec 32) (b : UInt8) : byt r b = crcB r (bits8 b) := by
  have h1 := byte_zero ⟨b.toNat, b.toNat_lt⟩
  have h2 := crcB_xor (bits8 b) (BitVec.ofNat 32 0) r
  rw [xor32_comm, xor32_zero] at h2
  rw [h2]
  unfold byt
  rw [stp4_xor, stp4_xor, xor32_comm]
  show xor32 (stp4 (stp4 (BitVec.ofNat 32 b.toNat))) _ = _
  rw [h1]
  rfl
theorem crcB_append (s : BitVec 32) (l m : List Bool) : crcB s (l ++ m) = crcB (crcB s l) m := List.foldl_append
theorem crcF_bits : ∀ (l : List UInt8) (r : BitVec 32), crcF r l = crcB r (bitsOf l)
  | [], _ => rfl
  | b :: l, r => by
    show crcF (byt r b) l = crcB r (bits8 b ++ bitsOf l)
    rw [crcB_append, byt_bits, crcF_bits l]
theorem stp_small (e : BitVec 32) (h : (stp e).toNat < 2147483648) : e.getLsbD 0 = false ∧ e.toNat = 2 * (stp e).toNat := by
  cases he : e.getLsbD 0 with
  | true =>
    exfalso
    have hb : (stp e).getLsbD 31 = true := by
      unfold stp xor32 shr32
      rw [he]
      simp only [cond_true, BitVec.getLsbD_xor, BitVec.getLsbD_ushiftRight]
      rw [BitVec.getLsbD_of_ge _ _ (by omega)]
      decide
    rw [BitVec.getLsbD, Nat.testBit_lt_two_pow (by simpa using h)] at hb
    cases hb
  | false =>
    refine ⟨rfl, ?_⟩
    have hs : stp e = e >>> 1 := by
      unfold stp xor32 shr32
      rw [he]
      simp
    rw [hs, BitVec.toNat_ushiftRight, Nat.shiftRight_eq_div_pow]
    rw [BitVec.getLsbD, Nat.testBit_zero] at he
    have : ¬ e.toNat % 2 = 1 := by simpa using he
    omega
theorem stp_inj {x y : BitVec 32} (h : stp x = stp y) : x = y := by
  have h1 : stp (xor32 x y) = (BitVec.ofNat 32 0) := by rw [stp_xor, h, xor32_self]
  have h2 := (stp_small (xor32 x y) (by rw [h1]; decide)).2
  rw [h1] at h2
  exact xor32_eq (BitVec.eq_of_toNat_eq (by rw [h2]; rfl))
theorem crcB_inj : ∀ (l : List Bool) {s t : BitVec 32}, crcB s l = crcB t l → s = t
  | [], _, _, h => h
  | d :: l, s, t, h => by
    have h1 := stp_inj (crcB_inj l (s := feed s d) (t := feed t d) h)
    have h2 : xor32 (xor32 s (one01 d)) (one01 d) = xor32 (xor32 t (one01 d)) (one01 d) := by rw [h1]
    rw [xor32_assoc, xor32_assoc, xor32_self, xor32_zero, xor32_zero] at h2
    exact h2
theorem window : ∀ (m m' : List Bool) (s s' : BitVec 32), m.length = m'.length → m.length ≤ 32 → crcB s m = crcB s' m' → (xor32 s s').toNat < 2 ^ m.length ∧ (s = s' → m = m')
  | [], [], s, s', _, _, h => by
    have h : s = s' := h
    subst h
    rw [xor32_self]
    exact ⟨by decide, fun _ => rfl⟩
  | d :: t, d' :: t', s, s', hl, hn, h => by
    simp only [List.length_cons] at hl hn ⊢
    obtain ⟨h1, h2⟩ := window t t' (feed s d) (feed s' d') (by omega) (by omega) h
    have hp : 2 ^ t.length ≤ 2 ^ 31 := Nat.pow_le_pow_right (by decide) (by omega)
    have hp31 : 2 ^ 31 = 2147483648 := by decide
    have he : xor32 (feed s d) (feed s' d') = stp (xor32 (xor32 s (one01 d)) (xor32 s' (one01 d'))) := by
      unfold feed; rw [← stp_xor]
    rw [he] at h1
    obtain ⟨h3, h4⟩ := stp_small (xor32 (xor32 s (one01 d)) (xor32 s' (one01 d'))) (by omega)
    have hre : xor32 (xor32 s (one01 d)) (xor32 s' (one01 d')) = xor32 (xor32 s s') (xor32 (one01 d) (one01 d')) := by
      rw [xor32_assoc, xor32_assoc, ← xor32_assoc (one01 d), xor32_comm (one01 d) s', xor32_assoc]
    by_cases hd : d = d'
    · subst hd
      rw [xor32_self, xor32_zero] at hre
      rw [hre] at h3 h4 h1
      refine ⟨by rw [h4, Nat.pow_succ]; omega, fun hs => ?_⟩
      subst hs
      rw [h2 rfl]
    · have h01 : xor32 (one01 d) (one01 d') = (BitVec.ofNat 32 1) := by
        cases d <;> cases d' <;> first | exact absurd rfl hd | rfl
      rw [h01] at hre
      refine ⟨?_, fun hs => ?_⟩
      · have hx : xor32 s s' = xor32 (xor32 (xor32 s s') (BitVec.ofNat 32 1)) (BitVec.ofNat 32 1) := by rw [xor32_assoc, xor32_self, xor32_zero]
        rw [hx, ← hre]
        show (_ ^^^ (BitVec.ofNat 32 1)).toNat < _
        rw [BitVec.toNat_xor]
        refine Nat.xor_lt_two_pow ?_ ?_
        · rw [h4, Nat.pow_succ]; omega
        · exact Nat.one_lt_two_pow (by omega)
      · exfalso
        subst hs
        rw [xor32_self] at hre
        rw [hre] at h3
        exact absurd h3 (by decide)
theorem bits8_length (b : UInt8) : (bits8 b).length = 8 := by simp [bits8]
theorem bitsOf_length : ∀ l : List UInt8, (bitsOf l).length = 8 * l.length
  | [] => rfl
  | b :: l => by
    show (bits8 b ++ bitsOf l).length = _
    rw [List.length_append, bits8_length, bitsOf_length l, List.length_cons]
    omega
theorem bits8_inj {a b : UInt8} (h : bits8 a = bits8 b) : a = b := by
  apply UInt8.toNat_inj.1
  apply Nat.eq_of_testBit_eq
  intro i
  by_cases hi : i < 8
  · have h1 : (bits8 a)[i]? = (bits8 b)[i]? := by rw [h]
    simpa [bits8, hi] using h1
  · have ha := a.toNat_lt
    have hb := b.toNat_lt
    have hp : 2 ^ 8 ≤ 2 ^ i := Nat.pow_le_pow_right (by decide) (by omega)
    rw [Nat.testBit_lt_two_pow (by omega), Nat.testBit_lt_two_pow (by omega)]
theorem bitsOf_inj : ∀ {l m : List UInt8}, l.length = m.length → bitsOf l = bitsOf m → l = m
  | [], [], _, _ => rfl
  | a :: l, b :: m, hl, h => by
    have h1 : bits8 a ++ bitsOf l = bits8 b ++ bitsOf m := h
    obtain ⟨h2, h3⟩ := List.append_inj h1 (by rw [bits8_length, bits8_length])
    rw [bits8_inj h2, bitsOf_inj (by simpa using hl) h3]
theorem burst_found (H x x' : List UInt8) (first : Nat) (hl : x.length = x'.length) (hpre : (bitsOf x).take first = (bitsOf x').take first) (hpost : (bitsOf x).drop (first + 32) = (bitsOf x').drop (first + 32))
    (h : crc (H ++ x) = crc (H ++ x')) : x = x' := by
  have h1 : crcF ones (H ++ x) = crcF ones (H ++ x') := by
    have : not32 (crc (H ++ x)) = not32 (crc (H ++ x')) := by rw [h]
    unfold crc at this
    rw [not_not32, not_not32] at this
    exact this
  rw [crcF_append, crcF_append, crcF_bits x, crcF_bits x'] at h1
  have split : ∀ B : List Bool, B = B.take first ++ ((B.drop first).take 32 ++ B.drop (first + 32)) := fun B => by
    rw [← List.drop_drop, List.take_append_drop, List.take_append_drop]
  have h2 := h1
  rw [split (bitsOf x), split (bitsOf x'), crcB_append, crcB_append, crcB_append, crcB_append, hpre, hpost] at h2
  have h3 := crcB_inj _ h2
  have hbl : (bitsOf x).length = (bitsOf x').length := by rw [bitsOf_length, bitsOf_length, hl]
  have h4 := (window _ _ _ _ (by simp only [List.length_take, List.length_drop]; omega) (by simp only [List.length_take]; omega) h3).2 rfl
  apply bitsOf_inj hl
  rw [split (bitsOf x), split (bitsOf x'), hpre, hpost, h4]
end Go.Proofs.YtaccklbijihppaaDoor
