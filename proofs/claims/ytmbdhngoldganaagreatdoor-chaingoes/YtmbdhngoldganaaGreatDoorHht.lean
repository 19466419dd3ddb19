/- What Hash of a header and the plain one do. -/
import Derived.Test.YtmbdhngoldganaaGreatDoorHcl
import Derived.Test.YtmbdhngoldganaaGreatDoorLay
import Derived.Test.YtmbdhngoldganaaGreatDoorSTgd
namespace Go.Proofs.YtmbdhngoldganaaGreatDoor
open Go Go.RowKit
/-- A header's digest. -/
def hD (h : HH) : List UInt8 := Sh.digest (Sh.tagTo 72 [hB h] 1)
theorem htag_len (s : List UInt8) (h : s.length ≤ 1000) : (Sh.tagTo 72 [s] 1).length ≤ 549755813888 := by
  have : Sh.tagTo 72 [s] 1 = [72] ++ Sh.be s.length 4 ++ s := rfl
  rw [this, List.length_append, List.length_append, Sh.be_length]
  simp
  omega
set_option maxRecDepth 100000 in
set_option maxHeartbeats 400000 in
theorem hashH_any (x : HH) (hk : OkH x) (a : Option Addr) (cap : Nat) (w : World) (h : IA w a x.mem) (hG : Sh.Glob w) :
    Calls Tryz.prog 109 #[.agg (hA x.height x.prev x.txr x.str (.slice a x.mem.length cap))] w fun e w' => e = .returned (.string ⟨(hD x).toArray⟩) ∧ Below w.heap.size w w' := by
  have hle := hB_len hk
  have h16 := hk.m.len
  have HB := fun w' (hB : Below w.heap.size w w') => bytesOfH_any x hk a cap w' (h.below hB)
  have HI : Hid (hD x = Sh.digest (Sh.tagTo 72 [hB x] 1)) := by exact rfl
  rw [HI.out]
  have HT := fun b w' (hG : Sh.Glob w') (hc : w'.cell? ⟨b, 0, none⟩ = some (.string ⟨(hB x).toArray⟩)) => Sh.tagged_any 72 b 0 1 1 [hB x] w' hG (one_cell hc) (htag_len _ (by omega))
  change ∀ b w', Sh.Glob w' → w'.cell? ⟨b, 0, none⟩ = some (.string ⟨(hB x).toArray⟩) → Calls Tryz.prog 120 #[.int .u8 72, .slice (some ⟨b, 0, none⟩) 1 1] w' _ at HT
  change ∀ w', Below w.heap.size w w' → Calls Tryz.prog 149 #[.agg (hA x.height x.prev x.txr x.str (.slice a x.mem.length cap))] w' _ at HB
  generalize Sh.digest (Sh.tagTo 72 [hB x] 1) = dg at *
  generalize hB x = tb at *
  generalize (Value.slice a x.mem.length cap) = sl at *
  clear hle h16
  go_enter Tryz.func109, Tryz.ntmps109
  go_wp2_with (first
    | (go_at_call 149; refine (HB _ hw1).mono ?_; rintro e w2 ⟨rfl, hw2⟩; have hB2 := hw1.trans (hw2.mono hw1.size))
    | (go_at_call 120; refine (HT _ _ (hG.belowSize (hB2.trans (hw3.mono hB2.size))) hc3).mono ?_; rintro e w4 ⟨rfl, hw4⟩)
    | (with_reducible refine at_list ?_; first
      | (refine wpList_boxRow (op := ⟨some 1, _, _, _, _, _⟩) rfl _ _ rfl _ rfl ?_; intro w1 hw1 hs1 hb1; replace hs1 := hs1.symm)
      | (refine wpList_loadRow (op := ⟨some 3, _, _, _, _, _⟩) rfl _ _ rfl w.heap.size rfl _ _ hb1 _ Tryz.underlying50 rfl (by rw [hA_size]; exact zH.2) ?_)
      | (refine wpList_bslS (op := ⟨some 5, _, _, _, _, _⟩) rfl _ rfl tb rfl ?_; intro w3 hw3 hc3)))
  go_ret
  exact ⟨rfl, (hB2.trans (hw3.mono hB2.size)).trans (hw4.mono (Nat.le_trans hB2.size hw3.size))⟩
end Go.Proofs.YtmbdhngoldganaaGreatDoor
