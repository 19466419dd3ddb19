/- awake tells true, out of what the calls of a tree do. -/
import Derived.Test.YtmeolaeoaoldoaaDoorSvf
namespace Go.Proofs.YtmeolaeoaoldoaaDoor.Sh
open Go Go.RowKit
set_option maxRecDepth 100000 in
theorem path_ab : pathD7 [97] ≠ pathD7 [98] := by decide +kernel
set_option maxRecDepth 100000 in
theorem val_12 : valD7 [49] ≠ valD7 [50] := by decide +kernel
set_option maxRecDepth 100000 in
set_option maxHeartbeats 1000000 in
theorem awake7_any {TR : World → Nat → Nat → Tr → Prop} (C : SmtV TR) (w : World) (hG : Glob w) : Calls Tryd.prog 10 #[] w fun e w' => e = .returned (.bool true) ∧ Below w.heap.size w w' := by
  have HN := C.new w
  have HP := fun w1 b (hb : Below w.heap.size w w1) (hT : TR w1 w.heap.size b .emp) => C.put w1 w.heap.size b .emp [97] [49] (hG.belowSize hb) hb.size hT (by decide) (by decide) (by decide)
  have e1 : Tr.put 256 0 .emp (ofD TgD [97] [49]) = .lf (ofD TgD [97] [49]) := rfl
  rw [e1] at HP
  have hx1 : (ofD TgD [97] [49]).1 = pathD7 [97] := rfl
  have hx2 : (ofD TgD [97] [49]).2 = valD7 [49] := rfl
  have hl1 : (ofD TgD [97] [49]).1.length = 32 := TgD_len _ _
  have hl2 : (ofD TgD [97] [49]).2.length = 32 := TgD_len _ _
  generalize ofD TgD [97] [49] = x at *
  have hc : Tr.Canon 0 (.lf x) := hl1
  have hv : ∀ y ∈ (Tr.lf x).leaves, y.2.length = 32 := fun y hy => by rw [List.mem_singleton.1 hy]; exact hl2
  have HR := fun w1 b (hb : Below w.heap.size w w1) (hT : TR w1 w.heap.size b (.lf x)) => C.root w1 w.heap.size b (.lf x) (hG.belowSize hb) hT (by simp [Tr.leaves])
  have HQ := fun w1 b k (hk : k.length ≤ 1000) (hb : Below w.heap.size w w1) (hT : TR w1 w.heap.size b (.lf x)) => C.prove w1 w.heap.size b (.lf x) k (hG.belowSize hb) hT (by simp [Tr.leaves]) hk
  have HQa := fun w1 b => HQ w1 b [97] (by decide)
  have HQb := fun w1 b => HQ w1 b [98] (by decide)
  have HQc := HQa
  have hrl := hash_len (.lf x)
  have hshort : ∀ {k : List UInt8} {p : Pf7}, PrfOf (.lf x) k p → p.bs.length ≤ 1000 ∧ ∀ y ∈ p.bs, y.length ≤ 1000 := fun h => by
    have := h.bs
    rw [show ((Tr.lf x).way TgD 0 _).1 = [] from rfl] at this
    rw [this]
    exact ⟨by simp, fun y hy => nomatch hy⟩
  have HV1 := fun w1 a c p (hp : PrfOf (.lf x) [97] p) (hX : XA w1 a p.bs) (hb : Below w.heap.size w w1) => C.verify w1 ((Tr.lf x).hash TgD) [97] [49] true a c p true (hG.belowSize hb) hX (by omega) (by decide) (by decide) (hshort hp).1 (hshort hp).2 (by have := hp.len; omega) (by have := hp.len; omega)
    ⟨fun _ => (prf_ver hc hv hp _ _).2 ⟨⟨fun _ => ⟨x, by simp [Tr.leaves], hx1⟩, fun _ => rfl⟩, fun _ y hy _ => by rw [List.mem_singleton.1 hy]; exact hx2⟩, fun _ => rfl⟩
  have HV2 := fun w1 a c p (hp : PrfOf (.lf x) [98] p) (hX : XA w1 a p.bs) (hb : Below w.heap.size w w1) => C.verify w1 ((Tr.lf x).hash TgD) [98] [] false a c p true (hG.belowSize hb) hX (by omega) (by decide) (by decide) (hshort hp).1 (hshort hp).2 (by have := hp.len; omega) (by have := hp.len; omega)
    ⟨fun _ => (prf_ver hc hv hp _ _).2 ⟨⟨fun h => Bool.noConfusion h, fun ⟨y, hy, hyk⟩ => by rw [List.mem_singleton.1 hy, hx1] at hyk; exact absurd hyk path_ab⟩, fun h => Bool.noConfusion h⟩, fun _ => rfl⟩
  have HV3 := fun w1 a c p (hp : PrfOf (.lf x) [97] p) (hX : XA w1 a p.bs) (hb : Below w.heap.size w w1) => C.verify w1 ((Tr.lf x).hash TgD) [97] [50] true a c p false (hG.belowSize hb) hX (by omega) (by decide) (by decide) (hshort hp).1 (hshort hp).2 (by have := hp.len; omega) (by have := hp.len; omega)
    ⟨fun h => Bool.noConfusion h, fun h => by
      have := ((prf_ver hc hv hp _ _).1 h).2 rfl x (by simp [Tr.leaves]) hx1
      rw [hx2] at this
      exact absurd this val_12⟩
  have HK := fun {w1 w2 : World} {b : Nat} (h : TR w1 w.heap.size b (.lf x)) (hb : Below w1.heap.size w1 w2) => C.keep h hb
  clear HQ hshort hx1 hx2 hl1 hl2 e1 hc hv hG C
  generalize (Tr.lf x).hash TgD = R at *
  clear hrl
  go_enter Tryd.func10, Tryd.ntmps10
  go_wp2_with (first
    | (go_at_call 15; refine HN.mono ?_; rintro e w1 ⟨b, rfl, hT0, hw1⟩; have B := hw1)
    | (go_at_call 16; refine (HP _ _ B hT0).mono ?_; rintro e w2 ⟨rfl, hT, hw2, _⟩; replace B := B.trans hw2)
    | (go_at_call 12; refine (HR _ _ B hT).mono ?_; rintro e w3 ⟨rfl, hw3⟩; replace B := B.trans (hw3.mono B.size); replace hT := HK hT hw3)
    | (go_at_call 21; refine (HQa _ _ B hT).mono ?_; clear HQa; rintro e w4 ⟨a4, c4, p4, rfl, hX4, hp4, hw4⟩; replace B := B.trans (hw4.mono B.size); replace hT := HK hT hw4)
    | (go_at_call 24; refine (HV1 _ _ _ _ hp4 hX4 B).mono ?_; clear HV1; rintro e w5 ⟨rfl, hw5⟩; replace B := B.trans (hw5.mono B.size); replace hT := HK hT hw5)
    | (go_at_call 21; refine (HQb _ _ B hT).mono ?_; clear HQb; rintro e w6 ⟨a6, c6, p6, rfl, hX6, hp6, hw6⟩; replace B := B.trans (hw6.mono B.size); replace hT := HK hT hw6)
    | (go_at_call 24; refine (HV2 _ _ _ _ hp6 hX6 B).mono ?_; clear HV2; rintro e w7 ⟨rfl, hw7⟩; replace B := B.trans (hw7.mono B.size); replace hT := HK hT hw7)
    | (go_at_call 21; refine (HQc _ _ B hT).mono ?_; rintro e w8 ⟨a8, c8, p8, rfl, hX8, hp8, hw8⟩; replace B := B.trans (hw8.mono B.size); replace hT := HK hT hw8)
    | (go_at_call 24; refine (HV3 _ _ _ _ hp8 hX8 B).mono ?_; rintro e w9 ⟨rfl, hw9⟩; replace B := B.trans (hw9.mono B.size)))
  go_ret
  exact ⟨rfl, B⟩
end Go.Proofs.YtmeolaeoaoldoaaDoor.Sh
