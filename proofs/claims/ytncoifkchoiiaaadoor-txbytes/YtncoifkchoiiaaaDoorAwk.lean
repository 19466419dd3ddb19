/- What awake does. -/
import Derived.Test.YtncoifkchoiiaaaDoorDec
import Derived.Test.YtncoifkchoiiaaaDoorPut
import Derived.Test.YtncoifkchoiiaaaDoorTxm
namespace Go.Proofs.YtncoifkchoiiaaaDoor
open Go Go.RowKit
def o1 : O := ⟨1, [97], [49]⟩
def t1 : TX := ⟨1, 1, [o1]⟩
theorem t1_ok : okTx t1 = true := by decide
theorem fin_end (s : List UInt8) : (⟨s, s.length, 0⟩ : R).fin = ⟨s, s.length, 0⟩ := if_neg (fun h => by have := h.2; simp at this)
theorem dec_t (t : TX) (ht : okTx t = true) (hc : t.client < 18446744073709551616) (hn : t.nonce < 18446744073709551616) : rdT ⟨txB t, 0, 0⟩ = t ∧ (rdE ⟨txB t, 0, 0⟩).fin = ⟨txB t, (txB t).length, 0⟩ := by
  have h := rd_at t ht hc hn []
  rw [List.append_nil] at h
  exact ⟨h.1, by rw [h.2, fin_end]⟩
theorem builtOp1 : Tryd.prog.built 52 [(0, .int .i64 1), (1, .string ⟨#[97]⟩), (2, .string ⟨#[49]⟩)] = some (opc o1) := by kernel_rfl
theorem builtTx1 (v : Nat) : Tryd.prog.built 25 [(0, .int .u64 1), (1, .int .u64 1), (2, .slice (some ⟨v, 0, none⟩) 1 1)] = some (txc t1.client t1.nonce (.slice (some ⟨v, 0, none⟩) t1.ops.length 1)) := by kernel_rfl
theorem sl1_cell {w : World} {g o : Nat} (h : SL w (some ⟨g, o, none⟩) t1.ops) : w.cell? ⟨g, o + 2, none⟩ = some (.string ⟨#[49]⟩) := by
  have := (h.at 0 (by decide)) 2 (.string ⟨#[49]⟩) rfl
  simpa using this
theorem t1_len : t1.ops.length = 1 := rfl
set_option maxRecDepth 100000 in
set_option maxHeartbeats 400000 in
theorem awake_any (w : World) : Calls Tryd.prog 8 #[] w fun e w' => e = .returned (.bool true) ∧ Below w.heap.size w w' := by
  have hle := txB_le (okTx_of t1_ok)
  have HE := fun a cap w (h : SL w a t1.ops) => encode_any t1 a cap w h
  rw [show encB t1 = txB t1 from if_pos t1_ok, chk_zero t1_ok] at HE
  have HD := fun w => decode_any (txB t1) w (by omega)
  obtain ⟨hd1, hd2⟩ := dec_t t1 t1_ok (by decide) (by decide)
  rw [hd1, hd2] at HD
  clear hd1 hd2
  have HV : Hid (∀ sl, takeV ⟨txB t1, (txB t1).length, 0⟩ t1 sl = txc 1 1 sl) := fun sl => if_pos rfl
  generalize txB t1 = tb at *
  have hb1 := Blk.new w (opc o1) 52
  have hSL : SL (w.alloc (.cells (opc o1) 52)) (some ⟨w.heap.size, 0, none⟩) t1.ops := fun i hi => by
    have h0 : i = 0 := by simp [t1] at hi; omega
    subst h0
    exact ⟨w.heap.size, 0, rfl, fun j v hv => by rw [Nat.zero_mul, Nat.add_zero, Nat.zero_add, hb1.cell]; have hv2 : (opc o1).toList[j]? = some v := hv; simpa using hv2⟩
  have HE1 : Calls Tryd.prog 5 #[.agg #[.int .u64 1, .int .u64 1, .slice (some ⟨w.heap.size, 0, none⟩) 1 1]] (w.alloc (.cells #[.int .i64 1, .string ⟨#[97]⟩, .string ⟨#[49]⟩] 52)) (fun e w' => e = .returned (.tuple #[.string ⟨tb.toArray⟩, .int .i64 0]) ∧ Below (w.heap.size + 1) (w.alloc (.cells #[.int .i64 1, .string ⟨#[97]⟩, .string ⟨#[49]⟩] 52)) w') := by
    refine (HE _ 1 _ hSL).mono ?_
    rintro e w' ⟨he, hw⟩
    refine ⟨he, ?_⟩
    rw [show (w.alloc (.cells (opc o1) 52)).heap.size = w.heap.size + 1 from by simp] at hw
    exact hw
  clear HE hSL hb1
  have HA : Below w.heap.size w (w.alloc (.cells #[.int .i64 1, .string ⟨#[97]⟩, .string ⟨#[49]⟩] 52)) := (Below.refl _ _).alloc (Nat.le_refl _) _
  go_enter Tryd.func8, Tryd.ntmps8
  go_wp2_with (first
    | (go_at_call 5; refine HE1.mono ?_; rintro e w2 ⟨rfl, hw2⟩; replace HA := HA.trans (hw2.mono (by omega)); clear HE1 hw2)
    | (go_at_call 10; refine (HD _).mono ?_; rintro e w3 ⟨sl, rfl, hw3, hO3⟩; rw [HV.out sl]; obtain ⟨a3, cap3, rfl, hSL3⟩ := hO3.sl; obtain ⟨g, o, rfl⟩ := hSL3.ex (by decide); rw [t1_len]; replace HA := HA.trans (hw3.mono HA.size); clear hw3)
    | (with_reducible refine at_list ?_; first
      | (refine wpList_allocRow (op := ⟨some 3, _, _, _, _, _⟩) rfl _ rfl _ zTx.1 ?_; intro w4 hw4 hs4 hz4; replace hs4 := hs4.symm; have hSL4 := hSL3.below hw4; have hA3 := HA.size; replace HA := HA.trans (hw4.mono HA.size))
      | (refine wpList_storeRow (op := ⟨none, .store 25 (.tmp 3) (.tmp 15), _, _, _, _⟩) rfl _ _ _ rfl w3.heap.size (txc 1 1 (.slice (some ⟨g, o, none⟩) 1 cap3)) rfl rfl _ _ hz4 (by simp only [txc_size]) (by rw [txc_size]; exact zTx.2) (txc_one _ _ _ _ _) ?_; intro w5 hg5 hs5 hz5; have c0 := (hz5.cell 0).trans (txc_g0 _ _ _); have c2 := (hz5.cell 2).trans (txc_g2 _ _ _); have hBx : Below w3.heap.size w3 w5 := hw4.trans (below_of_grown hg5 (Nat.le_refl _) hw4.size); have d2 := sl1_cell (hSL3.below hBx); replace HA := HA.trans (below_of_grown hg5 hA3 HA.size); clear hSL3 hSL4)))
  go_ret
  exact ⟨rfl, HA⟩
end Go.Proofs.YtncoifkchoiiaaaDoor
