/- What the plain Tagged does. -/
import Derived.Test.YtmbdhngoldganaaGreatDoorSTgd
import Derived.Test.YtmbdhngoldganaaGreatDoorSWi
namespace Go.Proofs.YtmbdhngoldganaaGreatDoor.Sh
open Go.RowKit
section
variable {op : Oper} {a : Act} {w : World} {K : Act → World → Prop} {Q : Exit → Act → World → Prop}
theorem wp_run {P : Program} (v : Value) (w1 : World) (hr : (execOp a.eval op).run P w = .ok (.value v) w1) (h : K (a.put op.dst v) w1) : op.wp P a w K Q := by
  unfold Oper.wp; rw [hr]; exact h
theorem wp_bsl4 (x0 x1 x2 x3 : Operand) (ho : op.op = .buildSlice 171 4 #[(0, x0), (1, x1), (2, x2), (3, x3)]) (f : Nat → UInt8)
    (h0 : a.eval x0 = .int .u8 (n8 (f 0))) (h1 : a.eval x1 = .int .u8 (n8 (f 1))) (h2 : a.eval x2 = .int .u8 (n8 (f 2))) (h3 : a.eval x3 = .int .u8 (n8 (f 3)))
    (h : ∀ w1 : World, Below w.heap.size w w1 → w1.heap.size = w.heap.size + 1 → Blk w1 w.heap.size (row8 f 4) 5 → K (a.put op.dst (.slice (some ⟨w.heap.size, 0, none⟩) 4 4)) w1) : op.wp Tryz.prog a w K Q := by
  refine wp_run _ _ ?_ (h _ ((Below.refl _ _).alloc (Nat.le_refl _) _) (by simp) (Blk.new _ _ _))
  unfold execOp
  have e : (#[(0, x0), (1, x1), (2, x2), (3, x3)] : Array (Nat × Operand)).map (fun (i, x) => (i, a.eval x)) = #[(0, .int .u8 (n8 (f 0))), (1, .int .u8 (n8 (f 1))), (2, .int .u8 (n8 (f 2))), (3, .int .u8 (n8 (f 3)))] := by simp [h0, h1, h2, h3]
  have hr := bsl4 (n8 (f 0)) (n8 (f 1)) (n8 (f 2)) (n8 (f 3)) w
  rw [← e] at hr
  simp only [ho, Sem.run_bind, hr, Result.andThen_ok]
  rfl
theorem wp_bytesString {P : Program} (src dst : TypeId) (x : Operand) (ho : op.op = .convert src dst x) (b n cap : Nat) (hx : a.eval x = .slice (some ⟨b, 0, none⟩) n cap)
    (e : TypeId) (hs : P.underlying src = some (.slice e)) (he : P.underlying e = some (.int .u8)) (hd : P.underlying dst = some .string)
    (f : Nat → UInt8) (m : Nat) (t : TypeId) (hb : Blk w b (row8 f m) t) (hn : n ≤ m)
    (h : K (a.put op.dst (.string (strF f n))) w) : op.wp P a w K Q := by
  refine wp_run _ w ?_ h
  have hr := run_bytesToString (P := P) w ⟨b, 0, none⟩ n cap ((List.range n).map fun j => n8 (f j)) (hb.loadBytes hn)
  rw [foldl_push] at hr
  have e2 : ((((List.range n).map fun j => n8 (f j)).map fun k => UInt8.ofNat k.toNat)) = (List.range n).map f := by
    rw [List.map_map]; congr 1; funext j; exact ofNat_n8 (f j)
  rw [e2] at hr
  unfold execOp
  simp only [ho, hx, Sem.run_bind, run_convert_bytes_string w src dst e _ _ _ hs he hd, hr, Result.andThen_ok]
  show Result.ok (Next.value (.string ⟨ByteArray.empty.data ++ _⟩)) w = _
  rw [show ByteArray.empty.data = #[] from rfl, Array.empty_append]
  rfl
end
theorem tb3 (n : Nat) : IntKind.u8.wrap ((n : Int) / 16777216) = n8 (byteAt n 4 0) := by
  rw [IntKind.wrap_u8]; have := num_byte n 3; simpa [byteAt] using this
theorem tb2 (n : Nat) : IntKind.u8.wrap ((n : Int) / 65536) = n8 (byteAt n 4 1) := by
  rw [IntKind.wrap_u8]; have := num_byte n 2; simpa [byteAt] using this
theorem tb1 (n : Nat) : IntKind.u8.wrap ((n : Int) / 256) = n8 (byteAt n 4 2) := by
  rw [IntKind.wrap_u8]; have := num_byte n 1; simpa [byteAt] using this
theorem tb0 (n : Nat) : IntKind.u8.wrap (n : Int) = n8 (byteAt n 4 3) := by
  rw [IntKind.wrap_u8]; have := num_byte n 0; simpa [byteAt] using this
set_option maxRecDepth 100000 in
set_option maxHeartbeats 1000000 in
theorem rtagged_any (p : UInt8) (b o len cap : Nat) (ss : List (List UInt8)) (w : World) (hc : ∀ i, i < len → w.cell? ⟨b, o + i, none⟩ = some (.string ⟨(ss.getD i []).toArray⟩)) (hlen : (tagTo p ss len).length ≤ 549755813888) :
    Calls Tryz.prog 78 #[.int .u8 (n8 p), .slice (some ⟨b, o, none⟩) len cap] w fun e w' => e = .returned (.string ⟨(digest (tagTo p ss len)).toArray⟩) ∧ Below w.heap.size w w' := by
  have hp0 := n8_nonneg p
  have hp1 := n8_le p
  have hln : len ≤ 549755813888 := by have := tagTo_ge p ss len; omega
  go_enter Tryz.func78, Tryz.ntmps78
  go_wp2_with (with_reducible refine at_list ?_; first
    | (refine wpList_bsl1 rfl _ rfl p rfl ?_; intro w1 hw1 hs1 hb1; replace hs1 := hs1.symm)
    | (refine wpList_bytesString rfl _ _ _ rfl w.heap.size 1 1 rfl _ Tryz.underlying171 Tryz.underlying5 Tryz.underlying9 _ _ _ hb1 (Nat.le_refl _) ?_; rw [show strF (fun _ => p) 1 = ⟨[p].toArray⟩ from rfl]))
  clear hs1 hb1
  go_loopw [5, 6] (fun v5 v6 wl => ∃ n : Nat, n ≤ len ∧ v5 = .string ⟨(tagTo p ss n).toArray⟩ ∧ v6 = .int .i64 n ∧ Below w.heap.size w wl) (fun _ v6 _ => len - (intOf v6).toNat)
  case atStart => exact ⟨0, by omega, rfl, rfl, hw1⟩
  case round =>
    clear hw1
    obtain ⟨n, hn, rfl, rfl, hB⟩ := hrel
    by_cases hlt : n < len
    · obtain ⟨t, ht⟩ : ∃ t, t = ss.getD n [] := ⟨_, rfl⟩
      have hcw := hc n hlt
      rw [← ht] at hcw
      have hbl := World.block_lt_of_cell? w _ hcw
      have hcr : wr.cell? ⟨b, o + n, none⟩ = some (.string ⟨t.toArray⟩) := by rw [hB.cell (p := ⟨b, o + n, none⟩) hbl]; exact hcw
      have HT : Hid (tagTo p ss (n + 1) = tagTo p ss n ++ be t.length 4 ++ t) := by rw [tagTo, ht]; exact rfl
      have hl1 := tagTo_le p ss (n + 1) (len - (n + 1))
      rw [show n + 1 + (len - (n + 1)) = len from by omega, HT.out, List.length_append, List.length_append, be_length] at hl1
      clear ht hcw hc
      go_wp2_with fail
      refine wp_region_held_drew (S := fun w' => w'.cell? ⟨b, o + n, none⟩ = some (.string ⟨t.toArray⟩)) (by kernel_rfl) hcr (fun hHeld => ?_)
      have hq3 : IntKind.i64.wrap ((t.length : Int) / 16777216) = (t.length : Int) / 16777216 := by rw [IntKind.wrap_i64]; omega
      have hq2 : IntKind.i64.wrap ((t.length : Int) / 65536) = (t.length : Int) / 65536 := by rw [IntKind.wrap_i64]; omega
      have hq1 : IntKind.i64.wrap ((t.length : Int) / 256) = (t.length : Int) / 256 := by rw [IntKind.wrap_i64]; omega
      have hy3 := tb3 t.length
      have hy2 := tb2 t.length
      have hy1 := tb1 t.length
      have hy0 := tb0 t.length
      refine wpAnyH_take (i := 0) (oi := ⟨some 22, _, _, _, _, _⟩) (v := .string ⟨(tagTo p ss n).toArray⟩) rfl (by kernel_rfl) (by kernel_rfl) (by kernel_rfl) (fun _ _ _ h => h) (Or.inl ⟨by rfl, fun w hSw => by go_simp⟩) hHeld ?_
      refine wpAnyH_take (i := 1) (oi := ⟨some 23, _, _, _, _, _⟩) (v := .int .i64 t.length) rfl (by kernel_rfl) (by kernel_rfl) (by kernel_rfl) (fun _ _ _ h => h) (Or.inl ⟨by rfl, fun w hSw => by go_simp⟩) hHeld ?_
      refine wpAnyH_take (i := 2) (oi := ⟨some 24, _, _, _, _, _⟩) (v := .int .i64 ((t.length : Int) / 16777216)) rfl (by kernel_rfl) (by kernel_rfl) (by kernel_rfl) (fun _ _ _ h => h) (Or.inl ⟨by rfl, fun w hSw => by go_simp⟩) hHeld ?_
      refine wpAnyH_take (i := 3) (oi := ⟨some 25, _, _, _, _, _⟩) (v := .int .u8 (n8 (byteAt t.length 4 0))) rfl (by kernel_rfl) (by kernel_rfl) (by kernel_rfl) (fun _ _ _ h => h) (Or.inl ⟨by rfl, fun w hSw => by go_simp⟩) hHeld ?_
      refine wpAnyH_take (i := 4) (oi := ⟨some 26, _, _, _, _, _⟩) (v := .int .i64 t.length) rfl (by kernel_rfl) (by kernel_rfl) (by kernel_rfl) (fun _ _ _ h => h) (Or.inl ⟨by rfl, fun w hSw => by go_simp⟩) hHeld ?_
      refine wpAnyH_take (i := 5) (oi := ⟨some 27, _, _, _, _, _⟩) (v := .int .i64 ((t.length : Int) / 65536)) rfl (by kernel_rfl) (by kernel_rfl) (by kernel_rfl) (fun _ _ _ h => h) (Or.inl ⟨by rfl, fun w hSw => by go_simp⟩) hHeld ?_
      refine wpAnyH_take (i := 6) (oi := ⟨some 28, _, _, _, _, _⟩) (v := .int .u8 (n8 (byteAt t.length 4 1))) rfl (by kernel_rfl) (by kernel_rfl) (by kernel_rfl) (fun _ _ _ h => h) (Or.inl ⟨by rfl, fun w hSw => by go_simp⟩) hHeld ?_
      refine wpAnyH_take (i := 7) (oi := ⟨some 29, _, _, _, _, _⟩) (v := .int .i64 t.length) rfl (by kernel_rfl) (by kernel_rfl) (by kernel_rfl) (fun _ _ _ h => h) (Or.inl ⟨by rfl, fun w hSw => by go_simp⟩) hHeld ?_
      refine wpAnyH_take (i := 8) (oi := ⟨some 30, _, _, _, _, _⟩) (v := .int .i64 ((t.length : Int) / 256)) rfl (by kernel_rfl) (by kernel_rfl) (by kernel_rfl) (fun _ _ _ h => h) (Or.inl ⟨by rfl, fun w hSw => by go_simp⟩) hHeld ?_
      refine wpAnyH_take (i := 9) (oi := ⟨some 31, _, _, _, _, _⟩) (v := .int .u8 (n8 (byteAt t.length 4 2))) rfl (by kernel_rfl) (by kernel_rfl) (by kernel_rfl) (fun _ _ _ h => h) (Or.inl ⟨by rfl, fun w hSw => by go_simp⟩) hHeld ?_
      refine wpAnyH_take (i := 10) (oi := ⟨some 32, _, _, _, _, _⟩) (v := .int .i64 t.length) rfl (by kernel_rfl) (by kernel_rfl) (by kernel_rfl) (fun _ _ _ h => h) (Or.inl ⟨by rfl, fun w hSw => by go_simp⟩) hHeld ?_
      refine wpAnyH_take (i := 11) (oi := ⟨some 33, _, _, _, _, _⟩) (v := .int .u8 (n8 (byteAt t.length 4 3))) rfl (by kernel_rfl) (by kernel_rfl) (by kernel_rfl) (fun _ _ _ h => h) (Or.inl ⟨by rfl, fun w hSw => by go_simp⟩) hHeld ?_
      refine wpAnyH_take (i := 14) (oi := ⟨some 36, _, _, _, _, _⟩) (v := .slice (some ⟨b, o, none⟩) len cap) rfl (by kernel_rfl) (by kernel_rfl) (by kernel_rfl) (fun _ _ _ h => h) (Or.inl ⟨by rfl, fun w hSw => by go_simp⟩) hHeld ?_
      refine wpAnyH_take (i := 15) (oi := ⟨some 37, _, _, _, _, _⟩) (v := .int .i64 n) rfl (by kernel_rfl) (by kernel_rfl) (by kernel_rfl) (fun _ _ _ h => h) (Or.inl ⟨by rfl, fun w hSw => by go_simp⟩) hHeld ?_
      refine wpAnyH_take (i := 16) (oi := ⟨some 38, _, _, _, _, _⟩) (v := .pointer (some ⟨b, o + n, none⟩)) rfl (by kernel_rfl) (by kernel_rfl) (by kernel_rfl) (fun _ _ _ h => h) (Or.inl ⟨by rfl, fun w hSw => by go_simp⟩) hHeld ?_
      refine wpAnyH_take (i := 17) (oi := ⟨some 39, _, _, _, _, _⟩) (v := .string ⟨t.toArray⟩) rfl (by kernel_rfl) (by kernel_rfl) (by kernel_rfl) (fun _ _ _ h => h) (Or.inl ⟨by rfl, fun w hSw => by go_simp⟩) hHeld ?_
      simp only [Act.put, List.setIfInBounds_toArray, List.set_cons_zero, List.set_cons_succ]
      refine wpAnyH_ready (rs := [12]) (by kernel_rfl) (by simp) ?_
      refine AllReadyH.cons (o := ⟨some 34, .buildSlice 171 4 #[(0, .tmp 25), (1, .tmp 28), (2, .tmp 31), (3, .tmp 33)], _, _, _, _⟩) rfl (fun K hK => ?_) AllReadyH.nil
      rw [if_pos (by rfl)]
      refine wp_bsl4 _ _ _ _ rfl (byteAt t.length 4) rfl rfl rfl rfl ?_
      intro w2 hw2 hs2 hb2
      have hcw2 : w2.cell? ⟨b, o + n, none⟩ = some (.string ⟨t.toArray⟩) := by rw [hw2.cell (p := ⟨b, o + n, none⟩) (World.block_lt_of_cell? _ _ hHeld)]; exact hHeld
      refine hK.out _ _ hcw2 (fun hHeld2 => ?_)
      clear hK K hcw2 hs2
      replace hHeld := hHeld2
      clear hHeld2
      refine wpAnyH_ready (rs := [13]) (by kernel_rfl) (by simp) ?_
      refine AllReadyH.cons (o := ⟨some 35, .convert 171 9 (.tmp 34), _, _, _, _⟩) rfl (fun K hK => ?_) AllReadyH.nil
      rw [if_pos (by rfl)]
      refine wp_bytesString _ _ _ rfl wr.heap.size 4 4 rfl _ Tryz.underlying171 Tryz.underlying5 Tryz.underlying9 _ _ _ hb2 (Nat.le_refl _) ?_
      rw [show strF (byteAt t.length 4) 4 = ⟨(be t.length 4).toArray⟩ from rfl]
      refine hK.out _ _ hHeld (fun _ => ?_)
      clear hK K hb2
      simp only [Act.put, List.setIfInBounds_toArray, List.set_cons_zero, List.set_cons_succ]
      refine wpAnyH_take (i := 18) (oi := ⟨some 40, _, _, _, _, _⟩) (v := .string ⟨(be t.length 4 ++ t).toArray⟩) rfl (by kernel_rfl) (by kernel_rfl) (by kernel_rfl) (fun _ _ _ h => h) (Or.inl ⟨by rfl, fun w hSw => by go_simp; rw [if_neg (by rw [be_length]; omega)]; first | rfl | simp⟩) hHeld ?_
      refine wpAnyH_take (i := 19) (oi := ⟨some 41, _, _, _, _, _⟩) (v := .string ⟨(tagTo p ss n ++ (be t.length 4 ++ t)).toArray⟩) rfl (by kernel_rfl) (by kernel_rfl) (by kernel_rfl) (fun _ _ _ h => h) (Or.inl ⟨by rfl, fun w hSw => by go_simp; rw [if_neg (by rw [be_length]; omega)]; first | rfl | simp⟩) hHeld ?_
      refine wpAnyH_take (i := 20) (oi := ⟨some 5, _, _, _, _, _⟩) (v := .string ⟨(tagTo p ss n ++ (be t.length 4 ++ t)).toArray⟩) rfl (by kernel_rfl) (by kernel_rfl) (by kernel_rfl) (fun _ _ _ h => h) (Or.inl ⟨by rfl, fun w hSw => by go_simp⟩) hHeld ?_
      refine wpAnyH_done (by kernel_rfl) ?_ _
      rw [← List.append_assoc, ← HT.out]
      simp only [Act.put, List.setIfInBounds_toArray, List.set_cons_zero, List.set_cons_succ]
      have hB2 := hB.trans ((Below.refl wr.heap.size wr).drew.trans (show Below wr.heap.size wr.drew w2 from hw2) |>.mono hB.size)
      clear hw2 hHeld hcr
      go_simp
      go_wp2_with fail
      go_roundw
      case rel => exact ⟨n + 1, by omega, rfl, by go_num, hB2⟩
      case measure => simp [intOf]; omega
    · have hZl : tagTo p ss n = tagTo p ss len := by rw [show len = n from by omega]
      rw [hZl]
      clear hZl
      go_wp2_with (go_at_call 133; refine (rsum_any (tagTo p ss len) _ hlen).mono ?_; rintro e w5 ⟨rfl, hw5⟩)
      go_ret
      exact ⟨rfl, hB.trans (hw5.mono hB.size)⟩
end Go.Proofs.YtmbdhngoldganaaGreatDoor.Sh
