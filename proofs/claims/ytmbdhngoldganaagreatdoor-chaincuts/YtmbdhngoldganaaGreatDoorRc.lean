/- What the plain Number does. What Frame, the plain Frame, and WireNumbers do. What Frame and the plain Frame do. A reader's memory; what Err, At, Left, Fail and refuse do. What a reader's Bytes does. What a reader's Number, Count, Text, Hash, Bool and End do. -/
import Derived.Test.YtmbdhngoldganaaGreatDoorWc
namespace Go.Proofs.YtmbdhngoldganaaGreatDoor
open Go.RowKit
theorem range1 : Array.range 1 = #[0] := by decide
theorem bsl1 (z : Int) (w : World) : (Instr.buildSlice 171 1 #[(0, .int .u8 z)]).run Tryz.prog w = .ok (.slice (some ⟨w.heap.size, 0, none⟩) 1 1) (w.alloc (.cells #[.int .u8 z] 5)) := by
  simp [Instr.buildSlice, run_underlying Tryz.underlying171, sizeOf_run i5, Sem.run_bind, Instr.fill, newRow, Tryz.zeroValue5, Value.cells, range1]
section
variable {op : Oper} {a : Act} {w : World} {K : Act → World → Prop} {Q : Exit → Act → World → Prop}
theorem wp_run {P : Program} (v : Value) (w1 : World) (hr : (execOp a.eval op).run P w = .ok (.value v) w1) (h : K (a.put op.dst v) w1) : op.wp P a w K Q := by
  unfold Oper.wp; rw [hr]; exact h
theorem wp_bsl1 (x : Operand) (ho : op.op = .buildSlice 171 1 #[(0, x)]) (v : UInt8) (hx : a.eval x = .int .u8 (n8 v))
    (h : ∀ w1 : World, Below w.heap.size w w1 → w1.heap.size = w.heap.size + 1 → Blk w1 w.heap.size (row8 (fun _ => v) 1) 5 → K (a.put op.dst (.slice (some ⟨w.heap.size, 0, none⟩) 1 1)) w1) : op.wp Tryz.prog a w K Q := by
  refine wp_run _ _ ?_ (h _ ((Below.refl _ _).alloc (Nat.le_refl _) _) (by simp) (Blk.new _ _ _))
  unfold execOp
  have e : (#[(0, x)] : Array (Nat × Operand)).map (fun (i, x) => (i, a.eval x)) = #[(0, .int .u8 (n8 v))] := by simp [hx]
  have hr := bsl1 (n8 v) w
  rw [← e] at hr
  simp only [ho, Sem.run_bind, hr, Result.andThen_ok]
  rfl
theorem wp_bytesString {P : Program} (src dst : TypeId) (x : Operand) (ho : op.op = .convert src dst x) (b n cap : Nat) (hx : a.eval x = .slice (some ⟨b, 0, none⟩) n cap)
    (e : TypeId) (hs : P.underlying src = some (.slice e)) (he : P.underlying e = some (.int .u8)) (hd : P.underlying dst = some .string)
    (f : Nat → UInt8) (m : Nat) (t : TypeId) (hb : Blk w b (row8 f m) t) (hn : n ≤ m)
    (h : K (a.put op.dst (.string (strF f n))) w) : op.wp P a w K Q := by
  refine wp_run _ w ?_ h
  have hr := run_bytesToString (P := P) w ⟨b, 0, none⟩ n cap ((List.range n).map fun j => n8 (f j)) (hb.loadBytes hn)
  rw [foldl_push] at hr
  have e2 : ((((List.range n).map fun j => n8 (f j)).map fun k => UInt8.ofNat k.toNat)) = (List.range n).map f := by
    rw [List.map_map]; congr 1; funext j; exact ofNat_n8 (f j)
  rw [e2] at hr
  unfold execOp
  simp only [ho, hx, Sem.run_bind, run_convert_bytes_string w src dst e _ _ _ hs he hd, hr, Result.andThen_ok]
  show Result.ok (Next.value (.string ⟨ByteArray.empty.data ++ _⟩)) w = _
  rw [show ByteArray.empty.data = #[] from rfl, Array.empty_append]
  rfl
end
theorem cut8_nat (m : Nat) (h : m ≤ 8) : cut8 (m : Int) = m := by unfold cut8; omega
theorem wrap_byte (n : Nat) : IntKind.u8.wrap ((n : Int) % 256) = n8 (UInt8.ofNat (n % 256)) := by
  rw [IntKind.wrap_u8', byte_mod]
  have := n8_nonneg (UInt8.ofNat (n % 256)); have := n8_le (UInt8.ofNat (n % 256)); omega
set_option maxRecDepth 100000 in
set_option maxHeartbeats 1000000 in
theorem rnum_step (n m : Nat) (k : Int) (w : World) (hm : m < 8) (hk : k = m + 1 ∨ (8 < k ∧ m = 7)) (hn : n < 18446744073709551616)
    (IH : ∀ (n : Nat) (w : World), n < 18446744073709551616 → Calls Tryz.prog 73 #[.int .u64 n, .int .i64 (m : Nat)] w fun e w' => e = .returned (.string ⟨(num n m).toArray⟩) ∧ Below w.heap.size w w') :
    Calls Tryz.prog 73 #[.int .u64 n, .int .i64 k] w fun e w' => e = .returned (.string ⟨(num n (m + 1)).toArray⟩) ∧ Below w.heap.size w w' := by
  obtain ⟨N, hN⟩ : ∃ N, N = n / 256 := ⟨_, rfl⟩
  have HK : Hid (num n (m + 1) = num N m ++ [UInt8.ofNat (n % 256)]) := by rw [num, hN]; exact rfl
  have hN2 : IntKind.u64.wrap ((n : Int) / 256) = (N : Int) := by rw [IntKind.wrap_u64]; omega
  have HN : Hid (IntKind.u64.wrap ((n : Int) / 256) = (N : Int)) := hN2
  have hNl : N < 18446744073709551616 := by omega
  clear hN hN2
  rcases hk with rfl | ⟨h8, rfl⟩
  · have h8 : decide ((8 : Int) < (m : Int) + 1) = false := by simp; omega
    go_enter Tryz.func73, Tryz.ntmps73
    go_wp2_with fail
    refine wp_region_any (by kernel_rfl) ?_
    change wpAny _ _ _ _ _ _ _ (World.drew _)
    have hBl : Below w.heap.size w w.drew := (Below.refl _ _).drew
    refine wpAny_take (i := 0) (oi := ⟨some 9, _, _, _, _, _⟩) (v := .int .u64 (n : Nat)) rfl (by kernel_rfl) (by kernel_rfl) (by kernel_rfl) (fun _ _ _ h => h) (Or.inl ⟨by rfl, fun w => by go_simp⟩) ?_
    refine wpAny_take (i := 1) (oi := ⟨some 10, _, _, _, _, _⟩) (v := .int .u64 (N : Nat)) rfl (by kernel_rfl) (by kernel_rfl) (by kernel_rfl) (fun _ _ _ h => h) (Or.inl ⟨by rfl, fun w => by go_simp; first | done | exact HN.out⟩) ?_
    refine wpAny_take (i := 2) (oi := ⟨some 11, _, _, _, _, _⟩) (v := .int .i64 ((m : Int) + 1)) rfl (by kernel_rfl) (by kernel_rfl) (by kernel_rfl) (fun _ _ _ h => h) (Or.inl ⟨by rfl, fun w => by go_simp⟩) ?_
    refine wpAny_take (i := 3) (oi := ⟨some 12, _, _, _, _, _⟩) (v := .int .i64 (m : Nat)) rfl (by kernel_rfl) (by kernel_rfl) (by kernel_rfl) (fun _ _ _ h => h) (Or.inl ⟨by rfl, fun w => by go_simp; rw [IntKind.wrap_i64]; omega⟩) ?_
    refine wpAny_take (i := 5) (oi := ⟨some 14, _, _, _, _, _⟩) (v := .int .u64 (n : Nat)) rfl (by kernel_rfl) (by kernel_rfl) (by kernel_rfl) (fun _ _ _ h => h) (Or.inl ⟨by rfl, fun w => by go_simp⟩) ?_
    refine wpAny_take (i := 6) (oi := ⟨some 15, _, _, _, _, _⟩) (v := .int .u64 ((n : Int) % 256)) rfl (by kernel_rfl) (by kernel_rfl) (by kernel_rfl) (fun _ _ _ h => h) (Or.inl ⟨by rfl, fun w => by go_simp; exact Int.tmod_eq_emod_of_nonneg (by omega)⟩) ?_
    refine wpAny_take (i := 7) (oi := ⟨some 16, _, _, _, _, _⟩) (v := .int .u8 (n8 (UInt8.ofNat (n % 256)))) rfl (by kernel_rfl) (by kernel_rfl) (by kernel_rfl) (fun _ _ _ h => h) (Or.inl ⟨by rfl, fun w => by go_simp; first | done | (rw [wrap_byte])⟩) ?_
    simp only [Act.put, List.setIfInBounds_toArray, List.set_cons_zero, List.set_cons_succ]
    refine wpAny_ready (rs := [4, 8]) (by kernel_rfl) (by simp) ?_
    refine AllReady.cons (o := ⟨some 13, .call ⟨.value (.func 73), #[.tmp 10, .tmp 12], #[36, 3]⟩, _, _, _, _⟩) rfl (fun K hK => ?_) (AllReady.cons (o := ⟨some 17, .buildSlice 171 1 #[(0, .tmp 16)], _, _, _, _⟩) rfl (fun K hK => ?_) AllReady.nil)
    · skip
      rw [if_pos (by rfl)]
      go_simp
      refine (IH N _ hNl).mono ?_
      rintro e wc ⟨rfl, hwc⟩
      refine hK _ _ ?_
      clear hK K
      replace hBl := hBl.trans (hwc.mono hBl.size)
      clear hwc
      refine wpAny_ready (rs := [8]) (by kernel_rfl) (by simp) ?_
      refine AllReady.cons (o := ⟨some 17, .buildSlice 171 1 #[(0, .tmp 16)], _, _, _, _⟩) rfl (fun K hK => ?_) AllReady.nil
      rw [if_pos (by rfl)]
      refine wp_bsl1 _ rfl (UInt8.ofNat (n % 256)) rfl ?_
      intro wb hwb hsb hb
      refine hK _ _ ?_
      clear hK K hsb
      replace hBl := hBl.trans (hwb.mono hBl.size)
      clear hwb
      refine wpAny_ready (rs := [9]) (by kernel_rfl) (by simp) ?_
      refine AllReady.cons (o := ⟨some 18, .convert 171 9 (.tmp 17), _, _, _, _⟩) rfl (fun K hK => ?_) AllReady.nil
      rw [if_pos (by rfl)]
      refine wp_bytesString _ _ _ rfl _ 1 1 rfl _ Tryz.underlying171 Tryz.underlying5 Tryz.underlying9 _ _ _ hb (Nat.le_refl _) ?_
      rw [show strF (fun _ => UInt8.ofNat (n % 256)) 1 = ⟨[UInt8.ofNat (n % 256)].toArray⟩ from rfl]
      refine hK _ _ ?_
      clear hK K hb
      try simp only [Act.put, List.setIfInBounds_toArray, List.set_cons_zero, List.set_cons_succ]
      refine wpAny_take (i := 10) (oi := ⟨some 19, _, _, _, _, _⟩) (v := .string ⟨(num N m ++ [UInt8.ofNat (n % 256)]).toArray⟩) rfl (by kernel_rfl) (by kernel_rfl) (by kernel_rfl) (fun _ _ _ h => h) (Or.inl ⟨by rfl, fun w => by go_simp; first | done | (rw [if_neg (by rw [num_length]; omega)]; first | rfl | simp)⟩) ?_
      refine wpAny_take (i := 11) (oi := ⟨some 4, _, _, _, _, _⟩) (v := .string ⟨(num N m ++ [UInt8.ofNat (n % 256)]).toArray⟩) rfl (by kernel_rfl) (by kernel_rfl) (by kernel_rfl) (fun _ _ _ h => h) (Or.inl ⟨by rfl, fun w => by go_simp⟩) ?_
      refine wpAny_done (by kernel_rfl) ?_ _
      simp only [Act.put, List.setIfInBounds_toArray, List.set_cons_zero, List.set_cons_succ]
      go_simp
      go_wp2_with fail
      go_ret
      exact ⟨by rw [HK.out]; rfl, hBl⟩
    · skip
      rw [if_pos (by rfl)]
      refine wp_bsl1 _ rfl (UInt8.ofNat (n % 256)) rfl ?_
      intro wb hwb hsb hb
      refine hK _ _ ?_
      clear hK K hsb
      replace hBl := hBl.trans (hwb.mono hBl.size)
      clear hwb
      refine wpAny_ready (rs := [4, 9]) (by kernel_rfl) (by simp) ?_
      refine AllReady.cons (o := ⟨some 13, .call ⟨.value (.func 73), #[.tmp 10, .tmp 12], #[36, 3]⟩, _, _, _, _⟩) rfl (fun K hK => ?_) (AllReady.cons (o := ⟨some 18, .convert 171 9 (.tmp 17), _, _, _, _⟩) rfl (fun K hK => ?_) AllReady.nil)
      · skip
        rw [if_pos (by rfl)]
        go_simp
        refine (IH N _ hNl).mono ?_
        rintro e wc ⟨rfl, hwc⟩
        refine hK _ _ ?_
        clear hK K
        replace hb := hb.belowSize hwc
        replace hBl := hBl.trans (hwc.mono hBl.size)
        clear hwc
        refine wpAny_ready (rs := [9]) (by kernel_rfl) (by simp) ?_
        refine AllReady.cons (o := ⟨some 18, .convert 171 9 (.tmp 17), _, _, _, _⟩) rfl (fun K hK => ?_) AllReady.nil
        rw [if_pos (by rfl)]
        refine wp_bytesString _ _ _ rfl _ 1 1 rfl _ Tryz.underlying171 Tryz.underlying5 Tryz.underlying9 _ _ _ hb (Nat.le_refl _) ?_
        rw [show strF (fun _ => UInt8.ofNat (n % 256)) 1 = ⟨[UInt8.ofNat (n % 256)].toArray⟩ from rfl]
        refine hK _ _ ?_
        clear hK K hb
        try simp only [Act.put, List.setIfInBounds_toArray, List.set_cons_zero, List.set_cons_succ]
        refine wpAny_take (i := 10) (oi := ⟨some 19, _, _, _, _, _⟩) (v := .string ⟨(num N m ++ [UInt8.ofNat (n % 256)]).toArray⟩) rfl (by kernel_rfl) (by kernel_rfl) (by kernel_rfl) (fun _ _ _ h => h) (Or.inl ⟨by rfl, fun w => by go_simp; first | done | (rw [if_neg (by rw [num_length]; omega)]; first | rfl | simp)⟩) ?_
        refine wpAny_take (i := 11) (oi := ⟨some 4, _, _, _, _, _⟩) (v := .string ⟨(num N m ++ [UInt8.ofNat (n % 256)]).toArray⟩) rfl (by kernel_rfl) (by kernel_rfl) (by kernel_rfl) (fun _ _ _ h => h) (Or.inl ⟨by rfl, fun w => by go_simp⟩) ?_
        refine wpAny_done (by kernel_rfl) ?_ _
        simp only [Act.put, List.setIfInBounds_toArray, List.set_cons_zero, List.set_cons_succ]
        go_simp
        go_wp2_with fail
        go_ret
        exact ⟨by rw [HK.out]; rfl, hBl⟩
      · skip
        rw [if_pos (by rfl)]
        refine wp_bytesString _ _ _ rfl _ 1 1 rfl _ Tryz.underlying171 Tryz.underlying5 Tryz.underlying9 _ _ _ hb (Nat.le_refl _) ?_
        rw [show strF (fun _ => UInt8.ofNat (n % 256)) 1 = ⟨[UInt8.ofNat (n % 256)].toArray⟩ from rfl]
        refine hK _ _ ?_
        clear hK K hb
        refine wpAny_ready (rs := [4]) (by kernel_rfl) (by simp) ?_
        refine AllReady.cons (o := ⟨some 13, .call ⟨.value (.func 73), #[.tmp 10, .tmp 12], #[36, 3]⟩, _, _, _, _⟩) rfl (fun K hK => ?_) AllReady.nil
        rw [if_pos (by rfl)]
        go_simp
        refine (IH N _ hNl).mono ?_
        rintro e wc ⟨rfl, hwc⟩
        refine hK _ _ ?_
        clear hK K
        replace hBl := hBl.trans (hwc.mono hBl.size)
        clear hwc
        try simp only [Act.put, List.setIfInBounds_toArray, List.set_cons_zero, List.set_cons_succ]
        refine wpAny_take (i := 10) (oi := ⟨some 19, _, _, _, _, _⟩) (v := .string ⟨(num N m ++ [UInt8.ofNat (n % 256)]).toArray⟩) rfl (by kernel_rfl) (by kernel_rfl) (by kernel_rfl) (fun _ _ _ h => h) (Or.inl ⟨by rfl, fun w => by go_simp; first | done | (rw [if_neg (by rw [num_length]; omega)]; first | rfl | simp)⟩) ?_
        refine wpAny_take (i := 11) (oi := ⟨some 4, _, _, _, _, _⟩) (v := .string ⟨(num N m ++ [UInt8.ofNat (n % 256)]).toArray⟩) rfl (by kernel_rfl) (by kernel_rfl) (by kernel_rfl) (fun _ _ _ h => h) (Or.inl ⟨by rfl, fun w => by go_simp⟩) ?_
        refine wpAny_done (by kernel_rfl) ?_ _
        simp only [Act.put, List.setIfInBounds_toArray, List.set_cons_zero, List.set_cons_succ]
        go_simp
        go_wp2_with fail
        go_ret
        exact ⟨by rw [HK.out]; rfl, hBl⟩
  · go_enter Tryz.func73, Tryz.ntmps73
    go_wp2_with fail
    refine wp_region_any (by kernel_rfl) ?_
    change wpAny _ _ _ _ _ _ _ (World.drew _)
    have hBl : Below w.heap.size w w.drew := (Below.refl _ _).drew
    refine wpAny_take (i := 0) (oi := ⟨some 9, _, _, _, _, _⟩) (v := .int .u64 (n : Nat)) rfl (by kernel_rfl) (by kernel_rfl) (by kernel_rfl) (fun _ _ _ h => h) (Or.inl ⟨by rfl, fun w => by go_simp⟩) ?_
    refine wpAny_take (i := 1) (oi := ⟨some 10, _, _, _, _, _⟩) (v := .int .u64 (N : Nat)) rfl (by kernel_rfl) (by kernel_rfl) (by kernel_rfl) (fun _ _ _ h => h) (Or.inl ⟨by rfl, fun w => by go_simp; first | done | exact HN.out⟩) ?_
    refine wpAny_take (i := 2) (oi := ⟨some 11, _, _, _, _, _⟩) (v := .int .i64 8) rfl (by kernel_rfl) (by kernel_rfl) (by kernel_rfl) (fun _ _ _ h => h) (Or.inl ⟨by rfl, fun w => by go_simp⟩) ?_
    refine wpAny_take (i := 3) (oi := ⟨some 12, _, _, _, _, _⟩) (v := .int .i64 7) rfl (by kernel_rfl) (by kernel_rfl) (by kernel_rfl) (fun _ _ _ h => h) (Or.inl ⟨by rfl, fun w => by go_simp; rw [IntKind.wrap_i64]; omega⟩) ?_
    refine wpAny_take (i := 5) (oi := ⟨some 14, _, _, _, _, _⟩) (v := .int .u64 (n : Nat)) rfl (by kernel_rfl) (by kernel_rfl) (by kernel_rfl) (fun _ _ _ h => h) (Or.inl ⟨by rfl, fun w => by go_simp⟩) ?_
    refine wpAny_take (i := 6) (oi := ⟨some 15, _, _, _, _, _⟩) (v := .int .u64 ((n : Int) % 256)) rfl (by kernel_rfl) (by kernel_rfl) (by kernel_rfl) (fun _ _ _ h => h) (Or.inl ⟨by rfl, fun w => by go_simp; exact Int.tmod_eq_emod_of_nonneg (by omega)⟩) ?_
    refine wpAny_take (i := 7) (oi := ⟨some 16, _, _, _, _, _⟩) (v := .int .u8 (n8 (UInt8.ofNat (n % 256)))) rfl (by kernel_rfl) (by kernel_rfl) (by kernel_rfl) (fun _ _ _ h => h) (Or.inl ⟨by rfl, fun w => by go_simp; first | done | (rw [wrap_byte])⟩) ?_
    simp only [Act.put, List.setIfInBounds_toArray, List.set_cons_zero, List.set_cons_succ]
    refine wpAny_ready (rs := [4, 8]) (by kernel_rfl) (by simp) ?_
    refine AllReady.cons (o := ⟨some 13, .call ⟨.value (.func 73), #[.tmp 10, .tmp 12], #[36, 3]⟩, _, _, _, _⟩) rfl (fun K hK => ?_) (AllReady.cons (o := ⟨some 17, .buildSlice 171 1 #[(0, .tmp 16)], _, _, _, _⟩) rfl (fun K hK => ?_) AllReady.nil)
    · skip
      rw [if_pos (by rfl)]
      go_simp
      refine (IH N _ hNl).mono ?_
      rintro e wc ⟨rfl, hwc⟩
      refine hK _ _ ?_
      clear hK K
      replace hBl := hBl.trans (hwc.mono hBl.size)
      clear hwc
      refine wpAny_ready (rs := [8]) (by kernel_rfl) (by simp) ?_
      refine AllReady.cons (o := ⟨some 17, .buildSlice 171 1 #[(0, .tmp 16)], _, _, _, _⟩) rfl (fun K hK => ?_) AllReady.nil
      rw [if_pos (by rfl)]
      refine wp_bsl1 _ rfl (UInt8.ofNat (n % 256)) rfl ?_
      intro wb hwb hsb hb
      refine hK _ _ ?_
      clear hK K hsb
      replace hBl := hBl.trans (hwb.mono hBl.size)
      clear hwb
      refine wpAny_ready (rs := [9]) (by kernel_rfl) (by simp) ?_
      refine AllReady.cons (o := ⟨some 18, .convert 171 9 (.tmp 17), _, _, _, _⟩) rfl (fun K hK => ?_) AllReady.nil
      rw [if_pos (by rfl)]
      refine wp_bytesString _ _ _ rfl _ 1 1 rfl _ Tryz.underlying171 Tryz.underlying5 Tryz.underlying9 _ _ _ hb (Nat.le_refl _) ?_
      rw [show strF (fun _ => UInt8.ofNat (n % 256)) 1 = ⟨[UInt8.ofNat (n % 256)].toArray⟩ from rfl]
      refine hK _ _ ?_
      clear hK K hb
      try simp only [Act.put, List.setIfInBounds_toArray, List.set_cons_zero, List.set_cons_succ]
      refine wpAny_take (i := 10) (oi := ⟨some 19, _, _, _, _, _⟩) (v := .string ⟨(num N 7 ++ [UInt8.ofNat (n % 256)]).toArray⟩) rfl (by kernel_rfl) (by kernel_rfl) (by kernel_rfl) (fun _ _ _ h => h) (Or.inl ⟨by rfl, fun w => by go_simp; first | done | (rw [if_neg (by rw [num_length]; omega)]; first | rfl | simp)⟩) ?_
      refine wpAny_take (i := 11) (oi := ⟨some 4, _, _, _, _, _⟩) (v := .string ⟨(num N 7 ++ [UInt8.ofNat (n % 256)]).toArray⟩) rfl (by kernel_rfl) (by kernel_rfl) (by kernel_rfl) (fun _ _ _ h => h) (Or.inl ⟨by rfl, fun w => by go_simp⟩) ?_
      refine wpAny_done (by kernel_rfl) ?_ _
      simp only [Act.put, List.setIfInBounds_toArray, List.set_cons_zero, List.set_cons_succ]
      go_simp
      go_wp2_with fail
      go_ret
      exact ⟨by rw [HK.out]; rfl, hBl⟩
    · skip
      rw [if_pos (by rfl)]
      refine wp_bsl1 _ rfl (UInt8.ofNat (n % 256)) rfl ?_
      intro wb hwb hsb hb
      refine hK _ _ ?_
      clear hK K hsb
      replace hBl := hBl.trans (hwb.mono hBl.size)
      clear hwb
      refine wpAny_ready (rs := [4, 9]) (by kernel_rfl) (by simp) ?_
      refine AllReady.cons (o := ⟨some 13, .call ⟨.value (.func 73), #[.tmp 10, .tmp 12], #[36, 3]⟩, _, _, _, _⟩) rfl (fun K hK => ?_) (AllReady.cons (o := ⟨some 18, .convert 171 9 (.tmp 17), _, _, _, _⟩) rfl (fun K hK => ?_) AllReady.nil)
      · skip
        rw [if_pos (by rfl)]
        go_simp
        refine (IH N _ hNl).mono ?_
        rintro e wc ⟨rfl, hwc⟩
        refine hK _ _ ?_
        clear hK K
        replace hb := hb.belowSize hwc
        replace hBl := hBl.trans (hwc.mono hBl.size)
        clear hwc
        refine wpAny_ready (rs := [9]) (by kernel_rfl) (by simp) ?_
        refine AllReady.cons (o := ⟨some 18, .convert 171 9 (.tmp 17), _, _, _, _⟩) rfl (fun K hK => ?_) AllReady.nil
        rw [if_pos (by rfl)]
        refine wp_bytesString _ _ _ rfl _ 1 1 rfl _ Tryz.underlying171 Tryz.underlying5 Tryz.underlying9 _ _ _ hb (Nat.le_refl _) ?_
        rw [show strF (fun _ => UInt8.ofNat (n % 256)) 1 = ⟨[UInt8.ofNat (n % 256)].toArray⟩ from rfl]
        refine hK _ _ ?_
        clear hK K hb
        try simp only [Act.put, List.setIfInBounds_toArray, List.set_cons_zero, List.set_cons_succ]
        refine wpAny_take (i := 10) (oi := ⟨some 19, _, _, _, _, _⟩) (v := .string ⟨(num N 7 ++ [UInt8.ofNat (n % 256)]).toArray⟩) rfl (by kernel_rfl) (by kernel_rfl) (by kernel_rfl) (fun _ _ _ h => h) (Or.inl ⟨by rfl, fun w => by go_simp; first | done | (rw [if_neg (by rw [num_length]; omega)]; first | rfl | simp)⟩) ?_
        refine wpAny_take (i := 11) (oi := ⟨some 4, _, _, _, _, _⟩) (v := .string ⟨(num N 7 ++ [UInt8.ofNat (n % 256)]).toArray⟩) rfl (by kernel_rfl) (by kernel_rfl) (by kernel_rfl) (fun _ _ _ h => h) (Or.inl ⟨by rfl, fun w => by go_simp⟩) ?_
        refine wpAny_done (by kernel_rfl) ?_ _
        simp only [Act.put, List.setIfInBounds_toArray, List.set_cons_zero, List.set_cons_succ]
        go_simp
        go_wp2_with fail
        go_ret
        exact ⟨by rw [HK.out]; rfl, hBl⟩
      · skip
        rw [if_pos (by rfl)]
        refine wp_bytesString _ _ _ rfl _ 1 1 rfl _ Tryz.underlying171 Tryz.underlying5 Tryz.underlying9 _ _ _ hb (Nat.le_refl _) ?_
        rw [show strF (fun _ => UInt8.ofNat (n % 256)) 1 = ⟨[UInt8.ofNat (n % 256)].toArray⟩ from rfl]
        refine hK _ _ ?_
        clear hK K hb
        refine wpAny_ready (rs := [4]) (by kernel_rfl) (by simp) ?_
        refine AllReady.cons (o := ⟨some 13, .call ⟨.value (.func 73), #[.tmp 10, .tmp 12], #[36, 3]⟩, _, _, _, _⟩) rfl (fun K hK => ?_) AllReady.nil
        rw [if_pos (by rfl)]
        go_simp
        refine (IH N _ hNl).mono ?_
        rintro e wc ⟨rfl, hwc⟩
        refine hK _ _ ?_
        clear hK K
        replace hBl := hBl.trans (hwc.mono hBl.size)
        clear hwc
        try simp only [Act.put, List.setIfInBounds_toArray, List.set_cons_zero, List.set_cons_succ]
        refine wpAny_take (i := 10) (oi := ⟨some 19, _, _, _, _, _⟩) (v := .string ⟨(num N 7 ++ [UInt8.ofNat (n % 256)]).toArray⟩) rfl (by kernel_rfl) (by kernel_rfl) (by kernel_rfl) (fun _ _ _ h => h) (Or.inl ⟨by rfl, fun w => by go_simp; first | done | (rw [if_neg (by rw [num_length]; omega)]; first | rfl | simp)⟩) ?_
        refine wpAny_take (i := 11) (oi := ⟨some 4, _, _, _, _, _⟩) (v := .string ⟨(num N 7 ++ [UInt8.ofNat (n % 256)]).toArray⟩) rfl (by kernel_rfl) (by kernel_rfl) (by kernel_rfl) (fun _ _ _ h => h) (Or.inl ⟨by rfl, fun w => by go_simp⟩) ?_
        refine wpAny_done (by kernel_rfl) ?_ _
        simp only [Act.put, List.setIfInBounds_toArray, List.set_cons_zero, List.set_cons_succ]
        go_simp
        go_wp2_with fail
        go_ret
        exact ⟨by rw [HK.out]; rfl, hBl⟩
theorem rnum_zero (n : Nat) (k : Int) (w : World) (hk : k ≤ 0) :
    Calls Tryz.prog 73 #[.int .u64 n, .int .i64 k] w fun e w' => e = .returned (.string ⟨#[]⟩) ∧ w' = w := by
  go_enter Tryz.func73, Tryz.ntmps73
  go_wp2_with fail
  go_ret
  exact ⟨rfl, rfl⟩
theorem rnum_nat : ∀ (m : Nat), m ≤ 8 → ∀ (n : Nat) (w : World), n < 18446744073709551616 → Calls Tryz.prog 73 #[.int .u64 n, .int .i64 (m : Nat)] w fun e w' => e = .returned (.string ⟨(num n m).toArray⟩) ∧ Below w.heap.size w w'
  | 0, _, n, w, _ => (rnum_zero n (0 : Nat) w (by omega)).mono fun e w' ⟨h1, h2⟩ => by subst h2; exact ⟨h1, Below.refl _ _⟩
  | m + 1, hm, n, w, hn => by
    have := rnum_step n m ((m + 1 : Nat) : Int) w (by omega) (.inl (by omega)) hn (fun n w hn => rnum_nat m (by omega) n w hn)
    exact this
theorem rnum_any (n : Nat) (k : Int) (w : World) (hn : n < 18446744073709551616) :
    Calls Tryz.prog 73 #[.int .u64 n, .int .i64 k] w fun e w' => e = .returned (.string ⟨(num n (cut8 k)).toArray⟩) ∧ Below w.heap.size w w' := by
  by_cases h : k ≤ 0
  · rw [show cut8 k = 0 from by unfold cut8; omega]
    exact (rnum_zero n k w h).mono fun e w' ⟨h1, h2⟩ => by subst h2; exact ⟨h1, Below.refl _ _⟩
  · by_cases h8 : 8 < k
    · rw [show cut8 k = 7 + 1 from by unfold cut8; omega]
      exact rnum_step n 7 k w (by omega) (.inr ⟨h8, rfl⟩) hn (fun n w hn => rnum_nat 7 (by omega) n w hn)
    · obtain ⟨m, rfl⟩ : ∃ m : Nat, k = m := ⟨k.toNat, by omega⟩
      rw [cut8_nat m (by omega)]
      exact rnum_nat m (by omega) n w hn
end Go.Proofs.YtmbdhngoldganaaGreatDoor
namespace Go.Proofs.YtmbdhngoldganaaGreatDoor
open Go.RowKit
theorem mkApp2 (x y : List UInt8) : (ByteArray.mk x.toArray ++ ByteArray.mk y.toArray) = ByteArray.mk (x ++ y).toArray := ByteArray.mk_append_mk x y
theorem cut8_4 : cut8 4 = 4 := rfl
end Go.Proofs.YtmbdhngoldganaaGreatDoor
namespace Go.Proofs.YtmbdhngoldganaaGreatDoor
open Go.RowKit
theorem n32_nat (x : BitVec 32) : n32 x = (x.toNat : Int) := rfl
theorem n32_wrap64 (x : BitVec 32) : IntKind.u64.wrap (n32 x) = (x.toNat : Int) := by
  rw [IntKind.wrap_u64]; have := n32_nonneg x; have := n32_lt x; rw [← n32_nat]; omega
theorem n32_mod64 (x : BitVec 32) : n32 x % 18446744073709551616 = (x.toNat : Int) := by
  have := n32_nonneg x; have := n32_lt x; rw [← n32_nat]; omega
attribute [local go_sem] mkApp2 n32_wrap64 n32_mod64
end Go.Proofs.YtmbdhngoldganaaGreatDoor
namespace Go.Proofs.YtmbdhngoldganaaGreatDoor
open Go.RowKit
theorem i3 : (Tryz.prog.info? 3).map (·.size) = some 1 := by kernel_rfl
theorem i29 : (Tryz.prog.info? 31).map (·.size) = some 1 := by kernel_rfl
structure Draws (w w' : World) : Prop where
  out : ∃ n, w' = w.drewN n
theorem Draws.drewN {w w' : World} (h : Draws w w') (n : Nat) : Draws w (w'.drewN n) := by
  obtain ⟨m, rfl⟩ := h.out
  exact ⟨m + n, by simp [World.drewN, Nat.add_assoc]⟩
theorem Draws.grown {w w' : World} {row : Option Nat} (h : Draws w w') : w.grownBy w' row := by
  obtain ⟨n, rfl⟩ := h.out
  exact ⟨rfl, rfl, rfl, Nat.le_refl _, fun _ _ _ => rfl⟩
theorem Draws.below {w w' : World} {B : Nat} (h : Draws w w') : Below B w w' := by
  obtain ⟨n, rfl⟩ := h.out
  exact ⟨rfl, rfl, rfl, Nat.le_refl _, fun _ _ => rfl⟩
theorem Draws.blk {w w' : World} {b : Nat} {c : Array Value} {t : TypeId} (h : Draws w w') (k : Blk w b c t) : Blk w' b c t := by
  obtain ⟨n, rfl⟩ := h.out
  exact k.drewN n
theorem Draws.size {w w' : World} (h : Draws w w') : w'.heap.size = w.heap.size := by
  obtain ⟨n, rfl⟩ := h.out
  rfl
def rc (s : List UInt8) (pos : Nat) (err : Int) : Array Value := #[.string ⟨s.toArray⟩, .int .i64 (pos : Nat), .int .i64 err]
structure RD (w : World) (b : Nat) (r : R) : Prop where
  blk : Blk w b (rc r.s r.pos r.err) 157
theorem RD.c0 {w : World} {b : Nat} {s : List UInt8} {pos : Nat} {err : Int} (h : RD w b ⟨s, pos, err⟩) : w.cell? ⟨b, 0, none⟩ = some (.string ⟨s.toArray⟩) := (h.blk.cell 0).trans rfl
theorem RD.c1 {w : World} {b : Nat} {s : List UInt8} {pos : Nat} {err : Int} (h : RD w b ⟨s, pos, err⟩) : w.cell? ⟨b, 1, none⟩ = some (.int .i64 (pos : Nat)) := (h.blk.cell 1).trans rfl
theorem RD.c2 {w : World} {b : Nat} {s : List UInt8} {pos : Nat} {err : Int} (h : RD w b ⟨s, pos, err⟩) : w.cell? ⟨b, 2, none⟩ = some (.int .i64 err) := (h.blk.cell 2).trans rfl
theorem RD.drew {w w' : World} {b : Nat} {r : R} (h : RD w b r) (hd : Draws w w') : RD w' b r := ⟨hd.blk h.blk⟩
structure To (w w' : World) (b : Nat) (r : R) : Prop where
  grown : w.grownBy w' (some b)
  rd : RD w' b r
theorem To.trans {w w1 w2 : World} {b : Nat} {r r2 : R} (h : To w w1 b r) (k : To w1 w2 b r2) : To w w2 b r2 := ⟨grown_trans h.grown k.grown, k.rd⟩
theorem To.refl {w : World} {b : Nat} {r : R} (h : RD w b r) : To w w b r := ⟨grown_refl w _, h⟩
theorem To.draws {w w1 w2 : World} {b : Nat} {r : R} (h : To w w1 b r) (k : Draws w1 w2) : To w w2 b r := ⟨grown_trans h.grown k.grown, h.rd.drew k⟩
theorem To.of_draws {w w1 : World} {b : Nat} {r : R} (h : RD w b r) (k : Draws w w1) : To w w1 b r := (To.refl h).draws k
theorem err_any (b : Nat) (r : R) (w : World) (h : RD w b r) : Calls Tryz.prog 90 #[.pointer (some ⟨b, 0, none⟩)] w fun e w' => e = .returned (.int .i64 r.err) ∧ w' = w := by
  obtain ⟨s, pos, err⟩ := r
  have c2 := h.c2
  go_enter Tryz.func90, Tryz.ntmps90
  go_wp2_with fail
  go_ret
  exact ⟨rfl, rfl⟩
set_option maxHeartbeats 400000 in
theorem left_any (b : Nat) (r : R) (w : World) (h : RD w b r) (hk : r.pos ≤ r.s.length) (hl : r.s.length ≤ 140737488355328) : Calls Tryz.prog 95 #[.pointer (some ⟨b, 0, none⟩)] w fun e w' => e = .returned (.int .i64 ((r.s.length : Int) - (r.pos : Nat))) ∧ Draws w w' := by
  obtain ⟨s, pos, err⟩ := r
  have c0 := h.c0
  have c1 := h.c1
  replace hk : pos ≤ s.length := hk
  replace hl : s.length ≤ 140737488355328 := hl
  go_enter Tryz.func95, Tryz.ntmps95
  go_wp2_with fail
  go_quiet (fail)
  go_wp2_with fail
  go_ret
  exact ⟨rfl, ⟨_, rfl⟩⟩
set_option maxHeartbeats 400000 in
theorem fail_any (b : Nat) (r : R) (x : Int) (w : World) (h : RD w b r) : Calls Tryz.prog 92 #[.pointer (some ⟨b, 0, none⟩), .int .i64 x] w fun e w' => e = .returned (.tuple #[]) ∧ To w w' b (r.fail x) := by
  obtain ⟨s, pos, err⟩ := r
  have c2 := h.c2
  by_cases he : err = 0
  · subst he
    go_enter Tryz.func92, Tryz.ntmps92
    go_wp2_with (with_reducible refine at_list ?_; refine wpList_storeCell rfl _ _ _ rfl b 2 rfl (.int .i64 x) rfl _ _ h.blk i29 rfl rfl (by simp [rc]) ?_; intro w1 hg1 hs1 hb1)
    refine bodyPost_end (results_none rfl _ _ _) rfl ⟨rfl, hg1, ⟨hb1⟩⟩
  · have hd : decide (err = 0) = false := decide_eq_false he
    go_enter Tryz.func92, Tryz.ntmps92
    go_wp2_with fail
    refine bodyPost_end (results_none rfl _ _ _) rfl ⟨rfl, ?_⟩
    rw [show R.fail ⟨s, pos, err⟩ x = ⟨s, pos, err⟩ from if_neg he]
    exact To.refl h
end Go.Proofs.YtmbdhngoldganaaGreatDoor
namespace Go.Proofs.YtmbdhngoldganaaGreatDoor
open Go.RowKit
theorem extract_mid (l : List UInt8) (n m : Nat) : (ByteArray.mk l.toArray).extract n (n + m) = ⟨((l.drop n).take m).toArray⟩ := by
  have : ((ByteArray.mk l.toArray).extract n (n + m)).data = ((l.drop n).take m).toArray := by
    apply Array.ext'
    simp [ByteArray.extract, ByteArray.copySlice]
  rw [show (ByteArray.mk l.toArray).extract n (n + m) = ⟨((ByteArray.mk l.toArray).extract n (n + m)).data⟩ from rfl, this]
set_option maxRecDepth 100000 in
set_option maxHeartbeats 400000 in
theorem bytes_err (b : Nat) (r : R) (n : Int) (w : World) (h : RD w b r) (hk : r.pos ≤ r.s.length) (hl : r.s.length ≤ 140737488355328) (he : r.err ≠ 0) :
    Calls Tryz.prog 88 #[.pointer (some ⟨b, 0, none⟩), .int .i64 n] w fun e w' => e = .returned (.string ⟨#[]⟩) ∧ To w w' b r := by
  have HF : ∀ x w, RD w b r → Calls Tryz.prog 92 #[.pointer (some ⟨b, 0, none⟩), .int .i64 x] w fun e w' => e = .returned (.tuple #[]) ∧ To w w' b r := fun x w h => by
    have := fail_any b r x w h
    rw [show r.fail x = r from if_neg he] at this
    exact this
  have hne : (r.err != 0) = true := by simpa using he
  have hd0 : decide (r.err = 0) = false := decide_eq_false he
  by_cases h0 : n < 0
  · have hlt : decide ((r.s.length : Int) - (r.pos : Nat) < n) = false := decide_eq_false (by omega)
    go_enter Tryz.func88, Tryz.ntmps88
    go_wp2_with (first
      | (go_at_call 92; refine (HF _ _ h).mono ?_; rintro e w1 ⟨rfl, hT⟩)
      | (go_at_call 95; refine (left_any b r _ hT.rd hk hl).mono ?_; rintro e w2 ⟨rfl, hD⟩)
      | (go_at_call 90; refine (err_any b r _ (hT.draws hD).rd).mono ?_; rintro e w' ⟨rfl, hw'⟩; have hw2 := hw'.symm; subst hw2; clear hw'))
    go_ret
    exact ⟨rfl, hT.draws hD⟩
  · have h1 : decide (n < 0) = false := decide_eq_false h0
    by_cases hlt : (r.s.length : Int) - (r.pos : Nat) < n
    · have hlt : decide ((r.s.length : Int) - (r.pos : Nat) < n) = true := decide_eq_true hlt
      go_enter Tryz.func88, Tryz.ntmps88
      go_wp2_with (first
        | (go_at_call 95; refine (left_any b r _ h hk hl).mono ?_; rintro e w2 ⟨rfl, hD⟩)
        | (go_at_call 92; refine (HF _ _ (h.drew hD)).mono ?_; rintro e w1 ⟨rfl, hT⟩)
        | (go_at_call 90; refine (err_any b r _ hT.rd).mono ?_; rintro e w' ⟨rfl, hw'⟩; have hw2 := hw'.symm; subst hw2; clear hw'))
      go_ret
      exact ⟨rfl, (To.of_draws h hD).trans hT⟩
    · have hlt : decide ((r.s.length : Int) - (r.pos : Nat) < n) = false := decide_eq_false hlt
      go_enter Tryz.func88, Tryz.ntmps88
      go_wp2_with (first
        | (go_at_call 95; refine (left_any b r _ h hk hl).mono ?_; rintro e w2 ⟨rfl, hD⟩)
        | (go_at_call 90; refine (err_any b r _ (h.drew hD)).mono ?_; rintro e w' ⟨rfl, hw'⟩; have hw2 := hw'.symm; subst hw2; clear hw'))
      go_ret
      exact ⟨rfl, To.of_draws h hD⟩
attribute [local go_sem] extract_mid
set_option maxRecDepth 100000 in
set_option maxHeartbeats 400000 in
theorem bytes_neg (b : Nat) (s : List UInt8) (pos : Nat) (n : Int) (w : World) (h : RD w b ⟨s, pos, 0⟩) (hk : pos ≤ s.length) (hl : s.length ≤ 140737488355328) (h0 : n < 0) :
    Calls Tryz.prog 88 #[.pointer (some ⟨b, 0, none⟩), .int .i64 n] w fun e w' => e = .returned (.string ⟨#[]⟩) ∧ To w w' b ⟨s, pos, 1⟩ := by
  have hlt : decide ((s.length : Int) - (pos : Nat) < n) = false := decide_eq_false (by omega)
  go_enter Tryz.func88, Tryz.ntmps88
  go_wp2_with (first
    | (go_at_call 92; refine (fail_any b ⟨s, pos, 0⟩ 1 _ h).mono ?_; rintro e w1 ⟨rfl, hT⟩; replace hT : To w w1 b ⟨s, pos, 1⟩ := hT)
    | (go_at_call 95; refine (left_any b ⟨s, pos, 1⟩ _ hT.rd hk hl).mono ?_; rintro e w2 ⟨rfl, hD⟩)
    | (go_at_call 90; refine (err_any b ⟨s, pos, 1⟩ _ (hT.draws hD).rd).mono ?_; rintro e w' ⟨rfl, hw'⟩; have hw2 := hw'.symm; subst hw2; clear hw'))
  go_ret
  exact ⟨rfl, hT.draws hD⟩
set_option maxRecDepth 100000 in
set_option maxHeartbeats 400000 in
theorem bytes_cut (b : Nat) (s : List UInt8) (pos : Nat) (n : Int) (w : World) (h : RD w b ⟨s, pos, 0⟩) (hk : pos ≤ s.length) (hl : s.length ≤ 140737488355328) (h0 : ¬ n < 0) (h1 : (s.length : Int) - (pos : Nat) < n) :
    Calls Tryz.prog 88 #[.pointer (some ⟨b, 0, none⟩), .int .i64 n] w fun e w' => e = .returned (.string ⟨#[]⟩) ∧ To w w' b ⟨s, pos, 4⟩ := by
  have hlt : decide ((s.length : Int) - (pos : Nat) < n) = true := decide_eq_true h1
  have hd0 : decide (n < 0) = false := decide_eq_false h0
  go_enter Tryz.func88, Tryz.ntmps88
  go_wp2_with (first
    | (go_at_call 95; refine (left_any b ⟨s, pos, 0⟩ _ h hk hl).mono ?_; rintro e w2 ⟨rfl, hD⟩)
    | (go_at_call 92; refine (fail_any b ⟨s, pos, 0⟩ 4 _ (h.drew hD)).mono ?_; rintro e w1 ⟨rfl, hT⟩; replace hT : To w2 w1 b ⟨s, pos, 4⟩ := hT)
    | (go_at_call 90; refine (err_any b ⟨s, pos, 4⟩ _ hT.rd).mono ?_; rintro e w' ⟨rfl, hw'⟩; have hw2 := hw'.symm; subst hw2; clear hw'))
  go_ret
  exact ⟨rfl, (To.of_draws h hD).trans hT⟩
set_option maxRecDepth 100000 in
set_option maxHeartbeats 400000 in
theorem bytes_yes (b : Nat) (s : List UInt8) (pos n : Nat) (w : World) (h : RD w b ⟨s, pos, 0⟩) (hl : s.length ≤ 140737488355328) (h1 : pos + n ≤ s.length) :
    Calls Tryz.prog 88 #[.pointer (some ⟨b, 0, none⟩), .int .i64 (n : Nat)] w fun e w' => e = .returned (.string ⟨((s.drop pos).take n).toArray⟩) ∧ To w w' b ⟨s, pos + n, 0⟩ := by
  have hlt : decide ((s.length : Int) - (pos : Nat) < (n : Int)) = false := decide_eq_false (by omega)
  have hd0 : decide ((n : Int) < 0) = false := decide_eq_false (by omega)
  go_enter Tryz.func88, Tryz.ntmps88
  go_wp2_with (first
    | (go_at_call 95; refine (left_any b ⟨s, pos, 0⟩ _ h (by show pos ≤ s.length; omega) hl).mono ?_; rintro e w2 ⟨rfl, hD⟩; have c1 := (h.drew hD).c1)
    | (go_at_call 90; refine (err_any b ⟨s, pos, 0⟩ _ (h.drew hD)).mono ?_; rintro e w' ⟨rfl, hw'⟩; have hw2 := hw'.symm; subst hw2; clear hw')
    | (with_reducible refine at_list ?_; go_simp; refine wpList_storeCell rfl _ _ _ rfl b 1 rfl (.int .i64 ((pos : Int) + (n : Int))) rfl _ _ (h.drew hD).blk i3 rfl rfl (by simp [rc]) ?_; intro w3 hg3 hs3 hb3; clear c1))
  have hR : RD w3 b ⟨s, pos + n, 0⟩ := ⟨by
    have : rc s (pos + n) 0 = (rc s pos 0).setIfInBounds 1 (.int .i64 ((pos : Int) + (n : Int))) := by simp [rc]
    show Blk w3 b (rc s (pos + n) 0) 157
    rw [this]; exact hb3⟩
  have hT : To w w3 b ⟨s, pos + n, 0⟩ := ⟨grown_trans hD.grown hg3, hR⟩
  clear hb3 hg3 hs3
  have c0 := hR.c0
  have c1 := hR.c1
  go_wp2_with fail
  go_quiet (fail)
  go_wp2_with fail
  go_ret
  refine ⟨?_, hT.draws ⟨_, rfl⟩⟩
  rw [← extract_mid]
  rfl
theorem bytes_any (b : Nat) (r : R) (n : Int) (w : World) (h : RD w b r) (hk : r.ok) (hl : r.s.length ≤ 140737488355328) :
    Calls Tryz.prog 88 #[.pointer (some ⟨b, 0, none⟩), .int .i64 n] w fun e w' => e = .returned (.string ⟨(r.bytes n).2.toArray⟩) ∧ To w w' b (r.bytes n).1 := by
  by_cases he : r.err = 0
  · obtain ⟨s, pos, err⟩ := r
    have he : err = 0 := he
    subst he
    unfold R.bytes
    rw [if_neg (by simp)]
    by_cases h0 : n < 0
    · rw [if_pos h0]; exact bytes_neg b s pos n w h hk hl h0
    · rw [if_neg h0]
      by_cases h1 : (s.length : Int) - (pos : Nat) < n
      · rw [if_pos h1]; exact bytes_cut b s pos n w h hk hl h0 h1
      · rw [if_neg h1]
        obtain ⟨m, rfl⟩ : ∃ m : Nat, n = m := ⟨n.toNat, by omega⟩
        exact bytes_yes b s pos m w h hl (by omega)
  · have e : r.bytes n = (r, []) := by unfold R.bytes; rw [if_pos he]
    rw [e]
    exact bytes_err b r n w h hk hl he
end Go.Proofs.YtmbdhngoldganaaGreatDoor
namespace Go.Proofs.YtmbdhngoldganaaGreatDoor
open Go.RowKit
set_option maxRecDepth 100000 in
set_option maxHeartbeats 400000 in
theorem number_r (b : Nat) (r : R) (k : Int) (w : World) (h : RD w b r) (hk : r.ok) (hl : r.s.length ≤ 140737488355328) :
    Calls Tryz.prog 41 #[.pointer (some ⟨b, 0, none⟩), .int .i64 k] w fun e w' => e = .returned (.int .u64 (r.number k).2) ∧ To w w' b (r.number k).1 := by
  have hk8 := r.early_len k
  have HB := fun w (h : RD w b (r.early k)) => bytes_any b (r.early k) k w h (R.ok_early hk k) (by rw [R.early_s]; exact hl)
  have HV := fun w => value_any ((r.early k).bytes k).2 w hk8
  have HN : Hid (r.number k = (((r.early k).bytes k).1, val ((r.early k).bytes k).2)) := by exact rfl
  rw [HN.out]
  clear HN hk8
  by_cases h8 : 8 < k
  · have HF := fail_any b r 1 w h
    rw [show r.fail 1 = r.early k from by unfold R.fail R.early; by_cases he : r.err = 0 <;> simp [he, h8]] at HF
    generalize r.early k = q at *
    generalize (q.bytes k).2 = v at *
    generalize (q.bytes k).1 = u at *
    generalize val v = z at *
    go_enter Tryz.func41, Tryz.ntmps41
    go_wp2_with (first
      | (go_at_call 92; refine HF.mono ?_; rintro e w1 ⟨rfl, hT⟩)
      | (go_at_call 88; refine (HB _ hT.rd).mono ?_; rintro e w2 ⟨rfl, hU⟩)
      | (go_at_call 94; refine (HV _).mono ?_; rintro e w' ⟨rfl, hw'⟩; have hw2 := hw'.symm; subst hw2; clear hw'))
    go_ret
    exact ⟨rfl, hT.trans hU⟩
  · have hd : decide (8 < k) = false := decide_eq_false h8
    rw [show r.early k = r from if_neg (fun x => h8 x.2)] at HB HV ⊢
    generalize (r.bytes k).2 = v at *
    generalize (r.bytes k).1 = u at *
    generalize val v = z at *
    go_enter Tryz.func41, Tryz.ntmps41
    go_wp2_with (first
      | (go_at_call 88; refine (HB _ h).mono ?_; rintro e w2 ⟨rfl, hU⟩)
      | (go_at_call 94; refine (HV _).mono ?_; rintro e w' ⟨rfl, hw'⟩; have hw2 := hw'.symm; subst hw2; clear hw'))
    go_ret
    exact ⟨rfl, hU⟩
theorem wrap_u64_nat (m : Nat) (h : m < 18446744073709551616) : IntKind.u64.wrap (m : Int) = (m : Int) := by rw [IntKind.wrap_u64]; omega
theorem hash_any (b : Nat) (r : R) (w : World) (h : RD w b r) (hk : r.ok) (hl : r.s.length ≤ 140737488355328) :
    Calls Tryz.prog 42 #[.pointer (some ⟨b, 0, none⟩)] w fun e w' => e = .returned (.string ⟨(r.bytes 32).2.toArray⟩) ∧ To w w' b (r.bytes 32).1 := by
  have HB := bytes_any b r 32 w h hk hl
  generalize (r.bytes 32).2 = t at *
  generalize (r.bytes 32).1 = u at *
  go_enter Tryz.func42, Tryz.ntmps42
  go_wp2_with (go_at_call 88; refine HB.mono ?_; rintro e w2 ⟨rfl, hU⟩)
  go_ret
  exact ⟨rfl, hU⟩
end Go.Proofs.YtmbdhngoldganaaGreatDoor
