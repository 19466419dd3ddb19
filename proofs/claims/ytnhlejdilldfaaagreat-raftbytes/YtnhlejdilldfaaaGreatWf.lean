/- What the plain Number does. What Frame, the plain Frame, and WireNumbers do. What Frame and the plain Frame do. -/
import Derived.Test.YtnhlejdilldfaaaGreatWc
namespace Go.Proofs.YtnhlejdilldfaaaGreat
open Go.RowKit
theorem range1 : Array.range 1 = #[0] := by decide
theorem bsl1 (z : Int) (w : World) : (Instr.buildSlice 76 1 #[(0, .int .u8 z)]).run Tryz.prog w = .ok (.slice (some ⟨w.heap.size, 0, none⟩) 1 1) (w.alloc (.cells #[.int .u8 z] 5)) := by
  simp [Instr.buildSlice, run_underlying Tryz.underlying76, sizeOf_run i5, Sem.run_bind, Instr.fill, newRow, Tryz.zeroValue5, Value.cells, range1]
section
variable {op : Oper} {a : Act} {w : World} {K : Act → World → Prop} {Q : Exit → Act → World → Prop}
theorem wp_run {P : Program} (v : Value) (w1 : World) (hr : (execOp a.eval op).run P w = .ok (.value v) w1) (h : K (a.put op.dst v) w1) : op.wp P a w K Q := by
  unfold Oper.wp; rw [hr]; exact h
theorem wp_bsl1 (x : Operand) (ho : op.op = .buildSlice 76 1 #[(0, x)]) (v : UInt8) (hx : a.eval x = .int .u8 (n8 v))
    (h : ∀ w1 : World, Below w.heap.size w w1 → w1.heap.size = w.heap.size + 1 → Blk w1 w.heap.size (row8 (fun _ => v) 1) 5 → K (a.put op.dst (.slice (some ⟨w.heap.size, 0, none⟩) 1 1)) w1) : op.wp Tryz.prog a w K Q := by
  refine wp_run _ _ ?_ (h _ ((Below.refl _ _).alloc (Nat.le_refl _) _) (by simp) (Blk.new _ _ _))
  unfold execOp
  have e : (#[(0, x)] : Array (Nat × Operand)).map (fun (i, x) => (i, a.eval x)) = #[(0, .int .u8 (n8 v))] := by simp [hx]
  have hr := bsl1 (n8 v) w
  rw [← e] at hr
  simp only [ho, Sem.run_bind, hr, Result.andThen_ok]
  rfl
theorem wp_bytesString {P : Program} (src dst : TypeId) (x : Operand) (ho : op.op = .convert src dst x) (b n cap : Nat) (hx : a.eval x = .slice (some ⟨b, 0, none⟩) n cap)
    (e : TypeId) (hs : P.underlying src = some (.slice e)) (he : P.underlying e = some (.int .u8)) (hd : P.underlying dst = some .string)
    (f : Nat → UInt8) (m : Nat) (t : TypeId) (hb : Blk w b (row8 f m) t) (hn : n ≤ m)
    (h : K (a.put op.dst (.string (strF f n))) w) : op.wp P a w K Q := by
  refine wp_run _ w ?_ h
  have hr := run_bytesToString (P := P) w ⟨b, 0, none⟩ n cap ((List.range n).map fun j => n8 (f j)) (hb.loadBytes hn)
  rw [foldl_push] at hr
  have e2 : ((((List.range n).map fun j => n8 (f j)).map fun k => UInt8.ofNat k.toNat)) = (List.range n).map f := by
    rw [List.map_map]; congr 1; funext j; exact ofNat_n8 (f j)
  rw [e2] at hr
  unfold execOp
  simp only [ho, hx, Sem.run_bind, run_convert_bytes_string w src dst e _ _ _ hs he hd, hr, Result.andThen_ok]
  show Result.ok (Next.value (.string ⟨ByteArray.empty.data ++ _⟩)) w = _
  rw [show ByteArray.empty.data = #[] from rfl, Array.empty_append]
  rfl
end
theorem cut8_nat (m : Nat) (h : m ≤ 8) : cut8 (m : Int) = m := by unfold cut8; omega
theorem wrap_byte (n : Nat) : IntKind.u8.wrap ((n : Int) % 256) = n8 (UInt8.ofNat (n % 256)) := by
  rw [IntKind.wrap_u8', byte_mod]
  have := n8_nonneg (UInt8.ofNat (n % 256)); have := n8_le (UInt8.ofNat (n % 256)); omega
set_option maxRecDepth 100000 in
set_option maxHeartbeats 1000000 in
theorem rnum_step (n m : Nat) (k : Int) (w : World) (hm : m < 8) (hk : k = m + 1 ∨ (8 < k ∧ m = 7)) (hn : n < 18446744073709551616)
    (IH : ∀ (n : Nat) (w : World), n < 18446744073709551616 → Calls Tryz.prog 44 #[.int .u64 n, .int .i64 (m : Nat)] w fun e w' => e = .returned (.string ⟨(num n m).toArray⟩) ∧ Below w.heap.size w w') :
    Calls Tryz.prog 44 #[.int .u64 n, .int .i64 k] w fun e w' => e = .returned (.string ⟨(num n (m + 1)).toArray⟩) ∧ Below w.heap.size w w' := by
  obtain ⟨N, hN⟩ : ∃ N, N = n / 256 := ⟨_, rfl⟩
  have HK : Hid (num n (m + 1) = num N m ++ [UInt8.ofNat (n % 256)]) := by rw [num, hN]; exact rfl
  have hN2 : IntKind.u64.wrap ((n : Int) / 256) = (N : Int) := by rw [IntKind.wrap_u64]; omega
  have HN : Hid (IntKind.u64.wrap ((n : Int) / 256) = (N : Int)) := hN2
  have hNl : N < 18446744073709551616 := by omega
  clear hN hN2
  rcases hk with rfl | ⟨h8, rfl⟩
  · have h8 : decide ((8 : Int) < (m : Int) + 1) = false := by simp; omega
    go_enter Tryz.func44, Tryz.ntmps44
    go_wp2_with fail
    refine wp_region_any (by kernel_rfl) ?_
    change wpAny _ _ _ _ _ _ _ (World.drew _)
    have hBl : Below w.heap.size w w.drew := (Below.refl _ _).drew
    refine wpAny_take (i := 0) (oi := ⟨some 9, _, _, _, _, _⟩) (v := .int .u64 (n : Nat)) rfl (by kernel_rfl) (by kernel_rfl) (by kernel_rfl) (fun _ _ _ h => h) (Or.inl ⟨by rfl, fun w => by go_simp⟩) ?_
    refine wpAny_take (i := 1) (oi := ⟨some 10, _, _, _, _, _⟩) (v := .int .u64 (N : Nat)) rfl (by kernel_rfl) (by kernel_rfl) (by kernel_rfl) (fun _ _ _ h => h) (Or.inl ⟨by rfl, fun w => by go_simp; first | done | exact HN.out⟩) ?_
    refine wpAny_take (i := 2) (oi := ⟨some 11, _, _, _, _, _⟩) (v := .int .i64 ((m : Int) + 1)) rfl (by kernel_rfl) (by kernel_rfl) (by kernel_rfl) (fun _ _ _ h => h) (Or.inl ⟨by rfl, fun w => by go_simp⟩) ?_
    refine wpAny_take (i := 3) (oi := ⟨some 12, _, _, _, _, _⟩) (v := .int .i64 (m : Nat)) rfl (by kernel_rfl) (by kernel_rfl) (by kernel_rfl) (fun _ _ _ h => h) (Or.inl ⟨by rfl, fun w => by go_simp; rw [IntKind.wrap_i64]; omega⟩) ?_
    refine wpAny_take (i := 5) (oi := ⟨some 14, _, _, _, _, _⟩) (v := .int .u64 (n : Nat)) rfl (by kernel_rfl) (by kernel_rfl) (by kernel_rfl) (fun _ _ _ h => h) (Or.inl ⟨by rfl, fun w => by go_simp⟩) ?_
    refine wpAny_take (i := 6) (oi := ⟨some 15, _, _, _, _, _⟩) (v := .int .u64 ((n : Int) % 256)) rfl (by kernel_rfl) (by kernel_rfl) (by kernel_rfl) (fun _ _ _ h => h) (Or.inl ⟨by rfl, fun w => by go_simp; exact Int.tmod_eq_emod_of_nonneg (by omega)⟩) ?_
    refine wpAny_take (i := 7) (oi := ⟨some 16, _, _, _, _, _⟩) (v := .int .u8 (n8 (UInt8.ofNat (n % 256)))) rfl (by kernel_rfl) (by kernel_rfl) (by kernel_rfl) (fun _ _ _ h => h) (Or.inl ⟨by rfl, fun w => by go_simp; first | done | (rw [wrap_byte])⟩) ?_
    simp only [Act.put, List.setIfInBounds_toArray, List.set_cons_zero, List.set_cons_succ]
    refine wpAny_ready (rs := [4, 8]) (by kernel_rfl) (by simp) ?_
    refine AllReady.cons (o := ⟨some 13, .call ⟨.value (.func 44), #[.tmp 10, .tmp 12], #[86, 3]⟩, _, _, _, _⟩) rfl (fun K hK => ?_) (AllReady.cons (o := ⟨some 17, .buildSlice 76 1 #[(0, .tmp 16)], _, _, _, _⟩) rfl (fun K hK => ?_) AllReady.nil)
    · skip
      rw [if_pos (by rfl)]
      go_simp
      refine (IH N _ hNl).mono ?_
      rintro e wc ⟨rfl, hwc⟩
      refine hK _ _ ?_
      clear hK K
      replace hBl := hBl.trans (hwc.mono hBl.size)
      clear hwc
      refine wpAny_ready (rs := [8]) (by kernel_rfl) (by simp) ?_
      refine AllReady.cons (o := ⟨some 17, .buildSlice 76 1 #[(0, .tmp 16)], _, _, _, _⟩) rfl (fun K hK => ?_) AllReady.nil
      rw [if_pos (by rfl)]
      refine wp_bsl1 _ rfl (UInt8.ofNat (n % 256)) rfl ?_
      intro wb hwb hsb hb
      refine hK _ _ ?_
      clear hK K hsb
      replace hBl := hBl.trans (hwb.mono hBl.size)
      clear hwb
      refine wpAny_ready (rs := [9]) (by kernel_rfl) (by simp) ?_
      refine AllReady.cons (o := ⟨some 18, .convert 76 9 (.tmp 17), _, _, _, _⟩) rfl (fun K hK => ?_) AllReady.nil
      rw [if_pos (by rfl)]
      refine wp_bytesString _ _ _ rfl _ 1 1 rfl _ Tryz.underlying76 Tryz.underlying5 Tryz.underlying9 _ _ _ hb (Nat.le_refl _) ?_
      rw [show strF (fun _ => UInt8.ofNat (n % 256)) 1 = ⟨[UInt8.ofNat (n % 256)].toArray⟩ from rfl]
      refine hK _ _ ?_
      clear hK K hb
      try simp only [Act.put, List.setIfInBounds_toArray, List.set_cons_zero, List.set_cons_succ]
      refine wpAny_take (i := 10) (oi := ⟨some 19, _, _, _, _, _⟩) (v := .string ⟨(num N m ++ [UInt8.ofNat (n % 256)]).toArray⟩) rfl (by kernel_rfl) (by kernel_rfl) (by kernel_rfl) (fun _ _ _ h => h) (Or.inl ⟨by rfl, fun w => by go_simp; first | done | (rw [if_neg (by rw [num_length]; omega)]; first | rfl | simp)⟩) ?_
      refine wpAny_take (i := 11) (oi := ⟨some 4, _, _, _, _, _⟩) (v := .string ⟨(num N m ++ [UInt8.ofNat (n % 256)]).toArray⟩) rfl (by kernel_rfl) (by kernel_rfl) (by kernel_rfl) (fun _ _ _ h => h) (Or.inl ⟨by rfl, fun w => by go_simp⟩) ?_
      refine wpAny_done (by kernel_rfl) ?_ _
      simp only [Act.put, List.setIfInBounds_toArray, List.set_cons_zero, List.set_cons_succ]
      go_simp
      go_wp2_with fail
      go_ret
      exact ⟨by rw [HK.out]; rfl, hBl⟩
    · skip
      rw [if_pos (by rfl)]
      refine wp_bsl1 _ rfl (UInt8.ofNat (n % 256)) rfl ?_
      intro wb hwb hsb hb
      refine hK _ _ ?_
      clear hK K hsb
      replace hBl := hBl.trans (hwb.mono hBl.size)
      clear hwb
      refine wpAny_ready (rs := [4, 9]) (by kernel_rfl) (by simp) ?_
      refine AllReady.cons (o := ⟨some 13, .call ⟨.value (.func 44), #[.tmp 10, .tmp 12], #[86, 3]⟩, _, _, _, _⟩) rfl (fun K hK => ?_) (AllReady.cons (o := ⟨some 18, .convert 76 9 (.tmp 17), _, _, _, _⟩) rfl (fun K hK => ?_) AllReady.nil)
      · skip
        rw [if_pos (by rfl)]
        go_simp
        refine (IH N _ hNl).mono ?_
        rintro e wc ⟨rfl, hwc⟩
        refine hK _ _ ?_
        clear hK K
        replace hb := hb.belowSize hwc
        replace hBl := hBl.trans (hwc.mono hBl.size)
        clear hwc
        refine wpAny_ready (rs := [9]) (by kernel_rfl) (by simp) ?_
        refine AllReady.cons (o := ⟨some 18, .convert 76 9 (.tmp 17), _, _, _, _⟩) rfl (fun K hK => ?_) AllReady.nil
        rw [if_pos (by rfl)]
        refine wp_bytesString _ _ _ rfl _ 1 1 rfl _ Tryz.underlying76 Tryz.underlying5 Tryz.underlying9 _ _ _ hb (Nat.le_refl _) ?_
        rw [show strF (fun _ => UInt8.ofNat (n % 256)) 1 = ⟨[UInt8.ofNat (n % 256)].toArray⟩ from rfl]
        refine hK _ _ ?_
        clear hK K hb
        try simp only [Act.put, List.setIfInBounds_toArray, List.set_cons_zero, List.set_cons_succ]
        refine wpAny_take (i := 10) (oi := ⟨some 19, _, _, _, _, _⟩) (v := .string ⟨(num N m ++ [UInt8.ofNat (n % 256)]).toArray⟩) rfl (by kernel_rfl) (by kernel_rfl) (by kernel_rfl) (fun _ _ _ h => h) (Or.inl ⟨by rfl, fun w => by go_simp; first | done | (rw [if_neg (by rw [num_length]; omega)]; first | rfl | simp)⟩) ?_
        refine wpAny_take (i := 11) (oi := ⟨some 4, _, _, _, _, _⟩) (v := .string ⟨(num N m ++ [UInt8.ofNat (n % 256)]).toArray⟩) rfl (by kernel_rfl) (by kernel_rfl) (by kernel_rfl) (fun _ _ _ h => h) (Or.inl ⟨by rfl, fun w => by go_simp⟩) ?_
        refine wpAny_done (by kernel_rfl) ?_ _
        simp only [Act.put, List.setIfInBounds_toArray, List.set_cons_zero, List.set_cons_succ]
        go_simp
        go_wp2_with fail
        go_ret
        exact ⟨by rw [HK.out]; rfl, hBl⟩
      · skip
        rw [if_pos (by rfl)]
        refine wp_bytesString _ _ _ rfl _ 1 1 rfl _ Tryz.underlying76 Tryz.underlying5 Tryz.underlying9 _ _ _ hb (Nat.le_refl _) ?_
        rw [show strF (fun _ => UInt8.ofNat (n % 256)) 1 = ⟨[UInt8.ofNat (n % 256)].toArray⟩ from rfl]
        refine hK _ _ ?_
        clear hK K hb
        refine wpAny_ready (rs := [4]) (by kernel_rfl) (by simp) ?_
        refine AllReady.cons (o := ⟨some 13, .call ⟨.value (.func 44), #[.tmp 10, .tmp 12], #[86, 3]⟩, _, _, _, _⟩) rfl (fun K hK => ?_) AllReady.nil
        rw [if_pos (by rfl)]
        go_simp
        refine (IH N _ hNl).mono ?_
        rintro e wc ⟨rfl, hwc⟩
        refine hK _ _ ?_
        clear hK K
        replace hBl := hBl.trans (hwc.mono hBl.size)
        clear hwc
        try simp only [Act.put, List.setIfInBounds_toArray, List.set_cons_zero, List.set_cons_succ]
        refine wpAny_take (i := 10) (oi := ⟨some 19, _, _, _, _, _⟩) (v := .string ⟨(num N m ++ [UInt8.ofNat (n % 256)]).toArray⟩) rfl (by kernel_rfl) (by kernel_rfl) (by kernel_rfl) (fun _ _ _ h => h) (Or.inl ⟨by rfl, fun w => by go_simp; first | done | (rw [if_neg (by rw [num_length]; omega)]; first | rfl | simp)⟩) ?_
        refine wpAny_take (i := 11) (oi := ⟨some 4, _, _, _, _, _⟩) (v := .string ⟨(num N m ++ [UInt8.ofNat (n % 256)]).toArray⟩) rfl (by kernel_rfl) (by kernel_rfl) (by kernel_rfl) (fun _ _ _ h => h) (Or.inl ⟨by rfl, fun w => by go_simp⟩) ?_
        refine wpAny_done (by kernel_rfl) ?_ _
        simp only [Act.put, List.setIfInBounds_toArray, List.set_cons_zero, List.set_cons_succ]
        go_simp
        go_wp2_with fail
        go_ret
        exact ⟨by rw [HK.out]; rfl, hBl⟩
  · go_enter Tryz.func44, Tryz.ntmps44
    go_wp2_with fail
    refine wp_region_any (by kernel_rfl) ?_
    change wpAny _ _ _ _ _ _ _ (World.drew _)
    have hBl : Below w.heap.size w w.drew := (Below.refl _ _).drew
    refine wpAny_take (i := 0) (oi := ⟨some 9, _, _, _, _, _⟩) (v := .int .u64 (n : Nat)) rfl (by kernel_rfl) (by kernel_rfl) (by kernel_rfl) (fun _ _ _ h => h) (Or.inl ⟨by rfl, fun w => by go_simp⟩) ?_
    refine wpAny_take (i := 1) (oi := ⟨some 10, _, _, _, _, _⟩) (v := .int .u64 (N : Nat)) rfl (by kernel_rfl) (by kernel_rfl) (by kernel_rfl) (fun _ _ _ h => h) (Or.inl ⟨by rfl, fun w => by go_simp; first | done | exact HN.out⟩) ?_
    refine wpAny_take (i := 2) (oi := ⟨some 11, _, _, _, _, _⟩) (v := .int .i64 8) rfl (by kernel_rfl) (by kernel_rfl) (by kernel_rfl) (fun _ _ _ h => h) (Or.inl ⟨by rfl, fun w => by go_simp⟩) ?_
    refine wpAny_take (i := 3) (oi := ⟨some 12, _, _, _, _, _⟩) (v := .int .i64 7) rfl (by kernel_rfl) (by kernel_rfl) (by kernel_rfl) (fun _ _ _ h => h) (Or.inl ⟨by rfl, fun w => by go_simp; rw [IntKind.wrap_i64]; omega⟩) ?_
    refine wpAny_take (i := 5) (oi := ⟨some 14, _, _, _, _, _⟩) (v := .int .u64 (n : Nat)) rfl (by kernel_rfl) (by kernel_rfl) (by kernel_rfl) (fun _ _ _ h => h) (Or.inl ⟨by rfl, fun w => by go_simp⟩) ?_
    refine wpAny_take (i := 6) (oi := ⟨some 15, _, _, _, _, _⟩) (v := .int .u64 ((n : Int) % 256)) rfl (by kernel_rfl) (by kernel_rfl) (by kernel_rfl) (fun _ _ _ h => h) (Or.inl ⟨by rfl, fun w => by go_simp; exact Int.tmod_eq_emod_of_nonneg (by omega)⟩) ?_
    refine wpAny_take (i := 7) (oi := ⟨some 16, _, _, _, _, _⟩) (v := .int .u8 (n8 (UInt8.ofNat (n % 256)))) rfl (by kernel_rfl) (by kernel_rfl) (by kernel_rfl) (fun _ _ _ h => h) (Or.inl ⟨by rfl, fun w => by go_simp; first | done | (rw [wrap_byte])⟩) ?_
    simp only [Act.put, List.setIfInBounds_toArray, List.set_cons_zero, List.set_cons_succ]
    refine wpAny_ready (rs := [4, 8]) (by kernel_rfl) (by simp) ?_
    refine AllReady.cons (o := ⟨some 13, .call ⟨.value (.func 44), #[.tmp 10, .tmp 12], #[86, 3]⟩, _, _, _, _⟩) rfl (fun K hK => ?_) (AllReady.cons (o := ⟨some 17, .buildSlice 76 1 #[(0, .tmp 16)], _, _, _, _⟩) rfl (fun K hK => ?_) AllReady.nil)
    · skip
      rw [if_pos (by rfl)]
      go_simp
      refine (IH N _ hNl).mono ?_
      rintro e wc ⟨rfl, hwc⟩
      refine hK _ _ ?_
      clear hK K
      replace hBl := hBl.trans (hwc.mono hBl.size)
      clear hwc
      refine wpAny_ready (rs := [8]) (by kernel_rfl) (by simp) ?_
      refine AllReady.cons (o := ⟨some 17, .buildSlice 76 1 #[(0, .tmp 16)], _, _, _, _⟩) rfl (fun K hK => ?_) AllReady.nil
      rw [if_pos (by rfl)]
      refine wp_bsl1 _ rfl (UInt8.ofNat (n % 256)) rfl ?_
      intro wb hwb hsb hb
      refine hK _ _ ?_
      clear hK K hsb
      replace hBl := hBl.trans (hwb.mono hBl.size)
      clear hwb
      refine wpAny_ready (rs := [9]) (by kernel_rfl) (by simp) ?_
      refine AllReady.cons (o := ⟨some 18, .convert 76 9 (.tmp 17), _, _, _, _⟩) rfl (fun K hK => ?_) AllReady.nil
      rw [if_pos (by rfl)]
      refine wp_bytesString _ _ _ rfl _ 1 1 rfl _ Tryz.underlying76 Tryz.underlying5 Tryz.underlying9 _ _ _ hb (Nat.le_refl _) ?_
      rw [show strF (fun _ => UInt8.ofNat (n % 256)) 1 = ⟨[UInt8.ofNat (n % 256)].toArray⟩ from rfl]
      refine hK _ _ ?_
      clear hK K hb
      try simp only [Act.put, List.setIfInBounds_toArray, List.set_cons_zero, List.set_cons_succ]
      refine wpAny_take (i := 10) (oi := ⟨some 19, _, _, _, _, _⟩) (v := .string ⟨(num N 7 ++ [UInt8.ofNat (n % 256)]).toArray⟩) rfl (by kernel_rfl) (by kernel_rfl) (by kernel_rfl) (fun _ _ _ h => h) (Or.inl ⟨by rfl, fun w => by go_simp; first | done | (rw [if_neg (by rw [num_length]; omega)]; first | rfl | simp)⟩) ?_
      refine wpAny_take (i := 11) (oi := ⟨some 4, _, _, _, _, _⟩) (v := .string ⟨(num N 7 ++ [UInt8.ofNat (n % 256)]).toArray⟩) rfl (by kernel_rfl) (by kernel_rfl) (by kernel_rfl) (fun _ _ _ h => h) (Or.inl ⟨by rfl, fun w => by go_simp⟩) ?_
      refine wpAny_done (by kernel_rfl) ?_ _
      simp only [Act.put, List.setIfInBounds_toArray, List.set_cons_zero, List.set_cons_succ]
      go_simp
      go_wp2_with fail
      go_ret
      exact ⟨by rw [HK.out]; rfl, hBl⟩
    · skip
      rw [if_pos (by rfl)]
      refine wp_bsl1 _ rfl (UInt8.ofNat (n % 256)) rfl ?_
      intro wb hwb hsb hb
      refine hK _ _ ?_
      clear hK K hsb
      replace hBl := hBl.trans (hwb.mono hBl.size)
      clear hwb
      refine wpAny_ready (rs := [4, 9]) (by kernel_rfl) (by simp) ?_
      refine AllReady.cons (o := ⟨some 13, .call ⟨.value (.func 44), #[.tmp 10, .tmp 12], #[86, 3]⟩, _, _, _, _⟩) rfl (fun K hK => ?_) (AllReady.cons (o := ⟨some 18, .convert 76 9 (.tmp 17), _, _, _, _⟩) rfl (fun K hK => ?_) AllReady.nil)
      · skip
        rw [if_pos (by rfl)]
        go_simp
        refine (IH N _ hNl).mono ?_
        rintro e wc ⟨rfl, hwc⟩
        refine hK _ _ ?_
        clear hK K
        replace hb := hb.belowSize hwc
        replace hBl := hBl.trans (hwc.mono hBl.size)
        clear hwc
        refine wpAny_ready (rs := [9]) (by kernel_rfl) (by simp) ?_
        refine AllReady.cons (o := ⟨some 18, .convert 76 9 (.tmp 17), _, _, _, _⟩) rfl (fun K hK => ?_) AllReady.nil
        rw [if_pos (by rfl)]
        refine wp_bytesString _ _ _ rfl _ 1 1 rfl _ Tryz.underlying76 Tryz.underlying5 Tryz.underlying9 _ _ _ hb (Nat.le_refl _) ?_
        rw [show strF (fun _ => UInt8.ofNat (n % 256)) 1 = ⟨[UInt8.ofNat (n % 256)].toArray⟩ from rfl]
        refine hK _ _ ?_
        clear hK K hb
        try simp only [Act.put, List.setIfInBounds_toArray, List.set_cons_zero, List.set_cons_succ]
        refine wpAny_take (i := 10) (oi := ⟨some 19, _, _, _, _, _⟩) (v := .string ⟨(num N 7 ++ [UInt8.ofNat (n % 256)]).toArray⟩) rfl (by kernel_rfl) (by kernel_rfl) (by kernel_rfl) (fun _ _ _ h => h) (Or.inl ⟨by rfl, fun w => by go_simp; first | done | (rw [if_neg (by rw [num_length]; omega)]; first | rfl | simp)⟩) ?_
        refine wpAny_take (i := 11) (oi := ⟨some 4, _, _, _, _, _⟩) (v := .string ⟨(num N 7 ++ [UInt8.ofNat (n % 256)]).toArray⟩) rfl (by kernel_rfl) (by kernel_rfl) (by kernel_rfl) (fun _ _ _ h => h) (Or.inl ⟨by rfl, fun w => by go_simp⟩) ?_
        refine wpAny_done (by kernel_rfl) ?_ _
        simp only [Act.put, List.setIfInBounds_toArray, List.set_cons_zero, List.set_cons_succ]
        go_simp
        go_wp2_with fail
        go_ret
        exact ⟨by rw [HK.out]; rfl, hBl⟩
      · skip
        rw [if_pos (by rfl)]
        refine wp_bytesString _ _ _ rfl _ 1 1 rfl _ Tryz.underlying76 Tryz.underlying5 Tryz.underlying9 _ _ _ hb (Nat.le_refl _) ?_
        rw [show strF (fun _ => UInt8.ofNat (n % 256)) 1 = ⟨[UInt8.ofNat (n % 256)].toArray⟩ from rfl]
        refine hK _ _ ?_
        clear hK K hb
        refine wpAny_ready (rs := [4]) (by kernel_rfl) (by simp) ?_
        refine AllReady.cons (o := ⟨some 13, .call ⟨.value (.func 44), #[.tmp 10, .tmp 12], #[86, 3]⟩, _, _, _, _⟩) rfl (fun K hK => ?_) AllReady.nil
        rw [if_pos (by rfl)]
        go_simp
        refine (IH N _ hNl).mono ?_
        rintro e wc ⟨rfl, hwc⟩
        refine hK _ _ ?_
        clear hK K
        replace hBl := hBl.trans (hwc.mono hBl.size)
        clear hwc
        try simp only [Act.put, List.setIfInBounds_toArray, List.set_cons_zero, List.set_cons_succ]
        refine wpAny_take (i := 10) (oi := ⟨some 19, _, _, _, _, _⟩) (v := .string ⟨(num N 7 ++ [UInt8.ofNat (n % 256)]).toArray⟩) rfl (by kernel_rfl) (by kernel_rfl) (by kernel_rfl) (fun _ _ _ h => h) (Or.inl ⟨by rfl, fun w => by go_simp; first | done | (rw [if_neg (by rw [num_length]; omega)]; first | rfl | simp)⟩) ?_
        refine wpAny_take (i := 11) (oi := ⟨some 4, _, _, _, _, _⟩) (v := .string ⟨(num N 7 ++ [UInt8.ofNat (n % 256)]).toArray⟩) rfl (by kernel_rfl) (by kernel_rfl) (by kernel_rfl) (fun _ _ _ h => h) (Or.inl ⟨by rfl, fun w => by go_simp⟩) ?_
        refine wpAny_done (by kernel_rfl) ?_ _
        simp only [Act.put, List.setIfInBounds_toArray, List.set_cons_zero, List.set_cons_succ]
        go_simp
        go_wp2_with fail
        go_ret
        exact ⟨by rw [HK.out]; rfl, hBl⟩
theorem rnum_zero (n : Nat) (k : Int) (w : World) (hk : k ≤ 0) :
    Calls Tryz.prog 44 #[.int .u64 n, .int .i64 k] w fun e w' => e = .returned (.string ⟨#[]⟩) ∧ w' = w := by
  go_enter Tryz.func44, Tryz.ntmps44
  go_wp2_with fail
  go_ret
  exact ⟨rfl, rfl⟩
theorem rnum_nat : ∀ (m : Nat), m ≤ 8 → ∀ (n : Nat) (w : World), n < 18446744073709551616 → Calls Tryz.prog 44 #[.int .u64 n, .int .i64 (m : Nat)] w fun e w' => e = .returned (.string ⟨(num n m).toArray⟩) ∧ Below w.heap.size w w'
  | 0, _, n, w, _ => (rnum_zero n (0 : Nat) w (by omega)).mono fun e w' ⟨h1, h2⟩ => by subst h2; exact ⟨h1, Below.refl _ _⟩
  | m + 1, hm, n, w, hn => by
    have := rnum_step n m ((m + 1 : Nat) : Int) w (by omega) (.inl (by omega)) hn (fun n w hn => rnum_nat m (by omega) n w hn)
    exact this
theorem rnum_any (n : Nat) (k : Int) (w : World) (hn : n < 18446744073709551616) :
    Calls Tryz.prog 44 #[.int .u64 n, .int .i64 k] w fun e w' => e = .returned (.string ⟨(num n (cut8 k)).toArray⟩) ∧ Below w.heap.size w w' := by
  by_cases h : k ≤ 0
  · rw [show cut8 k = 0 from by unfold cut8; omega]
    exact (rnum_zero n k w h).mono fun e w' ⟨h1, h2⟩ => by subst h2; exact ⟨h1, Below.refl _ _⟩
  · by_cases h8 : 8 < k
    · rw [show cut8 k = 7 + 1 from by unfold cut8; omega]
      exact rnum_step n 7 k w (by omega) (.inr ⟨h8, rfl⟩) hn (fun n w hn => rnum_nat 7 (by omega) n w hn)
    · obtain ⟨m, rfl⟩ : ∃ m : Nat, k = m := ⟨k.toNat, by omega⟩
      rw [cut8_nat m (by omega)]
      exact rnum_nat m (by omega) n w hn
end Go.Proofs.YtnhlejdilldfaaaGreat
namespace Go.Proofs.YtnhlejdilldfaaaGreat
open Go.RowKit
theorem mkApp2 (x y : List UInt8) : (ByteArray.mk x.toArray ++ ByteArray.mk y.toArray) = ByteArray.mk (x ++ y).toArray := ByteArray.mk_append_mk x y
theorem cut8_4 : cut8 4 = 4 := rfl
end Go.Proofs.YtnhlejdilldfaaaGreat
namespace Go.Proofs.YtnhlejdilldfaaaGreat
open Go.RowKit
theorem n32_nat (x : BitVec 32) : n32 x = (x.toNat : Int) := rfl
theorem n32_wrap64 (x : BitVec 32) : IntKind.u64.wrap (n32 x) = (x.toNat : Int) := by
  rw [IntKind.wrap_u64]; have := n32_nonneg x; have := n32_lt x; rw [← n32_nat]; omega
theorem n32_mod64 (x : BitVec 32) : n32 x % 18446744073709551616 = (x.toNat : Int) := by
  have := n32_nonneg x; have := n32_lt x; rw [← n32_nat]; omega
attribute [local go_sem] mkApp2 n32_wrap64 n32_mod64
end Go.Proofs.YtnhlejdilldfaaaGreat
