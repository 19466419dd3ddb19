/- put, whatever is put; WireNil. -/
import Derived.Test.YtaccklbijihppaaDoorPt
namespace Go.Proofs.YtaccklbijihppaaDoor
open Go Go.RowKit
theorem same_below {f : FuncId} {args : Array Value} {w : World} {v : Value} (h : Calls Tryd.prog f args w fun e w' => e = .returned v ∧ w' = w) : Calls Tryd.prog f args w fun e w' => e = .returned v ∧ Below w.heap.size w w' :=
  h.mono fun _ _ ⟨h1, h2⟩ => by subst h2; exact ⟨h1, Below.refl _ _⟩
theorem tmod_bound (n : Int) : -65536 ≤ n.tmod 65536 ∧ n.tmod 65536 ≤ 65535 := by
  by_cases h : 0 ≤ n
  · rw [Int.tmod_eq_emod_of_nonneg h]; omega
  · have : n.tmod 65536 = -((-n) % 65536) := by
      rw [show n = -(-n) from by omega, Int.neg_tmod, Int.tmod_eq_emod_of_nonneg (by omega)]
      simp
    rw [this]; omega
theorem bool_nat (y : Nat) : (decide (y % 2 = 1)).toNat = y % 2 := by
  have h : y % 2 = 0 ∨ y % 2 = 1 := by omega
  rcases h with h | h <;> rw [h] <;> rfl
theorem putL_length (kind n : Int) (y : Nat) (t : List UInt8) : (putL kind n y t).length ≤ 3004 := by
  have := fewL_length t
  unfold putL
  repeat' split
  · omega
  · rw [num_length]; omega
  · rw [num_length]; omega
  · rw [List.length_append, num_length]; omega
  · rw [hash32_length]; omega
  · rw [num_length]; omega
theorem put_any (b : Nat) (l : List UInt8) (kind n : Int) (y : Nat) (t : List UInt8) (w : World) (h : WR w b l) (hlen : l.length ≤ 137438953472) (hy : y < 18446744073709551616) :
    Calls Tryd.prog 25 #[.pointer (some ⟨b, 0, none⟩), .agg (ac kind n (y : Nat) t)] w fun e w' => e = .returned (.string ⟨(putL kind n y t).toArray⟩) ∧ Puts w w' b l (putL kind n y t) := by
  have hf := fewL_length t
  have hmb := tmod_bound n
  by_cases h0 : kind = 0
  · subst h0
    exact put_0 b l n y t (fewL t) w h (fun w => few_any t w) (fun w h => wbytes_any b l (fewL t) w h (by omega))
  by_cases h1 : kind = 1
  · subst h1
    exact put_1 b l n y t (fewL t) (num y 8) w h (fun w => few_any t w) (fun w h => wnumber_any b l y 8 w h (by omega)) (fun w => rnum_any y 8 w hy)
  by_cases h2 : kind = 2
  · subst h2
    exact put_2 b l n y t (fewL t) (num (n.tmod 65536).toNat 4) (n.tmod 65536) rfl hmb.1 hmb.2 w h (fun w => few_any t w) (fun w h => wcount_any b l _ w h (by omega) (by omega)) (fun w => rnum_any _ 4 w (by omega))
  by_cases h3 : kind = 3
  · subst h3
    exact put_3 b l n y t (fewL t) (num (fewL t).length 4 ++ fewL t) w h (fun w => few_any t w) (fun w h => wtext_any b l (fewL t) w h (by omega)) (fun w => rtext_str (fewL t) w (by omega))
  by_cases h4 : kind = 4
  · subst h4
    exact put_4 b l n y t (fewL t) (hash32 (fewL t)) w h (fun w => few_any t w) (fun w h => whash_any b l (fewL t) w h (by omega)) (fun w => same_below (rhash_any (fewL t) w (by omega)))
  · have e : putL kind n y t = num (y % 2) 1 := by unfold putL; rw [if_neg h0, if_neg h1, if_neg h2, if_neg h3, if_neg h4]
    rw [e]
    refine put_5 b l n y t (fewL t) (num (y % 2) 1) kind (by omega) w h (fun w => few_any t w) (fun w h => ?_) (fun w => rnum_any (y % 2) 1 w (by omega))
    have := wbool_any b l (decide (y % 2 = 1)) w h (by omega)
    rw [bool_nat] at this
    exact this
theorem put_nil (kind n : Int) (y : Nat) (t : List UInt8) (w : World) (hy : y < 18446744073709551616) :
    Calls Tryd.prog 25 #[.pointer none, .agg (ac kind n (y : Nat) t)] w fun e w' => e = .returned (.string ⟨(putL kind n y t).toArray⟩) ∧ Below w.heap.size w w' := by
  have hf := fewL_length t
  have hmb := tmod_bound n
  by_cases h0 : kind = 0
  · subst h0
    exact put_0n n y t (fewL t) w (fun w => few_any t w) (fun w => same_below (wbytes_nil _ w))
  by_cases h1 : kind = 1
  · subst h1
    exact put_1n n y t (fewL t) (num y 8) w (fun w => few_any t w) (fun w => wnumber_nil y 8 w) (fun w => rnum_any y 8 w hy)
  by_cases h2 : kind = 2
  · subst h2
    exact put_2n n y t (fewL t) (num (n.tmod 65536).toNat 4) (n.tmod 65536) rfl hmb.1 hmb.2 w (fun w => few_any t w) (fun w => wcount_nil _ w (by omega)) (fun w => rnum_any _ 4 w (by omega))
  by_cases h3 : kind = 3
  · subst h3
    exact put_3n n y t (fewL t) (num (fewL t).length 4 ++ fewL t) w (fun w => few_any t w) (fun w => wtext_nil (fewL t) w (by omega)) (fun w => rtext_str (fewL t) w (by omega))
  by_cases h4 : kind = 4
  · subst h4
    exact put_4n n y t (fewL t) (hash32 (fewL t)) w (fun w => few_any t w) (fun w => whash_nil (fewL t) w) (fun w => same_below (rhash_any (fewL t) w (by omega)))
  · have e : putL kind n y t = num (y % 2) 1 := by unfold putL; rw [if_neg h0, if_neg h1, if_neg h2, if_neg h3, if_neg h4]
    rw [e]
    exact put_5n n y t (fewL t) (num (y % 2) 1) kind (by omega) w (fun w => few_any t w) (fun w => wbool_nil _ w) (fun w => rnum_any (y % 2) 1 w (by omega))
theorem i43p : (Tryd.prog.info? 43).map (·.size) = some 4 := by kernel_rfl
theorem ac_sizep (kind n x : Int) (t : List UInt8) : (ac kind n x t).size = 4 := rfl
set_option maxRecDepth 100000 in
set_option maxHeartbeats 1000000 in
theorem wireNil_any (kind n : Int) (y : Nat) (t : List UInt8) (w : World) (hG : Glob w) (hy : y < 18446744073709551616) (hn : n ≤ 9223372036854775807) :
    Calls Tryd.prog 7 #[.agg (ac kind n (y : Nat) t)] w fun e w' => e = .returned (.bool true) ∧ Below w.heap.size w w' := by
  have HP := fun w => put_nil kind n y t w hy
  generalize putL kind n y t = r at *
  go_enter Tryd.func7, Tryd.ntmps7
  go_wp2_with (first
    | (go_at_call 25; refine (HP _).mono ?_; rintro e w2 ⟨rfl, hw2⟩; replace ha := ha.belowSize hw2; have hG2 := (hG.belowSize hw1).belowSize hw2)
    | (go_at_call 36; refine (fail_nil _ _).mono ?_; rintro e w' ⟨rfl, hw'⟩; have hw2' := hw'.symm; subst hw2'; clear hw')
    | (go_at_call 9; refine (awake_any _ hG2).mono ?_; rintro e w3 ⟨rfl, hw3⟩; replace ha := ha.belowSize hw3; have c1 := (ha.cell 1).trans (ac_g1 _ _ _ _))
    | (go_at_call 28; refine (bytes_nil _ _).mono ?_; rintro e w' ⟨rfl, hw'⟩; have hw2' := hw'.symm; subst hw2'; clear hw')
    | (go_at_call 29; refine (number_nil _ _).mono ?_; rintro e w' ⟨rfl, hw'⟩; have hw2' := hw'.symm; subst hw2'; clear hw')
    | (go_at_call 30; refine (count_nil _ _ hn).mono ?_; rintro e w' ⟨rfl, hw'⟩; have hw2' := hw'.symm; subst hw2'; clear hw')
    | (go_at_call 31; refine (text_nil _ _ hn).mono ?_; rintro e w' ⟨rfl, hw'⟩; have hw2' := hw'.symm; subst hw2'; clear hw')
    | (go_at_call 32; refine (hash_nil _).mono ?_; rintro e w' ⟨rfl, hw'⟩; have hw2' := hw'.symm; subst hw2'; clear hw')
    | (go_at_call 34; refine (bool_nil _).mono ?_; rintro e w' ⟨rfl, hw'⟩; have hw2' := hw'.symm; subst hw2'; clear hw')
    | (go_at_call 21; refine (err_nil _).mono ?_; rintro e w' ⟨rfl, hw'⟩; have hw2' := hw'.symm; subst hw2'; clear hw')
    | (go_at_call 35; refine (end_nil _).mono ?_; rintro e w' ⟨rfl, hw'⟩; have hw2' := hw'.symm; subst hw2'; clear hw')
    | (go_at_call 22; refine (at_nil _).mono ?_; rintro e w' ⟨rfl, hw'⟩; have hw2' := hw'.symm; subst hw2'; clear hw')
    | (go_at_call 23; refine (left_nil _).mono ?_; rintro e w' ⟨rfl, hw'⟩; have hw2' := hw'.symm; subst hw2'; clear hw')
    | (go_at_call 26; refine (wlen_nil _).mono ?_; rintro e w' ⟨rfl, hw'⟩; have hw2' := hw'.symm; subst hw2'; clear hw')
    | (go_at_call 27; refine (wall_nil _).mono ?_; rintro e w' ⟨rfl, hw'⟩; have hw2' := hw'.symm; subst hw2'; clear hw')
    | (with_reducible refine at_list ?_; first
      | (refine wpList_boxRow (op := ⟨some 1, _, _, _, _, _⟩) rfl _ _ rfl _ rfl ?_; intro w1 hw1 hs1 ha; replace hs1 := hs1.symm)
      | (refine wpList_loadRow (op := ⟨some 6, _, _, _, _, _⟩) rfl _ _ rfl w.heap.size rfl _ _ ha _ Tryd.underlying43 rfl (by rw [ac_sizep]; exact i43p) ?_)))
  go_ret
  have hB2 := hw1.trans (hw2.mono hw1.size)
  exact ⟨rfl, hB2.trans (hw3.mono hB2.size)⟩
end Go.Proofs.YtaccklbijihppaaDoor
