/- What a ring's Len, Key, Tag and Check do. -/
import Derived.Test.YtminjelnbnajhaaDoorRng
import Derived.Test.YtminjelnbnajhaaDoorNl
namespace Go.Proofs.YtminjelnbnajhaaDoor
open Go Go.RowKit
theorem len_any (r : Nat) (l : List (List UInt8)) (w : World) (hR : Ring w r l) : Calls Tryd.prog 21 #[.pointer (some ⟨r, 0, none⟩)] w fun e w' => e = .returned (.int .i64 l.length) ∧ w' = w := by
  obtain ⟨sl, hb, hsl⟩ := hR.out
  rcases hsl with ⟨rfl, rfl⟩ | ⟨g, cap, h1, rfl, h3⟩
  · go_enter Tryd.func21, Tryd.ntmps21
    go_wp2_with (with_reducible refine at_list ?_; refine wpList_loadCell rfl _ _ rfl r 0 rfl _ _ hb _ Tryd.underlying41 rfl _ rfl ?_)
    go_ret
    exact ⟨rfl, rfl⟩
  · go_enter Tryd.func21, Tryd.ntmps21
    go_wp2_with (with_reducible refine at_list ?_; refine wpList_loadCell rfl _ _ rfl r 0 rfl _ _ hb _ Tryd.underlying41 rfl _ rfl ?_)
    go_ret
    exact ⟨rfl, rfl⟩
theorem key_out (r : Nat) (l : List (List UInt8)) (i : Int) (w : World) (hR : Ring w r l) (h : i < 0 ∨ l.length ≤ i) : Calls Tryd.prog 22 #[.pointer (some ⟨r, 0, none⟩), .int .i64 i] w fun e w' => e = .returned (.tuple #[.string ⟨#[]⟩, .bool false]) ∧ w' = w := by
  by_cases h1 : i < 0
  · have e1 : decide (i < 0) = true := decide_eq_true h1
    go_enter Tryd.func22, Tryd.ntmps22
    go_wp2_with (go_at_call 21; refine (len_any r l _ hR).mono ?_; rintro e w' ⟨rfl, hw'⟩; have hw2 := hw'.symm; subst hw2; clear hw')
    go_ret2
    exact ⟨rfl, rfl⟩
  · have e1 : decide (i < 0) = false := decide_eq_false h1
    have e2 : decide ((l.length : Int) ≤ i) = true := decide_eq_true (by omega)
    go_enter Tryd.func22, Tryd.ntmps22
    go_wp2_with (go_at_call 21; refine (len_any r l _ hR).mono ?_; rintro e w' ⟨rfl, hw'⟩; have hw2 := hw'.symm; subst hw2; clear hw')
    go_ret2
    exact ⟨rfl, rfl⟩
theorem key_in (r : Nat) (l : List (List UInt8)) (i : Nat) (w : World) (hR : Ring w r l) (h : i < l.length) : Calls Tryd.prog 22 #[.pointer (some ⟨r, 0, none⟩), .int .i64 (i : Int)] w fun e w' => e = .returned (.tuple #[.string ⟨(l.getD i []).toArray⟩, .bool true]) ∧ w' = w := by
  have e1 : decide ((i : Int) < 0) = false := by simp
  have e2 : decide ((l.length : Int) ≤ (i : Int)) = false := by simp; omega
  have HR : Hid (Ring w r l) := hR
  obtain ⟨sl, hb, hsl⟩ := hR.out
  rcases hsl with ⟨rfl, rfl⟩ | ⟨g, cap, h1, rfl, h3⟩
  · simp at h
  · have hc := h3.cell i h
    generalize l.getD i [] = key at *
    go_enter Tryd.func22, Tryd.ntmps22
    go_wp2_with (first
      | (go_at_call 21; refine (len_any r l _ HR.out).mono ?_; rintro e w' ⟨rfl, hw'⟩; have hw2 := hw'.symm; subst hw2; clear hw')
      | (with_reducible refine at_list ?_; refine wpList_loadCell (op := ⟨some 17, _, _, _, _, _⟩) rfl _ _ rfl r 0 rfl _ _ hb _ Tryd.underlying41 rfl _ rfl ?_))
    go_ret2
    exact ⟨rfl, rfl⟩
theorem rtag_out (r : Nat) (l : List (List UInt8)) (i : Int) (s : ByteArray) (w : World) (hR : Ring w r l) (h : i < 0 ∨ l.length ≤ i) : Calls Tryd.prog 24 #[.pointer (some ⟨r, 0, none⟩), .int .i64 i, .string s] w fun e w' => e = .returned (.tuple #[.string ⟨#[]⟩, .int .i64 2]) ∧ w' = w := by
  go_enter Tryd.func24, Tryd.ntmps24
  go_wp2_with (go_at_call 22; refine (key_out r l i _ hR h).mono ?_; rintro e w' ⟨rfl, hw'⟩; have hw2 := hw'.symm; subst hw2; clear hw')
  go_ret2
  exact ⟨rfl, rfl⟩
theorem rcheck_out (r : Nat) (l : List (List UInt8)) (i : Int) (s t : ByteArray) (w : World) (hR : Ring w r l) (h : i < 0 ∨ l.length ≤ i) : Calls Tryd.prog 25 #[.pointer (some ⟨r, 0, none⟩), .int .i64 i, .string s, .string t] w fun e w' => e = .returned (.bool false) ∧ w' = w := by
  go_enter Tryd.func25, Tryd.ntmps25
  go_wp2_with (go_at_call 22; refine (key_out r l i _ hR h).mono ?_; rintro e w' ⟨rfl, hw'⟩; have hw2 := hw'.symm; subst hw2; clear hw')
  go_ret
  exact ⟨rfl, rfl⟩
theorem rtag_in (r : Nat) (l : List (List UInt8)) (i : Nat) (s : List UInt8) (w : World) (hG : Glob w) (hR : Ring w r l) (h : i < l.length) (hk : (l.getD i []).length ≤ 549755813888) (hs : s.length ≤ 274877906944) :
    Calls Tryd.prog 24 #[.pointer (some ⟨r, 0, none⟩), .int .i64 (i : Int), .string ⟨s.toArray⟩] w fun e w' => e = .returned (.tuple #[.string ⟨(hmac (l.getD i []) s).toArray⟩, .int .i64 0]) ∧ Below w.heap.size w w' := by
  have HK := key_in r l i w hR h
  generalize l.getD i [] = key at *
  go_enter Tryd.func24, Tryd.ntmps24
  go_wp2_with (first
    | (go_at_call 22; refine HK.mono ?_; rintro e w' ⟨rfl, hw'⟩; have hw2 := hw'.symm; subst hw2; clear hw')
    | (go_at_call 14; refine (tag_any key s _ hG hk hs).mono ?_; rintro e w1 ⟨rfl, hw1⟩))
  go_ret2
  exact ⟨rfl, hw1⟩
theorem rcheck_in (r : Nat) (l : List (List UInt8)) (i : Nat) (s t : List UInt8) (w : World) (hG : Glob w) (hR : Ring w r l) (h : i < l.length) (hk : (l.getD i []).length ≤ 549755813888) (hs : s.length ≤ 274877906944) :
    Calls Tryd.prog 25 #[.pointer (some ⟨r, 0, none⟩), .int .i64 (i : Int), .string ⟨s.toArray⟩, .string ⟨t.toArray⟩] w fun e w' => e = .returned (.bool (decide (hmac (l.getD i []) s = t))) ∧ Below w.heap.size w w' := by
  have HK := key_in r l i w hR h
  generalize l.getD i [] = key at *
  go_enter Tryd.func25, Tryd.ntmps25
  go_wp2_with (first
    | (go_at_call 22; refine HK.mono ?_; rintro e w' ⟨rfl, hw'⟩; have hw2 := hw'.symm; subst hw2; clear hw')
    | (go_at_call 17; refine (check_any key s t _ hG hk hs).mono ?_; rintro e w1 ⟨rfl, hw1⟩))
  go_ret
  exact ⟨rfl, hw1⟩
end Go.Proofs.YtminjelnbnajhaaDoor
