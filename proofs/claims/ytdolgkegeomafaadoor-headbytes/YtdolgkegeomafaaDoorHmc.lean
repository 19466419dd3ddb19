/- What PutMembers, Put, bytesOf and Encode of a header do. -/
import Derived.Test.YtdolgkegeomafaaDoorHmb
namespace Go.Proofs.YtdolgkegeomafaaDoor
open Go Go.RowKit
theorem Blk.puts {w w' : World} {b i : Nat} {l t : List UInt8} {c : Array Value} {ty : TypeId} (h : Blk w i c ty) (hP : Puts w w' b l t) (h1 : ty ≠ 53) (h2 : ty ≠ 5) : Blk w' i c ty := hP.keeps.out i c ty h h1 h2
theorem Puts.behind {w w1 w2 : World} {b : Nat} {x t : List UInt8} (h : Below w.heap.size w w1) (hb : b ≤ w.heap.size) (k : Puts w1 w2 b x t) : Puts w w2 b x t := ⟨(h.mono hb).trans k.below, (Keeps.of_below h).trans k.keeps, k.wr⟩
theorem Puts.trans {w w1 w2 : World} {b : Nat} {x t u : List UInt8} (h : Puts w w1 b x t) (k : Puts w1 w2 b (x ++ t) u) : Puts w w2 b x (t ++ u) := ⟨h.below.trans k.below, h.keeps.trans k.keeps, by rw [← List.append_assoc]; exact k.wr⟩
/-- An empty header's cells. -/
def hc0 : Array Value := #[.int .u64 0, .string ⟨#[]⟩, .string ⟨#[]⟩, .string ⟨#[]⟩, .slice none 0 0]
theorem zH : (∀ w, (zeroValue 25).run Tryd.prog w = .ok (.agg hc0) w) ∧ (Tryd.prog.info? 25).map (·.size) = some 5 := zero_of_info (by kernel_rfl)
set_option maxRecDepth 100000 in
set_option maxHeartbeats 1000000 in
theorem putM_any (l : List Int) (hl : OkM l) (a : Option Addr) (cap b : Nat) (x : List UInt8) (w w0 : World) (hB : Below w0.heap.size w0 w) (hb : w0.heap.size ≤ b) (h : IA w0 a l) (hW : WR w b x) (hx : x.length ≤ 1000000) :
    Calls Tryd.prog 28 #[.pointer (some ⟨b, 0, none⟩), .slice a l.length cap] w fun e w' => e = .returned (.tuple #[]) ∧ Puts w w' b x (memB l) := by
  have hl16 := hl.len
  have hall := hl.each
  have HT : Hid (memB l = num l.length 1 ++ memsB l) := by exact rfl
  rw [HT.out]
  clear HT hl
  have H1 := fun w x (h : WR w b x) (hx : x.length ≤ 1000000) => wnumber_any b x l.length 1 w h (by omega)
  rw [show cut8 1 = 1 from rfl] at H1
  have hwr : IntKind.u64.wrap (l.length : Int) = (l.length : Int) := by rw [IntKind.wrap_u64]; omega
  have hnl := num_length 1 l.length
  generalize hnn : num l.length 1 = nn at *
  go_enter Tryd.func28, Tryd.ntmps28
  go_wp2_with (go_at_call 26; refine (H1 _ x hW hx).mono ?_; rintro e w2 ⟨rfl, hP0⟩; clear H1)
  clear hwr
  go_loopw [13] (fun v13 wl => ∃ i : Nat, i ≤ l.length ∧ v13 = .int .i64 i ∧ Puts w wl b x (nn ++ memsB (l.take i))) (fun v13 _ => l.length - (intOf v13).toNat)
  case atStart => exact ⟨0, by omega, rfl, by rw [List.take_zero, memsB_nil, List.append_nil]; exact hP0⟩
  case round =>
    obtain ⟨i, hi, rfl, hP⟩ := hrel
    clear hP0
    by_cases hlt : i < l.length
    · obtain ⟨g, o, rfl⟩ := h.ex (by omega)
      have c0 := (h.below (hB.trans (hP.below.mono hb))).cell hlt
      have hz1 : (0 : Int) ≤ (i : Int) := by omega
      have hz2 : (i : Int) < (l.length : Int) := by omega
      have hz3 : i < l.length := hlt
      have hT : Hid (memsB (l.take (i + 1)) = memsB (l.take i) ++ num (l.getD i 0).toNat 1) := memsB_take hlt
      have hlen : (nn ++ memsB (l.take i)).length ≤ 17 := by rw [List.length_append, hnl, memsB_len, List.length_take]; omega
      have hx2 := hall (l.getD i 0) (by rw [List.getD_eq_getElem?_getD, List.getElem?_eq_getElem hlt]; exact List.getElem_mem hlt)
      obtain ⟨k, hk⟩ : ∃ k : Nat, l.getD i 0 = (k : Int) := ⟨(l.getD i 0).toNat, by omega⟩
      rw [hk] at c0 hx2
      rw [hk, Int.toNat_natCast] at hT
      have HN := fun w x (h : WR w b x) (hx : x.length ≤ 1000100) => wnumber_any b x k 1 w h (by omega)
      rw [show cut8 1 = 1 from rfl] at HN
      have hwr : IntKind.u64.wrap (k : Int) = (k : Int) := by rw [IntKind.wrap_u64]; omega
      clear hk
      generalize num k 1 = u at *
      generalize memsB (l.take i) = t at *
      go_wp2_with (go_at_call 26; refine (HN _ _ hP.wr (by rw [List.length_append]; omega)).mono ?_; rintro e w3 ⟨rfl, hP3⟩)
      go_roundw
      case rel =>
        refine ⟨i + 1, by omega, by go_num, ?_⟩
        rw [hT.out, ← List.append_assoc]
        exact hP.trans hP3
      case measure => simp [intOf]; omega
    · have hT : Hid (l.take i = l) := List.take_of_length_le (by omega)
      rw [hT.out] at hP
      clear hT
      have hz2 : ¬ (i : Int) < (l.length : Int) := by omega
      go_wp2_with fail
      refine bodyPost_end (results_none rfl _ _ _) rfl ⟨rfl, hP⟩
set_option maxRecDepth 100000 in
set_option maxHeartbeats 1000000 in
theorem putH_any (h : HH) (hk : OkH h) (a : Option Addr) (cap b : Nat) (x : List UInt8) (w w0 : World) (hBw : Below w0.heap.size w0 w) (hb : w0.heap.size ≤ b) (hA : IA w0 a h.mem) (hW : WR w b x) (hx : x.length ≤ 100000) :
    Calls Tryd.prog 13 #[.pointer (some ⟨b, 0, none⟩), .agg (hc h a cap)] w fun e w' => e = .returned (.tuple #[]) ∧ Puts w w' b x (hB h) := by
  have hbw : b ≤ w.heap.size := Nat.le_of_lt hW.lt
  have hE : Hid (hB h = num h.height 8 ++ (h.prev ++ (h.txr ++ (h.str ++ memB h.mem)))) := rfl
  have n1 := num_length 8 h.height
  have n2 := hk.p
  have n3 := hk.t
  have n4 := hk.s
  have H1 := fun w x (h1 : WR w b x) (hx : x.length ≤ 100000) => wnumber_any b x h.height 8 w h1 (by omega)
  rw [show cut8 8 = 8 from rfl] at H1
  have H2 := fun w x (h1 : WR w b x) (hx : x.length ≤ 200000) => whash_any b x h.prev w h1 (by omega)
  have H3 := fun w x (h1 : WR w b x) (hx : x.length ≤ 200000) => whash_any b x h.txr w h1 (by omega)
  have H4 := fun w x (h1 : WR w b x) (hx : x.length ≤ 200000) => whash_any b x h.str w h1 (by omega)
  have H5 := fun w' x (h0 : Below w0.heap.size w0 w') (h1 : WR w' b x) (hx : x.length ≤ 200000) => putM_any h.mem hk.m a cap b x w' w0 h0 hb hA h1 (by omega)
  rw [hash32_same hk.p] at H2
  rw [hash32_same hk.t] at H3
  rw [hash32_same hk.s] at H4
  rw [hE.out]
  clear hE hk
  obtain ⟨ht, p, t, s, m⟩ := h
  dsimp only [hc] at *
  generalize num ht 8 = tb at *
  generalize memB m = tm at *
  go_enter Tryd.func13, Tryd.ntmps13
  go_wp2_with (first
    | (with_reducible refine at_list ?_; refine wpList_boxRow (op := ⟨some 3, _, _, _, _, _⟩) rfl _ _ rfl _ rfl ?_; intro w1 hw1 hs1 hb1; replace hs1 := hs1.symm; have q0 := hb1.cell 0; simp only [List.getElem?_toArray, List.getElem?_cons_zero] at q0)
    | (go_at_call 26; refine (H1 _ x (hW.below hw1) hx).mono ?_; rintro e w2 ⟨rfl, hP1⟩; clear H1 q0; have hb2 := hb1.puts hP1 (by decide) (by decide); have q1 := hb2.cell 1; simp only [List.getElem?_toArray, List.getElem?_cons_zero, List.getElem?_cons_succ] at q1)
    | (go_at_call 27; refine (H2 _ _ hP1.wr (by rw [List.length_append]; omega)).mono ?_; rintro e w3 ⟨rfl, hP2⟩; clear H2 q1; have hb3 := hb2.puts hP2 (by decide) (by decide); have q2 := hb3.cell 2; simp only [List.getElem?_toArray, List.getElem?_cons_zero, List.getElem?_cons_succ] at q2)
    | (go_at_call 27; refine (H3 _ _ hP2.wr (by rw [List.length_append, List.length_append]; omega)).mono ?_; rintro e w4 ⟨rfl, hP3⟩; clear H3 q2; have hb4 := hb3.puts hP3 (by decide) (by decide); have q3 := hb4.cell 3; simp only [List.getElem?_toArray, List.getElem?_cons_zero, List.getElem?_cons_succ] at q3)
    | (go_at_call 27; refine (H4 _ _ hP3.wr (by rw [List.length_append, List.length_append, List.length_append]; omega)).mono ?_; rintro e w5 ⟨rfl, hP4⟩; clear H4 q3; have hb5 := hb4.puts hP4 (by decide) (by decide); have q4 := hb5.cell 4; simp only [List.getElem?_toArray, List.getElem?_cons_zero, List.getElem?_cons_succ] at q4)
    | (go_at_call 28; refine (H5 _ _ (hBw.trans (((hw1.mono hbw).trans (hP1.below.trans (hP2.below.trans (hP3.below.trans hP4.below)))).mono hb)) hP4.wr (by rw [List.length_append, List.length_append, List.length_append, List.length_append]; omega)).mono ?_; rintro e w6 ⟨rfl, hP5⟩; clear H5 q4))
  refine bodyPost_end (results_none rfl _ _ _) rfl ⟨rfl, Puts.behind hw1 hbw (hP1.trans (hP2.trans (hP3.trans (hP4.trans hP5))))⟩
set_option maxRecDepth 100000 in
set_option maxHeartbeats 400000 in
theorem bytesOfH_any (h : HH) (hk : OkH h) (a : Option Addr) (cap : Nat) (w : World) (hA : IA w a h.mem) :
    Calls Tryd.prog 22 #[.agg (hc h a cap)] w fun e w' => e = .returned (.string ⟨(hB h).toArray⟩) ∧ Below w.heap.size w w' := by
  have HP := fun b w' (hBw : Below w.heap.size w w') (hb : w.heap.size ≤ b) (hW : WR w' b []) => putH_any h hk a cap b [] w' w hBw hb hA hW (by simp)
  have HN := fun w => neww_any w
  have HA := fun b w l (h : WR w b l) => wall_any b l w h
  generalize hB h = tb at *
  have hz := zH.2
  have hsz : (hc h a cap).size = 5 := rfl
  generalize hc h a cap = c at *
  go_enter Tryd.func22, Tryd.ntmps22
  go_wp2_with (first
    | (go_at_call 12; refine (HN _).mono ?_; rintro e w2 ⟨rfl, hw2, hW2⟩; replace hb1 := hb1.belowSize hw2)
    | (go_at_call 13; refine (HP _ _ (hw1.trans (hw2.mono hw1.size)) hw1.size hW2).mono ?_; rintro e w3 ⟨rfl, hP3⟩)
    | (go_at_call 17; refine (HA _ _ _ hP3.wr).mono ?_; rintro e w' ⟨rfl, hw'⟩; have hw4 := hw'.symm; subst hw4; clear hw')
    | (with_reducible refine at_list ?_; first
      | (refine wpList_boxRow (op := ⟨some 1, _, _, _, _, _⟩) rfl _ _ rfl _ rfl ?_; intro w1 hw1 hs1 hb1; replace hs1 := hs1.symm)
      | (refine wpList_loadRow (op := ⟨some 6, _, _, _, _, _⟩) rfl _ _ rfl w.heap.size rfl _ _ hb1 _ Tryd.underlying25 rfl (by rw [hsz]; exact hz) ?_)))
  go_ret
  exact ⟨rfl, (hw1.trans (hw2.mono hw1.size)).trans (hP3.below.mono hw1.size)⟩
/-- What Encode tells. -/
def encH (h : HH) : List UInt8 := if okH h = true then hB h else []
set_option maxRecDepth 100000 in
set_option maxHeartbeats 400000 in
theorem encodeH_any (h : HH) (a : Option Addr) (cap : Nat) (w : World) (hA : IA w a h.mem) :
    Calls Tryd.prog 4 #[.agg (hc h a cap)] w fun e w' => e = .returned (.tuple #[.string ⟨(encH h).toArray⟩, .int .i64 (chkH h)]) ∧ Below w.heap.size w w' := by
  have HC := fun w' (hBw : Below w.heap.size w w') => checkH_any h a cap w' (hA.below hBw)
  have hz := zH.2
  have hsz : (hc h a cap).size = 5 := rfl
  by_cases hok : okH h = true
  · have HB := fun w' (hBw : Below w.heap.size w w') => bytesOfH_any h (okH_iff.1 hok) a cap w' (hA.below hBw)
    rw [show encH h = hB h from if_pos hok, chkH_zero (okH_iff.1 hok)]
    rw [chkH_zero (okH_iff.1 hok)] at HC
    generalize hB h = tb at *
    generalize hc h a cap = c at *
    go_enter Tryd.func4, Tryd.ntmps4
    go_wp2_with (first
      | (go_at_call 8; refine (HC _ hw1).mono ?_; rintro e w2 ⟨rfl, hw2⟩; replace hb1 := hb1.belowSize hw2)
      | (go_at_call 22; refine (HB _ (hw1.trans (hw2.mono hw1.size))).mono ?_; rintro e w3 ⟨rfl, hw3⟩)
      | (with_reducible refine at_list ?_; first
        | (refine wpList_boxRow (op := ⟨some 1, _, _, _, _, _⟩) rfl _ _ rfl _ rfl ?_; intro w1 hw1 hs1 hb1; replace hs1 := hs1.symm)
        | (refine wpList_loadRow (op := ⟨some 5, _, _, _, _, _⟩) rfl _ _ rfl w.heap.size rfl _ _ hb1 _ Tryd.underlying25 rfl (by rw [hsz]; exact hz) ?_)
        | (refine wpList_loadRow (op := ⟨some 10, _, _, _, _, _⟩) rfl _ _ rfl w.heap.size rfl _ _ hb1 _ Tryd.underlying25 rfl (by rw [hsz]; exact hz) ?_)))
    go_ret2
    exact ⟨rfl, (hw1.trans (hw2.mono hw1.size)).trans (hw3.mono (Nat.le_trans hw1.size hw2.size))⟩
  · rw [show encH h = [] from if_neg hok, chkH_not (fun x => hok (okH_iff.2 x))]
    rw [chkH_not (fun x => hok (okH_iff.2 x))] at HC
    generalize hc h a cap = c at *
    go_enter Tryd.func4, Tryd.ntmps4
    go_wp2_with (first
      | (go_at_call 8; refine (HC _ hw1).mono ?_; rintro e w2 ⟨rfl, hw2⟩; replace hb1 := hb1.belowSize hw2)
      | (with_reducible refine at_list ?_; first
        | (refine wpList_boxRow (op := ⟨some 1, _, _, _, _, _⟩) rfl _ _ rfl _ rfl ?_; intro w1 hw1 hs1 hb1; replace hs1 := hs1.symm)
        | (refine wpList_loadRow (op := ⟨some 5, _, _, _, _, _⟩) rfl _ _ rfl w.heap.size rfl _ _ hb1 _ Tryd.underlying25 rfl (by rw [hsz]; exact hz) ?_)))
    go_ret2
    exact ⟨rfl, hw1.trans (hw2.mono hw1.size)⟩
end Go.Proofs.YtdolgkegeomafaaDoor
