/- SmtDigests tells true, out of what the calls of a tree do. -/
import Derived.Test.YtmeolaeoaoldoaaDoorSaw
namespace Go.Proofs.YtmeolaeoaoldoaaDoor.Sh
open Go Go.RowKit
/-- The digests that the program tells. -/
structure SmtD (TR : World → Nat → Nat → Tr → Prop) : Prop extends SmtV TR where
  path : ∀ (w : World) (k : List UInt8), Glob w → k.length ≤ 1000 → Calls Tryd.prog 29 #[.string ⟨k.toArray⟩] w fun e w' => e = .returned (.string ⟨(pathD7 k).toArray⟩) ∧ Below w.heap.size w w'
  leafHash : ∀ (w : World) (p v : List UInt8), Glob w → p.length ≤ 1000 → v.length ≤ 1000 → Calls Tryd.prog 30 #[.agg #[.string ⟨p.toArray⟩, .string ⟨v.toArray⟩]] w fun e w' => e = .returned (.string ⟨(hashL TgD (p, v)).toArray⟩) ∧ Below w.heap.size w w'
  join : ∀ (w : World) (x y : List UInt8), Glob w → x.length ≤ 1000 → y.length ≤ 1000 → Calls Tryd.prog 32 #[.string ⟨x.toArray⟩, .string ⟨y.toArray⟩] w fun e w' => e = .returned (.string ⟨(joinD TgD x y).toArray⟩) ∧ Below w.heap.size w w'
set_option maxRecDepth 100000 in
set_option maxHeartbeats 4000000 in
theorem smtDigests_any {TR : World → Nat → Nat → Tr → Prop} (C : SmtD TR) (key val lp lv : List UInt8) (w : World) (hG : Glob w) (h1 : key.length ≤ 9223372036854775807) (h2 : val.length ≤ 9223372036854775807) (h3 : lp.length ≤ 9223372036854775807) (h4 : lv.length ≤ 9223372036854775807) :
    Calls Tryd.prog 6 #[.string ⟨key.toArray⟩, .string ⟨val.toArray⟩, .agg #[.string ⟨lp.toArray⟩, .string ⟨lv.toArray⟩]] w fun e w' => e = .returned (.bool true) ∧ Below w.heap.size w w' := by
  have HF1 := fun w1 => few7_any key w1 h1
  have HF2 := fun w1 => few7_any val w1 h2
  have HF3 := fun w1 => few7_any lp w1 h3
  have HF4 := fun w1 => few7_any lv w1 h4
  have hk : (key.take 60).length ≤ 60 := by rw [List.length_take]; omega
  have hv : (val.take 60).length ≤ 60 := by rw [List.length_take]; omega
  have hlp : (lp.take 60).length ≤ 60 := by rw [List.length_take]; omega
  have hlv : (lv.take 60).length ≤ 60 := by rw [List.length_take]; omega
  generalize key.take 60 = k at *
  generalize val.take 60 = v at *
  generalize lp.take 60 = p at *
  generalize lv.take 60 = u at *
  have HO := fun w1 => of_any k v w1 (by omega) (by omega)
  have HW := fun w1 (hb : Below w.heap.size w w1) => awake7_any C.toSmtV w1 (hG.belowSize hb)
  have HP := fun w1 (hb : Below w.heap.size w w1) => C.path w1 k (hG.belowSize hb) (by omega)
  have HV := fun w1 (hb : Below w.heap.size w w1) => C.value w1 v (hG.belowSize hb) (by omega)
  have HJ := fun w1 (hb : Below w.heap.size w w1) => C.join w1 k v (hG.belowSize hb) (by omega) (by omega)
  have hT := fun w1 g (h : XA w1 (some ⟨g, 0, none⟩) [k, v]) => rtag_any 74 [k, v] g 2 w1 h (by rw [show [k, v].length = 2 from rfl, tag2]; omega)
  have x1 : (pathD7 k).length = 32 := TgD_len _ _
  have x2 : (valD7 v).length = 32 := TgD_len _ _
  have HL1 := fun w1 (hb : Below w.heap.size w w1) => C.leafHash w1 (pathD7 k) (valD7 v) (hG.belowSize hb) (by omega) (by omega)
  have HH1 := fun w1 => hash7_any (pathD7 k, valD7 v) w1 (by simp only; omega) (by simp only; omega)
  have HL2 := fun w1 (hb : Below w.heap.size w w1) => C.leafHash w1 p u (hG.belowSize hb) (by omega) (by omega)
  have HH2 := fun w1 => hash7_any (p, u) w1 (by simp only; omega) (by simp only; omega)
  unfold kvc at HH1 HH2 HO
  dsimp only at HH1 HH2
  replace HO : ∀ w1, Calls Tryd.prog 22 #[.string ⟨k.toArray⟩, .string ⟨v.toArray⟩] w1 fun e w' => e = .returned (.agg #[.string ⟨(pathD7 k).toArray⟩, .string ⟨(valD7 v).toArray⟩]) ∧ Below w1.heap.size w1 w' := HO
  have hTJ : TgD 74 [k, v] = joinD TgD k v := rfl
  rw [hTJ] at hT
  clear hTJ x1 x2
  generalize joinD TgD k v = J at *
  generalize hashL TgD (pathD7 k, valD7 v) = L1 at *
  generalize hashL TgD (p, u) = L2 at *
  generalize pathD7 k = X1 at *
  generalize valD7 v = X2 at *
  have HT2 : ∀ w1 : World, (Instr.buildSlice 48 2 #[(0, .string ⟨k.toArray⟩), (1, .string ⟨v.toArray⟩)]).run Tryd.prog w1 = .ok (.slice (some ⟨w1.heap.size, 0, none⟩) 2 2) (w1.alloc (.cells #[.string ⟨k.toArray⟩, .string ⟨v.toArray⟩] 9)) := fun w1 => tsl2 k v w1
  have F3 := HF3
  have F4 := HF4
  clear h1 h2 h3 h4 hG C
  go_enter Tryd.func6, Tryd.ntmps6
  go_wp2_with (first
    | (go_at_call 20; refine (HF1 _).mono ?_; clear HF1; rintro e w2 ⟨rfl, hw2⟩; have hw2 := hw2.symm; subst hw2)
    | (go_at_call 20; refine (HF2 _).mono ?_; clear HF2; rintro e w3 ⟨rfl, hw3⟩; have hw3 := hw3.symm; subst hw3)
    | (go_at_call 22; refine (HO _).mono ?_; rintro e w4 ⟨rfl, hw4⟩; have hbl4 := hbl.belowSize hw4; have B4 := hw1.trans (hw4.mono hw1.size))
    | (with_reducible refine at_list ?_; first
      | (refine wpList_boxRow (op := ⟨some 5, _, _, _, _, _⟩) rfl _ _ rfl #[.string ⟨lp.toArray⟩, .string ⟨lv.toArray⟩] rfl ?_; intro w1 hw1 hs1 hbl; replace hs1 := hs1.symm)
      | (refine wpList_allocRow (op := ⟨some 9, _, _, _, _, _⟩) rfl _ rfl _ zLf.1 ?_; intro w5 hw5 hs5 hz5; replace hs5 := hs5.symm; have hbl5 := hbl4.belowSize hw5; have B5 := B4.trans (hw5.mono B4.size))
      | (refine wpList_storeRow (op := ⟨none, .store 52 (.tmp 9) (.tmp 16), _, _, _, _⟩) rfl _ _ _ rfl w4.heap.size #[.string ⟨X1.toArray⟩, .string ⟨X2.toArray⟩] rfl rfl _ _ hz5 (by simp [kvc]) (by simpa using zLf.2) (by simp [Value.oneCell']) ?_; intro w6 hg6 hs6 hz6; have hbl6 := hbl5.grown hg6 (by have := hbl4.lt; simp; omega); have B6 := B5.trans (below_of_grown hg6 (B4.size) B5.size))))
  obtain ⟨q0, q1⟩ := blk2c hbl6
  obtain ⟨y0, y1⟩ := blk2c hz6
  have hkS : ∀ W, Below w6.heap.size w6 W → (W.cell? ⟨w.heap.size, 0, none⟩ = some (.string ⟨lp.toArray⟩) ∧ W.cell? ⟨w.heap.size, 1, none⟩ = some (.string ⟨lv.toArray⟩) ∧ W.cell? ⟨w4.heap.size, 0, none⟩ = some (.string ⟨X1.toArray⟩) ∧ W.cell? ⟨w4.heap.size, 1, none⟩ = some (.string ⟨X2.toArray⟩)) := fun W h =>
    ⟨(h.cell (World.block_lt_of_cell? _ _ q0)).trans q0, (h.cell (World.block_lt_of_cell? _ _ q1)).trans q1, (h.cell (World.block_lt_of_cell? _ _ y0)).trans y0, (h.cell (World.block_lt_of_cell? _ _ y1)).trans y1⟩
  have D6 : Below w6.heap.size w6 w6.drew := (Below.refl _ _).drew
  have k6 := hkS _ D6
  have hAlB : ∀ {a b : World} {n : Nat} (o : Obj), Below n a b → n ≤ b.heap.size → Below n a (b.alloc o) := fun o h hn => h.trans (((Below.refl _ _).alloc (Nat.le_refl _) o).mono hn)
  clear HF3 HF4
  go_region_held3 (fun W => W.cell? ⟨w.heap.size, 0, none⟩ = some (.string ⟨lp.toArray⟩) ∧ W.cell? ⟨w.heap.size, 1, none⟩ = some (.string ⟨lv.toArray⟩) ∧ W.cell? ⟨w4.heap.size, 0, none⟩ = some (.string ⟨X1.toArray⟩) ∧ W.cell? ⟨w4.heap.size, 1, none⟩ = some (.string ⟨X2.toArray⟩)) (first | assumption | exact hkS _ (hAlB _ D11 D11.size) | exact hkS _ (hAlB _ D12 D12.size)) (first
    | (go_at_call 10; refine (HW w6.drew B6.drew).mono ?_; rintro e w7 ⟨rfl, hw7⟩; have B7 := B6.drew.trans (hw7.mono B6.size); have D7 := D6.trans (hw7.mono D6.size); have k7 := hkS _ D7)
    | (go_at_call 29; refine (HP w7 B7).mono ?_; rintro e w8 ⟨rfl, hw8⟩; have B8 := B7.trans (hw8.mono B7.size); have D8 := D7.trans (hw8.mono D7.size); have k8 := hkS _ D8)
    | (go_at_call 18; refine (HV w8 B8).mono ?_; rintro e w9 ⟨rfl, hw9⟩; have B9 := B8.trans (hw9.mono B8.size); have D9 := D8.trans (hw9.mono D8.size); have k9 := hkS _ D9)
    | (go_at_call 30; refine (HL1 w9 B9).mono ?_; clear HL1; rintro e w10 ⟨rfl, hw10⟩; have B10 := B9.trans (hw10.mono B9.size); have D10 := D9.trans (hw10.mono D9.size); have k10 := hkS _ D10)
    | (go_at_call 31; refine (HH1 w10).mono ?_; clear HH1; rintro e w11 ⟨rfl, hw11⟩; have B11 := B10.trans (hw11.mono B10.size); have D11 := D10.trans (hw11.mono D10.size); have k11 := hkS _ D11)
    | (go_at_call 32; first
      | (refine (HJ w11 B11).mono ?_; rintro e w12 ⟨rfl, hw12⟩; have B12 := B11.trans (hw12.mono B11.size); have D12 := D11.trans (hw12.mono D11.size); have k12 := hkS _ D12; have hX : XA (w12.alloc (.cells #[.string ⟨k.toArray⟩, .string ⟨v.toArray⟩] 9)) (some ⟨w12.heap.size, 0, none⟩) [k, v] := XA.blk2 (Blk.new w12 _ _); have B13 := hAlB (.cells #[.string ⟨k.toArray⟩, .string ⟨v.toArray⟩] 9) B12 B12.size; have D13 := hAlB (.cells #[.string ⟨k.toArray⟩, .string ⟨v.toArray⟩] 9) D12 D12.size)
      | (refine (HJ (w11.alloc (.cells #[.string ⟨k.toArray⟩, .string ⟨v.toArray⟩] 9)) (hAlB _ B11 B11.size)).mono ?_; rintro e w12 ⟨rfl, hw12⟩; have B12 := (hAlB (.cells #[.string ⟨k.toArray⟩, .string ⟨v.toArray⟩] 9) B11 B11.size).trans (hw12.mono (hAlB (.cells #[.string ⟨k.toArray⟩, .string ⟨v.toArray⟩] 9) B11 B11.size).size); have D12 := (hAlB (.cells #[.string ⟨k.toArray⟩, .string ⟨v.toArray⟩] 9) D11 D11.size).trans (hw12.mono (hAlB (.cells #[.string ⟨k.toArray⟩, .string ⟨v.toArray⟩] 9) D11 D11.size).size); have k12 := hkS _ D12; have hX : XA w12 (some ⟨w11.heap.size, 0, none⟩) [k, v] := XA.blk2 ((Blk.new w11 _ _).belowSize hw12); have B13 := B12; have D13 := D12))
    | (go_at_call 33; refine (hT _ _ hX).mono ?_; rintro e w14 ⟨rfl, hw14⟩; have B14 := B13.trans (hw14.mono B13.size); have D14 := D13.trans (hw14.mono D13.size); have k14 := hkS _ D14)
    | (go_at_call_of 20 (Value.string ⟨lp.toArray⟩); refine (F3 _).mono ?_; rintro e wf ⟨rfl, hwf⟩; have hwf := hwf.symm; subst hwf)
    | (go_at_call_of 20 (Value.string ⟨lv.toArray⟩); refine (F4 _).mono ?_; rintro e wf ⟨rfl, hwf⟩; have hwf := hwf.symm; subst hwf)
    | (go_at_call 30; refine (HL2 w14 B14).mono ?_; rintro e w15 ⟨rfl, hw15⟩; have B15 := B14.trans (hw15.mono B14.size); have D15 := D14.trans (hw15.mono D14.size); have k15 := hkS _ D15)
    | (go_at_call 31; refine (HH2 w15).mono ?_; rintro e w16 ⟨rfl, hw16⟩; have B16 := B15.trans (hw16.mono B15.size); have D16 := D15.trans (hw16.mono D15.size); have k16 := hkS _ D16))
  all_goals go_wp2_with fail
  all_goals go_ret
  all_goals exact ⟨rfl, B16⟩
end Go.Proofs.YtmeolaeoaoldoaaDoor.Sh
