/- What TakeEntry does, whatever the bytes. -/
import Derived.Test.YtnhlejdilldfaaaGreatTkm
import Derived.Test.YtnhlejdilldfaaaGreatWpe
import Derived.Test.YtnhlejdilldfaaaGreatRhd
namespace Go.Proofs.YtnhlejdilldfaaaGreat
open Go Go.RowKit Go.Maps
/-- A reader goes through an entry, plainly. -/
def R.entry (r : R) : R × LE :=
  let c := r.count 2147483647
  let o := c.1.bool
  if o.2 = true then ((tkM o.1).1, ⟨(c.2 : Nat), [], true, (tkM o.1).2⟩) else ((o.1.text 1048576).1, ⟨(c.2 : Nat), (o.1.text 1048576).2, false, []⟩)
def teOf (r : R) : LE := if r.entry.1.err = 0 then r.entry.2 else ⟨0, [], false, []⟩
theorem R.entry_s (r : R) : r.entry.1.s = r.s := by
  unfold R.entry
  dsimp only
  split
  · rw [tkM_s, R.bool_s, R.count_s]
  · rw [R.text_s, R.bool_s, R.count_s]
theorem R.ok_entry {r : R} (h : r.ok) : r.entry.1.ok := by
  unfold R.entry
  dsimp only
  split
  · exact tkM_ok (R.ok_bool (R.ok_count h _))
  · exact R.ok_text (R.ok_bool (R.ok_count h _)) _
/-- What TakeEntry leaves. -/
def TeP (b : Nat) (w : World) (q : R) (e : LE) (o : Ending) (w' : World) : Prop := ∃ a c, o = .returned (.agg (lec e (.slice a e.mem.length c))) ∧ IF (NewB w w') w' a e.mem ∧ To w w' b q
theorem VL.ifn {w w0 : World} {l : List Int} {sl : Value} {t : TypeId} (h : VL w t w0.heap.size sl (l.map fun x => .int .i64 x)) : ∃ a c, sl = .slice a l.length c ∧ IF (NewB w0 w) w a l := by
  rcases h with ⟨h1, rfl⟩ | ⟨g, cap, h1, rfl, h2⟩
  · obtain rfl : l = [] := by simpa using h1
    exact ⟨none, 0, rfl, IF.nil _ _ _⟩
  · refine ⟨some ⟨g, 0, none⟩, cap, by rw [List.length_map], fun i x hx => ⟨g, 0, rfl, ⟨h1, h2.lt⟩, ?_⟩⟩
    rw [Nat.zero_add]
    exact h2.cell i _ (by rw [List.getElem?_map, hx]; rfl)
theorem leI (t : Int) (s : ByteArray) (c : Bool) (v : Value) : (Tryz.prog.info? 29).map (·.size) = some (#[Value.int .i64 t, .string s, .bool c, v] : Array Value).size := by kernel_rfl
section
variable (b : Nat) (r : R) (w : World)
set_option maxRecDepth 100000 in
set_option maxHeartbeats 1000000 in
theorem te_c_y (h : RD w b r) (hk : r.ok) (hs : r.s.length ≤ 140737488355328) (hy : (r.count 2147483647).1.bool.2 = true) (he : (tkM (r.count 2147483647).1.bool.1).1.err = 0) : Calls Tryz.prog 48 #[.pointer (some ⟨b, 0, none⟩)] w (TeP b w (tkM (r.count 2147483647).1.bool.1).1 ⟨((r.count 2147483647).2 : Nat), [], true, (tkM (r.count 2147483647).1.bool.1).2⟩) := by
  have hbl := h.lt
  have H1 := fun W (h : RD W b r) => rdCount_any b r 2147483647 W h hk hs (by omega)
  have hk1 := R.ok_count hk 2147483647
  have hs1 := R.count_s r 2147483647
  generalize r.count 2147483647 = q0 at *
  obtain ⟨q1, n⟩ := q0
  dsimp only at *
  have H2 := fun W (h : RD W b q1) => bool_any b q1 W h hk1 (by rw [hs1]; exact hs)
  have hk2 := R.ok_bool hk1
  have hs2 := R.bool_s q1
  generalize q1.bool = q0 at *
  obtain ⟨q2, y⟩ := q0
  dsimp only at *
  subst hy
  have H3 := fun W (h : RD W b q2) => takeMem_any b q2 W h hk2 (by rw [hs2, hs1]; exact hs)
  generalize tkM q2 = q0 at *
  obtain ⟨q3, l⟩ := q0
  dsimp only at *
  have H4 := fun W (h : RD W b q3) => err_any b q3 W h
  have d1 : (q3.err != 0) = false := by rw [he]; rfl
  clear he hk hk1 hk2 hs hs1 hs2
  replace d1 : Hid (_ = _) := d1
  have hb1 := bl_al (Below.refl w.heap.size w) (.cells #[.int .i64 0, .string ⟨#[]⟩, .bool false, .slice none 0 0] 29)
  have hY1 := Blk.new w #[.int .i64 0, .string ⟨#[]⟩, .bool false, .slice none 0 0] 29
  have hs1 : (w.alloc (.cells #[.int .i64 0, .string ⟨#[]⟩, .bool false, .slice none 0 0] 29)).heap.size = w.heap.size + 1 := World.size_alloc _ _
  replace hs1 : Hid (_ = _) := hs1
  go_enter Tryz.func48, Tryz.ntmps48
  go_upto_region 1 with fail
  generalize w.alloc (.cells #[.int .i64 0, .string ⟨#[]⟩, .bool false, .slice none 0 0] 29) = w1 at *
  have hyb : Hid (w.heap.size ≠ b) := by show w.heap.size ≠ b; omega
  go_upto_region 2 with (first
    | (go_at_call 52; refine (H1 _ (h.below hb1)).mono ?_; rintro e w2 ⟨rfl, hT2⟩; clear H1)
    | (go_at_call 53; refine (H2 _ hT2.rd).mono ?_; rintro e w3 ⟨rfl, hT3⟩; clear H2))
  have hT3' := To.behind hb1 (hT2.trans hT3)
  have hY3 := (hY1.to hT2 hyb.out).to hT3 hyb.out
  have hX4 := Blk.new w3 #[.int .i64 n, .string ⟨#[]⟩, .bool true, .slice none 0 0] 29
  have hb4 := bl_al (Below.refl w3.heap.size w3) (.cells #[.int .i64 n, .string ⟨#[]⟩, .bool true, .slice none 0 0] 29)
  have hsz3 := hY3.lt
  have hb3lt : b < w3.heap.size := by have := hT3'.grown.size; omega
  clear hT2 hT3
  generalize hw4 : w3.alloc (.cells #[.int .i64 n, .string ⟨#[]⟩, .bool true, .slice none 0 0] 29) = w4 at *
  have hT4 := hT3'.low (hb4.mono hT3'.grown.size) (hT3'.rd.below hb4)
  have hY4 := hY3.belowSize hb4
  have hne : Hid (w3.heap.size ≠ w.heap.size) := by show w3.heap.size ≠ w.heap.size; omega
  have hnb : Hid (w3.heap.size ≠ b) := by show w3.heap.size ≠ b; omega
  have hs4 : w4.heap.size = w3.heap.size + 1 := by rw [← hw4]; exact World.size_alloc _ _
  replace hs4 : Hid (_ = _) := hs4
  clear hw4
  have e2 := hX4.cell 2
  go_upto_region 5 with (go_at_call 55; refine (H3 _ hT4.rd).mono ?_; rintro e w5 hM; obtain ⟨sl, rfl, hV, hT5⟩ := hM; obtain ⟨a4, c4, rfl, hI5⟩ := hV.ifn; clear H3; have hX5 := hX4.to hT5 hnb.out; have hY5 := hY4.to hT5 hyb.out; have e3 := hX5.cell 3; have f3 := hX5.frozen 3)
  have hX6 := hX5.setCell 3 (.slice a4 l.length c4)
  have hY6 := hY5.setCell_other ⟨w3.heap.size, 3, none⟩ hne.out.symm (.slice a4 l.length c4)
  have hT6 := (hT4.trans hT5).write (grown_setCell w3.heap.size (.slice a4 l.length c4) 3 w5) hbl (by have := hT3'.grown.size; omega)
  have hI6 : IF (NewB w4 w5) (w5.setCell ⟨w3.heap.size, 3, none⟩ (.slice a4 l.length c4)) a4 l := hI5.kept (fun q hq => Below.heap_setCell _ _ _ _ (fun e => by have e : q = w3.heap.size := e; have := hq.1; have := hs4.out; omega)) (fun _ h => h)
  have hs6 : (w5.setCell ⟨w3.heap.size, 3, none⟩ (.slice a4 l.length c4)).heap.size = w5.heap.size := by simp
  replace hs6 : Hid (_ = _) := hs6
  clear e2 e3 f3 hV hX5 hY5
  generalize w5.setCell ⟨w3.heap.size, 3, none⟩ (.slice a4 l.length c4) = w6 at *
  have e0 := hX6.cell 0; have e1 := hX6.cell 1; have e2 := hX6.cell 2; have e3 := hX6.cell 3
  have d1 := d1.out
  go_wp2_with (first
    | (go_at_call 15; refine (H4 _ hT6.rd).mono ?_; rintro e w7 ⟨rfl, hw7⟩; replace hw7 := hw7.symm; subst hw7)
    | (with_reducible refine at_list ?_; refine wpList_storeRow (op := ⟨none, .store 29 (.tmp 2) (.tmp 21), _, _, _, _⟩) rfl _ _ _ rfl w.heap.size #[.int .i64 n, .string ⟨#[]⟩, .bool true, .slice a4 l.length c4] rfl rfl _ _ hY6 (lecS ..) (leI ..) (lecO ..) ?_; intro w7 hg7 hs7 h7b))
  refine bodyPost_ret (v := .agg #[.int .i64 n, .string ⟨#[]⟩, .bool true, .slice a4 l.length c4]) ?_ rfl ⟨a4, c4, rfl, ?_, hT6.write hg7 hbl (Nat.le_refl _)⟩
  · exact results_cell_row rfl _ _ w.heap.size _ _ _ _ rfl h7b.out Tryz.underlying29 rfl (leI ..)
  · have k1 := hs4.out
    have k2 := hs6.out
    have k3 := hT5.grown.size
    exact hI6.kept (fun q hq => hg7.block q (by have := hq.2; omega) (fun e => by have := Option.some.inj e; have := hq.1; omega)) (fun q hq => ⟨by have := hq.1; have := hT3'.grown.size; omega, by have := hq.2; omega⟩)
set_option maxRecDepth 100000 in
set_option maxHeartbeats 1000000 in
theorem te_c_n (h : RD w b r) (hk : r.ok) (hs : r.s.length ≤ 140737488355328) (hy : (r.count 2147483647).1.bool.2 = true) (he : (tkM (r.count 2147483647).1.bool.1).1.err ≠ 0) : Calls Tryz.prog 48 #[.pointer (some ⟨b, 0, none⟩)] w (TeP b w (tkM (r.count 2147483647).1.bool.1).1 ⟨0, [], false, []⟩) := by
  have hbl := h.lt
  have H1 := fun W (h : RD W b r) => rdCount_any b r 2147483647 W h hk hs (by omega)
  have hk1 := R.ok_count hk 2147483647
  have hs1 := R.count_s r 2147483647
  generalize r.count 2147483647 = q0 at *
  obtain ⟨q1, n⟩ := q0
  dsimp only at *
  have H2 := fun W (h : RD W b q1) => bool_any b q1 W h hk1 (by rw [hs1]; exact hs)
  have hk2 := R.ok_bool hk1
  have hs2 := R.bool_s q1
  generalize q1.bool = q0 at *
  obtain ⟨q2, y⟩ := q0
  dsimp only at *
  subst hy
  have H3 := fun W (h : RD W b q2) => takeMem_any b q2 W h hk2 (by rw [hs2, hs1]; exact hs)
  generalize tkM q2 = q0 at *
  obtain ⟨q3, l⟩ := q0
  dsimp only at *
  have H4 := fun W (h : RD W b q3) => err_any b q3 W h
  have d1 : (q3.err != 0) = true := bne_iff_ne.2 he
  clear he hk hk1 hk2 hs hs1 hs2
  replace d1 : Hid (_ = _) := d1
  have hb1 := bl_al (Below.refl w.heap.size w) (.cells #[.int .i64 0, .string ⟨#[]⟩, .bool false, .slice none 0 0] 29)
  have hY1 := Blk.new w #[.int .i64 0, .string ⟨#[]⟩, .bool false, .slice none 0 0] 29
  have hs1 : (w.alloc (.cells #[.int .i64 0, .string ⟨#[]⟩, .bool false, .slice none 0 0] 29)).heap.size = w.heap.size + 1 := World.size_alloc _ _
  replace hs1 : Hid (_ = _) := hs1
  go_enter Tryz.func48, Tryz.ntmps48
  go_upto_region 1 with fail
  generalize w.alloc (.cells #[.int .i64 0, .string ⟨#[]⟩, .bool false, .slice none 0 0] 29) = w1 at *
  have hyb : Hid (w.heap.size ≠ b) := by show w.heap.size ≠ b; omega
  go_upto_region 2 with (first
    | (go_at_call 52; refine (H1 _ (h.below hb1)).mono ?_; rintro e w2 ⟨rfl, hT2⟩; clear H1)
    | (go_at_call 53; refine (H2 _ hT2.rd).mono ?_; rintro e w3 ⟨rfl, hT3⟩; clear H2))
  have hT3' := To.behind hb1 (hT2.trans hT3)
  have hY3 := (hY1.to hT2 hyb.out).to hT3 hyb.out
  have hX4 := Blk.new w3 #[.int .i64 n, .string ⟨#[]⟩, .bool true, .slice none 0 0] 29
  have hb4 := bl_al (Below.refl w3.heap.size w3) (.cells #[.int .i64 n, .string ⟨#[]⟩, .bool true, .slice none 0 0] 29)
  have hsz3 := hY3.lt
  have hb3lt : b < w3.heap.size := by have := hT3'.grown.size; omega
  clear hT2 hT3
  generalize hw4 : w3.alloc (.cells #[.int .i64 n, .string ⟨#[]⟩, .bool true, .slice none 0 0] 29) = w4 at *
  have hT4 := hT3'.low (hb4.mono hT3'.grown.size) (hT3'.rd.below hb4)
  have hY4 := hY3.belowSize hb4
  have hne : Hid (w3.heap.size ≠ w.heap.size) := by show w3.heap.size ≠ w.heap.size; omega
  have hnb : Hid (w3.heap.size ≠ b) := by show w3.heap.size ≠ b; omega
  have hs4 : w4.heap.size = w3.heap.size + 1 := by rw [← hw4]; exact World.size_alloc _ _
  replace hs4 : Hid (_ = _) := hs4
  clear hw4
  have e2 := hX4.cell 2
  go_upto_region 5 with (go_at_call 55; refine (H3 _ hT4.rd).mono ?_; rintro e w5 hM; obtain ⟨sl, rfl, hV, hT5⟩ := hM; obtain ⟨a4, c4, rfl, hI5⟩ := hV.ifn; clear H3; have hX5 := hX4.to hT5 hnb.out; have hY5 := hY4.to hT5 hyb.out; have e3 := hX5.cell 3; have f3 := hX5.frozen 3)
  have hX6 := hX5.setCell 3 (.slice a4 l.length c4)
  have hY6 := hY5.setCell_other ⟨w3.heap.size, 3, none⟩ hne.out.symm (.slice a4 l.length c4)
  have hT6 := (hT4.trans hT5).write (grown_setCell w3.heap.size (.slice a4 l.length c4) 3 w5) hbl (by have := hT3'.grown.size; omega)
  have hI6 : IF (NewB w4 w5) (w5.setCell ⟨w3.heap.size, 3, none⟩ (.slice a4 l.length c4)) a4 l := hI5.kept (fun q hq => Below.heap_setCell _ _ _ _ (fun e => by have e : q = w3.heap.size := e; have := hq.1; have := hs4.out; omega)) (fun _ h => h)
  have hs6 : (w5.setCell ⟨w3.heap.size, 3, none⟩ (.slice a4 l.length c4)).heap.size = w5.heap.size := by simp
  replace hs6 : Hid (_ = _) := hs6
  clear e2 e3 f3 hV hX5 hY5
  generalize w5.setCell ⟨w3.heap.size, 3, none⟩ (.slice a4 l.length c4) = w6 at *
  have e0 := hX6.cell 0; have e1 := hX6.cell 1; have e2 := hX6.cell 2; have e3 := hX6.cell 3
  have d1 := d1.out
  go_wp2_with (first
    | (go_at_call 15; refine (H4 _ hT6.rd).mono ?_; rintro e w7 ⟨rfl, hw7⟩; replace hw7 := hw7.symm; subst hw7)
    | (with_reducible refine at_list ?_; refine wpList_storeRow (op := ⟨none, .store 29 (.tmp 2) (.tmp 20), _, _, _, _⟩) rfl _ _ _ rfl w.heap.size #[.int .i64 0, .string ⟨#[]⟩, .bool false, .slice none 0 0] rfl rfl _ _ hY6 (lecS ..) (leI ..) (lecO ..) ?_; intro w7 hg7 hs7 h7b))
  refine bodyPost_ret (v := .agg #[.int .i64 0, .string ⟨#[]⟩, .bool false, .slice none 0 0]) ?_ rfl ⟨none, 0, rfl, ?_, hT6.write hg7 hbl (Nat.le_refl _)⟩
  · exact results_cell_row rfl _ _ w.heap.size _ _ _ _ rfl h7b.out Tryz.underlying29 rfl (leI ..)
  · exact IF.nil _ _ _
set_option maxRecDepth 100000 in
set_option maxHeartbeats 1000000 in
theorem te_t_y (h : RD w b r) (hk : r.ok) (hs : r.s.length ≤ 140737488355328) (hy : (r.count 2147483647).1.bool.2 = false) (he : ((r.count 2147483647).1.bool.1.text 1048576).1.err = 0) : Calls Tryz.prog 48 #[.pointer (some ⟨b, 0, none⟩)] w (TeP b w ((r.count 2147483647).1.bool.1.text 1048576).1 ⟨((r.count 2147483647).2 : Nat), ((r.count 2147483647).1.bool.1.text 1048576).2, false, []⟩) := by
  have hbl := h.lt
  have H1 := fun W (h : RD W b r) => rdCount_any b r 2147483647 W h hk hs (by omega)
  have hk1 := R.ok_count hk 2147483647
  have hs1 := R.count_s r 2147483647
  generalize r.count 2147483647 = q0 at *
  obtain ⟨q1, n⟩ := q0
  dsimp only at *
  have H2 := fun W (h : RD W b q1) => bool_any b q1 W h hk1 (by rw [hs1]; exact hs)
  have hk2 := R.ok_bool hk1
  have hs2 := R.bool_s q1
  generalize q1.bool = q0 at *
  obtain ⟨q2, y⟩ := q0
  dsimp only at *
  subst hy
  have H3 := fun W (h : RD W b q2) => text_any b q2 1048576 W h hk2 (by rw [hs2, hs1]; exact hs) (by omega)
  generalize q2.text 1048576 = q0 at *
  obtain ⟨q3, l⟩ := q0
  dsimp only at *
  have H4 := fun W (h : RD W b q3) => err_any b q3 W h
  have d1 : (q3.err != 0) = false := by rw [he]; rfl
  clear he hk hk1 hk2 hs hs1 hs2
  replace d1 : Hid (_ = _) := d1
  have hb1 := bl_al (Below.refl w.heap.size w) (.cells #[.int .i64 0, .string ⟨#[]⟩, .bool false, .slice none 0 0] 29)
  have hY1 := Blk.new w #[.int .i64 0, .string ⟨#[]⟩, .bool false, .slice none 0 0] 29
  have hs1 : (w.alloc (.cells #[.int .i64 0, .string ⟨#[]⟩, .bool false, .slice none 0 0] 29)).heap.size = w.heap.size + 1 := World.size_alloc _ _
  replace hs1 : Hid (_ = _) := hs1
  go_enter Tryz.func48, Tryz.ntmps48
  go_upto_region 1 with fail
  generalize w.alloc (.cells #[.int .i64 0, .string ⟨#[]⟩, .bool false, .slice none 0 0] 29) = w1 at *
  have hyb : Hid (w.heap.size ≠ b) := by show w.heap.size ≠ b; omega
  go_upto_region 2 with (first
    | (go_at_call 52; refine (H1 _ (h.below hb1)).mono ?_; rintro e w2 ⟨rfl, hT2⟩; clear H1)
    | (go_at_call 53; refine (H2 _ hT2.rd).mono ?_; rintro e w3 ⟨rfl, hT3⟩; clear H2))
  have hT3' := To.behind hb1 (hT2.trans hT3)
  have hY3 := (hY1.to hT2 hyb.out).to hT3 hyb.out
  have hX4 := Blk.new w3 #[.int .i64 n, .string ⟨#[]⟩, .bool false, .slice none 0 0] 29
  have hb4 := bl_al (Below.refl w3.heap.size w3) (.cells #[.int .i64 n, .string ⟨#[]⟩, .bool false, .slice none 0 0] 29)
  have hsz3 := hY3.lt
  have hb3lt : b < w3.heap.size := by have := hT3'.grown.size; omega
  clear hT2 hT3
  generalize hw4 : w3.alloc (.cells #[.int .i64 n, .string ⟨#[]⟩, .bool false, .slice none 0 0] 29) = w4 at *
  have hT4 := hT3'.low (hb4.mono hT3'.grown.size) (hT3'.rd.below hb4)
  have hY4 := hY3.belowSize hb4
  have hne : Hid (w3.heap.size ≠ w.heap.size) := by show w3.heap.size ≠ w.heap.size; omega
  have hnb : Hid (w3.heap.size ≠ b) := by show w3.heap.size ≠ b; omega
  have hs4 : w4.heap.size = w3.heap.size + 1 := by rw [← hw4]; exact World.size_alloc _ _
  replace hs4 : Hid (_ = _) := hs4
  clear hw4
  have e2 := hX4.cell 2
  go_upto_region 5 with (go_at_call 54; refine (H3 _ hT4.rd).mono ?_; rintro e w5 ⟨rfl, hT5⟩; clear H3; have hX5 := hX4.to hT5 hnb.out; have hY5 := hY4.to hT5 hyb.out; have e1 := hX5.cell 1; have f1 := hX5.frozen 1)
  have hX6 := hX5.setCell 1 (.string ⟨l.toArray⟩)
  have hY6 := hY5.setCell_other ⟨w3.heap.size, 1, none⟩ hne.out.symm (.string ⟨l.toArray⟩)
  have hT6 := (hT4.trans hT5).write (grown_setCell w3.heap.size (.string ⟨l.toArray⟩) 1 w5) hbl (by have := hT3'.grown.size; omega)
  clear e2 e1 f1 hX5 hY5
  generalize w5.setCell ⟨w3.heap.size, 1, none⟩ (.string ⟨l.toArray⟩) = w6 at *
  have e0 := hX6.cell 0; have e1 := hX6.cell 1; have e2 := hX6.cell 2; have e3 := hX6.cell 3
  have d1 := d1.out
  go_wp2_with (first
    | (go_at_call 15; refine (H4 _ hT6.rd).mono ?_; rintro e w7 ⟨rfl, hw7⟩; replace hw7 := hw7.symm; subst hw7)
    | (with_reducible refine at_list ?_; refine wpList_storeRow (op := ⟨none, .store 29 (.tmp 2) (.tmp 21), _, _, _, _⟩) rfl _ _ _ rfl w.heap.size #[.int .i64 n, .string ⟨l.toArray⟩, .bool false, .slice none 0 0] rfl rfl _ _ hY6 (lecS ..) (leI ..) (lecO ..) ?_; intro w7 hg7 hs7 h7b))
  refine bodyPost_ret (v := .agg #[.int .i64 n, .string ⟨l.toArray⟩, .bool false, .slice none 0 0]) ?_ rfl ⟨none, 0, rfl, ?_, hT6.write hg7 hbl (Nat.le_refl _)⟩
  · exact results_cell_row rfl _ _ w.heap.size _ _ _ _ rfl h7b.out Tryz.underlying29 rfl (leI ..)
  · exact IF.nil _ _ _
set_option maxRecDepth 100000 in
set_option maxHeartbeats 1000000 in
theorem te_t_n (h : RD w b r) (hk : r.ok) (hs : r.s.length ≤ 140737488355328) (hy : (r.count 2147483647).1.bool.2 = false) (he : ((r.count 2147483647).1.bool.1.text 1048576).1.err ≠ 0) : Calls Tryz.prog 48 #[.pointer (some ⟨b, 0, none⟩)] w (TeP b w ((r.count 2147483647).1.bool.1.text 1048576).1 ⟨0, [], false, []⟩) := by
  have hbl := h.lt
  have H1 := fun W (h : RD W b r) => rdCount_any b r 2147483647 W h hk hs (by omega)
  have hk1 := R.ok_count hk 2147483647
  have hs1 := R.count_s r 2147483647
  generalize r.count 2147483647 = q0 at *
  obtain ⟨q1, n⟩ := q0
  dsimp only at *
  have H2 := fun W (h : RD W b q1) => bool_any b q1 W h hk1 (by rw [hs1]; exact hs)
  have hk2 := R.ok_bool hk1
  have hs2 := R.bool_s q1
  generalize q1.bool = q0 at *
  obtain ⟨q2, y⟩ := q0
  dsimp only at *
  subst hy
  have H3 := fun W (h : RD W b q2) => text_any b q2 1048576 W h hk2 (by rw [hs2, hs1]; exact hs) (by omega)
  generalize q2.text 1048576 = q0 at *
  obtain ⟨q3, l⟩ := q0
  dsimp only at *
  have H4 := fun W (h : RD W b q3) => err_any b q3 W h
  have d1 : (q3.err != 0) = true := bne_iff_ne.2 he
  clear he hk hk1 hk2 hs hs1 hs2
  replace d1 : Hid (_ = _) := d1
  have hb1 := bl_al (Below.refl w.heap.size w) (.cells #[.int .i64 0, .string ⟨#[]⟩, .bool false, .slice none 0 0] 29)
  have hY1 := Blk.new w #[.int .i64 0, .string ⟨#[]⟩, .bool false, .slice none 0 0] 29
  have hs1 : (w.alloc (.cells #[.int .i64 0, .string ⟨#[]⟩, .bool false, .slice none 0 0] 29)).heap.size = w.heap.size + 1 := World.size_alloc _ _
  replace hs1 : Hid (_ = _) := hs1
  go_enter Tryz.func48, Tryz.ntmps48
  go_upto_region 1 with fail
  generalize w.alloc (.cells #[.int .i64 0, .string ⟨#[]⟩, .bool false, .slice none 0 0] 29) = w1 at *
  have hyb : Hid (w.heap.size ≠ b) := by show w.heap.size ≠ b; omega
  go_upto_region 2 with (first
    | (go_at_call 52; refine (H1 _ (h.below hb1)).mono ?_; rintro e w2 ⟨rfl, hT2⟩; clear H1)
    | (go_at_call 53; refine (H2 _ hT2.rd).mono ?_; rintro e w3 ⟨rfl, hT3⟩; clear H2))
  have hT3' := To.behind hb1 (hT2.trans hT3)
  have hY3 := (hY1.to hT2 hyb.out).to hT3 hyb.out
  have hX4 := Blk.new w3 #[.int .i64 n, .string ⟨#[]⟩, .bool false, .slice none 0 0] 29
  have hb4 := bl_al (Below.refl w3.heap.size w3) (.cells #[.int .i64 n, .string ⟨#[]⟩, .bool false, .slice none 0 0] 29)
  have hsz3 := hY3.lt
  have hb3lt : b < w3.heap.size := by have := hT3'.grown.size; omega
  clear hT2 hT3
  generalize hw4 : w3.alloc (.cells #[.int .i64 n, .string ⟨#[]⟩, .bool false, .slice none 0 0] 29) = w4 at *
  have hT4 := hT3'.low (hb4.mono hT3'.grown.size) (hT3'.rd.below hb4)
  have hY4 := hY3.belowSize hb4
  have hne : Hid (w3.heap.size ≠ w.heap.size) := by show w3.heap.size ≠ w.heap.size; omega
  have hnb : Hid (w3.heap.size ≠ b) := by show w3.heap.size ≠ b; omega
  have hs4 : w4.heap.size = w3.heap.size + 1 := by rw [← hw4]; exact World.size_alloc _ _
  replace hs4 : Hid (_ = _) := hs4
  clear hw4
  have e2 := hX4.cell 2
  go_upto_region 5 with (go_at_call 54; refine (H3 _ hT4.rd).mono ?_; rintro e w5 ⟨rfl, hT5⟩; clear H3; have hX5 := hX4.to hT5 hnb.out; have hY5 := hY4.to hT5 hyb.out; have e1 := hX5.cell 1; have f1 := hX5.frozen 1)
  have hX6 := hX5.setCell 1 (.string ⟨l.toArray⟩)
  have hY6 := hY5.setCell_other ⟨w3.heap.size, 1, none⟩ hne.out.symm (.string ⟨l.toArray⟩)
  have hT6 := (hT4.trans hT5).write (grown_setCell w3.heap.size (.string ⟨l.toArray⟩) 1 w5) hbl (by have := hT3'.grown.size; omega)
  clear e2 e1 f1 hX5 hY5
  generalize w5.setCell ⟨w3.heap.size, 1, none⟩ (.string ⟨l.toArray⟩) = w6 at *
  have e0 := hX6.cell 0; have e1 := hX6.cell 1; have e2 := hX6.cell 2; have e3 := hX6.cell 3
  have d1 := d1.out
  go_wp2_with (first
    | (go_at_call 15; refine (H4 _ hT6.rd).mono ?_; rintro e w7 ⟨rfl, hw7⟩; replace hw7 := hw7.symm; subst hw7)
    | (with_reducible refine at_list ?_; refine wpList_storeRow (op := ⟨none, .store 29 (.tmp 2) (.tmp 20), _, _, _, _⟩) rfl _ _ _ rfl w.heap.size #[.int .i64 0, .string ⟨#[]⟩, .bool false, .slice none 0 0] rfl rfl _ _ hY6 (lecS ..) (leI ..) (lecO ..) ?_; intro w7 hg7 hs7 h7b))
  refine bodyPost_ret (v := .agg #[.int .i64 0, .string ⟨#[]⟩, .bool false, .slice none 0 0]) ?_ rfl ⟨none, 0, rfl, ?_, hT6.write hg7 hbl (Nat.le_refl _)⟩
  · exact results_cell_row rfl _ _ w.heap.size _ _ _ _ rfl h7b.out Tryz.underlying29 rfl (leI ..)
  · exact IF.nil _ _ _
theorem takeEntry_any (h : RD w b r) (hk : r.ok) (hs : r.s.length ≤ 140737488355328) : Calls Tryz.prog 48 #[.pointer (some ⟨b, 0, none⟩)] w (TeP b w r.entry.1 (teOf r)) := by
  by_cases hy : (r.count 2147483647).1.bool.2 = true
  · have e : r.entry = ((tkM (r.count 2147483647).1.bool.1).1, ⟨((r.count 2147483647).2 : Nat), [], true, (tkM (r.count 2147483647).1.bool.1).2⟩) := by unfold R.entry; exact if_pos hy
    unfold teOf
    rw [e]
    dsimp only
    by_cases he : (tkM (r.count 2147483647).1.bool.1).1.err = 0
    · rw [if_pos he]; exact te_c_y b r w h hk hs hy he
    · rw [if_neg he]; exact te_c_n b r w h hk hs hy he
  · have e : r.entry = (((r.count 2147483647).1.bool.1.text 1048576).1, ⟨((r.count 2147483647).2 : Nat), ((r.count 2147483647).1.bool.1.text 1048576).2, false, []⟩) := by unfold R.entry; exact if_neg hy
    have hy : (r.count 2147483647).1.bool.2 = false := by simpa using hy
    unfold teOf
    rw [e]
    dsimp only
    by_cases he : ((r.count 2147483647).1.bool.1.text 1048576).1.err = 0
    · rw [if_pos he]; exact te_t_y b r w h hk hs hy he
    · rw [if_neg he]; exact te_t_n b r w h hk hs hy he
end
end Go.Proofs.YtnhlejdilldfaaaGreat
