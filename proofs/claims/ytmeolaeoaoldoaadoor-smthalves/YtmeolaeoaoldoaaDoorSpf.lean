/- A tree in memory: Prove, Clone. -/
import Derived.Test.YtmeolaeoaoldoaaDoorStt
import Derived.Test.YtmeolaeoaoldoaaDoorSvf
namespace Go.Proofs.YtmeolaeoaoldoaaDoor.Sh
open Go Go.RowKit Go.Shelf
theorem XA.own {w w' : World} {a : Option Addr} {l : List (List UInt8)} {b : Nat} (h : XA w a l) (hg : w.grownBy w' (some b)) (hb : ∀ g o, a = some ⟨g, o, none⟩ → g ≠ b) : XA w' a l := fun i hi => by
  obtain ⟨g, o, ha, hc⟩ := h i hi
  have hl := World.block_lt_of_cell? _ _ hc
  refine ⟨g, o, ha, ?_⟩
  have e := hg.block g hl (fun e => hb g o ha (Option.some.inj e))
  simp only [World.cell?] at hc ⊢
  rw [e]
  exact hc
theorem zPf : (∀ w, (zeroValue 50).run Tryd.prog w = .ok (.agg #[.slice none 0 0, .bool false, .string ⟨#[]⟩, .string ⟨#[]⟩]) w) ∧ (Tryd.prog.info? 50).map (·.size) = some 4 := zero_of_info (by kernel_rfl)
set_option maxRecDepth 100000 in
set_option maxHeartbeats 4000000 in
theorem tprove_any (b : Nat) (q : Option Addr) (t : Tr) (k : List UInt8) (w : World) (hG : Glob w) (hb : Blk w b #[.pointer q] 75) (h : HF w t q) (hc : Tr.Canon 0 t) (hn : t.cnt ≤ 1000) (hk : k.length ≤ 1000) :
    Calls Tryd.prog 21 #[.pointer (some ⟨b, 0, none⟩), .string ⟨k.toArray⟩] w fun e w' => ∃ a c p, e = .returned (.agg #[.slice a p.bs.length c, .bool p.has, .string ⟨p.lp.toArray⟩, .string ⟨p.lv.toArray⟩]) ∧ XA w' a p.bs ∧ PrfOf t k p ∧ Below w.heap.size w w' := by
  have HP := fun w1 (hG : Glob w1) => spath_any k w1 hG (by omega)
  have hp : (pathD7 k).length = 32 := TgD_len _ _
  have hpk : TgD 80 [k] = pathD7 k := rfl
  rw [hpk] at HP
  have hmk : ∀ {bs : List (List UInt8)} {u : Tr} {has : Bool} {lp lv : List UInt8}, FE t (pathD7 k) u bs → (u.leaves = [] → has = false) → (∀ x, u.leaves = [x] → has = true ∧ lp = x.1 ∧ lv = x.2) → lp.length ≤ 32 → lv.length ≤ 32 → PrfOf t k ⟨bs, has, lp, lv⟩ := fun hE h1 h2 h3 h4 => ⟨hE.bs, fun e => h1 (hE.lv.trans e), fun x e => h2 x (hE.lv.trans e), h3, h4⟩
  generalize pathD7 k = p at *
  have H1 := fun w1 (hw : Below w.heap.size w w1) => top_any b q w1 (hb.belowSize hw)
  have H2 := fun w1 (hw : Below w.heap.size w w1) => find_any t q p w1 (h.below hw) hc hp (by omega)
  go_enter Tryd.func21, Tryd.ntmps21
  go_upto_region 2 with (first
    | (go_at_call 38; refine (H1 _ hw0).mono ?_; rintro e w2 ⟨rfl, hw2⟩; have hw2 := hw2.symm; subst hw2)
    | (go_at_call 29; refine (HP _ (hG.belowSize hw0)).mono ?_; rintro e w1 ⟨rfl, hw1⟩; have hB1 := hw0.trans (hw1.mono hw0.size))
    | (go_at_call 44; refine (H2 _ hB1).mono ?_; rintro e w3 ⟨a3, c3, bs, u, qu, rfl, hX, hXg, hu, hu1, hE, hw3⟩; have hB3 := hB1.trans (hw3.mono hB1.size); have hu3 := hu.below hw3; have hz3 := (hz0.belowSize hw1).belowSize hw3)
    | (with_reducible refine at_list ?_; refine wpList_allocRow (op := ⟨some 4, _, _, _, _, _⟩) rfl _ rfl _ zPf.1 ?_; intro w0 hw0 hs0 hz0; replace hs0 := hs0.symm))
  have hl := hE.lone
  cases u with
  | nd l r => cases hl
  | emp =>
    obtain rfl : qu = none := hu3
    go_wp2_with (with_reducible refine at_list ?_; refine wpList_storeRow (op := ⟨none, .store 50 (.tmp 4) (.tmp 18), _, _, _, _⟩) rfl _ _ _ rfl w.heap.size #[.slice a3 bs.length c3, .bool false, .string ⟨#[]⟩, .string ⟨#[]⟩] rfl rfl _ _ hz3 (by simp) (by simpa using zPf.2) (by simp [Value.oneCell']) ?_; intro w6 hg6 hs6 hz6)
    have HB := hB3.trans (below_of_grown hg6 (Nat.le_refl _) hB3.size)
    have hX6 := hX.own hg6 (fun g o e => by have := hXg g o e; have := hw1.size; omega)
    refine bodyPost_ret (v := .agg #[.slice a3 bs.length c3, .bool false, .string ⟨#[]⟩, .string ⟨#[]⟩]) ?_ rfl ⟨a3, c3, ⟨bs, false, [], []⟩, rfl, hX6, hmk hE (fun _ => rfl) (fun x e => nomatch e) (Nat.zero_le _) (Nat.zero_le _), HB⟩
    exact results_cell_row rfl _ _ w.heap.size _ _ _ _ rfl hz6.out Tryd.underlying50 rfl (by exact zPf.2)
  | lf x =>
    obtain ⟨bu, rfl, hbu, hx1, hx2⟩ := hu3
    obtain ⟨_, _, d2, d3, _⟩ := half_cells hbu
    go_wp2_with (with_reducible refine at_list ?_; refine wpList_storeRow (op := ⟨none, .store 50 (.tmp 4) (.tmp 24), _, _, _, _⟩) rfl _ _ _ rfl w.heap.size #[.slice a3 bs.length c3, .bool true, .string ⟨x.1.toArray⟩, .string ⟨x.2.toArray⟩] rfl rfl _ _ hz3 (by simp) (by simpa using zPf.2) (by simp [Value.oneCell']) ?_; intro w6 hg6 hs6 hz6)
    have HB := hB3.trans (below_of_grown hg6 (Nat.le_refl _) hB3.size)
    have hX6 := hX.own hg6 (fun g o e => by have := hXg g o e; have := hw1.size; omega)
    refine bodyPost_ret (v := .agg #[.slice a3 bs.length c3, .bool true, .string ⟨x.1.toArray⟩, .string ⟨x.2.toArray⟩]) ?_ rfl ⟨a3, c3, ⟨bs, true, x.1, x.2⟩, rfl, hX6, hmk hE (fun e => nomatch e) (fun y e => by cases e; exact ⟨rfl, rfl, rfl⟩) (by omega) (by omega), HB⟩
    exact results_cell_row rfl _ _ w.heap.size _ _ _ _ rfl hz6.out Tryd.underlying50 rfl (by exact zPf.2)
set_option maxRecDepth 100000 in
theorem tclone_any (b : Nat) (q : Option Addr) (w : World) (hb : Blk w b #[.pointer q] 75) : Calls Tryd.prog 25 #[.pointer (some ⟨b, 0, none⟩)] w fun e w' => e = .returned (.pointer (some ⟨w.heap.size, 0, none⟩)) ∧ Blk w' w.heap.size #[.pointer q] 75 ∧ Below w.heap.size w w' := by
  have hc := blk1c hb
  go_enter Tryd.func25, Tryd.ntmps25
  go_wp2_with fail
  go_ret
  exact ⟨rfl, Blk.new _ _ _, (Below.refl _ _).alloc (Nat.le_refl _) _⟩
end Go.Proofs.YtmeolaeoaoldoaaDoor.Sh
