/- What maps.Copy does to an empty map; what Clone does. -/
import Derived.Test.YtdikilhobmkpkaaGreatDoorStd
import Derived.Laws.IdiomRangeMap
namespace Go.Proofs.YtdikilhobmkpkaaGreatDoor
open Go Go.RowKit Go.Maps
theorem invK {key : Value} {kl : Lit} (hk : keyOf Tryz.prog 9 key = some kl) : ∃ x : List UInt8, key = encStr x := by
  obtain ⟨x, hx, _⟩ := Maps.keyOf_str Tryz.underlying9 hk
  exact ⟨x, hx⟩
theorem invV {v : Value} {y : DataW Unit × List MemPlace} (h : hld v = some y) : ∃ x : List UInt8, v = hv x := by
  obtain ⟨x, hx, _⟩ := hld_inv h
  exact ⟨x, hx⟩
set_option maxHeartbeats 1000000 in
set_option maxRecDepth 100000 in
theorem copy_any (bd bs : Nat) (m : List KV) (w : World) (hd : MB w bd []) (hs : MB w bs m) (hne : bd ≠ bs) (hm : m.length ≤ 100000) :
    Calls Tryz.prog 51 #[.map (some bd), .map (some bs)] w fun e w' => e = .returned (.tuple #[]) ∧ MB w' bd m ∧ w.grownBy w' (some bd) := by
  have hbd := hd.lt
  have hbs := hs.lt
  have hd' : w.ownsMap Tryz.prog 9 hld bd 0 (.map []) := hd
  have hs' : w.ownsMap Tryz.prog 9 hld bs m.length (dm m) := hs
  have hsz := dm_size m
  go_enter Tryz.func51, Tryz.ntmps51
  go_wp2_with (first
    | (at_range; refine wpList_range_own _ rfl _ 55 rfl 9 65 K9 Tryz.underlying55 hld bs m.length _ rfl hs' ?_; intro w0 hrg0 hg0 hs0))
  go_frame
  go_loopw [8] (fun _ wr => ∃ (left : Lit → Bool) (cnt : Nat) (Dout : DataW Unit), wr.ranges Tryz.prog 9 hld bs w.heap.size m.length (dm m) left cnt ∧ cnt ≤ m.length ∧ wr.ownsMap Tryz.prog 9 hld bd (m.length - cnt) Dout ∧ Maps.Agree Dout (dm m) left ∧ w.grownBy wr (some bd))
    (fun _ wr => wr.rangeLeft bs w.heap.size)
  case atStart =>
    exact ⟨_, _, .map [], hrg0, by rw [hsz]; exact Nat.le_refl _, (hd'.kept hg0 (by simp)).mono (by omega), Maps.agree_start (dm m), hg0.but _⟩
  case round =>
    obtain ⟨left, cnt, Dout, hrg, hcs, hout, hA, hgw⟩ := hrel
    go_wp2_with (first
      | (at_next; refine wpList_next_ranges _ rfl _ rfl 9 K9 hld encStr hv (fun key kl h => invK h) (fun v y h => invV h) bs w.heap.size m.length _ _ _ rfl hrg ?_ ?_))
    · intro hc0 hl0
      go_wp2
      go_end0
      have e := Maps.agree_end hA hl0 (hout.canon K9) (hs'.canon K9)
      exact ⟨rfl, MP.of hout e, hgw⟩
    · intro x c kl yd yp w1 cnt1 hkey hlx hv1 hat hrg1 hlt hg1 hs1 hen
      clear hs1
      have hm1 : cnt1 < cnt := hlt
      go_wp2_with (first
        | (at_mapUpdate; refine wpList_mapUpdate_own _ rfl _ _ _ 55 rfl 9 65 K9 Tryz.underlying55 hld bd _ _ rfl ((hout.kept hg1 (fun e => by have := Option.some.inj e; omega)).kept hg13 (by simp)) (by unfold maxLen; omega) _ _ _ rfl rfl hkey yd yp hv1 ?_; intro w4 hout4 hg4; go_frame)
        | (with_reducible refine at_list ?_; first
          | (refine wpList_allocRow (op := ⟨some 5, _, _, _, _, _⟩) rfl _ rfl _ zHeld.1 ?_; intro w2 hw2 hs2 hb2; replace hs2 := hs2.symm)
          | (refine wpList_storeHeld (op := ⟨none, _, _, _, _, _⟩) rfl _ _ rfl w1.heap.size rfl c rfl _ hb2 ?_; intro w3 hg3 hs3 hb3 c3; replace hs3 := hs3.symm; have hB3 : Below w1.heap.size w1 w3 := hw2.trans (below_of_grown hg3 (Nat.le_refl _) hw2.size); have hg13 : w1.grownBy w3 none := grown_of_below hB3)
          | (refine wpList_loadHeld (op := ⟨some 15, _, _, _, _, _⟩) rfl _ rfl w1.heap.size rfl c hb3 ?_)))
      have hrg4 := (hrg1.kept hg13 (by simp) (by simp)).kept hg4 (fun e => hne (Option.some.inj e).symm) (fun e => by have := Option.some.inj e; omega)
      go_roundw
      case rel =>
        exact ⟨_, cnt1, _, hrg4, by omega, hout4.mono (by omega), Maps.agree_step hA hout.isMap (K9.key hkey) hat, ((hgw.andThen hg1 (fun j hj => .inl (by cases hj; exact Nat.le_refl _))).andThen hg13 (fun j hj => by cases hj)).andThen hg4 (fun j hj => .inr hj)⟩
      case measure => rw [hrg4.left_eq, hrg.left_eq]; exact hlt
theorem newb_any (w : World) : Calls Tryz.prog 5 #[] w fun e w' => e = .returned (.pointer (some ⟨w.heap.size + 1, 0, none⟩)) ∧ Below w.heap.size w w' ∧ Blk w' (w.heap.size + 1) #[.map (some w.heap.size)] 57 ∧ MB w' w.heap.size [] := by
  have hmm := @run_makeMap Tryz.prog
  go_enter Tryz.func5, Tryz.ntmps5
  go_wp2
  go_ret
  refine ⟨rfl, ((Below.refl _ w).alloc (Nat.le_refl _) _).alloc (by simp) _, ?_, ?_⟩
  · have := Blk.new (w.alloc (.map #[] 0)) #[.map (some w.heap.size)] 57
    simpa using this
  · exact MP.of (World.ownsMap.alloc (World.ownsMap_made w Tryz.prog 9 hld) _) rfl
set_option maxRecDepth 100000 in
theorem clone_st (b : Nat) (m : List KV) (w : World) (h : ST w b m) (hm : m.length ≤ 100000) :
    Calls Tryz.prog 18 #[.pointer (some ⟨b, 0, none⟩)] w fun e w' => e = .returned (.pointer (some ⟨w.heap.size + 1, 0, none⟩)) ∧ Below w.heap.size w w' ∧ Blk w' (w.heap.size + 1) #[.map (some w.heap.size)] 57 ∧ MB w' w.heap.size m := by
  obtain ⟨mb, hB, hM⟩ := h.out
  have hbl := hB.lt
  have hml := hM.lt
  have HN := newb_any w
  have HC := fun w' (h1 : MB w' w.heap.size []) (h2 : MB w' mb m) => copy_any w.heap.size mb m w' h1 h2 (by omega) hm
  have cb : w.cell? ⟨b, 0, none⟩ = some (.map (some mb)) := hB.cell 0
  go_enter Tryz.func18, Tryz.ntmps18
  go_wp2_with (go_at_call 5; refine HN.mono ?_; rintro e w1 ⟨rfl, hw1, hb1, hm1⟩; have c1 : w1.cell? ⟨w.heap.size + 1, 0, none⟩ = some (.map (some w.heap.size)) := hb1.cell 0; have cb1 := (hw1.cell (p := ⟨b, 0, none⟩) hbl).trans cb)
  go_region_held3 (fun w' => w'.cell? ⟨b, 0, none⟩ = some (.map (some mb)) ∧ w'.cell? ⟨w.heap.size + 1, 0, none⟩ = some (.map (some w.heap.size))) ((go_split_ands; exact ⟨by assumption, by assumption⟩)) ((go_at_call 51; refine (HC _ hm1.drew (hM.below hw1).drew).mono ?_; rintro e w2 ⟨rfl, hm2, hg2⟩; have d0 : w2.cell? ⟨b, 0, none⟩ = some (.map (some mb)) := cell_gr (w := w1.drew) cb1 hg2 (by omega); have d1 : w2.cell? ⟨w.heap.size + 1, 0, none⟩ = some (.map (some w.heap.size)) := cell_gr (w := w1.drew) c1 hg2 (by omega)))
  go_wp2_with fail
  go_ret
  exact ⟨rfl, hw1.trans (below_of_grown (grown_trans (grown_drew _ _) hg2) (Nat.le_refl _) hw1.size), hb1.grown (grown_trans (grown_drew _ _) hg2) (fun e => by have := Option.some.inj e; omega), hm2⟩
theorem clone_nil (w : World) : Calls Tryz.prog 18 #[.pointer none] w fun e w' => e = .returned (.pointer none) ∧ w' = w := by
  go_enter Tryz.func18, Tryz.ntmps18
  go_wp2
  go_ret
  exact ⟨rfl, rfl⟩
end Go.Proofs.YtdikilhobmkpkaaGreatDoor
