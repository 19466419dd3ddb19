/- A leader puts an entry behind its log: add. -/
import Derived.Test.YtnhlejdilldfaaaGreatRad
namespace Go.Proofs.YtnhlejdilldfaaaGreat
open Go Go.RowKit Go.Maps
theorem follow_frame (N : RN) (ld : Int) : (N.follow N.k.term ld).k = N.k ∧ (N.follow N.k.term ld).me = N.me ∧ (N.follow N.k.term ld).next = N.next ∧ (N.follow N.k.term ld).had = N.had ∧ (N.follow N.k.term ld).ends = N.ends ∧ (N.follow N.k.term ld).votes = N.votes ∧ (N.follow N.k.term ld).keys = N.keys ∧ (N.follow N.k.term ld).commit = N.commit := by
  unfold RN.follow
  rw [if_neg (show ¬ N.k.term > N.k.term by omega)]
  by_cases h : N.role = 1 ∧ ld = -1
  · rw [if_pos h]; exact ⟨rfl, rfl, rfl, rfl, rfl, rfl, rfl, rfl⟩
  · rw [if_neg h]; exact ⟨rfl, rfl, rfl, rfl, rfl, rfl, rfl, rfl⟩
/-- What settle leaves as it was. -/
theorem settle_frame (N : RN) : N.settle.k = N.k ∧ N.settle.me = N.me ∧ N.settle.next = N.next ∧ N.settle.had = N.had ∧ N.settle.ends = N.ends ∧ N.settle.votes = N.votes ∧ N.settle.keys = N.keys ∧ N.settle.commit = N.settleAt (N.mostHave - N.commit).toNat N.mostHave := by
  unfold RN.settle
  dsimp only
  split
  · exact follow_frame { N with commit := N.settleAt (N.mostHave - N.commit).toNat N.mostHave } (-1)
  · exact ⟨rfl, rfl, rfl, rfl, rfl, rfl, rfl, rfl⟩
theorem mems_k {N N' : RN} (h : N'.k = N.k) : N'.mems = N.mems := by unfold RN.mems; rw [h]
theorem last_k {N N' : RN} (h : N'.k = N.k) : N'.last = N.last := by unfold RN.last; rw [h]
theorem Gm.of_k {N N' : RN} (h : Gm N) (e : N'.k = N.k) : Gm N' := ⟨by rw [e]; exact h.base, by rw [e]; exact h.log⟩
theorem Bnd.of_k {N N' : RN} (h : Bnd N) (h1 : N'.me = N.me) (h2 : N'.k = N.k) (h8 : N'.keys = N.keys) (h9 : N.k.bi ≤ N'.commit ∧ N'.commit ≤ N.last) (h10 : N'.next = N.next) (h11 : N'.had = N.had) (h12 : N'.ends = N.ends) : Bnd N' :=
  h.upd h1 (by rw [h2]; exact h.term) (by rw [h2]) (by rw [h2]) (by rw [h2]) (by rw [h2]) (by rw [h2]) h8 (by rw [h2, last_k h2]; exact h9) h10 h11 h12
theorem Bnd.settle {N : RN} (h : Bnd N) (hl : Ldr N) : Bnd N.settle := by
  obtain ⟨h1, h2, h3, h4, h5, h6, h7, h8⟩ := settle_frame N
  refine h.of_k h2 h1 h7 ?_ h3 h4 h5
  rw [h8]
  have hs := settleAt_bnd N (N.mostHave - N.commit).toNat N.mostHave
  have hm := mostHave_bnd h hl
  have hc := h.commit
  omega
theorem Bnd.meet {N : RN} (h : Bnd N) : Bnd N.meet := by
  rw [← meet_eq N]
  exact (h.met N.mems 16).mt2 N.mems N.mems.length
theorem ents_app {F : Nat → Prop} {w : World} {l : List LE} {ls : List (List Value)} {e : LE} {c : List Value} (hll : ls.length = l.length) (h1 : ∀ i (h : i < l.length), ∃ ma mc, ls[i]? = some (lec l[i] (.slice ma l[i].mem.length mc)).toList ∧ IF F w ma l[i].mem ∧ l[i].mem.length ≤ 17592186044416) (h2 : ∃ ma mc, c = (lec e (.slice ma e.mem.length mc)).toList ∧ IF F w ma e.mem ∧ e.mem.length ≤ 17592186044416) :
    ∀ i (h : i < (l ++ [e]).length), ∃ ma mc, (ls ++ [c])[i]? = some (lec (l ++ [e])[i] (.slice ma (l ++ [e])[i].mem.length mc)).toList ∧ IF F w ma (l ++ [e])[i].mem ∧ (l ++ [e])[i].mem.length ≤ 17592186044416 := fun i hi => by
  by_cases hil : i < l.length
  · have he : (l ++ [e])[i] = l[i] := List.getElem_append_left hil
    rw [he, List.getElem?_append_left (by omega)]
    exact h1 i hil
  · rw [List.length_append, List.length_singleton] at hi
    obtain rfl : i = l.length := by omega
    have he : (l ++ [e])[l.length]'(by simp) = e := by rw [List.getElem_append_right (Nat.le_refl _)]; simp
    obtain ⟨ma, mc, rfl, h3⟩ := h2
    rw [he, List.getElem?_append_right (by omega), hll, Nat.sub_self]
    exact ⟨ma, mc, rfl, h3⟩
/-- The log has grown. -/
theorem push_nd {nb : Nat} {M : NM} {F : Nat → Prop} {lb : Option Nat} {w w3 w4 : World} {N : RN} (h : ND F nb M lb w N) {e : LE} {ma : Option Addr} {mc : Nat} (hI : IF F w ma e.mem) (hml : e.mem.length ≤ 17592186044416) {ba : Option Addr} {ca : Nat} {lv : Value} {da : Option Addr} {dc : Nat} {ls : List (List Value)}
    (k1 : Blk w nb (ncells M N ba ca lv da dc) 109) (k2 : slBlk lv = lb) (k3 : IF F w ba N.k.bconf) (k5 : IF F w da N.draws) (k6 : N.draws.length ≤ dc) (hll : ls.length = N.k.log.length) (hls : ∀ i (h : i < N.k.log.length), ∃ ma mc, ls[i]? = some (lec N.k.log[i] (.slice ma N.k.log[i].mem.length mc)).toList ∧ IF F w ma N.k.log[i].mem ∧ N.k.log[i].mem.length ≤ 17592186044416)
    (hw3 : Below w.heap.size w w3) {lv4 : Value} (hg4 : w3.grownBy w4 (slBlk lv)) (hG4 : GL w4 29 4 0 lv4 (ls ++ [[.int .i64 e.term, .string ⟨e.s.toArray⟩, .bool e.conf, .slice ma e.mem.length mc]])) (hn4 : ∀ r, slBlk lv4 = some r → slBlk lv = some r ∨ w3.heap.size ≤ r) :
    Stp nb M F F lb (slBlk lv4) w (w4.setCell ⟨nb, 7, none⟩ lv4) ∧ ND F nb M (slBlk lv4) (w4.setCell ⟨nb, 7, none⟩ lv4) (N.push e) := by
  have hne := h.ne
  have hg7 := grown_setCell nb lv4 7 w4
  have hkeep : ∀ k, k < w.heap.size → k ≠ nb → lb ≠ some k → (w4.setCell ⟨nb, 7, none⟩ lv4).heap[k]? = w.heap[k]? := fun k hk h1 h2 => (hg7.block k (Nat.lt_of_lt_of_le hk (Nat.le_trans hw3.size hg4.size)) (fun e => h1 (Option.some.inj e))).trans ((hg4.block k (Nat.lt_of_lt_of_le hk hw3.size) (fun e => h2 (k2.symm.trans e.symm))).trans (hw3.block k hk))
  have hF : ∀ k, F k → (w4.setCell ⟨nb, 7, none⟩ lv4).heap[k]? = w.heap[k]? := fun k hk => hkeep k (h.flt k hk) (fun e => h.off k hk (.inl e)) (fun e => h.off k hk (.inr (.inr (.inr (.inr (.inr e))))))
  have hnew : ∀ k, slBlk lv4 = some k → lb = some k ∨ w.heap.size ≤ k := fun k e => (hn4 k e).imp (fun e => k2.symm.trans e) (fun e => Nat.le_trans hw3.size e)
  have hnb4 : ∀ r, slBlk lv4 = some r → some r ≠ some nb := fun r e e2 => by
    have e2 := Option.some.inj e2
    subst e2
    rcases hnew r e with e | e
    · exact (hne.2.2.2.2 r e).1 rfl
    · have := k1.lt; omega
  have hnb3 : w4.heap[nb]? = w.heap[nb]? := (hg4.block nb (Nat.lt_of_lt_of_le k1.lt hw3.size) (fun e => (hne.2.2.2.2 nb (k2.symm.trans e.symm)).1 rfl)).trans (hw3.block nb k1.lt)
  have hsz := Nat.le_trans hw3.size (Nat.le_trans hg4.size hg7.size)
  refine ⟨⟨hg7.os.trans (hg4.os.trans hw3.os), hg7.tape.trans (hg4.tape.trans hw3.tape), hg7.output.trans (hg4.output.trans hw3.output), hsz, fun k hk ho => hkeep k hk (fun e => ho (.inl e)) (fun e => ho (.inr (.inr (.inr (.inr (.inr e)))))), hnew, fun _ h => h, fun _ h => .inl h⟩, ?_⟩
  refine h.relog hsz hkeep ⟨ba, ca, lv4, da, dc, (k1.of_eq hnb3).setCell 7 lv4, rfl, k3.kept hF (fun _ h => h), ⟨_, hG4.grown hg7 hnb4, ?_, ents_app hll (fun i hi => ?_) ⟨ma, mc, rfl, hI.kept hF (fun _ h => h), hml⟩⟩, k5.kept hF (fun _ h => h), k6⟩ hnew rfl rfl rfl rfl rfl
  · show (ls ++ [_]).length = (N.k.log ++ [e]).length
    rw [List.length_append, List.length_append, hll]; rfl
  · obtain ⟨a, c, m1, m2, m3⟩ := hls i hi
    exact ⟨a, c, m1, m2.kept hF (fun _ h => h), m3⟩
section
variable (F : Nat → Prop) (nb : Nat) (M : NM) (lb : Option Nat) (w : World) (N : RN)
set_option maxRecDepth 100000 in
set_option maxHeartbeats 1000000 in
theorem add_any (h : ND F nb M lb w N) (e : LE) (ma : Option Addr) (mc : Nat) (hI : IF F w ma e.mem) (hml : e.mem.length ≤ 17592186044416) (hb1 : Bnd (N.push e)) (hg1 : Gm (N.push e)) (hl2 : Ldr (N.push e).meet) :
    Calls Tryz.prog 71 #[.pointer (some ⟨nb, 0, none⟩), .agg #[.int .i64 e.term, .string ⟨e.s.toArray⟩, .bool e.conf, .slice ma e.mem.length mc]] w (fun e0 w' => ∃ v F' lb', e0 = .returned (.tuple #[.int .i64 (N.add e).last, v]) ∧ Stp nb M F F' lb lb' w w' ∧ ND F' nb M lb' w' (N.add e) ∧ MS F' w' v (N.addMsgs e)) := by
  have hnb := h.out
  obtain ⟨ba, ca, lv, da, dc, k1, k2, k3, k4, k5, k6⟩ := h.out
  obtain ⟨ls, hGL0, hll, hls⟩ := k4
  have hlog1 := hb1.log
  have hlsl : ls.length ≤ 274877906944 := by
    have : (N.push e).k.log.length = N.k.log.length + 1 := by show (N.k.log ++ [e]).length = _; simp
    omega
  have hne := h.ne
  have HMe := fun lb2 W (hW : ND F nb M lb2 W (N.push e)) => meet_any F nb M lb2 W _ hW hb1 hg1
  have hb2 := hb1.meet
  have hg2 : Gm (N.push e).meet := hg1.of_k rfl
  have HSe := fun lb2 W (hW : ND F nb M lb2 W (N.push e).meet) => settle_any F nb M lb2 W _ hW hb2 hg2 hl2
  have hb3 := hb2.settle hl2
  obtain ⟨e1, e2, e3, e4, e5, e6, e7, e8⟩ := settle_frame (N.push e).meet
  have hg3 := hg2.of_k e1
  have HLa := fun lb2 W (hW : ND F nb M lb2 W (N.add e)) => last_any F nb M lb2 W _ hW hb3
  have HOt := fun lb2 W (hW : ND F nb M lb2 W (N.add e)) => others_tell F nb M lb2 W _ hW hb3 hg3 (fun x hx hxm => by
    have h3 : (N.add e).mems = (N.push e).meet.mems := mems_k e1
    have h4 : (N.add e).last = (N.push e).meet.last := last_k e1
    have h5 : (N.add e).next = (N.push e).meet.next := e3
    have h6 : (N.add e).me = (N.push e).meet.me := e2
    rw [h5, h4]
    exact hl2.next x (h3 ▸ hx) (h6 ▸ hxm))
  have hadd : (N.push e).meet.settle = N.add e := rfl
  rw [hadd] at HSe
  have hmsg : (N.add e).others (N.add e).tell = N.addMsgs e := rfl
  rw [hmsg] at HOt
  clear hadd hmsg e1 e2 e3 e4 e5 e6 e7 e8 hb2 hg2 hb3 hg3 hl2 hb1 hg1 hlog1
  generalize N.addMsgs e = ms at *
  generalize N.add e = N3 at *
  generalize hN2 : (N.push e).meet = N2 at *
  clear hN2
  go_enter Tryz.func71, Tryz.ntmps71
  go_upto_region 1 with fail
  have hA0 := bl_al (Below.refl w.heap.size w) (.cells #[.int .i64 e.term, .string ⟨e.s.toArray⟩, .bool e.conf, .slice ma e.mem.length mc] 29)
  have hBA := Blk.new w #[.int .i64 e.term, .string ⟨e.s.toArray⟩, .bool e.conf, .slice ma e.mem.length mc] 29
  generalize w.alloc (.cells #[.int .i64 e.term, .string ⟨e.s.toArray⟩, .bool e.conf, .slice ma e.mem.length mc] 29) = A at *
  have hkB := k1.belowSize hA0
  have hGL := hGL0.below hA0
  have hBd := hBA.drew
  have h7d : A.drew.cell? ⟨nb, 7, none⟩ = some lv := by rw [hkB.drew.cell]; rfl
  have hlvl : ∀ k, slBlk lv = some k → k < w.heap.size := fun k e => (hGL0.lt k e).2
  have hne7 : ∀ w3 w4, Below A.drew.heap.size A.drew w3 → w3.grownBy w4 (slBlk lv) → w4.heap[nb]? = w3.heap[nb]? ∧ w4.heap[w.heap.size]? = w3.heap[w.heap.size]? := fun w3 w4 hb hg => ⟨hg.block nb (Nat.lt_of_lt_of_le hkB.lt hb.size) (fun e => (hne.2.2.2.2 nb (k2.symm.trans e.symm)).1 rfl), hg.block _ (Nat.lt_of_lt_of_le hBA.lt hb.size) (fun e => by have := hlvl _ e.symm; omega)⟩
  refine wp_region_L (z := 12) (S := fun w' : World => w'.cell? ⟨nb, 7, none⟩ = some lv ∧ Blk w' w.heap.size #[.int .i64 e.term, .string ⟨e.s.toArray⟩, .bool e.conf, .slice ma e.mem.length mc] 29) (by kernel_rfl) ?_
  have hH := And.intro h7d hBd
  try go_frame
  refine wpAnyL_take (i := 0) (oi := ⟨some 6, _, _, _, _, _⟩) (v := .pointer (some ⟨nb, 0, none⟩)) rfl (by kernel_rfl) (by kernel_rfl) (by kernel_rfl) (by kernel_rfl) (fun _ _ _ h => h) (Or.inl ⟨by rfl, fun w hSw => by go_simp⟩) hH ?_
  try simp only [Act.put, List.setIfInBounds_toArray, List.set_cons_zero, List.set_cons_succ]
  refine wpAnyL_take (i := 1) (oi := ⟨some 7, _, _, _, _, _⟩) (v := .pointer (some ⟨nb, 0, none⟩)) rfl (by kernel_rfl) (by kernel_rfl) (by kernel_rfl) (by kernel_rfl) (fun _ _ _ h => h) (Or.inl ⟨by rfl, fun w hSw => by go_simp⟩) hH ?_
  try simp only [Act.put, List.setIfInBounds_toArray, List.set_cons_zero, List.set_cons_succ]
  refine wpAnyL_take (i := 2) (oi := ⟨some 8, _, _, _, _, _⟩) (v := .pointer (some ⟨nb, 0, none⟩)) rfl (by kernel_rfl) (by kernel_rfl) (by kernel_rfl) (by kernel_rfl) (fun _ _ _ h => h) (Or.inl ⟨by rfl, fun w hSw => by go_simp⟩) hH ?_
  try simp only [Act.put, List.setIfInBounds_toArray, List.set_cons_zero, List.set_cons_succ]
  refine wpAnyL_take (i := 3) (oi := ⟨some 9, _, _, _, _, _⟩) (v := .pointer (some ⟨nb, 1, none⟩)) rfl (by kernel_rfl) (by kernel_rfl) (by kernel_rfl) (by kernel_rfl) (fun _ _ _ h => h) (Or.inl ⟨by rfl, fun w hSw => by go_simp⟩) hH ?_
  try simp only [Act.put, List.setIfInBounds_toArray, List.set_cons_zero, List.set_cons_succ]
  refine wpAnyL_take (i := 4) (oi := ⟨some 10, _, _, _, _, _⟩) (v := .pointer (some ⟨nb, 7, none⟩)) rfl (by kernel_rfl) (by kernel_rfl) (by kernel_rfl) (by kernel_rfl) (fun _ _ _ h => h) (Or.inl ⟨by rfl, fun w hSw => by go_simp⟩) hH ?_
  try simp only [Act.put, List.setIfInBounds_toArray, List.set_cons_zero, List.set_cons_succ]
  refine wpAnyL_take (i := 5) (oi := ⟨some 11, _, _, _, _, _⟩) (v := lv) rfl (by kernel_rfl) (by kernel_rfl) (by kernel_rfl) (by kernel_rfl) (fun _ _ _ h => h) (Or.inl ⟨by rfl, fun w hSw => run_loadC _ _ rfl _ _ rfl _ Tryz.underlying22 rfl _ hSw.1⟩) hH ?_
  try simp only [Act.put, List.setIfInBounds_toArray, List.set_cons_zero, List.set_cons_succ]
  refine wpAnyL_take (i := 6) (oi := ⟨some 12, _, _, _, _, _⟩) (v := .agg #[.int .i64 e.term, .string ⟨e.s.toArray⟩, .bool e.conf, .slice ma e.mem.length mc]) rfl (by kernel_rfl) (by kernel_rfl) (by kernel_rfl) (by kernel_rfl) (fun _ _ _ h => h) (Or.inl ⟨by rfl, fun w hSw => run_loadMid _ _ rfl _ 0 rfl _ hSw.2.rangeAll _ Tryz.underlying29 rfl (lecI e _)⟩) hH ?_
  try simp only [Act.put, List.setIfInBounds_toArray, List.set_cons_zero, List.set_cons_succ]
  refine wpAnyL_solo (i := 7) (o := ⟨some 13, _, _, _, _, _⟩) rfl (by kernel_rfl) (fun K hK => ?_)
  refine wpList_bsl1E rfl _ rfl e.term ⟨e.s.toArray⟩ e.conf ma e.mem.length mc rfl ?_
  intro w3 hw3 hs3 hB3
  have hH3 := And.intro ((hw3.cell (World.block_lt_of_cell? _ _ hH.1)).trans hH.1) (hH.2.belowSize hw3)
  refine hK _ _ (fun _ => hH3) ?_
  clear hH
  have hH := hH3
  clear hK K
  try simp only [Act.put, List.setIfInBounds_toArray, List.set_cons_zero, List.set_cons_succ]
  refine wpAnyL_solo (i := 8) (o := ⟨some 14, _, _, _, _, _⟩) rfl (by kernel_rfl) (fun K hK => ?_)
  refine wpList_appE rfl _ _ rfl (Nat.zero_le _) rfl (hGL.below (bl_ca (Below.refl _ _).drew hw3)) hlsl rfl e.term ⟨e.s.toArray⟩ e.conf ma e.mem.length mc hB3 ?_
  intro w4 lv4 hg4 hG4 hn4
  have hn7 := hne7 w3 w4 hw3 hg4
  have hH4 := And.intro ((cell_of_block hn7.1).trans hH.1) (Blk.mk (hn7.2.trans hH.2.out))
  refine hK _ _ (fun _ => hH4) ?_
  clear hH
  have hH := hH4
  clear hK K
  try simp only [Act.put, List.setIfInBounds_toArray, List.set_cons_zero, List.set_cons_succ]
  refine wpAnyL_solo (i := 9) (o := ⟨some 15, _, _, _, _, _⟩) rfl (by kernel_rfl) (fun K hK => ?_)
  refine wpList_pure rfl (.pointer (some ⟨nb, 0, none⟩)) (by go_simp) ?_
  refine hK _ _ (fun _ => hH) ?_
  clear hK K
  try simp only [Act.put, List.setIfInBounds_toArray, List.set_cons_zero, List.set_cons_succ]
  refine wpAnyL_solo (i := 10) (o := ⟨some 16, _, _, _, _, _⟩) rfl (by kernel_rfl) (fun K hK => ?_)
  refine wpList_pure rfl (.pointer (some ⟨nb, 1, none⟩)) (by go_simp) ?_
  refine hK _ _ (fun _ => hH) ?_
  clear hK K
  try simp only [Act.put, List.setIfInBounds_toArray, List.set_cons_zero, List.set_cons_succ]
  refine wpAnyL_solo (i := 11) (o := ⟨some 17, _, _, _, _, _⟩) rfl (by kernel_rfl) (fun K hK => ?_)
  refine wpList_pure rfl (.pointer (some ⟨nb, 7, none⟩)) (by go_simp) ?_
  refine hK _ _ (fun _ => hH) ?_
  clear hK K
  try simp only [Act.put, List.setIfInBounds_toArray, List.set_cons_zero, List.set_cons_succ]
  refine wpAnyL_solo (i := 12) (o := ⟨none, _, _, _, _, _⟩) rfl (by kernel_rfl) (fun K hK => ?_)
  refine wpList_stC rfl _ _ _ rfl nb 7 rfl lv4 rfl _ _ ((hkB.drew.belowSize hw3).of_eq hn7.1) iSE hG4.cells.1 hG4.cells.2 (by show 7 < 22; decide) ?_
  refine hK _ _ (fun e => absurd rfl e) ?_
  clear hK K
  try simp only [Act.put]
  refine wpAnyL_done (by kernel_rfl) ?_ _
  try simp only [Act.put]
  try go_simp
  obtain ⟨hS5, hN5⟩ := push_nd h hI hml k1 k2 k3 k5 k6 hll hls (bl_ca (bl_dr hA0) hw3) hg4 hG4 hn4
  clear hG4 hg4 hn4 hH4 hn7 hH hne7 hGL hls
  go_wp2_with (first
    | (go_at_call 97; refine (HMe _ _ hN5).mono ?_; rintro e6 w6 ⟨rfl, hS6, hN6⟩; clear HMe)
    | (go_at_call 98; refine (HSe _ _ hN6).mono ?_; rintro e7 w7 ⟨rfl, hS7, hN7⟩; clear HSe)
    | (go_at_call 99; refine (HLa _ _ hN7).mono ?_; rintro e8 w8 ⟨rfl, hw8⟩; clear HLa; have hN8 := hN7.below hw8)
    | (go_at_call 93; refine (HOt _ _ hN8).mono ?_; rintro e9 w9 ⟨v, rfl, hms, hw9⟩; clear HOt))
  go_ret2
  exact ⟨v, Fb F w8 w9, _, rfl, (((hS5.trans hS6).trans hS7).trans (Stp.below hw8)).trans (Stp.fresh hw9), hN8.fresh hw9, hms.kept (fun _ _ => rfl) (fun k hk => .inr hk)⟩
end
end Go.Proofs.YtnhlejdilldfaaaGreat
