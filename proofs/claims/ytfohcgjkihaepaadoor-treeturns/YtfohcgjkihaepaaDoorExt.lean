/- What Extract does. -/
import Derived.Test.YtfohcgjkihaepaaDoorVer
namespace Go.Proofs.YtfohcgjkihaepaaDoor.Sh
open Go Go.RowKit
def wit (x y : List UInt8) : Array Value := #[.string ⟨x.toArray⟩, .string ⟨y.toArray⟩]
theorem wit_size (x y : List UInt8) : (wit x y).size = 2 := rfl
theorem zWit : (∀ w, (zeroValue 36).run Tryd.prog w = .ok (.agg (wit [] [])) w) ∧ (Tryd.prog.info? 36).map (·.size) = some 2 := zero_of_info (by kernel_rfl)
theorem res_ct {fn : Func} {p u : Tmp} {t : TypeId} (h : fn.results = #[.cell p t, .tmp u]) (tmps : Array Value) (w : World) (b : Nat) (c : Array Value) (v : Value) (ty : TypeId) (d : TypeDesc)
    (hp : tmps.getD p undef = .pointer (some ⟨b, 0, none⟩)) (hv : tmps.getD u undef = v) (hb : Blk w b c ty) (hu : Tryd.prog.underlying t = some d) (hd : d.isRow = true) (hi : (Tryd.prog.info? t).map (·.size) = some c.size) :
    (results fn tmps).run Tryd.prog w = .ok (.tuple #[.agg c, v]) w := by
  rw [results_cell_tmp h, hp, hv]
  simp [asAddr, hb.loadVar d hu hd hi]
theorem collide_any (A B : List UInt8) (c : Bool) (hc : c = true ↔ A ≠ B ∧ digest A = digest B) (w : World) (hG : Glob w) (hA : A.length ≤ 1001) (hB : B.length ≤ 1001) :
    Calls Tryd.prog 19 #[.agg (wit A B)] w fun e w' => e = .returned (.bool c) ∧ Below w.heap.size w w' := by
  by_cases h : A = B
  · subst h
    have hcf : c = false := by
      rw [Bool.eq_false_iff]
      exact fun h => (hc.1 h).1 rfl
    subst hcf
    exact collide_same A w
  · have hcf : c = decide (digest A = digest B) := by
      rw [Bool.eq_iff_iff, decide_eq_true_iff, hc]
      exact ⟨fun h => h.2, fun h2 => ⟨h, h2⟩⟩
    subst hcf
    exact collide_diff A B w hG (by omega) (by omega) h
/-- What Extract leaves. -/
def ExtP (a b : List UInt8) (i n : Int) (p q : List (List UInt8)) (w : World) (e : Ending) (w' : World) : Prop :=
  ∃ A B ok, e = .returned (.tuple #[.agg (wit A B), .bool ok]) ∧ Below w.heap.size w w' ∧ A.length ≤ 1001 ∧ B.length ≤ 1001 ∧ (ok = true → A ≠ B ∧ digest A = digest B) ∧ (ok = true ↔ a ≠ b ∧ goodP n i p ∧ goodP n i q ∧ topD digest n i a p = topD digest n i b q)
theorem extP_false {a b : List UInt8} {i n : Int} {p q : List (List UInt8)} {w w' : World} (hb : Below w.heap.size w w') (h : ¬ (a ≠ b ∧ goodP n i p ∧ goodP n i q ∧ topD digest n i a p = topD digest n i b q)) : ExtP a b i n p q w (.returned (.tuple #[.agg (wit [] []), .bool false])) w' :=
  ⟨[], [], false, rfl, hb, by simp, by simp, fun h => Bool.noConfusion h, ⟨fun h => Bool.noConfusion h, fun h' => absurd h' h⟩⟩
theorem climb_some (s : List UInt8) (i n : Int) (p : List (List UInt8)) (a : Option Addr) (cap : Nat) (w : World) (hn : n ≤ 100) (hs : s.length ≤ 1000) (hX : XA w a p) (hG : Glob w) :
    Calls Tryd.prog 25 #[.string ⟨s.toArray⟩, .int .i64 i, .int .i64 n, .slice a p.length cap] w fun e w' => ∃ sl ok, e = .returned (.tuple #[sl, .bool ok]) ∧ Below w.heap.size w w' := by
  refine (climb_any s i n p a cap w hn hs hX hG).mono ?_
  rintro e w' ⟨hb, ⟨_, rfl⟩ | ⟨_, g, c, _, rfl, _⟩⟩
  · exact ⟨_, _, rfl, hb⟩
  · exact ⟨_, _, rfl, hb⟩
set_option maxRecDepth 100000 in
set_option maxHeartbeats 1000000 in
theorem extract_same (a b : List UInt8) (i n : Int) (p q : List (List UInt8)) (ap aq : Option Addr) (cp cq : Nat) (w : World) (hn : n ≤ 100) (ha : a.length ≤ 1000) (hb : b.length ≤ 1000) (hX : XA w ap p) (hY : XA w aq q) (hG : Glob w) (h : a = b) :
    Calls Tryd.prog 18 #[.string ⟨a.toArray⟩, .string ⟨b.toArray⟩, .int .i64 i, .int .i64 n, .slice ap p.length cp, .slice aq q.length cq] w (ExtP a b i n p q w) := by
  have H1 := fun w1 (hw : Below w.heap.size w w1) => climb_some a i n p ap cp w1 hn ha (hX.below hw) (hG.belowSize hw)
  have H2 := fun w1 (hw : Below w.heap.size w w1) => climb_some b i n q aq cq w1 hn hb (hY.below hw) (hG.belowSize hw)
  have hq : Hid (∀ w', Below w.heap.size w w' → ExtP a b i n p q w (.returned (.tuple #[.agg (wit [] []), .bool false])) w') := fun w' hb' => extP_false hb' (fun hh => hh.1 h)
  have he : (a == b) = true := by rw [beq_iff_eq]; exact h
  clear h hX hY
  go_enter Tryd.func18, Tryd.ntmps18
  go_wp2_with (first
    | (go_at_call 25; refine (H1 _ HB).mono ?_; clear H1; rintro e w2 ⟨sl1, ok1, rfl, hw2⟩; replace hz := hz.belowSize hw2; replace HB := HB.trans (hw2.mono HB.size))
    | (go_at_call 25; refine (H2 _ HB).mono ?_; clear H2; rintro e w3 ⟨sl2, ok2, rfl, hw3⟩; replace hz := hz.belowSize hw3; replace HB := HB.trans (hw3.mono HB.size))
    | (with_reducible refine at_list ?_; first
      | (refine wpList_allocRow (op := ⟨some 12, _, _, _, _, _⟩) rfl _ rfl _ zWit.1 ?_; intro w1 hw1 hs1 hz; replace hs1 := hs1.symm; have HB := hw1)
      | (refine wpList_storeRow (op := ⟨none, .store 36 (.tmp 12) (.tmp 54), _, _, _, _⟩) rfl _ _ _ rfl w.heap.size #[.string ⟨#[]⟩, .string ⟨#[]⟩] rfl rfl _ _ hz (by simp [wit]) (by simpa using zWit.2) (by simp [Value.oneCell']) ?_; intro w7 hg7 hs7 hz7; have HB7 := HB.trans (below_of_grown hg7 (Nat.le_refl _) HB.size))))
  refine bodyPost_ret (v := .tuple #[.agg (wit [] []), .bool false]) ?_ rfl (hq.out _ HB7)
  exact res_ct rfl _ _ w.heap.size _ _ _ _ rfl rfl hz7 Tryd.underlying36 rfl (by rw [wit_size]; exact zWit.2)
set_option maxRecDepth 100000 in
set_option maxHeartbeats 1000000 in
theorem extract_badp (a b : List UInt8) (i n : Int) (p q : List (List UInt8)) (ap aq : Option Addr) (cp cq : Nat) (w : World) (hn : n ≤ 100) (ha : a.length ≤ 1000) (hb : b.length ≤ 1000) (hX : XA w ap p) (hY : XA w aq q) (hG : Glob w) (h : a ≠ b) (hp : ¬ goodP n i p) :
    Calls Tryd.prog 18 #[.string ⟨a.toArray⟩, .string ⟨b.toArray⟩, .int .i64 i, .int .i64 n, .slice ap p.length cp, .slice aq q.length cq] w (ExtP a b i n p q w) := by
  have H1 := fun w1 (hw : Below w.heap.size w w1) => climb_bad a i n p ap cp w1 hn ha (hX.below hw) (hG.belowSize hw) hp
  have H2 := fun w1 (hw : Below w.heap.size w w1) => climb_some b i n q aq cq w1 hn hb (hY.below hw) (hG.belowSize hw)
  have hq : Hid (∀ w', Below w.heap.size w w' → ExtP a b i n p q w (.returned (.tuple #[.agg (wit [] []), .bool false])) w') := fun w' hb' => extP_false hb' (fun hh => hp hh.2.1)
  have he : (a == b) = false := by rw [beq_eq_false_iff_ne]; exact h
  clear h hX hY hp
  go_enter Tryd.func18, Tryd.ntmps18
  go_wp2_with (first
    | (go_at_call 25; refine (H1 _ HB).mono ?_; clear H1; rintro e w2 ⟨rfl, hw2⟩; replace hz := hz.belowSize hw2; replace HB := HB.trans (hw2.mono HB.size))
    | (go_at_call 25; refine (H2 _ HB).mono ?_; clear H2; rintro e w3 ⟨sl2, ok2, rfl, hw3⟩; replace hz := hz.belowSize hw3; replace HB := HB.trans (hw3.mono HB.size))
    | (with_reducible refine at_list ?_; first
      | (refine wpList_allocRow (op := ⟨some 12, _, _, _, _, _⟩) rfl _ rfl _ zWit.1 ?_; intro w1 hw1 hs1 hz; replace hs1 := hs1.symm; have HB := hw1)
      | (refine wpList_storeRow (op := ⟨none, .store 36 (.tmp 12) (.tmp 54), _, _, _, _⟩) rfl _ _ _ rfl w.heap.size #[.string ⟨#[]⟩, .string ⟨#[]⟩] rfl rfl _ _ hz (by simp [wit]) (by simpa using zWit.2) (by simp [Value.oneCell']) ?_; intro w7 hg7 hs7 hz7; have HB7 := HB.trans (below_of_grown hg7 (Nat.le_refl _) HB.size))))
  refine bodyPost_ret (v := .tuple #[.agg (wit [] []), .bool false]) ?_ rfl (hq.out _ HB7)
  exact res_ct rfl _ _ w.heap.size _ _ _ _ rfl rfl hz7 Tryd.underlying36 rfl (by rw [wit_size]; exact zWit.2)
set_option maxRecDepth 100000 in
set_option maxHeartbeats 1000000 in
theorem extract_badq (a b : List UInt8) (i n : Int) (p q : List (List UInt8)) (ap aq : Option Addr) (cp cq : Nat) (w : World) (hn : n ≤ 100) (ha : a.length ≤ 1000) (hb : b.length ≤ 1000) (hX : XA w ap p) (hY : XA w aq q) (hG : Glob w) (h : a ≠ b) (hp : goodP n i p) (hqq : ¬ goodP n i q) :
    Calls Tryd.prog 18 #[.string ⟨a.toArray⟩, .string ⟨b.toArray⟩, .int .i64 i, .int .i64 n, .slice ap p.length cp, .slice aq q.length cq] w (ExtP a b i n p q w) := by
  have H1 := fun w1 (hw : Below w.heap.size w w1) => climb_good a i n p ap cp w1 hn ha (hX.below hw) (hG.belowSize hw) hp
  have H2 := fun w1 (hw : Below w.heap.size w w1) => climb_bad b i n q aq cq w1 hn hb (hY.below hw) (hG.belowSize hw) hqq
  have hq : Hid (∀ w', Below w.heap.size w w' → ExtP a b i n p q w (.returned (.tuple #[.agg (wit [] []), .bool false])) w') := fun w' hb' => extP_false hb' (fun hh => hqq hh.2.2.1)
  have he : (a == b) = false := by rw [beq_eq_false_iff_ne]; exact h
  generalize upL digest (sides n.toNat i.toNat) (0 :: a) p p.length = us at *
  clear h hX hY hp hqq
  go_enter Tryd.func18, Tryd.ntmps18
  go_wp2_with (first
    | (go_at_call 25; refine (H1 _ HB).mono ?_; clear H1; rintro e w2 ⟨gx, cx, rfl, hw2, hlx, hSx⟩; replace hz := hz.belowSize hw2; replace HB := HB.trans (hw2.mono HB.size))
    | (go_at_call 25; refine (H2 _ HB).mono ?_; clear H2; rintro e w3 ⟨rfl, hw3⟩; replace hz := hz.belowSize hw3; replace HB := HB.trans (hw3.mono HB.size))
    | (with_reducible refine at_list ?_; first
      | (refine wpList_allocRow (op := ⟨some 12, _, _, _, _, _⟩) rfl _ rfl _ zWit.1 ?_; intro w1 hw1 hs1 hz; replace hs1 := hs1.symm; have HB := hw1)
      | (refine wpList_storeRow (op := ⟨none, .store 36 (.tmp 12) (.tmp 54), _, _, _, _⟩) rfl _ _ _ rfl w.heap.size #[.string ⟨#[]⟩, .string ⟨#[]⟩] rfl rfl _ _ hz (by simp [wit]) (by simpa using zWit.2) (by simp [Value.oneCell']) ?_; intro w7 hg7 hs7 hz7; have HB7 := HB.trans (below_of_grown hg7 (Nat.le_refl _) HB.size))))
  refine bodyPost_ret (v := .tuple #[.agg (wit [] []), .bool false]) ?_ rfl (hq.out _ HB7)
  exact res_ct rfl _ _ w.heap.size _ _ _ _ rfl rfl hz7 Tryd.underlying36 rfl (by rw [wit_size]; exact zWit.2)
set_option maxRecDepth 100000 in
set_option maxHeartbeats 1000000 in
theorem extract_tops (a b : List UInt8) (i n : Int) (p q : List (List UInt8)) (ap aq : Option Addr) (cp cq : Nat) (w : World) (hn : n ≤ 100) (ha : a.length ≤ 1000) (hb : b.length ≤ 1000) (hX : XA w ap p) (hY : XA w aq q) (hG : Glob w) (h : a ≠ b) (hp : goodP n i p) (hqq : goodP n i q) (ht : topD digest n i a p ≠ topD digest n i b q) :
    Calls Tryd.prog 18 #[.string ⟨a.toArray⟩, .string ⟨b.toArray⟩, .int .i64 i, .int .i64 n, .slice ap p.length cp, .slice aq q.length cq] w (ExtP a b i n p q w) := by
  have H1 := fun w1 (hw : Below w.heap.size w w1) => climb_good a i n p ap cp w1 hn ha (hX.below hw) (hG.belowSize hw) hp
  have H2 := fun w1 (hw : Below w.heap.size w w1) => climb_good b i n q aq cq w1 hn hb (hY.below hw) (hG.belowSize hw) hqq
  have HT1 := fun w1 g c (hw : Below w.heap.size w w1) (hS : SS w1 g c (upL digest (sides n.toNat i.toNat) (0 :: a) p p.length)) => topup_any a i n p g c w1 hn ha (hG.belowSize hw) hp hS
  have HT2 := fun w1 g c (hw : Below w.heap.size w w1) (hS : SS w1 g c (upL digest (sides n.toNat i.toNat) (0 :: b) q q.length)) => topup_any b i n q g c w1 hn hb (hG.belowSize hw) hqq hS
  have he : (a == b) = false := by rw [beq_eq_false_iff_ne]; exact h
  have hq : Hid (∀ w', Below w.heap.size w w' → ExtP a b i n p q w (.returned (.tuple #[.agg (wit [] []), .bool false])) w') := fun w' hb' => extP_false hb' (fun hh => ht hh.2.2.2)
  have hte : (topD digest n i a p != topD digest n i b q) = true := by rw [bne_iff_ne]; exact ht
  have hte2 : (topD digest n i a p == topD digest n i b q) = false := by rw [beq_eq_false_iff_ne]; exact ht
  generalize topD digest n i a p = t1 at *
  generalize topD digest n i b q = t2 at *
  generalize upL digest (sides n.toNat i.toNat) (0 :: a) p p.length = us at *
  generalize upL digest (sides n.toNat i.toNat) (0 :: b) q q.length = vs at *
  clear h hX hY hp hqq ht
  go_enter Tryd.func18, Tryd.ntmps18
  go_wp2_with (first
    | (go_at_call 25; refine (H1 _ HB).mono ?_; clear H1; rintro e w2 ⟨gx, cx, rfl, hw2, hlx, hSx⟩; replace hz := hz.belowSize hw2; replace HB := HB.trans (hw2.mono HB.size))
    | (go_at_call 25; refine (H2 _ HB).mono ?_; clear H2; rintro e w3 ⟨gy, cy, rfl, hw3, hly, hSy⟩; replace hz := hz.belowSize hw3; replace HB := HB.trans (hw3.mono HB.size); replace hSx := hSx.belowSize hw3)
    | (go_at_call 26; refine (HT1 _ _ _ HB hSx).mono ?_; clear HT1; rintro e w4 ⟨rfl, hw4⟩; replace hz := hz.belowSize hw4; replace HB := HB.trans (hw4.mono HB.size); replace hSx := hSx.belowSize hw4; replace hSy := hSy.belowSize hw4)
    | (go_at_call 26; refine (HT2 _ _ _ HB hSy).mono ?_; clear HT2; rintro e w5 ⟨rfl, hw5⟩; replace hz := hz.belowSize hw5; replace HB := HB.trans (hw5.mono HB.size); replace hSx := hSx.belowSize hw5; replace hSy := hSy.belowSize hw5)
    | (with_reducible refine at_list ?_; first
      | (refine wpList_allocRow (op := ⟨some 12, _, _, _, _, _⟩) rfl _ rfl _ zWit.1 ?_; intro w1 hw1 hs1 hz; replace hs1 := hs1.symm; have HB := hw1)
      | (refine wpList_storeRow (op := ⟨none, .store 36 (.tmp 12) (.tmp 54), _, _, _, _⟩) rfl _ _ _ rfl w.heap.size #[.string ⟨#[]⟩, .string ⟨#[]⟩] rfl rfl _ _ hz (by simp [wit]) (by simpa using zWit.2) (by simp [Value.oneCell']) ?_; intro w7 hg7 hs7 hz7; have HB7 := HB.trans (below_of_grown hg7 (Nat.le_refl _) HB.size))))
  refine bodyPost_ret (v := .tuple #[.agg (wit [] []), .bool false]) ?_ rfl (hq.out _ HB7)
  exact res_ct rfl _ _ w.heap.size _ _ _ _ rfl rfl hz7 Tryd.underlying36 rfl (by rw [wit_size]; exact zWit.2)
set_option maxRecDepth 100000 in
set_option maxHeartbeats 2000000 in
theorem extract_loop (a b : List UInt8) (i n : Int) (p q : List (List UInt8)) (ap aq : Option Addr) (cp cq : Nat) (w : World) (hn : n ≤ 100) (ha : a.length ≤ 1000) (hb : b.length ≤ 1000) (hX : XA w ap p) (hY : XA w aq q) (hG : Glob w) (h : a ≠ b) (hp : goodP n i p) (hqq : goodP n i q) (ht : topD digest n i a p = topD digest n i b q) :
    Calls Tryd.prog 18 #[.string ⟨a.toArray⟩, .string ⟨b.toArray⟩, .int .i64 i, .int .i64 n, .slice ap p.length cp, .slice aq q.length cq] w (ExtP a b i n p q w) := by
  have H1 := fun w1 (hw : Below w.heap.size w w1) => climb_good a i n p ap cp w1 hn ha (hX.below hw) (hG.belowSize hw) hp
  have H2 := fun w1 (hw : Below w.heap.size w w1) => climb_good b i n q aq cq w1 hn hb (hY.below hw) (hG.belowSize hw) hqq
  have HT1 := fun w1 g c (hw : Below w.heap.size w w1) (hS : SS w1 g c (upL digest (sides n.toNat i.toNat) (0 :: a) p p.length)) => topup_any a i n p g c w1 hn ha (hG.belowSize hw) hp hS
  have HT2 := fun w1 g c (hw : Below w.heap.size w w1) (hS : SS w1 g c (upL digest (sides n.toNat i.toNat) (0 :: b) q q.length)) => topup_any b i n q g c w1 hn hb (hG.belowSize hw) hqq hS
  have he : (a == b) = false := by rw [beq_eq_false_iff_ne]; exact h
  rw [ht] at HT1
  have hpl := goodP_len hp hn
  have hql : Hid (q.length = p.length) := hqq.2.2.1.trans hp.2.2.1.symm
  have hNC : Hid ((∀ j, j ≤ p.length → ¬ (upT digest (sides n.toNat i.toNat) (0 :: a) p j ≠ upT digest (sides n.toNat i.toNat) (0 :: b) q j ∧ digest (upT digest (sides n.toNat i.toNat) (0 :: a) p j) = digest (upT digest (sides n.toNat i.toNat) (0 :: b) q j))) → False) := fun hn => by
    have := no_clash digest digest_length (sides n.toNat i.toNat) (0 :: a) (0 :: b) p q hp.2.2.2 hqq.2.2.2 p.length (Nat.le_refl _) (by rw [hql.out]; omega) hn (by unfold topD at ht; rw [hql.out] at ht; exact ht)
    exact h (List.cons.inj this).2
  have hul : Hid (∀ k, k ≤ p.length → (upL digest (sides n.toNat i.toNat) (0 :: a) p p.length).getD k [] = upT digest (sides n.toNat i.toNat) (0 :: a) p k ∧ (upL digest (sides n.toNat i.toNat) (0 :: b) q q.length).getD k [] = upT digest (sides n.toNat i.toNat) (0 :: b) q k ∧ (upT digest (sides n.toNat i.toNat) (0 :: a) p k).length ≤ 1001 ∧ (upT digest (sides n.toNat i.toNat) (0 :: b) q k).length ≤ 1001) := fun k hk => by
    have e0 := hql.out
    refine ⟨?_, ?_, upT_small digest digest_length _ _ _ (by simp; omega) k (fun j hj => goodP_ys hp j (by omega)), upT_small digest digest_length _ _ _ (by simp; omega) k (fun j hj => goodP_ys hqq j (by omega))⟩
    · rw [List.getD_eq_getElem?_getD, List.getElem?_eq_getElem (by rw [upL_len]; omega), upL_get]; rfl
    · rw [List.getD_eq_getElem?_getD, List.getElem?_eq_getElem (by rw [upL_len]; omega), upL_get]; rfl
  have hlu : (upL digest (sides n.toNat i.toNat) (0 :: a) p p.length).length = p.length + 1 := upL_len _ _ _ _ _
  have hlv : (upL digest (sides n.toNat i.toNat) (0 :: b) q q.length).length = p.length + 1 := by rw [upL_len, hql.out]
  have hE : Hid (∀ A B w', Below w.heap.size w w' → A.length ≤ 1001 → B.length ≤ 1001 → (A ≠ B ∧ digest A = digest B) → ExtP a b i n p q w (.returned (.tuple #[.agg (wit A B), .bool true])) w') := fun A B w' h1 h2 h3 h4 => ⟨A, B, true, rfl, h1, h2, h3, fun _ => h4, ⟨fun _ => ⟨h, hp, hqq, ht⟩, fun _ => rfl⟩⟩
  have hqp : p.length ≤ q.length := by rw [hql.out]; omega
  clear ht
  generalize topD digest n i b q = t2 at *
  generalize upL digest (sides n.toNat i.toNat) (0 :: a) p p.length = us at *
  generalize upL digest (sides n.toNat i.toNat) (0 :: b) q q.length = vs at *
  generalize upT digest (sides n.toNat i.toNat) (0 :: a) p = X at *
  generalize upT digest (sides n.toNat i.toNat) (0 :: b) q = Y at *
  clear h hX hY hp hqq hql
  go_enter Tryd.func18, Tryd.ntmps18
  go_wp2_with (first
    | (go_at_call 25; refine (H1 _ HB).mono ?_; clear H1; rintro e w2 ⟨gx, cx, rfl, hw2, hlx, hSx⟩; replace hz := hz.belowSize hw2; replace HB := HB.trans (hw2.mono HB.size))
    | (go_at_call 25; refine (H2 _ HB).mono ?_; clear H2; rintro e w3 ⟨gy, cy, rfl, hw3, hly, hSy⟩; replace hz := hz.belowSize hw3; replace HB := HB.trans (hw3.mono HB.size); replace hSx := hSx.belowSize hw3)
    | (go_at_call 26; refine (HT1 _ _ _ HB hSx).mono ?_; clear HT1; rintro e w4 ⟨rfl, hw4⟩; replace hz := hz.belowSize hw4; replace HB := HB.trans (hw4.mono HB.size); replace hSx := hSx.belowSize hw4; replace hSy := hSy.belowSize hw4)
    | (go_at_call 26; refine (HT2 _ _ _ HB hSy).mono ?_; clear HT2; rintro e w5 ⟨rfl, hw5⟩; replace hz := hz.belowSize hw5; replace HB := HB.trans (hw5.mono HB.size); replace hSx := hSx.belowSize hw5; replace hSy := hSy.belowSize hw5)
    | (with_reducible refine at_list ?_; refine wpList_allocRow (op := ⟨some 12, _, _, _, _, _⟩) rfl _ rfl _ zWit.1 ?_; intro w1 hw1 hs1 hz; replace hs1 := hs1.symm; have HB := hw1)
    )
  go_loopw [57] (fun v57 wl => ∃ k : Nat, v57 = .int .i64 k ∧ k ≤ p.length + 1 ∧ Hid (∀ j, j < k → ¬ (X j ≠ Y j ∧ digest (X j) = digest (Y j))) ∧ SS wl gx cx us ∧ SS wl gy cy vs ∧ Blk wl w.heap.size (wit [] []) 36 ∧ Below w.heap.size w wl) (fun v57 _ => p.length + 1 - (intOf v57).toNat)
  case atStart => exact ⟨0, rfl, by omega, fun j hj => absurd hj (by omega), hSx, hSy, hz, HB⟩
  case round =>
    clear hSx hSy hz HB
    obtain ⟨k, rfl, hk, hN, hSx, hSy, hz, HB⟩ := hrel
    by_cases hlt : k < p.length + 1
    · obtain ⟨e1, e2, l1, l2⟩ := hul.out k (by omega)
      have c1 := hSx.cell k (by omega)
      have c2 := hSy.cell k (by omega)
      rw [e1] at c1
      rw [e2] at c2
      have HCo := fun c hc w1 (hw : Below w.heap.size w w1) => collide_any (X k) (Y k) c hc w1 (hG.belowSize hw) l1 l2
      have hz1 : (0 : Int) ≤ (k : Int) := by omega
      have hz2 : (k : Int) < (p.length : Int) + 1 := by omega
      have hz3 : (k : Int) < (q.length : Int) + 1 := by omega
      have hcl : Hid (∀ c : Bool, (c = true ↔ X k ≠ Y k ∧ digest (X k) = digest (Y k)) → ((c = true → X k ≠ Y k ∧ digest (X k) = digest (Y k)) ∧ (c = false → ∀ j, j < k + 1 → ¬ (X j ≠ Y j ∧ digest (X j) = digest (Y j))))) := fun c hc => ⟨hc.1, fun hf j hj => by
        by_cases hjk : j < k
        · exact hN.out j hjk
        · obtain rfl : j = k := by omega
          rw [← hc, hf]
          exact Bool.noConfusion⟩
      obtain ⟨c, hc⟩ : ∃ c : Bool, c = true ↔ X k ≠ Y k ∧ digest (X k) = digest (Y k) := ⟨@decide _ (Classical.propDecidable _), @decide_eq_true_iff _ (Classical.propDecidable _)⟩
      have HCo := HCo c hc
      replace hcl := hcl.out c hc
      replace hcl : Hid _ := hcl
      clear hc e1 e2
      generalize X k = A at *
      generalize Y k = B at *
      have hW := zWit.1
      unfold wit at hW
      have hAl : ∀ o : Obj, ((wr.alloc o).drew).cell? ⟨gx, k, none⟩ = some (.string ⟨A.toArray⟩) ∧ ((wr.alloc o).drew).cell? ⟨gy, k, none⟩ = some (.string ⟨B.toArray⟩) := fun o =>
        ⟨((((Below.refl wr.heap.size wr).alloc (Nat.le_refl _) o).drew).cell (World.block_lt_of_cell? _ _ c1)).trans c1, ((((Below.refl wr.heap.size wr).alloc (Nat.le_refl _) o).drew).cell (World.block_lt_of_cell? _ _ c2)).trans c2⟩
      cases c
      · have hN2 : Hid (∀ j, j < k + 1 → ¬ (X j ≠ Y j ∧ digest (X j) = digest (Y j))) := hcl.out.2 rfl
        clear hcl
        go_wp2_with fail
        go_region_held3 (fun w' => w'.cell? ⟨gx, k, none⟩ = some (.string ⟨A.toArray⟩) ∧ w'.cell? ⟨gy, k, none⟩ = some (.string ⟨B.toArray⟩)) (first | assumption | exact ⟨c1, c2⟩ | exact hAl _) (fail)
        have hb8 : Blk (wr.alloc (.cells #[.string ⟨A.toArray⟩, .string ⟨B.toArray⟩] 36)).drew wr.heap.size (wit A B) 36 := (Blk.new wr _ _).drew
        have hw8 : Below wr.heap.size wr (wr.alloc (.cells #[.string ⟨A.toArray⟩, .string ⟨B.toArray⟩] 36)).drew := ((Below.refl wr.heap.size wr).alloc (Nat.le_refl _) _).drew
        generalize (wr.alloc (.cells #[.string ⟨A.toArray⟩, .string ⟨B.toArray⟩] 36)).drew = w8 at *
        have HB8 := HB.trans (hw8.mono HB.size)
        have hz8 := hz.belowSize hw8
        have hlz := hz.lt
        go_wp2_with (first
          | (go_at_call 19; refine (HCo _ HB8).mono ?_; rintro e w9 ⟨rfl, hw9⟩; have HB9 := HB8.trans (hw9.mono HB8.size); have hz9 := hz8.belowSize hw9; have hb9 := hb8.belowSize hw9)
          | (with_reducible refine at_list ?_; first
            | (refine wpList_loadRow (op := ⟨some 69, _, _, _, _, _⟩) rfl _ _ rfl wr.heap.size rfl (wit A B) _ hb8 _ Tryd.underlying36 rfl (by rw [wit_size]; exact zWit.2) ?_)))
        go_roundw
        case rel => exact ⟨k + 1, by go_num, by omega, hN2, (hSx.belowSize hw8).belowSize hw9, (hSy.belowSize hw8).belowSize hw9, hz9, HB9⟩
        case measure => simp [intOf]; omega
      · have hcl2 : Hid (A ≠ B ∧ digest A = digest B) := hcl.out.1 rfl
        clear hcl
        go_wp2_with fail
        go_region_held3 (fun w' => w'.cell? ⟨gx, k, none⟩ = some (.string ⟨A.toArray⟩) ∧ w'.cell? ⟨gy, k, none⟩ = some (.string ⟨B.toArray⟩)) (first | assumption | exact ⟨c1, c2⟩ | exact hAl _) (fail)
        have hb8 : Blk (wr.alloc (.cells #[.string ⟨A.toArray⟩, .string ⟨B.toArray⟩] 36)).drew wr.heap.size (wit A B) 36 := (Blk.new wr _ _).drew
        have hw8 : Below wr.heap.size wr (wr.alloc (.cells #[.string ⟨A.toArray⟩, .string ⟨B.toArray⟩] 36)).drew := ((Below.refl wr.heap.size wr).alloc (Nat.le_refl _) _).drew
        generalize (wr.alloc (.cells #[.string ⟨A.toArray⟩, .string ⟨B.toArray⟩] 36)).drew = w8 at *
        have HB8 := HB.trans (hw8.mono HB.size)
        have hz8 := hz.belowSize hw8
        have hlz := hz.lt
        go_wp2_with (first
          | (go_at_call 19; refine (HCo _ HB8).mono ?_; rintro e w9 ⟨rfl, hw9⟩; have HB9 := HB8.trans (hw9.mono HB8.size); have hz9 := hz8.belowSize hw9; have hb9 := hb8.belowSize hw9)
          | (with_reducible refine at_list ?_; first
            | (refine wpList_loadRow (op := ⟨some 69, _, _, _, _, _⟩) rfl _ _ rfl wr.heap.size rfl (wit A B) _ hb8 _ Tryd.underlying36 rfl (by rw [wit_size]; exact zWit.2) ?_)
            | (refine wpList_loadRow (op := ⟨some 71, _, _, _, _, _⟩) rfl _ _ rfl wr.heap.size rfl (wit A B) _ hb9 _ Tryd.underlying36 rfl (by rw [wit_size]; exact zWit.2) ?_)
            | (refine wpList_storeRow (op := ⟨none, .store 36 (.tmp 12) (.tmp 71), _, _, _, _⟩) rfl _ _ _ rfl w.heap.size (wit A B) rfl rfl _ _ hz9 (by simp only [wit_size]) (by rw [wit_size]; exact zWit.2) (by simp [wit, Value.oneCell']) ?_; intro w10 hg10 hs10 hz10; have HB10 := HB9.trans (below_of_grown hg10 (Nat.le_refl _) HB9.size))))
        refine bodyPost_ret (v := .tuple #[.agg (wit A B), .bool true]) ?_ rfl (hE.out A B _ HB10 l1 l2 hcl2.out)
        exact res_ct rfl _ _ w.heap.size _ _ _ _ rfl rfl hz10 Tryd.underlying36 rfl (by rw [wit_size]; exact zWit.2)
    · exact (hNC.out (fun j hj => hN.out j (by omega))).elim
/-- What Extract does. -/
theorem extract_any (a b : List UInt8) (i n : Int) (p q : List (List UInt8)) (ap aq : Option Addr) (cp cq : Nat) (w : World) (hn : n ≤ 100) (ha : a.length ≤ 1000) (hb : b.length ≤ 1000) (hX : XA w ap p) (hY : XA w aq q) (hG : Glob w) :
    Calls Tryd.prog 18 #[.string ⟨a.toArray⟩, .string ⟨b.toArray⟩, .int .i64 i, .int .i64 n, .slice ap p.length cp, .slice aq q.length cq] w (ExtP a b i n p q w) := by
  by_cases h : a = b
  · exact extract_same a b i n p q ap aq cp cq w hn ha hb hX hY hG h
  by_cases hp : goodP n i p
  · by_cases hq : goodP n i q
    · by_cases ht : topD digest n i a p = topD digest n i b q
      · exact extract_loop a b i n p q ap aq cp cq w hn ha hb hX hY hG h hp hq ht
      · exact extract_tops a b i n p q ap aq cp cq w hn ha hb hX hY hG h hp hq ht
    · exact extract_badq a b i n p q ap aq cp cq w hn ha hb hX hY hG h hp hq
  · exact extract_badp a b i n p q ap aq cp cq w hn ha hb hX hY hG h hp
end Go.Proofs.YtfohcgjkihaepaaDoor.Sh
