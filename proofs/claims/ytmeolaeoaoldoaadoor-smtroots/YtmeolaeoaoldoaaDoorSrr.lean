/- SmtRoots of the landed tree: what it leans on, and where two unlike keys have one path. -/
import Derived.Test.YtmeolaeoaoldoaaDoorSea
import Derived.Test.YtmeolaeoaoldoaaDoorSpn
namespace Go.Proofs.YtmeolaeoaoldoaaDoor.Sh
open Go Go.RowKit Go.Shelf
set_option maxRecDepth 100000 in
set_option maxHeartbeats 1000000 in
theorem smtRoots_twins (l : List A7) (a : Option Addr) (cap : Nat) (w : World) (hG : Glob w) (hA : AA w a l) (hk : ∀ x ∈ l, x.key.length ≤ 9223372036854775807 ∧ x.val.length ≤ 9223372036854775807) (htw : TwinsP (keysD l [])) :
    Calls Tryd.prog 3 #[.slice a l.length cap] w fun e w' => e = .returned (.bool true) ∧ Below w.heap.size w w' := by
  have HD := fun w1 (hb : Below w.heap.size w w1) => done_any smtC l [] a cap w1 (hG.belowSize hb) (hA.below hb) hk
  have HT := fun w1 (hb : Below w.heap.size w w1) => twins_any l [] a cap w1 (hA.below hb) (by decide) (fun x hx => (hk x hx).1) true ⟨fun _ => htw, fun _ => rfl⟩
  have HW := fun w1 (hb : Below w.heap.size w w1) => awake7_any smtV w1 (hG.belowSize hb)
  clear htw hA hk hG
  refine (callsIn_wide (n := 6)).1 (callsIn_of_wp_marks Tryd.func3 rfl trivial ?_ rfl)
  refine wpIn_wide.2 ?_
  simp only [Tryd.ntmps3, List.size_toArray, List.length_cons, List.length_nil, Nat.reduceAdd, Nat.reduceSub, Array.replicate_succ, Array.replicate_zero, List.push_toArray, List.append_toArray, List.nil_append, List.cons_append]
  have B0 : Below w.heap.size w (w.alloc (.cells #[.bool false] 4)) := (Below.refl _ w).alloc (Nat.le_refl _) _
  have k0 := Blk.new w #[.bool false] 4
  go_wp2_with (first
    | (go_at_call 8; refine (HD _ B0).mono ?_; rintro e w1 ⟨b, sl, m, t, ok, rfl, hT, hK, _, _, _, _, hw1⟩; have B1 := B0.trans (hw1.mono B0.size); have k1 := k0.belowSize hw1)
    | (go_at_call 9; refine (HT _ B1).mono ?_; rintro e w3 ⟨rfl, hw3⟩; have B3 := B1.trans (hw3.mono B1.size); have k3 := k1.belowSize hw3)
    | (go_at_call 10; refine (HW _ B3).mono ?_; rintro e w4 ⟨rfl, hw4⟩; have B4 := B3.trans (hw4.mono B3.size); have k4 := k3.belowSize hw4; have c4 := blk1c k4; have f4 := k4.frozen 0))
  have hg := grown_setCell w.heap.size (.bool true) 0 w4
  exact ⟨_, res_c rfl _ _ w.heap.size (.bool true) _ rfl (blk1c (k4.setCell 0 (.bool true))) Tryd.underlying4 rfl, rfl, B4.trans (below_of_grown hg (Nat.le_refl _) B4.size)⟩
theorem bytesLess_eq7 : ∀ (x y : List UInt8), Op.bytesLess x y = decide (x < y)
  | [], [] => by simp [Op.bytesLess]
  | _ :: _, [] => by simp [Op.bytesLess]
  | [], _ :: _ => by simp [Op.bytesLess]
  | a :: x, b :: y => by
    rw [Op.bytesLess, bytesLess_eq7 x y]
    rw [Bool.eq_iff_iff]
    simp [List.cons_lt_cons_iff]
/-- The path of the last leaf. -/
def lastP (pre : List LF) : List UInt8 := (pre.getLast?.map (·.1)).getD []
theorem lastP_snoc (pre : List LF) (x : LF) : lastP (pre ++ [x]) = x.1 := by simp [lastP]
/-- What comes behind the last leaf of a beginning stands behind it. -/
theorem lastP_lt {L pre : List LF} {x : LF} (hs : L.Pairwise fun x y => x.1 < y.1) (hp : (pre ++ [x]) <+: L) (h0 : 0 < pre.length) : lastP pre < x.1 := by
  obtain ⟨r, rfl⟩ := hp
  have h1 := (List.pairwise_append.1 hs).1
  have h2 := (List.pairwise_append.1 h1).2.2
  obtain ⟨q, y, rfl⟩ : ∃ q y, pre = q ++ [y] := ⟨pre.dropLast, pre.getLast (by intro e; rw [e] at h0; simp at h0), (List.dropLast_concat_getLast _).symm⟩
  rw [lastP_snoc]
  exact h2 y (by simp) x (by simp)
/-- The second tree has just the keys' leaves so far. -/
theorem withD_fresh {l : List LF} {k v : List UInt8} (h : ∀ x ∈ l, x.1 ≠ k) : withD l k v = l ++ [(k, v)] := by
  unfold withD withoutD
  rw [List.filter_eq_self.2 (fun x hx => by
    have := h x hx
    simp [this])]
theorem rel_step {K : List (List UInt8)} (hn : ¬ TwinsP K) {ta : Tr} {m : List LF} (hc : Tr.Canon 0 ta) (hm : ∀ x ∈ m, x.1 ∈ K) (ha : m.Pairwise fun x y => x.1 ≠ y.1) {i : Nat} (hi : i < m.length) (hr : Rel7 K ta (m.drop (i + 1)).reverse) :
    Rel7 K (Tr.put 256 0 ta (ofD TgD (m[i]).1 (m[i]).2)) (m.drop i).reverse := by
  have h1 := hr.put hn hc (m[i]).2 (hm m[i] (List.getElem_mem hi))
  have e : m.drop i = m[i] :: m.drop (i + 1) := List.drop_eq_getElem_cons hi
  have ha2 : (m.drop i).Pairwise fun x y => x.1 ≠ y.1 := ha.sublist (List.drop_sublist _ _)
  rw [e] at ha2
  have h2 := (List.pairwise_cons.1 ha2).1
  rw [withD_fresh (fun x hx => fun he => h2 x (List.mem_reverse.1 hx) he.symm)] at h1
  rw [e, List.reverse_cons]
  exact h1
theorem rel_root {K : List (List UInt8)} {t ta : Tr} {m : List LF} (hc : Tr.Canon 0 t) (hca : Tr.Canon 0 ta) (hr : Rel7 K t m) (hra : Rel7 K ta m.reverse) : ta.hash TgD = t.hash TgD := by
  rw [Tr.hash_root TgD hc (show 0 + 256 = 256 from rfl), Tr.hash_root TgD hca (show 0 + 256 = 256 from rfl)]
  refine rootS_perm TgD 256 0 (hra.perm.trans (List.Perm.trans ?_ hr.perm.symm))
  unfold leavesD
  exact (List.reverse_perm m).map _
theorem rel_find {K : List (List UInt8)} {t : Tr} {m : List LF} (hc : Tr.Canon 0 t) (hr : Rel7 K t m) {x : LF} (hx : x ∈ m) : Tr.find 0 t (TgD 80 [x.1]) = some (ofD TgD x.1 x.2) :=
  (Tr.find_spec hc).2 ⟨hr.perm.mem_iff.2 (List.mem_map.2 ⟨x, hx, rfl⟩), rfl⟩
/-- A range over a function whose variable is boxed anew in each round. -/
theorem range_boxed {P : Program} {α : Type} {n : Nat} {g : Operand} {p s : Tmp} {assign body : Code} {Q : Exit → Act → World → Prop} {a : Act} {w : World} (ty : TypeId) (enc : α → Value) (cells : α → Array Value)
    (h1 : 1 ≤ n) {gf : Nat} {lb : Array Value} (hg : a.eval g = .func (.func gf) #[] lb) (eg : ∀ args w, (callFunc gf args).run P w = .ok (.enter gf args) w)
    {Kp : World → World → Prop} {S Sp : List α → Prop} {N : Nat} (hseq : SeqStopsK Fence.wide (n - 1) P gf lb (fun x => #[enc x]) Kp S Sp N w)
    (hKt : ∀ {A B C : World}, Kp A B → Kp B C → Kp A C) (hKb : ∀ (W : World) (l : Nat) (o o' : Obj), w.heap.size ≤ l → W.heap[l]? = some o → o.isCells = false → o.isWalk = false → Kp W (W.putObj l o'))
    (I : List α → World → Prop) (Ix : Code → List α → World → Prop) (hI : OwnFrom w.heap.size I) (hIx : ∀ c, OwnFrom w.heap.size (Ix c)) (h0 : I [] w)
    (hassign : ∀ (l : Nat) (pre : List α) (x : α) (W : World) (K : Act → World → Prop), I pre W → (∀ Bx W', w.heap.size ≤ Bx → KeepsFrom w.heap.size W W' → Kp W W' → I pre W' → Blk W' Bx (cells x) ty → K { tmps := (a.tmps.setIfInBounds p (enc x)).setIfInBounds s (.pointer (some ⟨Bx, 0, none⟩)), defers := [] } W') →
      assign.wpIn (Fence.wide.inRound l) (n - 1 - 1) P (Exit.then K (fun _ _ _ => False)) { tmps := a.tmps.setIfInBounds p (enc x), defers := [] } W)
    (hbody : ∀ (l : Nat) (pre : List α) (x : α) (Bx : Nat) (W : World), w.heap.size ≤ Bx → Blk W Bx (cells x) ty → I pre W → pre.length < N → body.wpIn (Fence.wide.inRound l) (n - 1 - 1) P (ownPostG w.heap.size Kp I Ix (pre ++ [x]) W) { tmps := (a.tmps.setIfInBounds p (enc x)).setIfInBounds s (.pointer (some ⟨Bx, 0, none⟩)), defers := [] } W)
    (hdone : ∀ (D : Nat) (xs : List α) (W : World), w.heap.size ≤ D → S xs → I xs W → W.heap[D]? = some (.deferred (some [])) → Q .normal { a with defers := { target := .collected D, args := #[] } :: a.defers } W)
    (hstop : ∀ (D : Nat) (c : Code) (pre : List α) (W : World), w.heap.size ≤ D → Sp pre → Ix c pre W → W.heap[D]? = some (.deferred (some [])) → c.wpIn Fence.wide n P Q { a with defers := { target := .collected D, args := #[] } :: a.defers } W) :
    (Code.rangeFunc g #[p] assign body).wpIn Fence.wide n P Q a w := by
  have hf : ∀ x, ((#[p] : Array Tmp).zip #[enc x]).foldl (fun t (p, v) => t.setIfInBounds p v) a.tmps = a.tmps.setIfInBounds p (enc x) := fun x => by simp
  refine wpIn_rangeFunc_ownH rfl h1 hg trivial eg hseq (fun h k => hKt h k) hKb (Below.refl _ _) (fun _ => rfl) I Ix hI hIx h0
    (fun x a' W => ∃ Bx, w.heap.size ≤ Bx ∧ Blk W Bx (cells x) ty ∧ a' = { tmps := (a.tmps.setIfInBounds p (enc x)).setIfInBounds s (.pointer (some ⟨Bx, 0, none⟩)), defers := [] })
    (fun x a' _ W1 W2 row hs hg hr => by
      obtain ⟨Bx, k1, k2, k3⟩ := hs
      exact ⟨Bx, k1, k2.turn hg (fun r e => (hr r e).2), k3⟩) (fun l pre x W K hi hK => by
      rw [hf]
      exact hassign l pre x W K hi (fun Bx W' k1 k2 k3 k4 k5 => hK _ W' k2 k3 k4 ⟨Bx, k1, k5, rfl⟩)) (fun l pre x a' W _ _ hi hax hl => by
      obtain ⟨Bx, k1, k2, rfl⟩ := hax
      exact hbody l pre x Bx W k1 k2 hi hl) hdone hstop
end Go.Proofs.YtmeolaeoaoldoaaDoor.Sh
