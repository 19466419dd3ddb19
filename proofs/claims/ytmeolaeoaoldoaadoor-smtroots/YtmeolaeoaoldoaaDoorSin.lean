/- What the calls of the landed tree do, all together. -/
import Derived.Test.YtmeolaeoaoldoaaDoorSvr
import Derived.Test.YtmeolaeoaoldoaaDoorSdg
namespace Go.Proofs.YtmeolaeoaoldoaaDoor.Sh
open Go Go.RowKit Go.Shelf
/-- In block b lies a tree of the halves t. -/
def TRt (w : World) (lo b : Nat) (t : Tr) : Prop := lo ≤ b ∧ Tr.Canon 0 t ∧ ∃ q, Blk w b #[.pointer q] 75 ∧ HF w t q
theorem cnt_le {t : Tr} (h : t.leaves.length ≤ 100) : t.cnt ≤ 1000 := Nat.le_trans h (by decide)
theorem smtC : SmtC TRt where
  keep := fun ⟨h1, h2, q, h3, h4⟩ hb => ⟨h1, h2, q, h3.belowSize hb, h4.below hb⟩
  canon := fun h => h.2.1
  new := fun w => (tnew_any w).mono fun e w' ⟨he, hb, hw⟩ => ⟨w.heap.size, he, ⟨Nat.le_refl _, trivial, none, hb, rfl⟩, hw⟩
  put := fun w lo b t k v hG hlo ⟨h1, h2, q, h3, h4⟩ hl hk hv => (tput_any b q t k v w hG h3 h4 h2 (cnt_le hl) hk hv).mono fun e w' ⟨he, q', h5, h6, hg⟩ =>
    ⟨he, ⟨h1, (Tr.put_spec t 256 0 (ofD TgD k v) rfl h2 (TgD_len _ _) (fun _ _ j hj => absurd hj (Nat.not_lt_zero _))).1, q', h5, h6⟩, below_of_grown hg h1 hlo, fun sl m hm => hm.grown hg h3 (by decide)⟩
  del := fun w lo b t k hG hlo ⟨h1, h2, q, h3, h4⟩ hl hk => (tdel_any b q t k w hG h3 h4 h2 (cnt_le hl) hk).mono fun e w' ⟨he, q', h5, h6, hg⟩ =>
    ⟨he, ⟨h1, (Tr.del_spec t 256 0 (TgD 80 [k]) rfl h2).1, q', h5, h6⟩, below_of_grown hg h1 hlo, fun sl m hm => hm.grown hg h3 (by decide)⟩
theorem smtV : SmtV TRt where
  toSmtC := smtC
  root := fun w lo b t _ ⟨_, _, q, h3, h4⟩ _ => troot_any b q t w h3 h4
  prove := fun w lo b t k hG ⟨_, h2, q, h3, h4⟩ hl hk => tprove_any b q t k w hG h3 h4 h2 (cnt_le hl) hk
  verify := fun w root k v has a c p b hG hX h1 h2 h3 h4 h5 h6 h7 hb => tverify_any w root k v has a c p b hG hX h1 h2 h3 h4 h5 h6 h7 hb
  value := fun w v hG hv => sval_any v w hG (by omega)
theorem smtD : SmtD TRt where
  toSmtV := smtV
  path := fun w k hG hk => spath_any k w hG (by omega)
  leafHash := fun w p v hG h1 h2 => sleaf_any p v w hG (by omega) (by omega)
  join := fun w x y hG h1 h2 => sjoin_any x y w hG (by omega) (by omega)
end Go.Proofs.YtmeolaeoaoldoaaDoor.Sh
