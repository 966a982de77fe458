/-
  A node that is no text, behind all there is.
-/
import Derived.Test.YtopecjchflknbaaDtInv2
namespace Go.Proofs.Ytopecjchflknbaa
open Go.RowKit

/-- A bare node of a kind stands behind all. -/
structure BareAt (w w2 : World) (t B : Nat) (cs : List Cel) (ks : List Nat) (kind at' : Int) : Prop where
  tree : ∃ g cap cs2 cp2 cm, TreeAt w2 t B g cap cs2 ∧ cs2[0]? = some cp2 ∧ cp2.kind = 0 ∧ (∀ j, 0 < j → j < cs.length → cs2[j]? = cs[j]?) ∧ w2.ownsRow B 3 1 cp2.kids (ks ++ [cs.length]).length (intC (ks ++ [cs.length])) ∧ cs2[cs.length]? = some cm ∧ cm.kind = kind ∧ cm.data = ⟨#[]⟩ ∧ cm.attrs = .slice none 0 0 ∧ cm.more = .slice none 0 0 ∧ cs2.length = cs.length + 1
  old : ∀ b v n xs, w.ownsRow b 5 1 v n xs → w2.ownsRow b 5 1 v n xs
  size : w.heap.size ≤ w2.heap.size

/-- The kids' row is kept while a node is made. -/
theorem kids_made {w w1 : World} {t B g cap : Nat} {cs : List Cel} {cp c : Cel} {ks : List Nat} (hT : TreeAt w t B g cap cs) (hO : w.ownsRow B 3 1 cp.kids ks.length (intC ks)) (h1 : MakeP w t B g cs c w1) : w1.ownsRow B 3 1 cp.kids ks.length (intC ks) := by
  refine owns_kept hO h1.kept ?_
  intro k e hh
  rcases hh with hh | hh
  · subst hh
    exact hT.off hO (by decide) e
  · subst hh
    rcases owns_apart hO hT.own (by decide) with h | h
    · exact absurd (h.symm.trans e) (by simp)
    · exact h e

theorem bare_of {w w1 w2 : World} {t B g cap g1 cap1 : Nat} {cs : List Cel} {cp : Cel} {ks : List Nat} {kind at' : Int} (hT : TreeAt w t B g cap cs) (hp : cs[0]? = some cp) (hk : cp.kind = 0) (hO : w.ownsRow B 3 1 cp.kids ks.length (intC ks)) (h1 : MakeP w t B g cs (newCel kind at' ⟨#[]⟩ ⟨#[]⟩) w1) (hT1 : TreeAt w1 t B g1 cap1 (cs ++ [newCel kind at' ⟨#[]⟩ ⟨#[]⟩])) (h2 : PutP w1 t B g1 cap1 (cs ++ [newCel kind at' ⟨#[]⟩ ⟨#[]⟩]) cs.length 0 (newCel kind at' ⟨#[]⟩ ⟨#[]⟩) cp ks w2) : BareAt w w2 t B cs ks kind at' ∧ RestP B w w2 := by
  have hz := (List.getElem?_eq_some_iff.1 hp).1
  have hO1 := kids_made hT hO h1
  obtain ⟨⟨kv, hT2, hO2, _⟩, hK2⟩ := h2
  refine ⟨⟨⟨g1, cap1, _, { cp with kids := kv }, { newCel kind at' ⟨#[]⟩ ⟨#[]⟩ with parent := ((0 : Nat) : Int), ahead := (ks.length : Int) }, hT2, ?_, hk, ?_, hO2, ?_, rfl, rfl, rfl, rfl, by simp⟩, ?_, Nat.le_trans h1.kept.size hK2.size⟩, ?_⟩
  · rw [List.getElem?_set_self (by simp)]
  · intro j h0 hj
    rw [List.getElem?_set_ne (by omega), List.getElem?_set_ne (by omega), List.getElem?_append_left hj]
  · rw [List.getElem?_set_ne (by omega), List.getElem?_set_self (by simp)]
  · intro b v n xs hr
    have hr1 : w1.ownsRow b 5 1 v n xs := by
      refine owns_kept hr h1.kept ?_
      intro k e hh
      rcases hh with hh | hh
      · subst hh
        exact hT.off hr (by decide) e
      · subst hh
        rcases owns_apart hr hT.own (by decide) with h | h
        · exact absurd (h.symm.trans e) (by simp)
        · exact h e
    refine owns_kept hr1 hK2 ?_
    intro k e hh
    rcases hh with hh | hh
    · subst hh
      rcases owns_apart hr1 hT1.own (by decide) with h | h
      · exact absurd (h.symm.trans e) (by simp)
      · exact h e
    · rcases owns_apart hr1 hO1 (by decide) with h | h
      · exact absurd (h.symm.trans e) (by simp)
      · exact h (e.trans hh.symm)
  · refine (rest_of hT.le h1.kept ?_).trans (rest_of hT1.le hK2 ?_)
    · intro k hk e
      rcases e with e | e
      · subst e
        exact ⟨hT.tB, _, _, _, hT.blk, .inl rfl⟩
      · subst e
        obtain ⟨h1, c, f, h2⟩ := owns_cells hT.own rfl
        exact ⟨h1, c, _, f, h2, .inr (.inl rfl)⟩
    · intro k hk e
      rcases e with e | e
      · subst e
        obtain ⟨h1, c, f, h2⟩ := owns_cells hT1.own rfl
        exact ⟨h1, c, _, f, h2, .inr (.inl rfl)⟩
      · obtain ⟨h1, c, f, h2⟩ := owns_cells hO1 e
        exact ⟨h1, c, _, f, h2, .inr (.inr (.inl rfl))⟩
end Go.Proofs.Ytopecjchflknbaa
