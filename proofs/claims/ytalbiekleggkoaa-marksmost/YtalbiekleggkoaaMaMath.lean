/-
  Alike: as the document's answer, the other way round, and each like itself.
-/
import Derived.Test.YtalbiekleggkoaaMaRef
namespace Go.Proofs.Ytalbiekleggkoaa
open Go.RowKit Go.Maps

theorem hasA_mem (l : List Atr) (p : Atr) : hasA l p = true ↔ p ∈ l := by
  unfold hasA
  rw [List.any_eq_true]
  constructor
  · rintro ⟨q, hq, h⟩
    rw [atrEq_eq h]
    exact hq
  · intro h
    exact ⟨p, h, by simp [atrEq]⟩

theorem like_ref (n n1 : ByteArray) (l l1 : List Atr) : likeB n n1 l l1 = refB n n1 l l1 := by
  unfold likeB refB
  cases h : l1.all (hasA l)
  · have hlt : ¬ cntA l l1 = l1.length := by
      intro e
      unfold cntA at e
      rw [List.countP_eq_length] at e
      have : l1.all (hasA l) = true := List.all_eq_true.2 e
      rw [h] at this
      cases this
    have hb : (cntA l l1 == l1.length) = false := by rw [beq_eq_false_iff_ne]; exact hlt
    rw [hb]
    simp
  · have he : cntA l l1 = l1.length := by
      unfold cntA
      rw [List.countP_eq_length]
      exact List.all_eq_true.1 h
    rw [he]
    simp

theorem pigeon {α : Type} [DecidableEq α] : ∀ (l1 l : List α), l1.Nodup → (∀ x ∈ l1, x ∈ l) → l.length ≤ l1.length → ∀ y ∈ l, y ∈ l1
  | [], l, _, _, hl, y, hy => by
    have : l = [] := List.length_eq_zero_iff.1 (by simpa using hl)
    subst this
    cases hy
  | x :: r, l, hn, hs, hl, y, hy => by
    obtain ⟨hx, hr⟩ := List.nodup_cons.1 hn
    have hxl : x ∈ l := hs x (by simp)
    by_cases e : y = x
    · subst e; simp
    · have h1 : ∀ z ∈ r, z ∈ l.erase x := fun z hz => (List.mem_erase_of_ne (by intro e; subst e; exact hx hz)).2 (hs z (by simp [hz]))
      have h2 : (l.erase x).length ≤ r.length := by
        rw [List.length_erase_of_mem hxl]
        simp at hl
        omega
      have := pigeon r (l.erase x) hr h1 h2 y ((List.mem_erase_of_ne e).2 hy)
      simp [this]

theorem like_turn (n n1 : ByteArray) (l l1 : List Atr) (hn : l.Nodup) (hn1 : l1.Nodup) : likeB n n1 l l1 = likeB n1 n l1 l := by
  have key : ∀ (m m1 : ByteArray) (a b : List Atr), b.Nodup → likeB m m1 a b = true → likeB m1 m b a = true := by
    intro m m1 a b hb h
    unfold likeB at h ⊢
    simp only [Bool.and_eq_true, beq_iff_eq, List.all_eq_true] at h ⊢
    obtain ⟨⟨h1, h2⟩, h3⟩ := h
    refine ⟨⟨h1.symm, h2.symm⟩, fun x hx => (hasA_mem b x).2 (@pigeon Atr (fun _ _ => Classical.propDecidable _) b a hb (fun z hz => (hasA_mem a z).1 (h3 z hz)) (by omega) x hx)⟩
  cases h1 : likeB n n1 l l1
  · cases h2 : likeB n1 n l1 l
    · rfl
    · rw [key _ _ _ _ hn h2] at h1
      cases h1
  · exact (key _ _ _ _ hn1 h1).symm

theorem like_self (n : ByteArray) (l : List Atr) : likeB n n l l = true := by
  unfold likeB
  simp only [Bool.and_eq_true, beq_iff_eq, List.all_eq_true]
  exact ⟨⟨trivial, trivial⟩, fun x hx => (hasA_mem l x).2 hx⟩

/-- Of attributes of one name the first. -/
def nameIn (D : List Atr) (nm : ByteArray) : Bool := D.any (fun q => q.1.toList == nm.toList)
def ddA : List Atr → List Atr → List Atr
  | D, [] => D
  | D, p :: r => if nameIn D p.1 then ddA D r else ddA (D ++ [p]) r
theorem ddA_snoc : ∀ (L D : List Atr) (p : Atr), ddA D (L ++ [p]) = if nameIn (ddA D L) p.1 then ddA D L else ddA D L ++ [p]
  | [], D, p => rfl
  | q :: L, D, p => by
    rw [List.cons_append, ddA, ddA]
    split
    · exact ddA_snoc L D p
    · exact ddA_snoc L (D ++ [q]) p
theorem ddA_nodup : ∀ (L D : List Atr), D.Nodup → (ddA D L).Nodup
  | [], D, h => h
  | p :: L, D, h => by
    rw [ddA]
    split
    · exact ddA_nodup L D h
    · rename_i hn
      refine ddA_nodup L _ ?_
      rw [List.nodup_append]
      refine ⟨h, by simp, fun a ha b hb e => ?_⟩
      subst e
      simp at hb
      subst hb
      exact hn (List.any_eq_true.2 ⟨a, ha, by simp⟩)
theorem ddA_sub : ∀ (L D : List Atr), ∀ p ∈ ddA D L, p ∈ D ∨ p ∈ L
  | [], D, p, h => .inl h
  | q :: L, D, p, h => by
    rw [ddA] at h
    split at h
    · rcases ddA_sub L D p h with h | h
      · exact .inl h
      · exact .inr (by simp [h])
    · rcases ddA_sub L _ p h with h | h
      · simp at h
        rcases h with h | h
        · exact .inl h
        · exact .inr (by simp [h])
      · exact .inr (by simp [h])
theorem ddA_len : ∀ (L D : List Atr), (ddA D L).length ≤ D.length + L.length
  | [], D => Nat.le_refl _
  | q :: L, D => by
    rw [ddA]
    split
    · have := ddA_len L D
      simp
      omega
    · have := ddA_len L (D ++ [q])
      simp at this ⊢
      omega
end Go.Proofs.Ytalbiekleggkoaa
