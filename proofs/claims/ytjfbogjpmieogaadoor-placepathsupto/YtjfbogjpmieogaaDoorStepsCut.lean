/-
  What strings.Split tells at one slash is what stands between slashes.
-/
import Derived.Lib.SplitLaws
import Derived.Lib.Replace
import Derived.Test.YtjfbogjpmieogaaDoorStepsPlain
namespace Go.Proofs.YtjfbogjpmieogaaDoor
open Go.Lib

theorem split_cut : ∀ l : List UInt8, splitK [47] 0 (count l [47]) l = cutAt l
  | [] => by
    rw [count_miss (by simp [index])]
    rfl
  | c :: l => by
    have ih := split_cut l
    by_cases hc : c = 47
    · subst hc
      have hix : index (47 :: l) [47] = 0 := by rw [index]; simp [List.isPrefixOf]
      rw [count_cons_eq, Nat.add_comm 1, splitK, hix]
      simp [cutAt, ih]
    · rw [count_cons_ne c 47 l hc]
      have hix : index (c :: l) [47] = if index l [47] == -1 then -1 else index l [47] + 1 := by
        have hp : ([47] : List UInt8).isPrefixOf (c :: l) = false := by simp [List.isPrefixOf, Ne.symm hc]
        rw [index, hp]
        simp
      cases hk : count l [47] with
      | zero =>
        rw [hk] at ih
        simp only [splitK] at ih ⊢
        simp only [cutAt, hc, if_false, ← ih]
      | succ k =>
        obtain ⟨j, hj⟩ := index_of_count (s := l) (old := [47]) (by omega)
        have hm : ¬ (index l [47] == -1) = true := fun e => by have := beq_iff_eq.1 e; omega
        rw [hk] at ih
        rw [splitK, if_neg hm, hj] at ih
        rw [if_neg hm, hj] at hix
        have hm2 : ¬ (index (c :: l) [47] == -1) = true := fun e => by have := beq_iff_eq.1 e; omega
        rw [splitK, if_neg hm2, hix]
        simp only [cutAt, hc, if_false, ← ih]
        have e1 : ((j : Int) + 1).toNat = j + 1 := by omega
        rw [e1]
        simp

theorem splitB_cut (s : ByteArray) : (splitB ⟨#[47]⟩ 0 (countB s ⟨#[47]⟩) s).map (·.data.toList) = cutAt s.data.toList := by
  rw [splitB_data]
  exact split_cut s.data.toList
end Go.Proofs.YtjfbogjpmieogaaDoor
