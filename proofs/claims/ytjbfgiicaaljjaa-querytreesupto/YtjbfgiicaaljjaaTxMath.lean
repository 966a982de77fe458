/-
  How much the nodes that are made say; which of them have kids.
-/
import Derived.Test.YtjbfgiicaaljjaaTmMath
namespace Go.Proofs.Ytjbfgiicaaljjaa
open Go.RowKit

def txN (x : Nd) : Nat := if x.kind == 3 then x.data.size else 0
def txS (ns : List Nd) : Nat := (ns.map txN).sum
/-- Texts have no kids. -/
def Leafs (ns : List Nd) : Prop := ∀ (n : Nat) (x : Nd), ns[n]? = some x → x.kids ≠ [] → x.kind ≠ 3

theorem map_set_same {α β : Type} (f : α → β) (l : List α) (i : Nat) (a x : α) (hx : l[i]? = some x) (h : f a = f x) : (l.set i a).map f = l.map f := by
  apply List.ext_getElem?
  intro j
  rw [List.getElem?_map, List.getElem?_map, List.getElem?_set]
  by_cases e : i = j
  · subst e
    have := (List.getElem?_eq_some_iff.1 hx).1
    rw [if_pos rfl, if_pos this, hx]
    simp [h]
  · rw [if_neg e]

theorem txS_put {ns : List Nd} {n p : Nat} {x xp : Nd} (hx : ns[n]? = some x) (hxp : ns[p]? = some xp) (hne : n ≠ p) : txS (putNd ns n p x xp) = txS ns := by
  unfold txS putNd
  have e1 := map_set_same txN ns n { x with parent := (p : Int), ahead := xp.kids.length } x hx rfl
  have e2 := map_set_same txN (ns.set n { x with parent := (p : Int), ahead := xp.kids.length }) p { xp with kids := xp.kids ++ [n] } xp (by rw [List.getElem?_set_ne hne]; exact hxp) rfl
  exact congrArg List.sum (e2.trans e1)
theorem Leafs.put {ns : List Nd} (h : Leafs ns) {n p : Nat} {x xp : Nd} (hx : ns[n]? = some x) (hxp : ns[p]? = some xp) (hne : n ≠ p) (hk : holdsN xp = true) : Leafs (putNd ns n p x xp) := by
  intro i y hy hk2
  unfold putNd at hy
  rcases get_set2 (List.getElem?_eq_some_iff.1 hxp).1 (List.getElem?_eq_some_iff.1 hx).1 hne hy with ⟨_, rfl⟩ | ⟨_, _, rfl⟩ | ⟨_, _, h3⟩
  · unfold holdsN at hk
    intro e
    simp at e
    simp [e] at hk
  · exact h n x hx hk2
  · exact h i y h3 hk2

theorem txS_step {ns : List Nd} {m : Md} (h0 : m.pos < ns.length) : txS (stepN ns m) ≤ txS ns + m.data.size := by
  have hs : txS (ns ++ [ndOf m]) ≤ txS ns + m.data.size := by
    unfold txS
    rw [List.map_append, List.sum_append]
    simp only [List.map_cons, List.map_nil, List.sum_cons, List.sum_nil]
    have : txN (ndOf m) ≤ m.data.size := by
      unfold txN
      split
      · exact Nat.le_refl _
      · exact Nat.zero_le _
    omega
  unfold stepN putN
  rw [snoc_last]
  have hxp : (ns ++ [ndOf m])[m.pos]? = some ns[m.pos] := by rw [List.getElem?_append_left h0]; exact List.getElem?_eq_getElem h0
  rw [hxp]
  simp only
  split
  · rw [txS_put (snoc_last ns _) hxp (by omega)]
    exact hs
  · exact hs
theorem Leafs.snoc {ns : List Nd} (h : Leafs ns) (m : Md) : Leafs (ns ++ [ndOf m]) := by
  intro i y hy hk
  rcases get_snoc hy with ⟨_, h2⟩ | ⟨_, rfl⟩
  · exact h i y h2 hk
  · exact absurd rfl hk
theorem Leafs.step {ns : List Nd} (h : Leafs ns) {m : Md} (h0 : m.pos < ns.length) : Leafs (stepN ns m) := by
  have hs := h.snoc m
  unfold stepN putN
  rw [snoc_last]
  have hxp : (ns ++ [ndOf m])[m.pos]? = some ns[m.pos] := by rw [List.getElem?_append_left h0]; exact List.getElem?_eq_getElem h0
  rw [hxp]
  simp only
  split
  · rename_i hh
    exact hs.put (snoc_last ns _) hxp (by omega) hh
  · exact hs
theorem doc_leafs : Leafs [docNd] := by
  intro n x h hk
  match n, h with
  | 0, h =>
    obtain rfl : docNd = x := by simpa using h
    exact absurd rfl hk
  | (n + 1), h => simp at h
theorem doc_txS : txS [docNd] = 0 := rfl

theorem sum_some {g : Nat → Nat} : ∀ (N : Nat) (vs : List Nat), vs.Nodup → (∀ v ∈ vs, v < N) → (vs.map g).sum ≤ ((List.range N).map g).sum
  | 0, vs, _, h => by
    cases vs with
    | nil => simp
    | cons a l => exact absurd (h a (by simp)) (by omega)
  | N + 1, vs, hn, h => by
    rw [List.range_succ, List.map_append, List.sum_append]
    simp only [List.map_cons, List.map_nil, List.sum_cons, List.sum_nil]
    by_cases hm : N ∈ vs
    · have hp := List.perm_cons_erase hm
      have e : (vs.map g).sum = g N + ((vs.erase N).map g).sum := by
        have := (hp.map g).sum_nat
        simpa using this
      have ih := sum_some (g := g) N (vs.erase N) (hn.erase N) (fun v hv => by
        have h1 := h v (List.mem_of_mem_erase hv)
        have h2 : v ≠ N := fun e2 => by
          rw [e2] at hv
          exact hn.not_mem_erase hv
        omega)
      omega
    · have ih := sum_some (g := g) N vs hn (fun v hv => by
        have h1 := h v hv
        have h2 : v ≠ N := fun e2 => hm (e2 ▸ hv)
        omega)
      omega
end Go.Proofs.Ytjbfgiicaaljjaa
