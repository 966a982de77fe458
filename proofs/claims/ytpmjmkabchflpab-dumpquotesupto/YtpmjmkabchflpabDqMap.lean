/-
  The signs behind a backslash, and back.
-/
import Derived.Test.YtpmjmkabchflpabRows
import Derived.Below
import Derived.Carry
import Derived.OwnWalk
import Derived.WalkKit
import Derived.WalkSpells
import Derived.WalkLawsBesides
import Derived.Maps.Own
import Derived.Maps.OwnOps
import Derived.Maps.OwnSet
import Derived.Maps.Views
import Derived.Maps.RangeWalk
namespace Go.Proofs.Ytpmjmkabchflpab
open Go.RowKit Go.Maps

theorem u8K : Keyed Try.prog 5 := int_keyed Try.underlying5
abbrev u8L (c : Int) : Lit := .int .u8 c
theorem u8Wf (c : Int) (h0 : 0 ≤ c) (h1 : c < 256) : (u8L c).wf = true := by
  simp [Lit.wf, IntKind.min, IntKind.max, IntKind.signed, IntKind.bits]
  omega
theorem u8Key (c : Int) (h0 : 0 ≤ c) (h1 : c < 256) : keyOf Try.prog 5 (.int .u8 c) = some (u8L c) := keyOf_int_mk Try.underlying5 (u8Wf c h0 h1)
theorem u8Elem (c : Int) (h0 : 0 ≤ c) (h1 : c < 256) : plainElem (H := Unit) Try.prog 5 (.int .u8 c) = some (.lit (u8L c), []) := plainElem_int Try.underlying5 (u8Wf c h0 h1)
theorem u8Zero (w : World) : (zeroValue 5).run Try.prog w = .ok (.int .u8 0) w := by kernel_rfl

def signD : DataW Unit := (((DataW.map []).put (u8L 34) (.lit (u8L 34))).put (u8L 92) (.lit (u8L 92))).put (u8L 10) (.lit (u8L 110))

/-- The map of the signs. -/
structure SignsAt (w : World) (b : Nat) : Prop where
  own : w.ownsMap (H := Unit) Try.prog 5 (plainElem Try.prog 5) b 3 signD

set_option maxRecDepth 100000 in
set_option maxHeartbeats 1000000 in
theorem signs_any (w : World) : Calls Try.prog 8 #[] w fun e w' => e = .returned (.map (some w.heap.size)) ∧ SignsAt w' w.heap.size ∧ Below w.heap.size w w' := by
  have hmm := @run_makeMap Try.prog
  obtain ⟨w1, r1, o1, g1⟩ := (World.ownsMap_made (H := Unit) w Try.prog 5 (plainElem Try.prog 5)).update u8K Try.underlying28 (by decide) (u8Key 34 (by decide) (by decide)) (u8Elem 34 (by decide) (by decide))
  obtain ⟨w2, r2, o2, g2⟩ := o1.update u8K Try.underlying28 (by decide) (u8Key 92 (by decide) (by decide)) (u8Elem 92 (by decide) (by decide))
  obtain ⟨w3, r3, o3, g3⟩ := o2.update u8K Try.underlying28 (by decide) (u8Key 10 (by decide) (by decide)) (u8Elem 110 (by decide) (by decide))
  have HE : Hid (SignsAt w3 w.heap.size ∧ Below w.heap.size w w3) := by
    refine ⟨⟨o3⟩, ?_⟩
    have hb : Below w.heap.size w (w.alloc (.map #[] 0)) := (Below.refl _ _).alloc (Nat.le_refl _) _
    have hk : ∀ k, some w.heap.size = some k → w.heap.size ≤ k := by intro k e; injection e with e; omega
    have s1 := g1.size
    have s2 := g2.size
    rw [show (w.alloc (.map #[] 0)).heap.size = w.heap.size + 1 by simp] at s1
    exact ((hb.grown g1 (by simp) hk).grown g2 (by omega) hk).grown g3 (by omega) hk
  clear o1 o2 o3 g1 g2 g3
  go_enter Try.func8, Try.ntmps8
  go_wp2
  go_ret
  exact ⟨rfl, HE.out.1, HE.out.2⟩

theorem sign_at (c : Int) (z : DataW Unit) : signD.atKey (u8L c) z = if c = 10 then .lit (u8L 110) else if c = 92 then .lit (u8L 92) else if c = 34 then .lit (u8L 34) else z := by
  unfold signD
  have hk : ∀ x : Int, WideAt.IsKeyLit (u8L x) := fun x => by simp [WideAt.IsKeyLit]
  by_cases h1 : c = 10
  · subst h1
    rw [if_pos rfl]
    exact atKey_put_same (((isMap_empty).put _ _).put _ _) (hk _) _ _
  · rw [if_neg h1, atKey_put_other (by intro e; injection e with _ e; exact h1 e)]
    by_cases h2 : c = 92
    · subst h2
      rw [if_pos rfl]
      exact atKey_put_same ((isMap_empty).put _ _) (hk _) _ _
    · rw [if_neg h2, atKey_put_other (by intro e; injection e with _ e; exact h2 e)]
      by_cases h3 : c = 34
      · subst h3
        rw [if_pos rfl]
        exact atKey_put_same isMap_empty (hk _) _ _
      · rw [if_neg h3, atKey_put_other (by intro e; injection e with _ e; exact h3 e)]
        rfl
end Go.Proofs.Ytpmjmkabchflpab
