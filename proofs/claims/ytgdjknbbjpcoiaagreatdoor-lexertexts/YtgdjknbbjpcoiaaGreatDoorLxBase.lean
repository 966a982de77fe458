/-
  The lexer's own cells, and the small functions upon scalars.
-/
import Derived.Test.YtgdjknbbjpcoiaaGreatDoorFeed
import Derived.Laws.EntriesVeiled
namespace Go.Proofs.YtgdjknbbjpcoiaaGreatDoor
open Go.RowKit

/-- The lexer's cells, one for each word of memory. -/
structure LexAt (w : World) (l : Nat) (cs : List Value) : Prop where
  len : cs.length = 34
  c : ∀ j v, cs[j]? = some v → w.cell? ⟨l, j, none⟩ = some v
  fz : ∀ j, w.frozen? ⟨l, j, none⟩ = false

theorem LexAt.draws {w : World} {l : Nat} {cs : List Value} (h : LexAt w l cs) (q : Nat) : LexAt (w.drewN q) l cs := ⟨h.len, h.c, h.fz⟩
theorem LexAt.set {w : World} {l : Nat} {cs : List Value} (h : LexAt w l cs) (j : Nat) (hj : j < 34) (u : Value) : LexAt (w.setCell ⟨l, j, none⟩ u) l (cs.set j u) := by
  obtain ⟨x, hx⟩ : ∃ x, cs[j]? = some x := ⟨cs[j]'(by rw [h.len]; exact hj), by simp [h.len, hj]⟩
  refine ⟨by rw [List.length_set]; exact h.len, fun k v hv => ?_, fun k => by rw [World.frozen?_setCell]; exact h.fz k⟩
  by_cases e : j = k
  · subst e
    rw [List.getElem?_set_self (by rw [h.len]; exact hj)] at hv
    obtain rfl := Option.some.inj hv
    exact World.cell?_setCell_same _ _ _ (h.c j x hx)
  · rw [List.getElem?_set_ne e] at hv
    rw [World.cell?_setCell_other w ⟨l, j, none⟩ ⟨l, k, none⟩ u (by intro h; injection h with _ h _; exact e h)]
    exact h.c k v hv
theorem LexAt.but {w w' : World} {l d B : Nat} {cs : List Value} (h : LexAt w l cs) (hb : But d B w w') (hl : l < B) (hd : l ≠ d) : LexAt w' l cs := by
  have key := hb.block l hl hd
  refine ⟨h.len, fun j v hv => ?_, fun j => ?_⟩
  · have := h.c j v hv
    simp only [World.cell?, key] at this ⊢
    exact this
  · have := h.fz j
    simp only [World.frozen?, key] at this ⊢
    exact this
theorem LexAt.below {w w' : World} {l B : Nat} {cs : List Value} (h : LexAt w l cs) (hb : Below B w w') (hl : l < B) : LexAt w' l cs :=
  ⟨h.len, fun j v hv => (hb.cell (p := ⟨l, j, none⟩) hl).trans (h.c j v hv), fun j => (hb.frozen (p := ⟨l, j, none⟩) hl).trans (h.fz j)⟩

def blankI (c : Int) : Bool := c == 9 || c == 10 || c == 12 || c == 32
def letterI (c : Int) : Bool := (decide (97 ≤ c) && decide (c ≤ 122)) || (decide (65 ≤ c) && decide (c ≤ 90))
def smallI (c : Int) : Int := if 65 ≤ c ∧ c ≤ 90 then c + 32 else c
def endsI (c : Int) : Bool := blankI c || c == 47 || c == 62

set_option maxHeartbeats 1000000 in
theorem isBlank_any (c : Int) (w : World) : Calls Tryz.prog 170 #[.int .i64 c] w fun e w' => e = .returned (.bool (blankI c)) ∧ w' = w := by
  unfold blankI
  by_cases h1 : c = 9
  · subst h1
    go_enter Tryz.func170, Tryz.ntmps170
    go_wp2
    go_ret
    exact ⟨rfl, rfl⟩
  by_cases h2 : c = 10
  · subst h2
    go_enter Tryz.func170, Tryz.ntmps170
    go_wp2
    go_ret
    exact ⟨rfl, rfl⟩
  by_cases h3 : c = 12
  · subst h3
    go_enter Tryz.func170, Tryz.ntmps170
    go_wp2
    go_ret
    exact ⟨rfl, rfl⟩
  have b1 : (c == 9) = false := by simpa using h1
  have b2 : (c == 10) = false := by simpa using h2
  have b3 : (c == 12) = false := by simpa using h3
  rw [b1, b2, b3]
  clear h1 h2 h3
  go_enter Tryz.func170, Tryz.ntmps170
  go_wp2
  go_ret
  exact ⟨by simp, rfl⟩

set_option maxHeartbeats 1000000 in
theorem isLetter_any (c : Int) (w : World) : Calls Tryz.prog 99 #[.int .i64 c] w fun e w' => e = .returned (.bool (letterI c)) ∧ w' = w := by
  unfold letterI
  go_enter Tryz.func99, Tryz.ntmps99
  go_wp2
  all_goals go_ret
  all_goals exact ⟨by first | (simp [*]; done) | (simp [*]; omega), rfl⟩

set_option maxHeartbeats 1000000 in
theorem small_any (c : Int) (w : World) (hc : c ≤ 9223372036854775000) : Calls Tryz.prog 82 #[.int .i64 c] w fun e w' => e = .returned (.int .i64 (smallI c)) ∧ w' = w := by
  unfold smallI
  by_cases h : 65 ≤ c ∧ c ≤ 90
  · rw [if_pos h]
    obtain ⟨h1, h2⟩ := h
    go_enter Tryz.func82, Tryz.ntmps82
    go_wp2
    go_ret
    exact ⟨by go_num, rfl⟩
  · rw [if_neg h]
    rcases (show c < 65 ∨ (65 ≤ c ∧ 90 < c) by omega) with h1 | ⟨h1, h2⟩
    all_goals
      clear h
      go_enter Tryz.func82, Tryz.ntmps82
      go_wp2
      go_ret
      exact ⟨rfl, rfl⟩
end Go.Proofs.YtgdjknbbjpcoiaaGreatDoor
