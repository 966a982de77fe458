/-
  What all statements on the decoder ask first: a scalar that is cut in two.
-/
import Derived.Test.YtgdjknbbjpcoiaaGreatDoorFeed
namespace Go.Proofs.YtgdjknbbjpcoiaaGreatDoor
open Go.RowKit

/-- A row of scalars: its head, and what stands in it. -/
theorem own_head {w : World} {base : Nat} {e : TypeId} {size : Nat} {v : Value} {n : Nat} {xs : List Value} (h : w.ownsRow base e size v n xs) : ∃ a cap, v = .slice a n cap := by
  rcases h.2 with ⟨rfl, rfl⟩ | ⟨g, cap, cur, rfl, _⟩
  · exact ⟨none, 0, rfl⟩
  · exact ⟨_, cap, rfl⟩

theorem rune_at (rs : List (Int × Int)) (p : Nat) (hp : p < rs.length) : (rs.flatMap runeC)[2 * p]? = some (.int .i64 rs[p].1) ∧ (rs.flatMap runeC)[2 * p + 1]? = some (.int .i64 rs[p].2) := by
  induction rs generalizing p with
  | nil => simp at hp
  | cons r rs ih =>
    match p, hp with
    | 0, _ => simp [runeC]
    | p + 1, hp =>
      have := ih p (by simpa using hp)
      simp only [List.flatMap_cons, runeC]
      rw [show 2 * (p + 1) = 2 * p + 2 by omega, show 2 * p + 2 + 1 = 2 * p + 1 + 2 by omega]
      simpa using this

theorem own_runes {w : World} {base : Nat} {e : TypeId} {v : Value} {rs : List (Int × Int)} (h : w.ownsRow base e 2 v rs.length (rs.flatMap runeC)) (hpos : 0 < rs.length) :
    ∃ g cap, v = .slice (some ⟨g, 0, none⟩) rs.length cap ∧ rs.length ≤ cap ∧ base ≤ g ∧ g < w.heap.size ∧ ∀ p, (hp : p < rs.length) → w.cell? ⟨g, 2 * p, none⟩ = some (.int .i64 rs[p].1) ∧ w.cell? ⟨g, 2 * p + 1, none⟩ = some (.int .i64 rs[p].2) := by
  rcases h.2 with ⟨rfl, h0⟩ | ⟨g, cap, cur, rfl, hg, hh, hnc, hcm, hcs, htk⟩
  · omega
  · refine ⟨g, cap, rfl, hnc, hg, ?_, fun p hp => ?_⟩
    · rcases Nat.lt_or_ge g w.heap.size with h' | h'
      · exact h'
      · simp [Array.getElem?_eq_none h'] at hh
    · have hr := rune_at rs p hp
      rw [← htk] at hr
      rw [List.getElem?_take, if_pos (by omega), List.getElem?_take, if_pos (by omega)] at hr
      simp only [World.cell?, hh]
      simpa using hr

theorem iswin_but {w w' : World} {d B : Nat} (h : IsWin w) (hb : But d B w w') (hB : w.heap.size ≤ B) (hd : 0 ≠ d) : IsWin w' := fun k hk => by
  have h := h k hk
  have hl : 0 < w.heap.size := World.block_lt_of_cell? w _ h
  rw [← h]
  exact World.cell?_of_block (hb.block _ (Nat.lt_of_lt_of_le hl hB) hd)

theorem iswin_below {w w' : World} {B : Nat} (h : IsWin w) (hb : Below B w w') (hB : w.heap.size ≤ B) : IsWin w' := fun k hk => by
  have h := h k hk
  have hl : 0 < w.heap.size := World.block_lt_of_cell? w _ h
  rw [← h]
  exact World.cell?_of_block (hb.block _ (Nat.lt_of_lt_of_le hl hB))

theorem iswin_lt {w : World} (h : IsWin w) : 0 < w.heap.size := World.block_lt_of_cell? w _ (h 0 (by decide))

end Go.Proofs.YtgdjknbbjpcoiaaGreatDoor
