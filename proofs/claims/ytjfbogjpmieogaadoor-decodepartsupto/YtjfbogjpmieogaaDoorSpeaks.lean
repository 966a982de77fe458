/-
  What all statements on the decoder ask first: a scalar that is cut in two.
-/
import Derived.Test.YtjfbogjpmieogaaDoorFeed
namespace Go.Proofs.YtjfbogjpmieogaaDoor
open Go.RowKit

/-- A row of scalars: its head, and what stands in it. -/
theorem own_head {w : World} {base : Nat} {e : TypeId} {size : Nat} {v : Value} {n : Nat} {xs : List Value} (h : w.ownsRow base e size v n xs) : ∃ a cap, v = .slice a n cap := by
  rcases h.2 with ⟨rfl, rfl⟩ | ⟨g, cap, cur, rfl, _⟩
  · exact ⟨none, 0, rfl⟩
  · exact ⟨_, cap, rfl⟩

theorem rune_at (rs : List (Int × Int)) (p : Nat) (hp : p < rs.length) : (rs.flatMap runeC)[2 * p]? = some (.int .i64 rs[p].1) ∧ (rs.flatMap runeC)[2 * p + 1]? = some (.int .i64 rs[p].2) := by
  induction rs generalizing p with
  | nil => simp at hp
  | cons r rs ih =>
    match p, hp with
    | 0, _ => simp [runeC]
    | p + 1, hp =>
      have := ih p (by simpa using hp)
      simp only [List.flatMap_cons, runeC]
      rw [show 2 * (p + 1) = 2 * p + 2 by omega, show 2 * p + 2 + 1 = 2 * p + 1 + 2 by omega]
      simpa using this

theorem own_runes {w : World} {base : Nat} {e : TypeId} {v : Value} {rs : List (Int × Int)} (h : w.ownsRow base e 2 v rs.length (rs.flatMap runeC)) (hpos : 0 < rs.length) :
    ∃ g cap, v = .slice (some ⟨g, 0, none⟩) rs.length cap ∧ rs.length ≤ cap ∧ base ≤ g ∧ g < w.heap.size ∧ ∀ p, (hp : p < rs.length) → w.cell? ⟨g, 2 * p, none⟩ = some (.int .i64 rs[p].1) ∧ w.cell? ⟨g, 2 * p + 1, none⟩ = some (.int .i64 rs[p].2) := by
  rcases h.2 with ⟨rfl, h0⟩ | ⟨g, cap, cur, rfl, hg, hh, hnc, hcm, hcs, htk⟩
  · omega
  · refine ⟨g, cap, rfl, hnc, hg, ?_, fun p hp => ?_⟩
    · rcases Nat.lt_or_ge g w.heap.size with h' | h'
      · exact h'
      · simp [Array.getElem?_eq_none h'] at hh
    · have hr := rune_at rs p hp
      rw [← htk] at hr
      rw [List.getElem?_take, if_pos (by omega), List.getElem?_take, if_pos (by omega)] at hr
      simp only [World.cell?, hh]
      simpa using hr

theorem iswin_but {w w' : World} {d B : Nat} (h : IsWin w) (hb : But d B w w') (hB : w.heap.size ≤ B) (hd : 0 ≠ d) : IsWin w' := fun k hk => by
  have h := h k hk
  have hl : 0 < w.heap.size := World.block_lt_of_cell? w _ h
  rw [← h]
  exact World.cell?_of_block (hb.block _ (Nat.lt_of_lt_of_le hl hB) hd)

theorem iswin_below {w w' : World} {B : Nat} (h : IsWin w) (hb : Below B w w') (hB : w.heap.size ≤ B) : IsWin w' := fun k hk => by
  have h := h k hk
  have hl : 0 < w.heap.size := World.block_lt_of_cell? w _ h
  rw [← h]
  exact World.cell?_of_block (hb.block _ (Nat.lt_of_lt_of_le hl hB))

theorem iswin_lt {w : World} (h : IsWin w) : 0 < w.heap.size := World.block_lt_of_cell? w _ (h 0 (by decide))

theorem cut1 : feedD ⟨1, 7, 0, 0, 0, 0, 0⟩ [195] = ⟨1, 8, 7, 3, 1, 128, 191⟩ := by rfl
theorem cut2 : feedR ⟨1, 7, 0, 0, 0, 0, 0⟩ [195] = [] := by rfl
theorem cut3 : feedR ⟨1, 8, 7, 3, 1, 128, 191⟩ [164] = [(228, 7)] := by rfl

set_option maxRecDepth 100000 in
set_option maxHeartbeats 1000000 in
theorem speaks_any (w : World) (hW : IsWin w) :
    Calls Tryd.prog 12 #[] w fun e w' => e = .returned (.bool true) ∧ Below w.heap.size w w' := by
  have HW : Hid _ := hW
  have HL : Hid _ := iswin_lt hW
  clear hW
  go_enter Tryd.func12, Tryd.ntmps12
  go_wp2_with fail
  refine Calls.mono (new_any 1 7 w) ?_
  rintro e w1 ⟨rfl, hD1, hb1, hz1⟩
  have HW1 : Hid _ := iswin_below HW.out hb1 (Nat.le_refl _)
  have HF1 : Hid _ := feed_any w.heap.size _ ⟨#[195]⟩ w1 hD1 (by omega) HW1.out (by have := HL.out; omega) (.inl rfl) (by decide) (by decide) (by decide)
  have HB1 : Hid _ := hb1
  clear hD1 hb1
  go_wp2_with fail
  refine Calls.mono HF1.out ?_
  rintro e w2 ⟨vr1, vw1, rfl, hr1, hw1, hD2, hb2⟩
  rw [cut1] at hD2
  rw [cut2] at hr1
  obtain ⟨a1, cap1, rfl⟩ := own_head hr1
  have hz2 := hb2.size
  have HW2 : Hid _ := iswin_but HW1.out hb2 (Nat.le_refl _) (by have := HL.out; omega)
  have HF2 : Hid _ := feed_any w.heap.size _ ⟨#[164]⟩ w2 hD2 (by omega) HW2.out (by have := HL.out; omega) (.inr (.inl ⟨rfl, by decide⟩)) (by decide) (by decide) (by decide)
  have HB2 : Hid _ := HB1.out.trans ((hb2.mono (by omega : w.heap.size ≤ w1.heap.size)).below (Nat.le_refl _))
  clear hr1 hw1 hD2 hb2 HF1
  go_wp2_with fail
  refine Calls.mono HF2.out ?_
  rintro e w3 ⟨vr2, vw2, rfl, hr2, hw2, hD3, hb3⟩
  rw [cut3] at hr2
  obtain ⟨g, cap, rfl, hcap, hg, hgl, hcells⟩ := own_runes hr2 (by decide)
  have q := hcells 0 (by decide)
  have q0 : w3.cell? ⟨g, 0, none⟩ = some (.int .i64 228) := q.1
  have q1 : w3.cell? ⟨g, 1, none⟩ = some (.int .i64 7) := q.2
  have HB3 : Hid _ := HB2.out.trans ((hb3.mono (by omega : w.heap.size ≤ w2.heap.size)).below (Nat.le_refl _))
  clear hr2 hw2 hD3 hb3 HF2 q hcells
  go_wp2
  go_ret
  exact ⟨rfl, HB3.out⟩
end Go.Proofs.YtjfbogjpmieogaaDoor
