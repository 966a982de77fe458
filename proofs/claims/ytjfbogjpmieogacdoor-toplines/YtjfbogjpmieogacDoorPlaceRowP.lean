/-
  Rows of scalars that a statement lays; what every statement on places asks first.
-/
import Derived.Test.YtjfbogjpmieogacDoorPlaceAt
namespace Go.Proofs.YtjfbogjpmieogacDoor.Pl
open Go.RowKit

def rnC (r : Int × Int) : List Value := [.int .i64 r.1, .int .i64 r.2]

theorem Tryd.infoRn : (Tryd.prog.info? 30).map (fun i => (i.zero, i.size, i.bytes)) = some (some (.agg #[.int .i64 0, .int .i64 0]), 2, 16) := by kernel_rfl

theorem rn_at (rs : List (Int × Int)) (p : Nat) (hp : p < rs.length) : (rs.flatMap rnC)[p * 2]? = some (.int .i64 rs[p].1) ∧ (rs.flatMap rnC)[p * 2 + 1]? = some (.int .i64 rs[p].2) := by
  induction rs generalizing p with
  | nil => simp at hp
  | cons r rs ih =>
    match p, hp with
    | 0, _ => simp [rnC]
    | p + 1, hp =>
      have := ih p (by simpa using hp)
      simp only [List.flatMap_cons, rnC]
      rw [show (p + 1) * 2 = p * 2 + 2 by omega, show p * 2 + 2 + 1 = p * 2 + 1 + 2 by omega]
      simpa using this

theorem own_rns {w : World} {base : Nat} {e : TypeId} {v : Value} {rs : List (Int × Int)} (h : w.ownsRow base e 2 v rs.length (rs.flatMap rnC)) (hpos : 0 < rs.length) :
    ∃ g cap, v = .slice (some ⟨g, 0, none⟩) rs.length cap ∧ rs.length ≤ cap ∧ base ≤ g ∧ g < w.heap.size ∧ ∀ p, (hp : p < rs.length) → w.cell? ⟨g, p * 2, none⟩ = some (.int .i64 rs[p].1) ∧ w.cell? ⟨g, p * 2 + 1, none⟩ = some (.int .i64 rs[p].2) := by
  rcases h.2 with ⟨rfl, h0⟩ | ⟨g, cap, cur, rfl, hg, hh, hnc, hcm, hcs, htk⟩
  · omega
  · refine ⟨g, cap, rfl, hnc, hg, ?_, fun p hp => ?_⟩
    · rcases Nat.lt_or_ge g w.heap.size with h' | h'
      · exact h'
      · simp [Array.getElem?_eq_none h'] at hh
    · have hr := rn_at rs p hp
      rw [← htk] at hr
      rw [List.getElem?_take, if_pos (by omega), List.getElem?_take, if_pos (by omega)] at hr
      simp only [World.cell?, hh]
      simpa using hr

/-- New of any row of scalars. -/
theorem new_row (base : Nat) (v : Value) (rs : List (Int × Int)) (w : World) (h : w.ownsRow base 30 2 v rs.length (rs.flatMap rnC)) (hlen : rs.length ≤ 1099511627776) :
    Calls Tryd.prog 10 #[v] w fun e w' => e = .returned (.pointer (some ⟨w.heap.size + 1, 0, none⟩)) ∧ Below w.heap.size w w' ∧ ∃ vb, TabAt w' (w.heap.size + 1) rs w.heap.size (w.heap.size + 2) vb := by
  by_cases h0 : rs.length = 0
  · obtain rfl : rs = [] := List.length_eq_zero_iff.1 h0
    obtain ⟨a, cap, rfl⟩ := own_head' h
    refine (new_none a cap w).mono ?_
    rintro e w' ⟨rfl, vb, hM⟩
    exact ⟨rfl, hM.below, vb, Mk.tab (rs := []) hM⟩
  · obtain ⟨g, cap, rfl, hcap, hg, hgl, hcells⟩ := own_rns h (by omega)
    refine (new_some g cap rs w hgl hcap hlen hcells).mono ?_
    rintro e w' ⟨rfl, vb, hM⟩
    exact ⟨rfl, hM.below, vb, hM.tab⟩
end Go.Proofs.YtjfbogjpmieogacDoor.Pl
