/-
  Rows of scalars that a statement lays; what every statement on places asks first.
-/
import Derived.Test.YtcndjfpcddidhaaPlaceAt
namespace Go.Proofs.Ytcndjfpcddidhaa
open Go.RowKit

def rnC (r : Int × Int) : List Value := [.int .i64 r.1, .int .i64 r.2]

theorem Try.infoRn : (Try.prog.info? 27).map (fun i => (i.zero, i.size, i.bytes)) = some (some (.agg #[.int .i64 0, .int .i64 0]), 2, 16) := by kernel_rfl

theorem rn_at (rs : List (Int × Int)) (p : Nat) (hp : p < rs.length) : (rs.flatMap rnC)[p * 2]? = some (.int .i64 rs[p].1) ∧ (rs.flatMap rnC)[p * 2 + 1]? = some (.int .i64 rs[p].2) := by
  induction rs generalizing p with
  | nil => simp at hp
  | cons r rs ih =>
    match p, hp with
    | 0, _ => simp [rnC]
    | p + 1, hp =>
      have := ih p (by simpa using hp)
      simp only [List.flatMap_cons, rnC]
      rw [show (p + 1) * 2 = p * 2 + 2 by omega, show p * 2 + 2 + 1 = p * 2 + 1 + 2 by omega]
      simpa using this

theorem own_rns {w : World} {base : Nat} {e : TypeId} {v : Value} {rs : List (Int × Int)} (h : w.ownsRow base e 2 v rs.length (rs.flatMap rnC)) (hpos : 0 < rs.length) :
    ∃ g cap, v = .slice (some ⟨g, 0, none⟩) rs.length cap ∧ rs.length ≤ cap ∧ base ≤ g ∧ g < w.heap.size ∧ ∀ p, (hp : p < rs.length) → w.cell? ⟨g, p * 2, none⟩ = some (.int .i64 rs[p].1) ∧ w.cell? ⟨g, p * 2 + 1, none⟩ = some (.int .i64 rs[p].2) := by
  rcases h.2 with ⟨rfl, h0⟩ | ⟨g, cap, cur, rfl, hg, hh, hnc, hcm, hcs, htk⟩
  · omega
  · refine ⟨g, cap, rfl, hnc, hg, ?_, fun p hp => ?_⟩
    · rcases Nat.lt_or_ge g w.heap.size with h' | h'
      · exact h'
      · simp [Array.getElem?_eq_none h'] at hh
    · have hr := rn_at rs p hp
      rw [← htk] at hr
      rw [List.getElem?_take, if_pos (by omega), List.getElem?_take, if_pos (by omega)] at hr
      simp only [World.cell?, hh]
      simpa using hr

/-- New of any row of scalars. -/
theorem new_row (base : Nat) (v : Value) (rs : List (Int × Int)) (w : World) (h : w.ownsRow base 27 2 v rs.length (rs.flatMap rnC)) (hlen : rs.length ≤ 1099511627776) :
    Calls Try.prog 5 #[v] w fun e w' => e = .returned (.pointer (some ⟨w.heap.size + 1, 0, none⟩)) ∧ Below w.heap.size w w' ∧ ∃ vb, TabAt w' (w.heap.size + 1) rs w.heap.size (w.heap.size + 2) vb := by
  by_cases h0 : rs.length = 0
  · obtain rfl : rs = [] := List.length_eq_zero_iff.1 h0
    obtain ⟨a, cap, rfl⟩ := own_head' h
    refine (new_none a cap w).mono ?_
    rintro e w' ⟨rfl, vb, hM⟩
    exact ⟨rfl, hM.below, vb, Mk.tab (rs := []) hM⟩
  · obtain ⟨g, cap, rfl, hcap, hg, hgl, hcells⟩ := own_rns h (by omega)
    refine (new_some g cap rs w hgl hcap hlen hcells).mono ?_
    rintro e w' ⟨rfl, vb, hM⟩
    exact ⟨rfl, hM.below, vb, hM.tab⟩

theorem news_of (w : World) (cs : Array Value) (e : TypeId) (k : Nat) (hk : k = w.heap.size) : ∀ j u, cs.toList[j]? = some u → (w.alloc (.cells cs e)).cell? ((⟨k, 0, none⟩ : Addr).add j) = some u := by
  intro j u hj
  subst hk
  have e0 : (⟨w.heap.size, 0, none⟩ : Addr).add j = ⟨w.heap.size, j, none⟩ := by
    cases j <;> simp [Addr.add]
  rw [e0]
  have hj2 : cs[j]? = some u := by simpa using hj
  exact (World.cell?_alloc_at cs e _ j rfl).trans hj2

theorem lit_own (w : World) : (w.alloc (.cells #[.int .i64 10, .int .i64 0] 27)).ownsRow w.heap.size 27 2 (.slice (some ⟨w.heap.size, 0, none⟩) 1 1) 1 ([((10 : Int), (0 : Int))].flatMap rnC) :=
  World.ownsRow_lit w _ 1 (Nat.le_refl _) (by unfold maxLen; omega) rfl

theorem line_of : lineCol (([((10 : Int), (0 : Int))].map (·.1)).take (aheadOf [((10 : Int), (0 : Int))] 1)) = (2, 1) := by decide

set_option maxRecDepth 100000 in
set_option maxHeartbeats 1000000 in
theorem speaks3_any (w : World) :
    Calls Try.prog 4 #[] w fun e w' => e = .returned (.bool true) ∧ Below w.heap.size w w' := by
  have HN : Hid _ := new_row w.heap.size _ [((10 : Int), (0 : Int))] (w.alloc (.cells #[.int .i64 10, .int .i64 0] 27)) (lit_own w) (by decide)
  have hz : (w.alloc (.cells #[.int .i64 10, .int .i64 0] 27)).heap.size = w.heap.size + 1 := by simp
  rw [hz] at HN
  clear hz
  have HB : Hid (Below w.heap.size w (w.alloc (.cells #[.int .i64 10, .int .i64 0] 27))) := (Below.refl _ _).alloc (Nat.le_refl _) _
  go_enter Try.func4, Try.ntmps4
  go_wp2_with fail
  refine Calls.mono HN.out ?_
  rintro e w1 ⟨rfl, hb1, vb, hT⟩
  have HA : Hid _ := at_any _ _ _ _ _ 1 w1 hT (by decide) (by decide)
  rw [line_of] at HA
  have HB1 : Hid (Below w.heap.size w w1) := HB.out.trans (hb1.mono (by omega))
  clear hT HN hb1
  go_wp2_with fail
  refine Calls.mono HA.out ?_
  rintro e w2 ⟨rfl, hb2⟩
  have HB2 : Hid (Below w.heap.size w w2) := HB1.out.trans (hb2.mono HB1.out.size)
  clear hb2 HA
  go_wp2
  go_ret
  exact ⟨rfl, HB2.out⟩
end Go.Proofs.Ytcndjfpcddidhaa
