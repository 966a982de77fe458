/-
  The reference's line and column; what a place is with no table.
-/
import Derived.Test.YtcndjfpcddidhaaPlaceRow
import Derived.Test.YtcndjfpcddidhaaNumPlain
namespace Go.Proofs.Ytcndjfpcddidhaa
open Go.RowKit

/-- An argument: whole numbers, where they lie. -/
structure IntsAt (w : World) (a : Option Addr) (Z : List Int) : Prop where
  out : ∀ t, (h : t < Z.length) → ∃ ad, a = some ad ∧ w.cell? (ad.add t) = some (.int .i64 Z[t])

theorem cell_later {w w' : World} {a : Addr} {v : Value} (h : w.cell? a = some v) (hb : Below w.heap.size w w') : w'.cell? a = some v :=
  (hb.cell (p := a) (World.block_lt_of_cell? w _ h)).trans h

theorem IntsAt.later {w w' : World} {a : Option Addr} {Z : List Int} (h : IntsAt w a Z) (hb : Below w.heap.size w w') : IntsAt w' a Z := ⟨fun t ht => by
  obtain ⟨ad, e, hc⟩ := h.out t ht
  exact ⟨ad, e, cell_later hc hb⟩⟩

def rfC (r : Int × Int) : List Value := [.int .i64 r.1, .int .i64 r.2, .bool false]

theorem Try.infoRf : (Try.prog.info? 29).map (fun i => (i.zero, i.size, i.bytes)) = some (some (.agg #[.int .i64 0, .int .i64 0, .bool false]), 3, 24) := by kernel_rfl

theorem rf_at (rs : List (Int × Int)) (p : Nat) (hp : p < rs.length) : (rs.flatMap rfC)[p * 3]? = some (.int .i64 rs[p].1) ∧ (rs.flatMap rfC)[p * 3 + 1]? = some (.int .i64 rs[p].2) := by
  induction rs generalizing p with
  | nil => simp at hp
  | cons r rs ih =>
    match p, hp with
    | 0, _ => simp [rfC]
    | p + 1, hp =>
      have := ih p (by simpa using hp)
      simp only [List.flatMap_cons, rfC]
      rw [show (p + 1) * 3 = p * 3 + 3 by omega, show p * 3 + 3 + 1 = p * 3 + 1 + 3 by omega]
      simpa using this

theorem own_rfs {w : World} {base : Nat} {e : TypeId} {v : Value} {rs : List (Int × Int)} (h : w.ownsRow base e 3 v rs.length (rs.flatMap rfC)) :
    ∃ a cap, v = .slice a rs.length cap ∧ ∀ p, (hp : p < rs.length) → ∃ g, a = some ⟨g, 0, none⟩ ∧ w.cell? ⟨g, p * 3, none⟩ = some (.int .i64 rs[p].1) ∧ w.cell? ⟨g, p * 3 + 1, none⟩ = some (.int .i64 rs[p].2) := by
  rcases h.2 with ⟨rfl, h0⟩ | ⟨g, cap, cur, rfl, hg, hh, hnc, hcm, hcs, htk⟩
  · exact ⟨none, 0, by rw [h0], fun p hp => by omega⟩
  · refine ⟨some ⟨g, 0, none⟩, cap, rfl, fun p hp => ⟨g, rfl, ?_⟩⟩
    have hr := rf_at rs p hp
    rw [← htk] at hr
    rw [List.getElem?_take, if_pos (by omega), List.getElem?_take, if_pos (by omega)] at hr
    simp only [World.cell?, hh]
    simpa using hr

theorem ahead_iff (rs : List (Int × Int)) (h : (rs.map (·.2)).Pairwise (· < ·)) (x : Int) (k : Nat) (hk : k < rs.length) : rs[k].2 < x ↔ k < aheadOf rs x := by
  have := rise_take (rs.map (·.2)) h x k (by simpa using hk)
  simpa [aheadOf] using this

theorem lineCol_bnd (l : List Int) : 1 ≤ (lineCol l).1 ∧ (lineCol l).1 ≤ 1 + l.length ∧ 1 ≤ (lineCol l).2 ∧ (lineCol l).2 ≤ 1 + l.length := by
  have key : ∀ n (l : List Int), l.length = n → 1 ≤ (lineCol l).1 ∧ (lineCol l).1 ≤ 1 + l.length ∧ 1 ≤ (lineCol l).2 ∧ (lineCol l).2 ≤ 1 + l.length := by
    intro n
    induction n with
    | zero =>
      intro l hl
      obtain rfl : l = [] := List.length_eq_zero_iff.1 hl
      decide
    | succ n ih =>
      intro l hl
      obtain ⟨l', v, rfl⟩ : ∃ l' v, l = l' ++ [v] := ⟨l.dropLast, l.getLast (by intro h; rw [h] at hl; cases hl), (List.dropLast_concat_getLast _).symm⟩
      have := ih l' (by simpa using hl)
      rw [lineCol_snoc]
      unfold stepLC
      simp only [List.length_append, List.length_cons, List.length_nil]
      split <;> simp only [] <;> omega
  exact key _ l rfl

set_option maxRecDepth 100000 in
set_option maxHeartbeats 2000000 in
theorem rAt_any (base : Nat) (v : Value) (rs : List (Int × Int)) (x : Int) (w : World) (h : w.ownsRow base 29 3 v rs.length (rs.flatMap rfC)) (hr : (rs.map (·.2)).Pairwise (· < ·)) (hlen : rs.length ≤ 1099511627776) :
    Calls Try.prog 7 #[v, .int .i64 x] w fun e w' => e = .returned (.tuple #[.int .i64 (lineCol ((rs.map (·.1)).take (aheadOf rs x))).1, .int .i64 (lineCol ((rs.map (·.1)).take (aheadOf rs x))).2]) ∧ Below w.heap.size w w' := by
  obtain ⟨a, cap, rfl, hc⟩ := own_rfs h
  have HC : Hid _ := hc
  have HR : Hid _ := hr
  have ha := ahead_le rs x
  have HL : Hid (∀ k, k ≤ rs.length → 1 ≤ (lineCol ((rs.map (·.1)).take k)).1 ∧ (lineCol ((rs.map (·.1)).take k)).1 ≤ 1099511627777 ∧ 1 ≤ (lineCol ((rs.map (·.1)).take k)).2 ∧ (lineCol ((rs.map (·.1)).take k)).2 ≤ 1099511627777) := fun k hk => by
    have h1 := lineCol_bnd ((rs.map (·.1)).take k)
    have h2 : ((rs.map (·.1)).take k).length ≤ rs.length := by rw [List.length_take, List.length_map]; omega
    refine ⟨h1.1, ?_, h1.2.2.1, ?_⟩ <;> omega
  clear h hc hr
  go_enter Try.func7, Try.ntmps7
  go_wp2
  go_loopw [6, 7, 8] (fun l c i wr => ∃ k : Nat, k ≤ aheadOf rs x ∧ i = .int .i64 k ∧ l = .int .i64 (lineCol ((rs.map (·.1)).take k)).1 ∧ c = .int .i64 (lineCol ((rs.map (·.1)).take k)).2 ∧ wr = w) (fun _ _ i _ => aheadOf rs x - (intOf i).toNat)
  case atStart => exact ⟨0, by omega, rfl, rfl, rfl, rfl⟩
  case round =>
    obtain ⟨k, hk, rfl, rfl, rfl, rfl⟩ := hrel
    by_cases hin : k < aheadOf rs x
    · have hkl : k < rs.length := by omega
      obtain ⟨g, rfl, c0, c1⟩ := HC.out k hkl
      have hlt := (ahead_iff rs HR.out x k hkl).2 hin
      have HS : Hid (lineCol ((rs.map (·.1)).take (k + 1)) = stepLC (lineCol ((rs.map (·.1)).take k)) rs[k].1) := by
        show _ = _
        rw [take_next rs k hkl, lineCol_snoc]
      obtain ⟨l1, l2, l3, l4⟩ := HL.out k (by omega)
      generalize lineCol ((rs.map (·.1)).take k) = lc at HS l1 l2 l3 l4 ⊢
      obtain ⟨la, lb⟩ := lc
      simp only [] at l1 l2 l3 l4 ⊢
      generalize rs[k].1 = v at c0 HS
      generalize rs[k].2 = y at c1 hlt
      by_cases hv : v = 10
      · have hv10 : (v == 10) = true := by simpa using hv
        have HS2 : Hid (lineCol ((rs.map (·.1)).take (k + 1)) = (la + 1, 1)) := by show _ = _; rw [HS.out]; simp [stepLC, hv]
        clear HS hv
        go_wp2
        go_roundw
        case rel => exact ⟨k + 1, by omega, by go_num, by rw [HS2.out], by rw [HS2.out], by simp⟩
        case measure => simp only [intOf]; go_num
      · have hv10 : (v == 10) = false := beq_false_of_ne hv
        have HS2 : Hid (lineCol ((rs.map (·.1)).take (k + 1)) = (la, lb + 1)) := by show _ = _; rw [HS.out]; simp [stepLC, hv]
        clear HS hv
        go_wp2
        go_roundw
        case rel => exact ⟨k + 1, by omega, by go_num, by rw [HS2.out], by rw [HS2.out], by simp⟩
        case measure => simp only [intOf]; go_num
    · have HK : Hid (aheadOf rs x = k) := by show _ = _; omega
      by_cases hkl : k < rs.length
      · obtain ⟨g, rfl, c0, c1⟩ := HC.out k hkl
        have hge := mt (ahead_iff rs HR.out x k hkl).1 hin
        generalize rs[k].2 = y at c1 hge
        clear hin
        go_wp2
        go_ret2
        rw [HK.out]
        exact ⟨rfl, Below.refl _ _⟩
      · clear hin
        go_wp2
        go_ret2
        rw [HK.out]
        exact ⟨rfl, Below.refl _ _⟩

set_option maxRecDepth 100000 in
theorem at_nil (x : Int) (w : World) :
    Calls Try.prog 6 #[.pointer none, .int .i64 x] w fun e w' => e = .returned (.tuple #[.int .i64 0, .int .i64 0]) ∧ Below w.heap.size w w' := by
  go_enter Try.func6, Try.ntmps6
  go_wp2
  go_ret2
  exact ⟨rfl, Below.refl _ _⟩
end Go.Proofs.Ytcndjfpcddidhaa
