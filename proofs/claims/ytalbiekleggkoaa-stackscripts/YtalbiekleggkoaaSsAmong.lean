/-
  The reference's look for a text in a row of texts.
-/
import Derived.Test.YtalbiekleggkoaaSsRef
namespace Go.Proofs.Ytalbiekleggkoaa
open Go.RowKit

/-- A row of texts lies in block g. -/
structure TextsAt (w : World) (g : Nat) (l : List ByteArray) : Prop where
  cell : ∀ i, (h : i < l.length) → w.cell? ⟨g, i, none⟩ = some (.string l[i])
  lt : g < w.heap.size

theorem isAm_take {l : List ByteArray} {s : ByteArray} {k : Nat} (h : k < l.length) : isAm (l.take (k + 1)) s = (isAm (l.take k) s || s.toList == l[k].toList) := by
  unfold isAm
  rw [List.take_succ_eq_append_getElem h, List.any_append]
  simp
theorem isAm_at {l : List ByteArray} {s : ByteArray} {k : Nat} (h : k < l.length) (e : (l[k].toList == s.toList) = true) : isAm l s = true := by
  unfold isAm
  rw [List.any_eq_true]
  refine ⟨l[k], List.getElem_mem h, ?_⟩
  rw [beq_iff_eq] at e ⊢
  exact e.symm

set_option maxRecDepth 100000 in
set_option maxHeartbeats 2000000 in
theorem among_any (g cap : Nat) (l : List ByteArray) (s : ByteArray) (w : World) (hT : TextsAt w g l) (hl : l.length ≤ 1000000) :
    Calls Try.prog 48 #[.slice (some ⟨g, 0, none⟩) l.length cap, .string s] w fun e w' => e = .returned (.bool (isAm l s)) ∧ w' = w := by
  have HT : Hid _ := hT
  clear hT
  go_enter Try.func48, Try.ntmps48
  go_wp2
  go_loop [5] (fun i => ∃ k : Nat, k ≤ l.length ∧ i = .int .i64 k ∧ isAm (l.take k) s = false) (fun i => l.length - (intOf i).toNat)
  case atStart => exact ⟨0, Nat.zero_le _, rfl, rfl⟩
  case round =>
    obtain ⟨k, hk, rfl, hno⟩ := hrel
    by_cases hlt : k < l.length
    · have ck := HT.out.cell k hlt
      have HN : Hid _ := hno
      clear hno
      have HS : Hid _ := isAm_take (s := s) hlt
      have HA : Hid ((l[k].toList == s.toList) = true → isAm l s = true) := isAm_at hlt
      have HQ : Hid ((l[k].toList == s.toList) = (s.toList == l[k].toList)) := by rw [Bool.eq_iff_iff, beq_iff_eq, beq_iff_eq]; exact ⟨Eq.symm, Eq.symm⟩
      generalize l[k] = t at *
      have hI : (k : Int) < (l.length : Int) := by omega
      cases he : (t.toList == s.toList)
      · go_wp2
        go_round
        case rel => exact ⟨k + 1, by omega, by go_num, by rw [HS.out, HN.out, ← HQ.out, he]; rfl⟩
        case measure => simp [intOf]; omega
      · go_wp2
        go_ret
        rw [HA.out he]
        exact ⟨rfl, rfl⟩
    · have hk2 : k = l.length := by omega
      have HN : Hid (isAm l s = false) := by
        rw [hk2, List.take_of_length_le (Nat.le_refl _)] at hno
        exact hno
      clear hno hk2
      go_wp2
      go_ret
      rw [HN.out]
      exact ⟨rfl, rfl⟩
end Go.Proofs.Ytalbiekleggkoaa
