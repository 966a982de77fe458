/-
  The elements that have never any kids: the program's test, and the law.
-/
import Derived.Test.YtbebjkeigcnhfaaTests
import Derived.Deep.RegionLaw
import Derived.Deep.DeepCutAuto
import Derived.Deep.QuietTactic
import Derived.BigQuiet
namespace Go.Proofs.Ytbebjkeigcnhfaa
open Go.RowKit

def voidRow : List ByteArray := [⟨#[97, 114, 101, 97]⟩, ⟨#[98, 97, 115, 101]⟩, ⟨#[98, 114]⟩, ⟨#[99, 111, 108]⟩, ⟨#[101, 109, 98, 101, 100]⟩, ⟨#[104, 114]⟩, ⟨#[105, 109, 103]⟩, ⟨#[105, 110, 112, 117, 116]⟩, ⟨#[107, 101, 121, 103, 101, 110]⟩, ⟨#[108, 105, 110, 107]⟩, ⟨#[109, 101, 116, 97]⟩, ⟨#[112, 97, 114, 97, 109]⟩, ⟨#[115, 111, 117, 114, 99, 101]⟩, ⟨#[116, 114, 97, 99, 107]⟩, ⟨#[119, 98, 114]⟩]

/-- Is a text one of many? -/
def isOne (l : List ByteArray) (s : ByteArray) : Bool := l.any fun c => s.toList == c.toList

theorem voidRow_len : voidRow.length = 15 := by decide +kernel
theorem br_void : isOne voidRow ⟨#[98, 114]⟩ = true := by decide +kernel

/-- A row of texts lies in block g. -/
structure TextsAt (w : World) (g : Nat) (l : List ByteArray) : Prop where
  cell : ∀ i, (h : i < l.length) → w.cell? ⟨g, i, none⟩ = some (.string l[i])

theorem isOne_take {l : List ByteArray} {s : ByteArray} {k : Nat} (h : k < l.length) : isOne (l.take (k + 1)) s = (isOne (l.take k) s || l[k].toList == s.toList) := by
  unfold isOne
  rw [List.take_succ_eq_append_getElem h, List.any_append]
  have e : (s.toList == l[k].toList) = (l[k].toList == s.toList) := by
    rw [Bool.eq_iff_iff, beq_iff_eq, beq_iff_eq]
    exact ⟨Eq.symm, Eq.symm⟩
  simp [e]

set_option maxRecDepth 100000 in
set_option maxHeartbeats 4000000 in
theorem void_any (y : ByteArray) (w : World) : Calls Try.prog 4 #[.string y] w fun e w' => e = .returned (.bool (isOne voidRow y)) ∧ w' = w := by
  go_enter Try.func4, Try.ntmps4
  refine wp_seq ?_
  refine wp_region_lit (wpList_value rfl rfl (wpList_nil ?_))
  show Code.wp _ _ _ _ w
  refine wp_seq ?_
  refine wp_seq ?_
  refine wp_region_lit (wpList_value rfl rfl (wpList_nil ?_))
  show Code.wp _ _ _ _ w
  refine wp_block ?_
  refine wp_seq ?_
  refine tests_wp 20 3 4 [3] (by decide) _ voidRow (by kernel_rfl) _ _ w y rfl rfl ?_
  intro a' ha
  show Code.wp _ _ _ a' w
  have hs := ha.said
  have hz := ha.size
  have hd := ha.defers
  change a'.eval (.tmp 4) = .bool (isOne voidRow y) at hs
  refine wp_cond hs ?_
  generalize isOne voidRow y = r at *
  cases r
  · simp only [Bool.false_eq_true, if_false]
    refine wp_skip ?_
    show Code.wp _ _ _ a' w
    refine wp_seq ?_
    refine wp_region_lit (wpList_value rfl rfl (wpList_nil ?_))
    show Code.wp _ _ _ _ w
    refine wp_ret ?_
    refine bodyPost_ret (v := .bool false) ?_ ?_ ?_
    · simp [results, Try.results4, go_sem, Act.put, hz]
    · exact hd
    · exact ⟨rfl, rfl⟩
  · simp only [if_true]
    refine wp_seq ?_
    refine wp_region_lit (wpList_value rfl rfl (wpList_nil ?_))
    show Code.wp _ _ _ _ w
    refine wp_ret ?_
    simp only [Exit.inBlock, Exit.then]
    refine bodyPost_ret (v := .bool true) ?_ ?_ ?_
    · simp [results, Try.results4, go_sem, Act.put, hz]
    · exact hd
    · exact ⟨rfl, rfl⟩

def voidCells : List Value := voidRow.map fun b => .string b

set_option maxRecDepth 100000 in
set_option maxHeartbeats 4000000 in
theorem void_law (y : ByteArray) (w : World) : Calls Try.prog 3 #[.string y] w fun e w' => e = .returned (.bool true) ∧ Below w.heap.size w w' := by
  have H1 : Hid (∀ w, _) := fun w => void_any ⟨#[98, 114]⟩ w
  rw [br_void] at H1
  have H2 : Hid (∀ w, _) := fun w => void_any y w
  go_enter Try.func3, Try.ntmps3
  go_upto_region 1 with fail
  refine wp_region_lit ?_
  refine wpList_value (v := .slice (some ⟨w.heap.size, 0, none⟩) 15 15) (w' := w.alloc (.cells voidCells.toArray 9)) rfl (by kernel_rfl) ?_
  have HN : Hid (TextsAt (w.alloc (.cells voidCells.toArray 9)) w.heap.size voidRow) := by
    refine ⟨fun i hi => ?_⟩
    rw [World.cell?_alloc_at _ _ _ _ rfl]
    simp [voidCells, hi]
  have HB : Hid (Below w.heap.size w (w.alloc (.cells voidCells.toArray 9))) := (Below.refl _ _).alloc (Nat.le_refl _) _
  have HL : Hid (voidRow.length = 15) := voidRow_len
  generalize w.alloc (.cells voidCells.toArray 9) = w2 at *
  generalize voidRow = l at *
  go_wp2_with fail
  go_loop [4, 5] (fun b i => ∃ k : Nat, k ≤ 15 ∧ i = .int .i64 k ∧ b = .bool (isOne (l.take k) y)) (fun _ i => 15 - (intOf i).toNat)
  case atStart => exact ⟨0, Nat.zero_le _, rfl, rfl⟩
  case round =>
    obtain ⟨k, hk, rfl, rfl⟩ := hrel
    by_cases hlt : k < 15
    · have hk2 : k < l.length := by rw [HL.out]; exact hlt
      have ck := HN.out.cell k hk2
      have HS : Hid _ := isOne_take (s := y) hk2
      generalize l[k] = t at *
      clear hk2
      have hI : (k : Int) < 15 := by omega
      cases hT : isOne (l.take k) y
      · rw [hT, Bool.false_or] at HS
        cases he : (t.toList == y.toList)
        all_goals
          go_wp2
          go_round
          case rel => exact ⟨k + 1, by omega, by go_num, by rw [HS.out, he]⟩
          case measure => simp [intOf]; omega
      · rw [hT, Bool.true_or] at HS
        go_wp2
        go_round
        case rel => exact ⟨k + 1, by omega, by go_num, by rw [HS.out]⟩
        case measure => simp [intOf]; omega
    · obtain rfl : k = 15 := by omega
      have HE : Hid (l.take 15 = l) := List.take_of_length_le (by rw [HL.out]; exact Nat.le_refl _)
      rw [HE.out]
      clear HN HL HE
      generalize isOne l y = r at *
      go_wp2_with fail
      refine Calls.mono (H1.out _) ?_
      rintro e w3 ⟨rfl, rfl⟩
      go_wp2_with fail
      refine Calls.mono (H2.out _) ?_
      rintro e w4 ⟨rfl, rfl⟩
      cases r
      all_goals
        go_wp2
        go_ret
        exact ⟨rfl, HB.out⟩
end Go.Proofs.Ytbebjkeigcnhfaa
