/-
  A new list; what speaks.
-/
import Derived.Test.YtalbiekleggkoaaMkTell
namespace Go.Proofs.Ytalbiekleggkoaa
open Go.RowKit

/-- A new list. -/
theorem list_new (w : World) : ListAt (w.alloc (.cells #[.slice none 0 0] 51)) w.heap.size w.heap.size (.slice none 0 0) [] :=
  ⟨heap_alloc_new w _, World.ownsRow_nil _ _ _ _, Nat.le_refl _⟩

/-- What the list holds after so many. -/
def stOf : Nat → List Ent
  | 0 => []
  | k + 1 => thinOf ⟨#[98]⟩ (stOf k) ++ [⟨(k : Int), ⟨#[98]⟩⟩]
theorem stOf_len : ∀ k, (stOf k).length ≤ k := by
  intro k
  induction k with
  | zero => exact Nat.le_refl _
  | succ k ih =>
    rw [stOf, List.length_append]
    have := thinOf_len ⟨#[98]⟩ (stOf k)
    simp
    omega
theorem st_len : (stOf 4).length = 3 := by decide +kernel
theorem st_last : mlastOf ⟨#[98]⟩ (stOf 4) = 2 := by decide +kernel
theorem st_find : lastOf (fun i => i.node == 0) (stOf 4) (stOf 4).length = -1 := by decide +kernel

set_option maxRecDepth 100000 in
set_option maxHeartbeats 4000000 in
theorem mkSpeaks (w : World) : Calls Try.prog 23 #[] w fun e w' => e = .returned (.bool true) ∧ Below w.heap.size w w' := by
  have HN : Hid (Below w.heap.size w (w.alloc (.cells #[.slice none 0 0] 51)) ∧ ∃ v, ListAt (w.alloc (.cells #[.slice none 0 0] 51)) w.heap.size w.heap.size v (stOf 0)) := ⟨(Below.refl _ _).alloc (Nat.le_refl _) _, _, list_new w⟩
  go_enter Try.func23, Try.ntmps23
  go_wp2
  generalize w.alloc (.cells #[.slice none 0 0] 51) = w0 at *
  go_loopw [2] (fun i wr => ∃ k : Nat, k ≤ 4 ∧ i = .int .i64 k ∧ Hid (Below w.heap.size w wr ∧ ∃ v, ListAt wr w.heap.size w.heap.size v (stOf k))) (fun i _ => 4 - (intOf i).toNat)
  case atStart => exact ⟨0, by omega, rfl, HN⟩
  case round =>
    clear HN
    obtain ⟨k, hk, rfl, HI⟩ := hrel
    obtain ⟨v, hS⟩ := HI.out.2
    have HS : Hid _ := hS
    have HB : Hid _ := HI.out.1
    have HLN : Hid ((stOf k).length ≤ k) := stOf_len k
    clear hS HI
    by_cases hlt : k < 4
    · have hI : (k : Int) < 4 := by omega
      have HA : Hid _ := add_in w.heap.size w.heap.size v (stOf k) ⟨(k : Int), ⟨#[98]⟩⟩ (by show (k : Int) ≠ -1; omega) wr HS.out (by have := HLN.out; omega)
      unfold entV at HA
      go_wp2_with fail
      refine Calls.mono HA.out ?_
      rintro e w1 ⟨rfl, hp⟩
      have HR : Hid (Below w.heap.size w w1 ∧ ∃ v, ListAt w1 w.heap.size w.heap.size v (stOf (k + 1))) := ⟨HB.out.trans (hp.below HS.out), hp.at'⟩
      clear hp HS HB HLN HA
      go_wp2
      go_roundw
      case rel => exact ⟨k + 1, by omega, by go_num, HR⟩
      case measure => simp only [intOf]; go_num
    · obtain rfl : k = 4 := by omega
      have HE : Hid _ := entries_in w.heap.size w.heap.size v (stOf 4) wr HS.out (by rw [st_len]; omega)
      rw [st_len] at HE
      have h43 : ¬ ((4 : Nat) : Int) < 4 := by omega
      clear hlt hk
      go_wp2_with fail
      refine Calls.mono HE.out ?_
      rintro e w1 ⟨v1, rfl, ho1, hb1⟩
      obtain ⟨a1, c1, rfl⟩ : ∃ a c, v1 = .slice a 3 c := by
        rcases ho1.2 with ⟨h1, h2⟩ | ⟨g1, c1, _, h1, _⟩
        · omega
        · exact ⟨_, c1, h1⟩
      have HS1 : Hid _ := HS.out.below hb1
      have HB1 : Hid (Below w.heap.size w w1) := HB.out.trans (hb1.mono HB.out.size)
      clear ho1 hb1 HS HB HE
      have HL : Hid _ := mlast_in w.heap.size w.heap.size v (stOf 4) ⟨#[98]⟩ w1 HS1.out (by rw [st_len]; omega)
      rw [st_last] at HL
      go_wp2_with fail
      refine Calls.mono HL.out ?_
      rintro e w2 ⟨rfl, hb2⟩
      have HS2 : Hid _ := HS1.out.below hb2
      have HB2 : Hid (Below w.heap.size w w2) := HB1.out.trans (hb2.mono HB1.out.size)
      clear hb2 HS1 HB1 HL
      have HF : Hid _ := mfind_in w.heap.size w.heap.size v (stOf 4) 0 (by decide) w2 HS2.out (by rw [st_len]; omega)
      rw [st_find] at HF
      go_wp2_with fail
      refine Calls.mono HF.out ?_
      rintro e w3 ⟨rfl, hb3⟩
      have HB3 : Hid (Below w.heap.size w w3) := HB2.out.trans (hb3.mono HB2.out.size)
      clear hb3 HS2 HB2 HF
      go_wp2
      go_ret
      exact ⟨rfl, HB3.out⟩
end Go.Proofs.Ytalbiekleggkoaa
