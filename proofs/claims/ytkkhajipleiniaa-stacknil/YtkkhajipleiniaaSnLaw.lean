/-
  What speaks; no stack: the law's walk.
-/
import Derived.Test.YtkkhajipleiniaaStNone
import Derived.Test.YtkkhajipleiniaaStSpeaks
namespace Go.Proofs.Ytkkhajipleiniaa
open Go.RowKit

set_option maxRecDepth 100000 in
set_option maxHeartbeats 2000000 in
theorem pop_none (w : World) : Calls Try.prog 11 #[.pointer none] w fun e w' => e = .returned (.tuple #[.agg #[.int .i64 0, .string ⟨#[]⟩], .bool false]) ∧ Below w.heap.size w w' := by
  have HB : Hid (∀ o, Below w.heap.size w (w.alloc o)) := fun o => (Below.refl _ _).alloc (Nat.le_refl _) o
  have HT : Hid (∀ w, _) := fun w => top_none w
  go_enter Try.func11, Try.ntmps11
  go_wp2_with fail
  refine Calls.mono (HT.out _) ?_
  rintro e w1 ⟨rfl, hb1⟩
  have hz := hb1.size
  rw [World.size_alloc] at hz
  have hb0 := hb1.block w.heap.size (by simp)
  have hnew := heap_alloc_new w (.cells #[.int .i64 0, .string ⟨#[]⟩] 31)
  have hold : ∀ o, (w1.alloc o).heap[w.heap.size]? = some (.cells #[.int .i64 0, .string ⟨#[]⟩] 31 (0, 0)) := fun o => (heap_alloc_old w1 o (by omega)).trans (hb0.trans hnew)
  have d0 : ∀ o, (w1.alloc o).cell? ⟨w.heap.size, 0, none⟩ = some (.int .i64 0) := fun o => by simp [World.cell?, hold]
  have d1 : ∀ o, (w1.alloc o).cell? ⟨w.heap.size, 1, none⟩ = some (.string ⟨#[]⟩) := fun o => by simp [World.cell?, hold]
  have f0 : ∀ o, (w1.alloc o).frozen? ⟨w.heap.size, 0, none⟩ = false := fun o => by simp [World.frozen?, hold]
  have f1 : ∀ o, (w1.alloc o).frozen? ⟨w.heap.size, 1, none⟩ = false := fun o => by simp [World.frozen?, hold]
  have HB1 : Hid (Below w.heap.size w w1) := (HB.out _).trans (hb1.mono (HB.out _).size)
  clear hb1 hb0 hnew hold HT
  go_wp2
  refine bodyPost_ret (v := .tuple #[.agg #[.int .i64 0, .string ⟨#[]⟩], .bool false]) ?_ rfl ⟨rfl, ?_⟩
  · simp [results, Try.results11, go_sem, d0, d1]
  · exact ((HB1.out.alloc (HB1.out.size) _).setCell (p := ⟨w.heap.size, 0, none⟩) (Nat.le_refl _) _).setCell (p := ⟨w.heap.size, 1, none⟩) (Nat.le_refl _) _

set_option maxRecDepth 100000 in
set_option maxHeartbeats 4000000 in
theorem snil_law (n : Int) (s : ByteArray) (w : World) : Calls Try.prog 6 #[.int .i64 n, .string s] w fun e w' => e = .returned (.bool true) ∧ Below w.heap.size w w' := by
  go_enter Try.func6, Try.ntmps6
  go_wp2_with fail
  refine Calls.mono (stSpeaks w) ?_
  rintro e w1 ⟨rfl, hb1⟩
  have HB1 : Hid (Below w.heap.size w w1) := hb1
  clear hb1
  go_wp2_with fail
  refine Calls.mono (push_none ⟨0, ⟨#[]⟩⟩ _) ?_
  rintro e w2 ⟨rfl, hb2⟩
  have HB2 : Hid (Below w.heap.size w w2) := by
    first
      | exact HB1.out.trans (hb2.mono HB1.out.size)
      | exact (HB1.out.alloc HB1.out.size _).trans (hb2.mono (HB1.out.alloc HB1.out.size _).size)
      | exact ((HB1.out.alloc HB1.out.size _).alloc (HB1.out.alloc HB1.out.size _).size _).trans (hb2.mono ((HB1.out.alloc HB1.out.size _).alloc (HB1.out.alloc HB1.out.size _).size _).size)
  clear hb2 HB1
  go_wp2_with fail
  refine Calls.mono (top_none _) ?_
  rintro e w3 ⟨rfl, hb3⟩
  have HB3 : Hid (Below w.heap.size w w3) := by
    first
      | exact HB2.out.trans (hb3.mono HB2.out.size)
      | exact (HB2.out.alloc HB2.out.size _).trans (hb3.mono (HB2.out.alloc HB2.out.size _).size)
      | exact ((HB2.out.alloc HB2.out.size _).alloc (HB2.out.alloc HB2.out.size _).size _).trans (hb3.mono ((HB2.out.alloc HB2.out.size _).alloc (HB2.out.alloc HB2.out.size _).size _).size)
  clear hb3 HB2
  go_wp2_with fail
  refine Calls.mono (pop_none _) ?_
  rintro e w4 ⟨rfl, hb4⟩
  have HB4 : Hid (Below w.heap.size w w4) := by
    first
      | exact HB3.out.trans (hb4.mono HB3.out.size)
      | exact (HB3.out.alloc HB3.out.size _).trans (hb4.mono (HB3.out.alloc HB3.out.size _).size)
      | exact ((HB3.out.alloc HB3.out.size _).alloc (HB3.out.alloc HB3.out.size _).size _).trans (hb4.mono ((HB3.out.alloc HB3.out.size _).alloc (HB3.out.alloc HB3.out.size _).size _).size)
  clear hb4 HB3
  go_wp2_with fail
  refine Calls.mono (items_none _) ?_
  rintro e w5 ⟨rfl, hb5⟩
  have HB5 : Hid (Below w.heap.size w w5) := by
    first
      | exact HB4.out.trans (hb5.mono HB4.out.size)
      | exact (HB4.out.alloc HB4.out.size _).trans (hb5.mono (HB4.out.alloc HB4.out.size _).size)
      | exact ((HB4.out.alloc HB4.out.size _).alloc (HB4.out.alloc HB4.out.size _).size _).trans (hb5.mono ((HB4.out.alloc HB4.out.size _).alloc (HB4.out.alloc HB4.out.size _).size _).size)
  clear hb5 HB4
  go_wp2_with fail
  refine Calls.mono (find_none n _) ?_
  rintro e w6 ⟨rfl, hb6⟩
  have HB6 : Hid (Below w.heap.size w w6) := by
    first
      | exact HB5.out.trans (hb6.mono HB5.out.size)
      | exact (HB5.out.alloc HB5.out.size _).trans (hb6.mono (HB5.out.alloc HB5.out.size _).size)
      | exact ((HB5.out.alloc HB5.out.size _).alloc (HB5.out.alloc HB5.out.size _).size _).trans (hb6.mono ((HB5.out.alloc HB5.out.size _).alloc (HB5.out.alloc HB5.out.size _).size _).size)
  clear hb6 HB5
  go_wp2_with fail
  refine Calls.mono (cut_none n _) ?_
  rintro e w7 ⟨rfl, hb7⟩
  have HB7 : Hid (Below w.heap.size w w7) := by
    first
      | exact HB6.out.trans (hb7.mono HB6.out.size)
      | exact (HB6.out.alloc HB6.out.size _).trans (hb7.mono (HB6.out.alloc HB6.out.size _).size)
      | exact ((HB6.out.alloc HB6.out.size _).alloc (HB6.out.alloc HB6.out.size _).size _).trans (hb7.mono ((HB6.out.alloc HB6.out.size _).alloc (HB6.out.alloc HB6.out.size _).size _).size)
  clear hb7 HB6
  go_wp2_with fail
  refine Calls.mono (lay_none _) ?_
  rintro e w8 ⟨rfl, hb8⟩
  have HB8 : Hid (Below w.heap.size w w8) := by
    first
      | exact HB7.out.trans (hb8.mono HB7.out.size)
      | exact (HB7.out.alloc HB7.out.size _).trans (hb8.mono (HB7.out.alloc HB7.out.size _).size)
      | exact ((HB7.out.alloc HB7.out.size _).alloc (HB7.out.alloc HB7.out.size _).size _).trans (hb8.mono ((HB7.out.alloc HB7.out.size _).alloc (HB7.out.alloc HB7.out.size _).size _).size)
  clear hb8 HB7
  go_wp2_with fail
  refine Calls.mono (in_none n s _) ?_
  rintro e w9 ⟨rfl, hb9⟩
  have HB9 : Hid (Below w.heap.size w w9) := by
    first
      | exact HB8.out.trans (hb9.mono HB8.out.size)
      | exact (HB8.out.alloc HB8.out.size _).trans (hb9.mono (HB8.out.alloc HB8.out.size _).size)
      | exact ((HB8.out.alloc HB8.out.size _).alloc (HB8.out.alloc HB8.out.size _).size _).trans (hb9.mono ((HB8.out.alloc HB8.out.size _).alloc (HB8.out.alloc HB8.out.size _).size _).size)
  clear hb9 HB8
  go_wp2_with fail
  refine Calls.mono (until_none s _) ?_
  rintro e w10 ⟨rfl, hb10⟩
  have HB10 : Hid (Below w.heap.size w w10) := by
    first
      | exact HB9.out.trans (hb10.mono HB9.out.size)
      | exact (HB9.out.alloc HB9.out.size _).trans (hb10.mono (HB9.out.alloc HB9.out.size _).size)
      | exact ((HB9.out.alloc HB9.out.size _).alloc (HB9.out.alloc HB9.out.size _).size _).trans (hb10.mono ((HB9.out.alloc HB9.out.size _).alloc (HB9.out.alloc HB9.out.size _).size _).size)
  clear hb10 HB9
  go_wp2_with fail
  refine Calls.mono (implied_none s _) ?_
  rintro e w11 ⟨rfl, hb11⟩
  have HB11 : Hid (Below w.heap.size w w11) := by
    first
      | exact HB10.out.trans (hb11.mono HB10.out.size)
      | exact (HB10.out.alloc HB10.out.size _).trans (hb11.mono (HB10.out.alloc HB10.out.size _).size)
      | exact ((HB10.out.alloc HB10.out.size _).alloc (HB10.out.alloc HB10.out.size _).size _).trans (hb11.mono ((HB10.out.alloc HB10.out.size _).alloc (HB10.out.alloc HB10.out.size _).size _).size)
  clear hb11 HB10
  go_wp2
  go_ret
  exact ⟨rfl, HB11.out⟩
end Go.Proofs.Ytkkhajipleiniaa
