/-
  How many of rising numbers stand below a bound: the program's search by halves.
-/
import Derived.Test.YtjfbogjpmieogacDoorRows
import Derived.Test.YtjfbogjpmieogacDoorSearch
import Derived.Test.YtjfbogjpmieogacDoorPlacePlain
import Derived.Shelf.SlSorted.Search
import Derived.RegionTactic
import Derived.Below
import Derived.Carry
import Derived.OwnWalk
import Derived.WalkKit
import Derived.WalkSpells
import Derived.WalkLawsBesides
import Derived.Deep.RegionLaw
import Derived.Deep.DeepCutAuto
import Derived.Deep.QuietTactic
import Derived.BigQuiet
import Derived.BigRegion
import Derived.Lib.SmallJoins
namespace Go.Proofs.YtjfbogjpmieogacDoor.Pl
open Go.RowKit Go.Lib Go.Sort

set_option maxHeartbeats 2000000 in
theorem closure_any (ba bx blk cap : Nat) (d : Array Int) (x : Int) (i : Nat) (W : World) (hi : i < d.size)
    (ha : W.cell? ⟨ba, 0, none⟩ = some (.slice (some ⟨blk, 0, none⟩) d.size cap)) (hx : W.cell? ⟨bx, 0, none⟩ = some (.int .i64 x)) (hc : W.cell? ⟨blk, i, none⟩ = some (.int .i64 d[i]!)) :
    Calls Tryd.prog 41 (#[.int .i64 i] ++ #[.pointer (some ⟨ba, 0, none⟩), .pointer (some ⟨bx, 0, none⟩)]) W fun e w' => e = .returned (.bool (decide (x ≤ d[i]!))) ∧ ∃ q, w' = W.drewN q := by
  generalize d[i]! = y at hc ⊢
  have hiz : (i : Int) < (d.size : Int) := by omega
  go_enter Tryd.func41, Tryd.ntmps41
  go_wp2
  go_region
  all_goals go_wp2
  all_goals go_ret
  all_goals exact ⟨by first | rfl | simp, 1, rfl⟩

set_option maxHeartbeats 2000000 in
theorem below_any (blk cap : Nat) (d : Array Int) (x : Int) (w : World) (hc : ∀ i, i < d.size → w.cell? ⟨blk, i, none⟩ = some (.int .i64 d[i]!)) (hblk : blk < w.heap.size) (hsz : d.size < 4611686018427387904) (hs : ∀ a b, a ≤ b → b < d.size → d[a]! ≤ d[b]!) :
    Calls Tryd.prog 20 #[.slice (some ⟨blk, 0, none⟩) d.size cap, .int .i64 x] w fun e w' => e = .returned (.int .i64 (d.toList.countP (fun y => !decide (x ≤ y)) : Nat)) ∧ Below w.heap.size w w' := by
  obtain ⟨W0, hW0⟩ : ∃ W0, W0 = (w.alloc (.cells #[.slice (some ⟨blk, 0, none⟩) d.size cap] 50)).alloc (.cells #[.int .i64 x] 3) := ⟨_, rfl⟩
  have hsize : W0.heap.size = w.heap.size + 1 + 1 := by rw [hW0]; simp
  have ca : W0.cell? ⟨w.heap.size, 0, none⟩ = some (.slice (some ⟨blk, 0, none⟩) d.size cap) := by rw [hW0]; exact cell_alloc_sl _ (cell_new_sl w _ _)
  have cx : W0.cell? ⟨w.heap.size + 1, 0, none⟩ = some (.int .i64 x) := by rw [hW0]; have := cell_new_sl (w.alloc (.cells #[.slice (some ⟨blk, 0, none⟩) d.size cap] 50)) (.int .i64 x) 3; rwa [World.size_alloc] at this
  have cc : ∀ i, i < d.size → W0.cell? ⟨blk, i, none⟩ = some (.int .i64 d[i]!) := fun i hi => by rw [hW0]; exact cell_alloc_sl _ (cell_alloc_sl _ (hc i hi))
  have eg : ∀ args w, (callFunc 41 args).run Tryd.prog w = .ok (.enter 41 args) w := enters_of Tryd.func41 (by kernel_rfl) rfl
  have hS := Any.sort_Search Tryd.search 41 #[.pointer (some ⟨w.heap.size, 0, none⟩), .pointer (some ⟨w.heap.size + 1, 0, none⟩)] d.size (fun i => decide (x ≤ d[i]!)) W0 eg hsz
    (fun m os i hi => (closure_any w.heap.size (w.heap.size + 1) blk cap d x i _ hi (cell_grown (by simp [hsize]; omega) ca m os) (cell_grown (by simp [hsize]) cx m os) (cell_grown (by simp [hsize]; omega) (cc i hi) m os)).mono
      fun _ _ ⟨he, q, hq⟩ => ⟨he, q, #[], by rw [hq, grow_empty]⟩) (fun a b hab hb h => by have := hs a b hab hb; simp at h ⊢; omega)
  rw [Lib.countP_range d (fun y => !decide (x ≤ y))] at hS
  change Calls Tryd.prog 40 _ _ _ at hS
  clear hc ca cx cc hs
  generalize d.toList.countP (fun y => !decide (x ≤ y)) = r at hS ⊢
  go_enter Tryd.func20, Tryd.ntmps20
  go_wp2_with (go_at_call 40; rw [← hW0]; refine hS.mono ?_; rintro e w' ⟨rfl, q, os, rfl⟩)
  go_ret
  refine ⟨rfl, ?_⟩
  rw [← hW0]
  have hB0 : Below w.heap.size w W0 := by rw [hW0]; exact ((Below.refl _ w).alloc (Nat.le_refl _) _).alloc (by simp) _
  exact hB0.trans (below_grown_sl w.heap.size W0 q os (by omega))

set_option maxHeartbeats 2000000 in
theorem below_none (p : Option Addr) (cap : Nat) (x : Int) (w : World) :
    Calls Tryd.prog 20 #[.slice p 0 cap, .int .i64 x] w fun e w' => e = .returned (.int .i64 0) ∧ Below w.heap.size w w' := by
  obtain ⟨W0, hW0⟩ : ∃ W0, W0 = (w.alloc (.cells #[.slice p 0 cap] 50)).alloc (.cells #[.int .i64 x] 3) := ⟨_, rfl⟩
  have hsize : W0.heap.size = w.heap.size + 1 + 1 := by rw [hW0]; simp
  have eg : ∀ args w, (callFunc 41 args).run Tryd.prog w = .ok (.enter 41 args) w := enters_of Tryd.func41 (by kernel_rfl) rfl
  have hS := Any.sort_Search Tryd.search 41 #[.pointer (some ⟨w.heap.size, 0, none⟩), .pointer (some ⟨w.heap.size + 1, 0, none⟩)] 0 (fun _ => true) W0 eg (by omega)
    (fun _ _ i hi => absurd hi (Nat.not_lt_zero _)) (fun _ _ _ _ h => h)
  change Calls Tryd.prog 40 _ _ _ at hS
  go_enter Tryd.func20, Tryd.ntmps20
  go_wp2_with (go_at_call 40; rw [← hW0]; refine hS.mono ?_; rintro e w' ⟨rfl, q, os, rfl⟩)
  go_ret
  refine ⟨rfl, ?_⟩
  rw [← hW0]
  have hB0 : Below w.heap.size w W0 := by rw [hW0]; exact ((Below.refl _ w).alloc (Nat.le_refl _) _).alloc (by simp) _
  exact hB0.trans (below_grown_sl w.heap.size W0 q os (by omega))
end Go.Proofs.YtjfbogjpmieogacDoor.Pl
