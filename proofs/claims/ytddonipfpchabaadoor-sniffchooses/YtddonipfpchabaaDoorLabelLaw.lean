/-
  PROVED: for every text the law SniffLabels of the package beadlelaw01 returns true (the program's Label and the reference's tell the same coding, and whether there is one), and its argument reads as before; the listed tables of the library start as the program's text lays them. No other condition.
-/
import Derived.Test.YtddonipfpchabaaDoorRefLabel
import Derived.Test.YtddonipfpchabaaDoorShelf
import Derived.Test.YtddonipfpchabaaDoorCards
import Derived.Test.YtddonipfpchabaaDoorTie
import Derived.ProofKit
import Derived.OpenShut
import Derived.ShutString
import Derived.LaidMore
import Derived.Lay
import Derived.SevenTiedAt
import Derived.Stop.Joined
namespace Go.Proofs.YtddonipfpchabaaDoor
open Go.ChangeShapes Go.WideShapes Go.ChangeAt Go.RowKit
open Go.ChangeMaps (open_string shut_string)

theorem blanks_ascii : ∀ (j : Nat) b, (⟨#[9, 10, 12, 13, 32]⟩ : ByteArray).data.toList[j]? = some b → b.toNat < 128 := by
  intro j b hb
  have hm := List.mem_of_getElem? hb
  have h : ∀ x ∈ (⟨#[9, 10, 12, 13, 32]⟩ : ByteArray).data.toList, x.toNat < 128 := by decide
  exact h b hm

theorem label_to (s : ByteArray) (N : Nat) (w : World) (hs : s.size ≤ 140737488351232) (hN : labS s = N) :
    Calls Tryd.prog 8 #[.string s] w fun e w' => e = .returned (.tuple #[.int .i64 N, .bool (decide (0 < N))]) ∧ Below w.heap.size w w' := by
  have h := label_any s (trimX s) (lowS (trimX s)) w (fun w => Tryd.strings_Trim_laid s ⟨#[9, 10, 12, 13, 32]⟩ w (by omega) (by decide) blanks_ascii) rfl (by have := trimX_size s; unfold maxLen; omega)
  rw [← hN]
  exact h

theorem lab_first : labS ⟨#[85, 84, 70, 56]⟩ = 1 := by decide +kernel

set_option maxRecDepth 100000 in
set_option maxHeartbeats 1000000 in
theorem labels_law (s : ByteArray) (w : World) (hs : s.size ≤ 140737488351232) :
    Calls Tryd.prog 3 #[.string s] w fun e w' => e = .returned (.bool true) ∧ Below w.heap.size w w' := by
  obtain ⟨N, hN⟩ : ∃ N, labS s = N := ⟨_, rfl⟩
  have HN : Hid (labS s = N) := hN
  clear hN
  have hd : (decide ((0 : Int) < (N : Int))) = decide (0 < N) := by
    by_cases h : 0 < N
    · simp [h]
    · simp [h]
  go_enter Tryd.func3, Tryd.ntmps3
  go_wp2_with fail
  refine (label_to _ 1 _ (by decide) lab_first).mono ?_
  rintro e w1 ⟨rfl, hb1⟩
  go_wp2_with fail
  refine (label_to _ N _ hs (by exact HN.out)).mono ?_
  rintro e w2 ⟨rfl, hb2⟩
  go_wp2_with fail
  refine (refLabel_any _ _ hs).mono ?_
  rintro e w3 ⟨rfl, hb3⟩
  rw [HN.out]
  have hbb : Below w.heap.size w w3 := (hb1.trans (hb2.mono hb1.size)).trans (hb3.mono (Nat.le_trans hb1.size hb2.size))
  go_wp2
  go_ret
  exact ⟨rfl, hbb⟩
end Go.Proofs.YtddonipfpchabaaDoor
