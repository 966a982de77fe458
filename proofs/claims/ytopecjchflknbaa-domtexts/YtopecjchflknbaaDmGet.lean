/-
  A node by its number.
-/
import Derived.Test.YtopecjchflknbaaDmTold
namespace Go.Proofs.Ytopecjchflknbaa
open Go.RowKit

theorem get_below {R : Nat} {w wr : World} (h : Below R w wr) (k0 k1 k2 k3 k4 : Value) : Below R w (((((wr.setCell ⟨R, 0, none⟩ k0).setCell ⟨R, 1, none⟩ k1).setCell ⟨R, 2, none⟩ k2).setCell ⟨R, 3, none⟩ k3).setCell ⟨R, 4, none⟩ k4) :=
  ((((h.setCell (p := ⟨R, 0, none⟩) (Nat.le_refl _) _).setCell (p := ⟨R, 1, none⟩) (Nat.le_refl _) _).setCell (p := ⟨R, 2, none⟩) (Nat.le_refl _) _).setCell (p := ⟨R, 3, none⟩) (Nat.le_refl _) _).setCell (p := ⟨R, 4, none⟩) (Nat.le_refl _) _

set_option maxRecDepth 100000 in
set_option maxHeartbeats 2000000 in
theorem get_in (t B g cap : Nat) (cs : List Cel) (n : Nat) (c : Cel) (l : List UInt8) (w : World) (hT : TreeAt w t B g cap cs) (hn : cs[n]? = some c) (hd : c.data = ⟨#[]⟩) (ha : c.attrs = .slice none 0 0) (hM : w.ownsRow B 5 1 c.more l.length (byteC l)) (hl : l.length ≤ 1000000) :
    Calls Try.prog 13 #[.pointer (some ⟨t, 0, none⟩), .int .i64 (n : Int)] w fun e w' => e = .returned (.tuple #[.agg #[.int .i64 c.kind, .int .i64 c.at', .string c.name, .string ⟨l.toArray⟩, .slice none 0 0], .bool true]) ∧ Below w.heap.size w w' := by
  have hlt := (List.getElem?_eq_some_iff.1 hn).1
  have HBD : Hid (∀ o, Below w.heap.size w (w.alloc o)) := fun o => (Below.refl _ _).alloc (Nat.le_refl _) o
  have HH : Hid (∀ w', Below w.heap.size w w' → _) := fun w' hb => has_in t B g cap cs w' n (hT.below hb) hlt
  have HT : Hid (∀ w', Below w.heap.size w w' → _) := fun w' hb => told_any t B g cap cs n c l w' (hT.below hb) hn hd ha (owns_kept (out := fun _ => False) hM (Kept.below hb) (fun _ _ e => e)) hl
  have HT0 : Hid (∀ w', Below w.heap.size w w' → _) := fun w' hb => (hT.below hb).c0
  have hI : (n : Int) < (cs.length : Int) := by omega
  clear hT hn hd ha hM hlt
  go_enter Try.func13, Try.ntmps13
  go_wp2_with fail
  obtain ⟨wr, hwr⟩ : ∃ x, x = (w.alloc (.cells #[.int .i64 0, .int .i64 0, .string ⟨#[]⟩, .string ⟨#[]⟩, .slice none 0 0] 38)) := ⟨_, rfl⟩
  rw [← hwr]
  have hBr : Below w.heap.size w wr := by rw [hwr]; exact HBD.out _
  have hb0 : wr.heap[w.heap.size]? = some (.cells #[.int .i64 0, .int .i64 0, .string ⟨#[]⟩, .string ⟨#[]⟩, .slice none 0 0] 38 (0, 0)) := by rw [hwr]; exact Array.getElem?_push_size
  have hRl : w.heap.size < wr.heap.size := (Array.getElem?_eq_some_iff.1 hb0).1
  refine Calls.mono (HH.out wr hBr) ?_
  rintro e w1 ⟨rfl, hw1⟩
  subst hw1
  have c0 := HT0.out w1 hBr
  have HC : Hid _ := HT.out w1 hBr
  have HBr : Hid _ := hBr
  have HB0 : Hid _ := hb0
  have HRl : Hid _ := hRl
  clear HH HT HT0 HBD hBr hb0 hwr hRl
  go_wp2_with fail
  refine Calls.mono HC.out ?_
  rintro e w2 ⟨rfl, hb2⟩
  have hb0 := (hb2.block _ HRl.out).trans HB0.out
  have HB2 : Hid (Below w.heap.size w w2) := HBr.out.trans (hb2.mono (Nat.le_of_lt HRl.out))
  have m0 : w2.cell? ⟨w.heap.size, 0, none⟩ = some (.int .i64 0) := by simp [World.cell?, hb0]
  have m1 : w2.cell? ⟨w.heap.size, 1, none⟩ = some (.int .i64 0) := by simp [World.cell?, hb0]
  have m2 : w2.cell? ⟨w.heap.size, 2, none⟩ = some (.string ⟨#[]⟩) := by simp [World.cell?, hb0]
  have m3 : w2.cell? ⟨w.heap.size, 3, none⟩ = some (.string ⟨#[]⟩) := by simp [World.cell?, hb0]
  have m4 : w2.cell? ⟨w.heap.size, 4, none⟩ = some (.slice none 0 0) := by simp [World.cell?, hb0]
  have z0 : ∀ j, w2.frozen? ⟨w.heap.size, j, none⟩ = false := by intro j; simp [World.frozen?, hb0]
  clear hb0 hb2 HC HBr HB0 HRl c0
  generalize hR : w.heap.size = R at *
  have HE : Hid (∀ k0 k1 k2 k3 k4 : Value, _) := fun k0 k1 k2 k3 k4 => get_below HB2.out k0 k1 k2 k3 k4
  clear HB2 hI hl
  go_wp2
  rw [hR]
  clear hR
  refine bodyPost_ret (v := .tuple #[.agg #[.int .i64 c.kind, .int .i64 c.at', .string c.name, .string ⟨l.toArray⟩, .slice none 0 0], .bool true]) (by simp [results, Try.results13, go_sem, *]) rfl ⟨rfl, ?_⟩
  exact HE.out _ _ _ _ _
end Go.Proofs.Ytopecjchflknbaa
