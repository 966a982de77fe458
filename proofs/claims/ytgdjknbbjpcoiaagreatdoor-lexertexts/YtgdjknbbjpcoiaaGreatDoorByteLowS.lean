/-
  Small facts on End and on what one byte tells.
-/
import Derived.Test.YtgdjknbbjpcoiaaGreatDoorSpeaksP
namespace Go.Proofs.YtgdjknbbjpcoiaaGreatDoor
open Go.RowKit

theorem end_none (d : Nat) (D : DSt) (w : World) (hD : DecAt w d D) (hd : d < w.heap.size) (h0 : D.want = 0) :
    Calls Tryz.prog 27 #[.pointer (some ⟨d, 0, none⟩)] w fun e w' => e = .returned (.tuple #[.slice none 0 0, .slice none 0 0]) ∧ Below w.heap.size w w' := by
  have hbl : Below w.heap.size w (w.alloc (.cells #[.slice none 0 0, .slice none 0 0] 106)) := (Below.refl _ _).alloc (Nat.le_refl _) _
  have hD1 := hD.below hbl hd
  have hT1 := told_new w
  have k4 := hD1.c4
  have gi : (D.want : Int) = 0 := by omega
  have c0 := hT1.c0
  have c1 := hT1.c1
  have HBL : Hid _ := hbl
  clear hD hD1 hT1 hbl h0
  go_enter Tryz.func27, Tryz.ntmps27
  go_wp2_with fail
  go_quiet (fail)
  go_wp2
  go_ret2
  exact ⟨rfl, drewN_below HBL.out nq⟩

/-- In the other coding. -/
theorem feed_win (D : DSt) (h : ¬ D.coding = 1) (l : List UInt8) : feedW D l = [] ∧ (feedR D l).length = l.length ∧ (feedD D l).want = D.want ∧ (feedD D l).coding = D.coding := by
  induction l generalizing D with
  | nil => exact ⟨rfl, rfl, rfl, rfl⟩
  | cons b l ih =>
    have hn := nextD_win b h
    have hr := nextR_win b h
    have := ih (nextD D b) (by rw [← hn]; exact h)
    simp only [feedW, feedR, feedD, hr.1, hr.2, List.nil_append, List.length_append, List.length_cons, List.length_nil]
    refine ⟨this.1, by omega, ?_, ?_⟩
    · rw [this.2.2.1, ← hn]
    · rw [this.2.2.2, ← hn]

theorem feed_win_at (D : DSt) (h : ¬ D.coding = 1) (l : List UInt8) (p : Nat) (hp : p < l.length) : (feedR D l)[p]? = some (winV l[p], D.place + p) := by
  induction l generalizing D p with
  | nil => simp at hp
  | cons b l ih =>
    have hn := nextD_win b h
    have hr := nextR_win b h
    simp only [feedR, hr.1, List.singleton_append]
    match p, hp with
    | 0, _ => simp
    | p + 1, hp =>
      have := ih (nextD D b) (by rw [← hn]; exact h) p (by simpa using hp)
      simp only [List.getElem?_cons_succ, List.getElem_cons_succ]
      rw [this, ← hn]
      simp
      omega

theorem one_size (s : ByteArray) (p : Nat) (h : p < s.size) : (s.extract p (p + 1)).size = 1 := by
  rw [ByteArray.size_extract]
  omega

theorem one_byte (s : ByteArray) (p : Nat) (h : p < s.size) : (s.extract p (p + 1)).data.toList = [s.data.toList[p]'(by simpa using h)] := by
  have hl : p < s.data.toList.length := by simpa using h
  rw [ByteArray.data_extract, Array.toList_extract, List.extract_eq_take_drop, List.drop_eq_getElem_cons hl, show p + 1 - p = 1 by omega]
  rfl

end Go.Proofs.YtgdjknbbjpcoiaaGreatDoor
