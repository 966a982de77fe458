/-
  What the statements on the layers ask first: a document that tells its coding.
-/
import Derived.Test.YtjfbogjpmieogacDoorReadP
import Derived.Test.YtjfbogjpmieogacDoorChooseP
namespace Go.Proofs.YtjfbogjpmieogacDoor
open Go.RowKit

def wk : ByteArray := ⟨#[60, 109, 101, 116, 97, 32, 99, 104, 97, 114, 115, 101, 116, 61, 108, 97, 116, 105, 110, 49, 62, 228]⟩
theorem wk_chooses : Sn.chooseF wk ⟨#[]⟩ = (2, 0, false) := by decide +kernel
theorem wk_reads : readR 2 0 [228] = [(228, 0)] ∧ readN 2 0 [228] = 0 := by decide +kernel

theorem win_lt {w : World} (h : IsWin w) : 0 < w.heap.size := iswin_lt h

set_option maxRecDepth 100000 in
set_option maxHeartbeats 4000000 in
theorem wakes_any (m : Int) (w : World) (hW : IsWin w) (hg : 1 < w.heap.size) (hm : w.cell? ⟨1, 0, none⟩ = some (.int .i64 m)) :
    Calls Tryd.prog 6 #[] w fun e w' => e = .returned (.bool true) ∧ Below w.heap.size w w' := by
  have HW : Hid _ := hW
  have HC : Hid _ := Sn.choose_any wk ⟨#[]⟩ m 2 0 false w (by decide) (by decide) hg hm wk_chooses
  unfold wk at HC
  clear hW hm
  go_enter Tryd.func6, Tryd.ntmps6
  go_wp2_with fail
  refine Calls.mono HC.out ?_
  rintro e w1 ⟨rfl, hb1⟩
  have HB1 : Hid _ := hb1
  have HR : Hid _ := read_any ⟨#[228]⟩ 2 0 w1 (iswin_below HW.out hb1 (Nat.le_refl _)) (by decide) (by decide) (by decide)
  clear hb1 HC HW
  go_wp2_with fail
  refine Calls.mono HR.out ?_
  rintro e w2 ⟨vo, rfl, hown, hb2⟩
  have e1 : readR 2 0 (⟨#[228]⟩ : ByteArray).data.toList = [(228, 0)] := wk_reads.1
  have e2 : readN 2 0 (⟨#[228]⟩ : ByteArray).data.toList = 0 := wk_reads.2
  rw [e1] at hown
  rw [e2]
  obtain ⟨g, cap, rfl, hcap, hg, hgl, hcells⟩ := own_runes hown (by decide)
  have q := hcells 0 (by decide)
  have q0 : w2.cell? ⟨g, 0, none⟩ = some (.int .i64 228) := q.1
  have HB2 : Hid (Below w.heap.size w w2) := HB1.out.trans (hb2.mono HB1.out.size)
  clear hown hcells q hb2 HB1 HR e1 e2
  go_wp2
  go_ret
  exact ⟨rfl, HB2.out⟩
end Go.Proofs.YtjfbogjpmieogacDoor
