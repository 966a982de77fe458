/-
  What the statement on lines asks first: a place behind a newline, and a reference.
-/
import Derived.Test.YtjfbogjpmieogacDoorWakes
import Derived.Test.YtjfbogjpmieogacDoorPlaceRowP
import Derived.Test.YtjfbogjpmieogacDoorAmpP
namespace Go.Proofs.YtjfbogjpmieogacDoor
open Go.RowKit

theorem st_reads : readR 1 0 [97, 10, 98] = [(97, 0), (10, 1), (98, 2)] ∧ readN 1 0 [97, 10, 98] = 0 := by decide +kernel
theorem st_line : Pl.lineCol (([((97 : Int), (0 : Int)), (10, 1), (98, 2)].map (·.1)).take (Pl.aheadOf [((97 : Int), (0 : Int)), (10, 1), (98, 2)] 2)) = (2, 1) := by decide

theorem cell_later {w w' : World} {a : Addr} {v : Value} (h : w.cell? a = some v) (hb : Below w.heap.size w w') : w'.cell? a = some v :=
  (hb.cell (p := a) (World.block_lt_of_cell? w _ h)).trans h

set_option maxRecDepth 100000 in
set_option maxHeartbeats 4000000 in
theorem stirs_any (m : Int) (w : World) (hW : IsWin w) (hg : 1 < w.heap.size) (hm : w.cell? ⟨1, 0, none⟩ = some (.int .i64 m)) :
    Calls Tryd.prog 9 #[] w fun e w' => e = .returned (.bool true) ∧ Below w.heap.size w w' := by
  have HW : Hid _ := hW
  have HM : Hid _ := hm
  have HR : Hid _ := read_any ⟨#[97, 10, 98]⟩ 1 0 w hW (by decide) (by decide) (by decide)
  clear hW hm
  go_enter Tryd.func9, Tryd.ntmps9
  go_wp2_with fail
  refine Calls.mono HR.out ?_
  rintro e w1 ⟨vo, rfl, hown, hb1⟩
  have e1 : readR 1 0 (⟨#[97, 10, 98]⟩ : ByteArray).data.toList = [(97, 0), (10, 1), (98, 2)] := st_reads.1
  have e2 : readN 1 0 (⟨#[97, 10, 98]⟩ : ByteArray).data.toList = 0 := st_reads.2
  rw [e1] at hown
  rw [e2]
  have HN : Hid _ := Pl.new_row _ _ [(97, 0), (10, 1), (98, 2)] w1 hown (by decide)
  have HB1 : Hid _ := hb1
  obtain ⟨a, cap, rfl⟩ := own_head hown
  clear hown hb1 HR e1 e2
  go_wp2_with fail
  refine Calls.mono HN.out ?_
  rintro e w2 ⟨rfl, hb2, vb, hT⟩
  have HA : Hid _ := Pl.at_any _ _ _ _ _ 2 w2 hT (by decide) (by decide)
  rw [st_line] at HA
  have HB2 : Hid (Below w.heap.size w w2) := HB1.out.trans (hb2.mono HB1.out.size)
  clear hT HN hb2 HB1
  go_wp2_with fail
  refine Calls.mono HA.out ?_
  rintro e w3 ⟨rfl, hb3⟩
  have HB3 : Hid (Below w.heap.size w w3) := HB2.out.trans (hb3.mono HB2.out.size)
  have HL : Hid _ := Ch.amp_any w3
  clear hb3 HA HB2
  go_wp2_with fail
  refine Calls.mono HL.out ?_
  rintro e w4 ⟨g, rfl, hc, hb4⟩
  have HB4 : Hid (Below w.heap.size w w4) := HB3.out.trans (hb4.mono HB3.out.size)
  have HK : Hid _ := wakes_any m w4 (iswin_below HW.out HB4.out (Nat.le_refl _)) (Nat.lt_of_lt_of_le hg HB4.out.size) (cell_later HM.out HB4.out)
  have HC : Hid _ := hc
  clear hc hb4 HL HB3
  go_wp2_with fail
  refine Calls.mono HK.out ?_
  rintro e w5 ⟨rfl, hb5⟩
  have hc5 := cell_later HC.out hb5
  have HB5 : Hid (Below w.heap.size w w5) := HB4.out.trans (hb5.mono HB4.out.size)
  clear hb5 HK HB4 HC
  go_wp2
  go_ret
  exact ⟨rfl, HB5.out⟩
end Go.Proofs.YtjfbogjpmieogacDoor
