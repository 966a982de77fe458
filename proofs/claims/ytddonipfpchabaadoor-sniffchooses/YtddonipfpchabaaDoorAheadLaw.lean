/-
  The law SniffAhead, walked.
-/
import Derived.Test.YtddonipfpchabaaDoorPrescan
import Derived.Test.YtddonipfpchabaaDoorRows
import Derived.Deep.DeepCutAuto
namespace Go.Proofs.YtddonipfpchabaaDoor
open Go.RowKit

theorem prescan_first : prescanF ⟨#[60, 109, 101, 116, 97, 32, 99, 104, 97, 114, 115, 101, 116, 61, 117, 116, 102, 45, 56, 62]⟩ = (⟨#[117, 116, 102, 45, 56]⟩, true) := by decide +kernel

set_option maxRecDepth 100000 in
set_option maxHeartbeats 1000000 in
theorem speaks_any (m : Int) (w : World) (hg : 0 < w.heap.size) (hm : w.cell? ⟨0, 0, none⟩ = some (.int .i64 m)) :
    Calls Tryd.prog 12 #[] w fun e w' => e = .returned (.bool true) ∧ Below w.heap.size w w' := by
  have HM : Hid (w.cell? ⟨0, 0, none⟩ = some (.int .i64 m)) := hm
  clear hm
  go_enter Tryd.func12, Tryd.ntmps12
  go_wp2_with fail
  refine (prescan_any _ m _ (by decide) hg (by exact HM.out)).mono ?_
  rintro e w1 ⟨rfl, hb1⟩
  rw [prescan_first]
  go_wp2
  go_ret
  exact ⟨rfl, hb1⟩

theorem maxlen_of (w : World) (hsh : w.ShapedOpen Tryd.prog) : ∃ m, w.cell? ⟨0, 0, none⟩ = some (.int .i64 m) ∧ 0 < w.heap.size := by
  obtain ⟨m, hm⟩ := Tryd.maxlen w hsh
  refine ⟨m, hm, ?_⟩
  rcases Nat.lt_or_ge 0 w.heap.size with h | h
  · exact h
  · simp [World.cell?, Array.getElem?_eq_none h] at hm

def strLen : Value → Nat
  | .string x => x.size
  | _ => 0

theorem pre_same (y e : ByteArray) (h : y.size = 1024) : pre1024 (y ++ e) = y := by
  unfold pre1024
  apply ByteArray.ext
  have hd : y.data.size = 1024 := h
  simp only [ByteArray.size_append, h]
  rw [show min (1024 + e.size) 1024 = 1024 by omega]
  simp only [ByteArray.data_extract, ByteArray.data_append]
  apply Array.toList_inj.1
  simp [Array.toList_extract, ← hd]
  exact List.take_of_length_le (by simp)
theorem pre_self (y : ByteArray) (h : y.size = 1024) : pre1024 y = y := by
  unfold pre1024
  rw [show min y.size 1024 = y.size by omega]
  simp

set_option maxRecDepth 100000 in
set_option maxHeartbeats 1000000 in
theorem ahead_law (d e : ByteArray) (w : World) (hd : d.size ≤ 140737488351232) (he : e.size ≤ 140737488351232) (hsh : w.ShapedOpen Tryd.prog) :
    Calls Tryd.prog 7 #[.string d, .string e] w fun e w' => e = .returned (.bool true) ∧ Below w.heap.size w w' := by
  obtain ⟨m, hm, hg⟩ := maxlen_of w hsh
  have HM : Hid (w.cell? ⟨0, 0, none⟩ = some (.int .i64 m)) := hm
  clear hm hsh
  go_enter Tryd.func7, Tryd.ntmps7
  go_wp2_with fail
  refine (speaks_any m _ hg (by exact HM.out)).mono ?_
  rintro e1 w1 ⟨rfl, hb1⟩
  go_wp2
  go_loop [0] (fun v => ∃ x : ByteArray, v = .string x ∧ x.size ≤ 140737488351232) (fun v => 1024 - strLen v)
  case atStart => exact ⟨d, rfl, hd⟩
  case round =>
    obtain ⟨x, rfl, hx⟩ := hrel
    by_cases hlt : x.size < 1024
    · go_wp2
      go_round
      case rel => exact ⟨_, rfl, by rw [ByteArray.size_append]; show x.size + 4 ≤ _; omega⟩
      case measure =>
        show 1024 - (x ++ (⟨#[60, 98, 62, 32]⟩ : ByteArray)).size < 1024 - x.size
        rw [ByteArray.size_append]
        show 1024 - (x.size + 4) < _
        omega
    · have hlt' : decide ((x.size : Int) < 1024) = false := by simp; omega
      obtain ⟨y, hyd⟩ : ∃ y, x.extract 0 1024 = y := ⟨_, rfl⟩
      have hys : y.size = 1024 := by rw [← hyd]; simp; omega
      have HY : Hid (x.extract 0 1024 = y) := hyd
      have HYS : Hid (y.size = 1024) := hys
      have hy1 : y.size ≤ 1024 := by omega
      clear hyd hys
      obtain ⟨⟨v, b⟩, hpd⟩ : ∃ R, prescanF y = R := ⟨_, rfl⟩
      have HP : Hid (prescanF y = (v, b)) := hpd
      have HP2 : Hid (prescanF (y ++ e) = (v, b)) := by
        show _ = _
        rw [← hpd]
        unfold prescanF
        rw [pre_same y e HYS.out, pre_self y HYS.out]
      clear hpd
      have HM1 : Hid (w1.cell? ⟨0, 0, none⟩ = some (.int .i64 m)) := by
        show _ = _
        rw [hb1.cell (p := ⟨0, 0, none⟩) hg]
        exact HM.out
      have hg1 := Nat.lt_of_lt_of_le hg hb1.size
      go_wp2_with fail
      rw [HY.out]
      refine (prescan_any _ m _ (by omega) hg1 (by exact HM1.out)).mono ?_
      rintro e2 w2 ⟨rfl, hb2⟩
      rw [HP.out]
      have HM2 : Hid (w2.cell? ⟨0, 0, none⟩ = some (.int .i64 m)) := by
        show _ = _
        rw [hb2.cell (p := ⟨0, 0, none⟩) hg1]
        exact HM1.out
      have hg2 := Nat.lt_of_lt_of_le hg1 hb2.size
      have hB2 := hb1.trans (hb2.mono hb1.size)
      go_wp2_with fail
      refine (prescan_any _ m _ (by rw [ByteArray.size_append]; omega) hg2 (by exact HM2.out)).mono ?_
      rintro e3 w3 ⟨rfl, hb3⟩
      rw [HP2.out]
      have hB3 := hB2.trans (hb3.mono hB2.size)
      go_wp2
      go_ret
      exact ⟨rfl, hB3⟩
end Go.Proofs.YtddonipfpchabaaDoor
