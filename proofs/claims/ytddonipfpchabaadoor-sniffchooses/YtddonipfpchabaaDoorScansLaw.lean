/-
  The law SniffScans, walked.
-/
import Derived.Test.YtddonipfpchabaaDoorAheadLaw
import Derived.Test.YtddonipfpchabaaDoorRefPreM
namespace Go.Proofs.YtddonipfpchabaaDoor
open Go.RowKit

set_option maxRecDepth 100000 in
set_option maxHeartbeats 1000000 in
theorem scans_law (d : ByteArray) (w : World) (hd : d.size ≤ 140737488351232) (hsh : w.ShapedOpen Tryd.prog) :
    Calls Tryd.prog 5 #[.string d] w fun e w' => e = .returned (.bool true) ∧ Below w.heap.size w w' := by
  obtain ⟨m, hm, hg⟩ := maxlen_of w hsh
  have HM : Hid (w.cell? ⟨0, 0, none⟩ = some (.int .i64 m)) := hm
  clear hm hsh
  obtain ⟨⟨v, b⟩, hpd⟩ : ∃ R, prescanF d = R := ⟨_, rfl⟩
  have HP : Hid (prescanF d = (v, b)) := hpd
  clear hpd
  go_enter Tryd.func5, Tryd.ntmps5
  go_wp2_with fail
  refine (speaks_any m _ hg (by exact HM.out)).mono ?_
  rintro e1 w1 ⟨rfl, hb1⟩
  have HM1 : Hid (w1.cell? ⟨0, 0, none⟩ = some (.int .i64 m)) := by
    show _ = _
    rw [hb1.cell (p := ⟨0, 0, none⟩) hg]
    exact HM.out
  have hg1 := Nat.lt_of_lt_of_le hg hb1.size
  go_wp2_with fail
  refine (prescan_any _ m _ (by omega) hg1 (by exact HM1.out)).mono ?_
  rintro e2 w2 ⟨rfl, hb2⟩
  rw [HP.out]
  have hB2 := hb1.trans (hb2.mono hb1.size)
  go_wp2_with fail
  refine (refPrescan_any _ _ (by omega)).mono ?_
  rintro e3 w3 ⟨rfl, hb3⟩
  rw [HP.out]
  have hB3 := hB2.trans (hb3.mono hB2.size)
  go_wp2
  go_ret
  exact ⟨rfl, hB3⟩
end Go.Proofs.YtddonipfpchabaaDoor
