/-
  The law SniffCharsets, walked.
-/
import Derived.Test.YtddonipfpchabaaDoorCharset
import Derived.Test.YtddonipfpchabaaDoorRefCharset
import Derived.Test.YtddonipfpchabaaDoorRows
namespace Go.Proofs.YtddonipfpchabaaDoor
open Go.RowKit

theorem charF_first : charF ⟨#[99, 104, 97, 114, 115, 101, 116, 61, 97]⟩ = (⟨#[97]⟩, true) := by decide +kernel

set_option maxRecDepth 100000 in
set_option maxHeartbeats 1000000 in
theorem charsets_law (s : ByteArray) (w : World) (hs : s.size ≤ 1048576) (hsh : w.ShapedOpen Tryd.prog) :
    Calls Tryd.prog 4 #[.string s] w fun e w' => e = .returned (.bool true) ∧ Below w.heap.size w w' := by
  obtain ⟨m, hm⟩ := Tryd.maxlen w hsh
  have hg : 0 < w.heap.size := by
    rcases Nat.lt_or_ge 0 w.heap.size with h | h
    · exact h
    · simp [World.cell?, Array.getElem?_eq_none h] at hm
  have HM : Hid (w.cell? ⟨0, 0, none⟩ = some (.int .i64 m)) := hm
  clear hm hsh
  obtain ⟨⟨v, b⟩, hVd⟩ : ∃ V, charF s = V := ⟨_, rfl⟩
  have HV : Hid (charF s = (v, b)) := hVd
  clear hVd
  go_enter Tryd.func4, Tryd.ntmps4
  go_wp2_with fail
  refine (charset_any _ m _ (by decide) hg (by exact HM.out)).mono ?_
  rintro e w1 ⟨rfl, hb1⟩
  rw [charF_first]
  have HM1 : Hid (w1.cell? ⟨0, 0, none⟩ = some (.int .i64 m)) := by
    show _ = _
    rw [hb1.cell (p := ⟨0, 0, none⟩) hg]
    exact HM.out
  have hg1 := Nat.lt_of_lt_of_le hg hb1.size
  go_wp2_with fail
  refine (charset_any _ m _ (by omega) hg1 (by exact HM1.out)).mono ?_
  rintro e w2 ⟨rfl, hb2⟩
  rw [HV.out]
  go_wp2_with fail
  refine (refCharset_any _ _ (by omega)).mono ?_
  rintro e w3 ⟨rfl, hb3⟩
  rw [HV.out]
  have hbb : Below w.heap.size w w3 := (hb1.trans (hb2.mono hb1.size)).trans (hb3.mono (Nat.le_trans hb1.size hb2.size))
  go_wp2
  go_ret
  exact ⟨rfl, hbb⟩
end Go.Proofs.YtddonipfpchabaaDoor
