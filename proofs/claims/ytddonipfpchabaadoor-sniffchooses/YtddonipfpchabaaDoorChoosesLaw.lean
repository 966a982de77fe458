/-
  Choose, and the law SniffChooses, walked.
-/
import Derived.Test.YtddonipfpchabaaDoorScansLaw
import Derived.Test.YtddonipfpchabaaDoorLabelLaw
namespace Go.Proofs.YtddonipfpchabaaDoor
open Go.RowKit

theorem prescanL_size (t : ByteArray) : ∀ n p, (prescanL t n p).1.size ≤ t.size
  | 0, _ => Nat.zero_le _
  | n + 1, p => by
    unfold prescanL
    split
    · split
      · exact prescanL_size t n _
      · split
        · split
          · exact mread_size t _ _ _ (Nat.zero_le _)
          · exact prescanL_size t n _
        · split
          · exact prescanL_size t n _
          · split
            · exact prescanL_size t n _
            · exact prescanL_size t n _
    · exact Nat.zero_le _
theorem prescanF_size (s : ByteArray) : (prescanF s).1.size ≤ 1024 := by
  have h := prescanL_size (pre1024 s) ((pre1024 s).size + 2) 0
  have h2 : (pre1024 s).size ≤ 1024 := by unfold pre1024; simp; omega
  exact Nat.le_trans h h2

/-- The coding of a name that is told: its number, or the other one's where there is none. -/
def byName (N : Nat) : Nat × Nat × Bool := if 0 < N then (N, 0, false) else (2, 0, true)
def chooseF (d tr : ByteArray) : Nat × Nat × Bool :=
  if Lib.hasPrefix d.data.toList [239, 187, 191] then (1, 3, false)
  else if tr.toList.isEmpty then (if (prescanF d).2 then byName (labS (prescanF d).1) else (2, 0, false))
  else byName (labS tr)

theorem hp_to (d p : ByteArray) (b : Bool) (w : World) (hb : Lib.hasPrefix d.data.toList p.data.toList = b) :
    Calls Tryd.prog 25 #[.string d, .string p] w fun e w' => e = .returned (.bool b) ∧ w = w' := by
  rw [← hb]
  exact (Tryd.strings_HasPrefix d p w).mono fun e w' h => ⟨h.1, h.2.symm⟩

set_option maxRecDepth 100000 in
set_option maxHeartbeats 1000000 in
theorem choose_any (d tr : ByteArray) (m : Int) (c n : Nat) (bad : Bool) (w : World) (hd : d.size ≤ 140737488351232) (htr : tr.size ≤ 140737488351232) (hg : 0 < w.heap.size) (hm : w.cell? ⟨0, 0, none⟩ = some (.int .i64 m)) (hc : chooseF d tr = (c, n, bad)) :
    Calls Tryd.prog 15 #[.string d, .string tr] w fun e w' => e = .returned (.tuple #[.int .i64 c, .int .i64 n, .bool bad]) ∧ Below w.heap.size w w' := by
  have HM : Hid (w.cell? ⟨0, 0, none⟩ = some (.int .i64 m)) := hm
  have HC : Hid (chooseF d tr = (c, n, bad)) := hc
  clear hm hc
  cases hh : Lib.hasPrefix d.data.toList [239, 187, 191]
  rotate_left
  · have HH : Hid (Lib.hasPrefix d.data.toList [239, 187, 191] = true) := hh
    have HE : Hid ((c, n, bad) = (1, 3, false)) := by
      show _ = _
      rw [← HC.out]
      simp [chooseF, hh]
    clear hh
    go_enter Tryd.func15, Tryd.ntmps15
    go_wp2_with fail
    refine (hp_to d _ true _ (by exact HH.out)).mono ?_
    rintro e w1 ⟨rfl, rfl⟩
    go_wp2
    go_ret3
    obtain ⟨rfl, rfl, rfl⟩ := Prod.mk.inj HE.out |>.imp_right Prod.mk.inj
    exact ⟨rfl, Below.refl _ _⟩
  have HH : Hid (Lib.hasPrefix d.data.toList [239, 187, 191] = false) := hh
  cases hem : tr.toList.isEmpty
  · obtain ⟨N, hN⟩ : ∃ N, labS tr = N := ⟨_, rfl⟩
    have HE : Hid ((c, n, bad) = byName N) := by
      show _ = _
      rw [← HC.out]
      simp [chooseF, hh, hem, hN]
    have HN : Hid (labS tr = N) := hN
    clear hh hN
    cases hpos : decide (0 < N)
    · have HF : Hid (c = 2 ∧ n = 0 ∧ bad = true) := by
        have := HE.out
        have h0 : ¬ 0 < N := by simpa using hpos
        rw [byName, if_neg h0] at this
        exact Prod.mk.inj this |>.imp_right Prod.mk.inj
      go_enter Tryd.func15, Tryd.ntmps15
      go_wp2_with fail
      refine (hp_to d _ false _ (by exact HH.out)).mono ?_
      rintro e w1 ⟨rfl, rfl⟩
      go_wp2_with fail
      refine (label_to _ N _ htr (by exact HN.out)).mono ?_
      rintro e w2 ⟨rfl, hb2⟩
      go_wp2
      go_ret3
      obtain ⟨rfl, rfl, rfl⟩ := HF.out
      exact ⟨rfl, hb2⟩
    · have HF : Hid (c = N ∧ n = 0 ∧ bad = false) := by
        have := HE.out
        have h0 : 0 < N := by simpa using hpos
        rw [byName, if_pos h0] at this
        exact Prod.mk.inj this |>.imp_right Prod.mk.inj
      go_enter Tryd.func15, Tryd.ntmps15
      go_wp2_with fail
      refine (hp_to d _ false _ (by exact HH.out)).mono ?_
      rintro e w1 ⟨rfl, rfl⟩
      go_wp2_with fail
      refine (label_to _ N _ htr (by exact HN.out)).mono ?_
      rintro e w2 ⟨rfl, hb2⟩
      go_wp2
      go_ret3
      obtain ⟨rfl, rfl, rfl⟩ := HF.out
      exact ⟨rfl, hb2⟩
  · obtain ⟨⟨v, b⟩, hpd⟩ : ∃ R, prescanF d = R := ⟨_, rfl⟩
    have hvs : v.size ≤ 1024 := by have := prescanF_size d; rw [hpd] at this; exact this
    have HPD : Hid (prescanF d = (v, b)) := hpd
    cases b
    · have HF : Hid (c = 2 ∧ n = 0 ∧ bad = false) := by
        have := HC.out
        simp [chooseF, hh, hem, hpd] at this
        exact ⟨this.1.symm, this.2.1.symm, this.2.2⟩
      clear hh hpd
      go_enter Tryd.func15, Tryd.ntmps15
      go_wp2_with fail
      refine (hp_to d _ false _ (by exact HH.out)).mono ?_
      rintro e w1 ⟨rfl, rfl⟩
      go_wp2_with fail
      refine (prescan_any _ m _ (by omega) hg (by exact HM.out)).mono ?_
      rintro e w2 ⟨rfl, hb2⟩
      rw [HPD.out]
      go_wp2
      go_ret3
      obtain ⟨rfl, rfl, rfl⟩ := HF.out
      exact ⟨rfl, hb2⟩
    · obtain ⟨N, hN⟩ : ∃ N, labS v = N := ⟨_, rfl⟩
      have HE : Hid ((c, n, bad) = byName N) := by
        show _ = _
        rw [← HC.out]
        simp [chooseF, hh, hem, hpd, hN]
      have HN : Hid (labS v = N) := hN
      clear hh hN hpd
      cases hpos : decide (0 < N)
      · have HF : Hid (c = 2 ∧ n = 0 ∧ bad = true) := by
          have := HE.out
          have h0 : ¬ 0 < N := by simpa using hpos
          rw [byName, if_neg h0] at this
          exact Prod.mk.inj this |>.imp_right Prod.mk.inj
        go_enter Tryd.func15, Tryd.ntmps15
        go_wp2_with fail
        refine (hp_to d _ false _ (by exact HH.out)).mono ?_
        rintro e w1 ⟨rfl, rfl⟩
        go_wp2_with fail
        refine (prescan_any _ m _ (by omega) hg (by exact HM.out)).mono ?_
        rintro e w2 ⟨rfl, hb2⟩
        rw [HPD.out]
        go_wp2_with fail
        refine (label_to _ N _ (by omega) (by exact HN.out)).mono ?_
        rintro e w3 ⟨rfl, hb3⟩
        go_wp2
        go_ret3
        obtain ⟨rfl, rfl, rfl⟩ := HF.out
        exact ⟨rfl, hb2.trans (hb3.mono hb2.size)⟩
      · have HF : Hid (c = N ∧ n = 0 ∧ bad = false) := by
          have := HE.out
          have h0 : 0 < N := by simpa using hpos
          rw [byName, if_pos h0] at this
          exact Prod.mk.inj this |>.imp_right Prod.mk.inj
        go_enter Tryd.func15, Tryd.ntmps15
        go_wp2_with fail
        refine (hp_to d _ false _ (by exact HH.out)).mono ?_
        rintro e w1 ⟨rfl, rfl⟩
        go_wp2_with fail
        refine (prescan_any _ m _ (by omega) hg (by exact HM.out)).mono ?_
        rintro e w2 ⟨rfl, hb2⟩
        rw [HPD.out]
        go_wp2_with fail
        refine (label_to _ N _ (by omega) (by exact HN.out)).mono ?_
        rintro e w3 ⟨rfl, hb3⟩
        go_wp2
        go_ret3
        obtain ⟨rfl, rfl, rfl⟩ := HF.out
        exact ⟨rfl, hb2.trans (hb3.mono hb2.size)⟩

theorem mark_yes {d : ByteArray} (h : Lib.hasPrefix d.data.toList [239, 187, 191] = true) : 2 < d.size ∧ ((d.extract 0 3).toList == [239, 187, 191]) = true := by
  have hp := List.isPrefixOf_iff_prefix.1 h
  have hl := hp.length_le
  have hs : d.data.toList.length = d.size := by simp
  refine ⟨by simp at hl; omega, ?_⟩
  rw [Lib.toList_data, extract_list, List.drop_zero]
  have e := List.prefix_iff_eq_take.1 hp
  simp only [beq_iff_eq]
  exact e.symm
theorem mark_no {d : ByteArray} (h : Lib.hasPrefix d.data.toList [239, 187, 191] = false) : ((d.extract 0 3).toList == [239, 187, 191]) = false := by
  rw [beq_eq_false_iff_ne]
  intro e
  rw [Lib.toList_data, extract_list, List.drop_zero] at e
  have e' : d.data.toList.take 3 = [239, 187, 191] := e
  have : Lib.hasPrefix d.data.toList [239, 187, 191] = true := by
    unfold Lib.hasPrefix
    rw [List.isPrefixOf_iff_prefix, ← e']
    exact List.take_prefix 3 _
  rw [h] at this
  cases this

set_option maxRecDepth 100000 in
set_option maxHeartbeats 2000000 in
theorem chooses_mark (d tr : ByteArray) (m : Int) (w : World) (hd : d.size ≤ 140737488351232) (htr : tr.size ≤ 140737488351232) (hg : 0 < w.heap.size) (HM : Hid (w.cell? ⟨0, 0, none⟩ = some (.int .i64 m))) (hh : Lib.hasPrefix d.data.toList [239, 187, 191] = true) :
    Calls Tryd.prog 6 #[.string d, .string tr] w fun e w' => e = .returned (.bool true) ∧ Below w.heap.size w w' := by
  have HC : Hid (chooseF d tr = (1, 3, false)) := by
    show _ = _
    simp [chooseF, hh]
  obtain ⟨h2, hmk⟩ := mark_yes hh
  have h2' : (2 : Int) < (d.size : Int) := by omega
  clear hh
  go_enter Tryd.func6, Tryd.ntmps6
  go_wp2_with fail
  refine (speaks_any m _ hg (by exact HM.out)).mono ?_
  rintro e1 w1 ⟨rfl, hb1⟩
  have HM1 : Hid (w1.cell? ⟨0, 0, none⟩ = some (.int .i64 m)) := by
    show _ = _
    rw [hb1.cell (p := ⟨0, 0, none⟩) hg]
    exact HM.out
  have hg1 := Nat.lt_of_lt_of_le hg hb1.size
  go_wp2_with fail
  refine (choose_any _ _ m 1 3 false _ hd htr hg1 (by exact HM1.out) (by exact HC.out)).mono ?_
  rintro e2 w2 ⟨rfl, hb2⟩
  have hB2 := hb1.trans (hb2.mono hb1.size)
  go_wp2
  go_ret
  exact ⟨rfl, hB2⟩

set_option maxRecDepth 100000 in
set_option maxHeartbeats 2000000 in
theorem chooses_name (d tr : ByteArray) (m : Int) (w : World) (hd : d.size ≤ 140737488351232) (htr : tr.size ≤ 140737488351232) (hg : 0 < w.heap.size) (HM : Hid (w.cell? ⟨0, 0, none⟩ = some (.int .i64 m))) (hh : Lib.hasPrefix d.data.toList [239, 187, 191] = false) (hem : tr.toList.isEmpty = false) :
    Calls Tryd.prog 6 #[.string d, .string tr] w fun e w' => e = .returned (.bool true) ∧ Below w.heap.size w w' := by
  obtain ⟨N, hN⟩ : ∃ N, labS tr = N := ⟨_, rfl⟩
  have HN : Hid (labS tr = N) := hN
  have HCB : Hid (chooseF d tr = byName N) := by
    show _ = _
    simp [chooseF, hh, hem, hN]
  clear hN
  by_cases hpos : 0 < N
  · have HC : Hid (chooseF d tr = (N, 0, false)) := by
      have := HCB.out
      rw [byName, if_pos hpos] at this
      exact this
    have hn0 : ((N : Int) == 0) = false := by simp; omega
    by_cases h2 : (2 : Int) < (d.size : Int)
    · have hmk := mark_no hh
      clear hh
      go_enter Tryd.func6, Tryd.ntmps6
      go_wp2_with fail
      refine (speaks_any m _ hg (by exact HM.out)).mono ?_
      rintro e1 w1 ⟨rfl, hb1⟩
      have HM1 : Hid (w1.cell? ⟨0, 0, none⟩ = some (.int .i64 m)) := by
        show _ = _
        rw [hb1.cell (p := ⟨0, 0, none⟩) hg]
        exact HM.out
      have hg1 := Nat.lt_of_lt_of_le hg hb1.size
      go_wp2_with fail
      refine (choose_any _ _ m N 0 false _ hd htr hg1 (by exact HM1.out) (by exact HC.out)).mono ?_
      rintro e2 w2 ⟨rfl, hb2⟩
      have hB2 := hb1.trans (hb2.mono hb1.size)
      go_wp2_with fail
      refine (refLabel_any _ _ (htr)).mono ?_
      rintro e4 w4 ⟨rfl, hb4⟩
      rw [HN.out]
      have hB4 := hB2.trans (hb4.mono hB2.size)
      go_wp2
      go_ret
      exact ⟨rfl, hB4⟩
    · clear hh
      go_enter Tryd.func6, Tryd.ntmps6
      go_wp2_with fail
      refine (speaks_any m _ hg (by exact HM.out)).mono ?_
      rintro e1 w1 ⟨rfl, hb1⟩
      have HM1 : Hid (w1.cell? ⟨0, 0, none⟩ = some (.int .i64 m)) := by
        show _ = _
        rw [hb1.cell (p := ⟨0, 0, none⟩) hg]
        exact HM.out
      have hg1 := Nat.lt_of_lt_of_le hg hb1.size
      go_wp2_with fail
      refine (choose_any _ _ m N 0 false _ hd htr hg1 (by exact HM1.out) (by exact HC.out)).mono ?_
      rintro e2 w2 ⟨rfl, hb2⟩
      have hB2 := hb1.trans (hb2.mono hb1.size)
      go_wp2_with fail
      refine (refLabel_any _ _ (htr)).mono ?_
      rintro e4 w4 ⟨rfl, hb4⟩
      rw [HN.out]
      have hB4 := hB2.trans (hb4.mono hB2.size)
      go_wp2
      go_ret
      exact ⟨rfl, hB4⟩
  · have HC : Hid (chooseF d tr = (2, 0, true)) := by
      have := HCB.out
      rw [byName, if_neg hpos] at this
      exact this
    obtain rfl : N = 0 := by omega
    by_cases h2 : (2 : Int) < (d.size : Int)
    · have hmk := mark_no hh
      clear hh
      go_enter Tryd.func6, Tryd.ntmps6
      go_wp2_with fail
      refine (speaks_any m _ hg (by exact HM.out)).mono ?_
      rintro e1 w1 ⟨rfl, hb1⟩
      have HM1 : Hid (w1.cell? ⟨0, 0, none⟩ = some (.int .i64 m)) := by
        show _ = _
        rw [hb1.cell (p := ⟨0, 0, none⟩) hg]
        exact HM.out
      have hg1 := Nat.lt_of_lt_of_le hg hb1.size
      go_wp2_with fail
      refine (choose_any _ _ m 2 0 true _ hd htr hg1 (by exact HM1.out) (by exact HC.out)).mono ?_
      rintro e2 w2 ⟨rfl, hb2⟩
      have hB2 := hb1.trans (hb2.mono hb1.size)
      go_wp2_with fail
      refine (refLabel_any _ _ (htr)).mono ?_
      rintro e4 w4 ⟨rfl, hb4⟩
      rw [HN.out]
      have hB4 := hB2.trans (hb4.mono hB2.size)
      go_wp2
      go_ret
      exact ⟨rfl, hB4⟩
    · clear hh
      go_enter Tryd.func6, Tryd.ntmps6
      go_wp2_with fail
      refine (speaks_any m _ hg (by exact HM.out)).mono ?_
      rintro e1 w1 ⟨rfl, hb1⟩
      have HM1 : Hid (w1.cell? ⟨0, 0, none⟩ = some (.int .i64 m)) := by
        show _ = _
        rw [hb1.cell (p := ⟨0, 0, none⟩) hg]
        exact HM.out
      have hg1 := Nat.lt_of_lt_of_le hg hb1.size
      go_wp2_with fail
      refine (choose_any _ _ m 2 0 true _ hd htr hg1 (by exact HM1.out) (by exact HC.out)).mono ?_
      rintro e2 w2 ⟨rfl, hb2⟩
      have hB2 := hb1.trans (hb2.mono hb1.size)
      go_wp2_with fail
      refine (refLabel_any _ _ (htr)).mono ?_
      rintro e4 w4 ⟨rfl, hb4⟩
      rw [HN.out]
      have hB4 := hB2.trans (hb4.mono hB2.size)
      go_wp2
      go_ret
      exact ⟨rfl, hB4⟩

set_option maxRecDepth 100000 in
set_option maxHeartbeats 2000000 in
theorem chooses_told (d tr v : ByteArray) (N c : Nat) (b bad : Bool) (m : Int) (w : World) (hd : d.size ≤ 140737488351232) (htr : tr.size ≤ 140737488351232) (hg : 0 < w.heap.size) (HM : Hid (w.cell? ⟨0, 0, none⟩ = some (.int .i64 m)))
    (hh : Lib.hasPrefix d.data.toList [239, 187, 191] = false) (hem : tr.toList.isEmpty = true) (HPD : Hid (prescanF d = (v, b))) (hvs : v.size ≤ 1024) (HN : Hid (labS v = N)) (HC : Hid (chooseF d tr = (c, 0, bad)))
    (hcase : (b = false ∧ c = 2 ∧ bad = false) ∨ (b = true ∧ 0 < N ∧ c = N ∧ bad = false) ∨ (b = true ∧ N = 0 ∧ c = 2 ∧ bad = true)) :
    Calls Tryd.prog 6 #[.string d, .string tr] w fun e w' => e = .returned (.bool true) ∧ Below w.heap.size w w' := by
  rcases hcase with ⟨rfl, rfl, rfl⟩ | ⟨rfl, hpos, rfl, rfl⟩ | ⟨rfl, rfl, rfl, rfl⟩
  · skip
    by_cases h2 : (2 : Int) < (d.size : Int)
    · have hmk := mark_no hh
      clear hh
      go_enter Tryd.func6, Tryd.ntmps6
      go_wp2_with fail
      refine (speaks_any m _ hg (by exact HM.out)).mono ?_
      rintro e1 w1 ⟨rfl, hb1⟩
      have HM1 : Hid (w1.cell? ⟨0, 0, none⟩ = some (.int .i64 m)) := by
        show _ = _
        rw [hb1.cell (p := ⟨0, 0, none⟩) hg]
        exact HM.out
      have hg1 := Nat.lt_of_lt_of_le hg hb1.size
      go_wp2_with fail
      refine (choose_any _ _ m 2 0 false _ hd htr hg1 (by exact HM1.out) (by exact HC.out)).mono ?_
      rintro e2 w2 ⟨rfl, hb2⟩
      have hB2 := hb1.trans (hb2.mono hb1.size)
      go_wp2_with fail
      refine (refPrescan_any _ _ (by omega)).mono ?_
      rintro e3 w3 ⟨rfl, hb3⟩
      rw [HPD.out]
      have hB3 := hB2.trans (hb3.mono hB2.size)
      go_wp2_with fail
      refine (refLabel_any _ _ (by omega)).mono ?_
      rintro e4 w4 ⟨rfl, hb4⟩
      rw [HN.out]
      have hB4 := hB3.trans (hb4.mono hB3.size)
      go_wp2
      go_ret
      exact ⟨rfl, hB4⟩
    · clear hh
      go_enter Tryd.func6, Tryd.ntmps6
      go_wp2_with fail
      refine (speaks_any m _ hg (by exact HM.out)).mono ?_
      rintro e1 w1 ⟨rfl, hb1⟩
      have HM1 : Hid (w1.cell? ⟨0, 0, none⟩ = some (.int .i64 m)) := by
        show _ = _
        rw [hb1.cell (p := ⟨0, 0, none⟩) hg]
        exact HM.out
      have hg1 := Nat.lt_of_lt_of_le hg hb1.size
      go_wp2_with fail
      refine (choose_any _ _ m 2 0 false _ hd htr hg1 (by exact HM1.out) (by exact HC.out)).mono ?_
      rintro e2 w2 ⟨rfl, hb2⟩
      have hB2 := hb1.trans (hb2.mono hb1.size)
      go_wp2_with fail
      refine (refPrescan_any _ _ (by omega)).mono ?_
      rintro e3 w3 ⟨rfl, hb3⟩
      rw [HPD.out]
      have hB3 := hB2.trans (hb3.mono hB2.size)
      go_wp2_with fail
      refine (refLabel_any _ _ (by omega)).mono ?_
      rintro e4 w4 ⟨rfl, hb4⟩
      rw [HN.out]
      have hB4 := hB3.trans (hb4.mono hB3.size)
      go_wp2
      go_ret
      exact ⟨rfl, hB4⟩
  · have hn0 : ((c : Int) == 0) = false := by simp; omega
    by_cases h2 : (2 : Int) < (d.size : Int)
    · have hmk := mark_no hh
      clear hh
      go_enter Tryd.func6, Tryd.ntmps6
      go_wp2_with fail
      refine (speaks_any m _ hg (by exact HM.out)).mono ?_
      rintro e1 w1 ⟨rfl, hb1⟩
      have HM1 : Hid (w1.cell? ⟨0, 0, none⟩ = some (.int .i64 m)) := by
        show _ = _
        rw [hb1.cell (p := ⟨0, 0, none⟩) hg]
        exact HM.out
      have hg1 := Nat.lt_of_lt_of_le hg hb1.size
      go_wp2_with fail
      refine (choose_any _ _ m c 0 false _ hd htr hg1 (by exact HM1.out) (by exact HC.out)).mono ?_
      rintro e2 w2 ⟨rfl, hb2⟩
      have hB2 := hb1.trans (hb2.mono hb1.size)
      go_wp2_with fail
      refine (refPrescan_any _ _ (by omega)).mono ?_
      rintro e3 w3 ⟨rfl, hb3⟩
      rw [HPD.out]
      have hB3 := hB2.trans (hb3.mono hB2.size)
      go_wp2_with fail
      refine (refLabel_any _ _ (by omega)).mono ?_
      rintro e4 w4 ⟨rfl, hb4⟩
      rw [HN.out]
      have hB4 := hB3.trans (hb4.mono hB3.size)
      go_wp2
      go_ret
      exact ⟨rfl, hB4⟩
    · clear hh
      go_enter Tryd.func6, Tryd.ntmps6
      go_wp2_with fail
      refine (speaks_any m _ hg (by exact HM.out)).mono ?_
      rintro e1 w1 ⟨rfl, hb1⟩
      have HM1 : Hid (w1.cell? ⟨0, 0, none⟩ = some (.int .i64 m)) := by
        show _ = _
        rw [hb1.cell (p := ⟨0, 0, none⟩) hg]
        exact HM.out
      have hg1 := Nat.lt_of_lt_of_le hg hb1.size
      go_wp2_with fail
      refine (choose_any _ _ m c 0 false _ hd htr hg1 (by exact HM1.out) (by exact HC.out)).mono ?_
      rintro e2 w2 ⟨rfl, hb2⟩
      have hB2 := hb1.trans (hb2.mono hb1.size)
      go_wp2_with fail
      refine (refPrescan_any _ _ (by omega)).mono ?_
      rintro e3 w3 ⟨rfl, hb3⟩
      rw [HPD.out]
      have hB3 := hB2.trans (hb3.mono hB2.size)
      go_wp2_with fail
      refine (refLabel_any _ _ (by omega)).mono ?_
      rintro e4 w4 ⟨rfl, hb4⟩
      rw [HN.out]
      have hB4 := hB3.trans (hb4.mono hB3.size)
      go_wp2
      go_ret
      exact ⟨rfl, hB4⟩
  · skip
    by_cases h2 : (2 : Int) < (d.size : Int)
    · have hmk := mark_no hh
      clear hh
      go_enter Tryd.func6, Tryd.ntmps6
      go_wp2_with fail
      refine (speaks_any m _ hg (by exact HM.out)).mono ?_
      rintro e1 w1 ⟨rfl, hb1⟩
      have HM1 : Hid (w1.cell? ⟨0, 0, none⟩ = some (.int .i64 m)) := by
        show _ = _
        rw [hb1.cell (p := ⟨0, 0, none⟩) hg]
        exact HM.out
      have hg1 := Nat.lt_of_lt_of_le hg hb1.size
      go_wp2_with fail
      refine (choose_any _ _ m 2 0 true _ hd htr hg1 (by exact HM1.out) (by exact HC.out)).mono ?_
      rintro e2 w2 ⟨rfl, hb2⟩
      have hB2 := hb1.trans (hb2.mono hb1.size)
      go_wp2_with fail
      refine (refPrescan_any _ _ (by omega)).mono ?_
      rintro e3 w3 ⟨rfl, hb3⟩
      rw [HPD.out]
      have hB3 := hB2.trans (hb3.mono hB2.size)
      go_wp2_with fail
      refine (refLabel_any _ _ (by omega)).mono ?_
      rintro e4 w4 ⟨rfl, hb4⟩
      rw [HN.out]
      have hB4 := hB3.trans (hb4.mono hB3.size)
      go_wp2
      go_ret
      exact ⟨rfl, hB4⟩
    · clear hh
      go_enter Tryd.func6, Tryd.ntmps6
      go_wp2_with fail
      refine (speaks_any m _ hg (by exact HM.out)).mono ?_
      rintro e1 w1 ⟨rfl, hb1⟩
      have HM1 : Hid (w1.cell? ⟨0, 0, none⟩ = some (.int .i64 m)) := by
        show _ = _
        rw [hb1.cell (p := ⟨0, 0, none⟩) hg]
        exact HM.out
      have hg1 := Nat.lt_of_lt_of_le hg hb1.size
      go_wp2_with fail
      refine (choose_any _ _ m 2 0 true _ hd htr hg1 (by exact HM1.out) (by exact HC.out)).mono ?_
      rintro e2 w2 ⟨rfl, hb2⟩
      have hB2 := hb1.trans (hb2.mono hb1.size)
      go_wp2_with fail
      refine (refPrescan_any _ _ (by omega)).mono ?_
      rintro e3 w3 ⟨rfl, hb3⟩
      rw [HPD.out]
      have hB3 := hB2.trans (hb3.mono hB2.size)
      go_wp2_with fail
      refine (refLabel_any _ _ (by omega)).mono ?_
      rintro e4 w4 ⟨rfl, hb4⟩
      rw [HN.out]
      have hB4 := hB3.trans (hb4.mono hB3.size)
      go_wp2
      go_ret
      exact ⟨rfl, hB4⟩

theorem chooses_law (d tr : ByteArray) (w : World) (hd : d.size ≤ 140737488351232) (htr : tr.size ≤ 140737488351232) (hsh : w.ShapedOpen Tryd.prog) :
    Calls Tryd.prog 6 #[.string d, .string tr] w fun e w' => e = .returned (.bool true) ∧ Below w.heap.size w w' := by
  obtain ⟨m, hm, hg⟩ := maxlen_of w hsh
  cases hh : Lib.hasPrefix d.data.toList [239, 187, 191]
  · cases hem : tr.toList.isEmpty
    · exact chooses_name d tr m w hd htr hg hm hh hem
    · obtain ⟨⟨v, b⟩, hpd⟩ : ∃ R, prescanF d = R := ⟨_, rfl⟩
      have hvs : v.size ≤ 1024 := by have := prescanF_size d; rw [hpd] at this; exact this
      cases b
      · exact chooses_told d tr v (labS v) 2 false false m w hd htr hg hm hh hem hpd hvs rfl (by show _ = _; simp [chooseF, hh, hem, hpd]) (Or.inl ⟨rfl, rfl, rfl⟩)
      · by_cases hpos : 0 < labS v
        · exact chooses_told d tr v (labS v) (labS v) true false m w hd htr hg hm hh hem hpd hvs rfl (by show _ = _; simp [chooseF, hh, hem, hpd, byName, hpos]) (Or.inr (Or.inl ⟨rfl, hpos, rfl, rfl⟩))
        · exact chooses_told d tr v (labS v) 2 true true m w hd htr hg hm hh hem hpd hvs rfl (by show _ = _; simp [chooseF, hh, hem, hpd, byName, hpos]) (Or.inr (Or.inr ⟨rfl, by omega, rfl, rfl⟩))
  · exact chooses_mark d tr m w hd htr hg hm hh
end Go.Proofs.YtddonipfpchabaaDoor
