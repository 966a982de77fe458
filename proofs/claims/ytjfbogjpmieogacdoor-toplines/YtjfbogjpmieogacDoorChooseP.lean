/-
  Choose, walked.
-/
import Derived.Test.YtjfbogjpmieogacDoorPrescan
import Derived.Test.YtjfbogjpmieogacDoorLabel
import Derived.Test.YtjfbogjpmieogacDoorShelf
namespace Go.Proofs.YtjfbogjpmieogacDoor.Sn
open Go.RowKit

def labS (s : ByteArray) : Nat := labL (lowS (trimX s)).toList

theorem blanks_ascii : ∀ (j : Nat) b, (⟨#[9, 10, 12, 13, 32]⟩ : ByteArray).data.toList[j]? = some b → b.toNat < 128 := by
  intro j b hb
  have hm := List.mem_of_getElem? hb
  have h : ∀ x ∈ (⟨#[9, 10, 12, 13, 32]⟩ : ByteArray).data.toList, x.toNat < 128 := by decide
  exact h b hm

theorem label_to (s : ByteArray) (N : Nat) (w : World) (hs : s.size ≤ 140737488351232) (hN : labS s = N) :
    Calls Tryd.prog 14 #[.string s] w fun e w' => e = .returned (.tuple #[.int .i64 N, .bool (decide (0 < N))]) ∧ Below w.heap.size w w' := by
  have h := label_any s (trimX s) (lowS (trimX s)) w (fun w => Tryd.strings_Trim_laid s ⟨#[9, 10, 12, 13, 32]⟩ w (by omega) (by decide) blanks_ascii) rfl (by have := trimX_size s; unfold maxLen; omega)
  rw [← hN]
  exact h

theorem prescanL_size (t : ByteArray) : ∀ n p, (prescanL t n p).1.size ≤ t.size
  | 0, _ => Nat.zero_le _
  | n + 1, p => by
    unfold prescanL
    split
    · split
      · exact prescanL_size t n _
      · split
        · split
          · exact mread_size t _ _ _ (Nat.zero_le _)
          · exact prescanL_size t n _
        · split
          · exact prescanL_size t n _
          · split
            · exact prescanL_size t n _
            · exact prescanL_size t n _
    · exact Nat.zero_le _
theorem prescanF_size (s : ByteArray) : (prescanF s).1.size ≤ 1024 := by
  have h := prescanL_size (pre1024 s) ((pre1024 s).size + 2) 0
  have h2 : (pre1024 s).size ≤ 1024 := by unfold pre1024; simp; omega
  exact Nat.le_trans h h2

/-- The coding of a name that is told: its number, or the other one's where there is none. -/
def byName (N : Nat) : Nat × Nat × Bool := if 0 < N then (N, 0, false) else (2, 0, true)
def chooseF (d tr : ByteArray) : Nat × Nat × Bool :=
  if Lib.hasPrefix d.data.toList [239, 187, 191] then (1, 3, false)
  else if tr.toList.isEmpty then (if (prescanF d).2 then byName (labS (prescanF d).1) else (2, 0, false))
  else byName (labS tr)

theorem hp_to (d p : ByteArray) (b : Bool) (w : World) (hb : Lib.hasPrefix d.data.toList p.data.toList = b) :
    Calls Tryd.prog 12 #[.string d, .string p] w fun e w' => e = .returned (.bool b) ∧ w = w' := by
  rw [← hb]
  exact (Tryd.strings_HasPrefix d p w).mono fun e w' h => ⟨h.1, h.2.symm⟩

set_option maxRecDepth 100000 in
set_option maxHeartbeats 1000000 in
theorem choose_any (d tr : ByteArray) (m : Int) (c n : Nat) (bad : Bool) (w : World) (hd : d.size ≤ 4611686018427387904) (htr : tr.size ≤ 140737488351232) (hg : 1 < w.heap.size) (hm : w.cell? ⟨1, 0, none⟩ = some (.int .i64 m)) (hc : chooseF d tr = (c, n, bad)) :
    Calls Tryd.prog 7 #[.string d, .string tr] w fun e w' => e = .returned (.tuple #[.int .i64 c, .int .i64 n, .bool bad]) ∧ Below w.heap.size w w' := by
  have HM : Hid (w.cell? ⟨1, 0, none⟩ = some (.int .i64 m)) := hm
  have HC : Hid (chooseF d tr = (c, n, bad)) := hc
  clear hm hc
  cases hh : Lib.hasPrefix d.data.toList [239, 187, 191]
  rotate_left
  · have HH : Hid (Lib.hasPrefix d.data.toList [239, 187, 191] = true) := hh
    have HE : Hid ((c, n, bad) = (1, 3, false)) := by
      show _ = _
      rw [← HC.out]
      simp [chooseF, hh]
    clear hh
    go_enter Tryd.func7, Tryd.ntmps7
    go_wp2_with fail
    refine (hp_to d _ true _ (by exact HH.out)).mono ?_
    rintro e w1 ⟨rfl, rfl⟩
    go_wp2
    go_ret3
    obtain ⟨rfl, rfl, rfl⟩ := Prod.mk.inj HE.out |>.imp_right Prod.mk.inj
    exact ⟨rfl, Below.refl _ _⟩
  have HH : Hid (Lib.hasPrefix d.data.toList [239, 187, 191] = false) := hh
  cases hem : tr.toList.isEmpty
  · obtain ⟨N, hN⟩ : ∃ N, labS tr = N := ⟨_, rfl⟩
    have HE : Hid ((c, n, bad) = byName N) := by
      show _ = _
      rw [← HC.out]
      simp [chooseF, hh, hem, hN]
    have HN : Hid (labS tr = N) := hN
    clear hh hN
    cases hpos : decide (0 < N)
    · have HF : Hid (c = 2 ∧ n = 0 ∧ bad = true) := by
        have := HE.out
        have h0 : ¬ 0 < N := by simpa using hpos
        rw [byName, if_neg h0] at this
        exact Prod.mk.inj this |>.imp_right Prod.mk.inj
      go_enter Tryd.func7, Tryd.ntmps7
      go_wp2_with fail
      refine (hp_to d _ false _ (by exact HH.out)).mono ?_
      rintro e w1 ⟨rfl, rfl⟩
      go_wp2_with fail
      refine (label_to _ N _ htr (by exact HN.out)).mono ?_
      rintro e w2 ⟨rfl, hb2⟩
      go_wp2
      go_ret3
      obtain ⟨rfl, rfl, rfl⟩ := HF.out
      exact ⟨rfl, hb2⟩
    · have HF : Hid (c = N ∧ n = 0 ∧ bad = false) := by
        have := HE.out
        have h0 : 0 < N := by simpa using hpos
        rw [byName, if_pos h0] at this
        exact Prod.mk.inj this |>.imp_right Prod.mk.inj
      go_enter Tryd.func7, Tryd.ntmps7
      go_wp2_with fail
      refine (hp_to d _ false _ (by exact HH.out)).mono ?_
      rintro e w1 ⟨rfl, rfl⟩
      go_wp2_with fail
      refine (label_to _ N _ htr (by exact HN.out)).mono ?_
      rintro e w2 ⟨rfl, hb2⟩
      go_wp2
      go_ret3
      obtain ⟨rfl, rfl, rfl⟩ := HF.out
      exact ⟨rfl, hb2⟩
  · obtain ⟨⟨v, b⟩, hpd⟩ : ∃ R, prescanF d = R := ⟨_, rfl⟩
    have hvs : v.size ≤ 1024 := by have := prescanF_size d; rw [hpd] at this; exact this
    have HPD : Hid (prescanF d = (v, b)) := hpd
    cases b
    · have HF : Hid (c = 2 ∧ n = 0 ∧ bad = false) := by
        have := HC.out
        simp [chooseF, hh, hem, hpd] at this
        exact ⟨this.1.symm, this.2.1.symm, this.2.2⟩
      clear hh hpd
      go_enter Tryd.func7, Tryd.ntmps7
      go_wp2_with fail
      refine (hp_to d _ false _ (by exact HH.out)).mono ?_
      rintro e w1 ⟨rfl, rfl⟩
      go_wp2_with fail
      refine (prescan_any _ m _ (by omega) hg (by exact HM.out)).mono ?_
      rintro e w2 ⟨rfl, hb2⟩
      rw [HPD.out]
      go_wp2
      go_ret3
      obtain ⟨rfl, rfl, rfl⟩ := HF.out
      exact ⟨rfl, hb2⟩
    · obtain ⟨N, hN⟩ : ∃ N, labS v = N := ⟨_, rfl⟩
      have HE : Hid ((c, n, bad) = byName N) := by
        show _ = _
        rw [← HC.out]
        simp [chooseF, hh, hem, hpd, hN]
      have HN : Hid (labS v = N) := hN
      clear hh hN hpd
      cases hpos : decide (0 < N)
      · have HF : Hid (c = 2 ∧ n = 0 ∧ bad = true) := by
          have := HE.out
          have h0 : ¬ 0 < N := by simpa using hpos
          rw [byName, if_neg h0] at this
          exact Prod.mk.inj this |>.imp_right Prod.mk.inj
        go_enter Tryd.func7, Tryd.ntmps7
        go_wp2_with fail
        refine (hp_to d _ false _ (by exact HH.out)).mono ?_
        rintro e w1 ⟨rfl, rfl⟩
        go_wp2_with fail
        refine (prescan_any _ m _ (by omega) hg (by exact HM.out)).mono ?_
        rintro e w2 ⟨rfl, hb2⟩
        rw [HPD.out]
        go_wp2_with fail
        refine (label_to _ N _ (by omega) (by exact HN.out)).mono ?_
        rintro e w3 ⟨rfl, hb3⟩
        go_wp2
        go_ret3
        obtain ⟨rfl, rfl, rfl⟩ := HF.out
        exact ⟨rfl, hb2.trans (hb3.mono hb2.size)⟩
      · have HF : Hid (c = N ∧ n = 0 ∧ bad = false) := by
          have := HE.out
          have h0 : 0 < N := by simpa using hpos
          rw [byName, if_pos h0] at this
          exact Prod.mk.inj this |>.imp_right Prod.mk.inj
        go_enter Tryd.func7, Tryd.ntmps7
        go_wp2_with fail
        refine (hp_to d _ false _ (by exact HH.out)).mono ?_
        rintro e w1 ⟨rfl, rfl⟩
        go_wp2_with fail
        refine (prescan_any _ m _ (by omega) hg (by exact HM.out)).mono ?_
        rintro e w2 ⟨rfl, hb2⟩
        rw [HPD.out]
        go_wp2_with fail
        refine (label_to _ N _ (by omega) (by exact HN.out)).mono ?_
        rintro e w3 ⟨rfl, hb3⟩
        go_wp2
        go_ret3
        obtain ⟨rfl, rfl, rfl⟩ := HF.out
        exact ⟨rfl, hb2.trans (hb3.mono hb2.size)⟩
end Go.Proofs.YtjfbogjpmieogacDoor.Sn
