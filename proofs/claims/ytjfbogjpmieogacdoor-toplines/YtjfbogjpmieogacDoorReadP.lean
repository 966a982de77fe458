/-
  All scalars of bytes in a coding: read, walked.
-/
import Derived.Test.YtjfbogjpmieogacDoorRows2
namespace Go.Proofs.YtjfbogjpmieogacDoor
open Go.RowKit

def dst (c p : Int) : DSt := ⟨c, p, 0, 0, 0, 0, 0⟩
/-- The scalars of bytes ahead of newlines' one form. -/
def rawR (c p : Int) (l : List UInt8) : List (Int × Int) := feedR (dst c p) l ++ endR (feedD (dst c p) l)
def readR (c p : Int) (l : List UInt8) : List (Int × Int) := passR false (rawR c p l)
/-- How much of them is bad. -/
def readN (c p : Int) (l : List UInt8) : Nat := (feedW (dst c p) l).length + (endW (feedD (dst c p) l)).length

theorem raw_len (c p : Int) (l : List UInt8) : (rawR c p l).length ≤ 2 * l.length + 1 := by
  have h1 := (feed_len l (dst c p)).1
  have h2 := (end_len (feedD (dst c p) l)).1
  unfold rawR
  rw [List.length_append]
  omega

set_option maxRecDepth 100000 in
set_option maxHeartbeats 4000000 in
theorem read_any (s : ByteArray) (c p : Int) (w : World) (hW : IsWin w) (hs : s.size ≤ 1048576) (hp0 : 0 ≤ p) (hp : p ≤ 1048576) :
    Calls Tryd.prog 8 #[.string s, .int .i64 c, .int .i64 p] w fun e w' => ∃ vo, e = .returned (.tuple #[vo, .int .i64 (readN c p s.data.toList : Nat)]) ∧ w'.ownsRow w.heap.size 30 2 vo (readR c p s.data.toList).length ((readR c p s.data.toList).flatMap runeC) ∧ Below w.heap.size w w' := by
  obtain ⟨i0, hi, hy0, hy1, hy2⟩ := info_parts Tryd.infoRune
  have HW : Hid _ := hW
  have HL : Hid _ := iswin_lt hW
  have hsl : s.data.toList.length = s.size := by simp
  clear hW
  have l1 := (feed_len s.data.toList (dst c p)).1
  have l3 := (feed_len s.data.toList (dst c p)).2
  obtain ⟨D2, hD⟩ : ∃ D2, feedD (dst c p) s.data.toList = D2 := ⟨_, rfl⟩
  obtain ⟨ra, hra⟩ : ∃ ra, feedR (dst c p) s.data.toList = ra := ⟨_, rfl⟩
  obtain ⟨wa, hwa⟩ : ∃ wa, feedW (dst c p) s.data.toList = wa := ⟨_, rfl⟩
  have l2 := (end_len D2).1
  have l4 := (end_len D2).2
  unfold readR readN rawR
  have HFD : Hid (feedD (dst c p) s.data.toList = D2 ∧ feedR (dst c p) s.data.toList = ra ∧ feedW (dst c p) s.data.toList = wa) := ⟨hD, hra, hwa⟩
  rw [hra] at l1 ⊢
  rw [hwa] at l3 ⊢
  rw [hD]
  clear hD hra hwa
  obtain ⟨rb, hrb⟩ : ∃ rb, endR D2 = rb := ⟨_, rfl⟩
  obtain ⟨wb, hwb⟩ : ∃ wb, endW D2 = wb := ⟨_, rfl⟩
  have HED : Hid (endR D2 = rb ∧ endW D2 = wb) := ⟨hrb, hwb⟩
  rw [hrb] at l2 ⊢
  rw [hwb] at l4 ⊢
  clear hrb hwb
  go_enter Tryd.func8, Tryd.ntmps8
  go_wp2_with fail
  refine Calls.mono (new_any c p w) ?_
  rintro e w1 ⟨rfl, hD1, hb1, hz1⟩
  have HW1 : Hid _ := iswin_below HW.out hb1 (Nat.le_refl _)
  have HF1 : Hid _ := feed_any w.heap.size (dst c p) s w1 hD1 (by omega) HW1.out (by have := HL.out; omega) (.inl rfl) (by omega) hp0 (by show p < _; omega)
  have HB1 : Hid _ := hb1
  have HZ1 : Hid _ := hz1
  clear hD1 hb1 hz1
  go_wp2_with fail
  refine Calls.mono HF1.out ?_
  rintro e w2 ⟨vr1, vw1, rfl, hr1, hw1, hD2, hb2⟩
  rw [HFD.out.1] at hD2
  rw [HFD.out.2.1] at hr1
  rw [HFD.out.2.2] at hw1
  have hz2 := hb2.size
  have hz1 := HZ1.out
  have HE : Hid _ := end_any w.heap.size _ w2 hD2 (by omega)
  have HB2 : Hid (Below w.heap.size w w2) := HB1.out.trans ((hb2.mono (by omega : w.heap.size ≤ w1.heap.size)).below (Nat.le_refl _))
  have HR1 : Hid _ := hr1
  have HV1 : Hid _ := hw1
  obtain ⟨ax, capx, rfl⟩ := own_head hw1
  clear hr1 hw1 hD2 hb2 HF1 hz2 hz1
  go_wp2_with fail
  refine Calls.mono HE.out ?_
  rintro e w3 ⟨vr2, vw2, rfl, hr2, hw2, hD3, hb3⟩
  rw [HED.out.1] at hr2
  rw [HED.out.2] at hw2
  have hz2 := HB2.out.size
  have hz3 := hb3.size
  have hz1 := HZ1.out
  have HR1' : Hid _ := own_but2 HR1.out hb3 (fun g hg => by have := own_lt2 HR1.out g hg; omega)
  have HB3 : Hid (Below w.heap.size w w3) := HB2.out.trans ((hb3.mono hz2).below (Nat.le_refl _))
  have HR2 : Hid _ := hr2
  have HA : Hid (∀ o, (w3.alloc o).ownsRow w.heap.size 30 2 vr1 ra.length (ra.flatMap runeC)) := fun o => own_mono (own_below HR1'.out ((Below.refl _ _).alloc (Nat.le_refl _) o)) (by omega)
  have HBB : Hid (∀ o, (w3.alloc o).ownsRow w.heap.size 30 2 vr2 rb.length (rb.flatMap runeC)) := fun o => own_mono (own_below hr2 ((Below.refl _ _).alloc (Nat.le_refl _) o)) (by omega)
  have HR3 : Hid (w3.ownsRow w.heap.size 30 2 vr1 ra.length (ra.flatMap runeC)) := own_mono HR1'.out (by omega)
  have HSZ : Hid (w.heap.size ≤ w3.heap.size) := Nat.le_trans hz2 hz3
  obtain ⟨aa, capa, rfl⟩ := own_head HR1'.out
  obtain ⟨ab, capb, rfl⟩ := own_head hr2
  obtain ⟨ay, capy, rfl⟩ := own_head hw2
  clear hr2 hw2 hD3 hb3 HE hz2 hz3 hz1 HR1 HR1' HR2 HB2 HV1
  go_wp2_with (at_builtin; refine wpList_append_rows rfl _ _ 26 rfl w.heap.size 30 i0 (.agg #[.int .i64 0, .int .i64 0]) 2 16 Tryd.underlying26 hi hy0 hy1 hy2 rfl (by decide) _ _ _ rfl (HA.out _) _ _ _ _ rfl (HBB.out _) (runes_one _) (by unfold maxLen; omega) (by omega) (by have := HSZ.out; simp; omega) ?_)
  intro v' w4 hown hgrow
  have hX : w4.ownsRow w.heap.size 30 2 v' (ra ++ rb).length ((ra ++ rb).flatMap runeC) := by simpa using hown
  have hB4 : Below w.heap.size w w4 := (HB3.out.alloc HSZ.out _).grown hgrow (by have := HSZ.out; simp; omega) (fun k hk => own_block_ge (HA.out (.cells #[] 0)) k hk)
  have hsz4 : w3.heap.size < w4.heap.size := by have := hgrow.size; simp at this; omega
  have hbk : w4.heap[w3.heap.size]? = some (.cells #[.bool false] 48) := by
    have h := hgrow.block w3.heap.size (by simp) (fun hk => by
      have := own_lt2 (HR3.out) _ hk.symm
      omega)
    rw [h]
    exact Array.getElem?_push_size ..
  have hc4 : w4.cell? ⟨w3.heap.size, 0, none⟩ = some (.bool false) := by simp [World.cell?, hbk]
  have hf4 : w4.frozen? ⟨w3.heap.size, 0, none⟩ = false := by simp [World.frozen?, hbk]
  have hne4 : ∀ g, v'.ownBlock = some g → g ≠ w3.heap.size := fun g hg he => by
    rcases hX.2 with ⟨rfl, _⟩ | ⟨g', cap', cur, rfl, _, hh, _⟩
    · cases hg
    · injection hg with hg
      have : g' = w3.heap.size := by rw [← he, ← hg]
      rw [this, hbk] at hh
      injection hh with hh
      injection hh with _ h2 _
      exact absurd h2 (by decide)
  have HP : Hid _ := pass_any w3.heap.size w.heap.size v' false (ra ++ rb) w4 hc4 hf4 hsz4 (by rw [List.length_append]; omega) hX hne4
  have HB4 : Hid _ := hB4
  have HZ : Hid (w.heap.size ≤ w3.heap.size ∧ w.heap.size ≤ w4.heap.size) := ⟨HSZ.out, hB4.size⟩
  clear hX hB4 hsz4 hbk hc4 hf4 hne4 hown hgrow HA HBB HB3
  go_wp2_with fail
  refine Calls.mono HP.out ?_
  rintro e w5 ⟨vo, rfl, hP⟩
  have HF : Hid (w5.ownsRow w.heap.size 30 2 vo (passR false (ra ++ rb)).length ((passR false (ra ++ rb)).flatMap runeC) ∧ Below w.heap.size w w5) := ⟨own_mono hP.own HZ.out.2, HB4.out.trans ((hP.but.mono HZ.out.2).below HZ.out.1)⟩
  clear hP HP HB4
  go_wp2
  go_ret2
  exact ⟨vo, by simp, HF.out⟩
end Go.Proofs.YtjfbogjpmieogacDoor
