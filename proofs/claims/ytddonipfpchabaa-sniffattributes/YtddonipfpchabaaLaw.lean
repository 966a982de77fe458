/-
  The law SniffAttributes, walked.
-/
import Derived.Test.YtddonipfpchabaaRefAttr
import Derived.Deep.DeepCutAuto
namespace Go.Proofs.Ytddonipfpchabaa
open Go.RowKit

def attrR (s : ByteArray) (a : Int) : ByteArray × ByteArray × Nat × Bool := if a < 0 ∨ (s.size : Int) < a then (⟨#[]⟩, ⟨#[]⟩, 0, false) else attrF s a.toNat

theorem attr_to (s : ByteArray) (a : Int) (n v : ByteArray) (m : Nat) (ok : Bool) (w : World) (hs : s.size ≤ 140737488351232) (h : attrR s a = (n, v, m, ok)) :
    Calls Try.prog 4 #[.string s, .int .i64 a] w fun e w' => e = .returned (.tuple #[.agg #[.string n, .string v], .int .i64 m, .bool ok]) ∧ Below w.heap.size w w' := by
  unfold attrR at h
  by_cases ho : a < 0 ∨ (s.size : Int) < a
  · rw [if_pos ho] at h
    obtain ⟨rfl, rfl, rfl, rfl⟩ := Prod.mk.inj h |>.imp_right (fun h => Prod.mk.inj h |>.imp_right Prod.mk.inj)
    exact attr_out s a w ho
  · rw [if_neg ho] at h
    obtain ⟨k, rfl⟩ := Int.eq_ofNat_of_zero_le (show 0 ≤ a by omega)
    rw [Int.toNat_natCast] at h
    have := attr_in s k w hs (by omega)
    rw [h] at this
    exact this

theorem ref_to (s : ByteArray) (a : Int) (n v : ByteArray) (m : Nat) (ok : Bool) (w : World) (hs : s.size ≤ 140737488351232) (h : attrR s a = (n, v, m, ok)) :
    Calls Try.prog 5 #[.string s, .int .i64 a] w fun e w' => e = .returned (.tuple #[.string n, .string v, .int .i64 m, .bool ok]) ∧ Below w.heap.size w w' := by
  unfold attrR at h
  by_cases ho : a < 0 ∨ (s.size : Int) < a
  · rw [if_pos ho] at h
    obtain ⟨rfl, rfl, rfl, rfl⟩ := Prod.mk.inj h |>.imp_right (fun h => Prod.mk.inj h |>.imp_right Prod.mk.inj)
    exact ref_out s a w ho
  · rw [if_neg ho] at h
    obtain ⟨k, rfl⟩ := Int.eq_ofNat_of_zero_le (show 0 ≤ a by omega)
    rw [Int.toNat_natCast] at h
    have := ref_in s k w hs (by omega)
    rw [h] at this
    exact this

theorem attrF_grows (s : ByteArray) (k : Nat) (h : (attrF s k).2.2.2 = true) : k < (attrF s k).2.2.1 ∧ (attrF s k).2.2.1 ≤ s.size := by
  have h1 := scan_ge pBS s.data.toList k
  have h2 := scan_ge pName s.data.toList (scan pBS s.data.toList k + 1)
  have h3 := scan_ge pB s.data.toList (scan pName s.data.toList (scan pBS s.data.toList k + 1))
  revert h
  unfold attrF
  dsimp only
  split
  · split
    · simp
    · split
      · split
        · split
          · split
            · intro _
              have h4 := valF_ge s (scan pB s.data.toList (scan pName s.data.toList (scan pBS s.data.toList k + 1)) + 1) (by omega)
              have h5 := valF_le s (scan pB s.data.toList (scan pName s.data.toList (scan pBS s.data.toList k + 1)) + 1)
              exact ⟨by show k < (valF s _).2.1; omega, h5⟩
            · simp
          · intro _
            exact ⟨by show k < scan pB _ _; omega, by show scan pB _ _ ≤ _; omega⟩
        · intro _
          exact ⟨by show k < s.size; omega, Nat.le_refl _⟩
      · simp
  · simp

theorem attrR_grows (s : ByteArray) (a : Int) (n v : ByteArray) (m : Nat) (h : attrR s a = (n, v, m, true)) : 0 ≤ a ∧ a < (m : Int) ∧ m ≤ s.size := by
  unfold attrR at h
  by_cases ho : a < 0 ∨ (s.size : Int) < a
  · rw [if_pos ho] at h
    simp at h
  · rw [if_neg ho] at h
    have := attrF_grows s a.toNat (by rw [h])
    rw [h] at this
    exact ⟨by omega, by have := this.1; simp only at this; omega, this.2⟩

theorem attr_first : attrR ⟨#[97, 61, 98, 62]⟩ 0 = (⟨#[97]⟩, ⟨#[98]⟩, 3, true) := by decide +kernel

set_option maxRecDepth 100000 in
set_option maxHeartbeats 1000000 in
theorem law_any (s : ByteArray) (a : Int) (w : World) :
    Calls Try.prog 3 #[.string s, .int .i64 a] w fun e w' => e = .returned (.bool true) ∧ Below w.heap.size w w' := by
  go_enter Try.func3, Try.ntmps3
  go_wp2_with fail
  refine (attr_to _ _ _ _ _ _ _ (by decide) attr_first).mono ?_
  rintro e w1 ⟨rfl, hb1⟩
  go_upto_if 38 with fail
  go_cut [0] (fun v wx => ∃ t : ByteArray, v = .string t ∧ t.size ≤ 20000 ∧ Below w.heap.size w wx)
  case first =>
    have hb2 : Below w.heap.size w (w1.alloc (.cells #[.string ⟨#[97]⟩, .string ⟨#[98]⟩] 23)) := hb1.alloc hb1.size _
    by_cases hl : (20000 : Int) < (s.size : Int)
    · go_wp2_with fail
      go_meet
      exact ⟨_, rfl, by simp; omega, hb2⟩
    · go_wp2_with fail
      go_meet
      exact ⟨s, rfl, by omega, hb2⟩
  case rest =>
    obtain ⟨t, rfl, ht, hb2⟩ := hcut
    clear hb1
    go_wp2_with fail
    go_loopw [1] (fun i wr => ∃ b : Int, i = .int .i64 b ∧ Below w.heap.size w wr) (fun i _ => (t.size - intOf i).toNat)
    case atStart => exact ⟨a, rfl, hb2⟩
    case round =>
      obtain ⟨b, rfl, hbr⟩ := hrel
      obtain ⟨⟨n, v, m, ok⟩, hR⟩ : ∃ R, attrR t b = R := ⟨_, rfl⟩
      have HR : Hid (attrR t b = (n, v, m, ok)) := hR
      clear hR
      go_wp2_with fail
      refine (attr_to _ _ n v m ok _ (by omega) (by exact HR.out)).mono ?_
      rintro e w3 ⟨rfl, hb3⟩
      go_wp2_with fail
      refine (ref_to _ _ n v m ok _ (by omega) (by exact HR.out)).mono ?_
      rintro e w4 ⟨rfl, hb4⟩
      obtain ⟨hc, hz⟩ := bcell hb4
      have hbB : Below w.heap.size w w4 := by
        have h1 := hbr.trans (hb3.mono hbr.size)
        exact (h1.alloc h1.size _).trans (hb4.mono (by have := h1.size; simp; omega))
      clear hb4
      cases ok
      · go_wp2
        go_ret
        exact ⟨rfl, hbB⟩
      · have hG := attrR_grows t b n v m HR.out
        go_wp2
        go_roundw
        case rel => exact ⟨m, rfl, hbB⟩
        case measure => simp [intOf]; omega
end Go.Proofs.Ytddonipfpchabaa
