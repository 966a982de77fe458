/-
  The UTF-8 of a scalar, fed to the decoder: plain facts.
-/
import Derived.Test.YtjfbogjpmieogaaDoorSpeaks
import Derived.Laws.Runes
namespace Go.Proofs.YtjfbogjpmieogaaDoor
open Go.RowKit

theorem feedD_app (D : DSt) (a b : List UInt8) : feedD D (a ++ b) = feedD (feedD D a) b := by
  induction a generalizing D with
  | nil => rfl
  | cons x a ih => simp only [List.cons_append, feedD, ih]
theorem feedR_app (D : DSt) (a b : List UInt8) : feedR D (a ++ b) = feedR D a ++ feedR (feedD D a) b := by
  induction a generalizing D with
  | nil => rfl
  | cons x a ih => simp only [List.cons_append, feedR, feedD, ih, List.append_assoc]
theorem feedW_app (D : DSt) (a b : List UInt8) : feedW D (a ++ b) = feedW D a ++ feedW (feedD D a) b := by
  induction a generalizing D with
  | nil => rfl
  | cons x a ih => simp only [List.cons_append, feedW, feedD, ih, List.append_assoc]

/-- The decoder with no sequence open. -/
def atP (p : Int) : DSt := ⟨1, p, 0, 0, 0, 0, 0⟩

theorem step_ascii (p : Int) (b : UInt8) (h : b.toNat < 128) : nextD (atP p) b = atP (p + 1) ∧ nextR (atP p) b = [((b.toNat : Int), p)] ∧ nextW (atP p) b = [] := by
  have h1 : b < 194 := by rw [UInt8.lt_iff_toNat_lt]; show b.toNat < 194; omega
  have h2 : b < 128 := by rw [UInt8.lt_iff_toNat_lt]; exact h
  simp [nextD, nextR, nextW, takeD, takeR, takeW, beginD, beginR, beginW, atP, h1, h2]

theorem step_open (p : Int) (b : UInt8) (h : 194 ≤ b.toNat) (h' : b.toNat ≤ 244) : nextD (atP p) b = ⟨1, p + 1, p, opVal b, opWant b, secLo b, secHi b⟩ ∧ nextR (atP p) b = [] ∧ nextW (atP p) b = [] := by
  have h1 : ¬ b < 194 := by rw [UInt8.lt_iff_toNat_lt]; show ¬ b.toNat < 194; omega
  have h2 : ¬ b < 128 := by rw [UInt8.lt_iff_toNat_lt]; show ¬ b.toNat < 128; omega
  have h3 : ¬ 244 < b := by rw [UInt8.lt_iff_toNat_lt]; show ¬ 244 < b.toNat; omega
  simp [nextD, nextR, nextW, takeD, takeR, takeW, beginD, beginR, beginW, atP, h1, h2, h3]

theorem step_mid (q sat : Int) (sv n : Nat) (lo hi b : UInt8) (h : fitsB lo hi b = true) : nextD ⟨1, q, sat, sv, n + 2, lo, hi⟩ b = ⟨1, q + 1, sat, sv * 64 + b.toNat % 64, n + 1, 128, 191⟩ ∧ nextR ⟨1, q, sat, sv, n + 2, lo, hi⟩ b = [] ∧ nextW ⟨1, q, sat, sv, n + 2, lo, hi⟩ b = [] := by
  simp [nextD, nextR, nextW, takeD, takeR, takeW, goOnD, goOnR, h]

theorem step_last (q sat : Int) (sv : Nat) (lo hi b : UInt8) (h : fitsB lo hi b = true) : nextD ⟨1, q, sat, sv, 1, lo, hi⟩ b = atP (q + 1) ∧ nextR ⟨1, q, sat, sv, 1, lo, hi⟩ b = [(((sv * 64 + b.toNat % 64 : Nat) : Int), sat)] ∧ nextW ⟨1, q, sat, sv, 1, lo, hi⟩ b = [] := by
  simp [nextD, nextR, nextW, takeD, takeR, takeW, goOnD, goOnR, h, DSt.shut, atP]

theorem fits_of (lo hi b : UInt8) (h1 : lo.toNat ≤ b.toNat) (h2 : b.toNat ≤ hi.toNat) : fitsB lo hi b = true := by
  unfold fitsB
  simp
  omega

theorem sec_small (b : UInt8) (h : b.toNat < 224) : secLo b = 128 ∧ secHi b = 191 ∧ opWant b = 1 ∧ opVal b = b.toNat % 32 := by
  have e : b < 224 := by rw [UInt8.lt_iff_toNat_lt]; exact h
  have n1 : b ≠ 224 := by intro e; subst e; exact absurd h (by decide)
  have n2 : b ≠ 240 := by intro e; subst e; exact absurd h (by decide)
  have n3 : b ≠ 237 := by intro e; subst e; exact absurd h (by decide)
  have n4 : b ≠ 244 := by intro e; subst e; exact absurd h (by decide)
  simp [secLo, secHi, opWant, opVal, e, n1, n2, n3, n4]

theorem sec_three (b : UInt8) (h : 224 ≤ b.toNat) (h' : b.toNat < 240) : secLo b = (if b.toNat = 224 then 160 else 128) ∧ secHi b = (if b.toNat = 237 then 159 else 191) ∧ opWant b = 2 ∧ opVal b = b.toNat % 16 := by
  have e : ¬ b < 224 := by rw [UInt8.lt_iff_toNat_lt]; show ¬ b.toNat < 224; omega
  have e2 : b < 240 := by rw [UInt8.lt_iff_toNat_lt]; exact h'
  have n2 : b ≠ 240 := by intro e; subst e; exact absurd h' (by decide)
  have n4 : b ≠ 244 := by intro e; subst e; exact absurd h' (by decide)
  have i1 : (b = 224) = (b.toNat = 224) := propext ⟨fun h => by rw [h]; rfl, fun h => UInt8.toNat_inj.1 h⟩
  have i2 : (b = 237) = (b.toNat = 237) := propext ⟨fun h => by rw [h]; rfl, fun h => UInt8.toNat_inj.1 h⟩
  simp [secLo, secHi, opWant, opVal, e, e2, n2, n4, i1, i2]

theorem sec_four (b : UInt8) (h : 240 ≤ b.toNat) : secLo b = (if b.toNat = 240 then 144 else 128) ∧ secHi b = (if b.toNat = 244 then 143 else 191) ∧ opWant b = 3 ∧ opVal b = b.toNat % 8 := by
  have e : ¬ b < 224 := by rw [UInt8.lt_iff_toNat_lt]; show ¬ b.toNat < 224; omega
  have e2 : ¬ b < 240 := by rw [UInt8.lt_iff_toNat_lt]; show ¬ b.toNat < 240; omega
  have n2 : b ≠ 224 := by intro e; subst e; exact absurd h (by decide)
  have n4 : b ≠ 237 := by intro e; subst e; exact absurd h (by decide)
  have i1 : (b = 240) = (b.toNat = 240) := propext ⟨fun h => by rw [h]; rfl, fun h => UInt8.toNat_inj.1 h⟩
  have i2 : (b = 244) = (b.toNat = 244) := propext ⟨fun h => by rw [h]; rfl, fun h => UInt8.toNat_inj.1 h⟩
  simp [secLo, secHi, opWant, opVal, e, e2, n2, n4, i1, i2]

theorem nat_of (n : Nat) (h : n < 256) : (UInt8.ofNat n).toNat = n := by simp; omega

/-- A scalar's bytes tell it, at its place, and nothing wrong. -/
theorem feed_enc (p : Int) (c : Nat) (hc : c < 55296 ∨ (57344 ≤ c ∧ c ≤ 1114111)) :
    feedD (atP p) (Utf8.encode (c : Int)).data.toList = atP (p + ((Utf8.encode (c : Int)).size : Int)) ∧ feedR (atP p) (Utf8.encode (c : Int)).data.toList = [((c : Int), p)] ∧ feedW (atP p) (Utf8.encode (c : Int)).data.toList = [] ∧ (Utf8.encode (c : Int)).size ≤ 4 := by
  have hv : Utf8.valid (c : Int) = true := by unfold Utf8.valid; simp; omega
  unfold Utf8.encode
  simp only [hv, if_true, Int.toNat_natCast]
  by_cases h1 : c < 128
  · rw [if_pos h1]
    have e := nat_of c (by omega)
    have s := step_ascii p (UInt8.ofNat c) (by omega)
    rw [e] at s
    show feedD (atP p) [UInt8.ofNat c] = _ ∧ feedR (atP p) [UInt8.ofNat c] = _ ∧ feedW (atP p) [UInt8.ofNat c] = _ ∧ _
    simp only [feedD, feedR, feedW, s.1, s.2.1, s.2.2, List.append_nil]
    exact ⟨rfl, trivial, trivial, by show 1 ≤ 4; omega⟩
  · rw [if_neg h1]
    by_cases h2 : c < 2048
    · rw [if_pos h2]
      have e1 := nat_of (192 + c / 64) (by omega)
      have e2 := nat_of (128 + c % 64) (by omega)
      generalize UInt8.ofNat (192 + c / 64) = b1 at e1 ⊢
      generalize UInt8.ofNat (128 + c % 64) = b2 at e2 ⊢
      have s1 := step_open p b1 (by omega) (by omega)
      obtain ⟨q1, q2, q3, q4⟩ := sec_small b1 (by omega)
      rw [q1, q2, q3, q4] at s1
      have s2 := step_last (p + 1) p (b1.toNat % 32) 128 191 b2 (fits_of _ _ _ (by show 128 ≤ _; omega) (by show _ ≤ 191; omega))
      have hval : b1.toNat % 32 * 64 + b2.toNat % 64 = c := by omega
      rw [hval] at s2
      show feedD (atP p) [b1, b2] = _ ∧ feedR (atP p) [b1, b2] = _ ∧ feedW (atP p) [b1, b2] = _ ∧ _
      simp only [feedD, feedR, feedW, s1.1, s1.2.1, s1.2.2, s2.1, s2.2.1, s2.2.2, List.append_nil, List.nil_append]
      exact ⟨by rw [Int.add_assoc]; rfl, trivial, trivial, by show 2 ≤ 4; omega⟩
    · rw [if_neg h2]
      by_cases h3 : c < 65536
      · rw [if_pos h3]
        have e1 := nat_of (224 + c / 4096) (by omega)
        have e2 := nat_of (128 + c / 64 % 64) (by omega)
        have e3 := nat_of (128 + c % 64) (by omega)
        generalize UInt8.ofNat (224 + c / 4096) = b1 at e1 ⊢
        generalize UInt8.ofNat (128 + c / 64 % 64) = b2 at e2 ⊢
        generalize UInt8.ofNat (128 + c % 64) = b3 at e3 ⊢
        have s1 := step_open p b1 (by omega) (by omega)
        obtain ⟨q1, q2, q3, q4⟩ := sec_three b1 (by omega) (by omega)
        have hf : fitsB (secLo b1) (secHi b1) b2 = true := by
          rw [q1, q2]
          refine fits_of _ _ _ ?_ ?_
          · split
            · show 160 ≤ _; omega
            · show 128 ≤ _; omega
          · split
            · show _ ≤ 159; omega
            · show _ ≤ 191; omega
        rw [q3, q4] at s1
        have s2 := step_mid (p + 1) p (b1.toNat % 16) 0 (secLo b1) (secHi b1) b2 hf
        have s3 := step_last (p + 1 + 1) p (b1.toNat % 16 * 64 + b2.toNat % 64) 128 191 b3 (fits_of _ _ _ (by show 128 ≤ _; omega) (by show _ ≤ 191; omega))
        have hval : (b1.toNat % 16 * 64 + b2.toNat % 64) * 64 + b3.toNat % 64 = c := by omega
        rw [hval] at s3
        simp only [Nat.zero_add] at s2
        show feedD (atP p) [b1, b2, b3] = _ ∧ feedR (atP p) [b1, b2, b3] = _ ∧ feedW (atP p) [b1, b2, b3] = _ ∧ _
        simp only [feedD, feedR, feedW, s1.1, s1.2.1, s1.2.2, s2.1, s2.2.1, s2.2.2, s3.1, s3.2.1, s3.2.2, List.append_nil, List.nil_append]
        exact ⟨by rw [Int.add_assoc, Int.add_assoc]; rfl, trivial, trivial, by show 3 ≤ 4; omega⟩
      · rw [if_neg h3]
        have e1 := nat_of (240 + c / 262144) (by omega)
        have e2 := nat_of (128 + c / 4096 % 64) (by omega)
        have e3 := nat_of (128 + c / 64 % 64) (by omega)
        have e4 := nat_of (128 + c % 64) (by omega)
        generalize UInt8.ofNat (240 + c / 262144) = b1 at e1 ⊢
        generalize UInt8.ofNat (128 + c / 4096 % 64) = b2 at e2 ⊢
        generalize UInt8.ofNat (128 + c / 64 % 64) = b3 at e3 ⊢
        generalize UInt8.ofNat (128 + c % 64) = b4 at e4 ⊢
        have s1 := step_open p b1 (by omega) (by omega)
        obtain ⟨q1, q2, q3, q4⟩ := sec_four b1 (by omega)
        have hf : fitsB (secLo b1) (secHi b1) b2 = true := by
          rw [q1, q2]
          refine fits_of _ _ _ ?_ ?_
          · split
            · show 144 ≤ _; omega
            · show 128 ≤ _; omega
          · split
            · show _ ≤ 143; omega
            · show _ ≤ 191; omega
        rw [q3, q4] at s1
        have s2 := step_mid (p + 1) p (b1.toNat % 8) 1 (secLo b1) (secHi b1) b2 hf
        have s3 := step_mid (p + 1 + 1) p (b1.toNat % 8 * 64 + b2.toNat % 64) 0 128 191 b3 (fits_of _ _ _ (by show 128 ≤ _; omega) (by show _ ≤ 191; omega))
        have s4 := step_last (p + 1 + 1 + 1) p ((b1.toNat % 8 * 64 + b2.toNat % 64) * 64 + b3.toNat % 64) 128 191 b4 (fits_of _ _ _ (by show 128 ≤ _; omega) (by show _ ≤ 191; omega))
        have hval : ((b1.toNat % 8 * 64 + b2.toNat % 64) * 64 + b3.toNat % 64) * 64 + b4.toNat % 64 = c := by omega
        rw [hval] at s4
        simp only [Nat.zero_add] at s2 s3
        show feedD (atP p) [b1, b2, b3, b4] = _ ∧ feedR (atP p) [b1, b2, b3, b4] = _ ∧ feedW (atP p) [b1, b2, b3, b4] = _ ∧ _
        simp only [feedD, feedR, feedW, s1.1, s1.2.1, s1.2.2, s2.1, s2.2.1, s2.2.2, s3.1, s3.2.1, s3.2.2, s4.1, s4.2.1, s4.2.2, List.append_nil, List.nil_append]
        exact ⟨by rw [Int.add_assoc, Int.add_assoc, Int.add_assoc]; rfl, trivial, trivial, by show 4 ≤ 4; omega⟩
end Go.Proofs.YtjfbogjpmieogaaDoor
