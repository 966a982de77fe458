/-
  Plain facts on bits. No program stands in it.
-/
import Derived.Laws.BitsAllLaws
namespace Go.Proofs.YtcndjfpcddidhaaDoor
open Go

theorem nat_fffe (n : Nat) : n &&& 65534 = 2 * (n / 2 % 32768) := by
  have h1 : (n &&& 65534) / 2 = n / 2 % 32768 := by
    rw [Nat.and_div_two]
    exact Nat.and_two_pow_sub_one_eq_mod (n / 2) 15
  have h2 : (n &&& 65534) % 2 = 0 := by
    have := Nat.and_mod_two_pow (a := n) (b := 65534) (n := 1)
    simpa using this
  omega

theorem i64_fffe (n : Nat) (h : n < 2097152) : bits .and .i64 (n : Int) 65534 = ((2 * (n / 2 % 32768) : Nat) : Int) := by
  show IntKind.i64.wrap ((BitVec.ofInt 64 (n : Int) &&& BitVec.ofInt 64 ((65534 : Nat) : Int)).toNat : Int) = _
  rw [BitVec.toNat_and, ofInt_u64 n (by omega), ofInt_u64 65534 (by omega), nat_fffe]
  simp [IntKind.wrap, IntKind.bits, IntKind.signed]
  omega

theorem i64_fffe_is (n : Nat) (h : n < 2097152) : (bits .and .i64 (n : Int) 65534 == 65534) = decide (65534 ≤ n % 65536) := by
  rw [i64_fffe n h, Bool.eq_iff_iff]
  simp
  omega

theorem i64_and3 (n : Int) : 0 ≤ bits .and .i64 n 3 ∧ bits .and .i64 n 3 ≤ 3 := by
  have e : bits .and .i64 n 3 = IntKind.i64.wrap ((BitVec.ofInt 64 n &&& BitVec.ofInt 64 ((3 : Nat) : Int)).toNat : Int) := rfl
  rw [e, BitVec.toNat_and, ofInt_u64 3 (by omega)]
  have h := nat_mask2 (BitVec.ofInt 64 n).toNat
  rw [h]
  simp only [IntKind.wrap, IntKind.bits, IntKind.signed]
  simp
  omega
end Go.Proofs.YtcndjfpcddidhaaDoor
