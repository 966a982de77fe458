/-
  A number of a path, read by hand.
-/
import Derived.Test.YtjfbogjpmieogaaDoorRows
import Derived.Test.YtjfbogjpmieogaaDoorShelf
import Derived.Test.YtjfbogjpmieogaaDoorStepsCut
import Derived.Below
import Derived.Carry
import Derived.OwnWalk
import Derived.WalkKit
import Derived.WalkSpells
import Derived.WalkLawsBesides
import Derived.Deep.RegionLaw
import Derived.Deep.DeepCutAuto
import Derived.Deep.QuietTactic
import Derived.BigQuiet
import Derived.Lib.SmallJoins
namespace Go.Proofs.YtjfbogjpmieogaaDoor
open Go.RowKit

def numRes (l : List UInt8) : Int := if isNum l = true then (numV l : Int) else 0

theorem numRes_no {l : List UInt8} (h : isNum l = false) : numRes l = 0 := by unfold numRes; rw [h]; rfl
theorem numRes_yes {l : List UInt8} (h : isNum l = true) : numRes l = (numV l : Int) := by unfold numRes; rw [if_pos h]

theorem isNum_empty {l : List UInt8} (h : l = []) : isNum l = false := by subst h; rfl
theorem isNum_long {l : List UInt8} (h : 18 < l.length) : isNum l = false := by
  simp only [isNum]
  have : decide (l.length ≤ 18) = false := by simp; omega
  simp [this]
theorem isNum_nought {l : List UInt8} (h : l.head? = some 48) (h1 : 1 < l.length) : isNum l = false := by
  simp [isNum, h, h1]
theorem isNum_other {l : List UInt8} (k : Nat) (hk : k < l.length) (h : isDig l[k] = false) : isNum l = false := by
  have : l.all isDig = false := by
    rw [List.all_eq_false]
    exact ⟨l[k], List.getElem_mem hk, by simp [h]⟩
  simp [isNum, this]
theorem isNum_all {l : List UInt8} (h1 : l ≠ []) (h2 : l.length ≤ 18) (h3 : ¬ (l.head? = some 48 ∧ 1 < l.length)) (h4 : l.all isDig = true) : isNum l = true := by
  rw [isNum_iff]
  refine ⟨?_, h1, h3⟩
  unfold ahead
  rw [List.take_of_length_le h2, takeWhile_all _ _ h4]

theorem dig_of (c : UInt8) : isDig c = true ↔ 48 ≤ c.toNat ∧ c.toNat ≤ 57 := by
  simp [isDig, UInt8.le_iff_toNat_le]

theorem take_all_next (l : List UInt8) (k : Nat) (hk : k < l.length) (h : (l.take k).all isDig = true) (hc : isDig l[k] = true) : (l.take (k + 1)).all isDig = true ∧ numV (l.take (k + 1)) = numV (l.take k) * 10 + (l[k].toNat - 48) := by
  rw [List.take_succ_eq_append_getElem hk]
  refine ⟨by rw [List.all_append, h]; simp [hc], numV_snoc _ _⟩

set_option maxRecDepth 100000 in
set_option maxHeartbeats 4000000 in
theorem number_any (d : ByteArray) (hd : d.size ≤ 67108864) (w : World) :
    Calls Tryd.prog 43 #[.string d] w fun e w' => e = .returned (.tuple #[.int .i64 (numRes d.data.toList), .bool (isNum d.data.toList)]) ∧ w' = w := by
  have hlen : d.data.toList.length = d.size := by simp
  by_cases h0 : d.size = 0
  · have he : d.data.toList = [] := List.length_eq_zero_iff.1 (by omega)
    rw [numRes_no (isNum_empty he), isNum_empty he]
    have hem : d.toList.isEmpty = true := by rw [Lib.toList_data, he]; rfl
    clear hlen h0 he hd
    go_enter Tryd.func43, Tryd.ntmps43
    go_wp2
    go_ret2
    exact ⟨rfl, rfl⟩
  have hem : d.toList.isEmpty = false := by
    rw [Lib.toList_data]
    cases h : d.data.toList with
    | nil => rw [h] at hlen; simp at hlen; omega
    | cons c l => rfl
  by_cases h18 : 18 < d.size
  · rw [numRes_no (isNum_long (by omega)), isNum_long (by omega)]
    have hI : (18 : Int) < (d.size : Int) := by omega
    clear hlen h0
    go_enter Tryd.func43, Tryd.ntmps43
    go_wp2
    go_ret2
    exact ⟨rfl, rfl⟩
  have hI : ¬ (18 : Int) < (d.size : Int) := by omega
  have h0' : 0 < d.size := by omega
  have hpI : (0 : Int) < (d.size : Int) := by omega
  obtain ⟨c0, hc0⟩ : ∃ c, d[0]'h0' = c := ⟨_, rfl⟩
  have hhd : d.data.toList.head? = some c0 := by
    rw [← hc0, List.head?_eq_getElem?, List.getElem?_eq_getElem (by omega)]
    simp [ByteArray.getElem_eq_getElem_data]
  have key : ¬ (c0 = 48 ∧ 1 < d.size) → Calls Tryd.prog 43 #[.string d] w fun e w' => e = .returned (.tuple #[.int .i64 (numRes d.data.toList), .bool (isNum d.data.toList)]) ∧ w' = w := by
    intro hz
    have HZ : Hid (¬ (d.data.toList.head? = some 48 ∧ 1 < d.data.toList.length)) := by
      intro h
      rw [hhd, hlen] at h
      exact hz ⟨Option.some.inj h.1, h.2⟩
    have hzz : ((c0.toNat : Int) == 48) = false ∨ (((c0.toNat : Int) == 48) = true ∧ ¬ (1 : Int) < (d.size : Int)) := by
      by_cases e : c0 = 48
      · right
        refine ⟨by rw [e]; rfl, ?_⟩
        have : ¬ 1 < d.size := fun h => hz ⟨e, h⟩
        omega
      · left
        exact beq_false_of_ne (fun h => e (UInt8.toNat_inj.1 (by show c0.toNat = 48; omega)))
    have HL : Hid (d.data.toList.length = d.size) := hlen
    clear hhd hz h0 hlen
    rcases hzz with z1 | ⟨z1, z2⟩
    all_goals
      go_enter Tryd.func43, Tryd.ntmps43
      go_wp2
      go_loopw [4, 25] (fun n i wr => ∃ k : Nat, k ≤ d.size ∧ i = .int .i64 k ∧ n = .int .i64 (numV (d.data.toList.take k) : Nat) ∧ (d.data.toList.take k).all isDig = true ∧ wr = w) (fun _ i _ => d.size - (intOf i).toNat)
      case atStart => exact ⟨0, Nat.zero_le _, rfl, rfl, rfl, rfl⟩
      case round =>
        obtain ⟨k, hk, rfl, rfl, hall, rfl⟩ := hrel
        by_cases hlt : k < d.size
        · have hkl : k < d.data.toList.length := by rw [HL.out]; exact hlt
          have hkI : (k : Int) < (d.size : Int) := by omega
          obtain ⟨c, hc⟩ : ∃ c, d[k]'hlt = c := ⟨_, rfl⟩
          have hcl : d.data.toList[k] = c := by rw [← hc]; simp [ByteArray.getElem_eq_getElem_data]
          have hnb := numV_lt _ hall
          have hnb2 : numV (d.data.toList.take k) < 100000000000000000 := by
            have h1 : (d.data.toList.take k).length ≤ 17 := by rw [List.length_take]; omega
            have h2 : 10 ^ (d.data.toList.take k).length ≤ 10 ^ 17 := Nat.pow_le_pow_right (by decide) h1
            omega
          have HNX : Hid (isDig c = true → (d.data.toList.take (k + 1)).all isDig = true ∧ numV (d.data.toList.take (k + 1)) = numV (d.data.toList.take k) * 10 + (c.toNat - 48)) := fun h => by
            have := take_all_next d.data.toList k hkl hall (by rw [hcl]; exact h)
            rw [hcl] at this
            exact this
          have HNO : Hid (isDig c = false → isNum d.data.toList = false) := fun h => isNum_other k hkl (by rw [hcl]; exact h)
          have hdig := dig_of c
          have hc255 := c.toNat_lt
          clear hall hnb hcl
          obtain ⟨nv, hnv⟩ : ∃ nv, numV (d.data.toList.take k) = nv := ⟨_, rfl⟩
          rw [hnv] at hnb2 HNX ⊢
          have hnvI : (nv : Int) < 100000000000000000 := by omega
          clear hnv hnb2
          by_cases g1 : c.toNat < 48
          · have g1I : (c.toNat : Int) < 48 := by omega
            have HN : Hid (isNum d.data.toList = false) := HNO.out (by cases h : isDig c with | false => rfl | true => have := hdig.1 h; omega)
            clear HNX HNO hdig
            go_wp2
            go_ret2
            rw [numRes_no HN.out, HN.out]
            exact ⟨rfl, rfl⟩
          · have g1I : ¬ (c.toNat : Int) < 48 := by omega
            by_cases g2 : 57 < c.toNat
            · have g2I : (57 : Int) < (c.toNat : Int) := by omega
              have HN : Hid (isNum d.data.toList = false) := HNO.out (by cases h : isDig c with | false => rfl | true => have := hdig.1 h; omega)
              clear HNX HNO hdig
              go_wp2
              go_ret2
              rw [numRes_no HN.out, HN.out]
              exact ⟨rfl, rfl⟩
            · have g2I : ¬ (57 : Int) < (c.toNat : Int) := by omega
              obtain ⟨x1, x2⟩ := HNX.out (hdig.2 ⟨by omega, by omega⟩)
              have HX1 : Hid _ := x1
              have HX2 : Hid ((numV (d.data.toList.take (k + 1)) : Int) = (nv : Int) * 10 + ((c.toNat : Int) - 48)) := by show _ = _; rw [x2]; omega
              have g3 : IntKind.u8.wrap ((c.toNat : Int) - 48) = (c.toNat : Int) - 48 := by simp [IntKind.wrap, IntKind.bits, IntKind.signed]; omega
              clear HNX HNO hdig x1 x2 g1 g2
              go_wp2
              go_roundw
              case rel => exact ⟨k + 1, by omega, by go_num, by rw [HX2.out], HX1.out, by simp⟩
              case measure => simp [intOf]; omega
        · obtain rfl : k = d.size := by omega
          have e : d.data.toList.take d.size = d.data.toList := List.take_of_length_le (by rw [HL.out]; exact Nat.le_refl _)
          rw [e] at hall ⊢
          have HN : Hid (isNum d.data.toList = true) := isNum_all (by intro h; have := HL.out; rw [h] at this; simp at this; omega) (by rw [HL.out]; omega) HZ.out hall
          clear hall e
          go_wp2
          go_ret2
          rw [numRes_yes HN.out, HN.out]
          exact ⟨rfl, rfl⟩
  by_cases hz : c0 = 48 ∧ 1 < d.size
  · have hn : isNum d.data.toList = false := isNum_nought (by rw [hhd, hz.1]) (by omega)
    rw [numRes_no hn, hn]
    have z1 : ((c0.toNat : Int) == 48) = true := by rw [hz.1]; rfl
    have z2 : (1 : Int) < (d.size : Int) := by omega
    clear key hhd hz h0 hlen hn
    go_enter Tryd.func43, Tryd.ntmps43
    go_wp2
    go_ret2
    exact ⟨rfl, rfl⟩
  · exact key hz
end Go.Proofs.YtjfbogjpmieogaaDoor
