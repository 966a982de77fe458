/-
  small: letters made small, in a copy of the bytes; what was in memory is as it was.
-/
import Derived.Test.YtjfbogjpmieogacDoorRows
import Derived.Test.YtjfbogjpmieogacDoorPlain
import Derived.WalkKit
import Derived.WalkSpells
import Derived.WalkLawsBesides
import Derived.Laws.IdiomStrings
namespace Go.Proofs.YtjfbogjpmieogacDoor.Sn
open Go.RowKit

def lowB (c : UInt8) : UInt8 := if 65 ≤ c ∧ c ≤ 90 then c + 32 else c
def low (l : List UInt8) : List UInt8 := l.map lowB
def lowS (s : ByteArray) : ByteArray := ⟨(low s.data.toList).toArray⟩

theorem low_length (l : List UInt8) : (low l).length = l.length := List.length_map ..
theorem lowS_size (s : ByteArray) : (lowS s).size = s.size := by
  show (low s.data.toList).toArray.size = s.data.size
  simp [low_length]

def lowTo (l : List UInt8) (k : Nat) : List UInt8 := l.mapIdx fun i c => if i < k then lowB c else c

theorem lowTo_zero (l : List UInt8) : lowTo l 0 = l := by
  apply List.ext_getElem?
  intro i
  simp [lowTo]
theorem lowTo_all (l : List UInt8) : lowTo l l.length = low l := by
  apply List.ext_getElem?
  intro i
  by_cases h : i < l.length
  · simp [lowTo, low, h]
  · simp [lowTo, low, h]
theorem lowTo_length (l : List UInt8) (k : Nat) : (lowTo l k).length = l.length := by
  simp [lowTo]
theorem lowTo_at (l : List UInt8) (k : Nat) (h : k < l.length) : (lowTo l k)[k]? = some l[k] := by
  simp [lowTo, h]
theorem lowTo_succ (l : List UInt8) (k : Nat) (h : k < l.length) : lowTo l (k + 1) = (lowTo l k).set k (lowB l[k]) := by
  apply List.ext_getElem?
  intro i
  rw [List.getElem?_set]
  by_cases e : k = i
  · subst e
    simp [lowTo, h]
  · simp only [lowTo, List.getElem?_mapIdx, e, if_false]
    by_cases h1 : i < k
    · simp [h1, show i < k + 1 by omega]
    · simp [h1, show ¬ i < k + 1 by omega]
theorem lowTo_same (l : List UInt8) (k : Nat) (h : k < l.length) (hc : lowB l[k] = l[k]) : lowTo l (k + 1) = lowTo l k := by
  rw [lowTo_succ l k h, hc]
  apply List.ext_getElem?
  intro i
  rw [List.getElem?_set]
  by_cases e : k = i
  · subst e
    rw [lowTo_at l k h]
    simp [lowTo_length, h]
  · simp [e]

theorem lowB_yes (c : UInt8) (h1 : (65 : Int) ≤ (c.toNat : Int)) (h2 : (c.toNat : Int) ≤ 90) : ((lowB c).toNat : Int) = (c.toNat : Int) - 65 + 97 := by
  have : 65 ≤ c ∧ c ≤ 90 := by
    rw [UInt8.le_iff_toNat_le, UInt8.le_iff_toNat_le]
    exact ⟨by show 65 ≤ c.toNat; omega, by show c.toNat ≤ 90; omega⟩
  rw [lowB, if_pos this, UInt8.toNat_add]
  show (((c.toNat + 32) % 256 : Nat) : Int) = _
  omega
theorem lowB_no (c : UInt8) (h : (c.toNat : Int) < 65 ∨ (90 : Int) < (c.toNat : Int)) : lowB c = c := by
  have : ¬ (65 ≤ c ∧ c ≤ 90) := by
    rw [UInt8.le_iff_toNat_le, UInt8.le_iff_toNat_le]
    show ¬ (65 ≤ c.toNat ∧ c.toNat ≤ 90)
    omega
  rw [lowB, if_neg this]

/-- The bytes of a block, none of them frozen. -/
structure RowIs (w : World) (b : Nat) (l : List UInt8) : Prop where
  cell : ∀ j c, l[j]? = some c → w.cell? ⟨b, j, none⟩ = some (.int .u8 (c.toNat : Int))
  frozen : ∀ j, j < l.length → w.frozen? ⟨b, j, none⟩ = false

theorem RowIs.set {w : World} {b : Nat} {l : List UInt8} (h : RowIs w b l) (k : Nat) (c : UInt8) (hk : k < l.length) : RowIs (w.setCell ⟨b, k, none⟩ (.int .u8 (c.toNat : Int))) b (l.set k c) := by
  refine ⟨fun j d hj => ?_, fun j hj => ?_⟩
  · by_cases e : j = k
    · subst e
      rw [List.getElem?_set_self hk] at hj
      obtain rfl := Option.some.inj hj
      exact World.cell?_setCell_same _ _ _ (h.cell j l[j] (List.getElem?_eq_getElem hk))
    · rw [List.getElem?_set_ne (fun x => e x.symm)] at hj
      rw [World.cell?_setCell_other _ _ _ _ (by simp)]
      exact h.cell j d hj
  · rw [World.frozen?_setCell]
    exact h.frozen j (by simpa using hj)

theorem rowIs_new (w : World) (s : ByteArray) (cap : Nat) : RowIs ((w.alloc (.cells (bytesRow s cap) 5 ((bytesRow s cap).size, (bytesRow s cap).size + 1))).drew) w.heap.size s.data.toList := by
  refine ⟨fun j c hj => ?_, fun j hj => ?_⟩
  · obtain ⟨hl, e⟩ := List.getElem?_eq_some_iff.1 hj
    have hl' : j < s.data.size := by simpa using hl
    rw [World.cell?_drew, World.cell?_alloc_mark, bytesRow_at s cap j hl']
    subst e
    simp
  · rw [World.frozen?_drew, World.frozen?_alloc_mark]
    have : s.data.size ≤ (bytesRow s cap).size := by simp [bytesRow]
    have hj' : j < s.data.size := by simpa using hj
    have : ¬ (bytesRow s cap).size ≤ j := by omega
    simp [this]

theorem RowIs.back {w : World} {b : Nat} {l : List UInt8} (h : RowIs w b l) (cap : Nat) : (convert 94 9 (.slice (some ⟨b, 0, none⟩) l.length cap)).run Tryd.prog w = .ok (.string ⟨l.toArray⟩) w :=
  run_convert_bytes_back w 94 9 5 ⟨b, 0, none⟩ cap l Tryd.underlying94 Tryd.underlying5 Tryd.underlying9 (fun j hj => by
    have e : (⟨b, 0, none⟩ : Addr).add j = ⟨b, j, none⟩ := by simp [Addr.add]; exact fun x => x.symm
    rw [e]
    exact h.cell j l[j] (List.getElem?_eq_getElem hj))

set_option maxHeartbeats 400000 in
theorem small_any (s : ByteArray) (w : World) (hs : s.size ≤ maxLen) :
    Calls Tryd.prog 30 #[.string s] w fun e w' => e = .returned (.string (lowS s)) ∧ Below w.heap.size w w' := by
  unfold maxLen at hs
  have hconv := run_bytes_of_string (P := Tryd.prog) w 9 94 5 s Tryd.underlying9 Tryd.underlying94 Tryd.underlying5
  generalize grownCap w s.size 0 5 = cap at hconv
  have hR := rowIs_new w s cap
  generalize bytesRow s cap = C at hconv hR
  have HR : Hid (RowIs ((w.alloc (.cells C 5 (C.size, C.size + 1))).drew) w.heap.size s.data.toList) := hR
  clear hR
  go_enter Tryd.func30, Tryd.ntmps30
  go_wp2
  go_loopw [10] (fun i wr => ∃ k : Nat, k ≤ s.size ∧ i = .int .i64 k ∧ RowIs wr w.heap.size (lowTo s.data.toList k) ∧ Below w.heap.size w wr) (fun i _ => s.size - (intOf i).toNat)
  case atStart => exact ⟨0, Nat.zero_le _, rfl, by rw [lowTo_zero]; exact HR.out, ((Below.refl _ _).alloc (Nat.le_refl _) _).drew⟩
  case round =>
    obtain ⟨k, hk, rfl, hrow, hbel⟩ := hrel
    clear hconv HR
    by_cases hlt : k < s.size
    · have hcell := hrow.cell k s[k] (lowTo_at _ _ (by simpa using hlt))
      have hfroz := hrow.frozen k (by rw [lowTo_length]; simpa using hlt)
      have HROW : Hid (RowIs wr w.heap.size (lowTo s.data.toList k)) := hrow
      clear hrow
      go_wp2
      · have h1 : (65 : Int) ≤ (s[k].toNat : Int) := by assumption
        have h2 : (s[k].toNat : Int) ≤ 90 := by assumption
        go_roundw
        case rel =>
          refine ⟨k + 1, by omega, by go_num, ?_, hbel.setCell (Nat.le_refl _) _⟩
          rw [lowTo_succ _ _ (by simpa using hlt)]
          have := HROW.out.set k (lowB s[k]) (by rw [lowTo_length]; simpa using hlt)
          rw [lowB_yes _ h1 h2] at this
          exact this
        case measure => simp [intOf]; omega
      · have h2 : (90 : Int) < (s[k].toNat : Int) := by assumption
        go_roundw
        case rel => exact ⟨k + 1, by omega, by go_num, by rw [lowTo_same _ _ (by simpa using hlt) (lowB_no _ (Or.inr h2))]; exact HROW.out, hbel⟩
        case measure => simp [intOf]; omega
      · have h2 : ¬ (65 : Int) ≤ (s[k].toNat : Int) := by assumption
        go_roundw
        case rel => exact ⟨k + 1, by omega, by go_num, by rw [lowTo_same _ _ (by simpa using hlt) (lowB_no _ (Or.inl (by show (s[k].toNat : Int) < 65; omega)))]; exact HROW.out, hbel⟩
        case measure => simp [intOf]; omega
    · have ek : k = s.data.toList.length := by simp; show k = s.size; omega
      have hback := hrow.back cap
      rw [lowTo_length, show s.data.toList.length = s.size from by simp, ek, lowTo_all] at hback
      clear hrow
      go_wp2
      go_ret
      exact ⟨rfl, hbel⟩
end Go.Proofs.YtjfbogjpmieogacDoor.Sn
