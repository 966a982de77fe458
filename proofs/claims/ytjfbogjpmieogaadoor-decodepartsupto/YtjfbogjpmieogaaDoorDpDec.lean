/-
  The reference's Windows and Decode.
-/
import Derived.Test.YtjfbogjpmieogaaDoorDpOne
import Derived.Test.YtjfbogjpmieogaaDoorSpeaks
namespace Go.Proofs.YtjfbogjpmieogaaDoor
open Go.RowKit

set_option maxRecDepth 100000 in
set_option maxHeartbeats 2000000 in
theorem rwin_any (b : UInt8) (w : World) :
    Calls Tryd.prog 34 #[.int .u8 (b.toNat : Int)] w fun e w' => e = .returned (.int .i64 (winV b)) ∧ Below w.heap.size w w' := by
  have hb := b.toNat_lt
  by_cases h1 : b.toNat < 128
  · have HV : Hid (winV b = (b.toNat : Int)) := by
      show _ = _
      unfold winV
      rw [if_neg]
      intro h
      have := UInt8.le_iff_toNat_le.1 h.1
      simp at this
      omega
    have g1 : (b.toNat : Int) < 128 := by omega
    go_enter Tryd.func34, Tryd.ntmps34
    go_wp2
    go_ret
    rw [HV.out]
    exact ⟨rfl, Below.refl _ _⟩
  · by_cases h2 : 159 < b.toNat
    · have HV : Hid (winV b = (b.toNat : Int)) := by
        show _ = _
        unfold winV
        rw [if_neg]
        intro h
        have := UInt8.lt_iff_toNat_lt.1 h.2
        simp at this
        omega
      have g1 : ¬ (b.toNat : Int) < 128 := by omega
      have g2 : (159 : Int) < (b.toNat : Int) := by omega
      go_enter Tryd.func34, Tryd.ntmps34
      go_wp2
      go_ret
      rw [HV.out]
      exact ⟨rfl, Below.refl _ _⟩
    · obtain ⟨k, hk⟩ : ∃ k : Nat, b.toNat = k + 128 := ⟨b.toNat - 128, by omega⟩
      have hk32 : k < 32 := by omega
      have HV : Hid (winV b = winTab.getD k 0) := by
        show _ = _
        unfold winV
        rw [if_pos ⟨UInt8.le_iff_toNat_le.2 (by simp; omega), UInt8.lt_iff_toNat_lt.2 (by simp; omega)⟩, hk]
        simp
      have hc : (w.alloc (.cells (winTab.map (Value.int .i64)).toArray 3)).cell? ⟨w.heap.size, k, none⟩ = some (.int .i64 (winTab.getD k 0)) := by
        refine (World.cell?_alloc_at _ _ _ _ rfl).trans ?_
        rw [List.getElem?_toArray, List.getElem?_map]
        have : winTab[k]? = some (winTab.getD k 0) := by simp [List.getD, show k < winTab.length from hk32]
        rw [this]
        rfl
      obtain ⟨x, hx⟩ : ∃ x, winTab.getD k 0 = x := ⟨_, rfl⟩
      rw [hx] at hc HV
      unfold winTab at hc
      simp only [List.map_cons, List.map_nil] at hc
      have g1 : ¬ ((k + 128 : Nat) : Int) < 128 := by omega
      have g2 : ¬ (159 : Int) < ((k + 128 : Nat) : Int) := by omega
      have kk : ((k + 128 : Nat) : Int) - 128 = (k : Int) := by omega
      have k32 : (k : Int) < 32 := by omega
      rw [hk]
      clear hx hb h1 h2 hk
      go_enter Tryd.func34, Tryd.ntmps34
      go_wp2
      go_ret
      rw [HV.out]
      exact ⟨rfl, (Below.refl _ _).alloc (Nat.le_refl _) _⟩

/-- What the reference tells of bytes, in whatever coding. -/
def refL (c : Int) (p : Int) (l : List UInt8) : List (Int × Int × Bool) := if c = 1 then decF l.length p l else winL p l where
  winL : Int → List UInt8 → List (Int × Int × Bool)
    | _, [] => []
    | p, b :: l => (winV b, p, false) :: winL (p + 1) l

def runeC3 (r : Int × Int × Bool) : List Value := [.int .i64 r.1, .int .i64 r.2.1, .bool r.2.2]
theorem Tryd.infoRune3 : (Tryd.prog.info? 53).map (fun i => (i.zero, i.size, i.bytes)) = some (some (.agg #[.int .i64 0, .int .i64 0, .bool false]), 3, 24) := by kernel_rfl

theorem decF_fuel : ∀ (n m : Nat) (p : Int) (l : List UInt8), l.length ≤ n → l.length ≤ m → decF n p l = decF m p l
  | 0, m, p, l, h, _ => by
    obtain rfl : l = [] := List.length_eq_zero_iff.1 (by omega)
    cases m <;> rfl
  | n + 1, 0, p, l, _, h => by
    obtain rfl : l = [] := List.length_eq_zero_iff.1 (by omega)
    rfl
  | n + 1, m + 1, p, [], _, _ => rfl
  | n + 1, m + 1, p, b :: l, h1, h2 => by
    have hb := one_bd rowsT 1 (b :: l) (by decide) (Nat.le_refl _) (by simp)
    simp only [decF]
    congr 1
    have hl : ((b :: l).drop (oneF (b :: l)).2).length ≤ l.length := by
      have : 1 ≤ (oneF (b :: l)).2 := hb.1
      rw [List.length_drop, List.length_cons]
      omega
    simp only [List.length_cons] at h1 h2
    exact decF_fuel n m _ _ (by omega) (by omega)

theorem win_val (b : UInt8) : 0 ≤ winV b := byte_all (Q := fun b => 0 ≤ winV b) (by decide +kernel) b

/-- How far the reference has come. -/
structure RefAt (w wr : World) (c p : Int) (s : ByteArray) (k : Nat) (v : Value) (os : List (Int × Int × Bool)) : Prop where
  own : wr.ownsRow w.heap.size 53 3 v os.length (os.flatMap runeC3)
  len : os.length ≤ k
  eq : refL c p s.data.toList = os ++ refL c (p + k) (s.data.toList.drop k)
  below : Below w.heap.size w wr

theorem ref_step (c p : Int) (l : List UInt8) (h : 0 < l.length) : refL c p l = (if c = 1 then (if (oneF l).1 < 0 then (65533, p, true) else ((oneF l).1, p, false)) else (winV (l[0]'h), p, false)) :: refL c (p + (if c = 1 then (oneF l).2 else 1 : Nat)) (l.drop (if c = 1 then (oneF l).2 else 1)) := by
  cases l with
  | nil => simp at h
  | cons b l =>
    by_cases hc : c = 1
    · unfold refL
      simp only [if_pos hc]
      rw [show (b :: l).length = l.length + 1 from rfl]
      simp only [decF]
      congr 1
      have hb := one_bd rowsT 1 (b :: l) (by decide) (Nat.le_refl _) (by simp)
      have hl : ((b :: l).drop (oneF (b :: l)).2).length ≤ l.length := by
        have : 1 ≤ (oneF (b :: l)).2 := hb.1
        rw [List.length_drop, List.length_cons]
        omega
      exact decF_fuel _ _ _ _ hl (Nat.le_refl _)
    · unfold refL
      simp only [if_neg hc]
      rfl
end Go.Proofs.YtjfbogjpmieogaaDoor
