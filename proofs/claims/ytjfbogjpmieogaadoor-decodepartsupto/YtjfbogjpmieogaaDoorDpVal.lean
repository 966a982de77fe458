/-
  The reference's value of whole bytes.
-/
import Derived.Test.YtjfbogjpmieogaaDoorDpRef
import Derived.Laws.BitsLemmas
namespace Go.Proofs.YtjfbogjpmieogaaDoor
open Go.RowKit

def valK (s : ByteArray) (k : Nat) : Int := valV (s.data.toList.take k) + leadOf k - leadOf s.size

theorem byte_at (s : ByteArray) (k : Nat) (h : k < s.size) : s[k] = s.data.toList[k]'(by simpa using h) := by simp [ByteArray.getElem_eq_getElem_data]

/-- The first byte's part, then six bits each. -/
def vAt (s : ByteArray) (k : Nat) : Int := ((s.data.toList.take k).drop 1).foldl (fun v c => v * 64 + (c.toNat : Int) - 128) (((s.data.toList.head?.getD 0).toNat : Int) - leadOf s.size)

theorem vAt_next (s : ByteArray) (k : Nat) (h0 : 1 ≤ k) (h : k < s.size) : vAt s (k + 1) = vAt s k * 64 + (s[k].toNat : Int) - 128 := by
  have hk : k < s.data.toList.length := by simpa using h
  unfold vAt
  rw [List.take_succ_eq_append_getElem hk, List.drop_append_of_le_length (by simp; omega), List.foldl_append]
  rw [byte_at s k h]
  rfl
theorem vAt_end (s : ByteArray) (h0 : 1 ≤ s.size) : vAt s s.size = valV s.data.toList := by
  have hl : s.data.toList.length = s.size := by simp
  unfold vAt
  rw [List.take_of_length_le (by omega)]
  cases hs : s.data.toList with
  | nil => rw [hs] at hl; simp at hl; omega
  | cons b r =>
    rw [hs] at hl
    simp only [List.length_cons] at hl
    simp only [valV, List.drop_one, List.tail_cons, List.head?_cons, Option.getD_some]
    rw [hl]

structure ValOk (s : ByteArray) : Prop where
  size : 1 ≤ s.size ∧ s.size ≤ 4
  low : ∀ k, 1 ≤ k → k ≤ s.size → 0 ≤ vAt s k ∧ vAt s k ≤ 4294967296

set_option maxRecDepth 100000 in
set_option maxHeartbeats 2000000 in
theorem value_any (s : ByteArray) (w : World) (h : ValOk s) :
    Calls Tryd.prog 57 #[.string s] w fun e w' => e = .returned (.int .i64 (valV s.data.toList)) ∧ Below w.heap.size w w' := by
  have hs1 := h.size.1
  have hs4 := h.size.2
  have HV : Hid _ := h.low
  have hlen : s.data.toList.length = s.size := by simp
  obtain ⟨b, r, hbr⟩ : ∃ b r, s.data.toList = b :: r := by
    cases hs : s.data.toList with
    | nil => rw [hs] at hlen; simp at hlen; omega
    | cons b r => exact ⟨b, r, rfl⟩
  have hidx : ∀ w, (Instr.index 9 (.string s) (.int .i64 0)).run Tryd.prog w = .ok (.int .u8 (b.toNat : Int)) w := fun w => by
    rw [run_index_string w 9 s .i64 0 Tryd.underlying9, dif_pos ⟨Int.le_refl _, by omega⟩]
    have : s[(0 : Int).toNat]'(by simp; omega) = b := by
      show s[0]'(by omega) = b
      rw [byte_at s 0 (by omega)]
      simp [hbr]
    rw [this]
  obtain ⟨n, hn⟩ : ∃ n, s.size = n + 1 := ⟨s.size - 1, by omega⟩
  have hv1 : vAt s 1 = (b.toNat : Int) - leadOf (n + 1) := by
    unfold vAt
    rw [hbr, hn]
    simp
  have HE : Hid _ := vAt_end s hs1
  have hc : (w.alloc (.cells #[.int .i64 0, .int .i64 192, .int .i64 224, .int .i64 240] 3)).cell? ⟨w.heap.size, n, none⟩ = some (.int .i64 (leadOf (n + 1))) := by
    have : n = 0 ∨ n = 1 ∨ n = 2 ∨ n = 3 := by omega
    rcases this with rfl | rfl | rfl | rfl <;> exact World.cell?_alloc_at _ _ _ _ rfl
  have hlb : 0 ≤ leadOf (n + 1) ∧ leadOf (n + 1) ≤ 240 := by unfold leadOf; split <;> (try split) <;> (try split) <;> decide
  obtain ⟨hl0, hl1⟩ := hlb
  have hbb : (b.toNat : Int) ≤ 255 := by have := b.toNat_lt; omega
  have hsz : (s.size : Int) - 1 = (n : Int) := by omega
  have hn4 : (n : Int) < 4 := by omega
  have HN : Hid (s.size = n + 1) := hn
  have HV1 : Hid _ := hv1
  have HB0 : Hid (∀ o, Below w.heap.size w (w.alloc o)) := fun o => (Below.refl _ _).alloc (Nat.le_refl _) o
  generalize leadOf (n + 1) = L at hc hl0 hl1 HV1
  clear h hn hlen hbr hv1
  go_enter Tryd.func57, Tryd.ntmps57
  go_wp2_with fail
  go_quiet (fail)
  go_wp2
  clear hidx hc
  go_loopw [4, 5] (fun v i wr => ∃ k : Nat, 1 ≤ k ∧ k ≤ s.size ∧ i = .int .i64 k ∧ v = .int .i64 (vAt s k) ∧ Below w.heap.size w wr) (fun _ i _ => s.size - (intOf i).toNat)
  case atStart => exact ⟨1, Nat.le_refl _, hs1, rfl, by rw [HV1.out], drewN_below (HB0.out _) _⟩
  case round =>
    obtain ⟨k, hk1, hk, rfl, rfl, hbr⟩ := hrel
    have HBR : Hid _ := hbr
    clear hbr HV1 HB0
    by_cases hlt : k < s.size
    · obtain ⟨v0, v1⟩ := HV.out k hk1 hk
      have HX : Hid _ := vAt_next s k hk1 hlt
      have hb2 : (s[k].toNat : Int) ≤ 255 := by have := s[k].toNat_lt; omega
      have HVn : Hid _ := HV.out (k + 1) (by omega) hlt
      generalize vAt s k = v at v0 v1 HX
      go_wp2
      go_roundw
      case rel => exact ⟨k + 1, by omega, hlt, by go_num, by rw [HX.out], HBR.out⟩
      case measure => simp [intOf]; omega
    · have hkz : k = s.size := by omega
      subst hkz
      rw [HE.out]
      go_wp2
      go_ret
      exact ⟨rfl, HBR.out⟩

theorem flat9 : ∀ (rs : List (List (Int × Int))) (j : Nat) (hj : j < rs.length) (t : Nat), t < 9 → (rs.flatMap rowCells)[j * 9 + t]? = (rowCells rs[j])[t]?
  | [], j, hj, _, _ => absurd hj (by simp)
  | r :: rs, 0, _, t, ht => by
    rw [List.flatMap_cons, Nat.zero_mul, Nat.zero_add, List.getElem?_append_left (by simp [rowCells]; exact ht)]
    rfl
  | r :: rs, j + 1, hj, t, ht => by
    have hl : (rowCells r).length = 9 := rfl
    rw [List.flatMap_cons, List.getElem?_append_right (by rw [hl]; omega), hl, show (j + 1) * 9 + t - 9 = j * 9 + t by omega]
    exact flat9 rs j (by simpa using hj) t ht

/-- A row, where it lies. -/
structure RowIn (w : World) (b j : Nat) (r : List (Int × Int)) : Prop where
  lo : ∀ k, (h : k < r.length) → w.cell? ⟨b, j * 9 + k, none⟩ = some (.int .i64 r[k].1)
  hi : ∀ k, (h : k < r.length) → w.cell? ⟨b, j * 9 + 4 + k, none⟩ = some (.int .i64 r[k].2)
  len : w.cell? ⟨b, j * 9 + 8, none⟩ = some (.int .i64 (r.length : Int))
  four : r.length ≤ 4

theorem rowsT_four : ∀ r ∈ rowsT, r.length ≤ 4 := by decide
theorem row_in (w : World) (j : Nat) (hj : j < rowsT.length) : RowIn (w.alloc (.cells rowsC 122)) w.heap.size j rowsT[j] := by
  have h4 : rowsT[j].length ≤ 4 := rowsT_four _ (List.getElem_mem hj)
  have key : ∀ t v, t < 9 → (rowCells rowsT[j])[t]? = some v → (w.alloc (.cells rowsC 122)).cell? ⟨w.heap.size, j * 9 + t, none⟩ = some v := fun t v ht hv => by
    refine (World.cell?_alloc_at _ _ _ _ rfl).trans ?_
    unfold rowsC
    rw [List.getElem?_toArray, flat9 rowsT j hj t ht, hv]
  have four : ∀ (f : Int × Int → Int) k, (h : k < rowsT[j].length) → (rowsT[j].getD k (0, 0)) = rowsT[j][k] := fun f k h => by simp [List.getD, h]
  refine ⟨fun k h => ?_, fun k h => ?_, key 8 _ (by omega) rfl, h4⟩
  · refine key k _ (by omega) ?_
    have hk : k = 0 ∨ k = 1 ∨ k = 2 ∨ k = 3 := by omega
    rcases hk with rfl | rfl | rfl | rfl <;> (rw [← four (·.1) _ h]; rfl)
  · have := key (4 + k) (.int .i64 rowsT[j][k].2) (by omega) (by
      have hk : k = 0 ∨ k = 1 ∨ k = 2 ∨ k = 3 := by omega
      rcases hk with rfl | rfl | rfl | rfl <;> (rw [← four (·.1) _ h]; rfl))
    rwa [← Nat.add_assoc] at this
end Go.Proofs.YtjfbogjpmieogaaDoor
