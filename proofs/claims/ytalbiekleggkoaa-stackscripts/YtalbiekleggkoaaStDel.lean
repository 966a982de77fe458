/-
  slices.Delete of elements of 2 cells.
-/
import Derived.Test.YtalbiekleggkoaaStRows
namespace Go.Proofs.Ytalbiekleggkoaa
open Go.RowKit

theorem stDelInfo : (Try.prog.info? 31).map (fun i => (i.zero, i.size, i.bytes)) = some (some (.agg #[.int .i64 0, .string ⟨#[]⟩]), 2, 24) := by kernel_rfl
theorem stDelZero : ∀ w, (zeroValue 31).run Try.prog w = .ok (.agg #[.int .i64 0, .string ⟨#[]⟩]) w := fun w => by kernel_rfl

set_option maxRecDepth 100000 in
set_option maxHeartbeats 4000000 in
theorem stDel_any (B g n cap i j : Nat) (xs : List Value) (w : World) (hO : w.ownsRow B 31 2 (.slice (some ⟨g, 0, none⟩) n cap) n xs) (h1 : ∀ u ∈ xs, u.oneCell' = true) (hij : i < j) (hj : j ≤ n) (hn : n ≤ 1000000) :
    Calls Try.prog 43 #[.slice (some ⟨g, 0, none⟩) n cap, .int .i64 (i : Int), .int .i64 (j : Int)] w fun e w' => e = .returned (.slice (some ⟨g, 0, none⟩) (i + (n - j)) cap) ∧ Hid (w'.ownsRow B 31 2 (.slice (some ⟨g, 0, none⟩) (i + (n - j)) cap) (i + (n - j)) (xs.take (i * 2) ++ xs.drop (j * 2)) ∧ Kept (fun k => k = g) w w') := by
  obtain ⟨i0, hi, hz0, hz1, hz2⟩ := info_parts stDelInfo
  have hroom := owns_room hO
  have hlen : xs.length = n * 2 := hO.1
  -- the append
  obtain ⟨news, hnews⟩ : ∃ news, news = xs.drop (j * 2) := ⟨_, rfl⟩
  have hnl : news.length = (n - j) * 2 := by rw [hnews, List.length_drop, hlen, Nat.sub_mul]
  have hOd : w.drew.ownsRow B 31 2 (.slice (some ⟨g, 0, none⟩) n cap) n xs := World.ownsRow.drew hO
  obtain ⟨ad, hA, hsrc⟩ : ∃ ad : Addr, (if cap = j then some (⟨g, 0, none⟩ : Addr) else some ⟨g, j * 2, none⟩) = some ad ∧ Hid (∀ t u, news[t]? = some u → w.drew.cell? (ad.add t) = some u) := by
    by_cases h : cap = j
    · refine ⟨⟨g, 0, none⟩, by simp [h], fun t u hu => ?_⟩
      have h0 : news.length = 0 := by rw [hnl]; omega
      rw [List.length_eq_zero_iff.1 h0] at hu
      simp at hu
    · refine ⟨⟨g, j * 2, none⟩, by simp [h], fun t u hu => ?_⟩
      rw [hnews, List.getElem?_drop] at hu
      have := owns_at hOd (j * 2 + t) u hu
      rw [Addr.add_lit]
      exact this
  have s1 : Hid (news.length = (n - j) * 2) := hnl
  have s2 : Hid (∀ u ∈ news, u.oneCell' = true) := fun u hu => h1 u (List.mem_of_mem_drop (by rw [← hnews]; exact hu))
  have s3 : Hid (∀ t, t < news.length → (w.drew.cell? ⟨g, 0 + i * 2 + t, none⟩).isSome = true ∧ w.drew.frozen? ⟨g, 0 + i * 2 + t, none⟩ = false) := fun t ht => by
    rw [hnl] at ht
    exact ⟨owns_there hOd _ (by omega), owns_fz hOd _⟩
  obtain ⟨W1, hW1⟩ : ∃ W1, W1 = w.drew.setCells g (0 + i * 2) news := ⟨_, rfl⟩
  have hO1 : W1.ownsRow B 31 2 (.slice (some ⟨g, 0, none⟩) n cap) n (setL xs (0 + i * 2) news) := by
    rw [hW1]
    exact owns_setCells news _ _ _ hOd
  have hK1 : Kept (fun k => k = g) w W1 := by
    rw [hW1]
    exact kept_setCells (out := fun k => k = g) g rfl _ _ _ ((Kept.refl (fun k => k = g) w).draws 1)
  -- the clear
  have hcl : ∀ ty, (Builtin.clear_ #[24] ty #[.slice (some ⟨g, (i + (n - j)) * 2, none⟩) (n - (i + (n - j))) (cap - (i + (n - j)))]).run Try.prog W1 = .ok (.tuple #[]) (W1.setCells g ((i + (n - j)) * 2) (Builtin.zeroCells (.agg #[.int .i64 0, .string ⟨#[]⟩] : Value).cells (n - (i + (n - j)))).toList) := fun ty =>
    run_clear_cells W1 24 31 ty _ Try.underlying24 stDelZero (by intro u hu; simp [Value.cells] at hu; rcases hu with rfl | rfl <;> rfl) (by decide) g _ _ _ (by omega) (fun t ht => by
      have ht' : t < (n - (i + (n - j))) * 2 := ht
      exact owns_there hO1 _ (by omega)) (fun t _ => owns_fz hO1 _)
  have HFIN : Hid ((W1.setCells g ((i + (n - j)) * 2) (Builtin.zeroCells (.agg #[.int .i64 0, .string ⟨#[]⟩] : Value).cells (n - (i + (n - j)))).toList).ownsRow B 31 2 (.slice (some ⟨g, 0, none⟩) (i + (n - j)) cap) (i + (n - j)) (xs.take (i * 2) ++ xs.drop (j * 2)) ∧ Kept (fun k => k = g) w (W1.setCells g ((i + (n - j)) * 2) (Builtin.zeroCells (.agg #[.int .i64 0, .string ⟨#[]⟩] : Value).cells (n - (i + (n - j)))).toList)) := by
    refine ⟨?_, kept_setCells (out := fun k => k = g) g rfl _ _ _ hK1⟩
    have h2 := owns_shorter (owns_setCells (Builtin.zeroCells (.agg #[.int .i64 0, .string ⟨#[]⟩] : Value).cells (n - (i + (n - j)))).toList ((i + (n - j)) * 2) _ _ hO1) (n' := i + (n - j)) (by omega)
    have hzl : (Builtin.zeroCells (.agg #[.int .i64 0, .string ⟨#[]⟩] : Value).cells (n - (i + (n - j)))).toList.length = (n - (i + (n - j))) * 2 := by simp [Builtin.zeroCells, Value.cells]
    have hsl : (setL xs (0 + i * 2) news).length = n * 2 := by rw [setL_len, hlen]
    rw [setL_in _ _ _ (by rw [hzl, hsl]; omega), setL_in _ _ _ (by rw [hnl, hlen]; omega)] at h2
    have e : ((((xs.take (0 + i * 2) ++ news ++ xs.drop (0 + i * 2 + news.length)).take ((i + (n - j)) * 2) ++ (Builtin.zeroCells (.agg #[.int .i64 0, .string ⟨#[]⟩] : Value).cells (n - (i + (n - j)))).toList ++ (xs.take (0 + i * 2) ++ news ++ xs.drop (0 + i * 2 + news.length)).drop ((i + (n - j)) * 2 + (Builtin.zeroCells (.agg #[.int .i64 0, .string ⟨#[]⟩] : Value).cells (n - (i + (n - j)))).toList.length)).take ((i + (n - j)) * 2))) = xs.take (i * 2) ++ xs.drop (j * 2) := by
      have h3 : (xs.take (0 + i * 2) ++ news).length = (i + (n - j)) * 2 := by
        rw [List.length_append, List.length_take, hnl, hlen]
        omega
      rw [List.append_assoc, List.take_append_of_le_length (by rw [List.length_take, List.length_append, h3]; omega), List.take_take, Nat.min_self, List.take_append_of_le_length (by rw [h3]; omega), List.take_of_length_le (by rw [h3]; omega), Nat.zero_add, hnews]
    rw [e] at h2
    exact h2
  generalize (Builtin.zeroCells (.agg #[.int .i64 0, .string ⟨#[]⟩] : Value).cells (n - (i + (n - j)))).toList = Zs at hcl HFIN
  have hWX : Hid (W1 = w.drew.setCells g (0 + i * 2) news) := hW1
  have hic : (i : Int) ≤ (cap : Int) := by omega
  have hjc : (j : Int) ≤ (cap : Int) := by omega
  have hijI : (i : Int) ≤ (j : Int) := by omega
  have hjn : (j : Int) ≤ (n : Int) := by omega
  have hnc : (n : Int) ≤ (cap : Int) := by omega
  have hne : ((i : Int) == (j : Int)) = false := by rw [beq_eq_false_iff_ne]; omega
  have hlc : ((i + (n - j) : Nat) : Int) ≤ (n : Int) := by omega
  have hnecap : ¬ cap = i + (n - j) := by omega
  clear hW1 hO1 hK1 hOd hO h1 hnews hnl hlen
  go_enter Try.func43, Try.ntmps43
  go_wp2_with fail
  go_region_law (refine step_append_room rfl (.tmp 22) (.tmp 25) 24 rfl 31 i0 2 Try.underlying24 hi hz1 g 0 i cap (by simp [Act.eval, Act.put]) ad (n - j) (cap - j) news (by simp [Act.eval, Act.put]) s1.out hsrc.out s2.out (by omega) s3.out ?_; rw [← hWX.out])
  all_goals
    go_wp2
    go_ret
    exact ⟨rfl, HFIN⟩
end Go.Proofs.Ytalbiekleggkoaa
