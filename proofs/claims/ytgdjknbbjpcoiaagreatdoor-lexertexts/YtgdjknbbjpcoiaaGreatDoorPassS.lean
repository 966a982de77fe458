/-
  Newlines in one form: Pass.
-/
import Derived.Test.YtgdjknbbjpcoiaaGreatDoorPassPlainS
namespace Go.Proofs.YtgdjknbbjpcoiaaGreatDoor
open Go.RowKit

theorem set_below {B : Nat} {w : World} {p : Addr} (h : B ≤ p.block) (u : Value) : Below B w (w.setCell p u) := (Below.refl _ _).setCell h u

theorem passS_later {w w1 w2 : World} {lb : Nat} {os : List (Int × Int)} {b : Bool} {vo : Value} (hlb : lb < w.heap.size)
    (hS : w1.ownsRow w.heap.size 121 2 vo os.length (os.flatMap runeC) ∧ w1.cell? ⟨lb, 0, none⟩ = some (.bool b) ∧ w1.frozen? ⟨lb, 0, none⟩ = false ∧ But lb w.heap.size w w1) (hb : Below w1.heap.size w1 w2) :
    w2.ownsRow w.heap.size 121 2 vo os.length (os.flatMap runeC) ∧ w2.cell? ⟨lb, 0, none⟩ = some (.bool b) ∧ w2.frozen? ⟨lb, 0, none⟩ = false ∧ But lb w.heap.size w w2 := by
  have hs := hS.2.2.2.size
  exact ⟨own_below hS.1 hb, (hb.cell (p := ⟨lb, 0, none⟩) (show lb < w1.heap.size by omega)).trans hS.2.1, (hb.frozen (p := ⟨lb, 0, none⟩) (show lb < w1.heap.size by omega)).trans hS.2.2.1, hS.2.2.2.trans (But.of (hb.mono hs))⟩

set_option maxRecDepth 100000 in
set_option maxHeartbeats 4000000 in
theorem pass_some (lb g cap : Nat) (b0 : Bool) (rs : List (Int × Int)) (w : World) (hc0 : w.cell? ⟨lb, 0, none⟩ = some (.bool b0)) (hf0 : w.frozen? ⟨lb, 0, none⟩ = false) (hlb : lb < w.heap.size) (hg : g < w.heap.size) (hne : g ≠ lb) (hlen : rs.length ≤ 1099511627776)
    (hc : ∀ p, (hp : p < rs.length) → w.cell? ⟨g, p * 2, none⟩ = some (.int .i64 rs[p].1) ∧ w.cell? ⟨g, p * 2 + 1, none⟩ = some (.int .i64 rs[p].2)) :
    Calls Tryz.prog 28 #[.pointer (some ⟨lb, 0, none⟩), .slice (some ⟨g, 0, none⟩) rs.length cap] w fun e w' => ∃ vo, e = .returned vo ∧ PassAt w w' lb rs.length rs b0 (passB b0 rs) vo (passR b0 rs) := by
  obtain ⟨i0, hi, hz0, hz1, hz2⟩ := info_parts Tryz.infoRune
  have HC : Hid _ := hc
  have HST : Hid (PassAt w w lb 0 rs b0 b0 (.slice none 0 0) []) := ⟨World.ownsRow_nil _ _ _ _, hc0, hf0, But.refl _ _ _, rfl, rfl, Nat.le_refl _⟩
  clear hc hc0 hf0
  go_enter Tryz.func28, Tryz.ntmps28
  go_wp2
  go_loopw [5, 15] (fun o i wr => ∃ (k : Nat) (b : Bool) (os : List (Int × Int)), k ≤ rs.length ∧ i = .int .i64 k ∧ PassAt w wr lb k rs b0 b o os) (fun _ i _ => rs.length - (intOf i).toNat)
  case atStart => exact ⟨0, b0, [], Nat.zero_le _, rfl, HST.out⟩
  case round =>
    clear HST
    obtain ⟨k, b, os, hk, rfl, hP⟩ := hrel
    have HP : Hid _ := hP
    by_cases hlt : k < rs.length
    · have hcell : ∀ j, wr.cell? ⟨g, j, none⟩ = w.cell? ⟨g, j, none⟩ := fun j => World.cell?_of_block (hP.but.block g hg hne)
      have c0 := (hcell (k * 2)).trans (HC.out k hlt).1
      have c1 := (hcell (k * 2 + 1)).trans (HC.out k hlt).2
      have t0 := hP.c
      have tf := hP.f
      have hsz := hP.but.size
      obtain ⟨v, hv⟩ : ∃ v, rs[k].1 = v := ⟨_, rfl⟩
      obtain ⟨a, ha⟩ : ∃ a, rs[k].2 = a := ⟨_, rfl⟩
      rw [hv] at c0
      rw [ha] at c1
      have HV : Hid (rs[k] = (v, a)) := by show _ = _; rw [← hv, ← ha]
      have hlbr : lb < wr.heap.size := by omega
      have HLT : Hid (∀ q, u5.ownBlock = some q → q < wr.heap.size) := fun q hq => (hP.own.lt q hq).2
      have HL : Hid (os.length ≤ k) := hP.len
      clear hcell hv ha hP
      by_cases h13 : v = 13
      · have hb13 : (v == 13) = true := by simpa using h13
        have hb10 : (v == 10) = false := beq_false_of_ne (by omega)
        have HB3 : Hid ((v == 13) = true) := hb13
        have H13 : Hid (v = 13) := h13
        clear h13
        go_upto_region 9 with fail
        have hS0 := HP.out.seen (b' := true) (Below.refl _ wr) hlb
        have hzz : (wr.setCell ⟨lb, 0, none⟩ (.bool true)).heap.size = wr.heap.size := by simp [World.setCell]
        generalize wr.setCell ⟨lb, 0, none⟩ (.bool true) = wy at hS0 hzz ⊢
        have hS1 := passS_later hlb hS0 ((Below.refl _ wy).alloc (Nat.le_refl _) (.cells #[.int .i64 v, .int .i64 a] 121))
        have r0 : (wy.alloc (.cells #[.int .i64 v, .int .i64 a] 121)).cell? ⟨wr.heap.size, 0, none⟩ = some (.int .i64 v) := World.cell?_alloc_at _ _ _ _ hzz.symm
        have r1 : (wy.alloc (.cells #[.int .i64 v, .int .i64 a] 121)).cell? ⟨wr.heap.size, 1, none⟩ = some (.int .i64 a) := World.cell?_alloc_at _ _ _ _ hzz.symm
        have rf : ∀ j, (wy.alloc (.cells #[.int .i64 v, .int .i64 a] 121)).frozen? ⟨wr.heap.size, j, none⟩ = false := fun j => World.frozen?_alloc_at _ _ _ _ hzz.symm
        have hz1' : (wy.alloc (.cells #[.int .i64 v, .int .i64 a] 121)).heap.size = wr.heap.size + 1 := by simp [hzz]
        clear hS0
        revert hS1 r0 r1 rf hz1'
        generalize wy.alloc (.cells #[.int .i64 v, .int .i64 a] 121) = w1
        intro hS1 r0 r1 rf hz1'
        have HS1 : Hid _ := hS1
        have t1 := hS1.2.1
        clear hS1 hzz t0 tf c0 c1
        cases b
        all_goals
          go_upto_region 12 with fail
          have hS2 : (w1.setCell ⟨wr.heap.size, 0, none⟩ (.int .i64 10)).ownsRow w.heap.size 121 2 u5 os.length (os.flatMap runeC) ∧ (w1.setCell ⟨wr.heap.size, 0, none⟩ (.int .i64 10)).cell? ⟨lb, 0, none⟩ = some (.bool true) ∧ (w1.setCell ⟨wr.heap.size, 0, none⟩ (.int .i64 10)).frozen? ⟨lb, 0, none⟩ = false ∧ But lb w.heap.size w (w1.setCell ⟨wr.heap.size, 0, none⟩ (.int .i64 10)) := by
            have hB : Below w.heap.size w1 (w1.setCell ⟨wr.heap.size, 0, none⟩ (.int .i64 10)) := set_below hsz _
            refine ⟨ownsRow_setCell_other HS1.out.1 (fun e => ?_) _, (hB.cell (p := ⟨lb, 0, none⟩) hlb).trans HS1.out.2.1, (hB.frozen (p := ⟨lb, 0, none⟩) hlb).trans HS1.out.2.2.1, HS1.out.2.2.2.trans (But.of hB)⟩
            have := HLT.out _ e
            exact Nat.lt_irrefl _ this
          have q0 : (w1.setCell ⟨wr.heap.size, 0, none⟩ (.int .i64 10)).cell? ⟨wr.heap.size, 0, none⟩ = some (.int .i64 10) := World.cell?_setCell_same _ _ _ r0
          have q1 : (w1.setCell ⟨wr.heap.size, 0, none⟩ (.int .i64 10)).cell? ⟨wr.heap.size, 1, none⟩ = some (.int .i64 a) := (World.cell?_setCell_other w1 _ _ _ (by intro e; injection e with _ e _; cases e)).trans r1
          have hzw : (w1.setCell ⟨wr.heap.size, 0, none⟩ (.int .i64 10)).heap.size = wr.heap.size + 1 := by simp [World.setCell, hz1']
          clear r0 r1 rf t1 hz1' HS1
          revert hS2 q0 q1 hzw
          generalize w1.setCell ⟨wr.heap.size, 0, none⟩ (.int .i64 10) = w2
          intro hS2 q0 q1 hzw
          have HS : Hid _ := hS2
          have HBL : Hid (∀ o, Below w2.heap.size w2 (w2.alloc o)) := fun o => (Below.refl _ _).alloc (Nat.le_refl _) o
          clear hS2 hzw
          go_wp2_with (at_builtin; refine wpList_append_own _ rfl _ _ 60 rfl w.heap.size 121 i0 (.agg #[.int .i64 0, .int .i64 0]) 2 16 Tryz.underlying60 hi hz0 hz1 hz2 rfl (by decide) _ _ _ rfl (own_below HS.out.1 (HBL.out _)) ⟨w2.heap.size, 0, none⟩ 1 1 (runeC (10, a)) rfl rfl (news_cells _ #[.int .i64 10, .int .i64 a] _ _ rfl) (by intro u hu; simp [runeC] at hu; rcases hu with rfl | rfl <;> rfl) (by have := HL.out; unfold maxLen; omega) (by have := HL.out; omega) (by have := HS.out.2.2.2.size; simp; omega) ?_)
          intro v' w' hown' hgrow _
          obtain ⟨⟨g', cap', rfl⟩, HN⟩ : (∃ g cap, v' = .slice (some ⟨g, 0, none⟩) (os.length + 1) cap) ∧ Hid (PassAt w w' lb (k + 1) rs b0 true v' (os ++ [(10, a)])) :=
            ⟨Joins.ownsRow_form hown' (by omega), HP.out.add hlt hlb (by rw [HV.out]; exact HB3.out) (by rw [HV.out]; exact (by rw [H13.out]; simp [passOne])) HS.out ((HBL.out _).mono HS.out.2.2.2.size) hown' hgrow⟩
          clear hown' hgrow
          go_wp2
          go_roundw
          case rel => exact ⟨k + 1, _, _, by omega, by go_num, HN.out⟩
          case measure => simp [intOf]; omega
      · have hb13 : (v == 13) = false := beq_false_of_ne h13
        have HB3 : Hid ((v == 13) = false) := hb13
        have H13 : Hid (¬ v = 13) := h13
        clear h13
        go_upto_region 9 with fail
        have hS0 := HP.out.seen (b' := false) (Below.refl _ wr) hlb
        have hzz : (wr.setCell ⟨lb, 0, none⟩ (.bool false)).heap.size = wr.heap.size := by simp [World.setCell]
        generalize wr.setCell ⟨lb, 0, none⟩ (.bool false) = wy at hS0 hzz ⊢
        have hS1 := passS_later hlb hS0 ((Below.refl _ wy).alloc (Nat.le_refl _) (.cells #[.int .i64 v, .int .i64 a] 121))
        have r0 : (wy.alloc (.cells #[.int .i64 v, .int .i64 a] 121)).cell? ⟨wr.heap.size, 0, none⟩ = some (.int .i64 v) := World.cell?_alloc_at _ _ _ _ hzz.symm
        have r1 : (wy.alloc (.cells #[.int .i64 v, .int .i64 a] 121)).cell? ⟨wr.heap.size, 1, none⟩ = some (.int .i64 a) := World.cell?_alloc_at _ _ _ _ hzz.symm
        have hzw : (wy.alloc (.cells #[.int .i64 v, .int .i64 a] 121)).heap.size = wr.heap.size + 1 := by simp [hzz]
        clear hS0
        revert hS1 r0 r1 hzw
        generalize wy.alloc (.cells #[.int .i64 v, .int .i64 a] 121) = w2
        intro hS1 r0 r1 hzw
        have HS : Hid _ := hS1
        have t1 := hS1.2.1
        have HBL : Hid (∀ o, Below w2.heap.size w2 (w2.alloc o)) := fun o => (Below.refl _ _).alloc (Nat.le_refl _) o
        clear hS1 hzz t0 tf c0 c1 hzw
        by_cases h10 : v = 10
        · have hb10 : (v == 10) = true := by simpa using h10
          have HB10 : Hid ((v == 10) = true) := hb10
          clear h10
          cases b with
          | false =>
            go_wp2_with (at_builtin; refine wpList_append_own _ rfl _ _ 60 rfl w.heap.size 121 i0 (.agg #[.int .i64 0, .int .i64 0]) 2 16 Tryz.underlying60 hi hz0 hz1 hz2 rfl (by decide) _ _ _ rfl (own_below HS.out.1 (HBL.out _)) ⟨w2.heap.size, 0, none⟩ 1 1 (runeC (v, a)) rfl rfl (news_cells _ #[.int .i64 v, .int .i64 a] _ _ rfl) (by intro u hu; simp [runeC] at hu; rcases hu with rfl | rfl <;> rfl) (by have := HL.out; unfold maxLen; omega) (by have := HL.out; omega) (by have := HS.out.2.2.2.size; simp; omega) ?_)
            intro v' w' hown' hgrow _
            obtain ⟨⟨g', cap', rfl⟩, HN⟩ : (∃ g cap, v' = .slice (some ⟨g, 0, none⟩) (os.length + 1) cap) ∧ Hid (PassAt w w' lb (k + 1) rs b0 false v' (os ++ [(v, a)])) :=
              ⟨Joins.ownsRow_form hown' (by omega), HP.out.add hlt hlb (by rw [HV.out]; exact HB3.out) (by rw [HV.out]; exact (by simp [passOne, H13.out])) HS.out ((HBL.out _).mono HS.out.2.2.2.size) hown' hgrow⟩
            clear hown' hgrow
            go_wp2
            go_roundw
            case rel => exact ⟨k + 1, _, _, by omega, by go_num, HN.out⟩
            case measure => simp [intOf]; omega
          | true =>
            have HN : Hid (PassAt w w2 lb (k + 1) rs b0 false u5 os) := HP.out.skip hlt (by rw [HV.out]; exact HB3.out) (by rw [HV.out]; simp [passOne, HB10.out]) HS.out
            clear t1
            go_wp2
            go_roundw
            case rel => exact ⟨k + 1, _, _, by omega, by go_num, HN.out⟩
            case measure => simp [intOf]; omega
        · have hb10 : (v == 10) = false := beq_false_of_ne h10
          have HB10 : Hid ((v == 10) = false) := hb10
          clear h10
          cases b
          all_goals
            go_wp2_with (at_builtin; refine wpList_append_own _ rfl _ _ 60 rfl w.heap.size 121 i0 (.agg #[.int .i64 0, .int .i64 0]) 2 16 Tryz.underlying60 hi hz0 hz1 hz2 rfl (by decide) _ _ _ rfl (own_below HS.out.1 (HBL.out _)) ⟨w2.heap.size, 0, none⟩ 1 1 (runeC (v, a)) rfl rfl (news_cells _ #[.int .i64 v, .int .i64 a] _ _ rfl) (by intro u hu; simp [runeC] at hu; rcases hu with rfl | rfl <;> rfl) (by have := HL.out; unfold maxLen; omega) (by have := HL.out; omega) (by have := HS.out.2.2.2.size; simp; omega) ?_)
            intro v' w' hown' hgrow _
            obtain ⟨⟨g', cap', rfl⟩, HN⟩ : (∃ g cap, v' = .slice (some ⟨g, 0, none⟩) (os.length + 1) cap) ∧ Hid (PassAt w w' lb (k + 1) rs b0 false v' (os ++ [(v, a)])) :=
              ⟨Joins.ownsRow_form hown' (by omega), HP.out.add hlt hlb (by rw [HV.out]; exact HB3.out) (by rw [HV.out]; exact (by simp [passOne, H13.out, HB10.out])) HS.out ((HBL.out _).mono HS.out.2.2.2.size) hown' hgrow⟩
            clear hown' hgrow
            go_wp2
            go_roundw
            case rel => exact ⟨k + 1, _, _, by omega, by go_num, HN.out⟩
            case measure => simp [intOf]; omega
    · have hfin : k = rs.length := by omega
      subst hfin
      have HE : Hid (PassAt w wr lb rs.length rs b0 (passB b0 rs) u5 (passR b0 rs)) := by
        have e : rs.drop rs.length = [] := List.drop_length
        have h1 := hP.eo
        have h2 := hP.eb
        rw [e] at h1 h2
        simp only [passR, passB, List.append_nil] at h1 h2
        rw [h1, h2]
        exact hP
      obtain ⟨ao, co, ho⟩ := own_head hP.own
      clear hP HP
      go_wp2
      rw [ho] at HE ⊢
      go_ret
      exact ⟨_, rfl, HE.out⟩
end Go.Proofs.YtgdjknbbjpcoiaaGreatDoor
