/-
  The reference's Lines, the law's same and parts.
-/
import Derived.Test.YtjfbogjpmieogaaDoorDpDecW
import Derived.Test.YtjfbogjpmieogaaDoorRows2
namespace Go.Proofs.YtjfbogjpmieogaaDoor
open Go.RowKit

theorem rune3_at (rs : List (Int × Int × Bool)) (p : Nat) (hp : p < rs.length) : (rs.flatMap runeC3)[p * 3]? = some (.int .i64 rs[p].1) ∧ (rs.flatMap runeC3)[p * 3 + 1]? = some (.int .i64 rs[p].2.1) ∧ (rs.flatMap runeC3)[p * 3 + 2]? = some (.bool rs[p].2.2) := by
  induction rs generalizing p with
  | nil => simp at hp
  | cons r rs ih =>
    match p, hp with
    | 0, _ => simp [runeC3]
    | p + 1, hp =>
      have := ih p (by simpa using hp)
      simp only [List.flatMap_cons, runeC3]
      rw [show (p + 1) * 3 = p * 3 + 3 by omega, show p * 3 + 3 + 1 = p * 3 + 1 + 3 by omega, show p * 3 + 3 + 2 = p * 3 + 2 + 3 by omega]
      simpa using this

/-- Scalars of the reference, where they lie. -/
structure At3 (w : World) (a : Option Addr) (rs : List (Int × Int × Bool)) : Prop where
  out : ∀ p, (hp : p < rs.length) → ∃ g, a = some ⟨g, 0, none⟩ ∧ w.cell? ⟨g, p * 3, none⟩ = some (.int .i64 rs[p].1) ∧ w.cell? ⟨g, p * 3 + 1, none⟩ = some (.int .i64 rs[p].2.1) ∧ w.cell? ⟨g, p * 3 + 2, none⟩ = some (.bool rs[p].2.2)
structure At2 (w : World) (a : Option Addr) (rs : List (Int × Int)) : Prop where
  out : ∀ p, (hp : p < rs.length) → ∃ g, a = some ⟨g, 0, none⟩ ∧ w.cell? ⟨g, p * 2, none⟩ = some (.int .i64 rs[p].1) ∧ w.cell? ⟨g, p * 2 + 1, none⟩ = some (.int .i64 rs[p].2)

theorem cell_later2 {w w' : World} {a : Addr} {v : Value} (h : w.cell? a = some v) (hb : Below w.heap.size w w') : w'.cell? a = some v :=
  (hb.cell (p := a) (World.block_lt_of_cell? w _ h)).trans h
theorem At3.later {w w' : World} {a : Option Addr} {rs : List (Int × Int × Bool)} (h : At3 w a rs) (hb : Below w.heap.size w w') : At3 w' a rs := ⟨fun p hp => by
  obtain ⟨g, e, h1, h2, h3⟩ := h.out p hp
  exact ⟨g, e, cell_later2 h1 hb, cell_later2 h2 hb, cell_later2 h3 hb⟩⟩
theorem At2.later {w w' : World} {a : Option Addr} {rs : List (Int × Int)} (h : At2 w a rs) (hb : Below w.heap.size w w') : At2 w' a rs := ⟨fun p hp => by
  obtain ⟨g, e, h1, h2⟩ := h.out p hp
  exact ⟨g, e, cell_later2 h1 hb, cell_later2 h2 hb⟩⟩

theorem own_at3 {w : World} {base : Nat} {e : TypeId} {v : Value} {rs : List (Int × Int × Bool)} (h : w.ownsRow base e 3 v rs.length (rs.flatMap runeC3)) : ∃ a cap, v = .slice a rs.length cap ∧ At3 w a rs := by
  rcases h.2 with ⟨rfl, h0⟩ | ⟨g, cap, cur, rfl, hg, hh, hnc, hcm, hcs, htk⟩
  · exact ⟨none, 0, by rw [h0], ⟨fun p hp => by omega⟩⟩
  · refine ⟨_, cap, rfl, ⟨fun p hp => ⟨g, rfl, ?_⟩⟩⟩
    have hr := rune3_at rs p hp
    rw [← htk] at hr
    rw [List.getElem?_take, if_pos (by omega), List.getElem?_take, if_pos (by omega), List.getElem?_take, if_pos (by omega)] at hr
    simp only [World.cell?, hh]
    simpa using hr
theorem own_at2 {w : World} {base : Nat} {e : TypeId} {v : Value} {rs : List (Int × Int)} (h : w.ownsRow base e 2 v rs.length (rs.flatMap runeC)) : ∃ a cap, v = .slice a rs.length cap ∧ At2 w a rs := by
  rcases Nat.eq_zero_or_pos rs.length with h0 | hpos
  · obtain ⟨a, cap, rfl⟩ := own_head h
    exact ⟨a, cap, rfl, ⟨fun p hp => by omega⟩⟩
  · obtain ⟨g, cap, rfl, hcap, hg, hgl, hc⟩ := own_runes h hpos
    refine ⟨_, cap, rfl, ⟨fun p hp => ⟨g, rfl, ?_⟩⟩⟩
    have := hc p hp
    rwa [Nat.mul_comm] at this

set_option maxRecDepth 100000 in
set_option maxHeartbeats 4000000 in
theorem same_any (a b : Option Addr) (ca cb : Nat) (rs : List (Int × Int)) (ws : List (Int × Int × Bool)) (w : World) (hA : At2 w a rs) (hB : At3 w b ws) (he : runes3 ws = rs) (hn : rs.length ≤ 1099511627776) :
    Calls Tryd.prog 19 #[.slice a rs.length ca, .slice b ws.length cb] w fun e w' => e = .returned (.bool true) ∧ Below w.heap.size w w' := by
  have hl : ws.length = rs.length := by rw [← he]; simp [runes3]
  have HA : Hid _ := hA
  have HB : Hid _ := hB
  have HE : Hid (∀ p, (h : p < rs.length) → (h' : p < ws.length) → ws[p].1 = rs[p].1 ∧ ws[p].2.1 = rs[p].2) := fun p h h' => by
    subst he
    simp [runes3]
  rw [hl]
  have HL : Hid (ws.length = rs.length) := hl
  have hnI : (rs.length : Int) ≤ 1099511627776 := by omega
  clear hA hB he hl
  go_enter Tryd.func19, Tryd.ntmps19
  go_wp2
  go_loopw [5] (fun i wr => ∃ j q : Nat, j ≤ rs.length ∧ i = .int .i64 j ∧ wr = w.drewN q) (fun i _ => rs.length - (intOf i).toNat)
  case atStart => exact ⟨0, 0, by omega, rfl, rfl⟩
  case round =>
    obtain ⟨t, q, ht, rfl, rfl⟩ := hrel
    by_cases htl : t < rs.length
    · obtain ⟨g1, rfl, k1, k2⟩ := HA.out.out t htl
      obtain ⟨g2, rfl, k3, k4, _⟩ := HB.out.out t (by rw [HL.out]; exact htl)
      obtain ⟨x1, x2⟩ := HE.out t htl (by rw [HL.out]; exact htl)
      rw [x1] at k3
      rw [x2] at k4
      generalize rs[t].1 = y1 at k1 k3
      generalize rs[t].2 = y2 at k2 k4
      have htI : (t : Int) < (rs.length : Int) := by omega
      clear x1 x2
      go_wp2_with fail
      go_quiet (fail)
      go_wp2
      go_roundw
      case rel => exact ⟨t + 1, q + nq, by omega, by go_num, by simp⟩
      case measure => simp only [intOf]; go_num
    · go_wp2
      go_ret
      exact ⟨rfl, drewN_below (Below.refl _ _) _⟩

/-- Was the last one a carriage return? -/
theorem passB_take (rs : List (Int × Int)) : ∀ (k : Nat) (b : Bool), (hk : k < rs.length) → passB b (rs.take (k + 1)) = (rs[k].1 == 13) := by
  induction rs with
  | nil => intro k b hk; simp at hk
  | cons r rs ih =>
    intro k b hk
    cases k with
    | zero => simp [passB]
    | succ k =>
      rw [List.take_succ_cons]
      simp only [passB]
      exact ih k _ (by simpa using hk)

structure LinesAt (w wr : World) (k : Nat) (ws : List (Int × Int × Bool)) (v : Value) (os : List (Int × Int × Bool)) : Prop where
  own : wr.ownsRow w.heap.size 53 3 v os.length (os.flatMap runeC3)
  len : os.length ≤ k
  eq : runes3 os = passR false ((runes3 ws).take k)
  below : Below w.heap.size w wr

theorem runes3_get (ws : List (Int × Int × Bool)) (k : Nat) (hk : k < ws.length) : (runes3 ws)[k]'(by simpa [runes3] using hk) = (ws[k].1, ws[k].2.1) := by simp [runes3]
theorem pass_next (ws : List (Int × Int × Bool)) (k : Nat) (hk : k < ws.length) : passR false ((runes3 ws).take (k + 1)) = passR false ((runes3 ws).take k) ++ passOne (passB false ((runes3 ws).take k)) (ws[k].1, ws[k].2.1) := by
  have hl : k < (runes3 ws).length := by simpa [runes3] using hk
  rw [List.take_succ_eq_append_getElem hl, passR_append, runes3_get ws k hk]
  simp [passR]

theorem LinesAt.skip {w wr w1 : World} {k : Nat} {ws os : List (Int × Int × Bool)} {v : Value} (h : LinesAt w wr k ws v os) (hk : k < ws.length) (h01 : Below wr.heap.size wr w1) (hone : passOne (passB false ((runes3 ws).take k)) (ws[k].1, ws[k].2.1) = []) : LinesAt w w1 (k + 1) ws v os :=
  ⟨own_below h.own h01, by have := h.len; omega, by rw [h.eq, pass_next ws k hk, hone, List.append_nil], h.below.trans (h01.mono h.below.size)⟩
theorem LinesAt.next {w wr w1 w' : World} {k : Nat} {ws os : List (Int × Int × Bool)} {v v' : Value} {r : Int × Int × Bool} (h : LinesAt w wr k ws v os) (hk : k < ws.length) (h01 : Below wr.heap.size wr w1)
    (hone : passOne (passB false ((runes3 ws).take k)) (ws[k].1, ws[k].2.1) = [(r.1, r.2.1)]) (hown' : w'.ownsRow w.heap.size 53 3 v' (os.length + 1) (os.flatMap runeC3 ++ runeC3 r)) (hgrow : w1.grownBy w' v.ownBlock) : LinesAt w w' (k + 1) ws v' (os ++ [r]) := by
  have hs := h.below.size
  refine ⟨by simpa using hown', by have := h.len; simp; omega, ?_, (h.below.trans (h01.mono hs)).grown hgrow (Nat.le_trans hs h01.size) (own_block_ge h.own)⟩
  rw [pass_next ws k hk, hone, ← h.eq]
  simp [runes3]

set_option maxRecDepth 100000 in
set_option maxHeartbeats 8000000 in
theorem rLines_any (a : Option Addr) (ca : Nat) (ws : List (Int × Int × Bool)) (w : World) (hA : At3 w a ws) (hn : ws.length ≤ 1048576) :
    Calls Tryd.prog 20 #[.slice a ws.length ca] w fun e w' => ∃ v os, e = .returned v ∧ w'.ownsRow w.heap.size 53 3 v os.length (os.flatMap runeC3) ∧ runes3 os = passR false (runes3 ws) ∧ Below w.heap.size w w' := by
  obtain ⟨i0, hi, hy0, hy1, hy2⟩ := info_parts Tryd.infoRune3
  have HA : Hid _ := hA
  have hnI : (ws.length : Int) ≤ 1048576 := by omega
  clear hA
  go_enter Tryd.func20, Tryd.ntmps20
  go_wp2
  go_loopw [3, 4, 5] (fun o i _ wr => ∃ (k : Nat) (os : List (Int × Int × Bool)), k ≤ ws.length ∧ i = .int .i64 (k : Int) ∧ LinesAt w wr k ws o os) (fun _ i _ _ => ws.length - (intOf i).toNat)
  case atStart => exact ⟨0, [], Nat.zero_le _, rfl, ⟨World.ownsRow_nil _ _ _ _, by simp, rfl, Below.refl _ _⟩⟩
  case round =>
    obtain ⟨k, os, hk, rfl, hR⟩ := hrel
    have HR : Hid _ := hR
    have hsz := hR.below.size
    have HLN : Hid (os.length ≤ 1048576) := by show _ ≤ _; have := hR.len; omega
    obtain ⟨va, vcap, hve⟩ := own_head hR.own
    subst hve
    clear hR
    by_cases hlt : k < ws.length
    · obtain ⟨g, rfl, y0, y1, y2⟩ := (HA.out.later HR.out.below).out k hlt
      have hkI : (k : Int) < (ws.length : Int) := by omega
      obtain ⟨v0, hv0⟩ : ∃ x, ws[k].1 = x := ⟨_, rfl⟩
      obtain ⟨v1, hv1⟩ : ∃ x, ws[k].2.1 = x := ⟨_, rfl⟩
      obtain ⟨bd, hbd⟩ : ∃ x, ws[k].2.2 = x := ⟨_, rfl⟩
      rw [hv0] at y0
      rw [hv1] at y1
      rw [hbd] at y2
      obtain ⟨B, hB⟩ : ∃ B, passB false ((runes3 ws).take k) = B := ⟨_, rfl⟩
      have HBL : Hid (∀ o, Below wr.heap.size wr (wr.alloc o)) := fun o => (Below.refl _ _).alloc (Nat.le_refl _) o
      have HSK : Hid (∀ w1, Below wr.heap.size wr w1 → passOne B (v0, v1) = [] → LinesAt w w1 (k + 1) ws (.slice va os.length vcap) os) := fun w1 hb h => HR.out.skip hlt hb (by rw [hB, hv0, hv1]; exact h)
      have HNX : Hid (∀ w1 w' v' r, Below wr.heap.size wr w1 → passOne B (v0, v1) = [(r.1, r.2.1)] → w'.ownsRow w.heap.size 53 3 v' (os.length + 1) (os.flatMap runeC3 ++ runeC3 r) → w1.grownBy w' (Value.slice va os.length vcap).ownBlock → LinesAt w w' (k + 1) ws v' (os ++ [r])) := fun w1 w' v' r hb h => HR.out.next hlt hb (by rw [hB, hv0, hv1]; exact h)
      have HO : Hid _ := HR.out.own
      have hprev : (k = 0 ∧ B = false) ∨ (0 < k ∧ ∃ pv, wr.cell? ⟨g, (k - 1) * 3, none⟩ = some (.int .i64 pv) ∧ B = (pv == 13)) := by
        rcases Nat.eq_zero_or_pos k with h0 | h0
        · left
          refine ⟨h0, ?_⟩
          rw [← hB, h0]
          rfl
        · right
          obtain ⟨g', e, z0, _, _⟩ := (HA.out.later HR.out.below).out (k - 1) (by omega)
          obtain rfl : g = g' := by injection e with e; injection e with e _ _
          refine ⟨h0, _, z0, ?_⟩
          rw [← hB]
          have := passB_take (runes3 ws) (k - 1) false (by simp [runes3]; omega)
          rw [show k - 1 + 1 = k by omega] at this
          rw [this, runes3_get ws (k - 1) (by omega)]
      clear hv0 hv1 hbd hB HR
      by_cases h10 : v0 = 10
      · subst h10
        rcases hprev with ⟨h0, rfl⟩ | ⟨h0, pv, cp, hBp⟩
        · have HP : Hid (passOne false ((10 : Int), v1) = [(10, v1)]) := rfl
          subst h0
          have z0 : wr.cell? ⟨g, 0, none⟩ = some (.int .i64 10) := by simpa using y0
          have z1 : wr.cell? ⟨g, 1, none⟩ = some (.int .i64 v1) := by simpa using y1
          have z2 : wr.cell? ⟨g, 2, none⟩ = some (.bool bd) := by simpa using y2
          clear HSK y0 y1 y2
          have HBL2 : Hid (∀ o o', Below wr.heap.size wr ((wr.alloc o).alloc o')) := fun o o' => (HBL.out o).alloc (by simp) o'
          go_wp2_with (at_builtin; refine wpList_append_own _ rfl _ _ 50 rfl w.heap.size 53 i0 (.agg #[.int .i64 0, .int .i64 0, .bool false]) 3 24 Tryd.underlying50 hi hy0 hy1 hy2 rfl (by decide) _ _ _ rfl (own_below HO.out (HBL2.out _ _)) ⟨wr.heap.size + 1, 0, none⟩ 1 1 (runeC3 (10, v1, bd)) rfl rfl (news_cells _ #[.int .i64 10, .int .i64 v1, .bool bd] _ _ (by simp)) (by intro u hu; simp [runeC3] at hu; rcases hu with rfl | rfl | rfl <;> rfl) (by have := HLN.out; unfold maxLen; omega) (by have := HLN.out; omega) (by simp; omega) ?_)
          intro v' w3 hown hgrow _
          obtain ⟨⟨g', cap, rfl⟩, HN⟩ : (∃ g cap, v' = .slice (some ⟨g, 0, none⟩) (os.length + 1) cap) ∧ Hid (LinesAt w w3 (0 + 1) ws v' (os ++ [(10, v1, bd)])) := ⟨Joins.ownsRow_form hown (by omega), HNX.out _ _ _ (10, v1, bd) (HBL2.out _ _) (HP.out) hown hgrow⟩
          clear hown hgrow HBL HBL2 HNX HO
          go_wp2
          go_roundw
          case rel => exact ⟨0 + 1, _, hlt, by go_num, HN.out⟩
          case measure => simp [intOf]; omega
        · obtain ⟨kp, hkp⟩ : ∃ kp, k = kp + 1 := ⟨k - 1, by omega⟩
          have hk0 : (0 : Int) < (k : Int) := by omega
          have hk1 : (k : Int) - 1 = (kp : Int) := by omega
          have hkl : (kp : Int) < (ws.length : Int) := by omega
          rw [show k - 1 = kp by omega] at cp
          have cp2 : ∀ o, (wr.alloc o).cell? ⟨g, kp * 3, none⟩ = some (.int .i64 pv) := fun o => cell_later2 cp (HBL.out o)
          by_cases h13 : pv = 13
          · subst h13
            have HN : Hid (∀ o, LinesAt w (wr.alloc o) (k + 1) ws (.slice va os.length vcap) os) := fun o => HSK.out _ (HBL.out o) (by rw [hBp]; rfl)
            clear HSK HNX HO hBp HBL hkp
            go_wp2
            go_roundw
            case rel => exact ⟨k + 1, _, hlt, by go_num, HN.out _⟩
            case measure => simp [intOf]; omega
          · have hpb : (pv == 13) = false := by simpa using h13
            have HP : Hid (passOne B ((10 : Int), v1) = [(10, v1)]) := by
              show _ = _
              rw [hBp, hpb]
              rfl
            clear HSK hBp h13 hkp
            have HBL2 : Hid (∀ o o', Below wr.heap.size wr ((wr.alloc o).alloc o')) := fun o o' => (HBL.out o).alloc (by simp) o'
            go_wp2_with (at_builtin; refine wpList_append_own _ rfl _ _ 50 rfl w.heap.size 53 i0 (.agg #[.int .i64 0, .int .i64 0, .bool false]) 3 24 Tryd.underlying50 hi hy0 hy1 hy2 rfl (by decide) _ _ _ rfl (own_below HO.out (HBL2.out _ _)) ⟨wr.heap.size + 1, 0, none⟩ 1 1 (runeC3 (10, v1, bd)) rfl rfl (news_cells _ #[.int .i64 10, .int .i64 v1, .bool bd] _ _ (by simp)) (by intro u hu; simp [runeC3] at hu; rcases hu with rfl | rfl | rfl <;> rfl) (by have := HLN.out; unfold maxLen; omega) (by have := HLN.out; omega) (by simp; omega) ?_)
            intro v' w3 hown hgrow _
            obtain ⟨⟨g', cap, rfl⟩, HN⟩ : (∃ g cap, v' = .slice (some ⟨g, 0, none⟩) (os.length + 1) cap) ∧ Hid (LinesAt w w3 (k + 1) ws v' (os ++ [(10, v1, bd)])) := ⟨Joins.ownsRow_form hown (by omega), HNX.out _ _ _ (10, v1, bd) (HBL2.out _ _) (HP.out) hown hgrow⟩
            clear hown hgrow HBL HBL2 HNX HO
            go_wp2
            go_roundw
            case rel => exact ⟨k + 1, _, hlt, by go_num, HN.out⟩
            case measure => simp [intOf]; omega
      · have h10b : (v0 == 10) = false := by simpa using h10
        clear hprev HSK
        by_cases h13 : v0 = 13
        · subst h13
          have HP : Hid (passOne B ((13 : Int), v1) = [(10, v1)]) := by
            show _ = _
            simp [passOne]
          clear h10
          have HBL2 : Hid (∀ o o', Below wr.heap.size wr ((wr.alloc o).alloc o')) := fun o o' => (HBL.out o).alloc (by simp) o'
          go_wp2_with (at_builtin; refine wpList_append_own _ rfl _ _ 50 rfl w.heap.size 53 i0 (.agg #[.int .i64 0, .int .i64 0, .bool false]) 3 24 Tryd.underlying50 hi hy0 hy1 hy2 rfl (by decide) _ _ _ rfl (own_below HO.out (HBL2.out _ _)) ⟨wr.heap.size + 1, 0, none⟩ 1 1 (runeC3 (10, v1, bd)) rfl rfl (news_cells _ #[.int .i64 10, .int .i64 v1, .bool bd] _ _ (by simp)) (by intro u hu; simp [runeC3] at hu; rcases hu with rfl | rfl | rfl <;> rfl) (by have := HLN.out; unfold maxLen; omega) (by have := HLN.out; omega) (by simp; omega) ?_)
          intro v' w3 hown hgrow _
          obtain ⟨⟨g', cap, rfl⟩, HN⟩ : (∃ g cap, v' = .slice (some ⟨g, 0, none⟩) (os.length + 1) cap) ∧ Hid (LinesAt w w3 (k + 1) ws v' (os ++ [(10, v1, bd)])) := ⟨Joins.ownsRow_form hown (by omega), HNX.out _ _ _ (10, v1, bd) (HBL2.out _ _) (HP.out) hown hgrow⟩
          clear hown hgrow HBL HBL2 HNX HO
          go_wp2
          go_roundw
          case rel => exact ⟨k + 1, _, hlt, by go_num, HN.out⟩
          case measure => simp [intOf]; omega
        · have h13b : (v0 == 13) = false := by simpa using h13
          have HP : Hid (passOne B (v0, v1) = [(v0, v1)]) := by
            show _ = _
            simp [passOne, h10, h13]
          clear h10 h13
          have HBL2 : Hid (∀ o o', Below wr.heap.size wr ((wr.alloc o).alloc o')) := fun o o' => (HBL.out o).alloc (by simp) o'
          go_wp2_with (at_builtin; refine wpList_append_own _ rfl _ _ 50 rfl w.heap.size 53 i0 (.agg #[.int .i64 0, .int .i64 0, .bool false]) 3 24 Tryd.underlying50 hi hy0 hy1 hy2 rfl (by decide) _ _ _ rfl (own_below HO.out (HBL2.out _ _)) ⟨wr.heap.size + 1, 0, none⟩ 1 1 (runeC3 (v0, v1, bd)) rfl rfl (news_cells _ #[.int .i64 v0, .int .i64 v1, .bool bd] _ _ (by simp)) (by intro u hu; simp [runeC3] at hu; rcases hu with rfl | rfl | rfl <;> rfl) (by have := HLN.out; unfold maxLen; omega) (by have := HLN.out; omega) (by simp; omega) ?_)
          intro v' w3 hown hgrow _
          obtain ⟨⟨g', cap, rfl⟩, HN⟩ : (∃ g cap, v' = .slice (some ⟨g, 0, none⟩) (os.length + 1) cap) ∧ Hid (LinesAt w w3 (k + 1) ws v' (os ++ [(v0, v1, bd)])) := ⟨Joins.ownsRow_form hown (by omega), HNX.out _ _ _ (v0, v1, bd) (HBL2.out _ _) (HP.out) hown hgrow⟩
          clear hown hgrow HBL HBL2 HNX HO
          go_wp2
          go_roundw
          case rel => exact ⟨k + 1, _, hlt, by go_num, HN.out⟩
          case measure => simp [intOf]; omega
    · have hkz : k = ws.length := by omega
      subst hkz
      have he := HR.out.eq
      rw [List.take_of_length_le (by simp [runes3])] at he
      have HE : Hid _ := he
      clear hlt hk he
      go_wp2
      go_ret
      exact ⟨_, os, rfl, HR.out.own, HE.out, HR.out.below⟩
end Go.Proofs.YtjfbogjpmieogaaDoor
