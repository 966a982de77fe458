/-
  The line and the column of a place.
-/
import Derived.Test.YtjfbogjpmieogacDoorPlaceNew
namespace Go.Proofs.YtjfbogjpmieogacDoor.Pl
open Go.RowKit

/-- A table of lines lies in memory. -/
structure TabAt (w : World) (t : Nat) (rs : List (Int × Int)) (pb base : Nat) (vb : Value) : Prop where
  c0 : w.cell? ⟨t, 0, none⟩ = some (.slice (some ⟨pb, 0, none⟩) rs.length rs.length)
  c1 : w.cell? ⟨t, 1, none⟩ = some vb
  pl : ∀ i, (hi : i < rs.length) → w.cell? ⟨pb, i, none⟩ = some (.int .i64 rs[i].2)
  own : w.ownsRow base 3 1 vb (brkFrom 0 (rs.map (·.1))).length (brkV (brkFrom 0 (rs.map (·.1))))
  tl : t < w.heap.size
  pbl : pb < w.heap.size

theorem TabAt.later {w w' : World} {t pb base : Nat} {rs : List (Int × Int)} {vb : Value} (h : TabAt w t rs pb base vb) (hb : Below w.heap.size w w') : TabAt w' t rs pb base vb :=
  ⟨(hb.cell (p := ⟨t, 0, none⟩) h.tl).trans h.c0, (hb.cell (p := ⟨t, 1, none⟩) h.tl).trans h.c1, fun i hi => (hb.cell (p := ⟨pb, i, none⟩) h.pbl).trans (h.pl i hi), own_below' h.own hb, Nat.lt_of_lt_of_le h.tl hb.size, Nat.lt_of_lt_of_le h.pbl hb.size⟩

theorem Mk.tab {w wr : World} {rs : List (Int × Int)} {vb : Value} (h : Mk w wr rs.length rs.length rs.length rs vb) : TabAt wr (w.heap.size + 1) rs w.heap.size (w.heap.size + 2) vb := by
  have hs := h.size
  have e : (rs.map (·.1)).take rs.length = rs.map (·.1) := List.take_of_length_le (by simp)
  refine ⟨h.c0, h.c1, fun i hi => ?_, ?_, by omega, by omega⟩
  · rw [h.pl i hi, if_pos hi]
    simp [List.getD, hi]
  · have := h.own
    rw [e] at this
    exact this

/-- How many scalars stand ahead of a place. -/
def aheadOf (rs : List (Int × Int)) (x : Int) : Nat := (rs.map (·.2)).countP (fun y => !decide (x ≤ y))

theorem rise_le (l : List Int) (h : l.Pairwise (· < ·)) : ∀ a b, a ≤ b → b < l.toArray.size → l.toArray[a]! ≤ l.toArray[b]! := by
  intro a b hab hb
  have hb' : b < l.length := by simpa using hb
  rw [getElem!_pos l.toArray a (by simp; omega), getElem!_pos l.toArray b hb]
  simp only [List.getElem_toArray]
  rcases Nat.lt_or_ge a b with h1 | h1
  · exact Int.le_of_lt (List.pairwise_iff_getElem.1 h a b (by omega) hb' h1)
  · obtain rfl : a = b := by omega
    exact Int.le_refl _

theorem brk_rise_int (vs : List Int) : ((brkFrom 0 vs).map (fun n : Nat => (n : Int))).Pairwise (· < ·) := by
  rw [List.pairwise_map]
  exact (brkFrom_rise 0 vs).imp (fun h => by omega)

/-- A row of whole numbers: its head, and what stands in it. -/
theorem own_ints {w : World} {base : Nat} {v : Value} {l : List Int} (h : w.ownsRow base 3 1 v l.length (l.map (Value.int .i64))) (hpos : 0 < l.length) :
    ∃ g cap, v = .slice (some ⟨g, 0, none⟩) l.length cap ∧ l.length ≤ cap ∧ base ≤ g ∧ g < w.heap.size ∧ ∀ p, (hp : p < l.length) → w.cell? ⟨g, p, none⟩ = some (.int .i64 l[p]) := by
  rcases h.2 with ⟨rfl, h0⟩ | ⟨g, cap, cur, rfl, hg, hh, hnc, hcm, hcs, htk⟩
  · omega
  · refine ⟨g, cap, rfl, hnc, hg, ?_, fun p hp => ?_⟩
    · rcases Nat.lt_or_ge g w.heap.size with h' | h'
      · exact h'
      · simp [Array.getElem?_eq_none h'] at hh
    · have hr : (l.map (Value.int .i64))[p]? = some (.int .i64 l[p]) := by simp [hp]
      rw [← htk] at hr
      rw [List.getElem?_take, if_pos (by omega)] at hr
      simp only [World.cell?, hh]
      simpa using hr

theorem own_head' {w : World} {base : Nat} {e : TypeId} {size : Nat} {v : Value} {n : Nat} {xs : List Value} (h : w.ownsRow base e size v n xs) : ∃ a cap, v = .slice a n cap := by
  rcases h.2 with ⟨rfl, rfl⟩ | ⟨g, cap, cur, rfl, _⟩
  · exact ⟨none, 0, rfl⟩
  · exact ⟨_, cap, rfl⟩

theorem places_count (t pb base : Nat) (rs : List (Int × Int)) (vb : Value) (x : Int) (w : World) (hT : TabAt w t rs pb base vb) (hr : (rs.map (·.2)).Pairwise (· < ·)) (hlen : rs.length ≤ 1099511627776) :
    Calls Tryd.prog 20 #[.slice (some ⟨pb, 0, none⟩) rs.length rs.length, .int .i64 x] w fun e w' => e = .returned (.int .i64 (aheadOf rs x : Nat)) ∧ Below w.heap.size w w' := by
  have h := below_any pb rs.length (rs.map (·.2)).toArray x w (fun i hi => by
    have hi' : i < rs.length := by simpa using hi
    rw [getElem!_pos _ i hi]
    simpa using hT.pl i hi') hT.pbl (by simp; omega) (rise_le _ hr)
  simpa [aheadOf] using h

theorem breaks_count (t pb base : Nat) (rs : List (Int × Int)) (vb : Value) (a : Nat) (w : World) (hT : TabAt w t rs pb base vb) (ha : a ≤ rs.length) (hlen : rs.length ≤ 1099511627776) :
    Calls Tryd.prog 20 #[vb, .int .i64 (a : Int)] w fun e w' => e = .returned (.int .i64 ((brkFrom 0 ((rs.map (·.1)).take a)).length : Nat)) ∧ Below w.heap.size w w' := by
  have hcnt := brk_count (rs.map (·.1)) a (by simpa using ha)
  have hbl := brkFrom_len 0 (rs.map (·.1))
  have ho : w.ownsRow base 3 1 vb ((brkFrom 0 (rs.map (·.1))).map (fun n : Nat => (n : Int))).length (((brkFrom 0 (rs.map (·.1))).map (fun n : Nat => (n : Int))).map (Value.int .i64)) := by
    have := hT.own
    simpa [brkV, List.map_map, Function.comp_def] using this
  by_cases h0 : brkFrom 0 (rs.map (·.1)) = []
  · obtain ⟨a', cap, rfl⟩ := own_head' ho
    rw [h0] at hcnt
    simp only [List.map_nil, List.countP_nil] at hcnt
    rw [← hcnt, h0]
    exact below_none a' cap a w
  · have hpos : 0 < ((brkFrom 0 (rs.map (·.1))).map (fun n : Nat => (n : Int))).length := by
      rw [List.length_map]
      exact List.length_pos_iff.2 h0
    obtain ⟨g, cap, rfl, hcap, hg, hgl, hcells⟩ := own_ints ho hpos
    have h := below_any g cap ((brkFrom 0 (rs.map (·.1))).map (fun n : Nat => (n : Int))).toArray a w (fun i hi => by
      rw [getElem!_pos _ i hi]
      exact hcells i (by simpa using hi)) hgl (by simp at hbl ⊢; omega) (rise_le _ (brk_rise_int _))
    rw [← hcnt]
    simpa using h

theorem ahead_le (rs : List (Int × Int)) (x : Int) : aheadOf rs x ≤ rs.length := by
  have := count_le (rs.map (·.2)) x
  simpa [aheadOf] using this

set_option maxRecDepth 100000 in
set_option maxHeartbeats 2000000 in
theorem at_any (t pb base : Nat) (rs : List (Int × Int)) (vb : Value) (x : Int) (w : World) (hT : TabAt w t rs pb base vb) (hr : (rs.map (·.2)).Pairwise (· < ·)) (hlen : rs.length ≤ 1099511627776) :
    Calls Tryd.prog 11 #[.pointer (some ⟨t, 0, none⟩), .int .i64 x] w fun e w' => e = .returned (.tuple #[.int .i64 (lineCol ((rs.map (·.1)).take (aheadOf rs x))).1, .int .i64 (lineCol ((rs.map (·.1)).take (aheadOf rs x))).2]) ∧ Below w.heap.size w w' := by
  have HP : Hid _ := places_count t pb base rs vb x w hT hr hlen
  have HT : Hid _ := hT
  have ha := ahead_le rs x
  have k0 := hT.c0
  clear hT hr
  generalize aheadOf rs x = a at HP ha ⊢
  go_enter Tryd.func11, Tryd.ntmps11
  go_wp2_with fail
  refine Calls.mono HP.out ?_
  rintro e w1 ⟨rfl, hb1⟩
  have hT1 := HT.out.later hb1
  have k1 := hT1.c1
  have HB : Hid _ := breaks_count t pb base rs vb a w1 hT1 ha hlen
  have HT1 : Hid _ := hT1
  obtain ⟨ab, capb, hvb⟩ := own_head' hT1.own
  subst hvb
  clear hT1 k0 HP HT
  go_wp2_with fail
  refine Calls.mono HB.out ?_
  rintro e w2 ⟨rfl, hb2⟩
  have hT2 := HT1.out.later hb2
  have k2 := hT2.c1
  have HBL : Hid (Below w.heap.size w w2) := hb1.trans (hb2.mono hb1.size)
  have va : a ≤ (rs.map (·.1)).length := by simpa using ha
  by_cases h0 : (brkFrom 0 ((rs.map (·.1)).take a)).length = 0
  · have HL : Hid _ := brk_none (rs.map (·.1)) a va h0
    rw [h0]
    clear hT2 k1 HB HT1 hb1 hb2
    go_wp2
    go_ret2
    rw [HL.out]
    exact ⟨rfl, HBL.out⟩
  · obtain ⟨b, hb, hba, hlc⟩ := brk_last (rs.map (·.1)) a va (by omega)
    have HL : Hid _ := hlc
    have hbl := brkFrom_len 0 (rs.map (·.1))
    have ho : w2.ownsRow base 3 1 (.slice ab (brkFrom 0 (rs.map (·.1))).length capb) ((brkFrom 0 (rs.map (·.1))).map (fun n : Nat => (n : Int))).length (((brkFrom 0 (rs.map (·.1))).map (fun n : Nat => (n : Int))).map (Value.int .i64)) := by
      have := hT2.own
      simpa [brkV, List.map_map, Function.comp_def] using this
    obtain ⟨hlt, hge⟩ := List.getElem?_eq_some_iff.1 hb
    obtain ⟨g, cap, hv, hcap, hg, hgl, hcells⟩ := own_ints ho (by simp; omega)
    injection hv with hv1 hv2 hv3
    subst hv1 hv3
    have q := hcells ((brkFrom 0 ((rs.map (·.1)).take a)).length - 1) (by simpa using hlt)
    simp only [List.getElem_map, hge] at q
    obtain ⟨L, hL⟩ : ∃ L, (brkFrom 0 ((rs.map (·.1)).take a)).length = L + 1 := ⟨(brkFrom 0 ((rs.map (·.1)).take a)).length - 1, by omega⟩
    rw [hL] at q hlt HL ⊢
    have e0 : (1 : Int) + ((L + 1 : Nat) : Int) = 1 + ((L : Int) + 1) := by omega
    rw [e0] at HL
    clear e0
    simp only [Nat.add_sub_cancel] at q hlt
    have e1 : ((L + 1 : Nat) : Int) - 1 = (L : Int) := by omega
    have e2 : ¬ ((L + 1 : Nat) : Int) = 0 := by omega
    simp only [List.length_map] at hbl
    have e3 : (L : Int) < ((brkFrom 0 (rs.map (·.1))).length : Int) := by omega
    generalize (brkFrom 0 (rs.map (·.1))).length = N at hbl hlt e3 k2
    clear hT2 k1 HB HT1 hb1 hb2 h0 hL hb ho hv2 hcells hge hcap hg hgl hlc
    go_wp2
    go_region
    all_goals go_wp2
    all_goals go_ret2
    all_goals
      rw [HL.out]
      exact ⟨rfl, HBL.out.drew⟩
end Go.Proofs.YtjfbogjpmieogacDoor.Pl
