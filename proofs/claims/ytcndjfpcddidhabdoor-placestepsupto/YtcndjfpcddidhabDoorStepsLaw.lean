/-
  The steps of any text: the law's walk.
-/
import Derived.Test.YtcndjfpcddidhabDoorStepsRef
namespace Go.Proofs.YtcndjfpcddidhabDoor
open Go.RowKit

theorem own_nats {w : World} {base : Nat} {v : Value} {l : List Nat} (h : w.ownsRow base 3 1 v l.length (natV l)) : ∃ a cap, v = .slice a l.length cap ∧ ∀ p, (hp : p < l.length) → ∃ g, a = some ⟨g, 0, none⟩ ∧ w.cell? ⟨g, p, none⟩ = some (.int .i64 (l[p] : Nat)) := by
  rcases h.2 with ⟨rfl, h0⟩ | ⟨g, cap, cur, rfl, hg, hh, hnc, hcm, hcs, htk⟩
  · exact ⟨none, 0, by rw [h0], fun p hp => by omega⟩
  · refine ⟨some ⟨g, 0, none⟩, cap, rfl, fun p hp => ⟨g, rfl, ?_⟩⟩
    have hr : (natV l)[p]? = some (.int .i64 (l[p] : Nat)) := by simp [natV, hp]
    rw [← htk] at hr
    rw [List.getElem?_take, if_pos (by omega)] at hr
    simp only [World.cell?, hh]
    simpa using hr

theorem first_path : stepsP [47, 51] = some [3] := by decide

theorem steps_len (l : List UInt8) : ((stepsP l).getD []).length ≤ l.length + 1 := by
  unfold stepsP
  split
  · simp
  · cases l with
    | nil => simp
    | cons c r =>
      dsimp only
      split
      · cases h : allNums (cutAt r) with
        | none => simp
        | some ns =>
          have h1 := allNums_len _ _ h
          have h2 := (cutAt_len r).2
          simp only [Option.getD_some, List.length_cons]
          omega
      · simp

theorem drewN_below_s {B : Nat} {a w : World} (h : Below B a w) (n : Nat) : Below B a (w.drewN n) := h.trans ⟨rfl, rfl, rfl, Nat.le_refl _, fun _ _ => rfl⟩

set_option maxRecDepth 100000 in
set_option maxHeartbeats 4000000 in
theorem path_law (s : ByteArray) (w : World) (hs : s.size ≤ 1048576) (hsh : w.ShapedOpen Tryd.prog) :
    Calls Tryd.prog 3 #[.string s] w fun e w' => e = .returned (.bool true) ∧ Below w.heap.size w w' := by
  obtain ⟨m, hm⟩ := Tryd.maxlen w hsh
  have hml : 1 < w.heap.size := World.block_lt_of_cell? w _ hm
  have HF : Hid _ := steps_any ⟨#[47, 51]⟩ (by decide) m w hm
  have HP : Hid (∀ W, Below w.heap.size w W → Calls Tryd.prog 5 #[.string s] W fun e w' => Told s.data.toList W w' e) := fun W hb => steps_any s hs m W ((hb.cell (p := ⟨1, 0, none⟩) hml).trans hm)
  have HQ : Hid (∀ W, Calls Tryd.prog 6 #[.string s] W fun e w' => Told s.data.toList W w' e) := fun W => rSteps_any s hs W
  clear hm hml hsh
  go_enter Tryd.func3, Tryd.ntmps3
  go_wp2_with fail
  refine Calls.mono HF.out ?_
  rintro e w1 ⟨v, he, ho, hb1⟩
  rw [first_path] at he ho
  obtain ⟨a0, c0, rfl⟩ := own_head_s ho
  simp only [Option.isSome_some, Option.getD_some, List.length_cons, List.length_nil, Nat.zero_add] at he
  subst he
  have HP1 : Hid _ := HP.out w1 hb1
  have HB1 : Hid _ := hb1
  clear ho hb1 HF HP
  go_wp2_with fail
  refine Calls.mono HP1.out ?_
  rintro e w2 ⟨v2, rfl, ho2, hb2⟩
  have HB2 : Hid (Below w.heap.size w w2) := HB1.out.trans (hb2.mono HB1.out.size)
  have HO2 : Hid _ := ho2
  clear HP1 HB1
  obtain ⟨a2, c2, rfl, hc2⟩ := own_nats ho2
  have HC2 : Hid _ := hc2
  clear ho2 hb2 hc2
  go_wp2_with fail
  refine Calls.mono (HQ.out _) ?_
  rintro e w3 ⟨v3, rfl, ho3, hb3⟩
  have HB3 : Hid (Below w.heap.size w w3) := HB2.out.trans (hb3.mono HB2.out.size)
  obtain ⟨a3, c3, rfl, hc3⟩ := own_nats ho3
  have HC : Hid (∀ p, (hp : p < ((stepsP s.data.toList).getD []).length) → (∃ g, a2 = some ⟨g, 0, none⟩ ∧ w3.cell? ⟨g, p, none⟩ = some (.int .i64 (((stepsP s.data.toList).getD [])[p] : Nat))) ∧ ∃ g, a3 = some ⟨g, 0, none⟩ ∧ w3.cell? ⟨g, p, none⟩ = some (.int .i64 (((stepsP s.data.toList).getD [])[p] : Nat))) := fun p hp => by
    obtain ⟨g, e, hc⟩ := HC2.out p hp
    exact ⟨⟨g, e, (hb3.cell (p := ⟨g, p, none⟩) (World.block_lt_of_cell? w2 _ hc)).trans hc⟩, hc3 p hp⟩
  have hRl : ((stepsP s.data.toList).getD []).length ≤ 1048577 := by
    have h1 := steps_len s.data.toList
    have h2 : s.data.toList.length = s.size := by simp
    omega
  generalize (stepsP s.data.toList).isSome = ok
  generalize (stepsP s.data.toList).getD [] = R at HC hRl ⊢
  have hokk : (ok != ok) = false := by simp
  clear ho3 hb3 hc3 HC2 HO2 HQ HB2
  go_wp2
  go_loopw [9] (fun i wr => ∃ j : Nat, ∃ q : Nat, j ≤ R.length ∧ i = .int .i64 j ∧ wr = w3.drewN q) (fun i _ => R.length - (intOf i).toNat)
  case atStart => exact ⟨0, 0, by omega, rfl, rfl⟩
  case round =>
    obtain ⟨j, q, hj, rfl, rfl⟩ := hrel
    by_cases hjl : j < R.length
    · obtain ⟨⟨g2, rfl, k2⟩, ⟨g3, rfl, k3⟩⟩ := HC.out j hjl
      have hjI : (j : Int) < (R.length : Int) := by omega
      generalize (R[j] : Int) = y at *
      go_wp2_with fail
      go_quiet (fail)
      go_wp2
      go_roundw
      case rel => exact ⟨j + 1, q + nq, by omega, by go_num, by simp⟩
      case measure => simp only [intOf]; go_num
    · go_wp2
      go_ret
      exact ⟨rfl, drewN_below_s HB3.out _⟩
end Go.Proofs.YtcndjfpcddidhabDoor
