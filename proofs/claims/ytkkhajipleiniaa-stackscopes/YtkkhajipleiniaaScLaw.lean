/-
  What is in the scopes: the law's walk.
-/
import Derived.Test.YtkkhajipleiniaaScMath
namespace Go.Proofs.Ytkkhajipleiniaa
open Go.RowKit

/-- An argument: texts, where they lie. -/
structure StrsAt (w : World) (a : Option Addr) (Z : List ByteArray) : Prop where
  out : ∀ t, (h : t < Z.length) → ∃ ad, a = some ad ∧ w.cell? (ad.add t) = some (.string Z[t])
theorem cell_stays {w w' : World} {a : Addr} {v : Value} (h : w.cell? a = some v) (hb : Below w.heap.size w w') : w'.cell? a = some v :=
  (hb.cell (p := a) (World.block_lt_of_cell? w _ h)).trans h
theorem StrsAt.later {w w' : World} {a : Option Addr} {Z : List ByteArray} (h : StrsAt w a Z) (hb : Below w.heap.size w w') : StrsAt w' a Z := ⟨fun t ht => by
  obtain ⟨ad, e, hc⟩ := h.out t ht
  exact ⟨ad, e, cell_stays hc hb⟩⟩

/-- The items of the first names. -/
def itmsOf (Z : List ByteArray) (k : Nat) : List Itm := (Z.take k).zipIdx.map fun p => ⟨(p.2 : Int), p.1⟩
theorem itmsOf_len (Z : List ByteArray) (k : Nat) (h : k ≤ Z.length) : (itmsOf Z k).length = k := by simp [itmsOf]; omega
theorem itmsOf_succ (Z : List ByteArray) (k : Nat) (h : k < Z.length) : itmsOf Z (k + 1) = itmsOf Z k ++ [⟨(k : Int), Z[k]⟩] := by
  unfold itmsOf
  rw [List.take_succ_eq_append_getElem h, List.zipIdx_append, List.map_append]
  simp
  omega

set_option maxRecDepth 100000 in
set_option maxHeartbeats 4000000 in
theorem scopes_law (a : Option Addr) (cap : Nat) (Z : List ByteArray) (nm : ByteArray) (w : World) (hZ : StrsAt w a Z) :
    Calls Try.prog 5 #[.slice a Z.length cap, .string nm] w fun e w' => e = .returned (.bool true) ∧ Below w.heap.size w w' := by
  have HZ : Hid _ := hZ
  clear hZ
  go_enter Try.func5, Try.ntmps5
  go_wp2_with fail
  refine Calls.mono (stSpeaks w) ?_
  rintro e w1 ⟨rfl, hb1⟩
  have HB1 : Hid (Below w.heap.size w w1) := hb1
  have HN : Hid _ := stack_new w1
  have HB2 : Hid (Below w.heap.size w (w1.alloc (.cells #[.slice none 0 0] 26))) := hb1.alloc hb1.size _
  clear hb1
  go_wp2_with fail
  generalize w1.alloc (.cells #[.slice none 0 0] 26) = w2 at *
  have hsz : w.heap.size ≤ w1.heap.size := HB1.out.size
  generalize hs : w1.heap.size = s at *
  go_loopw [6] (fun i wr => ∃ k : Nat, k ≤ Z.length ∧ k ≤ 500 ∧ i = .int .i64 k ∧ Hid (Below w.heap.size w wr ∧ ∃ v, StackAt wr s s v (itmsOf Z k))) (fun i _ => 500 - (intOf i).toNat)
  case atStart => exact ⟨0, Nat.zero_le _, by omega, rfl, ⟨HB2.out, _, HN.out⟩⟩
  case round =>
    obtain ⟨k, hk, hk5, rfl, HI⟩ := hrel
    by_cases hlt : k < Z.length ∧ k < 500
    · obtain ⟨h1, h2⟩ := hlt
      obtain ⟨ad, rfl, hc⟩ := (HZ.out.later HI.out.1).out k h1
      obtain ⟨v, hS⟩ := HI.out.2
      have HS : Hid _ := hS
      have HE : Hid _ := itmsOf_succ Z k h1
      have hl0 : (itmsOf Z k).length ≤ 1000000 := by rw [itmsOf_len Z k hk]; omega
      have HL : Hid _ := hl0
      clear hl0
      generalize Z[k] = t at hc HE
      clear hS
      have hI : (k : Int) < (Z.length : Int) := by omega
      have hI5 : (k : Int) < 500 := by omega
      go_wp2_with fail
      refine Calls.mono (push_any s s v (itmsOf Z k) ⟨(k : Int), t⟩ _ HS.out HL.out) ?_
      rintro e w3 ⟨rfl, hp⟩
      have HR : Hid (Below w.heap.size w w3 ∧ ∃ v, StackAt w3 s s v (itmsOf Z (k + 1))) := by
        refine ⟨HI.out.1.trans ((hp.below HS.out).mono hsz), ?_⟩
        obtain ⟨v', h', _⟩ := hp.at'
        rw [HE.out]
        exact ⟨v', h'⟩
      clear hp HE HS HI hc
      go_wp2
      go_roundw
      case rel => exact ⟨k + 1, by omega, by omega, by go_num, HR⟩
      case measure => simp [intOf]; omega
    · obtain ⟨v, hS⟩ := HI.out.2
      have HS : Hid _ := hS
      have HB : Hid _ := HI.out.1
      have hl0 : (itmsOf Z k).length ≤ 1000000 := by rw [itmsOf_len Z k hk]; omega
      have HL : Hid _ := hl0
      clear hl0
      have f1 : inOf 1 nm (itmsOf Z k) = true → inOf 0 nm (itmsOf Z k) = true := in_narrow nm _ (.inr (by decide)) (by decide) (by decide)
      have f2 : inOf 2 nm (itmsOf Z k) = true → inOf 0 nm (itmsOf Z k) = true := in_narrow nm _ (.inr (by decide)) (by decide) (by decide)
      have f3 : inOf 0 nm (itmsOf Z k) = true → inOf 3 nm (itmsOf Z k) = true := in_narrow nm _ (.inl rfl) (by decide) (by decide)
      have f4 := in_most nm (itmsOf Z k)
      obtain ⟨u, hu⟩ : ∃ u, inOf 0 nm (itmsOf Z k) = u := ⟨_, rfl⟩
      obtain ⟨l, hl⟩ : ∃ u, inOf 1 nm (itmsOf Z k) = u := ⟨_, rfl⟩
      obtain ⟨b, hb⟩ : ∃ u, inOf 2 nm (itmsOf Z k) = u := ⟨_, rfl⟩
      obtain ⟨t, ht⟩ : ∃ u, inOf 3 nm (itmsOf Z k) = u := ⟨_, rfl⟩
      rw [hu, hl] at f1
      rw [hu, hb] at f2
      rw [hu, ht] at f3
      rw [hu] at f4
      have HC : Hid (∀ sc wx, Below wr.heap.size wr wx → _) := fun sc wx hb => in_any s s v _ sc nm wx (HS.out.below hb) HL.out
      have HC0 : Hid (∀ wx, Below wr.heap.size wr wx → _) := fun wx hb => HC.out 0 wx hb
      have HC1 : Hid (∀ wx, Below wr.heap.size wr wx → _) := fun wx hb => HC.out 1 wx hb
      have HC2 : Hid (∀ wx, Below wr.heap.size wr wx → _) := fun wx hb => HC.out 2 wx hb
      have HC3 : Hid (∀ wx, Below wr.heap.size wr wx → _) := fun wx hb => HC.out 3 wx hb
      have HC4 : Hid (∀ wx, Below wr.heap.size wr wx → _) := fun wx hb => HC.out 99 wx hb
      rw [hu] at HC0
      rw [hl] at HC1
      rw [hb] at HC2
      rw [ht] at HC3
      rw [f4] at HC4
      clear hS HI HS HL HC f4 hu hl hb ht
      have HRB : Hid (Below w.heap.size w wr ∧ Below wr.heap.size wr wr) := ⟨HB.out, Below.refl _ _⟩
      rcases (show (¬ (k : Int) < (Z.length : Int)) ∨ ((k : Int) < (Z.length : Int) ∧ ¬ (k : Int) < 500) by omega) with h1 | ⟨h1, h2⟩
      all_goals
        clear hlt HB hk hk5
        go_wp2_with fail
        refine Calls.mono (HC0.out _ HRB.out.2) ?_
        rintro e w3 ⟨rfl, hb3⟩
        have HQ0 : Hid (Below wr.heap.size wr w3) := HRB.out.2.trans (hb3.mono HRB.out.2.size)
        clear hb3
        go_wp2_with fail
        refine Calls.mono (HC1.out _ HQ0.out) ?_
        rintro e w4 ⟨rfl, hb4⟩
        have HQ1 : Hid (Below wr.heap.size wr w4) := HQ0.out.trans (hb4.mono HQ0.out.size)
        clear hb4
        go_wp2_with fail
        refine Calls.mono (HC2.out _ HQ1.out) ?_
        rintro e w5 ⟨rfl, hb5⟩
        have HQ2 : Hid (Below wr.heap.size wr w5) := HQ1.out.trans (hb5.mono HQ1.out.size)
        clear hb5
        go_wp2_with fail
        refine Calls.mono (HC3.out _ HQ2.out) ?_
        rintro e w6 ⟨rfl, hb6⟩
        have HQ3 : Hid (Below wr.heap.size wr w6) := HQ2.out.trans (hb6.mono HQ2.out.size)
        clear hb6
        cases u
        · obtain rfl : l = false := by cases l; rfl; exact absurd (f1 rfl) (by decide)
          obtain rfl : b = false := by cases b; rfl; exact absurd (f2 rfl) (by decide)
          clear f1 f2 f3 HC0 HC1 HC2 HC3
          go_wp2_with fail
          refine Calls.mono (HC4.out _ HQ3.out) ?_
          rintro e w7 ⟨rfl, hb7⟩
          have HQ7 : Hid (Below w.heap.size w w7) := HRB.out.1.trans ((HQ3.out.trans (hb7.mono HQ3.out.size)).mono HRB.out.1.size)
          clear hb7
          go_wp2
          go_ret
          exact ⟨rfl, HQ7.out⟩
        · obtain rfl : t = true := f3 rfl
          clear f1 f2 f3 HC0 HC1 HC2 HC3
          cases l <;> cases b
          all_goals
            go_wp2_with fail
            refine Calls.mono (HC4.out _ HQ3.out) ?_
            rintro e w7 ⟨rfl, hb7⟩
            have HQ7 : Hid (Below w.heap.size w w7) := HRB.out.1.trans ((HQ3.out.trans (hb7.mono HQ3.out.size)).mono HRB.out.1.size)
            clear hb7
            go_wp2
            go_ret
            exact ⟨rfl, HQ7.out⟩
end Go.Proofs.Ytkkhajipleiniaa
