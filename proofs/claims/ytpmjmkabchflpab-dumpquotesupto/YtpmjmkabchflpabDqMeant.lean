/-
  The way back: which byte a sign means.
-/
import Derived.Test.YtpmjmkabchflpabDqMap
namespace Go.Proofs.Ytpmjmkabchflpab
open Go.RowKit Go.Maps

/-- What a sign behind a backslash means; 0: nothing. -/
def meantI (c : Int) : Int := if c = 34 then 34 else if c = 92 then 92 else if c = 110 then 10 else 0

/-- The way back, as far as it was laid. -/
structure BackD (D : DataW Unit) (left : Lit → Bool) : Prop where
  isMap : IsMap D
  at34 : D.atKey (u8L 34) (.lit (u8L 0)) = .lit (u8L (if left (u8L 34) then 0 else 34))
  at92 : D.atKey (u8L 92) (.lit (u8L 0)) = .lit (u8L (if left (u8L 92) then 0 else 92))
  at110 : D.atKey (u8L 110) (.lit (u8L 0)) = .lit (u8L (if left (u8L 10) then 0 else 10))
  other : ∀ c, c ≠ 34 → c ≠ 92 → c ≠ 110 → D.atKey (u8L c) (.lit (u8L 0)) = .lit (u8L 0)

theorem u8_ne {a b : Int} (h : a ≠ b) : u8L a ≠ u8L b := by intro e; injection e with _ e; exact h e
theorem u8_same (a b : Int) : (u8L a).sameKey (u8L b) = (a == b) := by
  by_cases h : a = b
  · subst h
    simp [Lit.sameKey]
  · rw [sameKey_ne (u8_ne h)]
    simp [h]
theorem u8_isKey (x : Int) : WideAt.IsKeyLit (u8L x) := by simp [WideAt.IsKeyLit]

theorem backD_empty (left : Lit → Bool) (h34 : left (u8L 34) = true) (h92 : left (u8L 92) = true) (h10 : left (u8L 10) = true) : BackD (.map []) left :=
  ⟨isMap_empty, by rw [h34]; rfl, by rw [h92]; rfl, by rw [h10]; rfl, fun _ _ _ _ => rfl⟩

theorem sign_of {x v : Int} (h : ∀ z, signD.atKey (u8L x) z = .lit (u8L v)) : (x = 34 ∧ v = 34) ∨ (x = 92 ∧ v = 92) ∨ (x = 10 ∧ v = 110) := by
  have h0 := h (.lit (u8L 0))
  have h1 := h (.lit (u8L 1))
  rw [sign_at] at h0 h1
  by_cases e1 : x = 10
  · rw [if_pos e1] at h0
    injection h0 with h0
    injection h0 with _ h0
    exact .inr (.inr ⟨e1, h0.symm⟩)
  · rw [if_neg e1] at h0 h1
    by_cases e2 : x = 92
    · rw [if_pos e2] at h0
      injection h0 with h0
      injection h0 with _ h0
      exact .inr (.inl ⟨e2, h0.symm⟩)
    · rw [if_neg e2] at h0 h1
      by_cases e3 : x = 34
      · rw [if_pos e3] at h0
        injection h0 with h0
        injection h0 with _ h0
        exact .inl ⟨e3, h0.symm⟩
      · rw [if_neg e3] at h0 h1
        injection h0 with h0
        injection h0 with _ h0
        injection h1 with h1
        injection h1 with _ h1
        omega

theorem BackD.next {D : DataW Unit} {left : Lit → Bool} (h : BackD D left) {x v : Int} (hxv : (x = 34 ∧ v = 34) ∨ (x = 92 ∧ v = 92) ∨ (x = 10 ∧ v = 110)) : BackD (D.put (u8L v) (.lit (u8L x))) (fun z => left z && !z.sameKey (u8L x)) := by
  rcases hxv with ⟨rfl, rfl⟩ | ⟨rfl, rfl⟩ | ⟨rfl, rfl⟩
  · refine ⟨h.isMap.put _ _, ?_, ?_, ?_, fun c h1 h2 h3 => ?_⟩
    · rw [atKey_put_same h.isMap (u8_isKey _)]; simp [u8_same]
    · rw [atKey_put_other (u8_ne (by decide)), h.at92]; simp [u8_same]
    · rw [atKey_put_other (u8_ne (by decide)), h.at110]; simp [u8_same]
    · rw [atKey_put_other (u8_ne h1)]; exact h.other c h1 h2 h3
  · refine ⟨h.isMap.put _ _, ?_, ?_, ?_, fun c h1 h2 h3 => ?_⟩
    · rw [atKey_put_other (u8_ne (by decide)), h.at34]; simp [u8_same]
    · rw [atKey_put_same h.isMap (u8_isKey _)]; simp [u8_same]
    · rw [atKey_put_other (u8_ne (by decide)), h.at110]; simp [u8_same]
    · rw [atKey_put_other (u8_ne h2)]; exact h.other c h1 h2 h3
  · refine ⟨h.isMap.put _ _, ?_, ?_, ?_, fun c h1 h2 h3 => ?_⟩
    · rw [atKey_put_other (u8_ne (by decide)), h.at34]; simp [u8_same]
    · rw [atKey_put_other (u8_ne (by decide)), h.at92]; simp [u8_same]
    · rw [atKey_put_same h.isMap (u8_isKey _)]; simp [u8_same]
    · rw [atKey_put_other (u8_ne h3)]; exact h.other c h1 h2 h3

theorem BackD.done {D : DataW Unit} {left : Lit → Bool} (h : BackD D left) (hl : ∀ kl, left kl = false) (c : Int) : D.atKey (u8L c) (.lit (u8L 0)) = .lit (u8L (meantI c)) := by
  unfold meantI
  by_cases h1 : c = 34
  · subst h1; rw [h.at34, hl]; rfl
  · rw [if_neg h1]
    by_cases h2 : c = 92
    · subst h2; rw [h.at92, hl]; rfl
    · rw [if_neg h2]
      by_cases h3 : c = 110
      · subst h3; rw [h.at110, hl]; rfl
      · rw [if_neg h3]; exact h.other c h1 h2 h3

/-- The map of what is meant. -/
structure MeantAt (w : World) (b : Nat) : Prop where
  own : ∃ D : DataW Unit, w.ownsMap Try.prog 5 (plainElem Try.prog 5) b 3 D ∧ ∀ c, D.atKey (u8L c) (.lit (u8L 0)) = .lit (u8L (meantI c))

/-- How far the loop has come. -/
structure MLoop (w : World) (b s r : Nat) (cnt : Nat) (wr : World) : Prop where
  go : ∃ (D : DataW Unit) (left : Lit → Bool) (n : Nat), wr.ownsMap Try.prog 5 (plainElem Try.prog 5) b n D ∧ BackD D left ∧ n + cnt ≤ 3 ∧ wr.ranges (H := Unit) Try.prog 5 (plainElem Try.prog 5) s r 3 signD left cnt
  bel : Below w.heap.size w wr
  bs : b ≠ s
  br : b ≠ r
  lb : w.heap.size ≤ b
  lr : w.heap.size ≤ r

set_option maxRecDepth 100000 in
set_option maxHeartbeats 1000000 in
theorem meant_any (w : World) : Calls Try.prog 10 #[] w fun e w' => e = .returned (.map (some w.heap.size)) ∧ MeantAt w' w.heap.size ∧ Below w.heap.size w w' := by
  have hmm := @run_makeMap Try.prog
  have HO : Hid ((w.alloc (.map #[] 0)).ownsMap (H := Unit) Try.prog 5 (plainElem Try.prog 5) w.heap.size 0 (.map [])) := World.ownsMap_made (H := Unit) w Try.prog 5 (plainElem Try.prog 5)
  have HB : Hid (Below w.heap.size w (w.alloc (.map #[] 0))) := (Below.refl _ _).alloc (Nat.le_refl _) _
  have HS : Hid _ := signs_any (w.alloc (.map #[] 0))
  have HZ : Hid ((w.alloc (.map #[] 0)).heap.size = w.heap.size + 1) := by show _ = _; simp
  go_enter Try.func10, Try.ntmps10
  go_wp2_with fail
  refine Calls.mono HS.out ?_
  rintro e w1 ⟨rfl, hs1, hb1⟩
  have hz := HZ.out
  have HO1 : Hid (w1.ownsMap (H := Unit) Try.prog 5 (plainElem Try.prog 5) w.heap.size 0 (.map [])) := by
    have h := World.ownsMap.kept HO.out (w' := w1) (row := none) ⟨hb1.os, hb1.tape, hb1.output, hb1.size, fun k hk _ => hb1.block k hk⟩ (by simp)
    exact h
  have HB1 : Hid (Below w.heap.size w w1) := HB.out.trans (hb1.mono (by omega))
  have hS1 := hs1.own
  have hlt1 := hS1.lt
  rw [hz] at hS1 hlt1
  have HLT : Hid (w.heap.size + 1 < w1.heap.size) := hlt1
  rw [hz]
  clear HO HB HS HZ hz hb1 hs1 hlt1
  go_wp2_with (at_range; refine wpList_range_own _ rfl _ 28 rfl 5 5 u8K Try.underlying28 (plainElem (H := Unit) Try.prog 5) (w.heap.size + 1) 3 signD rfl hS1 ?_)
  intro w2 hr2 hg2 hz2
  have HL : Hid (MLoop w w.heap.size (w.heap.size + 1) w1.heap.size 3 w2) := by
    have hlt := HLT.out
    have h3 : Maps.size signD = 3 := by rfl
    rw [h3] at hr2
    refine ⟨⟨.map [], _, 0, World.ownsMap.kept HO1.out hg2 (by simp), backD_empty _ (by rfl) (by rfl) (by rfl), by omega, hr2⟩, HB1.out.grown hg2 HB1.out.size (by intro k e; cases e), by omega, by omega, by omega, by omega⟩
  clear hr2 hg2 hz2 HO1 HB1 hS1
  generalize w1.heap.size = r at *
  go_wp2
  go_loopw [] (fun wr => ∃ cnt, MLoop w w.heap.size (w.heap.size + 1) r cnt wr) (fun wr => wr.rangeLeft (w.heap.size + 1) r)
  case atStart => exact ⟨3, HL.out⟩
  case round =>
    obtain ⟨cnt, hL⟩ := hrel
    obtain ⟨⟨D, left, n, hO, hD, hn, hR⟩, hbel, hbs, hbr, hlb, hlr⟩ := hL
    have HO : Hid (wr.ownsMap (H := Unit) Try.prog 5 (plainElem Try.prog 5) w.heap.size n D) := hO
    have HD : Hid _ := hD
    have HBL : Hid _ := hbel
    have hcnt := hR.left_eq
    clear hO hD hbel HL HLT
    go_wp2_with (at_next; refine wpList_next_ranges_ii _ rfl _ rfl 5 5 .u8 .u8 u8K Try.underlying5 Try.underlying5 (w.heap.size + 1) r 3 signD left cnt rfl hR ?_ ?_)
    · intro h0 hl
      have HE : Hid (MeantAt wr w.heap.size ∧ Below w.heap.size w wr) := ⟨⟨D, World.ownsMap.mono HO.out (by omega), fun c => HD.out.done hl c⟩, HBL.out⟩
      clear hR
      go_wp2
      go_ret
      exact ⟨rfl, HE.out⟩
    · intro x c w3 cnt' hwx hwc hlx hat hR3 hlt hg3 hz3 hen
      have hxc := sign_of hat
      have HO3 : Hid (w3.ownsMap (H := Unit) Try.prog 5 (plainElem Try.prog 5) w.heap.size n D) := World.ownsMap.kept HO.out hg3 (by intro e; injection e with e; exact hbr e)
      have HN : Hid (BackD (D.put (u8L c) (.lit (u8L x))) (fun z => left z && !z.sameKey (u8L x))) := HD.out.next hxc
      have hx : 0 ≤ x ∧ x < 256 := by omega
      have hc : 0 ≤ c ∧ c < 256 := by omega
      have hkc := u8Key c hc.1 hc.2
      have hex := u8Elem x hx.1 hx.2
      have HB3 : Hid (Below w.heap.size w w3) := HBL.out.grown hg3 HBL.out.size (by intro k e; injection e with e; omega)
      have HR3 : Hid _ := hR3
      clear hR hR3 HO HD HBL hat hxc hwx hwc hg3 hx hc hlx
      go_wp2_with (at_mapUpdate; refine wpList_mapUpdate_own _ rfl _ _ _ 28 rfl 5 5 u8K Try.underlying28 (plainElem (H := Unit) Try.prog 5) w.heap.size n D rfl HO3.out (by unfold maxLen; omega) _ _ (u8L c) rfl rfl hkc _ [] hex ?_)
      intro w4 hO4 hg4
      have HL4 : Hid (MLoop w w.heap.size (w.heap.size + 1) r cnt' w4) := by
        have hs := HB3.out.size
        exact ⟨⟨_, _, n + 1, hO4, HN.out, by omega, World.ranges.kept HR3.out hg4 (by intro e; injection e with e; omega) (by intro e; injection e with e; omega)⟩, HB3.out.grown hg4 hs (by intro k e; injection e with e; omega), hbs, hbr, hlb, hlr⟩
      have hm : w4.rangeLeft (w.heap.size + 1) r = cnt' := by
        obtain ⟨_, _, _, _, _, _, h⟩ := HL4.out.go
        exact h.left_eq
      clear hO4 hg4 HR3 HB3 HN HO3
      go_wp2
      go_roundw
      case rel => exact ⟨cnt', HL4.out⟩
      case measure => rw [hm, hcnt]; exact hlt
end Go.Proofs.Ytpmjmkabchflpab
