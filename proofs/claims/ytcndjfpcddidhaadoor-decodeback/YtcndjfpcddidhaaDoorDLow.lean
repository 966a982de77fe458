/-
  Newlines in one form: the calls at no receiver, and at nothing.
-/
import Derived.Test.YtcndjfpcddidhaaDoorPass
import Derived.Lib.SliceRun
namespace Go.Proofs.YtcndjfpcddidhaaDoor
open Go.RowKit

/-- An argument: whole numbers, where they lie. -/
structure IntsAt (w : World) (a : Option Addr) (Z : List Int) : Prop where
  out : ∀ t, (h : t < Z.length) → ∃ ad, a = some ad ∧ w.cell? (ad.add t) = some (.int .i64 Z[t])

theorem cell_later {w w' : World} {a : Addr} {v : Value} (h : w.cell? a = some v) (hb : Below w.heap.size w w') : w'.cell? a = some v :=
  (hb.cell (p := a) (World.block_lt_of_cell? w _ h)).trans h

theorem IntsAt.later {w w' : World} {a : Option Addr} {Z : List Int} (h : IntsAt w a Z) (hb : Below w.heap.size w w') : IntsAt w' a Z := ⟨fun t ht => by
  obtain ⟨ad, e, hc⟩ := h.out t ht
  exact ⟨ad, e, cell_later hc hb⟩⟩

theorem runes_len (rs : List (Int × Int)) : (rs.flatMap runeC).length = rs.length * 2 := by
  induction rs with
  | nil => rfl
  | cons r rs ih => simp only [List.flatMap_cons, List.length_append, ih, runeC, List.length_cons, List.length_nil]; omega

theorem runes_one (rs : List (Int × Int)) : ∀ u ∈ rs.flatMap runeC, u.oneCell' = true := by
  intro u hu
  obtain ⟨r, _, hu⟩ := List.mem_flatMap.1 hu
  simp [runeC] at hu
  rcases hu with rfl | rfl <;> rfl

theorem own_cells {w : World} {base : Nat} {e : TypeId} {size g n cap : Nat} {xs : List Value} (h : w.ownsRow base e size (.slice (some ⟨g, 0, none⟩) n cap) n xs) : ∀ j u, xs[j]? = some u → w.cell? ((⟨g, 0, none⟩ : Addr).add j) = some u := by
  intro j u hj
  have e0 : (⟨g, 0, none⟩ : Addr).add j = ⟨g, j, none⟩ := by cases j <;> simp [Addr.add]
  rw [e0]
  rcases h.2 with ⟨hv, _⟩ | ⟨g', cap', cur, hv, hg, hh, hnc, hcm, hcs, htk⟩
  · cases hv
  · injection hv with h1 _ _
    injection h1 with h1
    injection h1 with h1 _ _
    subst h1
    rw [← htk, List.getElem?_take] at hj
    split at hj
    · simp only [World.cell?, hh]
      simpa using hj
    · cases hj

theorem lit0_own (w : World) : (w.alloc (.cells #[] 48)).ownsRow w.heap.size 48 2 (.slice (some ⟨w.heap.size, 0, none⟩) 0 0) 0 ([] : List Value) :=
  World.ownsRow_lit w _ 0 (Nat.le_refl _) (by unfold maxLen; omega) rfl

set_option maxRecDepth 100000 in
set_option maxHeartbeats 1000000 in
theorem clone_own (base g cap : Nat) (rs : List (Int × Int)) (w : World) (h : w.ownsRow base 48 2 (.slice (some ⟨g, 0, none⟩) rs.length cap) rs.length (rs.flatMap runeC)) (hlen : rs.length ≤ 1099511627776) :
    Calls Tryd.prog 24 #[.slice (some ⟨g, 0, none⟩) rs.length cap] w fun e w' => ∃ v, e = .returned v ∧ w'.ownsRow w.heap.size 48 2 v rs.length (rs.flatMap runeC) ∧ Below w.heap.size w w' := by
  obtain ⟨i0, hi, hz0, hz1, hz2⟩ := info_parts Tryd.infoRune
  have HB : Hid (Below w.heap.size w (w.alloc (.cells #[] 48))) := (Below.refl _ _).alloc (Nat.le_refl _) _
  have HC : Hid _ := own_cells (own_below h HB.out)
  clear h
  have hq : ∀ (a : Option Addr) (n c : Nat) (w : World), (binOp .eql 29 (.slice a n c) (.slice none 0 0)).run Tryd.prog w = .ok (.bool a.isNone) w := fun a n c w => Lib.run_eql_slice_nil w _ _ a n c 0 0 Tryd.underlying29
  go_enter Tryd.func24, Tryd.ntmps24
  go_wp2_with (at_builtin; refine wpList_append_own _ rfl _ _ 29 rfl w.heap.size 48 i0 (.agg #[.int .i64 0, .int .i64 0]) 2 16 Tryd.underlying29 hi hz0 hz1 hz2 rfl (by decide) _ 0 _ rfl (lit0_own w) ⟨g, 0, none⟩ rs.length cap (rs.flatMap runeC) rfl (runes_len rs) HC.out (runes_one rs) (by unfold maxLen; omega) (by omega) (by simp) ?_)
  intro v' w' hown' hgrow _
  have hX : w'.ownsRow w.heap.size 48 2 v' rs.length (rs.flatMap runeC) := by simpa using hown'
  have HW : Hid _ := hX
  have HG : Hid (Below w.heap.size w w') := HB.out.grown hgrow (by simp) (fun k hk => by simp [Value.ownBlock] at hk; omega)
  obtain ⟨a', c', rfl⟩ := own_head hX
  clear hown' hgrow hX
  go_wp2
  go_ret
  exact ⟨_, rfl, HW.out, HG.out⟩

set_option maxRecDepth 100000 in
theorem clone_nil (w : World) :
    Calls Tryd.prog 24 #[.slice none 0 0] w fun e w' => e = .returned (.slice none 0 0) ∧ Below w.heap.size w w' := by
  have hq : ∀ (a : Option Addr) (n c : Nat) (w : World), (binOp .eql 29 (.slice a n c) (.slice none 0 0)).run Tryd.prog w = .ok (.bool a.isNone) w := fun a n c w => Lib.run_eql_slice_nil w _ _ a n c 0 0 Tryd.underlying29
  go_enter Tryd.func24, Tryd.ntmps24
  go_wp2
  go_ret
  exact ⟨rfl, Below.refl _ _⟩

set_option maxRecDepth 100000 in
theorem passN_own (base g cap : Nat) (rs : List (Int × Int)) (w : World) (h : w.ownsRow base 48 2 (.slice (some ⟨g, 0, none⟩) rs.length cap) rs.length (rs.flatMap runeC)) (hlen : rs.length ≤ 1099511627776) :
    Calls Tryd.prog 13 #[.pointer none, .slice (some ⟨g, 0, none⟩) rs.length cap] w fun e w' => ∃ v, e = .returned v ∧ w'.ownsRow w.heap.size 48 2 v rs.length (rs.flatMap runeC) ∧ Below w.heap.size w w' := by
  have HC : Hid _ := clone_own base g cap rs w h hlen
  clear h
  go_enter Tryd.func13, Tryd.ntmps13
  go_wp2_with fail
  refine Calls.mono HC.out ?_
  rintro e w' ⟨v, rfl, ho, hb⟩
  have HO : Hid _ := ho
  have HB : Hid _ := hb
  clear ho hb
  go_wp2
  go_ret
  exact ⟨_, rfl, HO.out, HB.out⟩

set_option maxRecDepth 100000 in
theorem passN_nil (w : World) :
    Calls Tryd.prog 13 #[.pointer none, .slice none 0 0] w fun e w' => e = .returned (.slice none 0 0) ∧ Below w.heap.size w w' := by
  have HC : Hid _ := clone_nil w
  go_enter Tryd.func13, Tryd.ntmps13
  go_wp2_with fail
  refine Calls.mono HC.out ?_
  rintro e w' ⟨rfl, hb⟩
  have HB : Hid _ := hb
  clear hb
  go_wp2
  go_ret
  exact ⟨rfl, HB.out⟩

set_option maxRecDepth 100000 in
theorem pass_zero (lb : Nat) (w : World) :
    Calls Tryd.prog 13 #[.pointer (some ⟨lb, 0, none⟩), .slice none 0 0] w fun e w' => e = .returned (.slice none 0 0) ∧ Below w.heap.size w w' := by
  go_enter Tryd.func13, Tryd.ntmps13
  go_wp2
  refine wp_loop_rounds 1 ?_
  rw [rounds_succ]
  go_wp2
  go_ret
  exact ⟨rfl, Below.refl _ _⟩

set_option maxRecDepth 100000 in
theorem feed_nil (s : ByteArray) (w : World) :
    Calls Tryd.prog 11 #[.pointer none, .string s] w fun e w' => e = .returned (.tuple #[.slice none 0 0, .slice none 0 0]) ∧ Below w.heap.size w w' := by
  go_enter Tryd.func11, Tryd.ntmps11
  go_wp2
  go_ret2
  exact ⟨rfl, Below.refl _ _⟩

set_option maxRecDepth 100000 in
theorem end_nil (w : World) :
    Calls Tryd.prog 12 #[.pointer none] w fun e w' => e = .returned (.tuple #[.slice none 0 0, .slice none 0 0]) ∧ Below w.heap.size w w' := by
  go_enter Tryd.func12, Tryd.ntmps12
  go_wp2
  go_ret2
  exact ⟨rfl, Below.refl _ _⟩
end Go.Proofs.YtcndjfpcddidhaaDoor
