/-
  A new stack; what speaks.
-/
import Derived.Test.YtalbiekleggkoaaStIn
namespace Go.Proofs.Ytalbiekleggkoaa
open Go.RowKit

theorem PushP.below {w w' : World} {s B : Nat} {v : Value} {cs : List Itm} {i : Itm} (h : StackAt w s B v cs) (hp : PushP w s B v cs i w') : Below B w w' :=
  ⟨hp.kept.os, hp.kept.tape, hp.kept.output, hp.kept.size, fun k hk => hp.kept.block k (by have := h.le; omega) (fun e => by
    rcases e with e | e
    · have := h.sB
      omega
    · have := (owns_lt h.own k e).1
      omega)⟩

/-- A new stack. -/
theorem stack_new (w : World) : StackAt (w.alloc (.cells #[.slice none 0 0] 26)) w.heap.size w.heap.size (.slice none 0 0) [] :=
  ⟨heap_alloc_new w _, World.ownsRow_nil _ _ _ _, Nat.le_refl _⟩

theorem stIn1 : inOf 0 ⟨#[112]⟩ [⟨1, ⟨#[104, 116, 109, 108]⟩⟩, ⟨2, ⟨#[112]⟩⟩, ⟨3, ⟨#[98]⟩⟩] = true := by decide +kernel
theorem stIn2 : inOf 0 ⟨#[108, 105]⟩ [⟨1, ⟨#[104, 116, 109, 108]⟩⟩, ⟨2, ⟨#[112]⟩⟩, ⟨3, ⟨#[98]⟩⟩] = false := by decide +kernel
theorem stFind : lastOf (fun i => i.node == 3) [⟨1, ⟨#[104, 116, 109, 108]⟩⟩, ⟨2, ⟨#[112]⟩⟩, ⟨3, ⟨#[98]⟩⟩] 3 = 2 := by decide +kernel

set_option maxRecDepth 100000 in
set_option maxHeartbeats 4000000 in
theorem stSpeaks (w : World) : Calls Try.prog 7 #[] w fun e w' => e = .returned (.bool true) ∧ Below w.heap.size w w' := by
  have HN : Hid _ := stack_new w
  have HB0 : Hid (Below w.heap.size w (w.alloc (.cells #[.slice none 0 0] 26))) := (Below.refl _ _).alloc (Nat.le_refl _) _
  go_enter Try.func7, Try.ntmps7
  go_wp2_with fail
  refine Calls.mono (push_any w.heap.size w.heap.size (.slice none 0 0) [] ⟨1, ⟨#[104, 116, 109, 108]⟩⟩ _ HN.out (by decide)) ?_
  rintro e w1 ⟨rfl, hp⟩
  have HB1 : Hid (Below w.heap.size w w1) := HB0.out.trans (hp.below HN.out)
  obtain ⟨v1, h1, _⟩ := hp.at'
  have H1 : Hid _ := h1
  clear hp h1 HN HB0
  go_wp2_with fail
  refine Calls.mono (push_any w.heap.size w.heap.size v1 _ ⟨2, ⟨#[112]⟩⟩ _ H1.out (by decide)) ?_
  rintro e w2 ⟨rfl, hp⟩
  have HB2 : Hid (Below w.heap.size w w2) := HB1.out.trans (hp.below H1.out)
  obtain ⟨v2, h2, _⟩ := hp.at'
  have H2 : Hid _ := h2
  clear hp h2 H1 HB1
  go_wp2_with fail
  refine Calls.mono (push_any w.heap.size w.heap.size v2 _ ⟨3, ⟨#[98]⟩⟩ _ H2.out (by decide)) ?_
  rintro e w3 ⟨rfl, hp⟩
  have HB3 : Hid (Below w.heap.size w w3) := HB2.out.trans (hp.below H2.out)
  obtain ⟨v3, h3, _⟩ := hp.at'
  have H3 : Hid (StackAt w3 w.heap.size w.heap.size v3 [⟨1, ⟨#[104, 116, 109, 108]⟩⟩, ⟨2, ⟨#[112]⟩⟩, ⟨3, ⟨#[98]⟩⟩]) := h3
  clear hp h3 H2 HB2
  go_wp2_with fail
  have HI : Hid _ := in_any w.heap.size w.heap.size v3 _ 0 ⟨#[112]⟩ w3 H3.out (by decide)
  rw [stIn1] at HI
  refine Calls.mono HI.out ?_
  rintro e w4 ⟨rfl, hb4⟩
  have H4 : Hid _ := H3.out.below hb4
  have HB4 : Hid (Below w.heap.size w w4) := HB3.out.trans (hb4.mono HB3.out.size)
  clear hb4 H3 HB3 HI
  go_wp2_with fail
  have HI : Hid _ := in_any w.heap.size w.heap.size v3 _ 0 ⟨#[108, 105]⟩ w4 H4.out (by decide)
  rw [stIn2] at HI
  refine Calls.mono HI.out ?_
  rintro e w5 ⟨rfl, hb5⟩
  have H5 : Hid _ := H4.out.below hb5
  have HB5 : Hid (Below w.heap.size w w5) := HB4.out.trans (hb5.mono HB4.out.size)
  clear hb5 H4 HB4 HI
  go_wp2_with fail
  have HI : Hid _ := find_any w.heap.size w.heap.size v3 _ 3 w5 H5.out (by decide)
  have HE : Hid _ := stFind
  refine Calls.mono HI.out ?_
  rintro e w6 ⟨rfl, hb6⟩
  have HB6 : Hid (Below w.heap.size w w6) := HB5.out.trans (hb6.mono HB5.out.size)
  clear hb6 H5 HB5 HI
  rw [show lastOf (fun i => i.node == 3) [⟨1, ⟨#[104, 116, 109, 108]⟩⟩, ⟨2, ⟨#[112]⟩⟩, ⟨3, ⟨#[98]⟩⟩] (List.length [(⟨1, ⟨#[104, 116, 109, 108]⟩⟩ : Itm), ⟨2, ⟨#[112]⟩⟩, ⟨3, ⟨#[98]⟩⟩]) = 2 from HE.out]
  go_wp2
  go_ret
  exact ⟨rfl, HB6.out⟩
end Go.Proofs.Ytalbiekleggkoaa
