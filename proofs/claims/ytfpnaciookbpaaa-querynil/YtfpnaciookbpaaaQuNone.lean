/-
  Queries of no tree.
-/
import Derived.Test.YtfpnaciookbpaaaQuSpeaks
namespace Go.Proofs.Ytfpnaciookbpaaa
open Go.RowKit

set_option maxRecDepth 100000 in
set_option maxHeartbeats 2000000 in
theorem under_none (n : Int) (w : World) : Calls Try.prog 34 #[.pointer none, .int .i64 n, .slice none 0 0] w fun e w' => e = .returned (.slice none 0 0) ∧ Below w.heap.size w w' := by
  have HE : Hid (∀ f w, _) := fun f w => each_none n f w
  have HB0 : Hid (Below w.heap.size w ((w.alloc (.cells #[.slice none 0 0] 54)).alloc (.cells #[.slice none 0 0] 23))) := ((Below.refl _ _).alloc (Nat.le_refl _) _).alloc (by simp) _
  have HC : Hid (((w.alloc (.cells #[.slice none 0 0] 54)).alloc (.cells #[.slice none 0 0] 23)).heap[w.heap.size + 1]? = some (.cells #[.slice none 0 0] 23 (0, 0))) := by
    have h := heap_alloc_new (w.alloc (.cells #[.slice none 0 0] 54)) (.cells #[.slice none 0 0] 23)
    rw [World.size_alloc] at h
    exact h
  go_enter Try.func34, Try.ntmps34
  go_wp2_with fail
  refine Calls.mono (HE.out _ _) ?_
  rintro e w1 ⟨rfl, h1⟩
  have hblk := (h1.block (w.heap.size + 1) (by simp)).trans HC.out
  have hc : w1.cell? ⟨w.heap.size + 1, 0, none⟩ = some (.slice none 0 0) := by simp [World.cell?, hblk]
  have HB : Hid (Below w.heap.size w w1) := HB0.out.trans (h1.mono HB0.out.size)
  clear h1 hblk HE HB0 HC
  go_wp2
  go_ret
  exact ⟨rfl, HB.out⟩

set_option maxRecDepth 100000 in
set_option maxHeartbeats 2000000 in
theorem elements_none (w : World) : Calls Try.prog 31 #[.pointer none] w fun e w' => e = .returned (.slice none 0 0) ∧ Below w.heap.size w w' := by
  have HU : Hid _ := under_none 0 w
  go_enter Try.func31, Try.ntmps31
  go_wp2_with fail
  refine Calls.mono HU.out ?_
  rintro e w1 ⟨rfl, h1⟩
  have HB : Hid _ := h1
  clear h1 HU
  go_wp2
  go_ret
  exact ⟨rfl, HB.out⟩

set_option maxRecDepth 100000 in
set_option maxHeartbeats 2000000 in
theorem around_none (n : Int) (v : Value) (w : World) : Calls Try.prog 33 #[.pointer none, .int .i64 n, v] w fun e w' => e = .returned (.int .i64 (-1)) ∧ Below w.heap.size w w' := by
  have HP : Hid _ := parent_none n w
  go_enter Try.func33, Try.ntmps33
  go_wp2_with fail
  refine Calls.mono HP.out ?_
  rintro e w1 ⟨rfl, h1⟩
  have HB : Hid _ := h1
  clear h1 HP
  go_wp2
  go_loopg [1] 0 (fun k i wi => k = 0 ∧ i = .int .i64 (-1) ∧ Hid (Below w.heap.size w wi))
  case atStart => exact ⟨rfl, rfl, HB⟩
  case round =>
    clear HB
    obtain ⟨rfl, rfl, hI⟩ := hrel
    go_wp2
    go_ret
    exact ⟨rfl, hI.out⟩

theorem enters_text : ∀ args w, (callFunc 60 args).run Try.prog w = .ok (.enter 60 args) w := enters_of Try.func60 (by kernel_rfl) rfl

set_option maxRecDepth 100000 in
set_option maxHeartbeats 2000000 in
theorem textNot_any (kid kind at' : Int) (name data : ByteArray) (av p : Value) (w : World) (hk : kind ≠ 3) :
    Calls Try.prog 60 #[.int .i64 kid, .agg #[.int .i64 kind, .int .i64 at', .string name, .string data, av], p] w fun e w' => e = .returned (.tuple #[]) ∧ Below w.heap.size w w' := by
  have HB : Hid (∀ o, Below w.heap.size w (w.alloc o)) := fun o => (Below.refl _ _).alloc (Nat.le_refl _) o
  go_enter Try.func60, Try.ntmps60
  go_wp2
  go_end0
  exact ⟨rfl, HB.out _⟩

set_option maxRecDepth 100000 in
set_option maxHeartbeats 4000000 in
theorem text_none (n : Int) (w : World) : Calls Try.prog 32 #[.pointer none, .int .i64 n] w fun e w' => e = .returned (.string ⟨#[]⟩) ∧ Below w.heap.size w w' := by
  have HG : Hid (∀ w, _) := fun w => get_none n w
  have HE : Hid (∀ f w, _) := fun f w => each_none n f w
  have heg := enters_text
  have HX : Hid (∀ p w, _) := fun p w => textNot_any n 0 0 ⟨#[]⟩ ⟨#[]⟩ (.slice none 0 0) p w (by decide)
  have HB0 : Hid (Below w.heap.size w (w.alloc (.cells #[.pointer none, .slice none 0 0] 98))) := (Below.refl _ _).alloc (Nat.le_refl _) _
  have HC : Hid ((w.alloc (.cells #[.pointer none, .slice none 0 0] 98)).heap[w.heap.size]? = some (.cells #[.pointer none, .slice none 0 0] 98 (0, 0))) := heap_alloc_new w _
  go_enter Try.func32, Try.ntmps32
  go_wp2_with fail
  refine Calls.mono (HG.out _) ?_
  rintro e w1 ⟨rfl, h1⟩
  have hs1 : w.heap.size < w1.heap.size := Nat.lt_of_lt_of_le (by simp) h1.size
  have HC1 : Hid _ := (h1.block w.heap.size (by simp)).trans HC.out
  have HB1 : Hid (∀ o, Below w.heap.size w (w1.alloc o)) := fun o => (HB0.out.trans (h1.mono HB0.out.size)).alloc (by omega) o
  have HC2 : Hid (∀ o, (w1.alloc o).heap[w.heap.size]? = _) := fun o => (heap_alloc_old w1 o hs1).trans HC1.out
  clear h1 HG HB0 HC HC1
  go_wp2_with fail
  refine Calls.mono (HX.out _ _) ?_
  rintro e w2 ⟨rfl, h2⟩
  have HC3 : Hid _ := (h2.block w.heap.size (by simp; omega)).trans (HC2.out _)
  have HB2 : Hid (Below w.heap.size w w2) := (HB1.out _).trans (h2.mono (HB1.out _).size)
  have hs2 : w.heap.size < w2.heap.size := (Array.getElem?_eq_some_iff.1 HC3.out).1
  clear h2 HX HB1 HC2
  go_wp2_with fail
  refine Calls.mono (HE.out _ _) ?_
  rintro e w3 ⟨rfl, h3⟩
  have hC4 := (h3.block w.heap.size hs2).trans HC3.out
  have HB3 : Hid (Below w.heap.size w w3) := HB2.out.trans (h3.mono HB2.out.size)
  have HS : Hid _ := Try.Builder_String_any w.heap.size w.heap.size [] w3 (.inl ⟨Nat.le_refl _, _, hC4, World.ownsRow_nil _ _ _ _, by simp [Value.ownBlock]⟩) HB3.out.size
  clear h3 HE HC3 HB2 hC4
  go_wp2_with fail
  refine Calls.mono HS.out ?_
  rintro e w4 ⟨rfl, h4⟩
  have HB4 : Hid (Below w.heap.size w w4) := HB3.out.trans h4
  clear h4 HS HB3
  go_wp2
  go_ret
  exact ⟨rfl, HB4.out⟩
end Go.Proofs.Ytfpnaciookbpaaa
