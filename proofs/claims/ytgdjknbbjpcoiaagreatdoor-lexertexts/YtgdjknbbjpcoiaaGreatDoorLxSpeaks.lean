/-
  What every statement on the lexer asks first.
-/
import Derived.Test.YtgdjknbbjpcoiaaGreatDoorLxTagA
import Derived.Test.YtgdjknbbjpcoiaaGreatDoorSpeaksP
namespace Go.Proofs.YtgdjknbbjpcoiaaGreatDoor
open Go.RowKit

/-- A result's block, just laid. -/
theorem resAt_new (w : World) : ResAt (w.alloc (.cells #[.int .i64 0, .int .i64 0, .int .i64 0, .string ⟨#[]⟩, .string ⟨#[]⟩, .slice none 0 0, .bool false, .bool false] 41)) w.heap.size := by
  have e0 := heap_alloc_new w (.cells #[.int .i64 0, .int .i64 0, .int .i64 0, .string ⟨#[]⟩, .string ⟨#[]⟩, .slice none 0 0, .bool false, .bool false] 41)
  have kc := fun j => cell_of_row _ _ j #[.int .i64 0, .int .i64 0, .int .i64 0, .string ⟨#[]⟩, .string ⟨#[]⟩, .slice none 0 0, .bool false, .bool false] 41 (0, 0) e0
  refine ⟨kc 0, kc 1, kc 2, kc 3, kc 4, kc 5, kc 6, kc 7, fun j => ?_⟩
  simp only [World.frozen?, e0]
  simp

/-- Next, from the state ahead of every token: its loop's beginning. -/
theorem ctx_new {w : World} {l g o : Nat} {cs : List Value} {rs : List (Int × Int)} (hL : LexAt w l cs) (hl : l < w.heap.size) (hlg : l ≠ g) (hg : g < w.heap.size) (hsc : ∀ i c a, rs[i]? = some (c, a) → w.cell? ⟨g, o + i * 2, none⟩ = some (.int .i64 c) ∧ w.cell? ⟨g, o + i * 2 + 1, none⟩ = some (.int .i64 a)) (hfew : rs.length ≤ 4611686018427387904) (f : Value) :
    LexAt ((w.setCell ⟨l, 7, none⟩ f).alloc (.cells #[.int .i64 0, .int .i64 0, .int .i64 0, .string ⟨#[]⟩, .string ⟨#[]⟩, .slice none 0 0, .bool false, .bool false] 41)) l (cs.set 7 f) ∧
    Ctx ((w.setCell ⟨l, 7, none⟩ f).alloc (.cells #[.int .i64 0, .int .i64 0, .int .i64 0, .string ⟨#[]⟩, .string ⟨#[]⟩, .slice none 0 0, .bool false, .bool false] 41)) l w.heap.size g o rs (w.heap.size + 1) ∧
    But l w.heap.size w ((w.setCell ⟨l, 7, none⟩ f).alloc (.cells #[.int .i64 0, .int .i64 0, .int .i64 0, .string ⟨#[]⟩, .string ⟨#[]⟩, .slice none 0 0, .bool false, .bool false] 41)) := by
  have hs : (w.setCell ⟨l, 7, none⟩ f).heap.size = w.heap.size := by simp [World.setCell]
  have hb : But l w.heap.size w ((w.setCell ⟨l, 7, none⟩ f).alloc (.cells #[.int .i64 0, .int .i64 0, .int .i64 0, .string ⟨#[]⟩, .string ⟨#[]⟩, .slice none 0 0, .bool false, .bool false] 41)) :=
    ((But.refl l _ w).store 7 f).trans (But.of ((Below.refl _ _).alloc (by omega) _))
  have hr := resAt_new (w.setCell ⟨l, 7, none⟩ f)
  rw [hs] at hr
  refine ⟨(hL.set 7 (by omega) f).below ((Below.refl _ _).alloc (Nat.le_refl _) _) (by omega), ⟨hr, fun i c a hi => ?_, by omega, by omega, by omega, by omega, hlg, by simp [hs], hfew⟩, hb⟩
  have kc : ∀ j, _ = w.cell? ⟨g, j, none⟩ := fun j => World.cell?_of_block (a := ⟨g, j, none⟩) (hb.block g hg (fun e => hlg e.symm))
  exact ⟨(kc _).trans (hsc i c a hi).1, (kc _).trans (hsc i c a hi).2⟩

structure TagTold (l : Nat) (w : World) (t : Tok) (w' : World) : Prop where
  tok : ∃ b cp, t = { tok0 with kind := 2, name := ⟨#[97]⟩, attrs := some ⟨b, 0, none⟩, an := 1, ac := cp } ∧ w'.cell? ⟨b, 0, none⟩ = some (.string ⟨#[98]⟩) ∧ w'.cell? ⟨b, 1, none⟩ = some (.string ⟨#[49]⟩)
  but : But l w.heap.size w w'

theorem tag_next (l g cap : Nat) (w : World) (hL : LexAt w l (lexNew.set 0 (.slice (some ⟨g, 0, none⟩) 7 cap))) (hl : l < w.heap.size) (hlg : l ≠ g) (hg : g < w.heap.size) (hcap : 7 ≤ cap) (hsc : ∀ i c a, tagRs[i]? = some (c, a) → w.cell? ⟨g, 0 + i * 2, none⟩ = some (.int .i64 c) ∧ w.cell? ⟨g, 0 + i * 2 + 1, none⟩ = some (.int .i64 a)) :
    Calls Tryz.prog 21 #[.pointer (some ⟨l, 0, none⟩)] w fun e w' => ∃ t, e = .returned (.tuple #[tokV t, .bool true]) ∧ TagTold l w t w' := by
  obtain ⟨hL0, hX0, hb0⟩ := ctx_new hL hl hlg hg hsc (by decide) (.func (.func 39) #[] #[])
  refine (next_chain l _ (Goes l w.heap.size _) (TagPost l w.heap.size (w.heap.size + 1) _) 13 w hL hl rfl rfl rfl (goes_chain _ _ _) (tag_goes l w.heap.size g cap (w.heap.size + 1) _ hL0 hX0 hcap)).mono ?_
  rintro e w' ⟨t, rfl, w1, ⟨⟨b, cp, ht, hbR, h0, h1⟩, hb1⟩, hb2⟩
  have hbs : b < w1.heap.size := World.block_lt_of_cell? w1 _ h0
  refine ⟨t, rfl, ⟨⟨b, cp, ht, (World.cell?_of_block (a := ⟨b, 0, none⟩) (hb2.block b hbs hbR)).trans h0, (World.cell?_of_block (a := ⟨b, 1, none⟩) (hb2.block b hbs hbR)).trans h1⟩, ?_⟩⟩
  have hs0 := hb0.size
  have hs1 := hb1.size
  exact (hb0.trans (hb1.mono (by omega))).trans ⟨hb2.os, hb2.tape, hb2.output, hb2.size, fun k hk _ => hb2.block k (by omega) (by omega)⟩

def tagBytes : ByteArray := ⟨#[60, 97, 32, 98, 61, 49, 62]⟩
theorem tagFed : feedR ⟨2, 0, 0, 0, 0, 0, 0⟩ tagBytes.data.toList = tagRs := by rfl

theorem addr_at (g j : Nat) : (⟨g, 0, none⟩ : Addr).add j = ⟨g, j, none⟩ := by cases j <;> simp [Addr.add]
theorem own_at {w : World} {base g cap n : Nat} {e : TypeId} {sz : Nat} {xs : List Value} (h : w.ownsRow base e sz (.slice (some ⟨g, 0, none⟩) n cap) n xs) (j : Nat) (u : Value) (hj : xs[j]? = some u) : w.cell? ⟨g, j, none⟩ = some u := by
  have := h.cells rfl j u hj
  rw [addr_at] at this
  exact this
theorem own_room {w : World} {base g cap n : Nat} {e : TypeId} {sz : Nat} {xs : List Value} (h : w.ownsRow base e sz (.slice (some ⟨g, 0, none⟩) n cap) n xs) : n ≤ cap := by
  rcases h.2 with ⟨hv, _⟩ | ⟨g', cap', cur, hv, _, _, hn, _⟩
  · cases hv
  · injection hv with _ _ e
    omega

theorem tag_cells {w : World} {base g cap : Nat} (h : w.ownsRow base 121 2 (.slice (some ⟨g, 0, none⟩) 7 cap) 7 (tagRs.flatMap runeC)) : ∀ i c a, tagRs[i]? = some (c, a) → w.cell? ⟨g, 0 + i * 2, none⟩ = some (.int .i64 c) ∧ w.cell? ⟨g, 0 + i * 2 + 1, none⟩ = some (.int .i64 a) := by
  intro i c a hi
  have hlt := (List.getElem?_eq_some_iff.1 hi).1
  have hv := (List.getElem?_eq_some_iff.1 hi).2
  have hr := rune_at tagRs i hlt
  rw [hv] at hr
  refine ⟨own_at h _ _ ?_, own_at h _ _ ?_⟩
  · rw [Nat.zero_add, Nat.mul_comm]; exact hr.1
  · rw [Nat.zero_add, Nat.mul_comm]; exact hr.2

theorem tag_one : ∀ u ∈ tagRs.flatMap runeC, u.oneCell' = true := by
  intro u hu
  simp [tagRs, runeC] at hu
  rcases hu with rfl | rfl | rfl | rfl | rfl | rfl | rfl | rfl | rfl | rfl | rfl | rfl | rfl | rfl <;> rfl

set_option maxRecDepth 100000 in
set_option maxHeartbeats 2000000 in
theorem lxSpeaks (w : World) (hW : IsWin w) :
    Calls Tryz.prog 7 #[] w fun e w' => e = .returned (.bool true) ∧ Below w.heap.size w w' := by
  have HW : Hid _ := hW
  have HL : Hid _ := iswin_lt hW
  clear hW
  go_enter Tryz.func7, Tryz.ntmps7
  go_wp2_with fail
  refine Calls.mono (lexNew_any w) ?_
  rintro e w1 ⟨rfl, hw1⟩
  have HB1 : Hid (Below w.heap.size w w1 ∧ w1.heap.size = w.heap.size + 1 ∧ LexAt w1 w.heap.size lexNew) := by
    rw [hw1]
    exact ⟨(Below.refl _ _).alloc (Nat.le_refl _) _, by simp, lexNew_at w _⟩
  clear hw1
  have HW1 : Hid _ := iswin_below HW.out HB1.out.1 (Nat.le_refl _)
  go_wp2_with fail
  refine Calls.mono (new_any 2 0 w1) ?_
  rintro e w2 ⟨rfl, hD2, hb2, hz2⟩
  have HW2 : Hid _ := iswin_below HW1.out hb2 (Nat.le_refl _)
  have HF2 : Hid _ := feed_any w1.heap.size _ tagBytes w2 hD2 (by omega) HW2.out (by have := iswin_lt HW1.out; omega) (.inl rfl) (by decide) (by decide) (by decide)
  have HL2 : Hid _ := HB1.out.2.2.below hb2 (by have := HB1.out.2.1; omega)
  have HB2 : Hid _ := HB1.out.1.trans (hb2.mono (by have := HB1.out.2.1; omega))
  have HS2 : Hid (w2.heap.size = w1.heap.size + 1) := hz2
  clear hD2 hb2 hz2
  go_wp2_with fail
  refine Calls.mono HF2.out ?_
  rintro e w3 ⟨vr1, vw1, rfl, hr1, hv1, hD3, hb3⟩
  rw [tagFed] at hr1
  obtain ⟨g, cap, rfl, hcap, hg, hgl, hcells⟩ := own_runes hr1 (by decide)
  obtain ⟨aw, capw, rfl⟩ := own_head hv1
  have hs1 := HB1.out.2.1
  have hs2 := HS2.out
  have hs3 := hb3.size
  have HL3 : Hid _ := HL2.out.but hb3 (by omega) (by omega)
  have HP3 : Hid _ := put_first w.heap.size lexNew g 0 7 cap (tagRs.flatMap runeC) w3 HL3.out (by omega) rfl rfl (by decide) (by decide) (by decide) (fun j u hj => by rw [addr_at]; exact own_at hr1 j u hj) tag_one
  have HB3 : Hid _ := HB2.out.trans ((hb3.mono (by omega : w.heap.size ≤ w2.heap.size)).below (by omega))
  clear hr1 hv1 hD3 hb3 HF2 hcells hs1 hs2 hs3
  go_wp2_with fail
  refine Calls.mono HP3.out ?_
  rintro e w4 ⟨rfl, ⟨g4, cap4, hL4, hown4⟩, hb4⟩
  have hz4 := hb4.size
  have hs1 := HB1.out.2.1
  have hs2 := HS2.out
  have HB4 : Hid _ := HB3.out.trans ((hb4.mono HB3.out.size).below (Nat.le_refl _))
  have hg4 := hown4.lt g4 rfl
  have hs3 := HB3.out.size
  have HN4 : Hid _ := tag_next w.heap.size g4 cap4 w4 hL4 (by omega) (by omega) (by omega) (own_room hown4) (tag_cells hown4)
  clear hL4 hown4 hb4 HP3 HL3 hg4 hs1 hs2 hs3 hz4 hg hgl hcap
  go_wp2_with fail
  refine Calls.mono HN4.out ?_
  rintro e w5 ⟨t, rfl, ⟨b, cp, rfl, h0, h1⟩, hb5⟩
  have HB5 : Hid _ := HB4.out.trans ((hb5.mono HB4.out.size).below (Nat.le_refl _))
  have hbs : b < w5.heap.size := World.block_lt_of_cell? w5 _ h0
  have d0 : ∀ o, (w5.alloc o).cell? ⟨b, 0, none⟩ = some (.string ⟨#[98]⟩) := fun o => (World.cell?_of_block (a := ⟨b, 0, none⟩) (heap_alloc_old w5 o hbs)).trans h0
  have d1 : ∀ o, (w5.alloc o).cell? ⟨b, 1, none⟩ = some (.string ⟨#[49]⟩) := fun o => (World.cell?_of_block (a := ⟨b, 1, none⟩) (heap_alloc_old w5 o hbs)).trans h1
  have HB6 : Hid (∀ o, Below w.heap.size w (w5.alloc o)) := fun o => HB5.out.alloc HB5.out.size o
  clear HN4 hb5 h0 h1 hbs
  unfold tokV tok0
  go_wp2
  go_ret
  exact ⟨rfl, HB6.out _⟩
end Go.Proofs.YtgdjknbbjpcoiaaGreatDoor
