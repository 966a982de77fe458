/-
  A tag with one attribute, whole: what every statement on the lexer asks first.
-/
import Derived.Test.YtgdjknbbjpcoiaaGreatDoorLxRec
namespace Go.Proofs.YtgdjknbbjpcoiaaGreatDoor
open Go.RowKit

def tagRs : List (Int × Int) := [(60, 0), (97, 1), (32, 2), (98, 3), (61, 4), (49, 5), (62, 6)]

structure TagPost (l R B : Nat) (w0 : World) (t : Tok) (w' : World) : Prop where
  tok : ∃ b cp, t = { tok0 with kind := 2, name := ⟨#[97]⟩, attrs := some ⟨b, 0, none⟩, an := 1, ac := cp } ∧ b ≠ R ∧ w'.cell? ⟨b, 0, none⟩ = some (.string ⟨#[98]⟩) ∧ w'.cell? ⟨b, 1, none⟩ = some (.string ⟨#[49]⟩)
  but : But l B w0 w'

def tgX (g cap pos : Nat) (st : Value) (t : Tok) (less : Nat) (word : Value) (aat : Int) (val nam : Value) : Lx := { lx0 with runes := .slice (some ⟨g, 0, none⟩) 7 cap, pos := pos, st := st, tok := t, less := less, word := word, aat := aat, val := val, nam := nam }

theorem rune97 : Lib.runeCells (smallI 97) = lxCells [97] := by kernel_rfl
theorem rune98 : Lib.runeCells (smallI 98) = lxCells [98] := by kernel_rfl
theorem rune49 : Lib.runeCells 49 = lxCells [49] := by kernel_rfl

theorem tag_goes (l R g cap B : Nat) (w : World) (hL : LexAt w l ((lexNew.set 0 (.slice (some ⟨g, 0, none⟩) 7 cap)).set 7 (.func (.func 39) #[] #[]))) (hX : Ctx w l R g 0 tagRs B) (hcap : 7 ≤ cap) :
    ∃ cs', Goes l R (TagPost l R B w) 13 cs' w := by
  have hlB := hX.lB
  have h0 : Run w l R g 0 cap tagRs B (tgX g cap 0 (stF 39) tok0 0 (.slice none 0 0) 0 (.slice none 0 0) (.map none)) := ⟨hL, hX, rfl, rfl⟩
  refine go_text_less h0 rfl rfl rfl fun w1 h1 b1 => ?_
  replace h1 : Run w1 l R g 0 cap tagRs B (tgX g cap 1 (stF 63) tok0 0 (.slice none 0 0) 0 (.slice none 0 0) (.map none)) := h1
  have B1 := b1.mono hX.le
  refine go_less_letter h1 rfl rfl (by decide) ⟨_, rfl⟩ (.inl rfl) fun w2 h2 b2 => ?_
  replace h2 : Run w2 l R g 0 cap tagRs B (tgX g cap 1 (stF 101) { tok0 with kind := 2 } 0 (.slice none 0 0) 0 (.slice none 0 0) (.map none)) := h2
  have B2 := B1.trans (b2.mono h1.ctx.le)
  refine go_name_char h2 rfl rfl (by decide) (by decide) (by decide) (by decide) (World.ownsRow_nil w2 B _ _) (by decide) (Nat.le_refl _) h2.ctx.le fun v3 w3 h3 o3 k3 => ?_
  replace h3 : Run w3 l R g 0 cap tagRs B (tgX g cap 2 (stF 101) { tok0 with kind := 2 } 0 v3 0 (.slice none 0 0) (.map none)) := h3
  have B3 := B2.trans (k3.but (B := B) (by intro k e; cases e) h2.ctx.le)
  rw [rune97] at o3
  refine go_name_end (bs := [97]) h3 rfl rfl (by decide) o3 fun w4 h4 b4 => ?_
  replace h4 : Run w4 l R g 0 cap tagRs B (tgX g cap 2 (stF 146) { tok0 with kind := 2, name := ⟨#[97]⟩ } 0 v3 0 (.slice none 0 0) (.map none)) := h4
  have B4 := B3.trans (b4.mono h3.ctx.le)
  have o4 := owns_but' o3 b4 (Nat.le_refl _) hlB
  refine go_tag_blank h4 rfl rfl (by decide) fun w5 h5 b5 => ?_
  replace h5 : Run w5 l R g 0 cap tagRs B (tgX g cap 3 (stF 146) { tok0 with kind := 2, name := ⟨#[97]⟩ } 0 v3 0 (.slice none 0 0) (.map none)) := h5
  have B5 := B4.trans (b5.mono h4.ctx.le)
  have o5 := owns_but' o4 b5 (Nat.le_refl _) hlB
  refine go_tag_attr h5 rfl rfl (by decide) (by decide) (by decide) (by decide) (IsRow.of o5) (.inl rfl) fun w6 h6 b6 => ?_
  replace h6 : Run w6 l R g 0 cap tagRs B (tgX g cap 3 (stF 197) { tok0 with kind := 2, name := ⟨#[97]⟩ } 0 (cut0 v3) 3 (.slice none 0 0) (.map none)) := h6
  have B6 := B5.trans (b6.mono h5.ctx.le)
  have o6 := owns_cut (owns_but' o5 b6 (Nat.le_refl _) hlB)
  refine go_attr_char h6 rfl rfl (by decide) (by decide) (by decide) (by decide) (by decide) (by decide) (by decide) (by decide) o6 (by decide) (Nat.le_refl _) h6.ctx.le fun v7 w7 h7 o7 k7 => ?_
  replace h7 : Run w7 l R g 0 cap tagRs B (tgX g cap 4 (stF 197) { tok0 with kind := 2, name := ⟨#[97]⟩ } 0 v7 3 (.slice none 0 0) (.map none)) := h7
  have B7 := B6.trans (k7.but (B := B) (fun k e => (o6.lt k e).1) h6.ctx.le)
  rw [rune98] at o7
  refine go_attr_eq h7 rfl rfl fun w8 h8 b8 => ?_
  replace h8 : Run w8 l R g 0 cap tagRs B (tgX g cap 4 (stF 220) { tok0 with kind := 2, name := ⟨#[97]⟩ } 0 v7 3 (.slice none 0 0) (.map none)) := h8
  have B8 := B7.trans (b8.mono h7.ctx.le)
  have o8 := owns_but' o7 b8 (Nat.le_refl _) hlB
  refine go_behind_eq h8 rfl rfl fun w9 h9 b9 => ?_
  replace h9 : Run w9 l R g 0 cap tagRs B (tgX g cap 5 (stF 237) { tok0 with kind := 2, name := ⟨#[97]⟩ } 0 v7 3 (.slice none 0 0) (.map none)) := h9
  have B9 := B8.trans (b9.mono h8.ctx.le)
  have o9 := owns_but' o8 b9 (Nat.le_refl _) hlB
  refine go_value_plain h9 rfl rfl (by decide) (by decide) (by decide) (by decide) fun w10 h10 b10 => ?_
  replace h10 : Run w10 l R g 0 cap tagRs B (tgX g cap 5 (stF 244) { tok0 with kind := 2, name := ⟨#[97]⟩ } 0 v7 3 (.slice none 0 0) (.map none)) := h10
  have B10 := B9.trans (b10.mono h9.ctx.le)
  have o10 := owns_but' o9 b10 (Nat.le_refl _) hlB
  refine go_unquoted_char h10 rfl rfl (by decide) (by decide) (by decide) (by decide) (by decide) (by decide) (by decide) (by decide) (by decide) (by decide) (by decide) (World.ownsRow_nil w10 B _ _) (by decide) (Nat.le_refl _) h10.ctx.le fun v11 w11 h11 o11 k11 => ?_
  replace h11 : Run w11 l R g 0 cap tagRs B (tgX g cap 6 (stF 244) { tok0 with kind := 2, name := ⟨#[97]⟩ } 0 v7 3 v11 (.map none)) := h11
  have B11 := B10.trans (k11.but (B := B) (by intro k e; cases e) h10.ctx.le)
  replace k11 : Kept l none w10 w11 := k11
  have u11 := owns_kept o10 k11 hlB (by
    cases v7.ownBlock with
    | none => exact .inl rfl
    | some j => exact .inr (by simp))
  rw [rune49] at o11
  refine go_unquoted_gt (us := [98]) (vs := [49]) h11 rfl rfl ⟨rfl, rfl, rfl⟩ rfl u11 o11 (Nat.le_refl _) (by decide) fun b cp mp w12 h12 a12 b12 => ?_
  replace h12 : Run w12 l R g 0 cap tagRs B (tgX g cap 6 (stF 146) { tok0 with kind := 2, name := ⟨#[97]⟩, attrs := some ⟨b, 0, none⟩, an := 1, ac := cp } 0 v7 3 v11 mp) := h12
  have B12 := B11.trans (b12.mono h11.ctx.le)
  refine go_tag_gt h12 rfl rfl rfl fun w13 h13 b13 => ?_
  replace h13 : Run w13 l R g 0 cap tagRs B (tgX g cap 7 .nilFunc { tok0 with kind := 2, name := ⟨#[97]⟩, attrs := some ⟨b, 0, none⟩, an := 1, ac := cp } 0 v7 3 v11 mp) := h13
  have B13 := B12.trans (b13.mono h12.ctx.le)
  have a13 := a12.but b13 (Nat.le_refl _)
  refine go_told h13 rfl (Nat.le_refl 7) hcap rfl rfl fun w14 s14 => ?_
  have a14 := a13.but s14.but (Nat.le_refl _)
  refine ⟨⟨b, cp, rfl, fun e => ?_, a14.c0, a14.c1⟩, B13.trans (s14.but.mono h13.ctx.le)⟩
  subst e
  have := h13.ctx.res.a0
  rw [a13.c0] at this
  cases this
end Go.Proofs.YtgdjknbbjpcoiaaGreatDoor
