/-
  A tag with one attribute, its value between quotes or without: through Next.
-/
import Derived.Test.YtbdfdipeefeajaaDoorLxQRun
namespace Go.Proofs.YtbdfdipeefeajaaDoor
open Go.RowKit

def rsOf (T : List UInt8) : List (Int × Int) := T.mapIdx fun i c => ((c.toNat : Int), (i : Int))
theorem rsOf_len (T : List UInt8) : (rsOf T).length = T.length := by simp [rsOf]
theorem rsOf_at (T : List UInt8) (i : Nat) (c : UInt8) (h : T[i]? = some c) : (rsOf T)[i]? = some ((c.toNat : Int), (i : Int)) := by simp [rsOf, h]
theorem rsOf_snoc (T : List UInt8) (c : UInt8) : rsOf (T ++ [c]) = rsOf T ++ [((c.toNat : Int), (T.length : Int))] := by simp [rsOf]

def qText (q : UInt8) (V : List UInt8) : List UInt8 := [60, 112, 32, 97, 61, q] ++ V ++ [q, 62]
def uText (V : List UInt8) : List UInt8 := [60, 112, 32, 97, 61] ++ V ++ [62]

theorem qText_len (q : UInt8) (V : List UInt8) : (qText q V).length = V.length + 8 := by simp [qText]
theorem uText_len (V : List UInt8) : (uText V).length = V.length + 6 := by simp [uText]
theorem qText_val (q : UInt8) (V : List UInt8) (hV : ∀ c ∈ V, ValC c) : ValAt (rsOf (qText q V)) 6 V := fun i c hc => by
  refine ⟨rsOf_at _ _ _ ?_, hV c (List.mem_of_getElem? hc)⟩
  have hi := (List.getElem?_eq_some_iff.1 hc).1
  rw [qText, List.getElem?_append_left (by simp; omega), List.getElem?_append_right (by simp)]
  rw [← hc]
  congr 1
  simp
theorem qText_end (q : UInt8) (V : List UInt8) : (rsOf (qText q V))[6 + V.length]? = some ((q.toNat : Int), ((6 + V.length : Nat) : Int)) ∧ (rsOf (qText q V))[6 + V.length + 1]? = some (62, ((6 + V.length + 1 : Nat) : Int)) := by
  have hl : ([60, 112, 32, 97, 61, q] ++ V).length = 6 + V.length := by simp; omega
  refine ⟨rsOf_at _ _ _ ?_, rsOf_at _ _ 62 ?_⟩
  · rw [qText, List.getElem?_append_right (by omega), hl, Nat.sub_self]
    rfl
  · rw [qText, List.getElem?_append_right (by omega), hl, show 6 + V.length + 1 - (6 + V.length) = 1 by omega]
    rfl
theorem uText_val (V : List UInt8) (hV : ∀ c ∈ V, ValC c) : ValAt (rsOf (uText V)) 5 V := fun i c hc => by
  refine ⟨rsOf_at _ _ _ ?_, hV c (List.mem_of_getElem? hc)⟩
  have hi := (List.getElem?_eq_some_iff.1 hc).1
  rw [uText, List.getElem?_append_left (by simp; omega), List.getElem?_append_right (by simp)]
  rw [← hc]
  congr 1
  simp
theorem uText_end (V : List UInt8) : (rsOf (uText V))[5 + V.length]? = some (62, ((5 + V.length : Nat) : Int)) := by
  have hl : ([60, 112, 32, 97, 61] ++ V).length = 5 + V.length := by simp; omega
  refine rsOf_at _ _ 62 ?_
  rw [uText, List.getElem?_append_right (by omega), hl, Nat.sub_self]
  rfl

theorem quote_goes (l R g cap B : Nat) (q : UInt8) (hq : q = 34 ∨ q = 39) (V : List UInt8) (hV : ∀ c ∈ V, ValC c) (hV60 : V.length ≤ 60) (w : World) (hL : LexAt w l (qX (rsOf (qText q V)).length g cap 0 (stF 16) tok0 (.slice none 0 0) 0 0 (.slice none 0 0) (.map none)).cells) (hX : Ctx w l R g 0 (rsOf (qText q V)) B) (hcap : (rsOf (qText q V)).length ≤ cap) :
    ∃ cs', Goes l R (QuotePost l R B V w) ((1 + 1 + 1 + V.length + 1) + 9) cs' w := by
  have hq' : ((q.toNat : Int) = 34 ∨ (q.toNat : Int) = 39) := by rcases hq with rfl | rfl; exact .inl rfl; exact .inr rfl
  refine quote_prefix l R g cap B (rsOf (qText q V)) _ _ w hL hX (rsOf_at _ 0 60 rfl) (rsOf_at _ 1 112 rfl) (rsOf_at _ 2 32 rfl) (rsOf_at _ 3 97 rfl) (rsOf_at _ 4 61 rfl) fun v w1 h1 o1 b1 => ?_
  refine go_value_quote (a := 5) h1 rfl (rsOf_at _ 5 q rfl) hq' fun w2 h2 b2 => ?_
  have hlB := hX.lB
  have o2 := owns_but' o1 b2 (Nat.le_refl _) hlB
  have B2 := b1.trans (b2.mono h1.ctx.le)
  refine quoted_run l R g cap B w2.heap.size (rsOf (qText q V)) v (q.toNat : Int) _ _ hq' h2.ctx.le V [] 6 (.slice none 0 0) w2 (qText_val q V hV) (by simpa using hV60) h2 (World.ownsRow_nil _ _ _ _) o2 (fun j e => (o2.lt j e).2) (Nat.le_refl _) fun val w3 h3 o3 u3 b3 => ?_
  have B3 := B2.trans b3
  rw [List.nil_append] at o3
  obtain ⟨e6, e7⟩ := qText_end q V
  refine go_quoted_end (us := [97]) (vs := V) h3 rfl e6 rfl ⟨rfl, rfl, rfl⟩ rfl u3 o3 (by decide) fun b cp mp w4 h4 a4 b4 => ?_
  refine go_behind_quoted h4 rfl e7 (by decide) fun w5 h5 b5 => ?_
  exact quote_last l R g cap B (6 + V.length + 1) (rsOf (qText q V)) V v val mp (q.toNat : Int) b cp w w5 h5 (a4.but b5 (Nat.le_refl _)) ((B3.trans (b4.mono h3.ctx.le)).trans (b5.mono h4.ctx.le)) e7 hcap

theorem bare_goes (l R g cap B : Nat) (V : List UInt8) (hV : ∀ c ∈ V, ValC c) (hV60 : V.length ≤ 60) (hV0 : V ≠ []) (w : World) (hL : LexAt w l (qX (rsOf (uText V)).length g cap 0 (stF 16) tok0 (.slice none 0 0) 0 0 (.slice none 0 0) (.map none)).cells) (hX : Ctx w l R g 0 (rsOf (uText V)) B) (hcap : (rsOf (uText V)).length ≤ cap) :
    ∃ cs', Goes l R (QuotePost l R B V w) ((1 + 1 + V.length + 1) + 9) cs' w := by
  obtain ⟨c0, V', rfl⟩ := List.exists_cons_of_ne_nil hV0
  obtain ⟨e5, hc⟩ := uText_val (c0 :: V') hV 0 c0 rfl
  have hlo := hc.lo
  have hbl : blankI (c0.toNat : Int) = false := by
    unfold blankI
    simp only [Bool.or_eq_false_iff, beq_eq_false_iff_ne]
    omega
  refine quote_prefix l R g cap B (rsOf (uText (c0 :: V'))) _ _ w hL hX (rsOf_at _ 0 60 rfl) (rsOf_at _ 1 112 rfl) (rsOf_at _ 2 32 rfl) (rsOf_at _ 3 97 rfl) (rsOf_at _ 4 61 rfl) fun v w1 h1 o1 b1 => ?_
  refine go_value_plain h1 rfl e5 hbl hc.n62 hc.n34 hc.n39 fun w2 h2 b2 => ?_
  have hlB := hX.lB
  have o2 := owns_but' o1 b2 (Nat.le_refl _) hlB
  have B2 := b1.trans (b2.mono h1.ctx.le)
  refine unquoted_run l R g cap B w2.heap.size (rsOf (uText (c0 :: V'))) v _ _ h2.ctx.le (c0 :: V') [] 5 (.slice none 0 0) w2 (uText_val _ hV) (by simpa using hV60) h2 (World.ownsRow_nil _ _ _ _) o2 (fun j e => (o2.lt j e).2) (Nat.le_refl _) fun val w3 h3 o3 u3 b3 => ?_
  have B3 := B2.trans b3
  rw [List.nil_append] at o3
  have e6 := uText_end (c0 :: V')
  refine go_unquoted_gt (B' := B) (us := [97]) (vs := c0 :: V') h3 rfl e6 ⟨rfl, rfl, rfl⟩ rfl u3 o3 (Nat.le_refl _) (by decide) fun b cp mp w4 h4 a4 b4 => ?_
  exact quote_last l R g cap B (5 + (c0 :: V').length) (rsOf (uText (c0 :: V'))) (c0 :: V') v val mp 0 b cp w w4 h4 a4 (B3.trans (b4.mono h3.ctx.le)) e6 hcap

/-- A tag was told. -/
structure QuoteP (l : Nat) (V : List UInt8) (w : World) (t : Tok) (w' : World) : Prop where
  tok : ∃ b cp, t = { pTok with attrs := some ⟨b, 0, none⟩, an := 1, ac := cp } ∧ w'.cell? ⟨b, 1, none⟩ = some (.string ⟨V.toArray⟩)
  lex : ∃ y : Lx, y.wrong = .slice none 0 0 ∧ LexAt w' l y.cells
  but : But l w.heap.size w w'

theorem quote_next (l g cap K : Nat) (rs : List (Int × Int)) (V : List UInt8) (w : World) (hL : LexAt w l (qX rs.length g cap 0 .nilFunc tok0 (.slice none 0 0) 0 0 (.slice none 0 0) (.map none)).cells) (hlg : l ≠ g) (hg : g < w.heap.size) (hfew : rs.length ≤ 500)
    (hsc : ∀ (i : Nat) (c a : Int), rs[i]? = some (c, a) → w.cell? ⟨g, i * 2, none⟩ = some (.int .i64 c) ∧ w.cell? ⟨g, i * 2 + 1, none⟩ = some (.int .i64 a))
    (hgo : ∀ (R B : Nat) (w0 : World), LexAt w0 l (qX rs.length g cap 0 (stF 16) tok0 (.slice none 0 0) 0 0 (.slice none 0 0) (.map none)).cells → Ctx w0 l R g 0 rs B → ∃ cs', Goes l R (QuotePost l R B V w0) K cs' w0) :
    Calls Tryd.prog 10 #[.pointer (some ⟨l, 0, none⟩)] w fun e w' => ∃ t, e = .returned (.tuple #[tokV t, .bool true]) ∧ QuoteP l V w t w' := by
  have hl := hL.ne_of
  obtain ⟨hL0, hX0, hb0⟩ := ctx_new (o := 0) (rs := rs) hL hl hlg hg (fun i c a hi => by rw [Nat.zero_add]; exact hsc i c a hi) (by omega) (.func (.func 16) #[] #[])
  refine (next_chain l _ (Goes l w.heap.size _) (QuotePost l w.heap.size (w.heap.size + 1) V _) K w hL hl rfl rfl rfl (goes_chain _ _ _) (hgo w.heap.size (w.heap.size + 1) _ hL0 hX0)).mono ?_
  rintro e w' ⟨t, rfl, w1, ⟨⟨b, cp, ht, hbR, h1⟩, ⟨y, hy, hL1⟩, hb1⟩, hb2⟩
  have hbs : b < w1.heap.size := World.block_lt_of_cell? w1 _ h1
  have hs0 := hb0.size
  have hs1 := hb1.size
  refine ⟨t, rfl, ⟨⟨b, cp, ht, (World.cell?_of_block (a := ⟨b, 1, none⟩) (hb2.block b hbs hbR)).trans h1⟩, ⟨y, hy, hL1.but hb2 (by omega) (by omega)⟩, ?_⟩⟩
  exact (hb0.trans (hb1.mono (by omega))).trans ⟨hb2.os, hb2.tape, hb2.output, hb2.size, fun k hk _ => hb2.block k (by omega) (by omega)⟩

/-- One of the three texts. -/
def IsText (T V : List UInt8) : Prop := T = qText 34 V ∨ T = qText 39 V ∨ (T = uText V ∧ V ≠ [])

theorem text_next (l g cap : Nat) (T V : List UInt8) (hT : IsText T V) (hV : ∀ c ∈ V, ValC c) (hV60 : V.length ≤ 60) (w : World) (hL : LexAt w l (qX (rsOf T).length g cap 0 .nilFunc tok0 (.slice none 0 0) 0 0 (.slice none 0 0) (.map none)).cells) (hlg : l ≠ g) (hg : g < w.heap.size) (hcap : (rsOf T).length ≤ cap)
    (hsc : ∀ (i : Nat) (c a : Int), (rsOf T)[i]? = some (c, a) → w.cell? ⟨g, i * 2, none⟩ = some (.int .i64 c) ∧ w.cell? ⟨g, i * 2 + 1, none⟩ = some (.int .i64 a)) :
    Calls Tryd.prog 10 #[.pointer (some ⟨l, 0, none⟩)] w fun e w' => ∃ t, e = .returned (.tuple #[tokV t, .bool true]) ∧ QuoteP l V w t w' := by
  rcases hT with rfl | rfl | ⟨rfl, hV0⟩
  · exact quote_next l g cap _ _ V w hL hlg hg (by rw [rsOf_len, qText_len]; omega) hsc (fun R B w0 h1 h2 => quote_goes l R g cap B 34 (.inl rfl) V hV hV60 w0 h1 h2 hcap)
  · exact quote_next l g cap _ _ V w hL hlg hg (by rw [rsOf_len, qText_len]; omega) hsc (fun R B w0 h1 h2 => quote_goes l R g cap B 39 (.inr rfl) V hV hV60 w0 h1 h2 hcap)
  · exact quote_next l g cap _ _ V w hL hlg hg (by rw [rsOf_len, uText_len]; omega) hsc (fun R B w0 h1 h2 => bare_goes l R g cap B V hV hV60 hV0 w0 h1 h2 hcap)
end Go.Proofs.YtbdfdipeefeajaaDoor
