/-
  A tag with one attribute, its value between quotes or without: the run.
-/
import Derived.Test.YtbdfdipeefeajaaDoorLxQuote
namespace Go.Proofs.YtbdfdipeefeajaaDoor
open Go.RowKit

theorem own_mono {w : World} {B B' : Nat} {e : TypeId} {sz n : Nat} {v : Value} {xs : List Value} (h : w.ownsRow B' e sz v n xs) (hB : B ≤ B') : w.ownsRow B e sz v n xs := by
  refine ⟨h.1, ?_⟩
  rcases h.2 with hn | ⟨g, cap, cur, rfl, hg, rest⟩
  · exact .inl hn
  · exact .inr ⟨g, cap, cur, rfl, Nat.le_trans hB hg, rest⟩

theorem en_quoted (a : Value) (w : World) : (callFunc 101 #[a]).run Tryd.prog w = .ok (.enter 101 #[a]) w := enter_of Tryd.func101 (by kernel_rfl) (by kernel_rfl) a w
theorem en_behindQuoted (a : Value) (w : World) : (callFunc 103 #[a]).run Tryd.prog w = .ok (.enter 103 #[a]) w := enter_of Tryd.func103 (by kernel_rfl) (by kernel_rfl) a w

section
variable {w : World} {l R g o cap : Nat} {rs : List (Int × Int)} {B : Nat} {x : Lx} {Post : Tok → World → Prop} {k : Nat}

theorem go_value_quote {c a : Int} (h : Run w l R g o cap rs B x) (hst : x.st = stF 98) (hp : rs[x.pos]? = some (c, a)) (hq : c = 34 ∨ c = 39)
    (hn : ∀ w', Run w' l R g o cap rs B { x with quo := c, pos := x.pos + 1, st := stF 101 } → But l w.heap.size w w' → ∃ cs', Goes l R Post k cs' w') : ∃ cs', Goes l R Post (k + 1) cs' w :=
  run_but 98 en_beforeValue (.inr ⟨_, rfl⟩) h hst (Run.lt ⟨_, _, hp⟩) hn
    (fun q => beforeValue_quote l x.cells g o rs.length cap x.pos c a x.quo (w.drewN q) (h.lex.draws q) (h.next hp q) h.c29 rfl h.ctx.lg hq) rfl rfl h.lo

theorem go_quoted_char {c a : Int} {B' m : Nat} {xs : List Value} (h : Run w l R g o cap rs B x) (hst : x.st = stF 101) (hp : rs[x.pos]? = some (c, a)) (hc : ¬ c = 0) (hc0 : 0 ≤ c) (hc1 : c ≤ 1114111) (hqu : ¬ c = x.quo) (h38 : ¬ c = 38) (hO : w.ownsRow B' 5 1 x.val m xs) (hm : m + 4 ≤ 140737488355328) (hB' : B ≤ B') (hB : B' ≤ w.heap.size)
    (hn : ∀ v' w', Run w' l R g o cap rs B { x with pos := x.pos + 1, val := v', st := stF 101 } → w'.ownsRow B' 5 1 v' (m + (Lib.runeCells c).length) (xs ++ Lib.runeCells c) → Kept l x.val.ownBlock w w' → ∃ cs', Goes l R Post k cs' w') : ∃ cs', Goes l R Post (k + 1) cs' w :=
  run_mid 101 en_quoted (.inr ⟨_, rfl⟩) h hst (Run.lt ⟨_, _, hp⟩) hn
    (fun q => quoted_char l x.cells g o rs.length cap x.pos c a x.quo B' x.val m xs (w.drewN q) (h.lex.draws q) (h.next hp q) h.c29 h.hl hc hc0 hc1 rfl hqu h38 rfl hO hm hB (Nat.lt_of_lt_of_le h.ctx.lB hB')) (fun _ => rfl) (fun _ => rfl) (fun _ => h.lo) hB' (fun j e => Nat.le_trans hB' (hO.lt j e).1)

theorem go_quoted_end {c a : Int} {us vs : List UInt8} (h : Run w l R g o cap rs B x) (hst : x.st = stF 101) (hp : rs[x.pos]? = some (c, a)) (hq : x.quo = c) (ht : x.tok.attrs = none ∧ x.tok.an = 0 ∧ x.tok.ac = 0) (hnm : x.nam = .map none) (hu : w.ownsRow B 5 1 x.word us.length (lxCells us)) (hv : w.ownsRow B 5 1 x.val vs.length (lxCells vs)) (hus : us.length ≤ 1000000)
    (hn : ∀ b cp mp w', Run w' l R g o cap rs B { x with pos := x.pos + 1, tok := { x.tok with attrs := some ⟨b, 0, none⟩, an := 1, ac := cp }, nam := mp, st := stF 103 } → OneAttr l b us vs w' → But l w.heap.size w w' → ∃ cs', Goes l R Post k cs' w') : ∃ cs', Goes l R Post (k + 1) cs' w := by
  obtain ⟨t1, t2, t3⟩ := ht
  refine ⟨x.cells, goes_any (p := x.pos) (n := rs.length) (cap := cap) (ad := some ⟨g, o, none⟩) (cl := x.cl) 101 (stF 103) (fun cs1 w' => ∃ b cp mp, cs1 = ((x.cells.set 1 (.int .i64 ((x.pos + 1 : Nat) : Int))).set 22 mp).set 13 (.slice (some ⟨b, 0, none⟩) 1 cp) ∧ w'.cell? ⟨b, 0, none⟩ = some (.string ⟨us.toArray⟩) ∧ w'.cell? ⟨b, 1, none⟩ = some (.string ⟨vs.toArray⟩) ∧ But l w.heap.size w w') en_quoted (.inr ⟨_, rfl⟩) h.lex (by show some x.st = _; rw [hst]) h.c0 rfl rfl (.inl (Run.lt ⟨_, _, hp⟩))
    (fun q => (quoted_end l x.cells g o rs.length cap x.pos c a B x.word x.val us vs (w.drewN q) (h.lex.draws q) (h.next hp q) h.c29 (by show some (Value.int .i64 x.quo) = _; rw [hq]) (by show some (Value.slice x.tok.attrs x.tok.an x.tok.ac) = _; rw [t1, t2, t3]) rfl rfl (by rw [← hnm]; rfl) hu hv h.hl h.ctx.lB hus).mono ?_) ?_⟩
  · rintro e w' ⟨rfl, b, cp, mp, h1, h2, h3, h4⟩
    exact ⟨rfl, _, h1, b, cp, mp, rfl, h2, h3, ⟨h4.os, h4.tape, h4.output, h4.size, h4.block⟩⟩
  rintro cs1 w12 hL12 ⟨b, cp, mp, rfl, hb0, hb1, hb12⟩
  have hbl : b ≠ l := by
    intro e
    subst e
    have := hL12.c 1 (.int .i64 ((x.pos + 1 : Nat) : Int)) rfl
    rw [hb1] at this
    cases this
  have hA : OneAttr l b us vs w12 := ⟨hb0, hb1, hbl⟩
  have hb13 : But l w12.heap.size w12 (w12.setCell ⟨l, 7, none⟩ (stF 103)) := (But.refl _ _ _).store 7 _
  have hbb := hb12.trans (hb13.mono hb12.size)
  exact hn b cp mp _ ⟨hL12.set 7 (by omega) _, h.ctx.but (hbb.mono h.ctx.le), h.rn, h.lo⟩ (hA.but hb13 (Nat.le_refl _)) hbb

theorem go_behind_quoted {c a : Int} (h : Run w l R g o cap rs B x) (hst : x.st = stF 103) (hp : rs[x.pos]? = some (c, a)) (he : endsI c = true)
    (hn : ∀ w', Run w' l R g o cap rs B { x with st := stF 51 } → But l w.heap.size w w' → ∃ cs', Goes l R Post k cs' w') : ∃ cs', Goes l R Post (k + 1) cs' w :=
  run_but 103 en_behindQuoted (.inr ⟨_, rfl⟩) h hst (Run.lt ⟨_, _, hp⟩) hn
    (fun q => behindQuoted_ends l x.cells g o rs.length cap x.pos c a (w.drewN q) (h.lex.draws q) (h.next hp q) he) rfl rfl h.lo
end

def qX (n : Nat) (g cap pos : Nat) (st : Value) (t : Tok) (word : Value) (aat quo : Int) (val nam : Value) : Lx := { lx0 with cl := true, en := (n : Int), runes := .slice (some ⟨g, 0, none⟩) n cap, pos := pos, st := st, tok := t, less := 0, word := word, aat := aat, quo := quo, val := val, nam := nam }

theorem rune112 : Lib.runeCells (smallI 112) = lxCells [112] := by kernel_rfl

def pTok : Tok := { tok0 with kind := 2, name := ⟨#[112]⟩ }

/-- From the beginning of '<p a=' to the value. -/
theorem quote_prefix (l R g cap B : Nat) (rs : List (Int × Int)) (Post : Tok → World → Prop) (k : Nat) (w : World) (hL : LexAt w l (qX rs.length g cap 0 (stF 16) tok0 (.slice none 0 0) 0 0 (.slice none 0 0) (.map none)).cells) (hX : Ctx w l R g 0 rs B)
    (e0 : rs[0]? = some (60, 0)) (e1 : rs[1]? = some (112, 1)) (e2 : rs[2]? = some (32, 2)) (e3 : rs[3]? = some (97, 3)) (e4 : rs[4]? = some (61, 4))
    (hn : ∀ v w', Run w' l R g 0 cap rs B (qX rs.length g cap 5 (stF 98) pTok v 3 0 (.slice none 0 0) (.map none)) → w'.ownsRow B 5 1 v [(97 : UInt8)].length (lxCells [97]) → But l B w w' → ∃ cs', Goes l R Post k cs' w') : ∃ cs', Goes l R Post (k + 9) cs' w := by
  have hlB := hX.lB
  have h0 : Run w l R g 0 cap rs B (qX rs.length g cap 0 (stF 16) tok0 (.slice none 0 0) 0 0 (.slice none 0 0) (.map none)) := ⟨hL, hX, rfl, rfl⟩
  refine go_text_less h0 rfl rfl e0 fun w1 h1 b1 => ?_
  replace h1 : Run w1 l R g 0 cap rs B (qX rs.length g cap 1 (stF 25) tok0 (.slice none 0 0) 0 0 (.slice none 0 0) (.map none)) := h1
  have B1 := b1.mono hX.le
  refine go_less_letter h1 rfl e1 (by decide) ⟨_, e0⟩ (.inl rfl) fun w2 h2 b2 => ?_
  replace h2 : Run w2 l R g 0 cap rs B (qX rs.length g cap 1 (stF 39) { tok0 with kind := 2 } (.slice none 0 0) 0 0 (.slice none 0 0) (.map none)) := h2
  have B2 := B1.trans (b2.mono h1.ctx.le)
  refine go_name_char h2 rfl e1 (by decide) (by decide) (by decide) (by decide) (World.ownsRow_nil w2 B _ _) (by decide) (Nat.le_refl _) h2.ctx.le fun v3 w3 h3 o3 k3 => ?_
  replace h3 : Run w3 l R g 0 cap rs B (qX rs.length g cap 2 (stF 39) { tok0 with kind := 2 } v3 0 0 (.slice none 0 0) (.map none)) := h3
  have B3 := B2.trans (k3.but (B := B) (by intro k e; cases e) h2.ctx.le)
  rw [rune112] at o3
  refine go_name_end (bs := [112]) h3 rfl e2 (by decide) o3 fun w4 h4 b4 => ?_
  replace h4 : Run w4 l R g 0 cap rs B (qX rs.length g cap 2 (stF 51) pTok v3 0 0 (.slice none 0 0) (.map none)) := h4
  have B4 := B3.trans (b4.mono h3.ctx.le)
  have o4 := owns_but' o3 b4 (Nat.le_refl _) hlB
  refine go_tag_blank h4 rfl e2 (by decide) fun w5 h5 b5 => ?_
  replace h5 : Run w5 l R g 0 cap rs B (qX rs.length g cap 3 (stF 51) pTok v3 0 0 (.slice none 0 0) (.map none)) := h5
  have B5 := B4.trans (b5.mono h4.ctx.le)
  have o5 := owns_but' o4 b5 (Nat.le_refl _) hlB
  refine go_tag_attr h5 rfl e3 (by decide) (by decide) (by decide) (by decide) (IsRow.of o5) (.inl rfl) fun w6 h6 b6 => ?_
  replace h6 : Run w6 l R g 0 cap rs B (qX rs.length g cap 3 (stF 75) pTok (cut0 v3) 3 0 (.slice none 0 0) (.map none)) := h6
  have B6 := B5.trans (b6.mono h5.ctx.le)
  have o6 := owns_cut (owns_but' o5 b6 (Nat.le_refl _) hlB)
  refine go_attr_char h6 rfl e3 (by decide) (by decide) (by decide) (by decide) (by decide) (by decide) (by decide) (by decide) o6 (by decide) (Nat.le_refl _) h6.ctx.le fun v7 w7 h7 o7 k7 => ?_
  replace h7 : Run w7 l R g 0 cap rs B (qX rs.length g cap 4 (stF 75) pTok v7 3 0 (.slice none 0 0) (.map none)) := h7
  have B7 := B6.trans (k7.but (B := B) (fun k e => (o6.lt k e).1) h6.ctx.le)
  rw [rune97] at o7
  refine go_attr_eq h7 rfl e4 fun w8 h8 b8 => ?_
  replace h8 : Run w8 l R g 0 cap rs B (qX rs.length g cap 4 (stF 89) pTok v7 3 0 (.slice none 0 0) (.map none)) := h8
  have B8 := B7.trans (b8.mono h7.ctx.le)
  have o8 := owns_but' o7 b8 (Nat.le_refl _) hlB
  refine go_behind_eq h8 rfl e4 fun w9 h9 b9 => ?_
  exact hn v7 w9 h9 (owns_but' o8 b9 (Nat.le_refl _) hlB) (B8.trans (b9.mono h8.ctx.le))

/-- A byte that a value may hold anywhere. -/
structure ValC (c : UInt8) : Prop where
  lo : 32 < c.toNat
  hi : c.toNat < 127
  n34 : ¬ (c.toNat : Int) = 34
  n39 : ¬ (c.toNat : Int) = 39
  n38 : ¬ (c.toNat : Int) = 38
  n60 : ¬ (c.toNat : Int) = 60
  n62 : ¬ (c.toNat : Int) = 62
  n61 : ¬ (c.toNat : Int) = 61
  n96 : ¬ (c.toNat : Int) = 96

theorem ascii_cells (c : UInt8) (h : c.toNat < 128) : Lib.runeCells (c.toNat : Int) = lxCells [c] := by
  unfold Lib.runeCells
  rw [Lib.encodeRuneZ_one (by omega) (by omega)]
  rfl
theorem lxCells_snoc (l m : List UInt8) : lxCells (l ++ m) = lxCells l ++ lxCells m := by simp [lxCells]
theorem lxCells_len (l : List UInt8) : (lxCells l).length = l.length := by simp [lxCells]

/-- The scalars of a value, from a place on. -/
def ValAt (rs : List (Int × Int)) (p : Nat) (V : List UInt8) : Prop := ∀ i c, V[i]? = some c → rs[p + i]? = some ((c.toNat : Int), ((p + i : Nat) : Int)) ∧ ValC c
theorem ValAt.tail {rs : List (Int × Int)} {p : Nat} {c : UInt8} {V : List UInt8} (h : ValAt rs p (c :: V)) : ValAt rs (p + 1) V := fun i d hd => by
  have := h (i + 1) d (by simpa using hd)
  rw [show p + 1 + i = p + (i + 1) by omega]
  exact this

/-- Between quotes. -/
theorem quoted_run (l R g cap B B' : Nat) (rs : List (Int × Int)) (word : Value) (qu : Int) (Post : Tok → World → Prop) (k : Nat) (hqu : qu = 34 ∨ qu = 39) (hB' : B ≤ B') :
    ∀ (V done : List UInt8) (p : Nat) (val : Value) (w : World), ValAt rs p V → done.length + V.length ≤ 60 → Run w l R g 0 cap rs B (qX rs.length g cap p (stF 101) pTok word 3 qu val (.map none)) → w.ownsRow B' 5 1 val done.length (lxCells done) → w.ownsRow B 5 1 word [(97 : UInt8)].length (lxCells [97]) → (∀ j, word.ownBlock = some j → j < B') → B' ≤ w.heap.size →
    (∀ val' w', Run w' l R g 0 cap rs B (qX rs.length g cap (p + V.length) (stF 101) pTok word 3 qu val' (.map none)) → w'.ownsRow B 5 1 val' (done ++ V).length (lxCells (done ++ V)) → w'.ownsRow B 5 1 word [(97 : UInt8)].length (lxCells [97]) → But l B w w' → ∃ cs', Goes l R Post k cs' w') → ∃ cs', Goes l R Post (k + V.length) cs' w := by
  intro V
  induction V with
  | nil =>
    intro done p val w _ _ h ho hw _ _ hn
    exact hn val w h (by rw [List.append_nil]; exact own_mono ho hB') hw (But.refl _ _ _)
  | cons c V ih =>
    intro done p val w hV hlen h ho hw hwb hBw hn
    obtain ⟨hp, hc⟩ := hV 0 c rfl
    rw [Nat.add_zero] at hp
    have hlo := hc.lo
    have hhi := hc.hi
    rw [List.length_cons, ← Nat.add_assoc]
    refine go_quoted_char (B' := B') h rfl hp (by omega) (by omega) (by omega) (by rcases hqu with rfl | rfl; exact hc.n34; exact hc.n39) hc.n38 ho (by simp at hlen; omega) hB' hBw fun v' w1 h1 o1 k1 => ?_
    have hrow : ∀ j, val.ownBlock = some j → B' ≤ j := fun j e => (ho.lt j e).1
    have b1 : But l B w w1 := k1.but (fun j e => Nat.le_trans hB' (hrow j e)) h.ctx.le
    rw [ascii_cells c (by omega), ← lxCells_snoc, lxCells_len] at o1
    have hw1 := owns_kept hw k1 h.ctx.lB (by
      cases e : word.ownBlock with
      | none => exact .inl rfl
      | some j =>
        refine .inr ?_
        intro e2
        have h1 := hwb j e
        have h2 := hrow j e2.symm
        omega)
    refine ih (done ++ [c]) (p + 1) v' w1 hV.tail (by simp at hlen ⊢; omega) h1 (by rw [List.length_append]; exact o1) hw1 hwb (Nat.le_trans hBw k1.size) fun val' w' h' o' w'' b' => ?_
    rw [List.append_assoc] at o'
    refine hn val' w' ?_ o' w'' (b1.trans b')
    rw [List.length_cons, show p + (V.length + 1) = p + 1 + V.length by omega]
    exact h'

/-- Without quotes. -/
theorem unquoted_run (l R g cap B B' : Nat) (rs : List (Int × Int)) (word : Value) (Post : Tok → World → Prop) (k : Nat) (hB' : B ≤ B') :
    ∀ (V done : List UInt8) (p : Nat) (val : Value) (w : World), ValAt rs p V → done.length + V.length ≤ 60 → Run w l R g 0 cap rs B (qX rs.length g cap p (stF 102) pTok word 3 0 val (.map none)) → w.ownsRow B' 5 1 val done.length (lxCells done) → w.ownsRow B 5 1 word [(97 : UInt8)].length (lxCells [97]) → (∀ j, word.ownBlock = some j → j < B') → B' ≤ w.heap.size →
    (∀ val' w', Run w' l R g 0 cap rs B (qX rs.length g cap (p + V.length) (stF 102) pTok word 3 0 val' (.map none)) → w'.ownsRow B 5 1 val' (done ++ V).length (lxCells (done ++ V)) → w'.ownsRow B 5 1 word [(97 : UInt8)].length (lxCells [97]) → But l B w w' → ∃ cs', Goes l R Post k cs' w') → ∃ cs', Goes l R Post (k + V.length) cs' w := by
  intro V
  induction V with
  | nil =>
    intro done p val w _ _ h ho hw _ _ hn
    exact hn val w h (by rw [List.append_nil]; exact own_mono ho hB') hw (But.refl _ _ _)
  | cons c V ih =>
    intro done p val w hV hlen h ho hw hwb hBw hn
    obtain ⟨hp, hc⟩ := hV 0 c rfl
    rw [Nat.add_zero] at hp
    have hlo := hc.lo
    have hhi := hc.hi
    rw [List.length_cons, ← Nat.add_assoc]
    have hbl : blankI (c.toNat : Int) = false := by
      unfold blankI
      simp only [Bool.or_eq_false_iff, beq_eq_false_iff_ne]
      omega
    refine go_unquoted_char (B' := B') h rfl hp (by omega) (by omega) (by omega) hbl hc.n62 hc.n38 hc.n34 hc.n39 hc.n60 hc.n61 hc.n96 ho (by simp at hlen; omega) hB' hBw fun v' w1 h1 o1 k1 => ?_
    have hrow : ∀ j, val.ownBlock = some j → B' ≤ j := fun j e => (ho.lt j e).1
    have b1 : But l B w w1 := k1.but (fun j e => Nat.le_trans hB' (hrow j e)) h.ctx.le
    rw [ascii_cells c (by omega), ← lxCells_snoc, lxCells_len] at o1
    have hw1 := owns_kept hw k1 h.ctx.lB (by
      cases e : word.ownBlock with
      | none => exact .inl rfl
      | some j =>
        refine .inr ?_
        intro e2
        have h1 := hwb j e
        have h2 := hrow j e2.symm
        omega)
    refine ih (done ++ [c]) (p + 1) v' w1 hV.tail (by simp at hlen ⊢; omega) h1 (by rw [List.length_append]; exact o1) hw1 hwb (Nat.le_trans hBw k1.size) fun val' w' h' o' w'' b' => ?_
    rw [List.append_assoc] at o'
    refine hn val' w' ?_ o' w'' (b1.trans b')
    rw [List.length_cons, show p + (V.length + 1) = p + 1 + V.length by omega]
    exact h'

/-- The tag that is told. -/
structure QuotePost (l R B : Nat) (V : List UInt8) (w0 : World) (t : Tok) (w' : World) : Prop where
  tok : ∃ b cp, t = { pTok with attrs := some ⟨b, 0, none⟩, an := 1, ac := cp } ∧ b ≠ R ∧ w'.cell? ⟨b, 1, none⟩ = some (.string ⟨V.toArray⟩)
  lex : ∃ y : Lx, y.wrong = .slice none 0 0 ∧ LexAt w' l y.cells
  but : But l B w0 w'

/-- The tag's end, behind its attribute. -/
theorem quote_last (l R g cap B p : Nat) (rs : List (Int × Int)) (V : List UInt8) (word val nam : Value) (qu : Int) (b cp : Nat) (w0 w : World) (h : Run w l R g 0 cap rs B (qX rs.length g cap p (stF 51) { pTok with attrs := some ⟨b, 0, none⟩, an := 1, ac := cp } word 3 qu val nam)) (hA : OneAttr l b [97] V w) (hB : But l B w0 w) (hp : rs[p]? = some (62, (p : Int))) (hcap : rs.length ≤ cap) :
    ∃ cs', Goes l R (QuotePost l R B V w0) 1 cs' w := by
  have hlt := (List.getElem?_eq_some_iff.1 hp).1
  refine go_tag_gt h rfl hp rfl fun w1 h1 b1 => ?_
  have a1 := hA.but b1 (Nat.le_refl _)
  refine go_told h1 rfl hlt hcap rfl rfl fun w2 s2 => ?_
  have a2 := a1.but s2.but (Nat.le_refl _)
  obtain ⟨o', _, hL2⟩ := s2.lex
  refine ⟨⟨b, cp, rfl, fun e => ?_, a2.c1⟩, ⟨_, rfl, hL2⟩, (hB.trans (b1.mono h.ctx.le)).trans (s2.but.mono h1.ctx.le)⟩
  subst e
  have := h1.ctx.res.a0
  rw [a1.c0] at this
  cases this
end Go.Proofs.YtbdfdipeefeajaaDoor
