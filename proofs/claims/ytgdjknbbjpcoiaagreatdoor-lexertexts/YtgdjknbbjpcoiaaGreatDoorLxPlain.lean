/-
  Text, scalar by scalar, and the end of a document: through Next.
-/
import Derived.Test.YtgdjknbbjpcoiaaGreatDoorLxMode
namespace Go.Proofs.YtgdjknbbjpcoiaaGreatDoor
open Go.RowKit

section
variable {w : World} {l R g o cap : Nat} {rs : List (Int × Int)} {B : Nat} {x : Lx} {Post : Tok → World → Prop} {k : Nat}
theorem go_text_plain {c a : Int} (h : Run w l R g o cap rs B x) (hst : x.st = stF 39) (hp : rs[x.pos]? = some (c, a)) (hc : ¬ c = 0) (h60 : ¬ c = 60) (h38 : ¬ c = 38)
    (hn : ∀ w', Run w' l R g o cap rs B { x with pos := x.pos + 1, tok := { tok0 with kind := 1, value := c, at' := a }, st := .nilFunc } → But l w.heap.size w w' → ∃ cs', Goes l R Post k cs' w') : ∃ cs', Goes l R Post (k + 1) cs' w :=
  run_but 39 en_text (.inl rfl) h hst (Run.lt ⟨_, _, hp⟩) hn
    (fun q => text_plain l x.cells x.tok g o rs.length cap x.pos c a x.md (w.drewN q) (h.lex.draws q) (h.next hp q) x.tokAt h.c29 rfl h.hl hc h60 h38) rfl rfl h.lo
end

/-- A lexer ahead of a token. -/
structure Ahead (x : Lx) : Prop where
  pos : x.pos = 0
  ov : x.ov = false
  st : x.st = .nilFunc
  tok : x.tok = tok0
  lo : x.lo = false
  later : x.later = .slice none 0 0
  met : x.met = .slice none 0 0
  wrong : x.wrong = .slice none 0 0

/-- Behind a scalar that was told as text. -/
structure PlainP (l g cap n o : Nat) (x : Lx) (w w' : World) : Prop where
  lex : ∃ o', (1 < cap → o' = o + 2) ∧ LexAt w' l { x with runes := .slice (some ⟨g, o', none⟩) n (cap - 1) }.cells
  but : But l w.heap.size w w'

structure PlainT (l g cap n o : Nat) (x : Lx) (c a : Int) (B : Nat) (w : World) (t : Tok) (w' : World) : Prop where
  tok : t = { tok0 with kind := 1, value := c, at' := a }
  lex : ∃ o', (1 < cap → o' = o + 2) ∧ LexAt w' l { x with runes := .slice (some ⟨g, o', none⟩) n (cap - 1) }.cells
  but : But l B w w'

def plX (g o n cap : Nat) (st : Value) (x : Lx) : Lx := { x with runes := .slice (some ⟨g, o, none⟩) n cap, pos := 0, ov := false, st := st, tok := tok0, lo := false, later := .slice none 0 0, met := .slice none 0 0, wrong := .slice none 0 0 }
theorem plain_goes (l R g o cap B : Nat) (c a : Int) (rs : List (Int × Int)) (x : Lx) (w : World) (hL : LexAt w l (plX g o (rs.length + 1) cap (stF 39) x).cells) (hX : Ctx w l R g o ((c, a) :: rs) B) (hcap : rs.length + 1 ≤ cap) (hc : ¬ c = 0) (h60 : ¬ c = 60) (h38 : ¬ c = 38) :
    ∃ cs', Goes l R (PlainT l g cap rs.length o (plX g o (rs.length + 1) cap .nilFunc x) c a B w) 1 cs' w := by
  have h0 : Run w l R g o cap ((c, a) :: rs) B (plX g o (rs.length + 1) cap (stF 39) x) := ⟨hL, hX, rfl, rfl⟩
  refine go_text_plain h0 rfl rfl hc h60 h38 fun w1 h1 b1 => ?_
  refine go_told h1 rfl (by show 0 + 1 ≤ rs.length + 1; omega) hcap rfl rfl fun w2 s2 => ?_
  obtain ⟨⟨o', ho, hL2⟩, hb2⟩ := s2
  exact ⟨rfl, ⟨o', fun hc1 => ho hc1, hL2⟩, (b1.mono hX.le).trans (hb2.mono h1.ctx.le)⟩

theorem plX_self (g o n cap : Nat) (x : Lx) (hA : Ahead x) (hr : x.runes = .slice (some ⟨g, o, none⟩) n cap) : x = plX g o n cap .nilFunc x := by
  obtain ⟨runes, pos, cl, en, ov, md, un, st, tok, less, mat, word, aat, quo, val, nam, r23, r24, r25, r26, r27, r28, lo, l30, later, met, wrong⟩ := x
  obtain ⟨h1, h2, h3, h4, h5, h6, h7, h8⟩ := hA
  simp only at h1 h2 h3 h4 h5 h6 h7 h8 hr
  subst h1 h2 h3 h4 h5 h6 h7 h8 hr
  rfl

theorem next_plain (l g o cap : Nat) (c a : Int) (rs : List (Int × Int)) (x : Lx) (w : World) (hL : LexAt w l x.cells) (hA : Ahead x) (hr : x.runes = .slice (some ⟨g, o, none⟩) (rs.length + 1) cap) (hl : l < w.heap.size) (hlg : l ≠ g) (hg : g < w.heap.size) (hcap : rs.length + 1 ≤ cap)
    (hsc : ∀ i c' a', ((c, a) :: rs)[i]? = some (c', a') → w.cell? ⟨g, o + i * 2, none⟩ = some (.int .i64 c') ∧ w.cell? ⟨g, o + i * 2 + 1, none⟩ = some (.int .i64 a')) (hfew : rs.length + 1 ≤ 4611686018427387904) (hc : ¬ c = 0) (h60 : ¬ c = 60) (h38 : ¬ c = 38) :
    Calls Tryz.prog 21 #[.pointer (some ⟨l, 0, none⟩)] w fun e w' => e = .returned (.tuple #[tokV { tok0 with kind := 1, value := c, at' := a }, .bool true]) ∧ PlainP l g cap rs.length o x w w' := by
  rw [plX_self g o (rs.length + 1) cap x hA hr] at hL ⊢
  obtain ⟨hL0, hX0, hb0⟩ := ctx_new (rs := (c, a) :: rs) hL hl hlg hg hsc hfew (.func (.func 39) #[] #[])
  refine (next_chain l _ (Goes l w.heap.size _) (PlainT l g cap rs.length o _ c a (w.heap.size + 1) _) 1 w hL hl rfl rfl rfl (goes_chain _ _ _) (plain_goes l w.heap.size g o cap (w.heap.size + 1) c a rs x _ hL0 hX0 hcap hc h60 h38)).mono ?_
  rintro e w' ⟨t, rfl, w1, ⟨rfl, ⟨o', ho, hL1⟩, hb1⟩, hb2⟩
  have hs0 := hb0.size
  have hs1 := hb1.size
  refine ⟨rfl, ⟨o', ho, hL1.but hb2 (by omega) (by omega)⟩, ?_⟩
  exact (hb0.trans (hb1.mono (by omega))).trans ⟨hb2.os, hb2.tape, hb2.output, hb2.size, fun k hk _ => hb2.block k (by omega) (by omega)⟩

/-- Behind the end that was told. -/
structure EndP (l : Nat) (w : World) (w' : World) : Prop where
  lex : ∃ y : Lx, y.wrong = .slice none 0 0 ∧ LexAt w' l y.cells
  but : But l w.heap.size w w'
structure EndT (l : Nat) (en : Int) (B : Nat) (w : World) (t : Tok) (w' : World) : Prop where
  tok : t = { tok0 with at' := en }
  lex : ∃ y : Lx, y.wrong = .slice none 0 0 ∧ LexAt w' l y.cells
  but : But l B w w'

set_option maxRecDepth 100000 in
set_option maxHeartbeats 4000000 in
/-- Settling where there are no scalars at all. -/
theorem settle_nil (l : Nat) (cs : List Value) (t : Tok) (w : World) (hL : LexAt w l cs) (hT : TokAt cs t) (h0 : cs[0]? = some (.slice none 0 0)) (h1 : cs[1]? = some (.int .i64 0)) (h32 : cs[32]? = some (.slice none 0 0)) (h33 : cs[33]? = some (.slice none 0 0)) (hl : l < w.heap.size) :
    Calls Tryz.prog 40 #[.pointer (some ⟨l, 0, none⟩)] w fun e w' => e = .returned (tokV t) ∧ Hid (LexAt w' l (((((withTok cs tok0).set 33 (.slice none 0 0)).set 32 (.slice none 0 0)).set 0 (.slice none 0 0)).set 1 (.int .i64 0)) ∧ But l w.heap.size w w') := by
  have c8 := hL.c 8 _ hT.t0
  have c9 := hL.c 9 _ hT.t1
  have c10 := hL.c 10 _ hT.t2
  have c11 := hL.c 11 _ hT.t3
  have c12 := hL.c 12 _ hT.t4
  have c13 := hL.c 13 _ hT.t5
  have c14 := hL.c 14 _ hT.t6
  have c15 := hL.c 15 _ hT.t7
  have c0 := hL.c 0 _ h0
  have c1 := hL.c 1 _ h1
  have c32 := hL.c 32 _ h32
  have c33 := hL.c 33 _ h33
  have f0 := hL.fz 0
  have f1 := hL.fz 1
  have f8 := hL.fz 8
  have f9 := hL.fz 9
  have f10 := hL.fz 10
  have f11 := hL.fz 11
  have f12 := hL.fz 12
  have f13 := hL.fz 13
  have f14 := hL.fz 14
  have f15 := hL.fz 15
  have f32 := hL.fz 32
  have f33 := hL.fz 33
  have hlen := hL.len
  have hW := lex_tok hL tok0
  have hWB := but_tok (But.refl l w.heap.size w) tok0
  unfold tok0 at hW hWB
  have HS : Hid (∀ W : World, LexAt W l (withTok cs tok0) → But l w.heap.size w W → W.heap.size = w.heap.size → ∀ zs ts : Array Value, SetP w l w.heap.size (withTok cs tok0) zs.toList ts.toList ((W.alloc (.cells zs 41)).alloc (.cells ts 41))) := fun W h1 h2 h3 zs ts => setP_of h1 h2 h3 hl zs ts
  have hne : l ≠ w.heap.size := by omega
  have hne1 : l ≠ w.heap.size + 1 := by omega
  clear hL hT
  go_enter Tryz.func40, Tryz.ntmps40
  go_upto_region 3 with fail
  have HP := HS.out _ hW hWB (by simp [World.setCell]) #[.int .i64 0, .int .i64 0, .int .i64 0, .string ⟨#[]⟩, .string ⟨#[]⟩, .slice none 0 0, .bool false, .bool false] #[.int .i64 t.kind, .int .i64 t.value, .int .i64 t.at', .string t.name, .string t.data, .slice t.attrs t.an t.ac, .bool t.self, .bool t.quirks]
  generalize ((World.alloc _ (.cells #[.int .i64 0, .int .i64 0, .int .i64 0, .string ⟨#[]⟩, .string ⟨#[]⟩, .slice none 0 0, .bool false, .bool false] 41)).alloc _) = wy at HP ⊢
  clear c8 c9 c10 c11 c12 c13 c14 c15 c0 c1 c32 c33 f0 f1 f8 f9 f10 f11 f12 f13 f14 f15 f32 f33 hW hWB HS
  have c0 : wy.cell? ⟨l, 0, none⟩ = some (.slice none 0 0) := HP.lex.c 0 _ (by rw [with_other _ _ _ (by omega)]; exact h0)
  have c1 : wy.cell? ⟨l, 1, none⟩ = some (.int .i64 0) := HP.lex.c 1 _ (by rw [with_other _ _ _ (by omega)]; exact h1)
  have c32 : wy.cell? ⟨l, 32, none⟩ = some (.slice none 0 0) := HP.lex.c 32 _ (by rw [with_other _ _ _ (by omega)]; exact h32)
  have c33 : wy.cell? ⟨l, 33, none⟩ = some (.slice none 0 0) := HP.lex.c 33 _ (by rw [with_other _ _ _ (by omega)]; exact h33)
  have f0 := HP.lex.fz 0
  have f1 := HP.lex.fz 1
  have f32 := HP.lex.fz 32
  have f33 := HP.lex.fz 33
  have a0 := HP.r0 0 _ rfl
  have a1 := HP.r0 1 _ rfl
  have a2 := HP.r0 2 _ rfl
  have a3 := HP.r0 3 _ rfl
  have a4 := HP.r0 4 _ rfl
  have a5 := HP.r0 5 _ rfl
  have a6 := HP.r0 6 _ rfl
  have a7 := HP.r0 7 _ rfl
  have b0 := HP.r1 0 _ rfl
  have b1 := HP.r1 1 _ rfl
  have b2 := HP.r1 2 _ rfl
  have b3 := HP.r1 3 _ rfl
  have b4 := HP.r1 4 _ rfl
  have b5 := HP.r1 5 _ rfl
  have b6 := HP.r1 6 _ rfl
  have b7 := HP.r1 7 _ rfl
  have z0 := HP.z0 0
  have z1 := HP.z0 1
  have z2 := HP.z0 2
  have z3 := HP.z0 3
  have z4 := HP.z0 4
  have z5 := HP.z0 5
  have z6 := HP.z0 6
  have z7 := HP.z0 7
  have HPP : Hid _ := HP
  have hR1 : w.heap.size ≠ w.heap.size + 1 := by omega
  clear h0 h1 h32 h33 HP
  generalize w.heap.size + 1 = R1 at *
  generalize hR : w.heap.size = R at *
  go_region
  go_wp2
  go_region
  all_goals go_wp2
  all_goals
    have h1 := ((((HPP.out.lex.set 33 (by omega) (.slice none 0 0)).set 32 (by omega) (.slice none 0 0))))
    have h2 := (HPP.out.but.store 33 (.slice none 0 0)).store 32 (.slice none 0 0)
    have h3 := settled ((h1.set 0 (by omega) (.slice none 0 0)).set 1 (by omega) (.int .i64 0)) ((h2.store 0 (.slice none 0 0)).store 1 (.int .i64 0)) hne (Nat.le_of_eq hR) (.int .i64 t.kind) (.int .i64 t.value) (.int .i64 t.at') (.string t.name) (.string t.data) (.slice t.attrs t.an t.ac) (.bool t.self) (.bool t.quirks)
    exact bodyPost_ret (v := tokV t) (by simp [results, Tryz.results40, go_sem, tokV, *]) rfl ⟨rfl, h3⟩

theorem LexAt.ne_of {w : World} {l : Nat} {cs : List Value} (h : LexAt w l cs) : l < w.heap.size := by
  obtain ⟨x, hx⟩ := h.some 0 (by omega)
  exact World.block_lt_of_cell? w _ (h.c 0 x hx)

def enX (r : Value) (ov : Bool) (st : Value) (t : Tok) (x : Lx) : Lx := { x with runes := r, pos := 0, cl := true, ov := ov, st := st, tok := t, lo := false, later := .slice none 0 0, met := .slice none 0 0, wrong := .slice none 0 0 }
theorem enX_text (r st : Value) (x : Lx) : (withTok ((enX r false st tok0 x).cells.set 4 (.bool true)) { tok0 with at' := x.en }).set 7 .nilFunc = (enX r true .nilFunc { tok0 with at' := x.en } x).cells := rfl
theorem enX_nil (t : Tok) (x : Lx) : ((((withTok (enX (.slice none 0 0) true .nilFunc t x).cells tok0).set 33 (.slice none 0 0)).set 32 (.slice none 0 0)).set 0 (.slice none 0 0)).set 1 (.int .i64 0) = (enX (.slice none 0 0) true .nilFunc tok0 x).cells := rfl
theorem enX_some (g o o' cap : Nat) (t : Tok) (x : Lx) : restOf (enX (.slice (some ⟨g, o, none⟩) 0 cap) true .nilFunc t x).cells g o' 0 cap 0 = (enX (.slice (some ⟨g, o', none⟩) 0 cap) true .nilFunc tok0 x).cells := rfl

theorem end_step (l R : Nat) (ad : Option Addr) (cap : Nat) (x : Lx) (w : World) (hL : LexAt w l (enX (.slice ad 0 cap) false (stF 39) tok0 x).cells) (Post : Tok → World → Prop)
    (hn : ∀ w', LexAt w' l (enX (.slice ad 0 cap) true .nilFunc { tok0 with at' := x.en } x).cells → But l w.heap.size w w' → ∃ cs', Goes l R Post 0 cs' w') : ∃ cs', Goes l R Post 1 cs' w := by
  have hl := hL.ne_of
  refine ⟨_, goes_but (p := 0) (n := 0) (cap := cap) (ad := ad) (cl := true) 39 .nilFunc (withTok ((enX (.slice ad 0 cap) false (stF 39) tok0 x).cells.set 4 (.bool true)) { tok0 with at' := x.en }) en_text (.inl rfl) hL rfl rfl rfl rfl (.inr ⟨rfl, rfl⟩) (fun q => text_end l _ tok0 ad 0 cap x.en false (w.drewN q) (hL.draws q) rfl rfl ⟨rfl, rfl, rfl, rfl, rfl, rfl, rfl, rfl⟩ rfl rfl hl) fun w1 hL1 hb1 => ?_⟩
  rw [enX_text] at hL1
  exact hn w1 hL1 hb1

/-- No scalar is left, none will come: the end is told. -/
theorem end_goes_nil (l R B : Nat) (x : Lx) (w : World) (hL : LexAt w l (enX (.slice none 0 0) false (stF 39) tok0 x).cells) (hR : ResAt w R) (hlR : l ≠ R) (hRB : R < B) (hB : B ≤ w.heap.size) :
    ∃ cs', Goes l R (EndT l x.en B w) 1 cs' w := by
  refine end_step l R none 0 x w hL _ fun w1 hL1 hb1 => ?_
  have hl1 := hL1.ne_of
  refine ⟨_, hL1, rfl, (settle_nil l _ { tok0 with at' := x.en } w1 hL1 ⟨rfl, rfl, rfl, rfl, rfl, rfl, rfl, rfl⟩ rfl rfl rfl rfl hl1).mono ?_⟩
  rintro e w2 ⟨rfl, hE⟩
  obtain ⟨hL2, hb2⟩ := hE.out
  rw [enX_nil] at hL2
  have hs1 := hb1.size
  have hR1 := hR.but hb1 (by omega) (fun e => hlR e.symm)
  exact ⟨{ tok0 with at' := x.en }, rfl, hR1.but hb2 (by omega) (fun e => hlR e.symm), ⟨rfl, ⟨_, rfl, hL2⟩, (hb1.mono hB).trans (hb2.mono (by omega))⟩⟩

theorem end_goes (l R g o cap B : Nat) (x : Lx) (w : World) (hL : LexAt w l (enX (.slice (some ⟨g, o, none⟩) 0 cap) false (stF 39) tok0 x).cells) (hR : ResAt w R) (hlR : l ≠ R) (hRB : R < B) (hB : B ≤ w.heap.size) :
    ∃ cs', Goes l R (EndT l x.en B w) 1 cs' w := by
  refine end_step l R (some ⟨g, o, none⟩) cap x w hL _ fun w1 hL1 hb1 => ?_
  have hl1 := hL1.ne_of
  refine ⟨_, hL1, rfl, (settle_any l _ { tok0 with at' := x.en } g o 0 cap 0 w1 hL1 ⟨rfl, rfl, rfl, rfl, rfl, rfl, rfl, rfl⟩ rfl rfl (Nat.le_refl _) (Nat.zero_le _) rfl rfl hl1).mono ?_⟩
  rintro e w2 ⟨rfl, ⟨o', _, hL2⟩, hb2⟩
  rw [enX_some] at hL2
  have hs1 := hb1.size
  have hR1 := hR.but hb1 (by omega) (fun e => hlR e.symm)
  exact ⟨{ tok0 with at' := x.en }, rfl, hR1.but hb2 (by omega) (fun e => hlR e.symm), ⟨rfl, ⟨_, rfl, hL2⟩, (hb1.mono hB).trans (hb2.mono (by omega))⟩⟩

theorem enX_self (r : Value) (x : Lx) (hA : Ahead x) (hr : x.runes = r) (hc : x.cl = true) : x = enX r false .nilFunc tok0 x := by
  obtain ⟨runes, pos, cl, en, ov, md, un, st, tok, less, mat, word, aat, quo, val, nam, r23, r24, r25, r26, r27, r28, lo, l30, later, met, wrong⟩ := x
  obtain ⟨h1, h2, h3, h4, h5, h6, h7, h8⟩ := hA
  simp only at h1 h2 h3 h4 h5 h6 h7 h8 hr hc
  subst h1 h2 h3 h4 h5 h6 h7 h8 hr hc
  rfl

theorem next_end (l : Nat) (ad : Option Addr) (cap : Nat) (x : Lx) (w : World) (hL : LexAt w l x.cells) (hA : Ahead x) (hr : x.runes = .slice ad 0 cap) (had : (ad = none ∧ cap = 0) ∨ ∃ g o, ad = some ⟨g, o, none⟩) (hcl : x.cl = true) :
    Calls Tryz.prog 21 #[.pointer (some ⟨l, 0, none⟩)] w fun e w' => e = .returned (.tuple #[tokV { tok0 with at' := x.en }, .bool true]) ∧ EndP l w w' := by
  have hl := hL.ne_of
  rw [enX_self _ x hA hr hcl] at hL
  have hs : (w.setCell ⟨l, 7, none⟩ (.func (.func 39) #[] #[])).heap.size = w.heap.size := by simp [World.setCell]
  have hb0 : But l w.heap.size w ((w.setCell ⟨l, 7, none⟩ (.func (.func 39) #[] #[])).alloc (.cells #[.int .i64 0, .int .i64 0, .int .i64 0, .string ⟨#[]⟩, .string ⟨#[]⟩, .slice none 0 0, .bool false, .bool false] 41)) :=
    ((But.refl l _ w).store 7 _).trans (But.of ((Below.refl _ _).alloc (by omega) _))
  have hR0 := resAt_new (w.setCell ⟨l, 7, none⟩ (.func (.func 39) #[] #[]))
  rw [hs] at hR0
  have hL0 : LexAt ((w.setCell ⟨l, 7, none⟩ (.func (.func 39) #[] #[])).alloc (.cells #[.int .i64 0, .int .i64 0, .int .i64 0, .string ⟨#[]⟩, .string ⟨#[]⟩, .slice none 0 0, .bool false, .bool false] 41)) l (enX (.slice ad 0 cap) false (stF 39) tok0 x).cells :=
    (hL.set 7 (by omega) (.func (.func 39) #[] #[])).below ((Below.refl _ _).alloc (Nat.le_refl _) _) (by rw [hs]; exact hl)
  have hB : w.heap.size + 1 ≤ ((w.setCell ⟨l, 7, none⟩ (.func (.func 39) #[] #[])).alloc (.cells #[.int .i64 0, .int .i64 0, .int .i64 0, .string ⟨#[]⟩, .string ⟨#[]⟩, .slice none 0 0, .bool false, .bool false] 41)).heap.size := by simp [hs]
  have hG : ∃ cs', Goes l w.heap.size (EndT l x.en (w.heap.size + 1) ((w.setCell ⟨l, 7, none⟩ (.func (.func 39) #[] #[])).alloc (.cells #[.int .i64 0, .int .i64 0, .int .i64 0, .string ⟨#[]⟩, .string ⟨#[]⟩, .slice none 0 0, .bool false, .bool false] 41))) 1 cs' ((w.setCell ⟨l, 7, none⟩ (.func (.func 39) #[] #[])).alloc (.cells #[.int .i64 0, .int .i64 0, .int .i64 0, .string ⟨#[]⟩, .string ⟨#[]⟩, .slice none 0 0, .bool false, .bool false] 41)) := by
    rcases had with ⟨rfl, rfl⟩ | ⟨g, o, rfl⟩
    · exact end_goes_nil l w.heap.size (w.heap.size + 1) x _ hL0 hR0 (by omega) (by omega) hB
    · exact end_goes l w.heap.size g o cap (w.heap.size + 1) x _ hL0 hR0 (by omega) (by omega) hB
  refine (next_chain l _ (Goes l w.heap.size _) (EndT l x.en (w.heap.size + 1) _) 1 w hL hl rfl rfl rfl (goes_chain _ _ _) hG).mono ?_
  rintro e w' ⟨t, rfl, w1, ⟨rfl, ⟨y, hy, hL1⟩, hb1⟩, hb2⟩
  have hs0 := hb0.size
  have hs1 := hb1.size
  refine ⟨rfl, ⟨y, hy, hL1.but hb2 (by omega) (by omega)⟩, ?_⟩
  exact (hb0.trans (hb1.mono (by omega))).trans ⟨hb2.os, hb2.tape, hb2.output, hb2.size, fun k hk _ => hb2.block k (by omega) (by omega)⟩
end Go.Proofs.YtgdjknbbjpcoiaaGreatDoor
