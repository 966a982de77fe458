/-
  The lexer's cells as a record; its states, step by step, upon it.
-/
import Derived.Test.YtgdjknbbjpcoiaaGreatDoorLxRun
namespace Go.Proofs.YtgdjknbbjpcoiaaGreatDoor
open Go.RowKit

/-- A lexer. -/
structure Lx where
  runes : Value
  pos : Nat
  cl : Bool
  en : Int
  ov : Bool
  md : Int
  un : ByteArray
  st : Value
  tok : Tok
  less : Nat
  mat : Int
  word : Value
  aat : Int
  quo : Int
  val : Value
  nam : Value
  r23 : Value
  r24 : Value
  r25 : Value
  r26 : Value
  r27 : Value
  r28 : Value
  lo : Bool
  l30 : Value
  later : Value
  met : Value
  wrong : Value

def Lx.cells (x : Lx) : List Value := [x.runes, .int .i64 (x.pos : Int), .bool x.cl, .int .i64 x.en, .bool x.ov, .int .i64 x.md, .string x.un, x.st,
  .int .i64 x.tok.kind, .int .i64 x.tok.value, .int .i64 x.tok.at', .string x.tok.name, .string x.tok.data, .slice x.tok.attrs x.tok.an x.tok.ac, .bool x.tok.self, .bool x.tok.quirks,
  .int .i64 (x.less : Int), .int .i64 x.mat, x.word, .int .i64 x.aat, .int .i64 x.quo, x.val, x.nam,
  x.r23, x.r24, x.r25, x.r26, x.r27, x.r28, .bool x.lo, x.l30, x.later, x.met, x.wrong]

def lx0 : Lx := ⟨.slice none 0 0, 0, false, 0, false, 0, ⟨#[]⟩, .nilFunc, tok0, 0, 0, .slice none 0 0, 0, 0, .slice none 0 0, .map none, .int .i64 0, .nilFunc, .slice none 0 0, .int .i64 0, .int .i64 0, .bool false, false, .int .i64 0, .slice none 0 0, .slice none 0 0, .slice none 0 0⟩
theorem lx0_cells : lx0.cells = lexNew := rfl
theorem Lx.tokAt (x : Lx) : TokAt x.cells x.tok := ⟨rfl, rfl, rfl, rfl, rfl, rfl, rfl, rfl⟩

theorem enter_of {F : Nat} {fn : Func} (hf : Tryz.prog.funcs[F]? = some fn) (h1 : (fn.name == "runtime.NumGoroutine") = false) (h2 : fn.body.isNone = false) (a : Value) (w : World) : (callFunc F #[a]).run Tryz.prog w = .ok (.enter F #[a]) w := by
  have e1 : ¬ fn.name = "runtime.NumGoroutine" := by simpa using h1
  have e2 : ¬ fn.body = none := by
    intro e
    rw [e] at h2
    cases h2
  simp [callFunc, go_sem, hf, e1, e2]
theorem en_text (a : Value) (w : World) : (callFunc 39 #[a]).run Tryz.prog w = .ok (.enter 39 #[a]) w := enter_of Tryz.func39 (by kernel_rfl) (by kernel_rfl) a w
theorem en_behindLess (a : Value) (w : World) : (callFunc 63 #[a]).run Tryz.prog w = .ok (.enter 63 #[a]) w := enter_of Tryz.func63 (by kernel_rfl) (by kernel_rfl) a w
theorem en_tagName (a : Value) (w : World) : (callFunc 101 #[a]).run Tryz.prog w = .ok (.enter 101 #[a]) w := enter_of Tryz.func101 (by kernel_rfl) (by kernel_rfl) a w
theorem en_inTag (a : Value) (w : World) : (callFunc 146 #[a]).run Tryz.prog w = .ok (.enter 146 #[a]) w := enter_of Tryz.func146 (by kernel_rfl) (by kernel_rfl) a w
theorem en_attrName (a : Value) (w : World) : (callFunc 197 #[a]).run Tryz.prog w = .ok (.enter 197 #[a]) w := enter_of Tryz.func197 (by kernel_rfl) (by kernel_rfl) a w
theorem en_behindAttrName (a : Value) (w : World) : (callFunc 220 #[a]).run Tryz.prog w = .ok (.enter 220 #[a]) w := enter_of Tryz.func220 (by kernel_rfl) (by kernel_rfl) a w
theorem en_beforeValue (a : Value) (w : World) : (callFunc 237 #[a]).run Tryz.prog w = .ok (.enter 237 #[a]) w := enter_of Tryz.func237 (by kernel_rfl) (by kernel_rfl) a w
theorem en_unquoted (a : Value) (w : World) : (callFunc 244 #[a]).run Tryz.prog w = .ok (.enter 244 #[a]) w := enter_of Tryz.func244 (by kernel_rfl) (by kernel_rfl) a w

/-- A state. -/
abbrev stF (n : Nat) : Value := .func (.func n) #[] #[]

structure Run (w : World) (l R g o cap : Nat) (rs : List (Int × Int)) (B : Nat) (x : Lx) : Prop where
  lex : LexAt w l x.cells
  ctx : Ctx w l R g o rs B
  rn : x.runes = .slice (some ⟨g, o, none⟩) rs.length cap
  lo : x.lo = false

section
variable {w : World} {l R g o cap : Nat} {rs : List (Int × Int)} {B : Nat} {x : Lx} {Post : Tok → World → Prop} {k : Nat}

theorem Run.hl (h : Run w l R g o cap rs B x) : l < w.heap.size := Nat.lt_of_lt_of_le h.ctx.lB h.ctx.le
theorem Run.c0 (h : Run w l R g o cap rs B x) : x.cells[0]? = some (.slice (some ⟨g, o, none⟩) rs.length cap) := by rw [← h.rn]; rfl
theorem Run.c29 (h : Run w l R g o cap rs B x) : x.cells[29]? = some (.bool false) := by rw [← h.lo]; rfl
theorem Run.next (h : Run w l R g o cap rs B x) {c a : Int} (hp : rs[x.pos]? = some (c, a)) (q : Nat) : NextIs (w.drewN q) x.cells g o rs.length cap x.pos c a := h.ctx.next h.c0 rfl rfl hp q
theorem Run.lt (hp : ∃ c a, rs[x.pos]? = some (c, a)) : x.pos < rs.length := by
  obtain ⟨c, a, hp⟩ := hp
  exact (List.getElem?_eq_some_iff.1 hp).1

/-- A step that keeps all but the lexer's cells. -/
theorem run_but (F : Nat) {f' : Value} {cs1 : List Value} {y : Lx} (hF : ∀ (a : Value) (w : World), (callFunc F #[a]).run Tryz.prog w = .ok (.enter F #[a]) w) (hf : f' = .nilFunc ∨ ∃ G, f' = .func (.func G) #[] #[])
    (h : Run w l R g o cap rs B x) (hst : x.st = stF F) (hpn : x.pos < rs.length)
    (hn : ∀ w', Run w' l R g o cap rs B y → But l w.heap.size w w' → ∃ cs', Goes l R Post k cs' w')
    (hc : ∀ q, Calls Tryz.prog F #[.pointer (some ⟨l, 0, none⟩)] (w.drewN q) fun e w' => e = .returned f' ∧ LexAt w' l cs1 ∧ But l w.heap.size (w.drewN q) w')
    (hy : cs1.set 7 f' = y.cells) (hyr : y.runes = x.runes) (hyl : y.lo = false) : ∃ cs', Goes l R Post (k + 1) cs' w :=
  ⟨x.cells, goes_but (p := x.pos) (n := rs.length) (cap := cap) (ad := some ⟨g, o, none⟩) (cl := x.cl) F f' cs1 hF hf h.lex (by show some x.st = _; rw [hst]) h.c0 rfl rfl (.inl hpn) hc
    (fun w' hL hb => hn w' ⟨hy ▸ hL, h.ctx.but (hb.mono h.ctx.le), hyr.trans h.rn, hyl⟩ hb)⟩

/-- A step that writes a row of bytes besides. -/
theorem run_mid (F : Nat) {f' : Value} {cs1 : Value → List Value} {y : Value → Lx} {B' m : Nat} {xs : List Value} {row : Option Nat} (hF : ∀ (a : Value) (w : World), (callFunc F #[a]).run Tryz.prog w = .ok (.enter F #[a]) w) (hf : f' = .nilFunc ∨ ∃ G, f' = .func (.func G) #[] #[])
    (h : Run w l R g o cap rs B x) (hst : x.st = stF F) (hpn : x.pos < rs.length)
    (hn : ∀ v' w', Run w' l R g o cap rs B (y v') → w'.ownsRow B' 5 1 v' m xs → Kept l row w w' → ∃ cs', Goes l R Post k cs' w')
    (hc : ∀ q, Calls Tryz.prog F #[.pointer (some ⟨l, 0, none⟩)] (w.drewN q) fun e w' => e = .returned f' ∧ ∃ v', MidP (w.drewN q) l B' (cs1 v') v' m xs row w')
    (hy : ∀ v, (cs1 v).set 7 f' = (y v).cells) (hyr : ∀ v, (y v).runes = x.runes) (hyl : ∀ v, (y v).lo = false) (hB' : B ≤ B') (hrow : ∀ j, row = some j → B ≤ j) : ∃ cs', Goes l R Post (k + 1) cs' w :=
  ⟨x.cells, goes_mid (p := x.pos) (n := rs.length) (cap := cap) (ad := some ⟨g, o, none⟩) (cl := x.cl) F f' cs1 hF hf h.lex (by show some x.st = _; rw [hst]) h.c0 rfl rfl (.inl hpn) (Nat.lt_of_lt_of_le h.ctx.lB hB') hc
    (fun v' w' hM => hn v' w' ⟨hy v' ▸ hM.lex, h.ctx.but (hM.kept.but hrow h.ctx.le), (hyr v').trans h.rn, hyl v'⟩ hM.own hM.kept)⟩

theorem go_text_less {a : Int} (h : Run w l R g o cap rs B x) (hst : x.st = stF 39) (hmd : x.md = 0) (hp : rs[x.pos]? = some (60, a))
    (hn : ∀ w', Run w' l R g o cap rs B { x with less := x.pos, pos := x.pos + 1, st := stF 63 } → But l w.heap.size w w' → ∃ cs', Goes l R Post k cs' w') : ∃ cs', Goes l R Post (k + 1) cs' w :=
  run_but 39 en_text (.inr ⟨_, rfl⟩) h hst (Run.lt ⟨_, _, hp⟩) hn
    (fun q => text_less l x.cells g o rs.length cap x.pos a x.less (w.drewN q) (h.lex.draws q) (h.next hp q) h.c29 (by rw [← hmd]; rfl) rfl h.ctx.lg) rfl rfl h.lo

theorem go_less_letter {c a0 a : Int} (h : Run w l R g o cap rs B x) (hst : x.st = stF 63) (hp : rs[x.pos]? = some (c, a0)) (hc : letterI c = true) (hless : ∃ c', rs[x.less]? = some (c', a)) (hw : IsRow x.word)
    (hn : ∀ w', Run w' l R g o cap rs B { x with tok := { tok0 with kind := 2, at' := a }, word := cut0 x.word, aat := 0, quo := 0, val := .slice none 0 0, nam := .map none, st := stF 101 } → But l w.heap.size w w' → ∃ cs', Goes l R Post k cs' w') : ∃ cs', Goes l R Post (k + 1) cs' w := by
  obtain ⟨c', hless⟩ := hless
  exact run_but 63 en_behindLess (.inr ⟨_, rfl⟩) h hst (Run.lt ⟨_, _, hp⟩) hn
    (fun q => behindLess_letter l x.cells x.tok g o rs.length cap x.pos x.less c a0 a x.word x.aat x.quo x.val x.nam (w.drewN q) (h.lex.draws q) (h.next hp q) x.tokAt hc rfl (List.getElem?_eq_some_iff.1 hless).1 (h.ctx.sc _ _ _ hless).2 rfl hw rfl rfl rfl rfl) rfl rfl h.lo

theorem go_name_char {c a : Int} {B' m : Nat} {xs : List Value} (h : Run w l R g o cap rs B x) (hst : x.st = stF 101) (hp : rs[x.pos]? = some (c, a)) (hc : ¬ c = 0) (hc0 : 0 ≤ c) (hc1 : c ≤ 1114111) (he : endsI c = false) (hO : w.ownsRow B' 5 1 x.word m xs) (hm : m + 4 ≤ 140737488355328) (hB' : B ≤ B') (hB : B' ≤ w.heap.size)
    (hn : ∀ v' w', Run w' l R g o cap rs B { x with pos := x.pos + 1, word := v', st := stF 101 } → w'.ownsRow B' 5 1 v' (m + (Lib.runeCells (smallI c)).length) (xs ++ Lib.runeCells (smallI c)) → Kept l x.word.ownBlock w w' → ∃ cs', Goes l R Post k cs' w') : ∃ cs', Goes l R Post (k + 1) cs' w :=
  run_mid 101 en_tagName (.inr ⟨_, rfl⟩) h hst (Run.lt ⟨_, _, hp⟩) hn
    (fun q => tagName_char l x.cells g o rs.length cap x.pos c a B' x.word m xs (w.drewN q) (h.lex.draws q) (h.next hp q) h.c29 h.hl hc hc0 hc1 he rfl hO hm hB (Nat.lt_of_lt_of_le h.ctx.lB hB')) (fun _ => rfl) (fun _ => rfl) (fun _ => h.lo) hB' (fun j e => Nat.le_trans hB' (hO.lt j e).1)

theorem go_name_end {c a : Int} {B' : Nat} {bs : List UInt8} (h : Run w l R g o cap rs B x) (hst : x.st = stF 101) (hp : rs[x.pos]? = some (c, a)) (he : endsI c = true) (hO : w.ownsRow B' 5 1 x.word bs.length (lxCells bs))
    (hn : ∀ w', Run w' l R g o cap rs B { x with tok := { x.tok with name := ⟨bs.toArray⟩ }, st := stF 146 } → But l w.heap.size w w' → ∃ cs', Goes l R Post k cs' w') : ∃ cs', Goes l R Post (k + 1) cs' w :=
  run_but 101 en_tagName (.inr ⟨_, rfl⟩) h hst (Run.lt ⟨_, _, hp⟩) hn
    (fun q => tagName_end l x.cells g o rs.length cap x.pos c a B' x.word bs x.tok.name (w.drewN q) (h.lex.draws q) (h.next hp q) he rfl rfl hO) rfl rfl h.lo

theorem go_tag_blank {c a : Int} (h : Run w l R g o cap rs B x) (hst : x.st = stF 146) (hp : rs[x.pos]? = some (c, a)) (hc : blankI c = true)
    (hn : ∀ w', Run w' l R g o cap rs B { x with pos := x.pos + 1, st := stF 146 } → But l w.heap.size w w' → ∃ cs', Goes l R Post k cs' w') : ∃ cs', Goes l R Post (k + 1) cs' w :=
  run_but 146 en_inTag (.inr ⟨_, rfl⟩) h hst (Run.lt ⟨_, _, hp⟩) hn
    (fun q => inTag_blank l x.cells g o rs.length cap x.pos c a (w.drewN q) (h.lex.draws q) (h.next hp q) h.c29 hc) rfl rfl h.lo

theorem go_tag_attr {c a : Int} (h : Run w l R g o cap rs B x) (hst : x.st = stF 146) (hp : rs[x.pos]? = some (c, a)) (hb : blankI c = false) (h62 : ¬ c = 62) (h47 : ¬ c = 47) (h61 : ¬ c = 61) (hw : IsRow x.word) (hv : IsRow x.val)
    (hn : ∀ w', Run w' l R g o cap rs B { x with aat := a, val := cut0 x.val, word := cut0 x.word, st := stF 197 } → But l w.heap.size w w' → ∃ cs', Goes l R Post k cs' w') : ∃ cs', Goes l R Post (k + 1) cs' w :=
  run_but 146 en_inTag (.inr ⟨_, rfl⟩) h hst (Run.lt ⟨_, _, hp⟩) hn
    (fun q => inTag_attr l x.cells g o rs.length cap x.pos c a x.aat x.word x.val (w.drewN q) (h.lex.draws q) (h.next hp q) hb h62 h47 h61 rfl hw rfl rfl hv) rfl rfl h.lo

theorem go_attr_char {c a : Int} {B' m : Nat} {xs : List Value} (h : Run w l R g o cap rs B x) (hst : x.st = stF 197) (hp : rs[x.pos]? = some (c, a)) (hc : ¬ c = 0) (hc0 : 0 ≤ c) (hc1 : c ≤ 1114111) (he : endsI c = false) (h61 : ¬ c = 61) (h34 : ¬ c = 34) (h39 : ¬ c = 39) (h60 : ¬ c = 60) (hO : w.ownsRow B' 5 1 x.word m xs) (hm : m + 4 ≤ 140737488355328) (hB' : B ≤ B') (hB : B' ≤ w.heap.size)
    (hn : ∀ v' w', Run w' l R g o cap rs B { x with pos := x.pos + 1, word := v', st := stF 197 } → w'.ownsRow B' 5 1 v' (m + (Lib.runeCells (smallI c)).length) (xs ++ Lib.runeCells (smallI c)) → Kept l x.word.ownBlock w w' → ∃ cs', Goes l R Post k cs' w') : ∃ cs', Goes l R Post (k + 1) cs' w :=
  run_mid 197 en_attrName (.inr ⟨_, rfl⟩) h hst (Run.lt ⟨_, _, hp⟩) hn
    (fun q => attrName_char l x.cells g o rs.length cap x.pos c a B' x.word m xs (w.drewN q) (h.lex.draws q) (h.next hp q) h.c29 h.hl hc hc0 hc1 he h61 h34 h39 h60 rfl hO hm hB (Nat.lt_of_lt_of_le h.ctx.lB hB')) (fun _ => rfl) (fun _ => rfl) (fun _ => h.lo) hB' (fun j e => Nat.le_trans hB' (hO.lt j e).1)

theorem go_attr_eq {a : Int} (h : Run w l R g o cap rs B x) (hst : x.st = stF 197) (hp : rs[x.pos]? = some (61, a))
    (hn : ∀ w', Run w' l R g o cap rs B { x with st := stF 220 } → But l w.heap.size w w' → ∃ cs', Goes l R Post k cs' w') : ∃ cs', Goes l R Post (k + 1) cs' w :=
  run_but 197 en_attrName (.inr ⟨_, rfl⟩) h hst (Run.lt ⟨_, _, hp⟩) hn
    (fun q => attrName_eq l x.cells g o rs.length cap x.pos a (w.drewN q) (h.lex.draws q) (h.next hp q)) rfl rfl h.lo

theorem go_behind_eq {a : Int} (h : Run w l R g o cap rs B x) (hst : x.st = stF 220) (hp : rs[x.pos]? = some (61, a))
    (hn : ∀ w', Run w' l R g o cap rs B { x with pos := x.pos + 1, st := stF 237 } → But l w.heap.size w w' → ∃ cs', Goes l R Post k cs' w') : ∃ cs', Goes l R Post (k + 1) cs' w :=
  run_but 220 en_behindAttrName (.inr ⟨_, rfl⟩) h hst (Run.lt ⟨_, _, hp⟩) hn
    (fun q => behindAttrName_eq l x.cells g o rs.length cap x.pos a (w.drewN q) (h.lex.draws q) (h.next hp q) h.c29) rfl rfl h.lo

theorem go_value_plain {c a : Int} (h : Run w l R g o cap rs B x) (hst : x.st = stF 237) (hp : rs[x.pos]? = some (c, a)) (hb : blankI c = false) (h62 : ¬ c = 62) (h34 : ¬ c = 34) (h39 : ¬ c = 39)
    (hn : ∀ w', Run w' l R g o cap rs B { x with st := stF 244 } → But l w.heap.size w w' → ∃ cs', Goes l R Post k cs' w') : ∃ cs', Goes l R Post (k + 1) cs' w :=
  run_but 237 en_beforeValue (.inr ⟨_, rfl⟩) h hst (Run.lt ⟨_, _, hp⟩) hn
    (fun q => beforeValue_plain l x.cells g o rs.length cap x.pos c a (w.drewN q) (h.lex.draws q) (h.next hp q) hb h62 h34 h39) rfl rfl h.lo

theorem go_unquoted_char {c a : Int} {B' m : Nat} {xs : List Value} (h : Run w l R g o cap rs B x) (hst : x.st = stF 244) (hp : rs[x.pos]? = some (c, a)) (hc : ¬ c = 0) (hc0 : 0 ≤ c) (hc1 : c ≤ 1114111) (he : blankI c = false) (h62 : ¬ c = 62) (h38 : ¬ c = 38) (h34 : ¬ c = 34) (h39 : ¬ c = 39) (h60 : ¬ c = 60) (h61 : ¬ c = 61) (h96 : ¬ c = 96) (hO : w.ownsRow B' 5 1 x.val m xs) (hm : m + 4 ≤ 140737488355328) (hB' : B ≤ B') (hB : B' ≤ w.heap.size)
    (hn : ∀ v' w', Run w' l R g o cap rs B { x with pos := x.pos + 1, val := v', st := stF 244 } → w'.ownsRow B' 5 1 v' (m + (Lib.runeCells c).length) (xs ++ Lib.runeCells c) → Kept l x.val.ownBlock w w' → ∃ cs', Goes l R Post k cs' w') : ∃ cs', Goes l R Post (k + 1) cs' w :=
  run_mid 244 en_unquoted (.inr ⟨_, rfl⟩) h hst (Run.lt ⟨_, _, hp⟩) hn
    (fun q => unquoted_char l x.cells g o rs.length cap x.pos c a B' x.val m xs (w.drewN q) (h.lex.draws q) (h.next hp q) h.c29 h.hl hc hc0 hc1 he h62 h38 h34 h39 h60 h61 h96 rfl hO hm hB (Nat.lt_of_lt_of_le h.ctx.lB hB')) (fun _ => rfl) (fun _ => rfl) (fun _ => h.lo) hB' (fun j e => Nat.le_trans hB' (hO.lt j e).1)

/-- The first attribute of a tag stands. -/
structure OneAttr (l b : Nat) (us vs : List UInt8) (w : World) : Prop where
  c0 : w.cell? ⟨b, 0, none⟩ = some (.string ⟨us.toArray⟩)
  c1 : w.cell? ⟨b, 1, none⟩ = some (.string ⟨vs.toArray⟩)
  ne : b ≠ l
theorem OneAttr.lt {l b : Nat} {us vs : List UInt8} {w : World} (h : OneAttr l b us vs w) : b < w.heap.size := World.block_lt_of_cell? w _ h.c0
theorem OneAttr.but {l b B : Nat} {us vs : List UInt8} {w w' : World} (h : OneAttr l b us vs w) (hb : But l B w w') (hB : w.heap.size ≤ B) : OneAttr l b us vs w' :=
  ⟨(World.cell?_of_block (a := ⟨b, 0, none⟩) (hb.block b (Nat.lt_of_lt_of_le h.lt hB) h.ne)).trans h.c0, (World.cell?_of_block (a := ⟨b, 1, none⟩) (hb.block b (Nat.lt_of_lt_of_le h.lt hB) h.ne)).trans h.c1, h.ne⟩

theorem go_unquoted_gt {a : Int} {B' : Nat} {us vs : List UInt8} (h : Run w l R g o cap rs B x) (hst : x.st = stF 244) (hp : rs[x.pos]? = some (62, a)) (ht : x.tok.attrs = none ∧ x.tok.an = 0 ∧ x.tok.ac = 0) (hnm : x.nam = .map none) (hu : w.ownsRow B' 5 1 x.word us.length (lxCells us)) (hv : w.ownsRow B' 5 1 x.val vs.length (lxCells vs)) (hB' : B ≤ B') (hus : us.length ≤ 1000000)
    (hn : ∀ b cp mp w', Run w' l R g o cap rs B { x with tok := { x.tok with attrs := some ⟨b, 0, none⟩, an := 1, ac := cp }, nam := mp, st := stF 146 } → OneAttr l b us vs w' → But l w.heap.size w w' → ∃ cs', Goes l R Post k cs' w') : ∃ cs', Goes l R Post (k + 1) cs' w := by
  obtain ⟨t1, t2, t3⟩ := ht
  refine ⟨x.cells, goes_any (p := x.pos) (n := rs.length) (cap := cap) (ad := some ⟨g, o, none⟩) (cl := x.cl) 244 (stF 146) (fun cs1 w' => ∃ b cp mp, cs1 = (x.cells.set 22 mp).set 13 (.slice (some ⟨b, 0, none⟩) 1 cp) ∧ w'.cell? ⟨b, 0, none⟩ = some (.string ⟨us.toArray⟩) ∧ w'.cell? ⟨b, 1, none⟩ = some (.string ⟨vs.toArray⟩) ∧ But l w.heap.size w w') en_unquoted (.inr ⟨_, rfl⟩) h.lex (by show some x.st = _; rw [hst]) h.c0 rfl rfl (.inl (Run.lt ⟨_, _, hp⟩))
    (fun q => (unquoted_gt l x.cells g o rs.length cap x.pos a B' x.word x.val us vs (w.drewN q) (h.lex.draws q) (h.next hp q) h.hl (by show some (Value.slice x.tok.attrs x.tok.an x.tok.ac) = _; rw [t1, t2, t3]) rfl rfl (by rw [← hnm]; rfl) hu hv (Nat.lt_of_lt_of_le h.ctx.lB hB') hus).mono ?_) ?_⟩
  · rintro e w' ⟨rfl, b, cp, mp, h1, h2, h3, h4⟩
    exact ⟨rfl, _, h1, b, cp, mp, rfl, h2, h3, ⟨h4.os, h4.tape, h4.output, h4.size, h4.block⟩⟩
  rintro cs1 w12 hL12 ⟨b, cp, mp, rfl, hb0, hb1, hb12⟩
  have hbl : b ≠ l := by
    intro e
    subst e
    have := hL12.c 1 (.int .i64 (x.pos : Int)) rfl
    rw [hb1] at this
    cases this
  have hA : OneAttr l b us vs w12 := ⟨hb0, hb1, hbl⟩
  have hb13 : But l w12.heap.size w12 (w12.setCell ⟨l, 7, none⟩ (stF 146)) := (But.refl _ _ _).store 7 _
  have hbb := hb12.trans (hb13.mono hb12.size)
  exact hn b cp mp _ ⟨hL12.set 7 (by omega) _, h.ctx.but (hbb.mono h.ctx.le), h.rn, h.lo⟩ (hA.but hb13 (Nat.le_refl _)) hbb

theorem go_tag_gt {a : Int} (h : Run w l R g o cap rs B x) (hst : x.st = stF 146) (hp : rs[x.pos]? = some (62, a)) (hk : x.tok.kind = 2)
    (hn : ∀ w', Run w' l R g o cap rs B { x with pos := x.pos + 1, st := .nilFunc } → But l w.heap.size w w' → ∃ cs', Goes l R Post k cs' w') : ∃ cs', Goes l R Post (k + 1) cs' w :=
  run_but 146 en_inTag (.inl rfl) h hst (Run.lt ⟨_, _, hp⟩) hn
    (fun q => inTag_gt l x.cells x.tok g o rs.length cap x.pos a (w.drewN q) (h.lex.draws q) (h.next hp q) h.c29 x.tokAt hk h.hl) rfl rfl h.lo

/-- Behind a token that was told: what is left. -/
structure Settled (w : World) (l g o cap : Nat) (rs : List (Int × Int)) (x : Lx) (w' : World) : Prop where
  lex : ∃ o', (x.pos < cap → o' = o + x.pos * 2) ∧ LexAt w' l { x with tok := tok0, wrong := .slice none 0 0, met := .slice none 0 0, runes := .slice (some ⟨g, o', none⟩) (rs.length - x.pos) (cap - x.pos), pos := 0 }.cells
  but : But l w.heap.size w w'

theorem go_told (h : Run w l R g o cap rs B x) (hst : x.st = .nilFunc) (hp : x.pos ≤ rs.length) (hn : rs.length ≤ cap) (hm : x.met = .slice none 0 0) (hw : x.wrong = .slice none 0 0) (hP : ∀ w', Settled w l g o cap rs x w' → Post x.tok w') : ∃ cs', Goes l R Post 0 cs' w := by
  refine ⟨x.cells, h.lex, by show some x.st = _; rw [hst], (settle_any l x.cells x.tok g o rs.length cap x.pos w h.lex x.tokAt h.c0 rfl hp hn (by rw [← hm]; rfl) (by rw [← hw]; rfl) h.hl).mono ?_⟩
  rintro e w' ⟨rfl, ⟨o', ho, hL⟩, hb⟩
  exact ⟨x.tok, rfl, h.ctx.res.but hb (Nat.lt_of_lt_of_le h.ctx.RB h.ctx.le) (fun e => h.ctx.lR e.symm), hP w' ⟨⟨o', ho, hL⟩, hb⟩⟩
end
end Go.Proofs.YtgdjknbbjpcoiaaGreatDoor
