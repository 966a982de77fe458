/-
  The law on a stack's steps: what is known between two steps.
-/
import Derived.Test.YtalbiekleggkoaaSsIn
import Derived.Test.YtalbiekleggkoaaSsLay
import Derived.Test.YtalbiekleggkoaaSsPop
namespace Go.Proofs.Ytalbiekleggkoaa
open Go.RowKit

/-- A step that came in. -/
structure Stp where
  what : Int
  at' : Int
  node : Int
  name : ByteArray

/-- The steps that came in. -/
structure StpsAt (w : World) (sa : Option Addr) (Z : List Stp) : Prop where
  at' : ∀ (i : Nat) (p : Stp), Z[i]? = some p → ∃ a0, sa = some a0 ∧ w.cell? (a0.add (i * 4)) = some (.int .i64 p.what) ∧ w.cell? ⟨(a0.add (i * 4)).block, (a0.add (i * 4)).off + 1, none⟩ = some (.int .i64 p.at') ∧ w.cell? ⟨(a0.add (i * 4)).block, (a0.add (i * 4)).off + 2, none⟩ = some (.int .i64 p.node) ∧
    w.cell? ⟨(a0.add (i * 4)).block, (a0.add (i * 4)).off + 3, none⟩ = some (.string p.name)
theorem StpsAt.below {w w' : World} {sa : Option Addr} {Z : List Stp} (h : StpsAt w sa Z) (hb : Below w.heap.size w w') : StpsAt w' sa Z := by
  refine ⟨fun i p hi => ?_⟩
  obtain ⟨a0, e, c0, c1, c2, c3⟩ := h.at' i p hi
  have k : ∀ (q : Addr) u, w.cell? q = some u → w'.cell? q = some u := fun q u hq => (hb.cell (World.block_lt_of_cell? _ _ hq)).trans hq
  exact ⟨a0, e, k _ _ c0, k _ _ c1, k _ _ c2, k _ _ c3⟩

/-- A block of another type is no block of a row. -/
theorem blk_apart {w : World} {b B : Nat} {cs : Array Value} {t e : TypeId} {fr : Nat × Nat} {sz n : Nat} {v : Value} {xs : List Value} (hb : w.heap[b]? = some (.cells cs t fr)) (h : w.ownsRow B e sz v n xs) (he : t ≠ e) : v.ownBlock ≠ some b := by
  intro e1
  rcases h.2 with ⟨rfl, _⟩ | ⟨g, cap, cur, rfl, _, hh, _⟩
  · cases e1
  · simp only [Value.ownBlock, Option.some.injEq] at e1
    subst e1
    rw [hh] at hb
    simp only [Option.some.injEq, Obj.cells.injEq] at hb
    exact he hb.2.1.symm

/-- Between two steps. -/
structure SsAt (w wr : World) (s k : Nat) (v v4 : Value) (cs : List Itm) : Prop where
  bel : Below w.heap.size w wr
  stk : StackAt wr s s v cs
  ref : wr.ownsRow s 32 2 v4 cs.length (cs.flatMap itmC)
  far : w.heap.size ≤ s
  len : cs.length ≤ k

/-- Within a step: the step's own block, too. -/
structure SwAt (w wr : World) (s k : Nat) (v v4 : Value) (cs : List Itm) (ab : Nat) (p : Stp) : Prop where
  ss : SsAt w wr s k v v4 cs
  blk : wr.heap[ab]? = some (.cells #[.int .i64 p.what, .int .i64 p.at', .int .i64 p.node, .string p.name] 29 (0, 0))

section
variable {w wr wy : World} {s k : Nat} {v v4 : Value} {cs : List Itm} {ab : Nat} {p : Stp}
theorem SsAt.form4 (h : SsAt w wr s k v v4 cs) : (v4 = .slice none 0 0 ∧ cs = []) ∨ ∃ g c, v4 = .slice (some ⟨g, 0, none⟩) cs.length c ∧ cs.length ≤ c ∧ s ≤ g := by
  rcases h.ref.2 with ⟨h1, h2⟩ | ⟨g1, c1, _, h1, hb, _, h2, _⟩
  · exact .inl ⟨h1, List.length_eq_zero_iff.1 h2⟩
  · exact .inr ⟨_, c1, h1, h2, hb⟩
theorem SsAt.form (h : SsAt w wr s k v v4 cs) : ∃ a c, v4 = .slice a cs.length c ∧ cs.length ≤ c := by
  rcases h.form4 with ⟨h1, h2⟩ | ⟨g1, c1, h1, h2, _⟩
  · exact ⟨none, 0, by rw [h1, h2]; rfl, by rw [h2]; exact Nat.le_refl _⟩
  · exact ⟨_, c1, h1, h2⟩
theorem SsAt.row {a : Option Addr} {n c : Nat} (h : SsAt w wr s k v (.slice a n c) cs) : RcAt wr a cs := RcAt.of_owns h.ref
theorem SsAt.below (h : SsAt w wr s k v v4 cs) (hb : Below wr.heap.size wr wy) : SsAt w wy s k v v4 cs :=
  ⟨h.bel.trans (hb.mono h.bel.size), h.stk.below hb, rcown_below h.ref hb, h.far, h.len⟩
theorem SwAt.below (h : SwAt w wr s k v v4 cs ab p) (hb : Below wr.heap.size wr wy) : SwAt w wy s k v v4 cs ab p :=
  ⟨h.ss.below hb, (hb.block ab (Array.getElem?_eq_some_iff.1 h.blk).1).trans h.blk⟩
theorem SwAt.c0 (h : SwAt w wr s k v v4 cs ab p) : wr.cell? ⟨ab, 0, none⟩ = some (.int .i64 p.what) := by simp [World.cell?, h.blk]
theorem SwAt.c1 (h : SwAt w wr s k v v4 cs ab p) : wr.cell? ⟨ab, 1, none⟩ = some (.int .i64 p.at') := by simp [World.cell?, h.blk]
theorem SwAt.c2 (h : SwAt w wr s k v v4 cs ab p) : wr.cell? ⟨ab, 2, none⟩ = some (.int .i64 p.node) := by simp [World.cell?, h.blk]
theorem SwAt.c3 (h : SwAt w wr s k v v4 cs ab p) : wr.cell? ⟨ab, 3, none⟩ = some (.string p.name) := by simp [World.cell?, h.blk]

/-- The stack has turned: what stays. -/
structure TurnedS (w wr wy : World) (s : Nat) (v v4 : Value) (cs cs' : List Itm) (ab : Nat) (p : Stp) : Prop where
  bel : Below w.heap.size w wy
  stk : ∃ v', StackAt wy s s v' cs'
  ref : wy.ownsRow s 32 2 v4 cs.length (cs.flatMap itmC)
  far : w.heap.size ≤ s
  blk : wy.heap[ab]? = some (.cells #[.int .i64 p.what, .int .i64 p.at', .int .i64 p.node, .string p.name] 29 (0, 0))
  oth : ∀ (b : Nat) (c : Array Value) (t : TypeId), t ≠ 31 → t ≠ 26 → wr.heap[b]? = some (.cells c t (0, 0)) → wy.heap[b]? = some (.cells c t (0, 0))

theorem SwAt.other (h : SwAt w wr s k v v4 cs ab p) (hk : Kept (fun k => k = s ∨ v.ownBlock = some k) wr wy) {b : Nat} {c : Array Value} {t : TypeId} (h1 : t ≠ 31) (h2 : t ≠ 26) (hb : wr.heap[b]? = some (.cells c t (0, 0))) : wy.heap[b]? = some (.cells c t (0, 0)) := by
  refine (hk.block b (Array.getElem?_eq_some_iff.1 hb).1 ?_).trans hb
  rintro (e | e)
  · subst e
    have := h.ss.stk.blk
    rw [hb] at this
    simp only [Option.some.injEq, Obj.cells.injEq] at this
    exact h2 this.2.1
  · exact blk_apart hb h.ss.stk.own h1 e

theorem SwAt.kept (h : SwAt w wr s k v v4 cs ab p) {cs' : List Itm} (hs : ∃ v', StackAt wy s s v' cs') (hk : Kept (fun k => k = s ∨ v.ownBlock = some k) wr wy) : TurnedS w wr wy s v v4 cs cs' ab p := by
  have hoff : ∀ q, (q = s ∨ v.ownBlock = some q) → w.heap.size ≤ q := by
    rintro q (e | e)
    · have := h.ss.far
      omega
    · have := (owns_lt h.ss.stk.own q e).1
      have := h.ss.far
      omega
  refine ⟨?_, hs, ?_, h.ss.far, h.other hk (by decide) (by decide) h.blk, fun b c t h1 h2 hb => h.other hk h1 h2 hb⟩
  · refine ⟨hk.os.trans h.ss.bel.os, hk.tape.trans h.ss.bel.tape, hk.output.trans h.ss.bel.output, Nat.le_trans h.ss.bel.size hk.size, fun b hb => ?_⟩
    refine (hk.block b (Nat.lt_of_lt_of_le hb h.ss.bel.size) (fun e => ?_)).trans (h.ss.bel.block b hb)
    have := hoff b e
    omega
  · refine owns_kept h.ss.ref hk (fun q e => ?_)
    rintro (e2 | e2)
    · subst e2
      exact blk_apart h.ss.stk.blk h.ss.ref (by decide) e
    · rcases owns_apart h.ss.ref h.ss.stk.own (by decide) with e3 | e3
      · rw [e3] at e
        cases e
      · exact e3 (e.trans e2.symm)
theorem SwAt.turn (h : SwAt w wr s k v v4 cs ab p) {cs' : List Itm} (ht : TurnP wr s s v cs' wy) : TurnedS w wr wy s v v4 cs cs' ab p := h.kept (ht.at'.imp fun _ h => h.1) ht.kept
theorem SwAt.push (h : SwAt w wr s k v v4 cs ab p) {i : Itm} (ht : PushP wr s s v cs i wy) : TurnedS w wr wy s v v4 cs (cs ++ [i]) ab p := h.kept (ht.at'.imp fun _ h => h.1) ht.kept

/-- The reference's row is cut shorter. -/
theorem TurnedS.cut {a : Option Addr} {c i : Nat} (h : TurnedS w wr wy s v (.slice a cs.length c) cs (cs.take i) ab p) (hi : i ≤ cs.length) (hl : cs.length ≤ k) : ∃ v', SwAt w wy s k v' (.slice a i c) (cs.take i) ab p := by
  obtain ⟨v', h1⟩ := h.stk
  refine ⟨v', ⟨h.bel, h1, ?_, h.far, by simp; omega⟩, h.blk⟩
  have ht : (cs.take i).length = i := by simp; omega
  rcases h.ref.2 with ⟨e1, e2⟩ | ⟨g, cap, cur, e1, _⟩
  · have hn : cs = [] := List.length_eq_zero_iff.1 e2
    subst hn
    have hi0 : i = 0 := by simpa using hi
    subst hi0
    injection e1 with e1 _ e3
    subst e1 e3
    exact World.ownsRow_nil _ _ _ _
  · injection e1 with e1 _ e3
    subst e1 e3
    have := owns_shorter h.ref hi
    rw [iflat_take] at this
    rw [ht]
    exact this

/-- The reference's row is made anew. -/
theorem TurnedS.anew {w2 : World} {cs' : List Itm} {v4' : Value} (h : TurnedS w wr wy s v v4 cs cs' ab p) (hb : Kept (fun q => wy.heap.size ≤ q) wy w2) (hr : w2.ownsRow wy.heap.size 32 2 v4' cs'.length (cs'.flatMap itmC)) (hl : cs'.length ≤ k) : ∃ v', SwAt w w2 s k v' v4' cs' ab p := by
  have hbb : Below wy.heap.size wy w2 := ⟨hb.os, hb.tape, hb.output, hb.size, fun q hq => hb.block q hq (by omega)⟩
  obtain ⟨v', h1⟩ := h.stk
  refine ⟨v', ⟨h.bel.trans (hbb.mono h.bel.size), h1.below hbb, owns_base hr h1.le, h.far, hl⟩, (hbb.block ab (Array.getElem?_eq_some_iff.1 h.blk).1).trans h.blk⟩
end
end Go.Proofs.Ytalbiekleggkoaa
