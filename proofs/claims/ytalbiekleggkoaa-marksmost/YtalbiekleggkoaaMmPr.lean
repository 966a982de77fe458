/-
  An entry, twice: what is made.
-/
import Derived.Test.YtalbiekleggkoaaMmBase
namespace Go.Proofs.Ytalbiekleggkoaa
open Go.RowKit Go.Maps

/-- The attributes that came in. -/
structure InAt (w : World) (ia : Option Addr) (L : List Atr) : Prop where
  at' : ∀ (i : Nat) (p : Atr), L[i]? = some p → ∃ a0, ia = some a0 ∧ w.cell? (a0.add (i * 2)) = some (.string p.1) ∧ w.cell? (a0.add (i * 2 + 1)) = some (.string p.2)
theorem InAt.below {w w' : World} {ia : Option Addr} {L : List Atr} (h : InAt w ia L) (hb : Below w.heap.size w w') : InAt w' ia L := by
  refine ⟨fun i p hi => ?_⟩
  obtain ⟨g, h1, h2, h3⟩ := h.at' i p hi
  exact ⟨g, h1, (hb.cell (p := g.add (i * 2)) (World.block_lt_of_cell? _ _ h2)).trans h2, (hb.cell (p := g.add (i * 2 + 1)) (World.block_lt_of_cell? _ _ h3)).trans h3⟩

/-- What the making of one attribute reads. -/
structure PrS (hb : Nat) (a0 : Addr) (n icap k : Nat) (p : Atr) (w' : World) : Prop where
  a4 : w'.cell? ⟨hb, 4, none⟩ = some (.slice (some a0) n icap)
  s0 : w'.cell? (a0.add (k * 2)) = some (.string p.1)
  s1 : w'.cell? ⟨(a0.add (k * 2)).block, (a0.add (k * 2)).off + 1, none⟩ = some (.string p.2)
/-- What both entries hold so far. -/
structure PrAt (w : World) (ia : Option Addr) (icap : Nat) (L : List Atr) (nd : Int) (nm : ByteArray) (bx ey B : Nat) (D E : List Atr) (vx vy : Value) (wr : World) : Prop where
  bel : Below w.heap.size w wr
  a4 : wr.cell? ⟨w.heap.size, 4, none⟩ = some (.slice ia L.length icap)
  x : wr.heap[bx]? = some (.cells #[.int .i64 nd, .string nm, vx] 58)
  y : wr.heap[ey]? = some (.cells #[.int .i64 nd, .string nm, vy] 61)
  r1 : wr.heap[w.heap.size + 1]? = some (.cells #[.int .i64 0, .string ⟨#[]⟩, .slice none 0 0] 58)
  r2 : wr.heap[w.heap.size + 2]? = some (.cells #[.int .i64 0, .string ⟨#[]⟩, .slice none 0 0] 61)
  ox : wr.ownsRow B 93 2 vx D.length (D.flatMap atrC)
  oy : wr.ownsRow B 91 2 vy E.length (E.flatMap atrC)
  l1 : w.heap.size + 2 < bx
  l2 : w.heap.size + 2 < ey
  l3 : bx < B
  l4 : ey < B
  l5 : bx ≠ ey
  l6 : B ≤ wr.heap.size

theorem PrAt.drew {w wr : World} {ia : Option Addr} {icap : Nat} {L : List Atr} {nd : Int} {nm : ByteArray} {bx ey B : Nat} {D E : List Atr} {vx vy : Value} (h : PrAt w ia icap L nd nm bx ey B D E vx vy wr) : PrAt w ia icap L nd nm bx ey B D E vx vy wr.drew :=
  ⟨h.bel.drew, h.a4, h.x, h.y, h.r1, h.r2, World.ownsRow.drew h.ox, World.ownsRow.drew h.oy, h.l1, h.l2, h.l3, h.l4, h.l5, h.l6⟩
theorem PrAt.draws {w wr : World} {ia : Option Addr} {icap : Nat} {L : List Atr} {nd : Int} {nm : ByteArray} {bx ey B : Nat} {D E : List Atr} {vx vy : Value} (h : PrAt w ia icap L nd nm bx ey B D E vx vy wr) (q : Nat) : PrAt w ia icap L nd nm bx ey B D E vx vy (wr.drewN q) :=
  ⟨mk_drawn h.bel q, h.a4, h.x, h.y, h.r1, h.r2, h.ox, h.oy, h.l1, h.l2, h.l3, h.l4, h.l5, h.l6⟩
theorem row_head {w : World} {base : Nat} {e : TypeId} {size : Nat} {v : Value} {n : Nat} {xs : List Value} (h : w.ownsRow base e size v n xs) : ∃ a cap, v = .slice a n cap := by
  rcases h.2 with ⟨rfl, h0⟩ | ⟨g, cap, cur, rfl, _⟩
  · exact ⟨none, 0, by rw [h0]⟩
  · exact ⟨_, _, rfl⟩
theorem aflat_at (l : List Atr) (i : Nat) (p : Atr) (h : l[i]? = some p) : (l.flatMap atrC)[i * 2]? = some (.string p.1) ∧ (l.flatMap atrC)[i * 2 + 1]? = some (.string p.2) := by
  induction l generalizing i with
  | nil => simp at h
  | cons x l ih =>
    match i, h with
    | 0, h =>
      simp only [List.getElem?_cons_zero, Option.some.injEq] at h
      subst h
      exact ⟨rfl, rfl⟩
    | i + 1, h =>
      have h2 := ih i (by simpa using h)
      have e : ∀ j, ((x :: l).flatMap atrC)[(i + 1) * 2 + j]? = (l.flatMap atrC)[i * 2 + j]? := by
        intro j
        have e2 : (atrC x).length = 2 := rfl
        rw [List.flatMap_cons, List.getElem?_append_right (by omega), e2]
        congr 1
        omega
      exact ⟨(e 0).trans h2.1, (e 1).trans h2.2⟩
theorem aflat_len (l : List Atr) : (l.flatMap atrC).length = l.length * 2 := by
  induction l with
  | nil => rfl
  | cons x l ih => rw [List.flatMap_cons, List.length_append, ih]; simp [atrC]; omega
theorem chain5 (w : World) (o0 o1 o2 o3 o4 : Obj) : ((((((w.alloc o0).alloc o1).alloc o2).alloc o3).alloc o4).heap.size = w.heap.size + 5) ∧ Below w.heap.size w (((((w.alloc o0).alloc o1).alloc o2).alloc o3).alloc o4) ∧
    (((((w.alloc o0).alloc o1).alloc o2).alloc o3).alloc o4).heap[w.heap.size]? = some o0 ∧ (((((w.alloc o0).alloc o1).alloc o2).alloc o3).alloc o4).heap[w.heap.size + 1]? = some o1 ∧ (((((w.alloc o0).alloc o1).alloc o2).alloc o3).alloc o4).heap[w.heap.size + 2]? = some o2 ∧
    (((((w.alloc o0).alloc o1).alloc o2).alloc o3).alloc o4).heap[w.heap.size + 3]? = some o3 ∧ (((((w.alloc o0).alloc o1).alloc o2).alloc o3).alloc o4).heap[w.heap.size + 4]? = some o4 := by
  have z1 : (w.alloc o0).heap.size = w.heap.size + 1 := by simp
  have z2 : ((w.alloc o0).alloc o1).heap.size = w.heap.size + 2 := by simp
  have z3 : (((w.alloc o0).alloc o1).alloc o2).heap.size = w.heap.size + 3 := by simp
  have z4 : ((((w.alloc o0).alloc o1).alloc o2).alloc o3).heap.size = w.heap.size + 4 := by simp
  have b : ∀ (x : World) (o : Obj), Below x.heap.size x (x.alloc o) := fun x o => (Below.refl _ _).alloc (Nat.le_refl _) o
  have n : ∀ (x : World) (o : Obj), (x.alloc o).heap[x.heap.size]? = some o := fun x o => heap_alloc_new x o
  have h0 := n w o0
  have h1 := n (w.alloc o0) o1
  have h2 := n ((w.alloc o0).alloc o1) o2
  have h3 := n (((w.alloc o0).alloc o1).alloc o2) o3
  have h4 := n ((((w.alloc o0).alloc o1).alloc o2).alloc o3) o4
  have b0 := b w o0
  have b1 := b (w.alloc o0) o1
  have b2 := b ((w.alloc o0).alloc o1) o2
  have b3 := b (((w.alloc o0).alloc o1).alloc o2) o3
  have b4 := b ((((w.alloc o0).alloc o1).alloc o2).alloc o3) o4
  rw [z1] at h1 b1
  rw [z2] at h2 b2
  rw [z3] at h3 b3
  rw [z4] at h4 b4
  refine ⟨by simp, (((b0.trans (b1.mono (by omega))).trans (b2.mono (by omega))).trans (b3.mono (by omega))).trans (b4.mono (by omega)), ?_, ?_, ?_, ?_, h4⟩
  · rw [b4.block _ (by omega), b3.block _ (by omega), b2.block _ (by omega), b1.block _ (by omega), h0]
  · rw [b4.block _ (by omega), b3.block _ (by omega), b2.block _ (by omega), h1]
  · rw [b4.block _ (by omega), b3.block _ (by omega), h2]
  · rw [b4.block _ (by omega), h3]

theorem ne_lt {B : Nat} {w : World} {e : TypeId} {sz n : Nat} {v : Value} {xs : List Value} (h : w.ownsRow B e sz v n xs) {k : Nat} (hk : k < B) : v.ownBlock ≠ some k := fun e => by
  have := (owns_lt h k e).1
  omega
theorem inews (w : World) (t : TypeId) (a b : Value) : ∀ j u, ([a, b] : List Value)[j]? = some u → (w.alloc (.cells #[a, b] t)).drew.cell? ((⟨w.heap.size, 0, none⟩ : Addr).add j) = some u := by
  intro j u h
  match j, h with
  | 0, h => simp at h; subst h; exact World.cell?_alloc_at (w := w) _ _ _ 0 rfl
  | 1, h => simp at h; subst h; exact World.cell?_alloc_at (w := w) _ _ _ 1 rfl
  | (j + 2), h => simp at h
theorem add_one (a : Addr) (n : Nat) : a.add (n + 1) = ⟨(a.add n).block, (a.add n).off + 1, none⟩ := by
  unfold Addr.add
  by_cases h : n = 0
  · subst h
    simp
  · simp [h]
    omega
theorem PrS.of {w W : World} {a0 : Addr} {icap k : Nat} {L : List Atr} {p : Atr} (hI : InAt w (some a0) L) (hk : L[k]? = some p) (hb : Below w.heap.size w W) (h4 : W.cell? ⟨w.heap.size, 4, none⟩ = some (.slice (some a0) L.length icap)) : PrS w.heap.size a0 L.length icap k p W := by
  obtain ⟨a1, e, h0, h1⟩ := (hI.below hb).at' k p hk
  injection e with e
  subst e
  rw [add_one] at h1
  exact ⟨h4, h0, h1⟩
theorem types_ne : 93 ≠ 91 := by decide

theorem PrAt.addx {w wr w3 : World} {ia : Option Addr} {icap : Nat} {L : List Atr} {nd : Int} {nm : ByteArray} {bx ey B g cap : Nat} {D E : List Atr} {vx vy : Value} {p : Atr} {o : Obj} (h : PrAt w ia icap L nd nm bx ey B D E vx vy wr)
    (hown : w3.ownsRow B 93 2 (.slice (some ⟨g, 0, none⟩) (D.length + 1) cap) (D.length + 1) (D.flatMap atrC ++ atrC p)) (hg : (wr.alloc o).drew.grownBy w3 vx.ownBlock) :
    w3.cell? ⟨bx, 2, none⟩ = some vx ∧ w3.frozen? ⟨bx, 2, none⟩ = false ∧ Hid (Below w.heap.size w w3) ∧ Hid (w3.cell? ⟨w.heap.size, 4, none⟩ = some (.slice ia L.length icap)) ∧ Hid (PrAt w ia icap L nd nm bx ey B (D ++ [p]) E (.slice (some ⟨g, 0, none⟩) (D.length + 1) cap) vy (w3.setCell ⟨bx, 2, none⟩ (.slice (some ⟨g, 0, none⟩) (D.length + 1) cap))) := by
  have hal : Below wr.heap.size wr (wr.alloc o).drew := ((Below.refl _ _).alloc (Nat.le_refl _) o).drew
  have hk1 : Kept (fun k => vx.ownBlock = some k) wr w3 := (Kept.below hal).trans (Kept.grown hg (fun k e => e))
  have l6 := h.l6
  have l3 := h.l3
  have l4 := h.l4
  have l1 := h.l1
  have hB : Below B wr w3 := ⟨hk1.os, hk1.tape, hk1.output, hk1.size, fun j hj => hk1.block j (by omega) (ne_lt h.ox hj)⟩
  have hblk : w3.heap[bx]? = some (.cells #[.int .i64 nd, .string nm, vx] 58) := (hB.block bx l3).trans h.x
  have hgB := (hown.lt g rfl).1
  have hst : Kept (fun k => k = bx) w3 (w3.setCell ⟨bx, 2, none⟩ (.slice (some ⟨g, 0, none⟩) (D.length + 1) cap)) := Kept.store (out := fun k => k = bx) (Kept.refl _ _) ⟨bx, 2, none⟩ rfl _
  have hsz : (w3.setCell ⟨bx, 2, none⟩ (.slice (some ⟨g, 0, none⟩) (D.length + 1) cap)).heap.size = w3.heap.size := by simp [World.setCell]
  have hblk2 : ∀ j, j < B → j ≠ bx → (w3.setCell ⟨bx, 2, none⟩ (.slice (some ⟨g, 0, none⟩) (D.length + 1) cap)).heap[j]? = wr.heap[j]? := fun j hj hn => (hst.block j (by have := hk1.size; omega) hn).trans (hB.block j hj)
  have hcell : ∀ j c, j < B → j ≠ bx → (w3.setCell ⟨bx, 2, none⟩ (.slice (some ⟨g, 0, none⟩) (D.length + 1) cap)).cell? ⟨j, c, none⟩ = wr.cell? ⟨j, c, none⟩ := fun j c hj hn => World.cell?_of_block (hblk2 j hj hn)
  refine ⟨by simp [World.cell?, hblk], by simp [World.frozen?, hblk], h.bel.trans ⟨hB.os, hB.tape, hB.output, hB.size, fun j hj => hB.block j (by omega)⟩, (World.cell?_of_block (hB.block w.heap.size (by omega))).trans h.a4, ⟨?_, ?_, ?_, ?_, ?_, ?_, ?_, ?_, h.l1, h.l2, l3, l4, h.l5, ?_⟩⟩
  · have hw : w.heap.size ≤ wr.heap.size := h.bel.size
    exact h.bel.trans ⟨hst.os.trans hk1.os, hst.tape.trans hk1.tape, hst.output.trans hk1.output, Nat.le_trans hk1.size hst.size, fun j hj => hblk2 j (by omega) (by omega)⟩
  · rw [hcell _ _ (by omega) (by omega)]
    exact h.a4
  · have hlt := (Array.getElem?_eq_some_iff.1 hblk).1
    simp only [World.setCell, Array.getElem?_modify, hblk]
    simp
  · exact (hblk2 ey l4 (fun e => h.l5 e.symm)).trans h.y
  · exact (hblk2 _ (by omega) (by omega)).trans h.r1
  · exact (hblk2 _ (by omega) (by omega)).trans h.r2
  · have := owns_kept (out := fun k => k = bx) hown hst (by
      intro k e
      simp only [Value.ownBlock, Option.some.injEq] at e
      omega)
    simpa using this
  · have h1 : w3.ownsRow B 91 2 vy E.length (E.flatMap atrC) := owns_kept h.oy hk1 (fun k e e2 => by
      rcases owns_apart h.ox h.oy types_ne with e3 | e3
      · rw [e3] at e2; cases e2
      · exact e3 (e2.trans e.symm))
    exact owns_kept (out := fun k => k = bx) h1 hst (fun k e e2 => ne_lt h1 (show k < B by omega) e)
  · have := hk1.size
    omega

theorem PrAt.addy {w wr w3 : World} {ia : Option Addr} {icap : Nat} {L : List Atr} {nd : Int} {nm : ByteArray} {bx ey B g cap : Nat} {D E : List Atr} {vx vy : Value} {p : Atr} {o : Obj} (h : PrAt w ia icap L nd nm bx ey B D E vx vy wr)
    (hown : w3.ownsRow B 91 2 (.slice (some ⟨g, 0, none⟩) (E.length + 1) cap) (E.length + 1) (E.flatMap atrC ++ atrC p)) (hg : (wr.alloc o).drew.grownBy w3 vy.ownBlock) :
    w3.cell? ⟨ey, 2, none⟩ = some vy ∧ w3.frozen? ⟨ey, 2, none⟩ = false ∧ Hid (Below w.heap.size w w3) ∧ Hid (w3.cell? ⟨w.heap.size, 4, none⟩ = some (.slice ia L.length icap)) ∧ Hid (PrAt w ia icap L nd nm bx ey B D (E ++ [p]) vx (.slice (some ⟨g, 0, none⟩) (E.length + 1) cap) (w3.setCell ⟨ey, 2, none⟩ (.slice (some ⟨g, 0, none⟩) (E.length + 1) cap))) := by
  have hal : Below wr.heap.size wr (wr.alloc o).drew := ((Below.refl _ _).alloc (Nat.le_refl _) o).drew
  have hk1 : Kept (fun k => vy.ownBlock = some k) wr w3 := (Kept.below hal).trans (Kept.grown hg (fun k e => e))
  have l6 := h.l6
  have l3 := h.l3
  have l4 := h.l4
  have l2 := h.l2
  have hB : Below B wr w3 := ⟨hk1.os, hk1.tape, hk1.output, hk1.size, fun j hj => hk1.block j (by omega) (ne_lt h.oy hj)⟩
  have hblk : w3.heap[ey]? = some (.cells #[.int .i64 nd, .string nm, vy] 61) := (hB.block ey l4).trans h.y
  have hgB := (hown.lt g rfl).1
  have hst : Kept (fun k => k = ey) w3 (w3.setCell ⟨ey, 2, none⟩ (.slice (some ⟨g, 0, none⟩) (E.length + 1) cap)) := Kept.store (out := fun k => k = ey) (Kept.refl _ _) ⟨ey, 2, none⟩ rfl _
  have hsz : (w3.setCell ⟨ey, 2, none⟩ (.slice (some ⟨g, 0, none⟩) (E.length + 1) cap)).heap.size = w3.heap.size := by simp [World.setCell]
  have hblk2 : ∀ j, j < B → j ≠ ey → (w3.setCell ⟨ey, 2, none⟩ (.slice (some ⟨g, 0, none⟩) (E.length + 1) cap)).heap[j]? = wr.heap[j]? := fun j hj hn => (hst.block j (by have := hk1.size; omega) hn).trans (hB.block j hj)
  have hcell : ∀ j c, j < B → j ≠ ey → (w3.setCell ⟨ey, 2, none⟩ (.slice (some ⟨g, 0, none⟩) (E.length + 1) cap)).cell? ⟨j, c, none⟩ = wr.cell? ⟨j, c, none⟩ := fun j c hj hn => World.cell?_of_block (hblk2 j hj hn)
  refine ⟨by simp [World.cell?, hblk], by simp [World.frozen?, hblk], h.bel.trans ⟨hB.os, hB.tape, hB.output, hB.size, fun j hj => hB.block j (by omega)⟩, (World.cell?_of_block (hB.block w.heap.size (by omega))).trans h.a4, ⟨?_, ?_, ?_, ?_, ?_, ?_, ?_, ?_, h.l1, h.l2, l3, l4, h.l5, ?_⟩⟩
  · have hw : w.heap.size ≤ wr.heap.size := h.bel.size
    exact h.bel.trans ⟨hst.os.trans hk1.os, hst.tape.trans hk1.tape, hst.output.trans hk1.output, Nat.le_trans hk1.size hst.size, fun j hj => hblk2 j (by omega) (by omega)⟩
  · rw [hcell _ _ (by omega) (by omega)]
    exact h.a4
  · exact (hblk2 bx l3 h.l5).trans h.x
  · have hlt := (Array.getElem?_eq_some_iff.1 hblk).1
    simp only [World.setCell, Array.getElem?_modify, hblk]
    simp
  · exact (hblk2 _ (by omega) (by omega)).trans h.r1
  · exact (hblk2 _ (by omega) (by omega)).trans h.r2
  · have h1 : w3.ownsRow B 93 2 vx D.length (D.flatMap atrC) := owns_kept h.ox hk1 (fun k e e2 => by
      rcases owns_apart h.ox h.oy types_ne with e3 | e3
      · rw [e3] at e; cases e
      · exact e3 (e.trans e2.symm))
    exact owns_kept (out := fun k => k = ey) h1 hst (fun k e e2 => ne_lt h1 (show k < B by omega) e)
  · have := owns_kept (out := fun k => k = ey) hown hst (by
      intro k e
      simp only [Value.ownBlock, Option.some.injEq] at e
      omega)
    simpa using this
  · have := hk1.size
    omega
/-- Both entries as they lie at the end. -/
structure PrE (bx ey : Nat) (nd : Int) (nm : ByteArray) (vx vy : Value) (w' : World) : Prop where
  x0 : w'.cell? ⟨bx, 0, none⟩ = some (.int .i64 nd)
  x1 : w'.cell? ⟨bx, 1, none⟩ = some (.string nm)
  x2 : w'.cell? ⟨bx, 2, none⟩ = some vx
  y0 : w'.cell? ⟨ey, 0, none⟩ = some (.int .i64 nd)
  y1 : w'.cell? ⟨ey, 1, none⟩ = some (.string nm)
  y2 : w'.cell? ⟨ey, 2, none⟩ = some vy

/-- What is handed back. -/
structure FinP (w : World) (nd : Int) (nm : ByteArray) (va : Option Addr) (ca : Nat) (vb : Option Addr) (cb : Nat) (l : List Atr) (w' : World) : Prop where
  p0 : w'.cell? ⟨w.heap.size + 1, 0, none⟩ = some (.int .i64 nd)
  p1 : w'.cell? ⟨w.heap.size + 1, 1, none⟩ = some (.string nm)
  p2 : w'.cell? ⟨w.heap.size + 1, 2, none⟩ = some (.slice va l.length ca)
  q0 : w'.cell? ⟨w.heap.size + 1 + 1, 0, none⟩ = some (.int .i64 nd)
  q1 : w'.cell? ⟨w.heap.size + 1 + 1, 1, none⟩ = some (.string nm)
  q2 : w'.cell? ⟨w.heap.size + 1 + 1, 2, none⟩ = some (.slice vb l.length cb)
  ra : AtrRow w' va ca l
  rb : AtrsAt w' vb l
  bel : Below w.heap.size w w'

theorem PrE.drew {bx ey : Nat} {nd : Int} {nm : ByteArray} {vx vy : Value} {w' : World} (h : PrE bx ey nd nm vx vy w') : PrE bx ey nd nm vx vy w'.drew := ⟨h.x0, h.x1, h.x2, h.y0, h.y1, h.y2⟩
theorem FinP.drew {w : World} {nd : Int} {nm : ByteArray} {va : Option Addr} {ca : Nat} {vb : Option Addr} {cb : Nat} {l : List Atr} {w' : World} (h : FinP w nd nm va ca vb cb l w') : FinP w nd nm va ca vb cb l w'.drew := ⟨h.p0, h.p1, h.p2, h.q0, h.q1, h.q2, h.ra.below (Below.refl _ _).drew, ⟨h.rb.at'⟩, h.bel.drew⟩
theorem gen_world {Q : Exit → Act → World → Prop} {e : Exit} {a : Act} {W : World} {C : World → Prop} (hC : C W) (k : ∀ W', C W' → Q e a W') : Q e a W := k W hC

/-- Three cells of one block are set. -/
def set3 (w : World) (r : Nat) (a b c : Value) : World := ((w.setCell ⟨r, 0, none⟩ a).setCell ⟨r, 1, none⟩ b).setCell ⟨r, 2, none⟩ c
theorem set3_far (w : World) (r : Nat) (a b c : Value) (k j : Nat) (h : k ≠ r) : (set3 w r a b c).cell? ⟨k, j, none⟩ = w.cell? ⟨k, j, none⟩ := by
  have e : ∀ i, (⟨k, j, none⟩ : Addr) ≠ ⟨r, i, none⟩ := fun i e => by injection e with e _; exact h e
  unfold set3
  rw [World.cell?_setCell_other _ _ _ _ (fun e' => e 2 e'.symm), World.cell?_setCell_other _ _ _ _ (fun e' => e 1 e'.symm), World.cell?_setCell_other _ _ _ _ (fun e' => e 0 e'.symm)]
theorem set3_in (w : World) (r : Nat) (a b c a0 b0 c0 : Value) (h0 : w.cell? ⟨r, 0, none⟩ = some a0) (h1 : w.cell? ⟨r, 1, none⟩ = some b0) (h2 : w.cell? ⟨r, 2, none⟩ = some c0) :
    (set3 w r a b c).cell? ⟨r, 0, none⟩ = some a ∧ (set3 w r a b c).cell? ⟨r, 1, none⟩ = some b ∧ (set3 w r a b c).cell? ⟨r, 2, none⟩ = some c := by
  have ne : ∀ i j, i ≠ j → (⟨r, i, none⟩ : Addr) ≠ ⟨r, j, none⟩ := fun i j h e => by injection e with _ e _; exact h e
  have s0 : (w.setCell ⟨r, 0, none⟩ a).cell? ⟨r, 0, none⟩ = some a := World.cell?_setCell_same _ _ _ h0
  have s1 : (w.setCell ⟨r, 0, none⟩ a).cell? ⟨r, 1, none⟩ = some b0 := (World.cell?_setCell_other _ _ _ _ (ne 0 1 (by decide))).trans h1
  have s2 : (w.setCell ⟨r, 0, none⟩ a).cell? ⟨r, 2, none⟩ = some c0 := (World.cell?_setCell_other _ _ _ _ (ne 0 2 (by decide))).trans h2
  have t0 : ((w.setCell ⟨r, 0, none⟩ a).setCell ⟨r, 1, none⟩ b).cell? ⟨r, 0, none⟩ = some a := (World.cell?_setCell_other _ _ _ _ (ne 1 0 (by decide))).trans s0
  have t1 : ((w.setCell ⟨r, 0, none⟩ a).setCell ⟨r, 1, none⟩ b).cell? ⟨r, 1, none⟩ = some b := World.cell?_setCell_same _ _ _ s1
  have t2 : ((w.setCell ⟨r, 0, none⟩ a).setCell ⟨r, 1, none⟩ b).cell? ⟨r, 2, none⟩ = some c0 := (World.cell?_setCell_other _ _ _ _ (ne 1 2 (by decide))).trans s2
  exact ⟨(World.cell?_setCell_other _ _ _ _ (ne 2 0 (by decide))).trans t0, (World.cell?_setCell_other _ _ _ _ (ne 2 1 (by decide))).trans t1, World.cell?_setCell_same _ _ _ t2⟩
theorem set3_kept (w : World) (r : Nat) (a b c : Value) : Kept (fun k => k = r) w (set3 w r a b c) := (((Kept.refl (fun k => k = r) w).store ⟨r, 0, none⟩ rfl a).store ⟨r, 1, none⟩ rfl b).store ⟨r, 2, none⟩ rfl c

theorem PrE.set3 {bx ey : Nat} {nd : Int} {nm : ByteArray} {vx vy : Value} {w' : World} (h : PrE bx ey nd nm vx vy w') (r : Nat) (a b c : Value) (h1 : bx ≠ r) (h2 : ey ≠ r) : PrE bx ey nd nm vx vy (set3 w' r a b c) :=
  ⟨(set3_far _ _ _ _ _ _ _ h1).trans h.x0, (set3_far _ _ _ _ _ _ _ h1).trans h.x1, (set3_far _ _ _ _ _ _ _ h1).trans h.x2, (set3_far _ _ _ _ _ _ _ h2).trans h.y0, (set3_far _ _ _ _ _ _ _ h2).trans h.y1, (set3_far _ _ _ _ _ _ _ h2).trans h.y2⟩

theorem PrAt.ends {w wr : World} {ia : Option Addr} {icap : Nat} {L : List Atr} {nd : Int} {nm : ByteArray} {bx ey B ca cb : Nat} {D : List Atr} {va vb : Option Addr} (h : PrAt w ia icap L nd nm bx ey B D D (.slice va D.length ca) (.slice vb D.length cb) wr) :
    PrE bx ey nd nm (.slice va D.length ca) (.slice vb D.length cb) wr ∧ PrE bx ey nd nm (.slice va D.length ca) (.slice vb D.length cb) (set3 wr (w.heap.size + 1) (.int .i64 nd) (.string nm) (.slice va D.length ca)) ∧
    PrE bx ey nd nm (.slice va D.length ca) (.slice vb D.length cb) (set3 (set3 wr (w.heap.size + 1) (.int .i64 nd) (.string nm) (.slice va D.length ca)) (w.heap.size + 1 + 1) (.int .i64 nd) (.string nm) (.slice vb D.length cb)) ∧
    FinP w nd nm va ca vb cb D (set3 (set3 wr (w.heap.size + 1) (.int .i64 nd) (.string nm) (.slice va D.length ca)) (w.heap.size + 1 + 1) (.int .i64 nd) (.string nm) (.slice vb D.length cb)) := by
  have l1 := h.l1
  have l2 := h.l2
  have l3 := h.l3
  have hE : PrE bx ey nd nm (.slice va D.length ca) (.slice vb D.length cb) wr := ⟨by simp only [World.cell?, h.x]; rfl, by simp only [World.cell?, h.x]; rfl, by simp only [World.cell?, h.x]; rfl, by simp only [World.cell?, h.y]; rfl, by simp only [World.cell?, h.y]; rfl, by simp only [World.cell?, h.y]; rfl⟩
  have hE1 := hE.set3 (w.heap.size + 1) (.int .i64 nd) (.string nm) (.slice va D.length ca) (by omega) (by omega)
  have hE2 := hE1.set3 (w.heap.size + 1 + 1) (.int .i64 nd) (.string nm) (.slice vb D.length cb) (by omega) (by omega)
  refine ⟨hE, hE1, hE2, ?_⟩
  have P := set3_in wr (w.heap.size + 1) (.int .i64 nd) (.string nm) (.slice va D.length ca) (.int .i64 0) (.string ⟨#[]⟩) (.slice none 0 0) (by simp only [World.cell?, h.r1]; rfl) (by simp only [World.cell?, h.r1]; rfl) (by simp only [World.cell?, h.r1]; rfl)
  have r2 : ∀ j, (set3 wr (w.heap.size + 1) (.int .i64 nd) (.string nm) (.slice va D.length ca)).cell? ⟨w.heap.size + 1 + 1, j, none⟩ = wr.cell? ⟨w.heap.size + 1 + 1, j, none⟩ := fun j => set3_far _ _ _ _ _ _ _ (by omega)
  have Q := set3_in (set3 wr (w.heap.size + 1) (.int .i64 nd) (.string nm) (.slice va D.length ca)) (w.heap.size + 1 + 1) (.int .i64 nd) (.string nm) (.slice vb D.length cb) (.int .i64 0) (.string ⟨#[]⟩) (.slice none 0 0) (by rw [r2]; simp only [World.cell?, h.r2]; rfl) (by rw [r2]; simp only [World.cell?, h.r2]; rfl) (by rw [r2]; simp only [World.cell?, h.r2]; rfl)
  have far : ∀ j, (set3 (set3 wr (w.heap.size + 1) (.int .i64 nd) (.string nm) (.slice va D.length ca)) (w.heap.size + 1 + 1) (.int .i64 nd) (.string nm) (.slice vb D.length cb)).cell? ⟨w.heap.size + 1, j, none⟩ = (set3 wr (w.heap.size + 1) (.int .i64 nd) (.string nm) (.slice va D.length ca)).cell? ⟨w.heap.size + 1, j, none⟩ := fun j => set3_far _ _ _ _ _ _ _ (by omega)
  have hk : Kept (amOut w.heap.size) wr (set3 (set3 wr (w.heap.size + 1) (.int .i64 nd) (.string nm) (.slice va D.length ca)) (w.heap.size + 1 + 1) (.int .i64 nd) (.string nm) (.slice vb D.length cb)) :=
    ((set3_kept _ _ _ _ _).mono (fun k _ e => .inl e)).trans ((set3_kept _ _ _ _ _).mono (fun k _ e => .inr e))
  have key : ∀ (T : TypeId) (v : Option Addr) (c : Nat), wr.ownsRow B T 2 (.slice v D.length c) D.length (D.flatMap atrC) → AtrsAt (set3 (set3 wr (w.heap.size + 1) (.int .i64 nd) (.string nm) (.slice va D.length ca)) (w.heap.size + 1 + 1) (.int .i64 nd) (.string nm) (.slice vb D.length cb)) v D := by
    intro T v c ho
    refine ⟨fun i p hi => ?_⟩
    have hlt := (List.getElem?_eq_some_iff.1 hi).1
    obtain ⟨g, c', hv⟩ := Joins.ownsRow_form ho (by omega)
    injection hv with hv _ hv3
    subst hv hv3
    have hg := owns_lt ho g rfl
    have hn : ¬ amOut w.heap.size g := by
      intro e
      rcases e with e | e <;> omega
    have hd := aflat_at _ i p hi
    exact ⟨g, rfl, (hk.cell ⟨g, i * 2, none⟩ hg.2 hn).trans (owns_at ho _ _ hd.1), (hk.cell ⟨g, i * 2 + 1, none⟩ hg.2 hn).trans (owns_at ho _ _ hd.2)⟩
  have HF : (va = none ∧ D = [] ∧ ca = 0) ∨ ∃ g, va = some ⟨g, 0, none⟩ ∧ D.length ≤ ca ∧ ca ≤ maxLen ∧ ∃ xs r, (set3 (set3 wr (w.heap.size + 1) (.int .i64 nd) (.string nm) (.slice va D.length ca)) (w.heap.size + 1 + 1) (.int .i64 nd) (.string nm) (.slice vb D.length cb)).heap[g]? = some (.cells xs 93 r) := by
    rcases h.ox.2 with ⟨hv, h0⟩ | ⟨g, cap, cur, hv, hB, hh, h1, h2, _⟩
    · injection hv with e1 _ e3
      exact .inl ⟨e1, List.length_eq_zero_iff.1 h0, e3⟩
    · injection hv with e1 _ e3
      subst e1 e3
      have hg := owns_lt h.ox g rfl
      have hn : ¬ amOut w.heap.size g := by
        intro e
        rcases e with e | e <;> omega
      exact .inr ⟨g, rfl, h1, h2, _, _, (hk.block g hg.2 hn).trans hh⟩
  exact ⟨(far 0).trans P.1, (far 1).trans P.2.1, (far 2).trans P.2.2, Q.1, Q.2.1, Q.2.2, ⟨key _ _ _ h.ox, HF⟩, key _ _ _ h.oy, h.bel.trans ⟨hk.os, hk.tape, hk.output, hk.size, fun j hj => hk.block j (Nat.lt_of_lt_of_le hj h.bel.size) (fun e => by rcases e with e | e <;> omega)⟩⟩
end Go.Proofs.Ytalbiekleggkoaa
