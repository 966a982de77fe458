/-
  Newlines in one form: plain facts, and how far Pass has come.
-/
import Derived.Test.YtgdjknbbjpcoiaaGreatDoorSpeaksP
namespace Go.Proofs.YtgdjknbbjpcoiaaGreatDoor
open Go.RowKit

def passOne (b : Bool) (r : Int × Int) : List (Int × Int) := if (b && r.1 == 10) = true then [] else [(if r.1 = 13 then 10 else r.1, r.2)]
def passR : Bool → List (Int × Int) → List (Int × Int)
  | _, [] => []
  | b, r :: l => passOne b r ++ passR (r.1 == 13) l
def passB : Bool → List (Int × Int) → Bool
  | b, [] => b
  | _, r :: l => passB (r.1 == 13) l

theorem passOne_len (b : Bool) (r : Int × Int) : (passOne b r).length ≤ 1 := by
  unfold passOne
  split <;> simp

theorem passR_len (b : Bool) (l : List (Int × Int)) : (passR b l).length ≤ l.length := by
  induction l generalizing b with
  | nil => simp [passR]
  | cons r l ih =>
    have h1 := passOne_len b r
    have h2 := ih (r.1 == 13)
    simp only [passR, List.length_append, List.length_cons]
    omega

theorem passR_append (b : Bool) (a l : List (Int × Int)) : passR b (a ++ l) = passR b a ++ passR (passB b a) l := by
  induction a generalizing b with
  | nil => rfl
  | cons r a ih => simp only [List.cons_append, passR, passB, ih, List.append_assoc]

structure PassAt (w wr : World) (lb k : Nat) (rs : List (Int × Int)) (b0 b : Bool) (vo : Value) (os : List (Int × Int)) : Prop where
  own : wr.ownsRow w.heap.size 121 2 vo os.length (os.flatMap runeC)
  c : wr.cell? ⟨lb, 0, none⟩ = some (.bool b)
  f : wr.frozen? ⟨lb, 0, none⟩ = false
  but : But lb w.heap.size w wr
  eo : passR b0 rs = os ++ passR b (rs.drop k)
  eb : passB b0 rs = passB b (rs.drop k)
  len : os.length ≤ k

theorem pass_eqs {rs : List (Int × Int)} {b0 b : Bool} {k : Nat} {os : List (Int × Int)} (hk : k < rs.length) (eo : passR b0 rs = os ++ passR b (rs.drop k)) (eb : passB b0 rs = passB b (rs.drop k)) :
    passR b0 rs = (os ++ passOne b rs[k]) ++ passR (rs[k].1 == 13) (rs.drop (k + 1)) ∧ passB b0 rs = passB (rs[k].1 == 13) (rs.drop (k + 1)) := by
  have hcons : rs.drop k = rs[k] :: rs.drop (k + 1) := List.drop_eq_getElem_cons hk
  rw [hcons] at eo eb
  constructor
  · rw [eo, passR, List.append_assoc]
  · rw [eb, passB]

/-- Behind the store of what was just seen. -/
theorem PassAt.seen {w wr wx : World} {lb k : Nat} {rs os : List (Int × Int)} {b0 b b' : Bool} {vo : Value} (h : PassAt w wr lb k rs b0 b vo os) (hb : Below wr.heap.size wr wx) (hlb : lb < w.heap.size) :
    (wx.setCell ⟨lb, 0, none⟩ (.bool b')).ownsRow w.heap.size 121 2 vo os.length (os.flatMap runeC) ∧ (wx.setCell ⟨lb, 0, none⟩ (.bool b')).cell? ⟨lb, 0, none⟩ = some (.bool b') ∧
    (wx.setCell ⟨lb, 0, none⟩ (.bool b')).frozen? ⟨lb, 0, none⟩ = false ∧ But lb w.heap.size w (wx.setCell ⟨lb, 0, none⟩ (.bool b')) := by
  have hs := h.but.size
  have hc : wx.cell? ⟨lb, 0, none⟩ = some (.bool b) := (hb.cell (p := ⟨lb, 0, none⟩) (show lb < wr.heap.size by omega)).trans h.c
  have hf : wx.frozen? ⟨lb, 0, none⟩ = false := (hb.frozen (p := ⟨lb, 0, none⟩) (show lb < wr.heap.size by omega)).trans h.f
  exact ⟨ownsRow_setCell_below (own_below h.own hb) hlb _, World.cell?_setCell_same _ _ _ hc, by rw [World.frozen?_setCell]; exact hf, (h.but.trans (But.of (hb.mono hs))).store 0 _⟩

theorem PassAt.skip {w wr w1 : World} {lb k : Nat} {rs os : List (Int × Int)} {b0 b b' : Bool} {vo : Value} (h : PassAt w wr lb k rs b0 b vo os) (hk : k < rs.length) (hb' : (rs[k].1 == 13) = b') (hone : passOne b rs[k] = [])
    (hS : w1.ownsRow w.heap.size 121 2 vo os.length (os.flatMap runeC) ∧ w1.cell? ⟨lb, 0, none⟩ = some (.bool b') ∧ w1.frozen? ⟨lb, 0, none⟩ = false ∧ But lb w.heap.size w w1) : PassAt w w1 lb (k + 1) rs b0 b' vo os := by
  obtain ⟨e1, e2⟩ := pass_eqs hk h.eo h.eb
  rw [hone, List.append_nil, hb'] at e1
  rw [hb'] at e2
  exact ⟨hS.1, hS.2.1, hS.2.2.1, hS.2.2.2, e1, e2, by have := h.len; omega⟩

theorem PassAt.add {w wr w1 w2 w' : World} {lb k : Nat} {rs os : List (Int × Int)} {b0 b b' : Bool} {vo vo' : Value} {r : Int × Int} (h : PassAt w wr lb k rs b0 b vo os) (hk : k < rs.length) (hlb : lb < w.heap.size) (hb' : (rs[k].1 == 13) = b') (hone : passOne b rs[k] = [r])
    (hS : w1.ownsRow w.heap.size 121 2 vo os.length (os.flatMap runeC) ∧ w1.cell? ⟨lb, 0, none⟩ = some (.bool b') ∧ w1.frozen? ⟨lb, 0, none⟩ = false ∧ But lb w.heap.size w w1)
    (h12 : Below w.heap.size w1 w2) (hown' : w'.ownsRow w.heap.size 121 2 vo' (os.length + 1) (os.flatMap runeC ++ runeC r)) (hgrow : w2.grownBy w' vo.ownBlock) : PassAt w w' lb (k + 1) rs b0 b' vo' (os ++ [r]) := by
  obtain ⟨e1, e2⟩ := pass_eqs hk h.eo h.eb
  rw [hone, hb'] at e1
  rw [hb'] at e2
  have hB : Below w.heap.size w1 w' := h12.grown hgrow (Nat.le_trans hS.2.2.2.size h12.size) (own_block_ge hS.1)
  exact ⟨by simpa using hown', (hB.cell (p := ⟨lb, 0, none⟩) hlb).trans hS.2.1, (hB.frozen (p := ⟨lb, 0, none⟩) hlb).trans hS.2.2.1, hS.2.2.2.trans (But.of hB), e1, e2, by have := h.len; simp; omega⟩
end Go.Proofs.YtgdjknbbjpcoiaaGreatDoor
