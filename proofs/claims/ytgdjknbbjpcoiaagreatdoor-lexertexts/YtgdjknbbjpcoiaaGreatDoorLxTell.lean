/-
  Telling a token; text scalar by scalar.
-/
import Derived.Test.YtgdjknbbjpcoiaaGreatDoorLxSmall
namespace Go.Proofs.YtgdjknbbjpcoiaaGreatDoor
open Go.RowKit

/-- A token. -/
structure Tok where
  kind : Int
  value : Int
  at' : Int
  name : ByteArray
  data : ByteArray
  attrs : Option Addr
  an : Nat
  ac : Nat
  self : Bool
  quirks : Bool
def tok0 : Tok := ⟨0, 0, 0, ⟨#[]⟩, ⟨#[]⟩, none, 0, 0, false, false⟩
def tokC (t : Tok) : List Value := [.int .i64 t.kind, .int .i64 t.value, .int .i64 t.at', .string t.name, .string t.data, .slice t.attrs t.an t.ac, .bool t.self, .bool t.quirks]
def tokV (t : Tok) : Value := .agg #[.int .i64 t.kind, .int .i64 t.value, .int .i64 t.at', .string t.name, .string t.data, .slice t.attrs t.an t.ac, .bool t.self, .bool t.quirks]

/-- The cells with a token laid among them. -/
def withTok (cs : List Value) (t : Tok) : List Value := (((((((cs.set 8 (.int .i64 t.kind)).set 9 (.int .i64 t.value)).set 10 (.int .i64 t.at')).set 11 (.string t.name)).set 12 (.string t.data)).set 13 (.slice t.attrs t.an t.ac)).set 14 (.bool t.self)).set 15 (.bool t.quirks)

/-- The lexer's token. -/
structure TokAt (cs : List Value) (t : Tok) : Prop where
  t0 : cs[8]? = some (.int .i64 t.kind)
  t1 : cs[9]? = some (.int .i64 t.value)
  t2 : cs[10]? = some (.int .i64 t.at')
  t3 : cs[11]? = some (.string t.name)
  t4 : cs[12]? = some (.string t.data)
  t5 : cs[13]? = some (.slice t.attrs t.an t.ac)
  t6 : cs[14]? = some (.bool t.self)
  t7 : cs[15]? = some (.bool t.quirks)

theorem with_other (cs : List Value) (t : Tok) (j : Nat) (h : j < 8 ∨ 15 < j) : (withTok cs t)[j]? = cs[j]? := by
  unfold withTok
  rw [List.getElem?_set_ne (by omega), List.getElem?_set_ne (by omega), List.getElem?_set_ne (by omega), List.getElem?_set_ne (by omega), List.getElem?_set_ne (by omega), List.getElem?_set_ne (by omega), List.getElem?_set_ne (by omega), List.getElem?_set_ne (by omega)]
theorem with_tok (cs : List Value) (t : Tok) (hl : cs.length = 34) : TokAt (withTok cs t) t := by
  unfold withTok
  refine ⟨?_, ?_, ?_, ?_, ?_, ?_, ?_, ?_⟩ <;> simp [hl]

theorem lex_tok {w : World} {l : Nat} {cs : List Value} (h : LexAt w l cs) (t : Tok) : LexAt ((((((((w.setCell ⟨l, 8, none⟩ (.int .i64 t.kind)).setCell ⟨l, 9, none⟩ (.int .i64 t.value)).setCell ⟨l, 10, none⟩ (.int .i64 t.at')).setCell ⟨l, 11, none⟩ (.string t.name)).setCell ⟨l, 12, none⟩ (.string t.data)).setCell ⟨l, 13, none⟩ (.slice t.attrs t.an t.ac)).setCell ⟨l, 14, none⟩ (.bool t.self)).setCell ⟨l, 15, none⟩ (.bool t.quirks)) l (withTok cs t) :=
  (((((((h.set 8 (by omega) _).set 9 (by omega) _).set 10 (by omega) _).set 11 (by omega) _).set 12 (by omega) _).set 13 (by omega) _).set 14 (by omega) _).set 15 (by omega) _
theorem but_tok {a w : World} {l B : Nat} (h : But l B a w) (t : Tok) : But l B a ((((((((w.setCell ⟨l, 8, none⟩ (.int .i64 t.kind)).setCell ⟨l, 9, none⟩ (.int .i64 t.value)).setCell ⟨l, 10, none⟩ (.int .i64 t.at')).setCell ⟨l, 11, none⟩ (.string t.name)).setCell ⟨l, 12, none⟩ (.string t.data)).setCell ⟨l, 13, none⟩ (.slice t.attrs t.an t.ac)).setCell ⟨l, 14, none⟩ (.bool t.self)).setCell ⟨l, 15, none⟩ (.bool t.quirks)) :=
  (((((((h.store 8 _).store 9 _).store 10 _).store 11 _).store 12 _).store 13 _).store 14 _).store 15 _

set_option maxRecDepth 100000 in
set_option maxHeartbeats 2000000 in
theorem lxTell (l : Nat) (cs : List Value) (o t : Tok) (w : World) (hL : LexAt w l cs) (hO : TokAt cs o) (hl : l < w.heap.size) :
    Calls Tryz.prog 61 #[.pointer (some ⟨l, 0, none⟩), tokV t] w fun e w' => e = .returned .nilFunc ∧ LexAt w' l (withTok cs t) ∧ But l w.heap.size w w' := by
  have hT := lex_tok hL t
  have hB := but_tok (But.refl l w.heap.size w) t
  generalize hW : ((((((((w.setCell ⟨l, 8, none⟩ (.int .i64 t.kind)).setCell ⟨l, 9, none⟩ (.int .i64 t.value)).setCell ⟨l, 10, none⟩ (.int .i64 t.at')).setCell ⟨l, 11, none⟩ (.string t.name)).setCell ⟨l, 12, none⟩ (.string t.data)).setCell ⟨l, 13, none⟩ (.slice t.attrs t.an t.ac)).setCell ⟨l, 14, none⟩ (.bool t.self)).setCell ⟨l, 15, none⟩ (.bool t.quirks)) = W at hT hB
  have HE : Hid (∀ o, LexAt (W.alloc o) l (withTok cs t) ∧ But l w.heap.size w (W.alloc o)) := fun o => ⟨hT.below ((Below.refl w.heap.size W).alloc hB.size o) hl, hB.trans (But.of ((Below.refl w.heap.size W).alloc hB.size o))⟩
  have HWW : Hid _ := hW
  have hne : l ≠ w.heap.size := by omega
  have f8 := hL.fz 8
  have f9 := hL.fz 9
  have f10 := hL.fz 10
  have f11 := hL.fz 11
  have f12 := hL.fz 12
  have f13 := hL.fz 13
  have f14 := hL.fz 14
  have f15 := hL.fz 15
  have c8 := hL.c 8 _ hO.t0
  have c9 := hL.c 9 _ hO.t1
  have c10 := hL.c 10 _ hO.t2
  have c11 := hL.c 11 _ hO.t3
  have c12 := hL.c 12 _ hO.t4
  have c13 := hL.c 13 _ hO.t5
  have c14 := hL.c 14 _ hO.t6
  have c15 := hL.c 15 _ hO.t7
  clear hL hO hT hB hW
  unfold tokV
  go_enter Tryz.func61, Tryz.ntmps61
  go_wp2
  go_ret
  rw [HWW.out]
  exact ⟨rfl, HE.out _⟩
end Go.Proofs.YtgdjknbbjpcoiaaGreatDoor
