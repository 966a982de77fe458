/-
  The table of references: what it holds, and the call that lays it.
-/
import Derived.Test.YtjfbogjpmieogacDoorRows
import Derived.Test.YtjfbogjpmieogacDoorNamePlain
import Derived.Below
import Derived.Carry
import Derived.OwnWalk
import Derived.WalkKit
import Derived.WalkSpells
import Derived.WalkLawsBesides
import Derived.Deep.RegionLaw
import Derived.Deep.MidRow
import Derived.Deep.QuietTactic
import Derived.BigQuiet
import Derived.Deep.DeepCutAuto
namespace Go.Proofs.YtjfbogjpmieogacDoor.Ch
open Go.RowKit

/-- A name, its first scalar, its second one or nought. -/
def refRow : List (List UInt8 × Int × Int) := [
  ([65, 77, 80], 38, 0),
  ([65, 77, 80, 59], 38, 0),
  ([65, 108, 112, 104, 97, 59], 913, 0),
  ([69, 97, 99, 117, 116, 101], 201, 0),
  ([69, 97, 99, 117, 116, 101, 59], 201, 0),
  ([71, 84], 62, 0),
  ([71, 84, 59], 62, 0),
  ([76, 84], 60, 0),
  ([76, 84, 59], 60, 0),
  ([78, 101, 119, 76, 105, 110, 101, 59], 10, 0),
  ([78, 111, 116, 69, 113, 117, 97, 108, 84, 105, 108, 100, 101, 59], 8770, 824),
  ([79, 109, 101, 103, 97, 59], 937, 0),
  ([79, 117, 109, 108], 214, 0),
  ([79, 117, 109, 108, 59], 214, 0),
  ([81, 85, 79, 84], 34, 0),
  ([81, 85, 79, 84, 59], 34, 0),
  ([82, 69, 71], 174, 0),
  ([82, 69, 71, 59], 174, 0),
  ([84, 97, 98, 59], 9, 0),
  ([97, 97, 99, 117, 116, 101], 225, 0),
  ([97, 97, 99, 117, 116, 101, 59], 225, 0),
  ([97, 99, 69, 59], 8766, 819),
  ([97, 108, 112, 104, 97, 59], 945, 0),
  ([97, 109, 112], 38, 0),
  ([97, 109, 112, 59], 38, 0),
  ([97, 112, 111, 115, 59], 39, 0),
  ([97, 117, 109, 108], 228, 0),
  ([97, 117, 109, 108, 59], 228, 0),
  ([98, 101, 116, 97, 59], 946, 0),
  ([98, 117, 108, 108, 59], 8226, 0),
  ([99, 101, 110, 116], 162, 0),
  ([99, 101, 110, 116, 59], 162, 0),
  ([99, 101, 110, 116, 101, 114, 100, 111, 116, 59], 183, 0),
  ([99, 111, 112, 121], 169, 0),
  ([99, 111, 112, 121, 59], 169, 0),
  ([99, 111, 112, 121, 115, 114, 59], 8471, 0),
  ([100, 101, 103], 176, 0),
  ([100, 101, 103, 59], 176, 0),
  ([100, 105, 118, 105, 100, 101], 247, 0),
  ([100, 105, 118, 105, 100, 101, 59], 247, 0),
  ([100, 105, 118, 105, 100, 101, 111, 110, 116, 105, 109, 101, 115, 59], 8903, 0),
  ([101, 97, 99, 117, 116, 101], 233, 0),
  ([101, 97, 99, 117, 116, 101, 59], 233, 0),
  ([101, 117, 114, 111, 59], 8364, 0),
  ([102, 114, 97, 99, 49, 50], 189, 0),
  ([102, 114, 97, 99, 49, 50, 59], 189, 0),
  ([102, 114, 97, 99, 49, 52], 188, 0),
  ([102, 114, 97, 99, 49, 52, 59], 188, 0),
  ([103, 116], 62, 0),
  ([103, 116, 59], 62, 0),
  ([103, 116, 99, 99, 59], 10919, 0),
  ([104, 101, 108, 108, 105, 112, 59], 8230, 0),
  ([105, 101, 120, 99, 108], 161, 0),
  ([105, 101, 120, 99, 108, 59], 161, 0),
  ([105, 110, 59], 8712, 0),
  ([108, 97, 113, 117, 111], 171, 0),
  ([108, 97, 113, 117, 111, 59], 171, 0),
  ([108, 100, 113, 117, 111, 59], 8220, 0),
  ([108, 115, 113, 117, 111, 59], 8216, 0),
  ([108, 116], 60, 0),
  ([108, 116, 59], 60, 0),
  ([108, 116, 99, 99, 59], 10918, 0),
  ([109, 100, 97, 115, 104, 59], 8212, 0),
  ([109, 105, 99, 114, 111], 181, 0),
  ([109, 105, 99, 114, 111, 59], 181, 0),
  ([109, 105, 100, 100, 111, 116], 183, 0),
  ([109, 105, 100, 100, 111, 116, 59], 183, 0),
  ([110, 98, 115, 112], 160, 0),
  ([110, 98, 115, 112, 59], 160, 0),
  ([110, 100, 97, 115, 104, 59], 8211, 0),
  ([110, 111, 116], 172, 0),
  ([110, 111, 116, 59], 172, 0),
  ([110, 111, 116, 105, 110, 59], 8713, 0),
  ([110, 111, 116, 105, 110, 69, 59], 8953, 824),
  ([111, 109, 101, 103, 97, 59], 969, 0),
  ([111, 117, 109, 108], 246, 0),
  ([111, 117, 109, 108, 59], 246, 0),
  ([112, 97, 114, 97], 182, 0),
  ([112, 97, 114, 97, 59], 182, 0),
  ([112, 97, 114, 97, 108, 108, 101, 108, 59], 8741, 0),
  ([112, 105, 59], 960, 0),
  ([112, 108, 117, 115, 109, 110], 177, 0),
  ([112, 108, 117, 115, 109, 110, 59], 177, 0),
  ([112, 111, 117, 110, 100], 163, 0),
  ([112, 111, 117, 110, 100, 59], 163, 0),
  ([113, 117, 111, 116], 34, 0),
  ([113, 117, 111, 116, 59], 34, 0),
  ([114, 97, 113, 117, 111], 187, 0),
  ([114, 97, 113, 117, 111, 59], 187, 0),
  ([114, 100, 113, 117, 111, 59], 8221, 0),
  ([114, 101, 103], 174, 0),
  ([114, 101, 103, 59], 174, 0),
  ([114, 115, 113, 117, 111, 59], 8217, 0),
  ([115, 101, 99, 116], 167, 0),
  ([115, 101, 99, 116, 59], 167, 0),
  ([115, 104, 121], 173, 0),
  ([115, 104, 121, 59], 173, 0),
  ([115, 122, 108, 105, 103], 223, 0),
  ([115, 122, 108, 105, 103, 59], 223, 0),
  ([116, 105, 109, 101, 115], 215, 0),
  ([116, 105, 109, 101, 115, 59], 215, 0),
  ([116, 105, 109, 101, 115, 98, 59], 8864, 0),
  ([116, 114, 97, 100, 101, 59], 8482, 0),
  ([117, 109, 108], 168, 0),
  ([117, 109, 108, 59], 168, 0),
  ([117, 117, 109, 108], 252, 0),
  ([117, 117, 109, 108, 59], 252, 0),
  ([121, 101, 110], 165, 0),
  ([121, 101, 110, 59], 165, 0)]
def refCells : List Value := refRow.flatMap (fun r => [.string ⟨r.1.toArray⟩, .int .i64 r.2.1, .int .i64 r.2.2])
def refZero : Array Value := ((List.replicate 109 [Value.string ByteArray.empty, .int .i64 0, .int .i64 0]).flatten).toArray

theorem zero_refs (w : World) : Sem.run Tryd.prog (zeroValue 77) w = .ok (.agg refZero) w := by kernel_rfl

theorem wpList_run {P : Program} {ops : Array Oper} {Q : Exit → Act → World → Prop} {rest : List Oper} {o : Oper} {a : Act} {w w' : World} {v : Value} (hg : o.guard = none) (h : (execOp a.eval o).run P w = .ok (.value v) w')
    (k : wpList P ops Q rest (a.put o.dst v) w') : wpList P ops Q (o :: rest) a w :=
  wpList_plain hg fun K hK => by
    unfold Oper.wp
    rw [h]
    exact hK _ _ k

/-- What so many operations yield, one behind the other, if each yields the value that is named. -/
def resOf (P : Program) (w : World) : List Oper → List Value → Act → List (Result Next)
  | o :: os, v :: vs, a => (execOp a.eval o).run P w :: resOf P w os vs (a.put o.dst v)
  | _, _, _ => []
def putAll : List Oper → List Value → Act → Act
  | o :: os, v :: vs, a => putAll os vs (a.put o.dst v)
  | _, _, a => a

theorem wpList_vals {P : Program} {ops : Array Oper} {Q : Exit → Act → World → Prop} {w : World} (pre : List Oper) : ∀ (vs : List Value) (rest l : List Oper) (a b : Act), l = pre ++ rest → pre.length = vs.length → pre.all (fun o => o.guard.isNone) = true →
    resOf P w pre vs a = vs.map (fun v => .ok (.value v) w) → putAll pre vs a = b → wpList P ops Q rest b w → wpList P ops Q l a w := by
  induction pre with
  | nil =>
    intro vs rest l a b hl hn _ _ hb k
    subst hl
    cases vs with
    | nil => subst hb; exact k
    | cons v vs => cases hn
  | cons o pre ih =>
    intro vs rest l a b hl hn hg hr hb k
    subst hl
    cases vs with
    | nil => cases hn
    | cons v vs =>
      simp only [resOf, List.map_cons, List.cons.injEq] at hr
      simp only [List.all_cons, Bool.and_eq_true, Option.isNone_iff_eq_none] at hg
      exact wpList_run hg.1 hr.1 (ih vs rest _ _ b rfl (by simpa using hn) hg.2 hr.2 hb k)

theorem wpList_last_store {P : Program} {ops : Array Oper} {Q : Exit → Act → World → Prop} {l : List Oper} {a : Act} {w : World} (o : Oper) (hl : l = [o]) (hg : o.guard = none) (hput : a.put o.dst undef = a) (ty : TypeId) (x y : Operand) (ho : o.op = .store ty x y) (b : Nat) (cells : Array Value)
    (hx : a.eval x = .pointer (some ⟨b, 0, none⟩)) (hy : a.eval y = .agg cells) (ht : w.there b 0 cells.size) (hi : (P.info? ty).map (·.size) = some cells.size) (h1 : cells.all (·.oneCell') = true)
    (h : Q .normal a (w.setCells b 0 cells.toList)) : wpList P ops Q l a w := by
  subst hl
  refine wpList_store_mid hg ty x y ho b 0 cells hx hy ht hi h1 ?_
  rw [hput]
  exact wpList_nil h

theorem below_setCells (B b : Nat) (hb : B ≤ b) : ∀ (vs : List Value) (o : Nat) (w : World), Below B w (w.setCells b o vs)
  | [], _, w => Below.refl _ w
  | v :: vs, o, w => ((Below.refl _ w).setCell (p := ⟨b, o, none⟩) hb v).trans (below_setCells B b hb vs (o + 1) _)

theorem results_cell1 {P : Program} {fn : Func} {t : TypeId} {k : Nat} {tmps : Array Value} {addr : Addr} {v : Value} {w : World} (h : fn.results = #[.cell k t]) (ht : tmps.getD k undef = .pointer (some addr)) (hl : (loadVar t addr).run P w = .ok v w) : (results fn tmps).run P w = .ok v w := by
  have ht' : tmps[k]?.getD undef = .pointer (some addr) := by simpa using ht
  simp [go_sem] at hl
  unfold results
  rw [h]
  simp [go_sem, ht']
  exact hl

def opsOf : Code → List Oper
  | .region _ ops _ => ops.toList
  | .seq a b => if (opsOf a).length < 5 then opsOf b else opsOf a
  | .block _ c => opsOf c
  | .scope c => opsOf c
  | _ => []
noncomputable def refOps : List Oper := (Tryd.f37.body.map opsOf).getD []
def refVals : List Value := refRow.map (fun r => .agg #[.string ⟨r.1.toArray⟩, .int .i64 r.2.1, .int .i64 r.2.2]) ++ [.agg refCells.toArray]

set_option maxRecDepth 1000000 in
set_option maxHeartbeats 4000000 in
theorem refs_any (w : World) :
    Calls Tryd.prog 37 #[] w fun e w' => e = .returned (.agg refCells.toArray) ∧ Below w.heap.size w w' := by
  have hz := zero_refs
  go_enter Tryd.func37, Tryd.ntmps37
  go_upto_region 1 with fail
  refine wp_region_lit ?_
  refine wpList_vals (refOps.take 110) refVals (refOps.drop 110) _ _ ⟨(.pointer (some ⟨w.heap.size, 0, none⟩) :: refVals).toArray, []⟩ (by kernel_rfl) (by kernel_rfl) (by kernel_rfl) (by kernel_rfl) (by kernel_rfl) ?_
  have hth : (w.alloc (.cells refZero 77)).there w.heap.size 0 refCells.toArray.size := fun j hj => by
    have hs : refCells.toArray.size = refZero.size := by kernel_rfl
    rw [hs] at hj
    constructor
    · rw [Nat.zero_add, World.cell?_alloc_at _ _ _ _ rfl, Array.getElem?_eq_getElem hj]
      rfl
    · exact World.frozen?_alloc_at _ _ _ _ rfl
  refine wpList_last_store ((refOps.drop 110).headD { dst := none, op := .alloc 0, type := 0, pos := "", after := #[], guard := none }) (by kernel_rfl) (by kernel_rfl) (by kernel_rfl) 77 (.tmp 0) (.tmp 110) (by kernel_rfl) w.heap.size refCells.toArray (by kernel_rfl) (by kernel_rfl) hth (by kernel_rfl) (by kernel_rfl) ?_
  rename_i K hK
  show K _ _
  refine hK _ _ ?_
  clear hK K hz
  have hr : ((w.alloc (.cells refZero 77)).setCells w.heap.size 0 refCells.toArray.toList).rangeAt w.heap.size 0 refCells := World.rangeAt_setCells_same _ _ _ refCells (by simpa using hth)
  have hB : Below w.heap.size w ((w.alloc (.cells refZero 77)).setCells w.heap.size 0 refCells.toArray.toList) := ((Below.refl _ _).alloc (Nat.le_refl _) _).trans (below_setCells _ _ (Nat.le_refl _) _ _ _)
  revert hr hB
  generalize (w.alloc (.cells refZero 77)).setCells w.heap.size 0 refCells.toArray.toList = w2
  intro hr hB
  clear hth
  have hl := run_loadVar_mid (P := Tryd.prog) w2 w.heap.size 0 77 refCells _ hr Tryd.underlying77 rfl (by kernel_rfl)
  clear hr
  go_wp2
  refine bodyPost_ret (v := .agg refCells.toArray) ?_ rfl ⟨rfl, hB⟩
  exact results_cell1 Tryd.results37 (by kernel_rfl) hl
end Go.Proofs.YtjfbogjpmieogacDoor.Ch
