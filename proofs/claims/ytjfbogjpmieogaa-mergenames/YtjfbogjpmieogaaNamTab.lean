/-
  The table of names: what it holds, and the calls that lay it.
-/
import Derived.Test.YtjfbogjpmieogaaRows
import Derived.Below
import Derived.Carry
import Derived.OwnWalk
import Derived.WalkKit
import Derived.WalkSpells
import Derived.WalkLawsBesides
import Derived.Deep.RegionLaw
import Derived.Deep.MidRow
import Derived.Deep.QuietTactic
import Derived.BigQuiet
import Derived.Deep.DeepCutAuto
namespace Go.Proofs.Ytjfbogjpmieogaa
open Go.RowKit

/-- The names, from 1 on. -/
def nmRow : List (List UInt8) := [
  [117, 110, 115, 117, 112, 112, 111, 114, 116, 101, 100, 45, 101, 110, 99, 111, 100, 105, 110, 103],
  [98, 97, 100, 45, 115, 101, 113, 117, 101, 110, 99, 101],
  [99, 111, 110, 116, 114, 111, 108, 45, 99, 104, 97, 114, 97, 99, 116, 101, 114],
  [117, 110, 101, 120, 112, 101, 99, 116, 101, 100, 45, 110, 117, 108, 108, 45, 99, 104, 97, 114, 97, 99, 116, 101, 114],
  [101, 111, 102, 45, 98, 101, 102, 111, 114, 101, 45, 116, 97, 103, 45, 110, 97, 109, 101],
  [105, 110, 118, 97, 108, 105, 100, 45, 102, 105, 114, 115, 116, 45, 99, 104, 97, 114, 97, 99, 116, 101, 114, 45, 111, 102, 45, 116, 97, 103, 45, 110, 97, 109, 101],
  [109, 105, 115, 115, 105, 110, 103, 45, 101, 110, 100, 45, 116, 97, 103, 45, 110, 97, 109, 101],
  [101, 111, 102, 45, 105, 110, 45, 116, 97, 103],
  [117, 110, 101, 120, 112, 101, 99, 116, 101, 100, 45, 99, 104, 97, 114, 97, 99, 116, 101, 114, 45, 105, 110, 45, 97, 116, 116, 114, 105, 98, 117, 116, 101, 45, 110, 97, 109, 101],
  [117, 110, 101, 120, 112, 101, 99, 116, 101, 100, 45, 101, 113, 117, 97, 108, 115, 45, 115, 105, 103, 110, 45, 98, 101, 102, 111, 114, 101, 45, 97, 116, 116, 114, 105, 98, 117, 116, 101, 45, 110, 97, 109, 101],
  [109, 105, 115, 115, 105, 110, 103, 45, 97, 116, 116, 114, 105, 98, 117, 116, 101, 45, 118, 97, 108, 117, 101],
  [117, 110, 101, 120, 112, 101, 99, 116, 101, 100, 45, 99, 104, 97, 114, 97, 99, 116, 101, 114, 45, 105, 110, 45, 117, 110, 113, 117, 111, 116, 101, 100, 45, 97, 116, 116, 114, 105, 98, 117, 116, 101, 45, 118, 97, 108, 117, 101],
  [109, 105, 115, 115, 105, 110, 103, 45, 119, 104, 105, 116, 101, 115, 112, 97, 99, 101, 45, 98, 101, 116, 119, 101, 101, 110, 45, 97, 116, 116, 114, 105, 98, 117, 116, 101, 115],
  [117, 110, 101, 120, 112, 101, 99, 116, 101, 100, 45, 115, 111, 108, 105, 100, 117, 115, 45, 105, 110, 45, 116, 97, 103],
  [100, 117, 112, 108, 105, 99, 97, 116, 101, 45, 97, 116, 116, 114, 105, 98, 117, 116, 101],
  [101, 110, 100, 45, 116, 97, 103, 45, 119, 105, 116, 104, 45, 97, 116, 116, 114, 105, 98, 117, 116, 101, 115],
  [101, 110, 100, 45, 116, 97, 103, 45, 119, 105, 116, 104, 45, 116, 114, 97, 105, 108, 105, 110, 103, 45, 115, 111, 108, 105, 100, 117, 115],
  [105, 110, 99, 111, 114, 114, 101, 99, 116, 108, 121, 45, 111, 112, 101, 110, 101, 100, 45, 99, 111, 109, 109, 101, 110, 116],
  [117, 110, 101, 120, 112, 101, 99, 116, 101, 100, 45, 113, 117, 101, 115, 116, 105, 111, 110, 45, 109, 97, 114, 107, 45, 105, 110, 115, 116, 101, 97, 100, 45, 111, 102, 45, 116, 97, 103, 45, 110, 97, 109, 101],
  [97, 98, 114, 117, 112, 116, 45, 99, 108, 111, 115, 105, 110, 103, 45, 111, 102, 45, 101, 109, 112, 116, 121, 45, 99, 111, 109, 109, 101, 110, 116],
  [101, 111, 102, 45, 105, 110, 45, 99, 111, 109, 109, 101, 110, 116],
  [110, 101, 115, 116, 101, 100, 45, 99, 111, 109, 109, 101, 110, 116],
  [105, 110, 99, 111, 114, 114, 101, 99, 116, 108, 121, 45, 99, 108, 111, 115, 101, 100, 45, 99, 111, 109, 109, 101, 110, 116],
  [101, 111, 102, 45, 105, 110, 45, 100, 111, 99, 116, 121, 112, 101],
  [109, 105, 115, 115, 105, 110, 103, 45, 119, 104, 105, 116, 101, 115, 112, 97, 99, 101, 45, 98, 101, 102, 111, 114, 101, 45, 100, 111, 99, 116, 121, 112, 101, 45, 110, 97, 109, 101],
  [109, 105, 115, 115, 105, 110, 103, 45, 100, 111, 99, 116, 121, 112, 101, 45, 110, 97, 109, 101],
  [105, 110, 118, 97, 108, 105, 100, 45, 99, 104, 97, 114, 97, 99, 116, 101, 114, 45, 115, 101, 113, 117, 101, 110, 99, 101, 45, 97, 102, 116, 101, 114, 45, 100, 111, 99, 116, 121, 112, 101, 45, 110, 97, 109, 101],
  [97, 98, 115, 101, 110, 99, 101, 45, 111, 102, 45, 100, 105, 103, 105, 116, 115, 45, 105, 110, 45, 110, 117, 109, 101, 114, 105, 99, 45, 99, 104, 97, 114, 97, 99, 116, 101, 114, 45, 114, 101, 102, 101, 114, 101, 110, 99, 101],
  [109, 105, 115, 115, 105, 110, 103, 45, 115, 101, 109, 105, 99, 111, 108, 111, 110, 45, 97, 102, 116, 101, 114, 45, 99, 104, 97, 114, 97, 99, 116, 101, 114, 45, 114, 101, 102, 101, 114, 101, 110, 99, 101],
  [117, 110, 107, 110, 111, 119, 110, 45, 110, 97, 109, 101, 100, 45, 99, 104, 97, 114, 97, 99, 116, 101, 114, 45, 114, 101, 102, 101, 114, 101, 110, 99, 101],
  [110, 117, 108, 108, 45, 99, 104, 97, 114, 97, 99, 116, 101, 114, 45, 114, 101, 102, 101, 114, 101, 110, 99, 101],
  [99, 104, 97, 114, 97, 99, 116, 101, 114, 45, 114, 101, 102, 101, 114, 101, 110, 99, 101, 45, 111, 117, 116, 115, 105, 100, 101, 45, 117, 110, 105, 99, 111, 100, 101, 45, 114, 97, 110, 103, 101],
  [115, 117, 114, 114, 111, 103, 97, 116, 101, 45, 99, 104, 97, 114, 97, 99, 116, 101, 114, 45, 114, 101, 102, 101, 114, 101, 110, 99, 101],
  [110, 111, 110, 99, 104, 97, 114, 97, 99, 116, 101, 114, 45, 99, 104, 97, 114, 97, 99, 116, 101, 114, 45, 114, 101, 102, 101, 114, 101, 110, 99, 101],
  [99, 111, 110, 116, 114, 111, 108, 45, 99, 104, 97, 114, 97, 99, 116, 101, 114, 45, 114, 101, 102, 101, 114, 101, 110, 99, 101],
  [109, 105, 115, 115, 105, 110, 103, 45, 100, 111, 99, 116, 121, 112, 101],
  [117, 110, 101, 120, 112, 101, 99, 116, 101, 100, 45, 100, 111, 99, 116, 121, 112, 101],
  [117, 110, 101, 120, 112, 101, 99, 116, 101, 100, 45, 115, 116, 97, 114, 116, 45, 116, 97, 103],
  [117, 110, 101, 120, 112, 101, 99, 116, 101, 100, 45, 101, 110, 100, 45, 116, 97, 103],
  [117, 110, 101, 120, 112, 101, 99, 116, 101, 100, 45, 116, 101, 120, 116, 45, 105, 110, 45, 116, 97, 98, 108, 101],
  [117, 110, 99, 108, 111, 115, 101, 100, 45, 101, 108, 101, 109, 101, 110, 116, 115],
  [110, 111, 110, 45, 118, 111, 105, 100, 45, 101, 108, 101, 109, 101, 110, 116, 45, 119, 105, 116, 104, 45, 116, 114, 97, 105, 108, 105, 110, 103, 45, 115, 111, 108, 105, 100, 117, 115],
  [109, 105, 115, 110, 101, 115, 116, 101, 100, 45, 102, 111, 114, 109, 97, 116, 116, 105, 110, 103],
  [110, 101, 115, 116, 101, 100, 45, 101, 108, 101, 109, 101, 110, 116],
  [101, 108, 101, 109, 101, 110, 116, 45, 110, 111, 116, 45, 97, 108, 108, 111, 119, 101, 100],
  [116, 101, 120, 116, 45, 110, 111, 116, 45, 97, 108, 108, 111, 119, 101, 100],
  [99, 111, 110, 116, 101, 110, 116, 45, 110, 111, 116, 45, 99, 111, 109, 112, 108, 101, 116, 101],
  [111, 98, 115, 111, 108, 101, 116, 101, 45, 101, 108, 101, 109, 101, 110, 116],
  [97, 116, 116, 114, 105, 98, 117, 116, 101, 45, 110, 111, 116, 45, 97, 108, 108, 111, 119, 101, 100],
  [111, 98, 115, 111, 108, 101, 116, 101, 45, 97, 116, 116, 114, 105, 98, 117, 116, 101],
  [98, 97, 100, 45, 97, 116, 116, 114, 105, 98, 117, 116, 101, 45, 118, 97, 108, 117, 101],
  [109, 105, 115, 115, 105, 110, 103, 45, 97, 116, 116, 114, 105, 98, 117, 116, 101],
  [100, 117, 112, 108, 105, 99, 97, 116, 101, 45, 105, 100],
  [117, 110, 107, 110, 111, 119, 110, 45, 105, 100],
  [104, 101, 97, 100, 105, 110, 103, 45, 115, 107, 105, 112, 112, 101, 100],
  [108, 97, 98, 101, 108, 45, 119, 105, 116, 104, 111, 117, 116, 45, 99, 111, 110, 116, 114, 111, 108],
  [110, 101, 115, 116, 101, 100, 45, 108, 97, 98, 101, 108],
  [99, 101, 108, 108, 45, 111, 118, 101, 114, 108, 97, 112],
  [114, 111, 119, 45, 115, 112, 97, 110, 45, 98, 101, 121, 111, 110, 100, 45, 116, 97, 98, 108, 101],
  [108, 105, 109, 105, 116, 45, 101, 120, 99, 101, 101, 100, 101, 100],
  [98, 97, 100, 45, 111, 112, 116, 105, 111, 110, 115]]
def nmCells : List Value := nmRow.map (fun r => .string ⟨r.toArray⟩)
def nmZero : Array Value := (List.replicate 61 (Value.string ByteArray.empty)).toArray

theorem zero_nms (w : World) : Sem.run Try.prog (zeroValue 39) w = .ok (.agg nmZero) w := by kernel_rfl

theorem wpList_run {P : Program} {ops : Array Oper} {Q : Exit → Act → World → Prop} {rest : List Oper} {o : Oper} {a : Act} {w w' : World} {v : Value} (hg : o.guard = none) (h : (execOp a.eval o).run P w = .ok (.value v) w')
    (k : wpList P ops Q rest (a.put o.dst v) w') : wpList P ops Q (o :: rest) a w :=
  wpList_plain hg fun K hK => by
    unfold Oper.wp
    rw [h]
    exact hK _ _ k


theorem wpList_last_store {P : Program} {ops : Array Oper} {Q : Exit → Act → World → Prop} {l : List Oper} {a : Act} {w : World} (o : Oper) (hl : l = [o]) (hg : o.guard = none) (hput : a.put o.dst undef = a) (ty : TypeId) (x y : Operand) (ho : o.op = .store ty x y) (b : Nat) (cells : Array Value)
    (hx : a.eval x = .pointer (some ⟨b, 0, none⟩)) (hy : a.eval y = .agg cells) (ht : w.there b 0 cells.size) (hi : (P.info? ty).map (·.size) = some cells.size) (h1 : cells.all (·.oneCell') = true)
    (h : Q .normal a (w.setCells b 0 cells.toList)) : wpList P ops Q l a w := by
  subst hl
  refine wpList_store_mid hg ty x y ho b 0 cells hx hy ht hi h1 ?_
  rw [hput]
  exact wpList_nil h


theorem below_setCells (B b : Nat) (hb : B ≤ b) : ∀ (vs : List Value) (o : Nat) (w : World), Below B w (w.setCells b o vs)
  | [], _, w => Below.refl _ w
  | v :: vs, o, w => ((Below.refl _ w).setCell (p := ⟨b, o, none⟩) hb v).trans (below_setCells B b hb vs (o + 1) _)


theorem results_cell1 {P : Program} {fn : Func} {t : TypeId} {k : Nat} {tmps : Array Value} {addr : Addr} {v : Value} {w : World} (h : fn.results = #[.cell k t]) (ht : tmps.getD k undef = .pointer (some addr)) (hl : (loadVar t addr).run P w = .ok v w) : (results fn tmps).run P w = .ok v w := by
  have ht' : tmps[k]?.getD undef = .pointer (some addr) := by simpa using ht
  simp [go_sem] at hl
  unfold results
  rw [h]
  simp [go_sem, ht']
  exact hl

def nmB (k : Nat) : ByteArray := ⟨(nmRow.getD k []).toArray⟩
theorem getD_at {α : Type} (l : List α) (d : α) (k : Nat) (h : k < l.length) : l.getD k d = l[k] := by simp [List.getD, h]
theorem nmRow_len : nmRow.length = 61 := by decide +kernel
theorem nmB_list (k : Nat) : (nmB k).toList = nmRow.getD k [] := by
  unfold nmB
  exact ByteArray.toList_mk _

/-- The names lie in block g. -/
structure NmAt (w : World) (g : Nat) : Prop where
  cell : ∀ i, i < 61 → w.cell? ⟨g, i, none⟩ = some (.string (nmB i))
  lt : g < w.heap.size

theorem NmAt.later {w w' : World} {g : Nat} (h : NmAt w g) (hb : Below w.heap.size w w') : NmAt w' g :=
  ⟨fun i hi => (hb.cell (p := ⟨g, i, none⟩) h.lt).trans (h.cell i hi), Nat.lt_of_lt_of_le h.lt hb.size⟩

theorem nm_at (i : Nat) (hi : i < 61) : nmCells[i]? = some (.string (nmB i)) := by
  have hl := nmRow_len
  simp [nmCells, nmB, List.getD, show i < nmRow.length by omega]

theorem nmAt_of {w : World} {b : Nat} (h : w.rangeAt b 0 nmCells) (hb : b < w.heap.size) : NmAt w b :=
  ⟨fun k hk => by
    have := h _ _ (nm_at k hk)
    rwa [Nat.zero_add] at this, hb⟩

theorem nm_there (w : World) (b : Nat) (hb : b = w.heap.size) : (w.alloc (.cells nmZero 39)).there b 0 nmCells.toArray.size := by
  subst hb
  intro j hj
  have hs : nmCells.toArray.size = nmZero.size := by kernel_rfl
  rw [hs] at hj
  constructor
  · rw [Nat.zero_add, World.cell?_alloc_at _ _ _ _ rfl, Array.getElem?_eq_getElem hj]
    rfl
  · exact World.frozen?_alloc_at _ _ _ _ rfl

/-- The table is laid into a variable of the caller's. -/
theorem nm_store (w : World) (b : Nat) (hb : b = w.heap.size) : NmAt ((w.alloc (.cells nmZero 39)).setCells b 0 nmCells.toArray.toList) b ∧ Below w.heap.size w ((w.alloc (.cells nmZero 39)).setCells b 0 nmCells.toArray.toList) := by
  have hth := nm_there w b hb
  subst hb
  have hB2 := below_setCells w.heap.size w.heap.size (Nat.le_refl _) nmCells.toArray.toList 0 (w.alloc (.cells nmZero 39))
  refine ⟨nmAt_of (World.rangeAt_setCells_same _ _ _ nmCells (by simpa using hth)) ?_, ((Below.refl _ _).alloc (Nat.le_refl _) _).trans hB2⟩
  have hs := hB2.size
  rw [World.size_alloc] at hs
  omega

set_option maxRecDepth 1000000 in
set_option maxHeartbeats 4000000 in
theorem names_any (w : World) :
    Calls Try.prog 13 #[] w fun e w' => e = .returned (.agg nmCells.toArray) ∧ Below w.heap.size w w' := by
  have hz := zero_nms
  go_enter Try.func13, Try.ntmps13
  go_upto_region 1 with fail
  refine wp_region_lit ?_
  refine wpList_run (v := .agg nmCells.toArray) (w' := w.alloc (.cells nmZero 39)) rfl (by kernel_rfl) ?_
  have hth := nm_there w _ rfl
  refine wpList_last_store _ rfl rfl rfl 39 (.tmp 0) (.tmp 1) rfl w.heap.size nmCells.toArray rfl rfl hth (by kernel_rfl) (by kernel_rfl) ?_
  rename_i K hK
  show K _ _
  refine hK _ _ ?_
  clear hK K hz
  have hr : ((w.alloc (.cells nmZero 39)).setCells w.heap.size 0 nmCells.toArray.toList).rangeAt w.heap.size 0 nmCells := World.rangeAt_setCells_same _ _ _ nmCells (by simpa using hth)
  have hB : Below w.heap.size w ((w.alloc (.cells nmZero 39)).setCells w.heap.size 0 nmCells.toArray.toList) := ((Below.refl _ _).alloc (Nat.le_refl _) _).trans (below_setCells _ _ (Nat.le_refl _) _ _ _)
  revert hr hB
  generalize (w.alloc (.cells nmZero 39)).setCells w.heap.size 0 nmCells.toArray.toList = w2
  intro hr hB
  clear hth
  have hl := run_loadVar_mid (P := Try.prog) w2 w.heap.size 0 39 nmCells _ hr Try.underlying39 rfl (by kernel_rfl)
  clear hr
  go_wp2
  refine bodyPost_ret (v := .agg nmCells.toArray) ?_ rfl ⟨rfl, hB⟩
  exact results_cell1 Try.results13 (by kernel_rfl) hl

set_option maxRecDepth 1000000 in
set_option maxHeartbeats 4000000 in
theorem rNames_any (w : World) :
    Calls Try.prog 7 #[] w fun e w' => e = .returned (.slice (some ⟨w.heap.size, 0, none⟩) 61 61) ∧ NmAt w' w.heap.size ∧ Below w.heap.size w w' := by
  go_enter Try.func7, Try.ntmps7
  go_upto_region 1 with fail
  refine wp_region_lit ?_
  refine wpList_run (v := .slice (some ⟨w.heap.size, 0, none⟩) 61 61) (w' := w.alloc (.cells nmCells.toArray 9)) rfl (by kernel_rfl) ?_
  have hN : NmAt (w.alloc (.cells nmCells.toArray 9)) w.heap.size := by
    refine ⟨fun i hi => ?_, by simp⟩
    rw [World.cell?_alloc_at _ _ _ _ rfl]
    have := nm_at i hi
    simpa using this
  have HN : Hid _ := hN
  have HB : Hid (Below w.heap.size w (w.alloc (.cells nmCells.toArray 9))) := (Below.refl _ _).alloc (Nat.le_refl _) _
  clear hN
  generalize w.alloc (.cells nmCells.toArray 9) = w2 at HN HB ⊢
  go_wp2
  go_ret
  exact ⟨rfl, HN.out, HB.out⟩

def nameOf (c : Int) : ByteArray := if 1 ≤ c ∧ c ≤ 61 then nmB (c.toNat - 1) else ByteArray.empty

set_option maxRecDepth 1000000 in
set_option maxHeartbeats 4000000 in
theorem name_any (c : Int) (w : World) :
    Calls Try.prog 6 #[.int .i64 c] w fun e w' => e = .returned (.string (nameOf c)) ∧ Below w.heap.size w w' := by
  have hz := zero_nms
  obtain ⟨nm, hnm⟩ : ∃ nm, nameOf c = nm := ⟨_, rfl⟩
  have HC : Hid (nameOf c = nm) := hnm
  rw [hnm]
  clear hnm
  go_enter Try.func6, Try.ntmps6
  go_upto_region 2 with (first | (go_at_call 13; refine (names_any _).mono ?_; rintro e w1 ⟨rfl, hb1⟩) | (refine wpList_store_mid rfl 39 (.tmp 3) (.tmp 4) rfl _ 0 nmCells.toArray rfl rfl (nm_there _ _ rfl) (by kernel_rfl) (by kernel_rfl) ?_))
  have hw1 : Below w.heap.size w w1 := by assumption
  obtain ⟨hR, hB2⟩ := nm_store w1 _ rfl
  have HB : Hid _ := hw1.trans (hB2.mono hw1.size)
  clear hw1 hB2 hz
  revert hR HB
  generalize (w1.alloc (.cells nmZero 39)).setCells w1.heap.size 0 nmCells.toArray.toList = w2
  intro hR HB
  have HR : Hid _ := hR
  clear hR
  generalize w1.heap.size = b at HR ⊢
  by_cases h1 : c < 1
  · have HN : Hid (nm = ByteArray.empty) := by
      have := HC.out
      unfold nameOf at this
      rw [if_neg (by omega)] at this
      exact this.symm
    go_wp2
    go_ret
    rw [HN.out]
    exact ⟨rfl, HB.out⟩
  by_cases h2 : 61 < c
  · have HN : Hid (nm = ByteArray.empty) := by
      have := HC.out
      unfold nameOf at this
      rw [if_neg (by omega)] at this
      exact this.symm
    go_wp2
    go_ret
    rw [HN.out]
    exact ⟨rfl, HB.out⟩
  obtain ⟨k, hk⟩ : ∃ k : Nat, c = (k : Int) + 1 := ⟨(c - 1).toNat, by omega⟩
  subst hk
  have hk61 : (k : Int) < 61 := by omega
  have hk0 : k < 61 := by omega
  have HN : Hid (nm = nmB k) := by
    have := HC.out
    unfold nameOf at this
    rw [if_pos (by omega)] at this
    rw [← this]
    show nmB _ = nmB _
    rw [show ((k : Int) + 1).toNat - 1 = k by omega]
  have cc := HR.out.cell k hk0
  rw [← HN.out] at cc
  clear HC HR
  go_wp2
  go_ret
  exact ⟨rfl, HB.out⟩

/-- Where a name stands; 61, where it is none. -/
theorem find_K (s : ByteArray) : ∃ K, K ≤ 61 ∧ ∀ j, j < 61 → ((nmB j).toList == s.toList) = decide (j = K) := by
  have hn : nmRow.Nodup := by decide +kernel
  have hl := nmRow_len
  by_cases h : ∃ k, k < 61 ∧ nmRow.getD k [] = s.toList
  · obtain ⟨k, hk, he⟩ := h
    refine ⟨k, by omega, fun j hj => ?_⟩
    rw [nmB_list, ← he]
    by_cases hjk : j = k
    · subst hjk
      simp
    · have : ¬ nmRow.getD j [] = nmRow.getD k [] := fun e => by
        rw [getD_at _ _ _ (by omega), getD_at _ _ _ (by omega)] at e
        rcases Nat.lt_or_ge j k with h1 | h1
        · exact List.pairwise_iff_getElem.1 hn j k (by omega) (by omega) h1 e
        · exact List.pairwise_iff_getElem.1 hn k j (by omega) (by omega) (by omega) e.symm
      rw [decide_eq_false hjk]
      exact beq_false_of_ne this
  · refine ⟨61, by omega, fun j hj => ?_⟩
    rw [nmB_list, decide_eq_false (by omega)]
    exact beq_false_of_ne fun e => h ⟨j, hj, e⟩

def posOf (K : Nat) : Int := if K < 61 then (K : Int) else -1
theorem posOf_is (K : Nat) (hK : K ≤ 61) : ∃ r, posOf K = r ∧ -1 ≤ r ∧ r ≤ 61 ∧ decide (K < 61) = decide (0 ≤ r) := by
  by_cases h : K < 61
  · exact ⟨K, by unfold posOf; rw [if_pos h], by omega, by omega, by rw [decide_eq_true h, decide_eq_true (by omega)]⟩
  · exact ⟨-1, by unfold posOf; rw [if_neg h], by omega, by omega, by rw [decide_eq_false h, decide_eq_false (by omega)]⟩

set_option maxRecDepth 1000000 in
set_option maxHeartbeats 4000000 in
theorem index_any (b K : Nat) (s : ByteArray) (w : World) (hR : NmAt w b) (hK : K ≤ 61) (hF : ∀ j, j < 61 → ((nmB j).toList == s.toList) = decide (j = K)) :
    Calls Try.prog 14 #[.slice (some ⟨b, 0, none⟩) 61 61, .string s] w fun e w' => e = .returned (.int .i64 (posOf K)) ∧ Below w.heap.size w w' := by
  have HR : Hid _ := hR
  have HF : Hid (∀ j, j < 61 → (s.toList == (nmB j).toList) = decide (j = K)) := fun j hj => by rw [← hF j hj, Bool.beq_comm]
  clear hF hR
  go_enter Try.func14, Try.ntmps14
  go_wp2
  go_loopw [8] (fun i wr => ∃ k : Nat, k ≤ 61 ∧ k ≤ K ∧ i = .int .i64 k ∧ wr = w) (fun i _ => 61 - (intOf i).toNat)
  case atStart => exact ⟨0, by omega, by omega, rfl, rfl⟩
  case round =>
    obtain ⟨k, hk, hkK, rfl, rfl⟩ := hrel
    by_cases hin : k < 61
    · have cc := HR.out.cell k hin
      have hf := HF.out k hin
      have hin' : (k : Int) < 61 := by omega
      generalize nmB k = y at cc hf
      by_cases he : k = K
      · rw [decide_eq_true he] at hf
        have HP : Hid (posOf K = (k : Int)) := by
          show posOf K = _
          unfold posOf
          rw [← he, if_pos hin]
        clear he hkK
        go_wp2
        go_ret
        rw [HP.out]
        exact ⟨rfl, Below.refl _ _⟩
      · rw [decide_eq_false he] at hf
        go_wp2
        go_roundw
        case rel => exact ⟨k + 1, by omega, by omega, by go_num, by simp⟩
        case measure => simp only [intOf]; go_num
    · have hk61 : k = 61 := by omega
      subst hk61
      have HP : Hid (posOf K = -1) := by
        show posOf K = _
        unfold posOf
        rw [if_neg (by omega)]
      clear hin hkK
      go_wp2
      go_ret
      rw [HP.out]
      exact ⟨rfl, Below.refl _ _⟩

set_option maxRecDepth 1000000 in
set_option maxHeartbeats 4000000 in
theorem code_any (s : ByteArray) (K : Nat) (w : World) (hK : K ≤ 61) (hF : ∀ j, j < 61 → ((nmB j).toList == s.toList) = decide (j = K)) :
    Calls Try.prog 8 #[.string s] w fun e w' => e = .returned (.tuple #[.int .i64 (posOf K + 1), .bool (decide (K < 61))]) ∧ Below w.heap.size w w' := by
  have hz := zero_nms
  obtain ⟨r, hr, hr1, hr2, hr3⟩ := posOf_is K hK
  rw [hr, hr3]
  have HI : Hid (∀ b w, NmAt w b → Calls Try.prog 14 #[.slice (some ⟨b, 0, none⟩) 61 61, .string s] w fun e w' => e = .returned (.int .i64 r) ∧ Below w.heap.size w w') := fun b w h => hr ▸ index_any b K s w h hK hF
  clear hF hr hr3 hK
  go_enter Try.func8, Try.ntmps8
  go_upto_region 2 with (first | (go_at_call 13; refine (names_any _).mono ?_; rintro e w1 ⟨rfl, hb1⟩) | (refine wpList_store_mid rfl 39 (.tmp 4) (.tmp 6) rfl _ 0 nmCells.toArray rfl rfl (nm_there _ _ rfl) (by kernel_rfl) (by kernel_rfl) ?_))
  have hw1 : Below w.heap.size w w1 := by assumption
  obtain ⟨hR, hB2⟩ := nm_store w1 _ rfl
  have HB : Hid _ := hw1.trans (hB2.mono hw1.size)
  clear hw1 hB2 hz
  revert hR HB
  generalize (w1.alloc (.cells nmZero 39)).setCells w1.heap.size 0 nmCells.toArray.toList = w2
  intro hR HB
  have HR : Hid _ := HI.out w1.heap.size w2 hR
  clear hR HI
  generalize w1.heap.size = b at HR ⊢
  go_wp2_with fail
  refine Calls.mono HR.out ?_
  rintro e w3 ⟨rfl, hb3⟩
  have HB3 : Hid _ := HB.out.trans (hb3.mono HB.out.size)
  clear HB HR hb3
  go_wp2
  go_ret2
  exact ⟨rfl, HB3.out⟩
end Go.Proofs.Ytjfbogjpmieogaa
