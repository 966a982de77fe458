/-
  A node more.
-/
import Derived.Test.YtjbfgiicaaljjaaDmPut
import Derived.Lib.SliceRun
namespace Go.Proofs.Ytjbfgiicaaljjaa
open Go.RowKit

set_option maxRecDepth 100000 in
theorem clone_nil (w : World) : Calls Try.prog 70 #[.slice none 0 0] w fun e w' => e = .returned (.slice none 0 0) ∧ w' = w := by
  have hq : ∀ (a : Option Addr) (n c : Nat) (w : World), (binOp .eql 45 (.slice a n c) (.slice none 0 0)).run Try.prog w = .ok (.bool a.isNone) w := fun a n c w => Lib.run_eql_slice_nil w _ _ a n c 0 0 Try.underlying45
  go_enter Try.func70, Try.ntmps70
  go_wp2
  go_ret
  exact ⟨rfl, rfl⟩

theorem Try.infoCell : (Try.prog.info? 101).map (fun i => (i.zero, i.size, i.bytes)) = some (some (.agg #[.int .i64 0, .int .i64 0, .string ⟨#[]⟩, .string ⟨#[]⟩, .slice none 0 0, .slice none 0 0, .map none, .int .i64 0, .int .i64 0, .slice none 0 0]), 10, 144) := by kernel_rfl

def newCel (kind at' : Int) (name data : ByteArray) : Cel := ⟨kind, at', name, data, .slice none 0 0, .slice none 0 0, .map none, -1, 0, .slice none 0 0⟩

structure MakeP (w : World) (t B g : Nat) (cs : List Cel) (c : Cel) (w' : World) : Prop where
  tree : ∃ g' cap', TreeAt w' t B g' cap' (cs ++ [c]) ∧ (g' = g ∨ w.heap.size ≤ g')
  kept : Kept (fun k => k = t ∨ k = g) w w'

theorem wp_append_run {P : Program} {o : Oper} {a : Act} {w w' : World} {v v1 v2 : Value} {K : Act → World → Prop} {Q : Exit → Act → World → Prop} (s x : Operand) (t : TypeId) (ho : o.op = .call { callee := .builtin .append, args := #[s, x], argTypes := #[t, t] }) (hs : a.eval s = v1) (hx : a.eval x = v2) (hr : (Builtin.append_ #[t, t] o.type #[v1, v2]).run P w = .ok v w') (h : K (a.put o.dst v) w') : o.wp P a w K Q := by
  unfold Oper.wp execOp
  simp only [ho, resolve, invoke, builtin, Sem.run_bind, Sem.run_pure, Result.andThen_ok, List.map_toArray, List.map_cons, List.map_nil, hs, hx, hr]
  exact h

theorem make_fin {w w2 wa w3 : World} {t B g cap g3 cap3 : Nat} {cs : List Cel} {c : Cel} (hT2 : TreeAt w2 t B g cap cs) (hK2 : Kept (fun k => k = t ∨ k = g) w w2) (hb : Below w2.heap.size w2 wa) (hown3 : w3.ownsRow B 101 10 (.slice (some ⟨g3, 0, none⟩) (cs.length + 1) cap3) (cs.length + 1) (cs.flatMap celC ++ celC c)) (hgrow : wa.grownBy w3 (Value.slice (some ⟨g, 0, none⟩) cs.length cap).ownBlock) (hat : (Value.slice (some ⟨g3, 0, none⟩) (cs.length + 1) cap3).ownBlock = (Value.slice (some ⟨g, 0, none⟩) cs.length cap).ownBlock ∨ (Value.slice (some ⟨g3, 0, none⟩) (cs.length + 1) cap3).ownBlock = some wa.heap.size) (hfew : cs.length + 1 ≤ 1000000) :
    MakeP w t B g cs c (w3.setCell ⟨t, 0, none⟩ (.slice (some ⟨g3, 0, none⟩) (cs.length + 1) cap3)) := by
  have hk3 : Kept (fun k => k = t ∨ k = g) w w3 := (hK2.trans (Kept.below hb)).trans (Kept.grown hgrow (fun k e => by simp only [Value.ownBlock, Option.some.injEq] at e; exact .inr e.symm))
  have hs := hb.size
  have ht3 : w3.heap[t]? = some (.cells #[.slice (some ⟨g, 0, none⟩) cs.length cap] 104 (0, 0)) := by
    have h1 := hgrow.block t (by have := hT2.tlt; omega) (by intro e; simp only [Value.ownBlock, Option.some.injEq] at e; exact hT2.ne e)
    rw [h1, hb.block t hT2.tlt]
    exact hT2.blk
  have htg : t ≠ g3 := by
    intro e
    subst e
    rcases hown3.2 with ⟨hv, _⟩ | ⟨g', cap', cur, hv, _, hh, _⟩
    · cases hv
    · injection hv with hv1 _ _
      injection hv1 with hv1
      injection hv1 with hv1 _ _
      subst hv1
      rw [ht3] at hh
      simp only [Option.some.injEq, Obj.cells.injEq] at hh
      exact absurd hh.2.1 (by decide)
  have hl : (cs ++ [c]).length = cs.length + 1 := by simp
  refine ⟨⟨g3, cap3, ⟨?_, ?_, hT2.tB, by rw [hl]; exact hfew⟩, ?_⟩, hk3.store ⟨t, 0, none⟩ (.inl rfl) _⟩
  · rw [hl]
    have hlt := (Array.getElem?_eq_some_iff.1 ht3).1
    simp only [World.setCell, Array.getElem?_modify, ht3]
    simp
  · rw [hl]
    have h := owns_kept (out := fun k => k = t) hown3 ((Kept.refl (fun k => k = t) w3).store ⟨t, 0, none⟩ rfl (.slice (some ⟨g3, 0, none⟩) (cs.length + 1) cap3)) (by intro k e hk; simp only [Value.ownBlock, Option.some.injEq] at e; subst e; exact htg hk.symm)
    rw [show (cs ++ [c]).flatMap celC = cs.flatMap celC ++ celC c by simp]
    exact h
  · simp only [Value.ownBlock, Option.some.injEq] at hat
    rcases hat with h | h
    · exact .inl h
    · have := hK2.size
      exact .inr (by omega)

set_option linter.unusedSimpArgs false in
set_option maxRecDepth 100000 in
set_option maxHeartbeats 4000000 in
theorem make_any (t B g cap : Nat) (cs : List Cel) (kind at' : Int) (name data : ByteArray) (w : World) (hT : TreeAt w t B g cap cs) (hk1 : 1 ≤ kind) (hk4 : kind ≤ 4) (hfew : cs.length + 1 ≤ 1000000) :
    Calls Try.prog 32 #[.pointer (some ⟨t, 0, none⟩), .agg #[.int .i64 kind, .int .i64 at', .string name, .string data, .slice none 0 0]] w fun e w' => e = .returned (.int .i64 (cs.length : Int)) ∧ MakeP w t B g cs (newCel kind at' name data) w' := by
  have HB1 : Hid (∀ o, Below w.heap.size w (w.alloc o)) := fun o => (Below.refl _ _).alloc (Nat.le_refl _) o
  have HT : Hid _ := hT
  have HC : Hid (∀ w, _) := fun w => clone_nil w
  have n1 : ¬ kind < 1 := by omega
  have n4 : ¬ 4 < kind := by omega
  clear hT
  go_enter Try.func32, Try.ntmps32
  go_wp2_with fail
  refine Calls.mono (HC.out _) ?_
  rintro e w1 ⟨rfl, hw1⟩
  subst hw1
  have hb := HB1.out (.cells #[.int .i64 kind, .int .i64 at', .string name, .string data, .slice none 0 0] 47)
  have hT1 := HT.out.below hb
  have x0 : (w.alloc (.cells #[.int .i64 kind, .int .i64 at', .string name, .string data, .slice none 0 0] 47)).cell? ⟨w.heap.size, 0, none⟩ = some (.int .i64 kind) := World.cell?_alloc_at _ _ _ 0 rfl
  have x1 : (w.alloc (.cells #[.int .i64 kind, .int .i64 at', .string name, .string data, .slice none 0 0] 47)).cell? ⟨w.heap.size, 1, none⟩ = some (.int .i64 at') := World.cell?_alloc_at _ _ _ 1 rfl
  have x2 : (w.alloc (.cells #[.int .i64 kind, .int .i64 at', .string name, .string data, .slice none 0 0] 47)).cell? ⟨w.heap.size, 2, none⟩ = some (.string name) := World.cell?_alloc_at _ _ _ 2 rfl
  have x3 : (w.alloc (.cells #[.int .i64 kind, .int .i64 at', .string name, .string data, .slice none 0 0] 47)).cell? ⟨w.heap.size, 3, none⟩ = some (.string data) := World.cell?_alloc_at _ _ _ 3 rfl
  have x4 : (w.alloc (.cells #[.int .i64 kind, .int .i64 at', .string name, .string data, .slice none 0 0] 47)).cell? ⟨w.heap.size, 4, none⟩ = some (.slice none 0 0) := World.cell?_alloc_at _ _ _ 4 rfl
  have f4 : (w.alloc (.cells #[.int .i64 kind, .int .i64 at', .string name, .string data, .slice none 0 0] 47)).frozen? ⟨w.heap.size, 4, none⟩ = false := by
    have e0 := heap_alloc_new w (.cells #[.int .i64 kind, .int .i64 at', .string name, .string data, .slice none 0 0] 47)
    simp only [World.frozen?, e0]
    simp
  have htn : t ≠ w.heap.size := by have := HT.out.tlt; omega
  have hgn : g ≠ w.heap.size := by have := HT.out.gB; omega
  have HB : Hid _ := hb
  clear HB1 hb HC
  generalize w.alloc (.cells #[.int .i64 kind, .int .i64 at', .string name, .string data, .slice none 0 0] 47) = w1 at *
  go_upto_region 4 with fail
  have y0 : (w1.setCell ⟨w.heap.size, 4, none⟩ (.slice none 0 0)).cell? ⟨w.heap.size, 0, none⟩ = some (.int .i64 kind) := by rw [World.cell?_setCell_other _ _ _ _ (by intro e; injection e with _ e _; omega)]; exact x0
  have y1 : (w1.setCell ⟨w.heap.size, 4, none⟩ (.slice none 0 0)).cell? ⟨w.heap.size, 1, none⟩ = some (.int .i64 at') := by rw [World.cell?_setCell_other _ _ _ _ (by intro e; injection e with _ e _; omega)]; exact x1
  have y2 : (w1.setCell ⟨w.heap.size, 4, none⟩ (.slice none 0 0)).cell? ⟨w.heap.size, 2, none⟩ = some (.string name) := by rw [World.cell?_setCell_other _ _ _ _ (by intro e; injection e with _ e _; omega)]; exact x2
  have y3 : (w1.setCell ⟨w.heap.size, 4, none⟩ (.slice none 0 0)).cell? ⟨w.heap.size, 3, none⟩ = some (.string data) := by rw [World.cell?_setCell_other _ _ _ _ (by intro e; injection e with _ e _; omega)]; exact x3
  have y4 : (w1.setCell ⟨w.heap.size, 4, none⟩ (.slice none 0 0)).cell? ⟨w.heap.size, 4, none⟩ = some (.slice none 0 0) := World.cell?_setCell_same _ _ _ x4
  have hk2 : Kept (fun k => k = w.heap.size) w1 (w1.setCell ⟨w.heap.size, 4, none⟩ (.slice none 0 0)) := (Kept.refl (fun k => k = w.heap.size) w1).store ⟨w.heap.size, 4, none⟩ rfl _
  have hT2 := hT1.kept hk2 htn hgn
  have hK2 : Kept (fun k => k = t ∨ k = g) w (w1.setCell ⟨w.heap.size, 4, none⟩ (.slice none 0 0)) := by
    have h1 : Kept (fun k => k = w.heap.size) w (w1.setCell ⟨w.heap.size, 4, none⟩ (.slice none 0 0)) := (Kept.below HB.out).trans hk2
    exact h1.mono (fun k hk e => by omega)
  clear x0 x1 x2 x3 x4 f4 hk2 hT1 HB
  generalize w1.setCell ⟨w.heap.size, 4, none⟩ (.slice none 0 0) = w2 at *
  have c0 := hT2.c0
  have f0 := hT2.f0
  obtain ⟨i0, hi, hz0, hz1, hz2⟩ := info_parts Try.infoCell
  have hown : (w2.drew.alloc (.cells #[.int .i64 kind, .int .i64 at', .string name, .string data, .slice none 0 0, .slice none 0 0, .map none, .int .i64 (-1), .int .i64 0, .slice none 0 0] 101)).ownsRow B 101 10 (.slice (some ⟨g, 0, none⟩) cs.length cap) cs.length (cs.flatMap celC) := World.ownsRow.alloc (World.ownsRow.drew hT2.own) _
  obtain ⟨v', w3, hrun, hown3, hgrow, _, hat⟩ := run_append_own_at (P := Try.prog) (w2.drew.alloc (.cells #[.int .i64 kind, .int .i64 at', .string name, .string data, .slice none 0 0, .slice none 0 0, .map none, .int .i64 (-1), .int .i64 0, .slice none 0 0] 101)) B 102 102 101 i0 (.agg #[.int .i64 0, .int .i64 0, .string ⟨#[]⟩, .string ⟨#[]⟩, .slice none 0 0, .slice none 0 0, .map none, .int .i64 0, .int .i64 0, .slice none 0 0]) 10 144 Try.underlying102 hi hz0 hz1 hz2 rfl (by decide) (.slice (some ⟨g, 0, none⟩) cs.length cap) cs.length (cs.flatMap celC) hown ⟨w2.heap.size, 0, none⟩ 1 1 (celC (newCel kind at' name data)) rfl (fun j u hj => by rw [addr_at]; exact (World.cell?_alloc_at _ _ _ j rfl).trans (by simpa [celC, newCel] using hj)) (by intro u hu; simp [celC, newCel] at hu; rcases hu with rfl | rfl | rfl | rfl | rfl | rfl | rfl | rfl | rfl | rfl <;> rfl) (by unfold maxLen; omega) (by omega) (by have := hT2.le; simp; omega)
  obtain ⟨g3, cap3, rfl⟩ := Joins.ownsRow_form hown3 (by omega)
  have d0 : ∀ o, (w2.drew.alloc o).cell? ⟨t, 0, none⟩ = some (.slice (some ⟨g, 0, none⟩) cs.length cap) := fun o => ((Below.refl _ _).drew.alloc (Nat.le_refl _) o : Below w2.heap.size w2 (w2.drew.alloc o)).cell (p := ⟨t, 0, none⟩) hT2.tlt |>.trans c0
  have d1 : ∀ o, (w2.alloc o).cell? ⟨t, 0, none⟩ = some (.slice (some ⟨g, 0, none⟩) cs.length cap) := fun o => d0 o
  have hbn : w.heap.size < w2.heap.size := World.block_lt_of_cell? _ _ y0
  have dn : ∀ o j u, w2.cell? ⟨w.heap.size, j, none⟩ = some u → (w2.drew.alloc o).cell? ⟨w.heap.size, j, none⟩ = some u := fun o j u h => ((Below.refl _ _).drew.alloc (Nat.le_refl _) o : Below w2.heap.size w2 (w2.drew.alloc o)).cell (p := ⟨w.heap.size, j, none⟩) hbn |>.trans h
  have en : ∀ j u, w2.cell? ⟨w.heap.size, j, none⟩ = some u → w3.cell? ⟨w.heap.size, j, none⟩ = some u := fun j u h => hgrow.cell (dn _ j u h) (by intro e; simp only [Value.ownBlock, Option.some.injEq] at e; exact hgn e.symm)
  have k3 : w3.cell? ⟨t, 0, none⟩ = some (.slice (some ⟨g, 0, none⟩) cs.length cap) := hgrow.cell (d0 _) (by intro e; simp only [Value.ownBlock, Option.some.injEq] at e; exact hT2.ne e)
  have z3 : w3.frozen? ⟨t, 0, none⟩ = false := by
    have key := hgrow.block t (by have := hT2.tlt; simp; omega) (by intro e; simp only [Value.ownBlock, Option.some.injEq] at e; exact hT2.ne e)
    have key2 := ((Below.refl _ _).drew.alloc (Nat.le_refl _) _ : Below w2.heap.size w2 (w2.drew.alloc (.cells #[.int .i64 kind, .int .i64 at', .string name, .string data, .slice none 0 0, .slice none 0 0, .map none, .int .i64 (-1), .int .i64 0, .slice none 0 0] 101))).block t hT2.tlt
    simp only [World.frozen?, key, key2]
    exact hT2.f0
  have HFIN : Hid (MakeP w t B g cs (newCel kind at' name data) (w3.setCell ⟨t, 0, none⟩ (.slice (some ⟨g3, 0, none⟩) (cs.length + 1) cap3))) := make_fin hT2 hK2 ((Below.refl _ _).drew.alloc (Nat.le_refl _) _) hown3 hgrow hat hfew
  have n0 : (w3.setCell ⟨t, 0, none⟩ (.slice (some ⟨g3, 0, none⟩) (cs.length + 1) cap3)).cell? ⟨t, 0, none⟩ = some (.slice (some ⟨g3, 0, none⟩) (cs.length + 1) cap3) := World.cell?_setCell_same _ _ _ k3
  clear hT2 hK2 hown hown3 hgrow hat hi hz0 hz1 hz2 HT
  refine wp_region_held_drew (S := fun w' => w'.cell? ⟨w.heap.size, 0, none⟩ = some (.int .i64 kind) ∧ w'.cell? ⟨w.heap.size, 1, none⟩ = some (.int .i64 at') ∧ w'.cell? ⟨w.heap.size, 2, none⟩ = some (.string name) ∧ w'.cell? ⟨w.heap.size, 3, none⟩ = some (.string data) ∧ w'.cell? ⟨w.heap.size, 4, none⟩ = some (.slice none 0 0)) (by kernel_rfl) ⟨y0, y1, y2, y3, y4⟩ (fun hHeld => ?_)
  refine wpAnyH_take (i := 0) (oi := { dst := some 21, op := Op.move (Operand.tmp 0), type := 25, pos := "dom.go:45", after := #[], guard := none }) (v := ?_) rfl (by kernel_rfl) (by kernel_rfl) (by kernel_rfl) (fun _ _ _ h => h) (Or.inl ⟨by rfl, ?_⟩) (by assumption) ?_
  rotate_left
  · (intro w hSw; (try dsimp only at hSw); go_simp)
    all_goals with_reducible rfl
  try simp only [Act.put, List.setIfInBounds_toArray, List.set_cons_zero, List.set_cons_succ]
  refine wpAnyH_take (i := 1) (oi := { dst := some 22, op := Op.move (Operand.tmp 0), type := 25, pos := "dom.go:45", after := #[], guard := none }) (v := ?_) rfl (by kernel_rfl) (by kernel_rfl) (by kernel_rfl) (fun _ _ _ h => h) (Or.inl ⟨by rfl, ?_⟩) (by assumption) ?_
  rotate_left
  · (intro w hSw; (try dsimp only at hSw); go_simp)
    all_goals with_reducible rfl
  try simp only [Act.put, List.setIfInBounds_toArray, List.set_cons_zero, List.set_cons_succ]
  refine wpAnyH_take (i := 2) (oi := { dst := some 23, op := Op.nilCheck (Operand.tmp 22), type := 0, pos := "dom.go:45", after := #[{ on := 1, ground := Ground.data }], guard := none }) (v := ?_) rfl (by kernel_rfl) (by kernel_rfl) (by kernel_rfl) (fun _ _ _ h => h) (Or.inl ⟨by rfl, ?_⟩) (by assumption) ?_
  rotate_left
  · (intro w hSw; (try dsimp only at hSw); go_simp)
    all_goals with_reducible rfl
  try simp only [Act.put, List.setIfInBounds_toArray, List.set_cons_zero, List.set_cons_succ]
  refine wpAnyH_take (i := 3) (oi := { dst := some 24, op := Op.fieldAddr 104 (Operand.tmp 23) 0, type := 0, pos := "dom.go:45", after := #[{ on := 2, ground := Ground.data }], guard := none }) (v := ?_) rfl (by kernel_rfl) (by kernel_rfl) (by kernel_rfl) (fun _ _ _ h => h) (Or.inl ⟨by rfl, ?_⟩) (by assumption) ?_
  rotate_left
  · (intro w hSw; (try dsimp only at hSw); go_simp)
    all_goals with_reducible rfl
  try simp only [Act.put, List.setIfInBounds_toArray, List.set_cons_zero, List.set_cons_succ]
  refine wpAnyH_take (i := 5) (oi := { dst := some 26, op := Op.load 47 (Operand.tmp 3), type := 47, pos := "dom.go:45", after := #[], guard := none }) (v := ?_) rfl (by kernel_rfl) (by kernel_rfl) (by kernel_rfl) (fun _ _ _ h => h) (Or.inl ⟨by rfl, ?_⟩) (by assumption) ?_
  rotate_left
  · (intro w hSw; (try dsimp only at hSw); go_simp)
    all_goals with_reducible rfl
  try simp only [Act.put, List.setIfInBounds_toArray, List.set_cons_zero, List.set_cons_succ]
  refine wpAnyH_take (i := 6) (oi := { dst := some 27, op := Op.build 101 #[(0, Operand.tmp 26), (3, Operand.const (Value.int IntKind.i64 (-1)))], type := 101, pos := "dom.go:45", after := #[{ on := 5, ground := Ground.data }], guard := none }) (v := ?_) rfl (by kernel_rfl) (by kernel_rfl) (by kernel_rfl) (fun _ _ _ h => h) (Or.inl ⟨by rfl, ?_⟩) (by assumption) ?_
  rotate_left
  · (intro w hSw; (try dsimp only at hSw); go_simp)
    all_goals with_reducible rfl
  try simp only [Act.put, List.setIfInBounds_toArray, List.set_cons_zero, List.set_cons_succ]
  refine wpAnyH_ready (rs := [4, 7]) (by kernel_rfl) (by simp) ?_
  refine AllReadyH.cons (o := { dst := some 25, op := Op.load 102 (Operand.tmp 24), type := 102, pos := "dom.go:45", after := #[{ on := 3, ground := Ground.data }], guard := none }) rfl (fun K hK => ?_) ?_
  · go_simp
    refine hK.out _ _ hHeld (fun hHeld => ?_)
    clear hK K
    try simp only [Act.put, List.setIfInBounds_toArray, List.set_cons_zero, List.set_cons_succ]
    refine wpAnyH_ready (rs := [7]) (by kernel_rfl) (by simp) ?_
    refine AllReadyH.cons (o := { dst := some 28, op := Op.buildSlice 102 1 #[(0, Operand.tmp 27)], type := 102, pos := "dom.go:45", after := #[{ on := 6, ground := Ground.data }], guard := none }) rfl (fun K hK => ?_) AllReadyH.nil
    go_simp
    refine hK.out _ _ ⟨dn _ 0 _ y0, dn _ 1 _ y1, dn _ 2 _ y2, dn _ 3 _ y3, dn _ 4 _ y4⟩ (fun hHeld => ?_)
    clear hK K
    try simp only [Act.put, List.setIfInBounds_toArray, List.set_cons_zero, List.set_cons_succ]
    refine wpAnyH_ready (rs := [8]) (by kernel_rfl) (by simp) ?_
    refine AllReadyH.cons (o := { dst := some 29, op := Op.call { callee := Callee.builtin Builtin.append, args := #[Operand.tmp 25, Operand.tmp 28], argTypes := #[102, 102] }, type := 102, pos := "dom.go:45", after := #[{ on := 4, ground := Ground.data }, { on := 7, ground := Ground.data }], guard := none }) rfl (fun K hK => ?_) AllReadyH.nil
    rw [if_pos (by rfl)]
    refine wp_append_run (.tmp 25) (.tmp 28) 102 rfl rfl rfl hrun ?_
    refine hK.out _ _ ⟨en 0 _ y0, en 1 _ y1, en 2 _ y2, en 3 _ y3, en 4 _ y4⟩ (fun hHeld => ?_)
    clear hK K
    try simp only [Act.put, List.setIfInBounds_toArray, List.set_cons_zero, List.set_cons_succ]
    refine wpAnyH_take (i := 9) (oi := { dst := some 30, op := Op.nilCheck (Operand.tmp 21), type := 0, pos := "dom.go:45", after := #[{ on := 0, ground := Ground.data }, { on := 0, ground := Ground.phase }, { on := 1, ground := Ground.phase }, { on := 2, ground := Ground.phase }, { on := 3, ground := Ground.phase }, { on := 4, ground := Ground.phase }, { on := 5, ground := Ground.phase }, { on := 6, ground := Ground.phase }, { on := 7, ground := Ground.phase }, { on := 8, ground := Ground.phase }], guard := none }) (v := ?_) rfl (by kernel_rfl) (by kernel_rfl) (by kernel_rfl) (fun _ _ _ h => h) (Or.inl ⟨by rfl, ?_⟩) (by assumption) ?_
    rotate_left
    · (intro w hSw; (try dsimp only at hSw); go_simp)
      all_goals with_reducible rfl
    try simp only [Act.put, List.setIfInBounds_toArray, List.set_cons_zero, List.set_cons_succ]
    refine wpAnyH_take (i := 10) (oi := { dst := some 31, op := Op.fieldAddr 104 (Operand.tmp 30) 0, type := 0, pos := "dom.go:45", after := #[{ on := 9, ground := Ground.data }, { on := 0, ground := Ground.phase }, { on := 1, ground := Ground.phase }, { on := 2, ground := Ground.phase }, { on := 3, ground := Ground.phase }, { on := 4, ground := Ground.phase }, { on := 5, ground := Ground.phase }, { on := 6, ground := Ground.phase }, { on := 7, ground := Ground.phase }, { on := 8, ground := Ground.phase }], guard := none }) (v := ?_) rfl (by kernel_rfl) (by kernel_rfl) (by kernel_rfl) (fun _ _ _ h => h) (Or.inl ⟨by rfl, ?_⟩) (by assumption) ?_
    rotate_left
    · (intro w hSw; (try dsimp only at hSw); go_simp)
      all_goals with_reducible rfl
    try simp only [Act.put, List.setIfInBounds_toArray, List.set_cons_zero, List.set_cons_succ]
    refine wpAnyH_ready (rs := [11]) (by kernel_rfl) (by simp) ?_
    refine AllReadyH.cons (o := { dst := none, op := Op.store 102 (Operand.tmp 31) (Operand.tmp 29), type := 0, pos := "dom.go:45", after := #[{ on := 10, ground := Ground.data }, { on := 8, ground := Ground.data }, { on := 8, ground := Ground.chain }, { on := 0, ground := Ground.phase }, { on := 1, ground := Ground.phase }, { on := 2, ground := Ground.phase }, { on := 3, ground := Ground.phase }, { on := 4, ground := Ground.phase }, { on := 5, ground := Ground.phase }, { on := 6, ground := Ground.phase }, { on := 7, ground := Ground.phase }, { on := 8, ground := Ground.phase }], guard := none }) rfl (fun K hK => ?_) AllReadyH.nil
    go_simp
    refine hK.out _ _ ⟨by rw [World.cell?_setCell_other _ _ _ _ (by intro e; injection e with e _ _; exact htn e)]; exact en 0 _ y0, by rw [World.cell?_setCell_other _ _ _ _ (by intro e; injection e with e _ _; exact htn e)]; exact en 1 _ y1, by rw [World.cell?_setCell_other _ _ _ _ (by intro e; injection e with e _ _; exact htn e)]; exact en 2 _ y2, by rw [World.cell?_setCell_other _ _ _ _ (by intro e; injection e with e _ _; exact htn e)]; exact en 3 _ y3, by rw [World.cell?_setCell_other _ _ _ _ (by intro e; injection e with e _ _; exact htn e)]; exact en 4 _ y4⟩ (fun _ => ?_)
    refine wpAnyH_done (by kernel_rfl) ?_ _
    clear hK K hrun hHeld d0 d1 dn en k3 z3 y0 y1 y2 y3 y4 c0 f0
    go_wp2
    go_ret
    exact ⟨by go_num, HFIN.out⟩
  · refine AllReadyH.cons (o := { dst := some 28, op := Op.buildSlice 102 1 #[(0, Operand.tmp 27)], type := 102, pos := "dom.go:45", after := #[{ on := 6, ground := Ground.data }], guard := none }) rfl (fun K hK => ?_) AllReadyH.nil
    go_simp
    refine hK.out _ _ ⟨dn _ 0 _ y0, dn _ 1 _ y1, dn _ 2 _ y2, dn _ 3 _ y3, dn _ 4 _ y4⟩ (fun hHeld => ?_)
    clear hK K
    try simp only [Act.put, List.setIfInBounds_toArray, List.set_cons_zero, List.set_cons_succ]
    refine wpAnyH_ready (rs := [4]) (by kernel_rfl) (by simp) ?_
    refine AllReadyH.cons (o := { dst := some 25, op := Op.load 102 (Operand.tmp 24), type := 102, pos := "dom.go:45", after := #[{ on := 3, ground := Ground.data }], guard := none }) rfl (fun K hK => ?_) AllReadyH.nil
    go_simp
    refine hK.out _ _ ⟨dn _ 0 _ y0, dn _ 1 _ y1, dn _ 2 _ y2, dn _ 3 _ y3, dn _ 4 _ y4⟩ (fun hHeld => ?_)
    clear hK K
    try simp only [Act.put, List.setIfInBounds_toArray, List.set_cons_zero, List.set_cons_succ]
    refine wpAnyH_ready (rs := [8]) (by kernel_rfl) (by simp) ?_
    refine AllReadyH.cons (o := { dst := some 29, op := Op.call { callee := Callee.builtin Builtin.append, args := #[Operand.tmp 25, Operand.tmp 28], argTypes := #[102, 102] }, type := 102, pos := "dom.go:45", after := #[{ on := 4, ground := Ground.data }, { on := 7, ground := Ground.data }], guard := none }) rfl (fun K hK => ?_) AllReadyH.nil
    rw [if_pos (by rfl)]
    refine wp_append_run (.tmp 25) (.tmp 28) 102 rfl rfl rfl hrun ?_
    refine hK.out _ _ ⟨en 0 _ y0, en 1 _ y1, en 2 _ y2, en 3 _ y3, en 4 _ y4⟩ (fun hHeld => ?_)
    clear hK K
    try simp only [Act.put, List.setIfInBounds_toArray, List.set_cons_zero, List.set_cons_succ]
    refine wpAnyH_take (i := 9) (oi := { dst := some 30, op := Op.nilCheck (Operand.tmp 21), type := 0, pos := "dom.go:45", after := #[{ on := 0, ground := Ground.data }, { on := 0, ground := Ground.phase }, { on := 1, ground := Ground.phase }, { on := 2, ground := Ground.phase }, { on := 3, ground := Ground.phase }, { on := 4, ground := Ground.phase }, { on := 5, ground := Ground.phase }, { on := 6, ground := Ground.phase }, { on := 7, ground := Ground.phase }, { on := 8, ground := Ground.phase }], guard := none }) (v := ?_) rfl (by kernel_rfl) (by kernel_rfl) (by kernel_rfl) (fun _ _ _ h => h) (Or.inl ⟨by rfl, ?_⟩) (by assumption) ?_
    rotate_left
    · (intro w hSw; (try dsimp only at hSw); go_simp)
      all_goals with_reducible rfl
    try simp only [Act.put, List.setIfInBounds_toArray, List.set_cons_zero, List.set_cons_succ]
    refine wpAnyH_take (i := 10) (oi := { dst := some 31, op := Op.fieldAddr 104 (Operand.tmp 30) 0, type := 0, pos := "dom.go:45", after := #[{ on := 9, ground := Ground.data }, { on := 0, ground := Ground.phase }, { on := 1, ground := Ground.phase }, { on := 2, ground := Ground.phase }, { on := 3, ground := Ground.phase }, { on := 4, ground := Ground.phase }, { on := 5, ground := Ground.phase }, { on := 6, ground := Ground.phase }, { on := 7, ground := Ground.phase }, { on := 8, ground := Ground.phase }], guard := none }) (v := ?_) rfl (by kernel_rfl) (by kernel_rfl) (by kernel_rfl) (fun _ _ _ h => h) (Or.inl ⟨by rfl, ?_⟩) (by assumption) ?_
    rotate_left
    · (intro w hSw; (try dsimp only at hSw); go_simp)
      all_goals with_reducible rfl
    try simp only [Act.put, List.setIfInBounds_toArray, List.set_cons_zero, List.set_cons_succ]
    refine wpAnyH_ready (rs := [11]) (by kernel_rfl) (by simp) ?_
    refine AllReadyH.cons (o := { dst := none, op := Op.store 102 (Operand.tmp 31) (Operand.tmp 29), type := 0, pos := "dom.go:45", after := #[{ on := 10, ground := Ground.data }, { on := 8, ground := Ground.data }, { on := 8, ground := Ground.chain }, { on := 0, ground := Ground.phase }, { on := 1, ground := Ground.phase }, { on := 2, ground := Ground.phase }, { on := 3, ground := Ground.phase }, { on := 4, ground := Ground.phase }, { on := 5, ground := Ground.phase }, { on := 6, ground := Ground.phase }, { on := 7, ground := Ground.phase }, { on := 8, ground := Ground.phase }], guard := none }) rfl (fun K hK => ?_) AllReadyH.nil
    go_simp
    refine hK.out _ _ ⟨by rw [World.cell?_setCell_other _ _ _ _ (by intro e; injection e with e _ _; exact htn e)]; exact en 0 _ y0, by rw [World.cell?_setCell_other _ _ _ _ (by intro e; injection e with e _ _; exact htn e)]; exact en 1 _ y1, by rw [World.cell?_setCell_other _ _ _ _ (by intro e; injection e with e _ _; exact htn e)]; exact en 2 _ y2, by rw [World.cell?_setCell_other _ _ _ _ (by intro e; injection e with e _ _; exact htn e)]; exact en 3 _ y3, by rw [World.cell?_setCell_other _ _ _ _ (by intro e; injection e with e _ _; exact htn e)]; exact en 4 _ y4⟩ (fun _ => ?_)
    refine wpAnyH_done (by kernel_rfl) ?_ _
    clear hK K hrun hHeld d0 d1 dn en k3 z3 y0 y1 y2 y3 y4 c0 f0
    go_wp2
    go_ret
    exact ⟨by go_num, HFIN.out⟩
end Go.Proofs.Ytjbfgiicaaljjaa
