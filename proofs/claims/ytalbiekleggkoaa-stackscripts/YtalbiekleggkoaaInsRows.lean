/-
  A row of one element more; the built-in copy of elements of many cells.
-/
import Derived.Test.YtalbiekleggkoaaStRows
import Derived.Lib.AppendZerosOnto
import Derived.Lib.Overlaps
import Derived.Laws.Externs
import Derived.Deep.RegionLaw
namespace Go.Proofs.Ytalbiekleggkoaa
open Go.RowKit

theorem run_copy_z {P : Program} (w : World) (dT sT ty elem : TypeId) (i0 : TypeInfo) (z : Nat) (hi : P.info? elem = some i0) (hz : i0.size = z) (hu : P.underlying dT = some (.slice elem)) (b o dLen dCap : Nat) (a : Addr) (sLen sCap n : Nat) (cs : List Value)
    (hn : n = Nat.min sLen dLen) (hl : cs.length = n * z) (hsrc : ∀ j v, cs[j]? = some v → w.cell? (a.add j) = some v) (hc : ∀ j, j < cs.length → (w.cell? ⟨b, o + j, none⟩).isSome = true) (hf : ∀ j, j < cs.length → w.frozen? ⟨b, o + j, none⟩ = false) (h1 : ∀ v ∈ cs, v.oneCell' = true) :
    (Builtin.copy_ #[dT, sT] ty #[.slice (some ⟨b, o, none⟩) dLen dCap, .slice (some a) sLen sCap]).run P w = .ok (goInt n) (w.setCells b o cs) := by
  have h2 := run_loadCells_list (P := P) w a cs hsrc
  have hst := run_storeCells_cells (P := P) b o cs 0 w (by simpa using hc) (by simpa using hf) h1
  rw [hl] at h2
  simp [Builtin.copy_, run_underlying hu, Builtin.lenOf, Builtin.firstCells, sizeOf, typeInfo, hi, hz, ← hn, h2, hst]

theorem wp_copy_z {P : Program} (w : World) {o : Oper} {a : Act} {K : Act → World → Prop} {Q : Exit → Act → World → Prop} (d s : Operand) (t t' : TypeId)
    (ho : o.op = .call { callee := .builtin .copy, args := #[d, s], argTypes := #[t, t'] }) (v u : Value) (hd : a.eval d = v) (hs : a.eval s = u) {v' : Value} {w' : World}
    (hr : (Builtin.copy_ #[t, t'] o.type #[v, u]).run P w = .ok v' w') (h : K (a.put o.dst v') w') : o.wp P a w K Q := by
  unfold Oper.wp execOp
  simp only [ho, resolve, invoke, builtin, Sem.run_bind, Sem.run_pure, Result.andThen_ok, List.map_toArray, List.map_cons, List.map_nil, hd, hs, hr]
  exact h
theorem wpList_copy_z {P : Program} (w : World) {ops : Array Oper} {rest : List Oper} {o : Oper} {a : Act} {Q : Exit → Act → World → Prop} (hgd : o.guard = none) (d s : Operand) (t t' : TypeId)
    (ho : o.op = .call { callee := .builtin .copy, args := #[d, s], argTypes := #[t, t'] }) (v u : Value) (hd : a.eval d = v) (hs : a.eval s = u) {v' : Value} {w' : World}
    (hr : (Builtin.copy_ #[t, t'] o.type #[v, u]).run P w = .ok v' w') (h : wpList P ops Q rest (a.put o.dst v') w') : wpList P ops Q (o :: rest) a w :=
  wpList_plain hgd fun _ hK => wp_copy_z w d s t t' ho v u hd hs hr (hK _ _ h)
theorem step_copy_z {P : Program} {ops : Array Oper} {o : Oper} {a : Act} {w : World} {K : Act → World → Prop} {Q : Exit → Act → World → Prop} {E : Prop}
    (hg : o.guard = none) (d s : Operand) (t t' : TypeId) (ho : o.op = Op.call { callee := Callee.builtin Builtin.copy, args := #[d, s], argTypes := #[t, t'] })
    (v u : Value) (hd : a.eval d = v) (hs : a.eval s = u) {v' : Value} {w' : World} (hr : (Builtin.copy_ #[t, t'] o.type #[v, u]).run P w = .ok v' w') (hK : K (a.put o.dst v') w') :
    if Region.wanted o (yielded ops a.tmps) = true then Oper.wp P o a w K Q else E := by
  have hw : Region.wanted o (yielded ops a.tmps) = true := by simp [Region.wanted, hg]
  rw [if_pos hw]
  exact wp_copy_z w d s t t' ho v u hd hs hr hK

/-- A row of one element more, whose room is there. -/
theorem owns_longer {w : World} {B : Nat} {e : TypeId} {sz g n cap : Nat} {xs : List Value} (h : w.ownsRow B e sz (.slice (some ⟨g, 0, none⟩) n cap) n xs) (hn : n + 1 ≤ cap) : ∃ ys : List Value, ys.length = sz ∧ w.ownsRow B e sz (.slice (some ⟨g, 0, none⟩) (n + 1) cap) (n + 1) (xs ++ ys) := by
  rcases h.2 with ⟨hv, _⟩ | ⟨g', cap', cur, hv, hg, hh, hc, hm, hs, ht⟩
  · cases hv
  · injection hv with hv1 hv2 hv3
    injection hv1 with hv1
    injection hv1 with hv1 _ _
    subst hv1 hv3
    have hle : (n + 1) * sz ≤ cap * sz := Nat.mul_le_mul_right sz hn
    have he : (n + 1) * sz = n * sz + sz := Nat.succ_mul n sz
    refine ⟨(cur.toList.drop (n * sz)).take sz, by rw [List.length_take, List.length_drop, Array.length_toList, hs]; omega, by rw [List.length_append, h.1, List.length_take, List.length_drop, Array.length_toList, hs]; omega, .inr ⟨g, cap, cur, rfl, hg, hh, hn, hm, hs, ?_⟩⟩
    rw [he, List.take_add, ht]

/-- What an element more leaves. -/
structure InsP (w : World) (B : Nat) (e : TypeId) (sz g : Nat) (v' : Value) (n : Nat) (xs : List Value) (w' : World) : Prop where
  own : w'.ownsRow B e sz v' n xs
  kept : Kept (fun k => k = g) w w'
  lies : ∀ k, v'.ownBlock = some k → k = g ∨ w.heap.size ≤ k

/-- Two stores that shift a row's end and put one element into it. -/
theorem shift_row {sz i n : Nat} {xs ys us : List Value} (hx : xs.length = n * sz) (hy : ys.length = sz) (hu : us.length = sz) (hi : i < n) :
    setL (setL (xs ++ ys) ((i + 1) * sz) (xs.drop (i * sz))) (i * sz) us = xs.take (i * sz) ++ us ++ xs.drop (i * sz) := by
  have hm : (i + 1) * sz = i * sz + sz := Nat.succ_mul i sz
  have hn : (i + 1) * sz ≤ n * sz := Nat.mul_le_mul_right sz hi
  have e1 : (xs ++ ys).drop ((i + 1) * sz + (xs.drop (i * sz)).length) = [] := List.drop_eq_nil_of_le (by rw [List.length_append, List.length_drop]; omega)
  have q1 := setL_in (xs.drop (i * sz)) (xs ++ ys) ((i + 1) * sz) (by rw [List.length_append, List.length_drop]; omega)
  rw [e1, List.append_nil] at q1
  rw [q1, setL_in _ _ _ (by rw [List.length_append, List.length_take, List.length_append, List.length_drop]; omega)]
  congr 1
  · congr 1
    rw [List.take_append_of_le_length (by rw [List.length_take, List.length_append]; omega), List.take_take, Nat.min_eq_left (by omega), List.take_append_of_le_length (by omega)]
  · rw [List.drop_append, List.length_take, List.length_append, List.drop_of_length_le (by rw [List.length_take, List.length_append]; omega), List.nil_append, show i * sz + us.length - min ((i + 1) * sz) (xs.length + ys.length) = 0 by omega, List.drop_zero]
/-- The same in a new row. -/
theorem fill_row {sz i n : Nat} {xs zs us : List Value} (hx : xs.length = n * sz) (hz : zs.length = (n + 1 - i) * sz) (hu : us.length = sz) (hi : i < n) :
    setL (setL (xs.take (i * sz) ++ zs) (i * sz) us) ((i + 1) * sz) (xs.drop (i * sz)) = xs.take (i * sz) ++ us ++ xs.drop (i * sz) := by
  have hm : (i + 1) * sz = i * sz + sz := Nat.succ_mul i sz
  have hn : (i + 1) * sz ≤ n * sz := Nat.mul_le_mul_right sz hi
  have hk : (n + 1 - i) * sz = (n + 1) * sz - i * sz := Nat.sub_mul _ _ _
  have hk2 : (n + 1) * sz = n * sz + sz := Nat.succ_mul n sz
  have hl : (xs.take (i * sz)).length = i * sz := by rw [List.length_take]; omega
  have e0 : (xs.take (i * sz) ++ zs).take (i * sz) = xs.take (i * sz) := by
    rw [List.take_append_of_le_length (by omega), List.take_take, Nat.min_self]
  have q1 := setL_in us (xs.take (i * sz) ++ zs) (i * sz) (by rw [List.length_append, hl]; omega)
  rw [e0] at q1
  rw [q1, setL_in _ _ _ (by simp only [List.length_append, List.length_drop, List.length_take]; omega)]
  have e1 : (xs.take (i * sz) ++ us ++ (xs.take (i * sz) ++ zs).drop (i * sz + us.length)).take ((i + 1) * sz) = xs.take (i * sz) ++ us := by
    rw [List.take_append_of_le_length (by rw [List.length_append, hl]; omega), List.take_of_length_le (by rw [List.length_append, hl]; omega)]
  have e2 : (xs.take (i * sz) ++ us ++ (xs.take (i * sz) ++ zs).drop (i * sz + us.length)).drop ((i + 1) * sz + (xs.drop (i * sz)).length) = [] :=
    List.drop_eq_nil_of_le (by simp only [List.length_append, List.length_drop, List.length_take]; omega)
  rw [e1, e2, List.append_nil]
end Go.Proofs.Ytalbiekleggkoaa
