/-
  One more on a stack.
-/
import Derived.Test.YtalbiekleggkoaaStBase
namespace Go.Proofs.Ytalbiekleggkoaa
open Go.RowKit

theorem Try.infoItm : (Try.prog.info? 31).map (fun i => (i.zero, i.size, i.bytes)) = some (some (.agg #[.int .i64 0, .string ⟨#[]⟩]), 2, 24) := by kernel_rfl

set_option maxRecDepth 100000 in
set_option maxHeartbeats 2000000 in
theorem push_none (i : Itm) (w : World) : Calls Try.prog 20 #[.pointer none, .agg #[.int .i64 i.node, .string i.name]] w fun e w' => e = .returned (.tuple #[]) ∧ Below w.heap.size w w' := by
  have HB1 : Hid (∀ o, Below w.heap.size w (w.alloc o)) := fun o => (Below.refl _ _).alloc (Nat.le_refl _) o
  go_enter Try.func20, Try.ntmps20
  go_wp2
  go_end0
  exact ⟨rfl, HB1.out _⟩

/-- One more item. -/
structure PushP (w : World) (s B : Nat) (v : Value) (cs : List Itm) (i : Itm) (w' : World) : Prop where
  at' : ∃ v', StackAt w' s B v' (cs ++ [i]) ∧ (v'.ownBlock = v.ownBlock ∨ ∀ k, v'.ownBlock = some k → w.heap.size ≤ k)
  kept : Kept (fun k => k = s ∨ v.ownBlock = some k) w w'

theorem push_fin {w w2 w3 : World} {s B g cap : Nat} {v : Value} {cs : List Itm} {i : Itm} (h : StackAt w s B v cs) (hb : Below w.heap.size w w2) (hown : w3.ownsRow B 31 2 (.slice (some ⟨g, 0, none⟩) (cs.length + 1) cap) (cs.length + 1) (cs.flatMap itmC ++ itmC i)) (hg : w2.grownBy w3 v.ownBlock) (hat : v.ownBlock = some g ∨ g = w2.heap.size) :
    w3.cell? ⟨s, 0, none⟩ = some v ∧ w3.frozen? ⟨s, 0, none⟩ = false ∧ PushP w s B v cs i (w3.setCell ⟨s, 0, none⟩ (.slice (some ⟨g, 0, none⟩) (cs.length + 1) cap)) := by
  have h2 := h.below hb
  have hk : Kept (fun k => v.ownBlock = some k) w2 w3 := Kept.grown hg (fun k e => e)
  have hblk : w3.heap[s]? = some (.cells #[v] 26 (0, 0)) := (hk.block s h2.slt h2.off).trans h2.blk
  have hgs : g ≠ s := by
    rcases hat with e | e
    · intro e2
      subst e2
      exact h2.off e
    · have := h2.slt
      omega
  refine ⟨by simp [World.cell?, hblk], by simp [World.frozen?, hblk], ⟨⟨.slice (some ⟨g, 0, none⟩) (cs.length + 1) cap, ⟨?_, ?_, h.sB⟩, ?_⟩, ?_⟩⟩
  · have hlt := (Array.getElem?_eq_some_iff.1 hblk).1
    simp only [World.setCell, Array.getElem?_modify, hblk]
    simp
  · have := owns_kept (out := fun k => k = s) hown ((Kept.refl (fun k => k = s) w3).store ⟨s, 0, none⟩ rfl (.slice (some ⟨g, 0, none⟩) (cs.length + 1) cap)) (by
      intro k e
      simp only [Value.ownBlock, Option.some.injEq] at e
      omega)
    simpa using this
  · rcases hat with e | e
    · exact .inl e.symm
    · refine .inr fun k ek => ?_
      simp only [Value.ownBlock, Option.some.injEq] at ek
      have := hb.size
      omega
  · exact (((Kept.below (out := fun k => k = s ∨ v.ownBlock = some k) hb).trans (hk.mono (fun k _ e => .inr e))).store ⟨s, 0, none⟩ (.inl rfl) _)

theorem inews (w : World) (t : TypeId) (a b : Value) : ∀ j u, ([a, b] : List Value)[j]? = some u → (w.alloc (.cells #[a, b] t)).drew.cell? ((⟨w.heap.size, 0, none⟩ : Addr).add j) = some u := by
  intro j u h
  match j, h with
  | 0, h => simp at h; subst h; exact World.cell?_alloc_at (w := w) _ _ _ 0 rfl
  | 1, h => simp at h; subst h; exact World.cell?_alloc_at (w := w) _ _ _ 1 rfl
  | (j + 2), h => simp at h

set_option maxRecDepth 100000 in
set_option maxHeartbeats 4000000 in
theorem push_any (s B : Nat) (v : Value) (cs : List Itm) (i : Itm) (w : World) (h : StackAt w s B v cs) (hl : cs.length ≤ 1000000) :
    Calls Try.prog 20 #[.pointer (some ⟨s, 0, none⟩), .agg #[.int .i64 i.node, .string i.name]] w fun e w' => e = .returned (.tuple #[]) ∧ PushP w s B v cs i w' := by
  have HB1 : Hid (∀ o, Below w.heap.size w (w.alloc o)) := fun o => (Below.refl _ _).alloc (Nat.le_refl _) o
  obtain ⟨av, ac, rfl⟩ := h.form
  have HS : Hid _ := h
  clear h
  obtain ⟨i0, hi, hz0, hz1, hz2⟩ := info_parts Try.infoItm
  go_enter Try.func20, Try.ntmps20
  go_upto_region 2 with fail
  have hb := HB1.out (.cells #[.int .i64 i.node, .string i.name] 31)
  have hS1 := HS.out.below hb
  have x0 : (w.alloc (.cells #[.int .i64 i.node, .string i.name] 31)).cell? ⟨w.heap.size, 0, none⟩ = some (.int .i64 i.node) := World.cell?_alloc_at _ _ _ 0 rfl
  have x1 : (w.alloc (.cells #[.int .i64 i.node, .string i.name] 31)).cell? ⟨w.heap.size, 1, none⟩ = some (.string i.name) := World.cell?_alloc_at _ _ _ 1 rfl
  have HB : Hid _ := hb
  have hlt1 : w.heap.size < (w.alloc (.cells #[.int .i64 i.node, .string i.name] 31)).heap.size := by simp
  clear HB1 hb
  generalize w.alloc (.cells #[.int .i64 i.node, .string i.name] 31) = w1 at *
  have c0 := hS1.c0
  have d0 : ∀ o, (w1.alloc o).cell? ⟨s, 0, none⟩ = some (.slice av cs.length ac) := fun o => (((Below.refl _ _).alloc (Nat.le_refl _) o : Below w1.heap.size w1 (w1.alloc o)).cell (p := ⟨s, 0, none⟩) hS1.slt).trans c0
  have hown : ∀ o, (w1.alloc o).drew.ownsRow B 31 2 (.slice av cs.length ac) cs.length (cs.flatMap itmC) := fun o => World.ownsRow.drew (World.ownsRow.alloc hS1.own o)
  have hle := hS1.le
  have HF : Hid (∀ o g cap w3, w3.ownsRow B 31 2 (.slice (some ⟨g, 0, none⟩) (cs.length + 1) cap) (cs.length + 1) (cs.flatMap itmC ++ itmC i) → (w1.alloc o).drew.grownBy w3 (Value.slice av cs.length ac).ownBlock → ((Value.slice av cs.length ac).ownBlock = some g ∨ g = (w1.alloc o).drew.heap.size) → w3.cell? ⟨s, 0, none⟩ = some (.slice av cs.length ac) ∧ w3.frozen? ⟨s, 0, none⟩ = false ∧ Hid (PushP w s B (.slice av cs.length ac) cs i (w3.setCell ⟨s, 0, none⟩ (.slice (some ⟨g, 0, none⟩) (cs.length + 1) cap)))) := fun o g cap w3 h1 h2 h3 => push_fin HS.out (HB.out.trans ((((Below.refl w1.heap.size w1).alloc (Nat.le_refl _) o).drew).mono HB.out.size)) h1 h2 h3
  clear HS hS1 HB
  go_region_law (refine step_append_lies _ rfl (.tmp 10) (.tmp 12) 24 rfl B 31 i0 (.agg #[.int .i64 0, .string ⟨#[]⟩]) 2 24 Try.underlying24 hi hz0 hz1 hz2 rfl (by decide) (.slice av cs.length ac) cs.length (cs.flatMap itmC) (by simp [Act.eval]) (hown _) ⟨w1.heap.size, 0, none⟩ 1 1 [.int .i64 i.node, .string i.name] (by simp [Act.eval]) rfl (inews w1 _ _ _) (by intro u hu; simp at hu; rcases hu with rfl | rfl <;> rfl) (by omega) (by unfold maxLen; omega) (by omega) (by show B ≤ (w1.alloc _).heap.size; simp; omega) _ rfl (fun g cap w' hown' hgrow hat hlt => ?_); obtain ⟨q0, g0, KR⟩ := HF.out _ g cap w' hown' hgrow hat; clear hown' hgrow hat hlt)
  all_goals
    go_wp2
    go_end0
    exact ⟨rfl, KR.out⟩
end Go.Proofs.Ytalbiekleggkoaa
