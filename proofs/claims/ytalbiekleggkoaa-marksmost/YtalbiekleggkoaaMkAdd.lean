/-
  One more entry.
-/
import Derived.Test.YtalbiekleggkoaaMkThin
import Derived.Test.YtalbiekleggkoaaStepCall
namespace Go.Proofs.Ytalbiekleggkoaa
open Go.RowKit

/-- One more. -/
structure AddP (w : World) (s B : Nat) (v : Value) (cs : List Ent) (w' : World) : Prop where
  at' : ∃ v', ListAt w' s B v' cs
  kept : Kept (fun k => k = s ∨ v.ownBlock = some k) w w'

theorem AddP.below {w w' : World} {s B : Nat} {v : Value} {cs cs' : List Ent} (h : ListAt w s B v cs) (hp : AddP w s B v cs' w') : Below B w w' :=
  ⟨hp.kept.os, hp.kept.tape, hp.kept.output, hp.kept.size, fun k hk => hp.kept.block k (by have := h.le; omega) (fun e => by
    rcases e with e | e
    · have := h.sB
      omega
    · have := (owns_lt h.own k e).1
      omega)⟩

theorem add_fin {w w2 w3 : World} {s B g cap : Nat} {v : Value} {cs : List Ent} {i : Ent} (h : ListAt w s B v cs) (hb : Below w.heap.size w w2) (hown : w3.ownsRow B 58 3 (.slice (some ⟨g, 0, none⟩) (cs.length + 1) cap) (cs.length + 1) (cs.flatMap entC ++ entC i)) (hg : w2.grownBy w3 v.ownBlock) (hat : v.ownBlock = some g ∨ g = w2.heap.size) :
    w3.cell? ⟨s, 0, none⟩ = some v ∧ w3.frozen? ⟨s, 0, none⟩ = false ∧ AddP w s B v (cs ++ [i]) (w3.setCell ⟨s, 0, none⟩ (.slice (some ⟨g, 0, none⟩) (cs.length + 1) cap)) := by
  have h2 := h.below hb
  have hk : Kept (fun k => v.ownBlock = some k) w2 w3 := Kept.grown hg (fun k e => e)
  have hblk : w3.heap[s]? = some (.cells #[v] 51 (0, 0)) := (hk.block s h2.slt h2.off).trans h2.blk
  have hgs : g ≠ s := by
    rcases hat with e | e
    · intro e2
      subst e2
      exact h2.off e
    · have := h2.slt
      omega
  refine ⟨by simp [World.cell?, hblk], by simp [World.frozen?, hblk], ⟨⟨.slice (some ⟨g, 0, none⟩) (cs.length + 1) cap, ⟨?_, ?_, h.sB⟩⟩, ?_⟩⟩
  · have hlt := (Array.getElem?_eq_some_iff.1 hblk).1
    simp only [World.setCell, Array.getElem?_modify, hblk]
    simp
  · have := owns_kept (out := fun k => k = s) hown ((Kept.refl (fun k => k = s) w3).store ⟨s, 0, none⟩ rfl (.slice (some ⟨g, 0, none⟩) (cs.length + 1) cap)) (by
      intro k e
      simp only [Value.ownBlock, Option.some.injEq] at e
      omega)
    simpa using this
  · exact (((Kept.below (out := fun k => k = s ∨ v.ownBlock = some k) hb).trans (hk.mono (fun k _ e => .inr e))).store ⟨s, 0, none⟩ (.inl rfl) _)

theorem enews (w : World) (t : TypeId) (a b c : Value) : ∀ j u, ([a, b, c] : List Value)[j]? = some u → (w.alloc (.cells #[a, b, c] t)).cell? ((⟨w.heap.size, 0, none⟩ : Addr).add j) = some u := by
  intro j u h
  match j, h with
  | 0, h => simp at h; subst h; exact World.cell?_alloc_at (w := w) _ _ _ 0 rfl
  | 1, h => simp at h; subst h; exact World.cell?_alloc_at (w := w) _ _ _ 1 rfl
  | 2, h => simp at h; subst h; exact World.cell?_alloc_at (w := w) _ _ _ 2 rfl
  | (j + 3), h => simp at h

theorem enters_own : ∀ args w, (callFunc 60 args).run Try.prog w = .ok (.enter 60 args) w := enters_of Try.func60 (by kernel_rfl) rfl

theorem thinOf_len (nm : ByteArray) (cs : List Ent) : (thinOf nm cs).length ≤ cs.length := by
  unfold thinOf
  split
  · simp
    omega
  · exact Nat.le_refl _

set_option maxRecDepth 100000 in
set_option maxHeartbeats 4000000 in
theorem add_in (s B : Nat) (v : Value) (cs : List Ent) (x : Ent) (hx : x.node ≠ -1) (w : World) (h : ListAt w s B v cs) (hl : cs.length ≤ 10000) :
    Calls Try.prog 33 #[.pointer (some ⟨s, 0, none⟩), entV x] w fun e w' => e = .returned (.tuple #[]) ∧ AddP w s B v (thinOf x.name cs ++ [x]) w' := by
  have hb0 : Below w.heap.size w (w.alloc (.cells #[.int .i64 x.node, .string x.name, .slice none 0 0] 58)) := (Below.refl _ _).alloc (Nat.le_refl _) _
  have HT : Hid _ := thin_in s B v cs x (w.alloc (.cells #[.int .i64 x.node, .string x.name, .slice none 0 0] 58)) (h.below hb0) (by omega)
  have HS : Hid _ := h
  have HB0 : Hid _ := hb0
  have hlen := thinOf_len x.name cs
  obtain ⟨i0, hi, hz0, hz1, hz2⟩ := info_parts mkDelInfo
  have hne : (x.node != -1) = true := by simpa using hx
  have HO : Hid (∀ w, _) := fun w => own_bare x w
  have heg := enters_own
  generalize thinOf x.name cs = R at *
  unfold entV at HT HO ⊢
  clear h hb0
  go_enter Try.func33, Try.ntmps33
  go_wp2_with fail
  refine Calls.mono HT.out ?_
  rintro e w2 ⟨rfl, hth⟩
  obtain ⟨v2, h2, hv2⟩ := hth.at'
  have hnew := heap_alloc_new w (.cells #[.int .i64 x.node, .string x.name, .slice none 0 0] 58)
  have hblk := (hth.kept.block w.heap.size (by simp) (by
    intro e
    rcases e with e | e
    · have := HS.out.slt
      omega
    · have := (owns_lt HS.out.own _ e).2
      omega)).trans hnew
  have x0 : w2.cell? ⟨w.heap.size, 0, none⟩ = some (.int .i64 x.node) := by simp [World.cell?, hblk]
  have x1 : w2.cell? ⟨w.heap.size, 1, none⟩ = some (.string x.name) := by simp [World.cell?, hblk]
  have x2 : w2.cell? ⟨w.heap.size, 2, none⟩ = some (.slice none 0 0) := by simp [World.cell?, hblk]
  have c0 := h2.c0
  have HK : Hid (Kept (fun k => k = s ∨ v.ownBlock = some k) w w2) := (Kept.below HB0.out).trans hth.kept
  have HV : Hid (v2.ownBlock = v.ownBlock) := hv2
  obtain ⟨av, ac, rfl⟩ := h2.form
  have HF : Hid (∀ w3, Below w2.heap.size w2.drew w3 → w3.cell? ⟨s, 0, none⟩ = some (.slice av R.length ac) ∧ (∀ o, (w3.alloc o).cell? ⟨s, 0, none⟩ = some (.slice av R.length ac)) ∧ (∀ o, (w3.alloc o).ownsRow B 58 3 (.slice av R.length ac) R.length (R.flatMap entC)) ∧ B ≤ w3.heap.size ∧ Hid (∀ o g cap w4, w4.ownsRow B 58 3 (.slice (some ⟨g, 0, none⟩) (R.length + 1) cap) (R.length + 1) (R.flatMap entC ++ entC x) → (w3.alloc o).grownBy w4 (Value.slice av R.length ac).ownBlock → ((Value.slice av R.length ac).ownBlock = some g ∨ g = (w3.alloc o).heap.size) → w4.cell? ⟨s, 0, none⟩ = some (.slice av R.length ac) ∧ w4.frozen? ⟨s, 0, none⟩ = false ∧ Hid (AddP w s B v (R ++ [x]) (w4.setCell ⟨s, 0, none⟩ (.slice (some ⟨g, 0, none⟩) (R.length + 1) cap))))) := by
    intro w3 hb3
    have hb3' : Below w2.heap.size w2 w3 := ((Below.refl _ _).drew : Below w2.heap.size w2 w2.drew).trans hb3
    have h3 := h2.below hb3'
    have hal : ∀ o, Below w3.heap.size w3 (w3.alloc o) := fun o => (Below.refl _ _).alloc (Nat.le_refl _) o
    refine ⟨h3.c0, fun o => (h3.below (hal o)).c0, fun o => (h3.below (hal o)).own, h3.le, fun o g cap w4 k1 k2 k3 => ?_⟩
    obtain ⟨p1, p2, p3⟩ := add_fin h2 (hb3'.trans ((hal o).mono hb3'.size)) k1 k2 k3
    refine ⟨p1, p2, ⟨p3.at', ?_⟩⟩
    exact HK.out.trans (p3.kept.mono (fun k _ e => by rw [HV.out] at e; exact e))
  clear hth h2 hv2 hnew hblk HS HB0 HK HV HT
  go_upto_region 4 with fail
  go_region_law (first
    | (refine step_append_lies _ rfl (.tmp 16) (.tmp 19) 49 rfl B 58 i0 (.agg #[.int .i64 0, .string ⟨#[]⟩, .slice none 0 0]) 3 48 Try.underlying49 hi hz0 hz1 hz2 rfl (by decide) (.slice av R.length ac) R.length (R.flatMap entC) (by simp [Act.eval]) (ho3 _) ⟨w3.heap.size, 0, none⟩ 1 1 [.int .i64 x.node, .string x.name, .slice none 0 0] (by simp [Act.eval]) rfl (enews w3 _ _ _ _) (by intro u hu; simp at hu; rcases hu with rfl | rfl | rfl <;> rfl) (by omega) (by unfold maxLen; omega) (by omega) (by show B ≤ (w3.alloc _).heap.size; simp; omega) _ rfl (fun g cap w' hown' hgrow hat hlt => ?_); obtain ⟨q0, g0, KR⟩ := HF3.out _ g cap w' hown' hgrow hat; clear hown' hgrow hat hlt)
    | (refine step_call rfl 60 #[.tmp 17] #[58] rfl #[.agg #[.int .i64 x.node, .string x.name, .slice none 0 0]] (by simp [Act.eval]) (heg _) (HO.out _) ?_; rintro e w3 ⟨rfl, hb3⟩; refine ⟨_, rfl, ?_⟩; obtain ⟨c3, d3, ho3, hle3, HF3⟩ := HF.out w3 hb3; clear hb3))
  all_goals
    go_wp2
    go_end0
    exact ⟨rfl, KR.out⟩
end Go.Proofs.Ytalbiekleggkoaa
