/-
  One more entry, with attributes; a marker.
-/
import Derived.Test.YtalbiekleggkoaaMmThin
import Derived.Test.YtalbiekleggkoaaStepCall
namespace Go.Proofs.Ytalbiekleggkoaa
open Go.RowKit

theorem RListAt.far_s {w : World} {s B : Nat} {v : Value} {cs : List Enr} (h : RListAt w s B v cs) {a : Option Addr} {cap : Nat} {l : List Atr} (hx : AtrRow w a cap l) {g : Nat} (hg : a = some ⟨g, 0, none⟩) : g ≠ s := by
  obtain ⟨_, xs, r, hx⟩ := hx.typed hg
  intro e
  subst e
  rw [h.blk] at hx
  simp only [Option.some.injEq, Obj.cells.injEq] at hx
  exact absurd hx.2.1 (by decide)
theorem RListAt.far_r {w : World} {s B : Nat} {v : Value} {cs : List Enr} (h : RListAt w s B v cs) {a : Option Addr} {cap : Nat} {l : List Atr} (hx : AtrRow w a cap l) {g : Nat} (hg : a = some ⟨g, 0, none⟩) : v.ownBlock ≠ some g := by
  obtain ⟨_, xs, r, hx⟩ := hx.typed hg
  intro e1
  rcases h.own.2 with ⟨rfl, _⟩ | ⟨g', cap', cur, rfl, _, hh, _⟩
  · cases e1
  · simp only [Value.ownBlock, Option.some.injEq] at e1
    subst e1
    rw [hh] at hx
    simp only [Option.some.injEq, Obj.cells.injEq] at hx
    exact absurd hx.2.1 (by decide)

/-- One more. -/
structure RAddP (w : World) (s B : Nat) (v : Value) (cs : List Enr) (w' : World) : Prop where
  at' : ∃ v', RListAt w' s B v' cs
  kept : Kept (fun k => k = s ∨ v.ownBlock = some k) w w'

theorem RAddP.below {w w' : World} {s B : Nat} {v : Value} {cs cs' : List Enr} (h : RListAt w s B v cs) (hp : RAddP w s B v cs' w') : Below B w w' :=
  ⟨hp.kept.os, hp.kept.tape, hp.kept.output, hp.kept.size, fun k hk => hp.kept.block k (by have := h.le; omega) (fun e => by
    rcases e with e | e
    · have := h.sB
      omega
    · have := (owns_lt h.own k e).1
      omega)⟩

theorem radd_fin {w w2 w3 : World} {s B g cap : Nat} {v : Value} {cs : List Enr} {i : Enr} (h : RListAt w s B v cs) (hb : Below w.heap.size w w2) (hx : AtrRow w2 i.a i.cap i.l) (hown : w3.ownsRow B 58 3 (.slice (some ⟨g, 0, none⟩) (cs.length + 1) cap) (cs.length + 1) (cs.flatMap enrC ++ enrC i)) (hg : w2.grownBy w3 v.ownBlock) (hat : v.ownBlock = some g ∨ g = w2.heap.size) :
    w3.cell? ⟨s, 0, none⟩ = some v ∧ w3.frozen? ⟨s, 0, none⟩ = false ∧ RAddP w s B v (cs ++ [i]) (w3.setCell ⟨s, 0, none⟩ (.slice (some ⟨g, 0, none⟩) (cs.length + 1) cap)) := by
  have h2 := h.below hb
  have hk : Kept (fun k => v.ownBlock = some k) w2 w3 := Kept.grown hg (fun k e => e)
  have hblk : w3.heap[s]? = some (.cells #[v] 51 (0, 0)) := (hk.block s h2.slt h2.off).trans h2.blk
  have hgs : g ≠ s := by
    rcases hat with e | e
    · intro e2
      subst e2
      exact h2.off e
    · have := h2.slt
      omega
  have hk2 : Kept (fun k => v.ownBlock = some k ∨ k = s) w2 (w3.setCell ⟨s, 0, none⟩ (.slice (some ⟨g, 0, none⟩) (cs.length + 1) cap)) := (hk.mono (fun k _ e => .inl e)).store ⟨s, 0, none⟩ (.inr rfl) _
  refine ⟨by simp [World.cell?, hblk], by simp [World.frozen?, hblk], ⟨⟨.slice (some ⟨g, 0, none⟩) (cs.length + 1) cap, ⟨?_, ?_, h.sB, ?_⟩⟩, ?_⟩⟩
  · have hlt := (Array.getElem?_eq_some_iff.1 hblk).1
    simp only [World.setCell, Array.getElem?_modify, hblk]
    simp
  · have := owns_kept (out := fun k => k = s) hown ((Kept.refl (fun k => k = s) w3).store ⟨s, 0, none⟩ rfl (.slice (some ⟨g, 0, none⟩) (cs.length + 1) cap)) (by
      intro k e
      simp only [Value.ownBlock, Option.some.injEq] at e
      omega)
    simpa using this
  · intro c hc
    have hr : AtrRow w2 c.a c.cap c.l := by
      rcases List.mem_append.1 hc with hc | hc
      · exact h2.ents c hc
      · rw [List.mem_singleton] at hc
        rw [hc]
        exact hx
    refine hr.kept hk2 (fun k hg e => ?_)
    rcases e with e | e
    · exact h2.far_r hr hg e
    · exact h2.far_s hr hg e
  · exact (((Kept.below (out := fun k => k = s ∨ v.ownBlock = some k) hb).trans (hk.mono (fun k _ e => .inr e))).store ⟨s, 0, none⟩ (.inl rfl) _)

theorem renews (w : World) (t : TypeId) (a b c : Value) : ∀ j u, ([a, b, c] : List Value)[j]? = some u → (w.alloc (.cells #[a, b, c] t)).cell? ((⟨w.heap.size, 0, none⟩ : Addr).add j) = some u := by
  intro j u h
  match j, h with
  | 0, h => simp at h; subst h; exact World.cell?_alloc_at (w := w) _ _ _ 0 rfl
  | 1, h => simp at h; subst h; exact World.cell?_alloc_at (w := w) _ _ _ 1 rfl
  | 2, h => simp at h; subst h; exact World.cell?_alloc_at (w := w) _ _ _ 2 rfl
  | (j + 3), h => simp at h

theorem enters_ownR : ∀ args w, (callFunc 60 args).run Try.prog w = .ok (.enter 60 args) w := enters_of Try.func60 (by kernel_rfl) rfl

/-- What stays when one comes. -/
def comeR (x : Enr) (cs : List Enr) : List Enr := if x.node == -1 then cs else thinR (alR x) cs
theorem comeR_len (x : Enr) (cs : List Enr) : (comeR x cs).length ≤ cs.length := by
  unfold comeR
  split
  · exact Nat.le_refl _
  · exact thinR_len _ _

/-- What the walk of the last statement wants. -/
structure AddW (w : World) (s B : Nat) (v : Value) (R : List Enr) (x : Enr) (w2 : World) : Prop where
  at' : ∃ v', RListAt w2 s B v' R ∧ v'.ownBlock = v.ownBlock
  kept : Kept (fun k => k = s ∨ v.ownBlock = some k) w w2
  blk : w2.heap[w.heap.size]? = some (.cells #[.int .i64 x.node, .string x.name, .slice x.a x.l.length x.cap] 58)
  row : AtrRow w2 x.a x.cap x.l

set_option maxRecDepth 100000 in
set_option maxHeartbeats 4000000 in
theorem radd_in (s B : Nat) (v : Value) (cs : List Enr) (x : Enr) (w : World) (h : RListAt w s B v cs) (hx : AtrRow w x.a x.cap x.l) (hxo : EnrOk x) (hok : ∀ c ∈ cs, EnrOk c) (hl : cs.length ≤ 10000) :
    Calls Try.prog 33 #[.pointer (some ⟨s, 0, none⟩), enrV x] w fun e w' => e = .returned (.tuple #[]) ∧ ∃ a' cap', Hid (RAddP w s B v (comeR x cs ++ [⟨x.node, x.name, a', cap', x.l⟩]) w') := by
  have hb0 : Below w.heap.size w (w.alloc (.cells #[.int .i64 x.node, .string x.name, .slice x.a x.l.length x.cap] 58)) := (Below.refl _ _).alloc (Nat.le_refl _) _
  have hnew := heap_alloc_new w (.cells #[.int .i64 x.node, .string x.name, .slice x.a x.l.length x.cap] 58)
  have HT : Hid _ := rthin_in s B v cs x (w.alloc (.cells #[.int .i64 x.node, .string x.name, .slice x.a x.l.length x.cap] 58)) (h.below hb0) (hx.below hb0) hxo hok (by omega)
  have hlen := comeR_len x cs
  obtain ⟨i0, hi, hz0, hz1, hz2⟩ := info_parts mkDelInfo
  have HO : Hid (∀ w', AtrRow w' x.a x.cap x.l → _) := fun w' hr => own_any x w' hr hxo.few
  have heg := enters_ownR
  have HW0 : Hid ((x.node == -1) = true → AddW w s B v (comeR x cs) x (w.alloc (.cells #[.int .i64 x.node, .string x.name, .slice x.a x.l.length x.cap] 58))) := fun hm => ⟨⟨v, by unfold comeR; rw [if_pos hm]; exact h.below hb0, rfl⟩, Kept.below hb0, hnew, hx.below hb0⟩
  have HW1 : Hid ((x.node == -1) = false → ∀ w2, RThinP (w.alloc (.cells #[.int .i64 x.node, .string x.name, .slice x.a x.l.length x.cap] 58)) s B v (thinR (alR x) cs) w2 → AddW w s B v (comeR x cs) x w2) := fun hm w2 hth => by
    have h1 := h.below hb0
    have hx1 := hx.below hb0
    refine ⟨?_, (Kept.below hb0).trans hth.kept, (hth.kept.block w.heap.size (by simp) (by
      intro e
      rcases e with e | e
      · have := h.slt
        omega
      · have := (owns_lt h.own _ e).2
        omega)).trans hnew, hx1.kept hth.kept (fun k hg e => ?_)⟩
    · unfold comeR
      rw [if_neg (by rw [hm]; decide)]
      exact hth.at'
    · rcases e with e | e
      · exact h1.far_s hx1 hg e
      · exact h1.far_r hx1 hg e
  generalize comeR x cs = R at *
  generalize thinR (alR x) cs = R1 at *
  have HF : Hid (∀ w2, AddW w s B v R x w2 → ∃ av ac, w2.cell? ⟨w.heap.size, 0, none⟩ = some (.int .i64 x.node) ∧ w2.cell? ⟨w.heap.size, 1, none⟩ = some (.string x.name) ∧ w2.cell? ⟨w.heap.size, 2, none⟩ = some (.slice x.a x.l.length x.cap) ∧ w2.cell? ⟨s, 0, none⟩ = some (.slice av R.length ac) ∧ Hid (∀ w3 a' cap', AtrRow w3 a' cap' x.l → Below w2.heap.size w2.drew w3 → w3.cell? ⟨s, 0, none⟩ = some (.slice av R.length ac) ∧ (∀ o, (w3.alloc o).cell? ⟨s, 0, none⟩ = some (.slice av R.length ac)) ∧ (∀ o, (w3.alloc o).ownsRow B 58 3 (.slice av R.length ac) R.length (R.flatMap enrC)) ∧ B ≤ w3.heap.size ∧ Hid (∀ o g cap w4, w4.ownsRow B 58 3 (.slice (some ⟨g, 0, none⟩) (R.length + 1) cap) (R.length + 1) (R.flatMap enrC ++ enrC ⟨x.node, x.name, a', cap', x.l⟩) → (w3.alloc o).grownBy w4 (Value.slice av R.length ac).ownBlock → ((Value.slice av R.length ac).ownBlock = some g ∨ g = (w3.alloc o).heap.size) → w4.cell? ⟨s, 0, none⟩ = some (.slice av R.length ac) ∧ w4.frozen? ⟨s, 0, none⟩ = false ∧ Hid (RAddP w s B v (R ++ [⟨x.node, x.name, a', cap', x.l⟩]) (w4.setCell ⟨s, 0, none⟩ (.slice (some ⟨g, 0, none⟩) (R.length + 1) cap)))))) := by
    intro w2 hw
    obtain ⟨v2, h2, hv2⟩ := hw.at'
    obtain ⟨av, ac, rfl⟩ := h2.form
    refine ⟨av, ac, by simp [World.cell?, hw.blk], by simp [World.cell?, hw.blk], by simp [World.cell?, hw.blk], h2.c0, fun w3 a' cap' hr3 hb3 => ?_⟩
    have hb3' : Below w2.heap.size w2 w3 := ((Below.refl _ _).drew : Below w2.heap.size w2 w2.drew).trans hb3
    have h3 := h2.below hb3'
    have hal : ∀ o, Below w3.heap.size w3 (w3.alloc o) := fun o => (Below.refl _ _).alloc (Nat.le_refl _) o
    refine ⟨h3.c0, fun o => (h3.below (hal o)).c0, fun o => (h3.below (hal o)).own, h3.le, fun o g cap w4 k1 k2 k3 => ?_⟩
    obtain ⟨p1, p2, p3⟩ := radd_fin (i := ⟨x.node, x.name, a', cap', x.l⟩) h2 (hb3'.trans ((hal o).mono hb3'.size)) (hr3.below (hal o)) k1 k2 k3
    refine ⟨p1, p2, ⟨p3.at', ?_⟩⟩
    exact hw.kept.trans (p3.kept.mono (fun k _ e => by rw [hv2] at e; exact e))
  unfold enrV at HT HO ⊢
  clear h hb0 hx hok hnew
  cases hm : (x.node == -1)
  · have HW : Hid _ := HW1.out hm
    have hne : (x.node != -1) = true := by simpa using hm
    clear HW0 HW1 hm
    go_enter Try.func33, Try.ntmps33
    go_wp2_with fail
    refine Calls.mono HT.out ?_
    rintro e w2 ⟨rfl, hth⟩
    have HWW : Hid _ := HW.out w2 hth
    obtain ⟨av, ac, x0, x1, x2, c0, HFF⟩ := HF.out w2 HWW.out
    have HRW : Hid (∀ w', Below w2.heap.size w2 w' → AtrRow w' x.a x.cap x.l) := fun w' hb => HWW.out.row.below hb
    clear hth HF HW HT HWW
    go_upto_region 4 with fail
    go_region_law (first
      | (refine step_append_lies _ rfl (.tmp 16) (.tmp 19) 49 rfl B 58 i0 (.agg #[.int .i64 0, .string ⟨#[]⟩, .slice none 0 0]) 3 48 Try.underlying49 hi hz0 hz1 hz2 rfl (by decide) (.slice av R.length ac) R.length (R.flatMap enrC) (by simp [Act.eval]) (ho3 _) ⟨w3.heap.size, 0, none⟩ 1 1 [.int .i64 x.node, .string x.name, .slice a' x.l.length cap'] (by simp [Act.eval]) rfl (renews w3 _ _ _ _) (by intro u hu; simp at hu; rcases hu with rfl | rfl | rfl <;> rfl) (by omega) (by unfold maxLen; omega) (by omega) (by show B ≤ (w3.alloc _).heap.size; simp; omega) _ rfl (fun g cap w' hown' hgrow hat hlt => ?_); obtain ⟨q0, g0, KR⟩ := HF3.out _ g cap w' hown' hgrow hat; clear hown' hgrow hat hlt)
      | (refine step_call rfl 60 #[.tmp 17] #[58] rfl #[.agg #[.int .i64 x.node, .string x.name, .slice x.a x.l.length x.cap]] (by simp [Act.eval]) (heg _) (HO.out _ (HRW.out _ (Below.refl _ _).drew)) ?_; rintro e w3 ⟨a', cap', rfl, hr3, hb3⟩; refine ⟨_, rfl, ?_⟩; obtain ⟨c3, d3, ho3, hle3, HF3⟩ := HFF.out w3 a' cap' hr3.out hb3; clear hb3 hr3))
    all_goals
      go_wp2
      go_end0
      exact ⟨rfl, _, _, KR⟩
  · have HWW : Hid _ := HW0.out hm
    have hne : (x.node != -1) = false := by simpa using hm
    obtain ⟨av, ac, x0, x1, x2, c0, HFF⟩ := HF.out _ HWW.out
    have HRW : Hid (∀ w', Below (w.alloc (.cells #[.int .i64 x.node, .string x.name, .slice x.a x.l.length x.cap] 58)).heap.size (w.alloc (.cells #[.int .i64 x.node, .string x.name, .slice x.a x.l.length x.cap] 58)) w' → AtrRow w' x.a x.cap x.l) := fun w' hb => HWW.out.row.below hb
    clear HF HW0 HW1 hm HT HWW
    go_enter Try.func33, Try.ntmps33
    go_upto_region 2 with fail
    generalize w.alloc (.cells #[.int .i64 x.node, .string x.name, .slice x.a x.l.length x.cap] 58) = w2 at *
    go_upto_region 4 with fail
    go_region_law (first
      | (refine step_append_lies _ rfl (.tmp 16) (.tmp 19) 49 rfl B 58 i0 (.agg #[.int .i64 0, .string ⟨#[]⟩, .slice none 0 0]) 3 48 Try.underlying49 hi hz0 hz1 hz2 rfl (by decide) (.slice av R.length ac) R.length (R.flatMap enrC) (by simp [Act.eval]) (ho3 _) ⟨w3.heap.size, 0, none⟩ 1 1 [.int .i64 x.node, .string x.name, .slice a' x.l.length cap'] (by simp [Act.eval]) rfl (renews w3 _ _ _ _) (by intro u hu; simp at hu; rcases hu with rfl | rfl | rfl <;> rfl) (by omega) (by unfold maxLen; omega) (by omega) (by show B ≤ (w3.alloc _).heap.size; simp; omega) _ rfl (fun g cap w' hown' hgrow hat hlt => ?_); obtain ⟨q0, g0, KR⟩ := HF3.out _ g cap w' hown' hgrow hat; clear hown' hgrow hat hlt)
      | (refine step_call rfl 60 #[.tmp 17] #[58] rfl #[.agg #[.int .i64 x.node, .string x.name, .slice x.a x.l.length x.cap]] (by simp [Act.eval]) (heg _) (HO.out _ (HRW.out _ (Below.refl _ _).drew)) ?_; rintro e w3 ⟨a', cap', rfl, hr3, hb3⟩; refine ⟨_, rfl, ?_⟩; obtain ⟨c3, d3, ho3, hle3, HF3⟩ := HFF.out w3 a' cap' hr3.out hb3; clear hb3 hr3))
    all_goals
      go_wp2
      go_end0
      exact ⟨rfl, _, _, KR⟩
end Go.Proofs.Ytalbiekleggkoaa
