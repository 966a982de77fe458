/-
  A stack: its last item; one taken away.
-/
import Derived.Test.YtalbiekleggkoaaStSpeaks
import Derived.Test.YtalbiekleggkoaaStDel
import Derived.Deep.RegionHeld3
namespace Go.Proofs.Ytalbiekleggkoaa
open Go.RowKit

/-- The stack has turned. -/
structure TurnP (w : World) (s B : Nat) (v : Value) (cs : List Itm) (w' : World) : Prop where
  at' : ∃ v', StackAt w' s B v' cs ∧ (v'.ownBlock = v.ownBlock ∨ ∀ k, v'.ownBlock = some k → w.heap.size ≤ k)
  kept : Kept (fun k => k = s ∨ v.ownBlock = some k) w w'

theorem iflat_take (cs : List Itm) : ∀ (i : Nat), (cs.flatMap itmC).take (i * 2) = (cs.take i).flatMap itmC := by
  induction cs with
  | nil => intro i; simp
  | cons c cs ih =>
    intro i
    match i with
    | 0 => simp
    | i + 1 =>
      rw [List.flatMap_cons, List.take_append, itmC_len, List.take_of_length_le (by rw [itmC_len]; omega), show (i + 1) * 2 - 2 = i * 2 by omega, ih i]
      simp
theorem iflat_drop (cs : List Itm) : ∀ (i : Nat), (cs.flatMap itmC).drop (i * 2) = (cs.drop i).flatMap itmC := by
  induction cs with
  | nil => intro i; simp
  | cons c cs ih =>
    intro i
    match i with
    | 0 => simp
    | i + 1 =>
      rw [List.flatMap_cons, List.drop_append, itmC_len, List.drop_of_length_le (by rw [itmC_len]; omega), show (i + 1) * 2 - 2 = i * 2 by omega, ih i]
      simp
theorem itm_one (cs : List Itm) : ∀ u ∈ cs.flatMap itmC, u.oneCell' = true := by
  intro u hu
  rw [List.mem_flatMap] at hu
  obtain ⟨c, _, h⟩ := hu
  simp [itmC] at h
  rcases h with rfl | rfl <;> rfl

/-- The row has turned, in its own block or a new one; the stack's own cell is stored. -/
theorem turn_fin {w w1 : World} {s B g c : Nat} {v : Value} {cs cs' : List Itm} (h : StackAt w s B v cs) (ho : w1.ownsRow B 31 2 (.slice (some ⟨g, 0, none⟩) cs'.length c) cs'.length (cs'.flatMap itmC)) (hk : Kept (fun k => v.ownBlock = some k) w w1) (hg : v.ownBlock = some g ∨ w.heap.size ≤ g) :
    w1.cell? ⟨s, 0, none⟩ = some v ∧ w1.frozen? ⟨s, 0, none⟩ = false ∧ Hid (TurnP w s B v cs' (w1.setCell ⟨s, 0, none⟩ (.slice (some ⟨g, 0, none⟩) cs'.length c))) := by
  have hblk := (hk.block s h.slt h.off).trans h.blk
  have hlt := (Array.getElem?_eq_some_iff.1 hblk).1
  have hsg : s ≠ g := by
    rcases hg with e | e
    · intro e2
      rw [← e2] at e
      exact h.off e
    · have := h.slt
      omega
  refine ⟨by simp [World.cell?, hblk], by simp [World.frozen?, hblk], ⟨⟨.slice (some ⟨g, 0, none⟩) cs'.length c, ⟨?_, ?_, h.sB⟩, ?_⟩, ?_⟩⟩
  · simp only [World.setCell, Array.getElem?_modify, hblk]
    simp
  · exact owns_kept (out := fun k => k = s) ho ((Kept.refl (fun k => k = s) w1).store ⟨s, 0, none⟩ rfl _) (by
      intro k e
      simp only [Value.ownBlock, Option.some.injEq] at e
      omega)
  · rcases hg with e | e
    · exact .inl e.symm
    · refine .inr fun k ek => ?_
      simp only [Value.ownBlock, Option.some.injEq] at ek
      omega
  · exact (hk.mono (fun k _ e => .inr e)).store ⟨s, 0, none⟩ (.inl rfl) _

set_option maxRecDepth 100000 in
set_option maxHeartbeats 2000000 in
theorem scut_bad (s B : Nat) (v : Value) (cs : List Itm) (n : Int) (w : World) (h : StackAt w s B v cs) (hn : n < 0 ∨ (cs.length : Int) ≤ n) :
    Calls Try.prog 10 #[.pointer (some ⟨s, 0, none⟩), .int .i64 n] w fun e w' => e = .returned (.bool false) ∧ w' = w := by
  obtain ⟨a, c, rfl⟩ := h.form
  have c0 := h.c0
  rcases (show n < 0 ∨ (¬ n < 0 ∧ (cs.length : Int) ≤ n) by omega) with h1 | ⟨h1, h2⟩
  all_goals
    clear hn h
    go_enter Try.func10, Try.ntmps10
    go_wp2
    go_ret
    exact ⟨rfl, rfl⟩

set_option maxRecDepth 100000 in
set_option maxHeartbeats 2000000 in
theorem scut_in (s B : Nat) (v : Value) (cs : List Itm) (i : Nat) (w : World) (h : StackAt w s B v cs) (hi : i < cs.length) (hl : cs.length ≤ 1000000) :
    Calls Try.prog 10 #[.pointer (some ⟨s, 0, none⟩), .int .i64 (i : Int)] w fun e w' => e = .returned (.bool true) ∧ Hid (TurnP w s B v (cs.take i ++ cs.drop (i + 1)) w') := by
  rcases h.form2 with ⟨rfl, rfl⟩ | ⟨g, cp, rfl, hcap⟩
  · exact absurd hi (by simp)
  have HD : Hid _ := stDel_any B g cs.length cp i (i + 1) (cs.flatMap itmC) w h.own (itm_one cs) (by omega) (by omega) hl
  have c0 := h.c0
  have e2 : (cs.take i ++ cs.drop (i + 1)).length = i + (cs.length - (i + 1)) := by simp; omega
  have HF : Hid (∀ w1, w1.ownsRow B 31 2 (.slice (some ⟨g, 0, none⟩) (i + (cs.length - (i + 1))) cp) (i + (cs.length - (i + 1))) ((cs.flatMap itmC).take (i * 2) ++ (cs.flatMap itmC).drop ((i + 1) * 2)) → Kept (fun k => k = g) w w1 → w1.cell? ⟨s, 0, none⟩ = some (.slice (some ⟨g, 0, none⟩) cs.length cp) ∧ w1.frozen? ⟨s, 0, none⟩ = false ∧ Hid (TurnP w s B (.slice (some ⟨g, 0, none⟩) cs.length cp) (cs.take i ++ cs.drop (i + 1)) (w1.setCell ⟨s, 0, none⟩ (.slice (some ⟨g, 0, none⟩) (i + (cs.length - (i + 1))) cp)))) := by
    intro w1 h1 hk
    rw [iflat_take, iflat_drop, ← List.flatMap_append] at h1
    rw [← e2] at h1 ⊢
    exact turn_fin h h1 (hk.mono (fun k _ e => by rw [e]; rfl)) (.inl rfl)
  have hd0 : ¬ (i : Int) < 0 := by omega
  have hd1 : ¬ (cs.length : Int) ≤ (i : Int) := by omega
  have e1 : ((i + 1 : Nat) : Int) = (i : Int) + 1 := by simp
  rw [e1] at HD
  clear h e2
  go_enter Try.func10, Try.ntmps10
  go_wp2_with fail
  refine Calls.mono HD.out ?_
  rintro e w2 ⟨rfl, hH⟩
  obtain ⟨q0, q1, HN⟩ := HF.out w2 hH.out.1 hH.out.2
  clear HF HD hH c0 e1
  go_wp2
  go_ret
  exact ⟨rfl, HN⟩

set_option maxRecDepth 100000 in
set_option maxHeartbeats 4000000 in
theorem stop_empty (s B : Nat) (v : Value) (w : World) (h : StackAt w s B v []) :
    Calls Try.prog 8 #[.pointer (some ⟨s, 0, none⟩)] w fun e w' => e = .returned (.tuple #[.agg #[.int .i64 0, .string ⟨#[]⟩], .bool false]) ∧ Below w.heap.size w w' := by
  have HB : Hid (∀ o, Below w.heap.size w (w.alloc o)) := fun o => (Below.refl _ _).alloc (Nat.le_refl _) o
  have HS : Hid (∀ o, _) := fun o => (h.below (HB.out o)).c0
  obtain ⟨a, c, rfl⟩ := h.form
  have c0 : ∀ o, (w.alloc o).cell? ⟨s, 0, none⟩ = some (.slice a 0 c) := fun o => HS.out o
  clear h HS
  go_enter Try.func8, Try.ntmps8
  go_wp2
  exact bodyPost_ret (v := .tuple #[.agg #[.int .i64 0, .string ⟨#[]⟩], .bool false]) (by simp [results, Try.results8, go_sem]) rfl ⟨rfl, HB.out _⟩

/-- What Top hands back. -/
structure TopAt (w : World) (c : Itm) (W : World) : Prop where
  p0 : W.cell? ⟨w.heap.size, 0, none⟩ = some (.int .i64 c.node)
  p1 : W.cell? ⟨w.heap.size, 1, none⟩ = some (.string c.name)
  bel : Below w.heap.size w W
theorem gen_w {Q : Exit → Act → World → Prop} {e : Exit} {a : Act} {W : World} {C : World → Prop} (hC : C W) (k : ∀ W', C W' → Q e a W') : Q e a W := k W hC

set_option maxRecDepth 100000 in
set_option maxHeartbeats 4000000 in
theorem stop_in (s B : Nat) (v : Value) (cs : List Itm) (c : Itm) (w : World) (h : StackAt w s B v (cs ++ [c])) (hl : cs.length ≤ 1000000) :
    Calls Try.prog 8 #[.pointer (some ⟨s, 0, none⟩)] w fun e w' => e = .returned (.tuple #[.agg #[.int .i64 c.node, .string c.name], .bool true]) ∧ Below w.heap.size w w' := by
  have hb : Below w.heap.size w (w.alloc (.cells #[.int .i64 0, .string ⟨#[]⟩] 31)) := (Below.refl _ _).alloc (Nat.le_refl _) _
  have hS := h.below hb
  have hlen : (cs ++ [c]).length = cs.length + 1 := by simp
  obtain ⟨g, cp, rfl⟩ : ∃ g cp, v = .slice (some ⟨g, 0, none⟩) (cs ++ [c]).length cp := by
    rcases h.form2 with ⟨_, e⟩ | ⟨g, cp, e, _⟩
    · simp at e
    · exact ⟨g, cp, e⟩
  have c0 := hS.c0
  have a0 := hS.at (i := cs.length) (j := 0) (c := c) (u := .int .i64 c.node) (by simp) rfl
  have a1 := hS.at (i := cs.length) (j := 1) (c := c) (u := .string c.name) (by simp) rfl
  rw [Nat.add_zero] at a0
  have n0 := heap_alloc_new w (.cells #[.int .i64 0, .string ⟨#[]⟩] 31)
  have p0 : (w.alloc (.cells #[.int .i64 0, .string ⟨#[]⟩] 31)).cell? ⟨w.heap.size, 0, none⟩ = some (.int .i64 0) := by simp only [World.cell?, n0]; rfl
  have p1 : (w.alloc (.cells #[.int .i64 0, .string ⟨#[]⟩] 31)).cell? ⟨w.heap.size, 1, none⟩ = some (.string ⟨#[]⟩) := by simp only [World.cell?, n0]; rfl
  have HF : Hid (TopAt w c (((w.alloc (.cells #[.int .i64 0, .string ⟨#[]⟩] 31)).setCell ⟨w.heap.size, 0, none⟩ (.int .i64 c.node)).setCell ⟨w.heap.size, 1, none⟩ (.string c.name)).drew) := by
    have ne : ∀ i j, i ≠ j → (⟨w.heap.size, i, none⟩ : Addr) ≠ ⟨w.heap.size, j, none⟩ := fun i j h e => by injection e with _ e _; exact h e
    refine ⟨?_, ?_, ?_⟩
    · show (World.setCell _ _ _).cell? _ = _
      rw [World.cell?_setCell_other _ _ _ _ (ne 1 0 (by decide))]
      exact World.cell?_setCell_same _ _ _ p0
    · show (World.setCell _ _ _).cell? _ = _
      exact World.cell?_setCell_same _ _ _ (by rw [World.cell?_setCell_other _ _ _ _ (ne 0 1 (by decide))]; exact p1)
    · exact ((hb.setCell (p := ⟨w.heap.size, 0, none⟩) (Nat.le_refl _) _).setCell (p := ⟨w.heap.size, 1, none⟩) (Nat.le_refl _) _).drew
  have f0 : ∀ j, (w.alloc (.cells #[.int .i64 0, .string ⟨#[]⟩] 31)).frozen? ⟨w.heap.size, j, none⟩ = false := fun j => by simp only [World.frozen?, n0]; simp
  have hw1 : IntKind.i64.wrap ((cs.length : Int) + 1 - 1) = (cs.length : Int) := by rw [IntKind.wrap_i64]; omega
  have hw2 : IntKind.i64.wrap (cs.length : Int) = (cs.length : Int) := by rw [IntKind.wrap_i64]; omega
  have hI0 : (0 : Int) ≤ (cs.length : Int) := by omega
  have hI1 : (cs.length : Int) < (cs.length : Int) + 1 := by omega
  have hs1 : s ≠ w.heap.size := by have := h.slt; omega
  have hne : ¬ ((cs.length : Int) + 1 = 0) := by omega
  have hg1 : g ≠ w.heap.size := by have := (owns_lt h.own g rfl).2; omega
  rw [hlen] at c0
  clear h hb hS n0 hlen
  go_enter Try.func8, Try.ntmps8
  go_upto_region 1 with fail
  have HF2 : Hid (∀ W, TopAt w c W → W.cell? ⟨w.heap.size, 0, none⟩ = some (.int .i64 c.node) ∧ W.cell? ⟨w.heap.size, 1, none⟩ = some (.string c.name) ∧ Hid (Below w.heap.size w W)) := fun W h => ⟨h.p0, h.p1, h.bel⟩
  have HF3 : Hid _ := HF2.out _ HF.out
  clear HF HF2
  generalize w.alloc (.cells #[.int .i64 0, .string ⟨#[]⟩] 31) = w1 at *
  have HK : Hid (((w1.setCell ⟨w.heap.size, 0, none⟩ (.int .i64 c.node)).setCell ⟨w.heap.size, 1, none⟩ (.string c.name)).drew.cell? ⟨s, 0, none⟩ = some (.slice (some ⟨g, 0, none⟩) (cs.length + 1) cp) ∧ ((w1.setCell ⟨w.heap.size, 0, none⟩ (.int .i64 c.node)).setCell ⟨w.heap.size, 1, none⟩ (.string c.name)).drew.cell? ⟨g, cs.length * 2, none⟩ = some (.int .i64 c.node) ∧ ((w1.setCell ⟨w.heap.size, 0, none⟩ (.int .i64 c.node)).setCell ⟨w.heap.size, 1, none⟩ (.string c.name)).drew.cell? ⟨g, cs.length * 2 + 1, none⟩ = some (.string c.name)) := by
    have far : ∀ (k j : Nat), k ≠ w.heap.size → ((w1.setCell ⟨w.heap.size, 0, none⟩ (.int .i64 c.node)).setCell ⟨w.heap.size, 1, none⟩ (.string c.name)).drew.cell? ⟨k, j, none⟩ = w1.cell? ⟨k, j, none⟩ := fun k j hk => by
      show (World.setCell _ _ _).cell? _ = _
      rw [World.cell?_setCell_other _ _ _ _ (fun e => by injection e with e _ _; exact hk e.symm), World.cell?_setCell_other _ _ _ _ (fun e => by injection e with e _ _; exact hk e.symm)]
    exact ⟨(far _ _ hs1).trans c0, (far _ _ hg1).trans a0, (far _ _ hg1).trans a1⟩
  go_upto_region 3 with fail
  go_region_held3 (fun W => W.cell? ⟨s, 0, none⟩ = some (.slice (some ⟨g, 0, none⟩) (cs.length + 1) cp) ∧ W.cell? ⟨g, cs.length * 2, none⟩ = some (.int .i64 c.node) ∧ W.cell? ⟨g, cs.length * 2 + 1, none⟩ = some (.string c.name)) (first | exact ⟨c0, a0, a1⟩ | exact HK.out) (fail)
  refine gen_w (C := fun W => W.cell? ⟨w.heap.size, 0, none⟩ = some (.int .i64 c.node) ∧ W.cell? ⟨w.heap.size, 1, none⟩ = some (.string c.name) ∧ Hid (Below w.heap.size w W)) HF3.out ?_
  clear HF3 p0 p1 f0 c0 a0 a1 HK
  rintro W' ⟨p0, p1, hb⟩
  go_wp2
  exact bodyPost_ret (v := .tuple #[.agg #[.int .i64 c.node, .string c.name], .bool true]) (by simp [results, Try.results8, go_sem, p0, p1]) rfl ⟨rfl, hb.out⟩
end Go.Proofs.Ytalbiekleggkoaa
