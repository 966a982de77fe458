/-
  A stack: one more item at a place.
-/
import Derived.Test.YtalbiekleggkoaaSsPop
import Derived.Test.YtalbiekleggkoaaStIns
import Derived.Test.YtalbiekleggkoaaStepCall
namespace Go.Proofs.Ytalbiekleggkoaa
open Go.RowKit

set_option maxRecDepth 100000 in
set_option maxHeartbeats 2000000 in
theorem slay_bad (s B : Nat) (v : Value) (cs : List Itm) (n : Int) (i : Itm) (w : World) (h : StackAt w s B v cs) (hn : n < 0 ∨ (cs.length : Int) < n) :
    Calls Try.prog 11 #[.pointer (some ⟨s, 0, none⟩), .int .i64 n, .agg #[.int .i64 i.node, .string i.name]] w fun e w' => e = .returned (.bool false) ∧ Below w.heap.size w w' := by
  have HB : Hid (∀ o, Below w.heap.size w (w.alloc o)) := fun o => (Below.refl _ _).alloc (Nat.le_refl _) o
  obtain ⟨a, c, rfl⟩ := h.form
  have c0 : ∀ o, (w.alloc o).cell? ⟨s, 0, none⟩ = some (.slice a cs.length c) := fun o => (h.below (HB.out o)).c0
  rcases (show n < 0 ∨ (¬ n < 0 ∧ (cs.length : Int) < n) by omega) with h1 | ⟨h1, h2⟩
  all_goals
    clear hn h
    go_enter Try.func11, Try.ntmps11
    go_wp2
    go_ret
    exact ⟨rfl, HB.out _⟩

theorem enters_ins : ∀ args w, (callFunc 44 args).run Try.prog w = .ok (.enter 44 args) w := enters_of Try.func44 (by kernel_rfl) rfl

/-- The row behind slices.Insert, wherever. -/
theorem ins_any (s B vb i : Nat) (v : Value) (cs : List Itm) (x : Itm) (w : World) (h : StackAt w s B v cs) (hv : w.heap[vb]? = some (.cells #[.int .i64 x.node, .string x.name] 31 (0, 0))) (hvb : v.ownBlock ≠ some vb) (hi : i ≤ cs.length) (hl : cs.length ≤ 100000) :
    Calls Try.prog 44 #[v, .int .i64 (i : Int), .slice (some ⟨vb, 0, none⟩) 1 1] w fun e w1 => ∃ g' cap', e = .returned (.slice (some ⟨g', 0, none⟩) (cs.length + 1) cap') ∧ Hid (w1.ownsRow B 31 2 (.slice (some ⟨g', 0, none⟩) (cs.length + 1) cap') (cs.length + 1) ((cs.take i ++ x :: cs.drop i).flatMap itmC) ∧ Kept (fun k => v.ownBlock = some k) w w1 ∧ (v.ownBlock = some g' ∨ w.heap.size ≤ g')) := by
  have hf : (cs.take i ++ x :: cs.drop i).flatMap itmC = (cs.flatMap itmC).take (i * 2) ++ itmC x ++ (cs.flatMap itmC).drop (i * 2) := by
    rw [iflat_take, iflat_drop]
    simp
  rw [hf]
  by_cases hlt : i < cs.length
  · rcases h.form2 with ⟨rfl, rfl⟩ | ⟨g, cp, rfl, hcap⟩
    · exact absurd hlt (by simp)
    refine (stIns_mid B g cs.length cp i vb (cs.flatMap itmC) (itmC x) w h.own (itm_one cs) rfl (by intro u hu; simp [itmC] at hu; rcases hu with rfl | rfl <;> rfl) hv (fun e => hvb (by rw [e]; rfl)) hlt (by omega)).mono ?_
    rintro e w1 ⟨g', cap', he, hp⟩
    refine ⟨g', cap', he, hp.out.own, hp.out.kept.mono (fun k _ e => by rw [e]; rfl), ?_⟩
    rcases hp.out.lies g' rfl with e | e
    · exact .inl (by rw [e]; rfl)
    · exact .inr e
  · obtain rfl : i = cs.length := by omega
    refine (stIns_end B cs.length vb v (cs.flatMap itmC) (itmC x) w h.own rfl (by intro u hu; simp [itmC] at hu; rcases hu with rfl | rfl <;> rfl) hv h.le (by omega)).mono ?_
    rintro e w1 ⟨g', cap', he, hp⟩
    have e1 : (cs.flatMap itmC).take (cs.length * 2) = cs.flatMap itmC := List.take_of_length_le (by rw [iflat_len]; omega)
    have e2 : (cs.flatMap itmC).drop (cs.length * 2) = [] := List.drop_eq_nil_of_le (by rw [iflat_len]; omega)
    rw [e1, e2, List.append_nil]
    exact ⟨g', cap', he, hp.out.1, Kept.grown hp.out.2.1 (fun k e => e), hp.out.2.2⟩

set_option maxRecDepth 100000 in
set_option maxHeartbeats 4000000 in
theorem slay_in (s B i : Nat) (v : Value) (cs : List Itm) (x : Itm) (w : World) (h : StackAt w s B v cs) (hi : i ≤ cs.length) (hl : cs.length ≤ 100000) :
    Calls Try.prog 11 #[.pointer (some ⟨s, 0, none⟩), .int .i64 (i : Int), .agg #[.int .i64 x.node, .string x.name]] w fun e w' => e = .returned (.bool true) ∧ Hid (TurnP w s B v (cs.take i ++ x :: cs.drop i) w') := by
  have hb : Below w.heap.size w (w.alloc (.cells #[.int .i64 x.node, .string x.name] 31)) := (Below.refl _ _).alloc (Nat.le_refl _) _
  have hS1 := h.below hb
  have n0 := heap_alloc_new w (.cells #[.int .i64 x.node, .string x.name] 31)
  obtain ⟨av, ac, rfl⟩ := h.form
  have hiI : ¬ (i : Int) < 0 := by omega
  have hiJ : ¬ (cs.length : Int) < (i : Int) := by omega
  have heg := enters_ins
  have HS : Hid _ := h
  have HB : Hid _ := hb
  have hne : (Value.slice av cs.length ac).ownBlock ≠ some (w.alloc (.cells #[.int .i64 x.node, .string x.name] 31)).heap.size := fun e => by
    have := (owns_lt h.own _ e).2
    simp at this
    omega
  clear h hb
  go_enter Try.func11, Try.ntmps11
  go_upto_region 1 with fail
  have x0 : (w.alloc (.cells #[.int .i64 x.node, .string x.name] 31)).cell? ⟨w.heap.size, 0, none⟩ = some (.int .i64 x.node) := by simp only [World.cell?, n0]; rfl
  have x1 : (w.alloc (.cells #[.int .i64 x.node, .string x.name] 31)).cell? ⟨w.heap.size, 1, none⟩ = some (.string x.name) := by simp only [World.cell?, n0]; rfl
  clear n0
  generalize w.alloc (.cells #[.int .i64 x.node, .string x.name] 31) = w1 at *
  have c0 := hS1.c0
  have d0 : ∀ o, (w1.alloc o).cell? ⟨s, 0, none⟩ = some (.slice av cs.length ac) := fun o => (hS1.below ((Below.refl _ _).alloc (Nat.le_refl _) o)).c0
  have hw2 : Below w1.heap.size w1 (w1.alloc (.cells #[.int .i64 x.node, .string x.name] 31)).drew := ((Below.refl _ _).alloc (Nat.le_refl _) _).drew
  have HI : Hid _ := ins_any s B w1.heap.size i (.slice av cs.length ac) cs x (w1.alloc (.cells #[.int .i64 x.node, .string x.name] 31)).drew (hS1.below hw2) (heap_alloc_new w1 _) hne hi hl
  have HF : Hid (∀ w3 g c, w3.ownsRow B 31 2 (.slice (some ⟨g, 0, none⟩) (cs.length + 1) c) (cs.length + 1) ((cs.take i ++ x :: cs.drop i).flatMap itmC) → Kept (fun k => (Value.slice av cs.length ac).ownBlock = some k) (w1.alloc (.cells #[.int .i64 x.node, .string x.name] 31)).drew w3 → ((Value.slice av cs.length ac).ownBlock = some g ∨ (w1.alloc (.cells #[.int .i64 x.node, .string x.name] 31)).drew.heap.size ≤ g) → w3.cell? ⟨s, 0, none⟩ = some (.slice av cs.length ac) ∧ w3.frozen? ⟨s, 0, none⟩ = false ∧ Hid (TurnP w s B (.slice av cs.length ac) (cs.take i ++ x :: cs.drop i) (w3.setCell ⟨s, 0, none⟩ (.slice (some ⟨g, 0, none⟩) (cs.length + 1) c)))) := by
    intro w3 g c h1 h2 h3
    have hl2 : (cs.take i ++ x :: cs.drop i).length = cs.length + 1 := by simp; omega
    have hbb : Below w.heap.size w (w1.alloc (.cells #[.int .i64 x.node, .string x.name] 31)).drew := HB.out.trans (hw2.mono HB.out.size)
    have hk : Kept (fun k => (Value.slice av cs.length ac).ownBlock = some k) w w3 := (Kept.below hbb).trans h2
    have := turn_fin (cs' := cs.take i ++ x :: cs.drop i) (g := g) (c := c) HS.out (by rw [hl2]; exact h1) hk (h3.imp id (fun e => Nat.le_trans hbb.size e))
    rw [hl2] at this
    exact this
  clear HS HB hS1 hw2 hne
  go_upto_region 3 with fail
  go_region_law (refine step_call rfl 44 #[.tmp 26, .tmp 27, .tmp 29] #[24, 3, 24] rfl #[.slice av cs.length ac, .int .i64 (i : Int), .slice (some ⟨w1.heap.size, 0, none⟩) 1 1] (by simp [Act.eval]) (heg _) HI.out ?_; rintro e w3 ⟨g', cap', rfl, hp⟩; refine ⟨_, rfl, ?_⟩; obtain ⟨q0, g0, KR⟩ := HF.out w3 g' cap' hp.out.1 hp.out.2.1 hp.out.2.2; clear hp)
  all_goals
    go_wp2
    go_ret
    exact ⟨rfl, KR⟩
end Go.Proofs.Ytalbiekleggkoaa
