/-
  What stands under a node: of no tree, of a leaf, of a document with one leaf.
-/
import Derived.Test.YtjbfgiicaaljjaaQvVal
namespace Go.Proofs.Ytjbfgiicaaljjaa
open Go.RowKit

theorem own_form {w : World} {B : Nat} {e : TypeId} {sz n : Nat} {v : Value} {xs : List Value} (h : w.ownsRow B e sz v n xs) : ∃ a c, v = .slice a n c := by
  rcases h.2 with ⟨h1, h2⟩ | ⟨g1, c1, _, h1, _⟩
  · exact ⟨none, 0, by rw [h1, h2]⟩
  · exact ⟨_, c1, h1⟩

/-- The function value that gathers elements. -/
def undV (nb ob : Nat) : Value := .func (.func 46) #[] #[.pointer (some ⟨nb, 0, none⟩), .pointer (some ⟨ob, 0, none⟩)]

set_option maxRecDepth 100000 in
set_option maxHeartbeats 2000000 in
theorem each_none (n : Int) (f : Value) (w : World) :
    Calls Try.prog 43 #[.pointer none, .int .i64 n, f] w fun e w' => e = .returned (.tuple #[]) ∧ Below w.heap.size w w' := by
  have HK : Hid _ := kids_none n w
  go_enter Try.func43, Try.ntmps43
  go_wp2_with fail
  refine Calls.mono HK.out ?_
  rintro e w1 ⟨rfl, h1⟩
  have HB : Hid _ := h1
  clear h1 HK
  go_wp2
  go_loopg [14] 0 (fun k i wi => k = 0 ∧ i = .int .i64 0 ∧ Hid (Below w.heap.size w wi))
  case atStart => exact ⟨rfl, rfl, HB⟩
  case round =>
    clear HB
    obtain ⟨rfl, rfl, hI⟩ := hrel
    go_wp2
    go_end0
    exact ⟨rfl, hI.out⟩

set_option maxRecDepth 100000 in
set_option maxHeartbeats 2000000 in
theorem each_leaf (t B g cap : Nat) (cs : List Cel) (n : Nat) (c : Cel) (f : Value) (w : World) (hT : TreeAt w t B g cap cs) (hn : cs[n]? = some c) (hO : w.ownsRow B 3 1 c.kids 0 []) :
    Calls Try.prog 43 #[.pointer (some ⟨t, 0, none⟩), .int .i64 (n : Int), f] w fun e w' => e = .returned (.tuple #[]) ∧ Below w.heap.size w w' := by
  have HK : Hid _ := kids_in t B g cap cs n c [] w hT hn hO (Nat.zero_le _)
  clear hT hn hO
  go_enter Try.func43, Try.ntmps43
  go_wp2_with fail
  refine Calls.mono HK.out ?_
  rintro e w1 ⟨v, rfl, h1, h2⟩
  obtain ⟨a, k, rfl⟩ := own_form h1
  have HB : Hid _ := h2
  clear h1 h2 HK
  go_wp2
  go_loopg [14] 0 (fun k i wi => k = 0 ∧ i = .int .i64 0 ∧ Hid (Below w.heap.size w wi))
  case atStart => exact ⟨rfl, rfl, HB⟩
  case round =>
    clear HB
    obtain ⟨rfl, rfl, hI⟩ := hrel
    go_wp2
    go_end0
    exact ⟨rfl, hI.out⟩

theorem enters_und : ∀ args w, (callFunc 46 args).run Try.prog w = .ok (.enter 46 args) w := enters_of Try.func46 (by kernel_rfl) rfl

/-- What was gathered so far lies in a variable's block. -/
structure OutAt (R ob : Nat) (ks : List Nat) (w : World) : Prop where
  blk : ∃ a c, w.heap[ob]? = some (.cells #[.slice a ks.length c] 30 (0, 0)) ∧ w.ownsRow R 3 1 (.slice a ks.length c) ks.length (intC ks)
  low : R ≤ ob

theorem OutAt.put {R ob kid : Nat} {ks : List Nat} {w w1 w2 : World} {a a2 : Option Addr} {c c2 : Nat} (hblk : w.heap[ob]? = some (.cells #[.slice a ks.length c] 30 (0, 0))) (hO : w.ownsRow R 3 1 (.slice a ks.length c) ks.length (intC ks)) (hR : R ≤ ob) (hb : Below w.heap.size w w1) (hg : w1.grownBy w2 (Value.slice a ks.length c).ownBlock)
    (hown : w2.ownsRow R 3 1 (.slice a2 (ks.length + 1) c2) (ks.length + 1) (intC ks ++ [.int .i64 (kid : Int)])) :
    w2.cell? ⟨ob, 0, none⟩ = some (.slice a ks.length c) ∧ w2.frozen? ⟨ob, 0, none⟩ = false ∧ Hid (OutAt R ob (ks ++ [kid]) (w2.setCell ⟨ob, 0, none⟩ (.slice a2 (ks.length + 1) c2)) ∧ Below R w (w2.setCell ⟨ob, 0, none⟩ (.slice a2 (ks.length + 1) c2))) := by
  have hlt := (Array.getElem?_eq_some_iff.1 hblk).1
  have hoff : (Value.slice a ks.length c).ownBlock ≠ some ob := by
    intro e
    rcases hO.2 with ⟨hv, _⟩ | ⟨g, cap, cur, hv, _, hh, _⟩
    · rw [hv] at e; cases e
    · rw [hv] at e
      simp only [Value.ownBlock, Option.some.injEq] at e
      subst e
      rw [hblk] at hh
      simp only [Option.some.injEq, Obj.cells.injEq] at hh
      exact absurd hh.2.1 (by decide)
  have h2 : w2.heap[ob]? = some (.cells #[.slice a ks.length c] 30 (0, 0)) := ((hg.block ob (Nat.lt_of_lt_of_le hlt hb.size) (fun e => hoff e.symm)).trans (hb.block ob hlt)).trans hblk
  have hRw : R ≤ w.heap.size := by omega
  have hbR : Below R w w2 := (hb.mono hRw).grown hg (Nat.le_trans hRw hb.size) (fun j e => (owns_lt hO j e).1)
  have hl : (ks ++ [kid]).length = ks.length + 1 := by simp
  refine ⟨by simp [World.cell?, h2], by simp [World.frozen?, h2], ⟨⟨⟨a2, c2, ?_, ?_⟩, hR⟩, hbR.setCell (p := ⟨ob, 0, none⟩) hR _⟩⟩
  · rw [hl]
    simp only [World.setCell, Array.getElem?_modify, h2]
    simp
  · rw [hl, show intC (ks ++ [kid]) = intC ks ++ [.int .i64 (kid : Int)] by simp [intC]]
    refine owns_kept (out := fun k => k = ob) hown (Kept.store (out := fun k => k = ob) (Kept.refl _ _) ⟨ob, 0, none⟩ rfl _) (fun k e e2 => ?_)
    subst e2
    rcases hown.2 with ⟨hv, _⟩ | ⟨g, cap, cur, hv, _, hh, _⟩
    · rw [hv] at e; cases e
    · rw [hv] at e
      simp only [Value.ownBlock, Option.some.injEq] at e
      subst e
      rw [h2] at hh
      simp only [Option.some.injEq, Obj.cells.injEq] at hh
      exact absurd hh.2.1 (by decide)

set_option maxRecDepth 100000 in
set_option maxHeartbeats 4000000 in
theorem und_el (R nb ob kid : Nat) (ks : List Nat) (at' : Int) (name data : ByteArray) (av : Value) (w : World) (hk : ks.length ≤ 1000000) (hnb : w.cell? ⟨nb, 0, none⟩ = some (.slice none 0 0)) (hO : OutAt R ob ks w) :
    Calls Try.prog 46 #[.int .i64 (kid : Int), .agg #[.int .i64 2, .int .i64 at', .string name, .string data, av], .pointer (some ⟨nb, 0, none⟩), .pointer (some ⟨ob, 0, none⟩)] w fun e w' => e = .returned (.tuple #[]) ∧ Hid (OutAt R ob (ks ++ [kid]) w' ∧ Below R w w') := by
  obtain ⟨i0, hi, hz0, hz1, hz2⟩ := info_parts Try.infoInt
  obtain ⟨⟨a, c, hblk, hown⟩, hR⟩ := hO
  have hob : w.cell? ⟨ob, 0, none⟩ = some (.slice a ks.length c) := by simp [World.cell?, hblk]
  have hol : ob < w.heap.size := World.block_lt_of_cell? _ _ hob
  have d0 : ∀ o, (w.alloc o).cell? ⟨nb, 0, none⟩ = some (.slice none 0 0) := fun o => by rw [World.cell?_alloc_old _ _ _ (Nat.ne_of_lt (World.block_lt_of_cell? _ _ hnb))]; exact hnb
  have d1 : ∀ o, (w.alloc o).cell? ⟨ob, 0, none⟩ = some (.slice a ks.length c) := fun o => by rw [World.cell?_alloc_old _ _ _ (Nat.ne_of_lt hol)]; exact hob
  have hown2 : ∀ o o', ((w.alloc o).alloc o').ownsRow R 3 1 (.slice a ks.length c) ks.length (intC ks) := fun o o' => (World.ownsRow.alloc (World.ownsRow.alloc hown o) o')
  have HP : Hid (∀ (o o' : Obj) (w2 : World) (a2 : Option Addr) (c2 : Nat), ((w.alloc o).alloc o').grownBy w2 (Value.slice a ks.length c).ownBlock → w2.ownsRow R 3 1 (.slice a2 (ks.length + 1) c2) (ks.length + 1) (intC ks ++ [.int .i64 (kid : Int)]) → _) := fun o o' w2 a2 c2 h1 h2 => OutAt.put (kid := kid) hblk hown hR (((Below.refl _ _).alloc (Nat.le_refl _) o).alloc (by simp) o') h1 h2
  have hRw : R ≤ w.heap.size := by omega
  clear hnb hblk hob hR
  go_enter Try.func46, Try.ntmps46
  go_wp2_with (at_builtin; refine wpList_append_own _ rfl _ _ 30 rfl R 3 i0 (.int .i64 0) 1 8 Try.underlying30 hi hz0 hz1 hz2 rfl (by decide) _ ks.length (intC ks) rfl (hown2 _ _) ⟨w.heap.size + 1, 0, none⟩ 1 1 [.int .i64 (kid : Int)] rfl rfl (fun j u hj => by have := cell_one_new (w.alloc (.cells #[.int .i64 2, .int .i64 at', .string name, .string data, av] 47)) (.int .i64 (kid : Int)) 3 j u hj; rw [World.size_alloc] at this; exact this) (ints_oneCell .i64 [(kid : Int)]) (by unfold maxLen; omega) (by omega) (by simp; omega) ?_; intro v' w2 hown' hgrow' _; obtain ⟨a2, c2, rfl⟩ := own_form hown'; obtain ⟨q1, q2, HF⟩ := HP.out _ _ w2 a2 c2 hgrow' hown'; clear hown' hgrow' HP hown2 hown)
  go_end0
  exact ⟨rfl, HF⟩
end Go.Proofs.Ytjbfgiicaaljjaa
