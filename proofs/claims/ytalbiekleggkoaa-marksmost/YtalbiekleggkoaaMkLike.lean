/-
  Bare entries: their own, what is alike, markers.
-/
import Derived.Test.YtalbiekleggkoaaMkLast
import Derived.Shelf.Abstract
namespace Go.Proofs.Ytalbiekleggkoaa
open Go.RowKit

def entV (i : Ent) : Value := .agg #[.int .i64 i.node, .string i.name, .slice none 0 0]

theorem mk_drawn {B : Nat} {a w : World} (h : Below B a w) (q : Nat) : Below B a (w.drewN q) := ⟨h.os, h.tape, h.output, h.size, h.block⟩

theorem cloneA_nil (w : World) : Calls Try.prog 73 #[.slice none 0 0] w fun e w' => e = .returned (.slice none 0 0) ∧ w' = w := by
  have hq : ∀ (a : Option Addr) (n c : Nat) (w : World), (binOp .eql 56 (.slice a n c) (.slice none 0 0)).run Try.prog w = .ok (.bool a.isNone) w := fun a n c w => Lib.run_eql_slice_nil w _ _ a n c 0 0 Try.underlying56
  go_enter Try.func73, Try.ntmps73
  go_wp2
  go_ret
  exact ⟨rfl, rfl⟩

set_option maxRecDepth 100000 in
set_option maxHeartbeats 2000000 in
theorem own_bare (i : Ent) (w : World) : Calls Try.prog 60 #[entV i] w fun e w' => e = .returned (entV i) ∧ Below w.heap.size w w' := by
  unfold entV
  go_enter Try.func60, Try.ntmps60
  have HC : Hid (∀ w, _) := fun w => cloneA_nil w
  go_wp2_with fail
  refine Calls.mono (HC.out _) ?_
  rintro e w1 ⟨rfl, rfl⟩
  go_wp2
  refine bodyPost_ret (v := .agg #[.int .i64 i.node, .string i.name, .slice none 0 0]) ?_ rfl ⟨rfl, ?_⟩
  · simp [results, Try.results60, go_sem]
  · exact ((Below.refl _ _).alloc (Nat.le_refl _) _).alloc (by simp) _

theorem marker_any (i : Ent) (w : World) : Calls Try.prog 56 #[entV i] w fun e w' => e = .returned (.bool (i.node == -1)) ∧ Below w.heap.size w w' := by
  have HB : Hid (∀ o, Below w.heap.size w (w.alloc o)) := fun o => (Below.refl _ _).alloc (Nat.le_refl _) o
  unfold entV
  go_enter Try.func56, Try.ntmps56
  go_wp2
  go_ret
  exact ⟨rfl, HB.out _⟩

set_option maxRecDepth 100000 in
theorem amongA_any (a : Option Addr) (n c : Nat) (w : World) : Calls Try.prog 77 #[.slice a n c] w fun e w' => e = .returned (.func (.func 82) #[] #[.pointer (some ⟨w.heap.size + 1 + 1, 0, none⟩), .pointer (some ⟨w.heap.size, 0, none⟩), .pointer (some ⟨w.heap.size + 1, 0, none⟩)]) ∧ w' = ((w.alloc (.cells #[.slice a n c] 56)).alloc (.cells #[.map none] 116)).alloc (.cells #[.bool false] 4) := by
  go_enter Try.func77, Try.ntmps77
  go_wp2
  go_ret
  exact ⟨rfl, rfl⟩

/-- What tells whether an entry is alike one. -/
def likeV (b h : Nat) : Value := .func (.func 78) #[] #[.pointer (some ⟨b, 0, none⟩), .pointer (some ⟨h, 0, none⟩)]

set_option maxRecDepth 100000 in
set_option maxHeartbeats 2000000 in
theorem like_bare (i : Ent) (w : World) : Calls Try.prog 67 #[entV i] w fun e w' => ∃ h, e = .returned (likeV w.heap.size h) ∧ w'.cell? ⟨w.heap.size, 1, none⟩ = some (.string i.name) ∧ w'.cell? ⟨w.heap.size, 2, none⟩ = some (.slice none 0 0) ∧ Below w.heap.size w w' := by
  unfold entV likeV
  have HC : Hid (∀ w, _) := fun w => amongA_any none 0 0 w
  have hst := fun (a : Addr) (caps : Array Value) (w : World) => run_store Try.prog w a (.func (.func 82) #[] caps) .plain rfl
  go_enter Try.func67, Try.ntmps67
  go_wp2_with fail
  refine Calls.mono (HC.out _) ?_
  rintro e w1 ⟨rfl, hw1⟩
  have h0 : (w.alloc (.cells #[.int .i64 i.node, .string i.name, .slice none 0 0] 58)).cell? ⟨w.heap.size, 1, none⟩ = some (.string i.name) := World.cell?_alloc_at _ _ _ 1 rfl
  have h1 : (w.alloc (.cells #[.int .i64 i.node, .string i.name, .slice none 0 0] 58)).cell? ⟨w.heap.size, 2, none⟩ = some (.slice none 0 0) := World.cell?_alloc_at _ _ _ 2 rfl
  have hb : Below (w.alloc (.cells #[.int .i64 i.node, .string i.name, .slice none 0 0] 58)).heap.size (w.alloc (.cells #[.int .i64 i.node, .string i.name, .slice none 0 0] 58)) w1 := by
    rw [hw1]
    exact (((Below.refl _ _).alloc (Nat.le_refl _) _).alloc (by simp) _).alloc (by simp) _
  have HW : Hid (∀ o, (w1.alloc o).cell? ⟨w.heap.size, 1, none⟩ = some (.string i.name) ∧ (w1.alloc o).cell? ⟨w.heap.size, 2, none⟩ = some (.slice none 0 0) ∧ Below w.heap.size w (w1.alloc o)) := by
    intro o
    have hb2 := hb.alloc hb.size o
    refine ⟨(hb2.cell (p := ⟨w.heap.size, 1, none⟩) (by show w.heap.size < _; simp)).trans h0, (hb2.cell (p := ⟨w.heap.size, 2, none⟩) (by show w.heap.size < _; simp)).trans h1, ?_⟩
    exact ((Below.refl _ _).alloc (Nat.le_refl _) _).trans (hb2.mono (by simp))
  clear hw1 h0 h1 hb HC
  go_wp2
  go_ret
  exact ⟨_, rfl, HW.out _⟩

theorem enters_like1 : ∀ args w, (callFunc 78 args).run Try.prog w = .ok (.enter 78 args) w := enters_of Try.func78 (by kernel_rfl) rfl

def alikeP (nm : ByteArray) (c : Ent) : Bool := c.name.toList == nm.toList

set_option maxRecDepth 100000 in
set_option maxHeartbeats 2000000 in
theorem like1_bare (b h : Nat) (nm : ByteArray) (i : Ent) (w : World) (h1 : w.cell? ⟨b, 1, none⟩ = some (.string nm)) (h2 : w.cell? ⟨b, 2, none⟩ = some (.slice none 0 0)) :
    Calls Try.prog 78 #[entV i, .pointer (some ⟨b, 0, none⟩), .pointer (some ⟨h, 0, none⟩)] w fun e w' => e = .returned (.bool (alikeP nm i)) ∧ Below w.heap.size w w' := by
  have HB : Hid (∀ o, Below w.heap.size w (w.alloc o)) := fun o => (Below.refl _ _).alloc (Nat.le_refl _) o
  have k1 : ∀ o, (w.alloc o).cell? ⟨b, 1, none⟩ = some (.string nm) := fun o => ((HB.out o).cell (p := ⟨b, 1, none⟩) (World.block_lt_of_cell? _ _ h1)).trans h1
  have k2 : ∀ o, (w.alloc o).cell? ⟨b, 2, none⟩ = some (.slice none 0 0) := fun o => ((HB.out o).cell (p := ⟨b, 2, none⟩) (World.block_lt_of_cell? _ _ h2)).trans h2
  clear h1 h2
  unfold entV alikeP
  cases he : (i.name.toList == nm.toList)
  · go_enter Try.func78, Try.ntmps78
    go_wp2
    go_ret
    exact ⟨rfl, HB.out _⟩
  · go_enter Try.func78, Try.ntmps78
    go_wp2
    go_loop [24] (fun i => i = .int .i64 0) (fun _ => 0)
    case atStart => rfl
    case round =>
      subst hrel
      go_wp2
      go_ret
      exact ⟨rfl, HB.out _⟩
end Go.Proofs.Ytalbiekleggkoaa
