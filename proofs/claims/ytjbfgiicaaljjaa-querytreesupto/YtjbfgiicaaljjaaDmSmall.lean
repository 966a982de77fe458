/-
  The tree's small functions: what there is, and where.
-/
import Derived.Test.YtjbfgiicaaljjaaDmBase
namespace Go.Proofs.Ytjbfgiicaaljjaa
open Go.RowKit

section
variable (t B g cap : Nat) (cs : List Cel) (w : World)

set_option maxRecDepth 100000 in
set_option maxHeartbeats 1000000 in
theorem has_in (n : Nat) (hT : TreeAt w t B g cap cs) (hn : n < cs.length) :
    Calls Try.prog 47 #[.pointer (some ⟨t, 0, none⟩), .int .i64 (n : Int)] w fun e w' => e = .returned (.bool true) ∧ w' = w := by
  have c0 := hT.c0
  have hI : (n : Int) < (cs.length : Int) := by omega
  have h0 : (0 : Int) ≤ (n : Int) := by omega
  clear hT hn
  go_enter Try.func47, Try.ntmps47
  go_wp2
  go_ret
  exact ⟨rfl, rfl⟩

set_option maxRecDepth 100000 in
set_option maxHeartbeats 1000000 in
theorem movable_in (n : Nat) (hT : TreeAt w t B g cap cs) (hn : n < cs.length) (h0 : 0 < n) :
    Calls Try.prog 64 #[.pointer (some ⟨t, 0, none⟩), .int .i64 (n : Int)] w fun e w' => e = .returned (.bool true) ∧ w' = w := by
  have HH : Hid _ := has_in t B g cap cs w n hT hn
  have hb : ((n : Int) == 0) = false := by rw [beq_eq_false_iff_ne]; omega
  have hz : ¬ n = 0 := by omega
  clear hT hn h0
  go_enter Try.func64, Try.ntmps64
  go_wp2_with fail
  refine Calls.mono HH.out ?_
  rintro e w1 ⟨rfl, rfl⟩
  go_wp2
  go_ret
  exact ⟨by simp [hz], rfl⟩

set_option maxRecDepth 100000 in
set_option maxHeartbeats 1000000 in
theorem mayHave_in (n : Nat) (c : Cel) (hT : TreeAt w t B g cap cs) (hn : cs[n]? = some c) (hk : c.kind = 0 ∨ c.kind = 2) :
    Calls Try.prog 83 #[.pointer (some ⟨t, 0, none⟩), .int .i64 (n : Int)] w fun e w' => e = .returned (.bool true) ∧ w' = w := by
  have hlt := (List.getElem?_eq_some_iff.1 hn).1
  have HH : Hid _ := has_in t B g cap cs w n hT hlt
  have c0 := hT.c0
  have ck : w.cell? ⟨g, n * 10 + 0, none⟩ = some (.int .i64 c.kind) := hT.at hn rfl
  rw [Nat.add_zero] at ck
  have hI : (n : Int) < (cs.length : Int) := by omega
  clear hT hn hlt
  rcases hk with hk | hk
  all_goals
    rw [hk] at ck
    go_enter Try.func83, Try.ntmps83
    go_wp2_with fail
    refine Calls.mono HH.out ?_
    rintro e w1 ⟨rfl, rfl⟩
    go_wp2
    go_ret
    exact ⟨rfl, rfl⟩

set_option maxRecDepth 100000 in
set_option maxHeartbeats 1000000 in
theorem isPlace_end (n : Nat) (c : Cel) (hT : TreeAt w t B g cap cs) (hn : cs[n]? = some c) (hk : c.kind = 0 ∨ c.kind = 2) :
    Calls Try.prog 65 #[.pointer (some ⟨t, 0, none⟩), .int .i64 (n : Int), .int .i64 (-1)] w fun e w' => e = .returned (.bool true) ∧ w' = w := by
  have HH : Hid _ := mayHave_in t B g cap cs w n c hT hn hk
  clear hT hn hk
  go_enter Try.func65, Try.ntmps65
  go_wp2_with fail
  refine Calls.mono HH.out ?_
  rintro e w1 ⟨rfl, rfl⟩
  go_wp2
  go_ret
  exact ⟨rfl, rfl⟩

set_option maxRecDepth 100000 in
set_option maxHeartbeats 1000000 in
theorem index_end (n : Nat) (c : Cel) (a : Option Addr) (k kc : Nat) (hT : TreeAt w t B g cap cs) (hn : cs[n]? = some c) (hk : c.kids = .slice a k kc) :
    Calls Try.prog 69 #[.pointer (some ⟨t, 0, none⟩), .int .i64 (n : Int), .int .i64 (-1)] w fun e w' => e = .returned (.int .i64 (k : Int)) ∧ w' = w := by
  have hlt := (List.getElem?_eq_some_iff.1 hn).1
  have c0 := hT.c0
  have ck : w.cell? ⟨g, n * 10 + 9, none⟩ = some (.slice a k kc) := by rw [← hk]; exact hT.at hn rfl
  have hI : (n : Int) < (cs.length : Int) := by omega
  clear hT hn hlt
  go_enter Try.func69, Try.ntmps69
  go_wp2
  go_ret
  exact ⟨rfl, rfl⟩

set_option maxRecDepth 100000 in
set_option maxHeartbeats 1000000 in
/-- A node without kids is in no other one. -/
theorem isIn_bare (n m : Nat) (c : Cel) (a : Option Addr) (kc : Nat) (hT : TreeAt w t B g cap cs) (hn : cs[m]? = some c) (hk : c.kids = .slice a 0 kc) (hne : n ≠ m) :
    Calls Try.prog 66 #[.pointer (some ⟨t, 0, none⟩), .int .i64 (n : Int), .int .i64 (m : Int)] w fun e w' => e = .returned (.bool false) ∧ w' = w := by
  have hlt := (List.getElem?_eq_some_iff.1 hn).1
  have c0 := hT.c0
  have ck : w.cell? ⟨g, m * 10 + 9, none⟩ = some (.slice a 0 kc) := by rw [← hk]; exact hT.at hn rfl
  have hI : (m : Int) < (cs.length : Int) := by omega
  have hb : ((n : Int) == (m : Int)) = false := by rw [beq_eq_false_iff_ne]; omega
  clear hT hn hlt hne
  go_enter Try.func66, Try.ntmps66
  go_wp2
  go_ret
  exact ⟨by simp, rfl⟩

set_option maxRecDepth 100000 in
set_option maxHeartbeats 1000000 in
theorem isText_in (n : Nat) (c : Cel) (hT : TreeAt w t B g cap cs) (hn : cs[n]? = some c) :
    Calls Try.prog 81 #[.pointer (some ⟨t, 0, none⟩), .int .i64 (n : Int)] w fun e w' => e = .returned (.bool (c.kind == 3)) ∧ w' = w := by
  have hlt := (List.getElem?_eq_some_iff.1 hn).1
  have c0 := hT.c0
  have ck : w.cell? ⟨g, n * 10 + 0, none⟩ = some (.int .i64 c.kind) := hT.at hn rfl
  rw [Nat.add_zero] at ck
  have hI : (n : Int) < (cs.length : Int) := by omega
  clear hT hn hlt
  generalize c.kind = kk at ck
  by_cases hk : kk = 3
  · subst hk
    go_enter Try.func81, Try.ntmps81
    go_wp2
    go_ret
    exact ⟨rfl, rfl⟩
  · have hb : (kk == 3) = false := by simpa using hk
    rw [hb]
    clear hk
    go_enter Try.func81, Try.ntmps81
    go_wp2
    go_ret
    exact ⟨by simp, rfl⟩

set_option maxRecDepth 100000 in
set_option maxHeartbeats 1000000 in
/-- What stands nowhere is taken from nowhere. -/
theorem takeAway_none (n : Nat) (c : Cel) (hT : TreeAt w t B g cap cs) (hn : cs[n]? = some c) (hp : c.parent = -1) :
    Calls Try.prog 67 #[.pointer (some ⟨t, 0, none⟩), .int .i64 (n : Int)] w fun e w' => e = .returned (.tuple #[]) ∧ Below w.heap.size w w' := by
  have hlt := (List.getElem?_eq_some_iff.1 hn).1
  have HB : Hid (∀ o, Below w.heap.size w (w.alloc o)) := fun o => (Below.refl _ _).alloc (Nat.le_refl _) o
  have c0 := hT.c0
  have cp : w.cell? ⟨g, n * 10 + 7, none⟩ = some (.int .i64 (-1)) := by rw [← hp]; exact hT.at hn rfl
  have d0 : ∀ o, (w.alloc o).cell? ⟨t, 0, none⟩ = some (.slice (some ⟨g, 0, none⟩) cs.length cap) := fun o => (hT.below (HB.out o)).c0
  have dp : ∀ o, (w.alloc o).cell? ⟨g, n * 10 + 7, none⟩ = some (.int .i64 (-1)) := fun o => by rw [← hp]; exact (hT.below (HB.out o)).at hn rfl
  have hI : (n : Int) < (cs.length : Int) := by omega
  clear hT hn hlt hp
  go_enter Try.func67, Try.ntmps67
  go_wp2
  exact bodyPost_ret (v := .tuple #[]) (by simp [results, Try.results67, go_sem]) rfl ⟨rfl, HB.out _⟩
end

-- (function 23)
set_option maxRecDepth 100000 in
set_option maxHeartbeats 1000000 in
theorem len_in (t B g cap : Nat) (cs : List Cel) (w : World) (hT : TreeAt w t B g cap cs) :
    Calls Try.prog 27 #[.pointer (some ⟨t, 0, none⟩)] w fun e w' => e = .returned (.int .i64 (cs.length : Int)) ∧ w' = w := by
  have c0 := hT.c0
  clear hT
  go_enter Try.func27, Try.ntmps27
  go_wp2
  go_ret
  exact ⟨rfl, rfl⟩

def scalarI (v : Int) : Bool := decide (0 ≤ v) && decide (v ≤ 1114111) && (decide (v < 55296) || decide (57343 < v))
set_option maxRecDepth 100000 in
set_option maxHeartbeats 1000000 in
theorem isScalar_any (v : Int) (w : World) :
    Calls Try.prog 80 #[.int .i64 v] w fun e w' => e = .returned (.bool (scalarI v)) ∧ w' = w := by
  unfold scalarI
  go_enter Try.func80, Try.ntmps80
  go_wp2
  all_goals go_ret
  all_goals exact ⟨by first | (simp [*]; done) | (simp [*]; omega), rfl⟩
end Go.Proofs.Ytjbfgiicaaljjaa
