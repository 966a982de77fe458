/-
  The lexer's small functions: what stands next, and passing over it.
-/
import Derived.Test.YtgdjknbbjpcoiaaGreatDoorLxBase
namespace Go.Proofs.YtgdjknbbjpcoiaaGreatDoor
open Go.RowKit

set_option maxHeartbeats 1000000 in
theorem endsName_any (c : Int) (w : World) : Calls Tryz.prog 145 #[.int .i64 c] w fun e w' => e = .returned (.bool (endsI c)) ∧ w' = w := by
  have HB : Hid _ := isBlank_any c w
  unfold endsI
  cases hb : blankI c
  · rw [hb] at HB
    by_cases h1 : c = 47
    · subst h1
      go_enter Tryz.func145, Tryz.ntmps145
      go_wp2_with fail
      refine Calls.mono HB.out ?_
      rintro e w1 ⟨rfl, rfl⟩
      go_wp2
      go_ret
      exact ⟨rfl, rfl⟩
    · have h1b : (c == 47) = false := by simpa using h1
      rw [h1b]
      clear h1
      go_enter Tryz.func145, Tryz.ntmps145
      go_wp2_with fail
      refine Calls.mono HB.out ?_
      rintro e w1 ⟨rfl, rfl⟩
      go_wp2
      go_ret
      exact ⟨by simp, rfl⟩
  · rw [hb] at HB
    go_enter Tryz.func145, Tryz.ntmps145
    go_wp2_with fail
    refine Calls.mono HB.out ?_
    rintro e w1 ⟨rfl, rfl⟩
    go_wp2
    go_ret
    exact ⟨rfl, rfl⟩

/-- A scalar that stands next. -/
structure NextIs (w : World) (cs : List Value) (g o n cap pos : Nat) (c a : Int) : Prop where
  rs : cs[0]? = some (.slice (some ⟨g, o, none⟩) n cap)
  ps : cs[1]? = some (.int .i64 (pos : Int))
  lt : pos < n
  le : n ≤ 4611686018427387904
  cv : w.cell? ⟨g, o + pos * 2, none⟩ = some (.int .i64 c)
  ca : w.cell? ⟨g, o + pos * 2 + 1, none⟩ = some (.int .i64 a)

theorem drewN_two (w : World) (a b : Nat) : ∃ q, (w.drewN a).drewN b = w.drewN q := ⟨a + b, by simp⟩

set_option maxRecDepth 100000 in
set_option maxHeartbeats 1000000 in
theorem peek_any (l : Nat) (cs : List Value) (g o n cap pos : Nat) (c a : Int) (w : World) (hL : LexAt w l cs) (hN : NextIs w cs g o n cap pos c a) :
    Calls Tryz.prog 60 #[.pointer (some ⟨l, 0, none⟩)] w fun e w' => e = .returned (.tuple #[.int .i64 c, .bool true]) ∧ ∃ q, w' = w.drewN q := by
  have c0 := hL.c 0 _ hN.rs
  have c1 := hL.c 1 _ hN.ps
  have cv := hN.cv
  have hlt := hN.lt
  have hle := hN.le
  have hI : (pos : Int) < (n : Int) := by omega
  have hne : ((pos : Int) == (n : Int)) = false := by rw [beq_eq_false_iff_ne]; omega
  clear hL hN
  go_enter Tryz.func60, Tryz.ntmps60
  go_wp2_with fail
  go_quiet (fail)
  go_wp2_with fail
  go_quiet (fail)
  go_wp2
  go_ret2
  exact ⟨rfl, drewN_two _ _ _⟩

set_option maxRecDepth 100000 in
set_option maxHeartbeats 1000000 in
theorem peek_end (l : Nat) (cs : List Value) (ad : Option Addr) (n cap : Nat) (w : World) (hL : LexAt w l cs) (h0 : cs[0]? = some (.slice ad n cap)) (h1 : cs[1]? = some (.int .i64 (n : Int))) :
    Calls Tryz.prog 60 #[.pointer (some ⟨l, 0, none⟩)] w fun e w' => e = .returned (.tuple #[.int .i64 0, .bool false]) ∧ ∃ q, w' = w.drewN q := by
  have c0 := hL.c 0 _ h0
  have c1 := hL.c 1 _ h1
  clear hL h0 h1
  go_enter Tryz.func60, Tryz.ntmps60
  go_wp2_with fail
  go_quiet (fail)
  go_wp2
  go_ret2
  exact ⟨rfl, _, rfl⟩

set_option maxRecDepth 100000 in
set_option maxHeartbeats 1000000 in
theorem here_any (l : Nat) (cs : List Value) (g o n cap pos : Nat) (c a : Int) (w : World) (hL : LexAt w l cs) (hN : NextIs w cs g o n cap pos c a) :
    Calls Tryz.prog 196 #[.pointer (some ⟨l, 0, none⟩)] w fun e w' => e = .returned (.int .i64 a) ∧ ∃ q, w' = w.drewN q := by
  have c0 := hL.c 0 _ hN.rs
  have c1 := hL.c 1 _ hN.ps
  have ca := hN.ca
  have hlt := hN.lt
  have hle := hN.le
  have hI : (pos : Int) < (n : Int) := by omega
  clear hL hN
  go_enter Tryz.func196, Tryz.ntmps196
  go_wp2_with fail
  go_quiet (fail)
  go_wp2
  go_ret
  exact ⟨rfl, _, rfl⟩

set_option maxRecDepth 100000 in
set_option maxHeartbeats 1000000 in
theorem start_any (l : Nat) (cs : List Value) (g o n cap k : Nat) (a : Int) (w : World) (hL : LexAt w l cs) (h0 : cs[0]? = some (.slice (some ⟨g, o, none⟩) n cap)) (h16 : cs[16]? = some (.int .i64 (k : Int))) (hk : k < n) (ca : w.cell? ⟨g, o + k * 2 + 1, none⟩ = some (.int .i64 a)) :
    Calls Tryz.prog 97 #[.pointer (some ⟨l, 0, none⟩)] w fun e w' => e = .returned (.int .i64 a) ∧ ∃ q, w' = w.drewN q := by
  have c0 := hL.c 0 _ h0
  have c16 := hL.c 16 _ h16
  have hI : (k : Int) < (n : Int) := by omega
  clear hL h0 h16
  go_enter Tryz.func97, Tryz.ntmps97
  go_wp2_with fail
  go_quiet (fail)
  go_wp2
  go_ret
  exact ⟨rfl, _, rfl⟩

set_option maxRecDepth 100000 in
set_option maxHeartbeats 1000000 in
theorem follow_off (l : Nat) (cs : List Value) (c : Int) (w : World) (hL : LexAt w l cs) (h29 : cs[29]? = some (.bool false)) :
    Calls Tryz.prog 95 #[.pointer (some ⟨l, 0, none⟩), .int .i64 c] w fun e w' => e = .returned (.tuple #[]) ∧ w' = w := by
  have c29 := hL.c 29 _ h29
  clear hL h29
  go_enter Tryz.func95, Tryz.ntmps95
  go_wp2
  exact bodyPost_ret (v := .tuple #[]) (by simp [results, Tryz.results95, go_sem]) rfl ⟨rfl, rfl⟩

set_option maxRecDepth 100000 in
set_option maxHeartbeats 1000000 in
theorem take_off (l : Nat) (cs : List Value) (g o n cap pos : Nat) (c a : Int) (w : World) (hL : LexAt w l cs) (hN : NextIs w cs g o n cap pos c a) (h29 : cs[29]? = some (.bool false)) :
    Calls Tryz.prog 62 #[.pointer (some ⟨l, 0, none⟩)] w fun e w' => e = .returned (.tuple #[]) ∧ ∃ q, w' = (w.drewN q).setCell ⟨l, 1, none⟩ (.int .i64 ((pos + 1 : Nat) : Int)) := by
  have HF : Hid (∀ q, _) := fun q => follow_off l cs c (w.drewN q) (hL.draws q) h29
  have c0 := hL.c 0 _ hN.rs
  have c1 := hL.c 1 _ hN.ps
  have f1 := hL.fz 1
  have cv := hN.cv
  have hlt := hN.lt
  have hle := hN.le
  have hI : (pos : Int) < (n : Int) := by omega
  clear hL hN h29
  go_enter Tryz.func62, Tryz.ntmps62
  go_wp2_with fail
  go_quiet ((go_at_call 95; exact Calls.quiet_of_same (HF.out _)))
  go_wp2
  go_end0
  exact ⟨rfl, _, by go_num⟩
end Go.Proofs.YtgdjknbbjpcoiaaGreatDoor
