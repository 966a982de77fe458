/-
  The kids of a node, anew.
-/
import Derived.Test.YtjbfgiicaaljjaaDmGetA
namespace Go.Proofs.Ytjbfgiicaaljjaa
open Go.RowKit

theorem ints_lit (w : World) : (w.alloc (.cells #[] 3)).ownsRow w.heap.size 3 1 (.slice (some ⟨w.heap.size, 0, none⟩) 0 0) 0 ([] : List Value) :=
  World.ownsRow_lit w _ 0 (Nat.le_refl _) (by unfold maxLen; omega) rfl

set_option maxRecDepth 100000 in
set_option maxHeartbeats 1000000 in
theorem cloneInts_any (B : Nat) (v : Value) (ks : List Nat) (w : World) (h : w.ownsRow B 3 1 v ks.length (intC ks)) (hlen : ks.length ≤ 1000000) :
    Calls Try.prog 51 #[v] w fun e w' => ∃ v', e = .returned v' ∧ w'.ownsRow w.heap.size 3 1 v' ks.length (intC ks) ∧ Below w.heap.size w w' := by
  obtain ⟨i0, hi, hz0, hz1, hz2⟩ := info_parts Try.infoInt
  have hq : ∀ (a : Option Addr) (n c : Nat) (w : World), (binOp .eql 30 (.slice a n c) (.slice none 0 0)).run Try.prog w = .ok (.bool a.isNone) w := fun a n c w => Lib.run_eql_slice_nil w _ _ a n c 0 0 Try.underlying30
  have hform : (v = .slice none 0 0 ∧ ks.length = 0) ∨ ∃ g cap, v = .slice (some ⟨g, 0, none⟩) ks.length cap ∧ ks.length ≤ cap := by
    rcases h.2 with ⟨h1, h2⟩ | ⟨g, cap, cur, h1, _, _, h2, _⟩
    · exact .inl ⟨h1, h2⟩
    · exact .inr ⟨g, cap, h1, h2⟩
  rcases hform with ⟨rfl, h0⟩ | ⟨g, cap, rfl, hcap⟩
  · obtain rfl : ks = [] := List.length_eq_zero_iff.1 h0
    clear h0 h
    go_enter Try.func51, Try.ntmps51
    go_wp2
    go_ret
    exact ⟨_, rfl, World.ownsRow_nil _ _ _ _, Below.refl _ _⟩
  · have HB : Hid (Below w.heap.size w (w.alloc (.cells #[] 3))) := (Below.refl _ _).alloc (Nat.le_refl _) _
    have HC : Hid (∀ j u, (intC ks)[j]? = some u → (w.alloc (.cells #[] 3)).cell? ((⟨g, 0, none⟩ : Addr).add j) = some u) := fun j u hj => (owns_kept (out := fun _ => False) h (Kept.below HB.out) (fun _ _ e => e)).cells rfl j u hj
    have hI : (ks.length : Int) ≤ (cap : Int) := by omega
    clear h hcap
    go_enter Try.func51, Try.ntmps51
    go_wp2_with (at_builtin; refine wpList_append_own _ rfl _ _ 30 rfl w.heap.size 3 i0 (.int .i64 0) 1 8 Try.underlying30 hi hz0 hz1 hz2 rfl (by decide) _ 0 _ rfl (ints_lit w) ⟨g, 0, none⟩ ks.length cap (intC ks) rfl (by simp [intC]) HC.out (by intro u hu; simp only [intC, List.mem_map] at hu; obtain ⟨k, _, rfl⟩ := hu; rfl) (by unfold maxLen; omega) (by omega) (by simp) ?_)
    intro v' w' hown' hgrow _
    have hX : w'.ownsRow w.heap.size 3 1 v' ks.length (intC ks) := by simpa using hown'
    have HW : Hid _ := hX
    have HG : Hid (Below w.heap.size w w') := HB.out.grown hgrow (by simp) (fun k hk => by simp [Value.ownBlock] at hk; omega)
    have hf : ∃ a' c', v' = .slice a' ks.length c' := by
      rcases hX.2 with ⟨h1, h2⟩ | ⟨g', cap', cur, h1, _⟩
      · exact ⟨none, 0, by rw [h1, h2]⟩
      · exact ⟨_, _, h1⟩
    obtain ⟨a', c', rfl⟩ := hf
    clear hown' hgrow hX
    go_wp2
    go_ret
    exact ⟨_, rfl, HW.out, HG.out⟩

set_option maxRecDepth 100000 in
set_option maxHeartbeats 1000000 in
theorem kids_in (t B g cap : Nat) (cs : List Cel) (n : Nat) (c : Cel) (ks : List Nat) (w : World) (hT : TreeAt w t B g cap cs) (hn : cs[n]? = some c) (hO : w.ownsRow B 3 1 c.kids ks.length (intC ks)) (hl : ks.length ≤ 1000000) :
    Calls Try.prog 22 #[.pointer (some ⟨t, 0, none⟩), .int .i64 (n : Int)] w fun e w' => ∃ v', e = .returned v' ∧ w'.ownsRow w.heap.size 3 1 v' ks.length (intC ks) ∧ Below w.heap.size w w' := by
  have hlt := (List.getElem?_eq_some_iff.1 hn).1
  have HH : Hid _ := has_in t B g cap cs w n hT hlt
  have HC : Hid _ := cloneInts_any B c.kids ks w hO hl
  have c0 := hT.c0
  have ck : w.cell? ⟨g, n * 10 + 9, none⟩ = some c.kids := hT.at hn rfl
  have hI : (n : Int) < (cs.length : Int) := by omega
  clear hT hn hlt hO
  go_enter Try.func22, Try.ntmps22
  go_wp2_with fail
  refine Calls.mono HH.out ?_
  rintro e w1 ⟨rfl, hw1⟩
  subst hw1
  go_wp2_with fail
  refine Calls.mono HC.out ?_
  rintro e w2 ⟨v', rfl, ho, hb⟩
  have HO : Hid _ := ho
  have HB : Hid _ := hb
  clear ho hb
  go_wp2
  go_ret
  exact ⟨_, rfl, HO.out, HB.out⟩
end Go.Proofs.Ytjbfgiicaaljjaa
