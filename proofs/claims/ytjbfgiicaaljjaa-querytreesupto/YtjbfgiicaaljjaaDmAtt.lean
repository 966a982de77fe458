/-
  Attributes: a row of them, and it cloned.
-/
import Derived.Test.YtjbfgiicaaljjaaDmNew
namespace Go.Proofs.Ytjbfgiicaaljjaa
open Go.RowKit

structure Att where
  name : ByteArray
  value : ByteArray
def attC (a : Att) : List Value := [.string a.name, .string a.value]
theorem attflat_len (l : List Att) : (l.flatMap attC).length = l.length * 2 := by
  induction l with
  | nil => rfl
  | cons a l ih => rw [List.flatMap_cons, List.length_append, ih]; simp [attC]; omega
theorem att_one (l : List Att) : ∀ u ∈ l.flatMap attC, u.oneCell' = true := by
  intro u hu
  simp only [List.mem_flatMap, attC, List.mem_cons, List.not_mem_nil, or_false] at hu
  obtain ⟨a, _, rfl | rfl⟩ := hu <;> rfl
theorem att_at : ∀ (l : List Att) (i : Nat) (a : Att), l[i]? = some a → (l.flatMap attC)[i * 2]? = some (.string a.name) ∧ (l.flatMap attC)[i * 2 + 1]? = some (.string a.value)
  | [], i, a, h => by cases h
  | b :: l, 0, a, h => by
    obtain rfl : b = a := by simpa using h
    exact ⟨rfl, rfl⟩
  | b :: l, i + 1, a, h => by
    have ih := att_at l i a (by simpa using h)
    rw [List.flatMap_cons, show attC b = [.string b.name, .string b.value] from rfl, show (i + 1) * 2 = i * 2 + 1 + 1 by omega, show i * 2 + 1 + 1 + 1 = (i * 2 + 1) + 1 + 1 by omega]
    simpa using ih
theorem Try.infoAtt : (Try.prog.info? 67).map (fun i => (i.zero, i.size, i.bytes)) = some (some (.agg #[.string ⟨#[]⟩, .string ⟨#[]⟩]), 2, 32) := by kernel_rfl

theorem atts_lit (w : World) : (w.alloc (.cells #[] 67)).ownsRow w.heap.size 67 2 (.slice (some ⟨w.heap.size, 0, none⟩) 0 0) 0 [] :=
  ⟨rfl, .inr ⟨w.heap.size, 0, #[], rfl, Nat.le_refl _, heap_alloc_new w _, Nat.le_refl _, by unfold maxLen; omega, rfl, rfl⟩⟩

set_option maxRecDepth 100000 in
set_option maxHeartbeats 4000000 in
theorem cloneA_any (a : Option Addr) (n cap : Nat) (l : List Att) (w : World) (hn : n = l.length) (hs : ∀ j u, (l.flatMap attC)[j]? = some u → ∃ a0, a = some a0 ∧ w.cell? (a0.add j) = some u) (hlen : l.length ≤ 1000000) (hcap : n ≤ cap) :
    Calls Try.prog 70 #[.slice a n cap] w fun e w' => ∃ a' c', e = .returned (.slice a' n c') ∧ Hid (w'.ownsRow w.heap.size 67 2 (.slice a' n c') l.length (l.flatMap attC) ∧ Below w.heap.size w w') := by
  obtain ⟨i0, hi, hz0, hz1, hz2⟩ := info_parts Try.infoAtt
  subst hn
  have hq : ∀ (a : Option Addr) (n c : Nat) (w : World), (binOp .eql 45 (.slice a n c) (.slice none 0 0)).run Try.prog w = .ok (.bool a.isNone) w := fun a n c w => Lib.run_eql_slice_nil w _ _ a n c 0 0 Try.underlying45
  cases a with
  | none =>
    have h0 : l = [] := by
      cases l with
      | nil => rfl
      | cons x l =>
        obtain ⟨a0, e, _⟩ := hs 0 (.string x.name) rfl
        cases e
    subst h0
    clear hs hcap
    go_enter Try.func70, Try.ntmps70
    go_wp2
    go_ret
    exact ⟨_, _, rfl, World.ownsRow_nil _ _ _ _, Below.refl _ _⟩
  | some a0 =>
    have HB : Hid (Below w.heap.size w (w.alloc (.cells #[] 67))) := (Below.refl _ _).alloc (Nat.le_refl _) _
    have HC : Hid (∀ j u, (l.flatMap attC)[j]? = some u → (w.alloc (.cells #[] 67)).cell? (a0.add j) = some u) := fun j u hj => by
      obtain ⟨a1, e, hc⟩ := hs j u hj
      injection e with e
      subst e
      exact (HB.out.cell (World.block_lt_of_cell? _ _ hc)).trans hc
    have hI : (l.length : Int) ≤ (cap : Int) := by omega
    have HL : Hid ((l.flatMap attC).length = l.length * 2) := attflat_len l
    have HO : Hid _ := att_one l
    clear hs hcap
    go_enter Try.func70, Try.ntmps70
    go_wp2_with (at_builtin; refine wpList_append_own _ rfl _ _ 45 rfl w.heap.size 67 i0 (.agg #[.string ⟨#[]⟩, .string ⟨#[]⟩]) 2 32 Try.underlying45 hi hz0 hz1 hz2 rfl (by decide) _ 0 _ rfl (atts_lit w) a0 l.length cap (l.flatMap attC) rfl HL.out HC.out HO.out (by unfold maxLen; omega) (by omega) (by simp) ?_)
    intro v' w' hown' hgrow _
    have hX : w'.ownsRow w.heap.size 67 2 v' l.length (l.flatMap attC) := by simpa using hown'
    have HG : Hid (Below w.heap.size w w') := HB.out.grown hgrow (by simp) (fun k hk => by simp [Value.ownBlock] at hk; omega)
    have hf : ∃ a' c', v' = .slice a' l.length c' := by
      rcases hX.2 with ⟨h1, h2⟩ | ⟨g', cap', cur, h1, _⟩
      · exact ⟨none, 0, by rw [h1, h2]⟩
      · exact ⟨_, _, h1⟩
    obtain ⟨a', c', rfl⟩ := hf
    have HW : Hid _ := hX
    clear hown' hgrow hX
    go_wp2
    go_ret
    exact ⟨_, _, rfl, HW.out, HG.out⟩

/-- Of a row that is owned. -/
theorem cloneA_row (B : Nat) (a : Option Addr) (n cap : Nat) (l : List Att) (w : World) (h : w.ownsRow B 67 2 (.slice a n cap) n (l.flatMap attC)) (hlen : l.length ≤ 1000000) :
    n = l.length ∧ Calls Try.prog 70 #[.slice a n cap] w fun e w' => ∃ a' c', e = .returned (.slice a' n c') ∧ Hid (w'.ownsRow w.heap.size 67 2 (.slice a' n c') l.length (l.flatMap attC) ∧ Below w.heap.size w w') := by
  have hn : n = l.length := by
    have := h.1
    rw [attflat_len] at this
    omega
  refine ⟨hn, ?_⟩
  refine cloneA_any a n cap l w hn (fun j u hj => ?_) hlen ?_
  · rcases h.2 with ⟨hv, h0⟩ | ⟨g, cp, cur, hv, _⟩
    · have : l = [] := List.length_eq_zero_iff.1 (by omega)
      subst this
      cases hj
    · injection hv with h1 h2 h3
      subst h1
      exact ⟨_, rfl, h.cells rfl j u hj⟩
  · rcases h.2 with ⟨hv, h0⟩ | ⟨g, cp, cur, hv, _, _, hc, _⟩
    · injection hv with h1 h2 h3
      omega
    · injection hv with h1 h2 h3
      omega
end Go.Proofs.Ytjbfgiicaaljjaa
