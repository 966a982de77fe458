/-
  A scalar is written as text.
-/
import Derived.Test.YtopecjchflknbaaDmApp
namespace Go.Proofs.Ytopecjchflknbaa
open Go.RowKit

/-- A text has grown. -/
structure GrewP (w : World) (t B g cap : Nat) (cs : List Cel) (m : Nat) (cm : Cel) (n : Nat) (xs : List Value) (v : Int) (w' : World) : Prop where
  tree : ∃ u, TreeAt w' t B g cap (cs.set m { cm with more := u }) ∧ w'.ownsRow B 5 1 u (n + (Lib.runeCells v).length) (xs ++ Lib.runeCells v)
  kept : Kept (fun k => k = g ∨ cm.more.ownBlock = some k) w w'

theorem grew_of {w w1 : World} {t B g cap : Nat} {cs : List Cel} {m : Nat} {cm : Cel} {n : Nat} {xs : List Value} {v : Int} {a : Option Addr} {k c : Nat} (hT : TreeAt w t B g cap cs) (hm : cs[m]? = some cm) (hO : w.ownsRow B 5 1 cm.more n xs) (hO1 : w1.ownsRow B 5 1 (.slice a k c) (n + (Lib.runeCells v).length) (xs ++ Lib.runeCells v)) (hg : w.grownBy w1 cm.more.ownBlock) :
    TreeAt w1 t B g cap cs ∧ GrewP w t B g cap cs m cm n xs v (w1.setCell ⟨g, m * 10 + 5, none⟩ (.slice a k c)) := by
  have k1 : Kept (fun k => cm.more.ownBlock = some k) w w1 := Kept.grown hg (fun k e => e)
  have hT1 := hT.kept k1 (fun e => hT.off hO (by decide) e) (fun e => by
    rcases owns_apart hO hT.own (by decide) with h | h
    · rw [h] at e; cases e
    · exact h e)
  refine ⟨hT1, ⟨⟨_, hT1.set (c := cm) (c' := { cm with more := .slice a k c }) hm (by omega) rfl, ?_⟩, ?_⟩⟩
  · exact owns_kept (out := fun k => k = g) hO1 ((Kept.refl (fun k => k = g) w1).store ⟨g, m * 10 + 5, none⟩ rfl _) (by
      intro k e hk
      subst hk
      rcases owns_apart hO1 hT1.own (by decide) with h | h
      · rw [h] at e; cases e
      · exact h e)
  · exact (k1.mono (fun k _ e => .inr e)).store ⟨g, m * 10 + 5, none⟩ (.inl rfl) _

theorem own_form {w : World} {B : Nat} {e : TypeId} {sz n : Nat} {v : Value} {xs : List Value} (h : w.ownsRow B e sz v n xs) : ∃ a c, v = .slice a n c := by
  rcases h.2 with ⟨h1, h2⟩ | ⟨g1, c1, _, h1, _⟩
  · exact ⟨none, 0, by rw [h1, h2]⟩
  · exact ⟨_, c1, h1⟩

set_option maxRecDepth 100000 in
set_option maxHeartbeats 4000000 in
theorem write_more (t B g cap : Nat) (cs : List Cel) (p m : Nat) (cp cm : Cel) (ks : List Nat) (n : Nat) (xs : List Value) (v at' : Int) (w : World) (hT : TreeAt w t B g cap cs) (hp : cs[p]? = some cp) (hm : cs[m]? = some cm) (hk : cp.kind = 0 ∨ cp.kind = 2) (hm3 : cm.kind = 3) (hv : scalarI v = true) (hO : w.ownsRow B 3 1 cp.kids (ks ++ [m]).length (intC (ks ++ [m]))) (hM : w.ownsRow B 5 1 cm.more n xs) (hn : n + 4 ≤ 140737488355328) (hks : ks.length ≤ 1000000) :
    Calls Try.prog 23 #[.pointer (some ⟨t, 0, none⟩), .int .i64 v, .int .i64 at', .int .i64 (p : Int), .int .i64 (-1)] w fun e w' => e = .returned (.int .i64 0) ∧ GrewP w t B g cap cs m cm n xs v w' := by
  have hpl := (List.getElem?_eq_some_iff.1 hp).1
  have hml := (List.getElem?_eq_some_iff.1 hm).1
  have hv2 : 0 ≤ v ∧ v ≤ 1114111 := by
    unfold scalarI at hv
    simp only [Bool.and_eq_true, decide_eq_true_eq] at hv
    exact ⟨hv.1.1, hv.1.2⟩
  obtain ⟨kb, kc, hkf⟩ := Joins.ownsRow_form hO (by simp)
  rw [List.length_append] at hkf
  replace hkf : cp.kids = .slice (some ⟨kb, 0, none⟩) (ks.length + 1) kc := hkf
  have ci : w.cell? ⟨kb, ks.length, none⟩ = some (.int .i64 (m : Int)) := by
    rw [hkf] at hO
    refine owns_at (n := (ks ++ [m]).length) (by rw [List.length_append]; rw [List.length_append] at hO; exact hO) _ _ ?_
    simp [intC]
  obtain ⟨ma, mc, hmf⟩ := own_form hM
  have H1 : Hid _ := isPlace_end t B g cap cs w p cp hT hp hk
  have H2 : Hid (∀ w, _) := fun w => isScalar_any v w
  rw [hv] at H2
  have H3 : Hid _ := index_end t B g cap cs w p cp (some ⟨kb, 0, none⟩) (ks.length + 1) kc hT hp hkf
  have H4 : Hid _ := isText_in t B g cap cs w m cm hT hm
  rw [show (cm.kind == 3) = true by rw [hm3]; rfl] at H4
  have H5 : Hid (∀ w1, (∃ q, w1 = w.drewN q) → Calls Try.prog 53 #[.slice ma n mc, .int .i32 v] w1 fun e w' => ∃ a k c, e = .returned (.slice a k c) ∧ w'.cell? ⟨g, m * 10 + 5, none⟩ = some (.slice ma n mc) ∧ w'.frozen? ⟨g, m * 10 + 5, none⟩ = false ∧ Hid (GrewP w t B g cap cs m cm n xs v (w'.setCell ⟨g, m * 10 + 5, none⟩ (.slice a k c)))) := by
    rintro w1 ⟨q, rfl⟩
    rw [← hmf]
    refine (appendRune_any B cm.more n xs v hv2.1 (by omega) (w.drewN q) hM hn hT.le).mono ?_
    rintro e w' ⟨v', rfl, ho, hg⟩
    obtain ⟨a, c, rfl⟩ := own_form ho
    have hg' : w.grownBy w' cm.more.ownBlock := ⟨hg.os, hg.tape, hg.output, hg.size, hg.block⟩
    obtain ⟨h1, h2⟩ := grew_of (v := v) hT hm hM ho hg'
    exact ⟨a, _, c, rfl, h1.at hm rfl, h1.fz _, h2⟩
  have c0 := hT.c0
  have c9 : w.cell? ⟨g, p * 10 + 9, none⟩ = some (.slice (some ⟨kb, 0, none⟩) (ks.length + 1) kc) := by rw [← hkf]; exact hT.at hp rfl
  have c5 : w.cell? ⟨g, m * 10 + 5, none⟩ = some (.slice ma n mc) := by rw [← hmf]; exact hT.at hm rfl
  have hpI : (p : Int) < (cs.length : Int) := by omega
  have hmI : (m : Int) < (cs.length : Int) := by omega
  have hw32 : IntKind.i32.wrap v = v := by simp [IntKind.wrap, IntKind.bits, IntKind.signed]; omega
  have hz : (((ks.length : Int) + 1) == 0) = false := by rw [beq_eq_false_iff_ne]; omega
  clear hT hp hm hk hm3 hv hO hM hn hpl hml hv2 hkf hmf
  go_enter Try.func23, Try.ntmps23
  go_wp2_with fail
  refine Calls.mono H1.out ?_
  rintro e w1 ⟨rfl, hw1⟩
  subst hw1
  go_wp2_with fail
  refine Calls.mono (H2.out _) ?_
  rintro e w2 ⟨rfl, hw2⟩
  subst hw2
  go_wp2_with fail
  refine Calls.mono H3.out ?_
  rintro e w3 ⟨rfl, hw3⟩
  subst hw3
  go_wp2_with fail
  refine Calls.mono H4.out ?_
  rintro e w4 ⟨rfl, hw4⟩
  subst hw4
  go_upto_region 7 with fail
  go_quiet (fail)
  go_wp2_with fail
  refine Calls.mono (H5.out _ ⟨_, rfl⟩) ?_
  rintro e w5 ⟨a, k, c, rfl, d5, f5, hG⟩
  clear H1 H2 H3 H4 H5 c0 c9 c5 ci
  go_wp2
  go_ret
  exact ⟨rfl, hG.out⟩
end Go.Proofs.Ytopecjchflknbaa
