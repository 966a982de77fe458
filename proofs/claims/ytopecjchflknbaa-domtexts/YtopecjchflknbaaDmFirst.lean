/-
  A scalar is written where no text stands: a new node.
-/
import Derived.Test.YtopecjchflknbaaDmWrite
namespace Go.Proofs.Ytopecjchflknbaa
open Go.RowKit

/-- The new text and its place. -/
def txtCel (at' : Int) (p k : Nat) (u : Value) : Cel := { newCel 3 at' ⟨#[]⟩ ⟨#[]⟩ with parent := (p : Int), ahead := (k : Int), more := u }

/-- A text more. -/
structure FirstP (w : World) (t B g : Nat) (cs : List Cel) (p : Nat) (cp : Cel) (ks : List Nat) (v at' : Int) (w' : World) : Prop where
  tree : ∃ g' cap' kv u, TreeAt w' t B g' cap' ((((cs ++ [newCel 3 at' ⟨#[]⟩ ⟨#[]⟩]).set cs.length (txtCel at' p ks.length (.slice none 0 0))).set p { cp with kids := kv }).set cs.length (txtCel at' p ks.length u)) ∧ w'.ownsRow B 3 1 kv (ks ++ [cs.length]).length (intC (ks ++ [cs.length])) ∧ w'.ownsRow B 5 1 u (Lib.runeCells v).length (Lib.runeCells v) ∧ (g' = g ∨ w.heap.size ≤ g')
  kept : Kept (fun k => k = t ∨ k = g ∨ cp.kids.ownBlock = some k) w w'

set_option maxRecDepth 100000 in
set_option maxHeartbeats 4000000 in
theorem write_first (t B g cap : Nat) (cs : List Cel) (p : Nat) (cp : Cel) (v at' : Int) (w : World) (hT : TreeAt w t B g cap cs) (hp : cs[p]? = some cp) (hk : cp.kind = 0 ∨ cp.kind = 2) (hkn : cp.kids = .slice none 0 0) (hv : scalarI v = true) (hfew : cs.length + 1 ≤ 1000000) :
    Calls Try.prog 23 #[.pointer (some ⟨t, 0, none⟩), .int .i64 v, .int .i64 at', .int .i64 (p : Int), .int .i64 (-1)] w fun e w' => e = .returned (.int .i64 0) ∧ FirstP w t B g cs p cp [] v at' w' := by
  have hpl := (List.getElem?_eq_some_iff.1 hp).1
  have hv2 : 0 ≤ v ∧ v ≤ 1114111 := by
    unfold scalarI at hv
    simp only [Bool.and_eq_true, decide_eq_true_eq] at hv
    exact ⟨hv.1.1, hv.1.2⟩
  have H1 : Hid _ := isPlace_end t B g cap cs w p cp hT hp hk
  have H2 : Hid (∀ w, _) := fun w => isScalar_any v w
  rw [hv] at H2
  have H3 : Hid _ := index_end t B g cap cs w p cp none 0 0 hT hp hkn
  have H4 : Hid _ := make_any t B g cap cs 3 at' ⟨#[]⟩ ⟨#[]⟩ w hT (by decide) (by decide) hfew
  have HT : Hid _ := hT
  have hw32 : IntKind.i32.wrap v = v := by simp [IntKind.wrap, IntKind.bits, IntKind.signed]; omega
  clear hT hk hv
  go_enter Try.func23, Try.ntmps23
  go_wp2_with fail
  refine Calls.mono H1.out ?_
  rintro e w1 ⟨rfl, hw1⟩
  subst hw1
  go_wp2_with fail
  refine Calls.mono (H2.out _) ?_
  rintro e w2 ⟨rfl, hw2⟩
  subst hw2
  go_wp2_with fail
  refine Calls.mono H3.out ?_
  rintro e w3 ⟨rfl, hw3⟩
  subst hw3
  go_wp2_with fail
  refine Calls.mono H4.out ?_
  rintro e w4 ⟨rfl, ⟨g4, cap4, hT4, hg4⟩, hk4⟩
  have hn4 : (cs ++ [newCel 3 at' ⟨#[]⟩ ⟨#[]⟩])[cs.length]? = some (newCel 3 at' ⟨#[]⟩ ⟨#[]⟩) := by simp
  have hp4 : (cs ++ [newCel 3 at' ⟨#[]⟩ ⟨#[]⟩])[p]? = some cp := by rw [List.getElem?_append_left hpl]; exact hp
  have H5 : Hid _ := insert_end t B g4 cap4 _ cs.length p _ cp [] w4 hT4 hn4 hp4 (by omega) (by rw [hkn]; exact World.ownsRow_nil _ _ _ _) (by decide)
  have HK4 : Hid _ := hk4
  have HT4 : Hid _ := hT4
  have HG4 : Hid _ := hg4
  clear H1 H2 H3 H4 hT4 hk4 hn4 hp4
  go_wp2_with fail
  refine Calls.mono H5.out ?_
  rintro e w5 ⟨rfl, ⟨kv, hT5, hO5, hl5⟩, hk5⟩
  obtain ⟨kb, kc, rfl⟩ := Joins.ownsRow_form hO5 (by simp)
  have hpc : p ≠ cs.length := by omega
  have hL5 : ((((cs ++ [newCel 3 at' ⟨#[]⟩ ⟨#[]⟩]).set cs.length (txtCel at' p 0 (.slice none 0 0))).set p { cp with kids := .slice (some ⟨kb, 0, none⟩) 1 kc })).length = cs.length + 1 := by simp
  have hn5 : (((cs ++ [newCel 3 at' ⟨#[]⟩ ⟨#[]⟩]).set cs.length (txtCel at' p 0 (.slice none 0 0))).set p { cp with kids := .slice (some ⟨kb, 0, none⟩) 1 kc })[cs.length]? = some (txtCel at' p 0 (.slice none 0 0)) := by
    rw [List.getElem?_set_ne hpc, List.getElem?_set_self (by simp)]
  have hp5 : (((cs ++ [newCel 3 at' ⟨#[]⟩ ⟨#[]⟩]).set cs.length (txtCel at' p 0 (.slice none 0 0))).set p { cp with kids := .slice (some ⟨kb, 0, none⟩) 1 kc })[p]? = some { cp with kids := .slice (some ⟨kb, 0, none⟩) 1 kc } := by
    rw [List.getElem?_set_self (by simp; omega)]
  replace hT5 : TreeAt w5 t B g4 cap4 (((cs ++ [newCel 3 at' ⟨#[]⟩ ⟨#[]⟩]).set cs.length (txtCel at' p 0 (.slice none 0 0))).set p { cp with kids := .slice (some ⟨kb, 0, none⟩) 1 kc }) := hT5
  have c0 := hT5.c0
  rw [hL5] at c0
  have c9 : w5.cell? ⟨g4, p * 10 + 9, none⟩ = some (.slice (some ⟨kb, 0, none⟩) 1 kc) := hT5.at hp5 rfl
  have c5 : w5.cell? ⟨g4, cs.length * 10 + 5, none⟩ = some (.slice none 0 0) := hT5.at hn5 rfl
  have ci : w5.cell? ⟨kb, 0, none⟩ = some (.int .i64 (cs.length : Int)) := owns_at (n := 1) (e := 3) (sz := 1) (xs := intC ([] ++ [cs.length])) hO5 0 _ rfl
  have H6 : Hid (∀ w6, (∃ q, w6 = w5.drewN q) → Calls Try.prog 53 #[.slice none 0 0, .int .i32 v] w6 fun e w' => ∃ a k c, e = .returned (.slice a k c) ∧ w'.cell? ⟨g4, cs.length * 10 + 5, none⟩ = some (.slice none 0 0) ∧ w'.frozen? ⟨g4, cs.length * 10 + 5, none⟩ = false ∧ Hid (FirstP w3 t B g cs p cp [] v at' (w'.setCell ⟨g4, cs.length * 10 + 5, none⟩ (.slice a k c)))) := by
    rintro w6 ⟨q, rfl⟩
    refine (appendRune_any B (.slice none 0 0) 0 [] v hv2.1 (by omega) (w5.drewN q) (World.ownsRow_nil _ _ _ _) (by decide) hT5.le).mono ?_
    rintro e w' ⟨v', rfl, ho, hg⟩
    obtain ⟨a, c, rfl⟩ := own_form ho
    have hg' : w5.grownBy w' (Value.slice none 0 0).ownBlock := ⟨hg.os, hg.tape, hg.output, hg.size, hg.block⟩
    obtain ⟨h1, ⟨u, h2, h3⟩, h4⟩ := grew_of (v := v) hT5 hn5 (World.ownsRow_nil _ _ _ _) ho hg'
    refine ⟨a, _, c, rfl, h1.at hn5 rfl, h1.fz _, ?_⟩
    have hs4 := HK4.out.size
    have hs5 := hk5.size
    refine ⟨⟨g4, cap4, _, u, h2, ?_, ?_, HG4.out⟩, ?_⟩
    · refine owns_kept hO5 h4 ?_
      intro j e hj
      rcases hj with hj | hj
      · subst hj
        rcases owns_apart hO5 hT5.own (by decide) with h | h
        · exact absurd (show (none : Option Nat) = some j from h.symm.trans e) (by simp)
        · exact h e
      · cases hj
    · generalize w'.setCell ⟨g4, cs.length * 10 + 5, none⟩ (.slice a (0 + (Lib.runeCells v).length) c) = W at h3 ⊢
      rw [Nat.zero_add, List.nil_append] at h3
      exact h3
    · have q1 : Kept (fun k => k = t ∨ k = g ∨ w3.heap.size ≤ k) w3 w4 := HK4.out.mono (fun k _ e => by rcases e with e | e; exact .inl e; exact .inr (.inl e))
      have q2 : Kept (fun k => k = t ∨ k = g ∨ w3.heap.size ≤ k) w4 w5 := hk5.mono (fun k _ e => by
        rcases e with e | e
        · rcases HG4.out with h | h
          · exact .inr (.inl (e.trans h))
          · exact .inr (.inr (by omega))
        · rw [hkn] at e; cases e)
      have q3 : Kept (fun k => k = t ∨ k = g ∨ w3.heap.size ≤ k) w5 (w'.setCell ⟨g4, cs.length * 10 + 5, none⟩ (.slice a (0 + (Lib.runeCells v).length) c)) := h4.mono (fun k _ e => by
        rcases e with e | e
        · rcases HG4.out with h | h
          · exact .inr (.inl (e.trans h))
          · exact .inr (.inr (by omega))
        · cases e)
      exact ((q1.trans q2).trans q3).mono (fun k hk e => by
        rcases e with e | e | e
        · exact .inl e
        · exact .inr (.inl e)
        · omega)
  have hpI : (p : Int) < (cs.length : Int) + 1 := by omega
  clear H5 hT5 hO5 hk5 hn5 hp5 hl5 HT HT4 HK4 HG4 hv2 hL5
  go_upto_region 7 with fail
  go_quiet (fail)
  go_wp2_with fail
  refine Calls.mono (H6.out _ ⟨_, rfl⟩) ?_
  rintro e w6 ⟨a, k, c, rfl, d5, f5, hG⟩
  clear H6 c0 c9 c5 ci
  go_wp2
  go_ret
  exact ⟨rfl, hG.out⟩
end Go.Proofs.Ytopecjchflknbaa
