/-
  A scalar is written as text, the text's row at a base of its own: so two texts lie apart.
-/
import Derived.Test.YtopecjchflknbaaDmBehind
namespace Go.Proofs.Ytopecjchflknbaa
open Go.RowKit

/-- A text has grown. -/
structure GrewD (w : World) (D t B g cap : Nat) (cs : List Cel) (m : Nat) (cm : Cel) (n : Nat) (xs : List Value) (v : Int) (w' : World) : Prop where
  tree : ∃ u, TreeAt w' t B g cap (cs.set m { cm with more := u }) ∧ w'.ownsRow D 5 1 u (n + (Lib.runeCells v).length) (xs ++ Lib.runeCells v)
  kept : Kept (fun k => k = g ∨ cm.more.ownBlock = some k) w w'

theorem grewD_of {w w1 : World} {D t B g cap : Nat} {cs : List Cel} {m : Nat} {cm : Cel} {n : Nat} {xs : List Value} {v : Int} {a : Option Addr} {k c : Nat} (hT : TreeAt w t B g cap cs) (hm : cs[m]? = some cm) (hO : w.ownsRow D 5 1 cm.more n xs) (hO1 : w1.ownsRow D 5 1 (.slice a k c) (n + (Lib.runeCells v).length) (xs ++ Lib.runeCells v)) (hg : w.grownBy w1 cm.more.ownBlock) :
    TreeAt w1 t B g cap cs ∧ GrewD w D t B g cap cs m cm n xs v (w1.setCell ⟨g, m * 10 + 5, none⟩ (.slice a k c)) := by
  have k1 : Kept (fun k => cm.more.ownBlock = some k) w w1 := Kept.grown hg (fun k e => e)
  have hT1 := hT.kept k1 (fun e => hT.off hO (by decide) e) (fun e => by
    rcases owns_apart hO hT.own (by decide) with h | h
    · rw [h] at e; cases e
    · exact h e)
  refine ⟨hT1, ⟨⟨_, hT1.set (c := cm) (c' := { cm with more := .slice a k c }) hm (by omega) rfl, ?_⟩, ?_⟩⟩
  · exact owns_kept (out := fun k => k = g) hO1 ((Kept.refl (fun k => k = g) w1).store ⟨g, m * 10 + 5, none⟩ rfl _) (by
      intro k e hk
      subst hk
      rcases owns_apart hO1 hT1.own (by decide) with h | h
      · rw [h] at e; cases e
      · exact h e)
  · exact (k1.mono (fun k _ e => .inr e)).store ⟨g, m * 10 + 5, none⟩ (.inl rfl) _

set_option maxRecDepth 100000 in
set_option maxHeartbeats 4000000 in
theorem write_moreD (D t B g cap : Nat) (cs : List Cel) (p m : Nat) (cp cm : Cel) (ks : List Nat) (n : Nat) (xs : List Value) (v at' : Int) (w : World) (hD : D ≤ w.heap.size) (hT : TreeAt w t B g cap cs) (hp : cs[p]? = some cp) (hm : cs[m]? = some cm) (hk : cp.kind = 0 ∨ cp.kind = 2) (hm3 : cm.kind = 3) (hv : scalarI v = true) (hO : w.ownsRow B 3 1 cp.kids (ks ++ [m]).length (intC (ks ++ [m]))) (hM : w.ownsRow D 5 1 cm.more n xs) (hn : n + 4 ≤ 140737488355328) (hks : ks.length ≤ 1000000) :
    Calls Try.prog 23 #[.pointer (some ⟨t, 0, none⟩), .int .i64 v, .int .i64 at', .int .i64 (p : Int), .int .i64 (-1)] w fun e w' => e = .returned (.int .i64 0) ∧ GrewD w D t B g cap cs m cm n xs v w' := by
  have hpl := (List.getElem?_eq_some_iff.1 hp).1
  have hml := (List.getElem?_eq_some_iff.1 hm).1
  have hv2 : 0 ≤ v ∧ v ≤ 1114111 := by
    unfold scalarI at hv
    simp only [Bool.and_eq_true, decide_eq_true_eq] at hv
    exact ⟨hv.1.1, hv.1.2⟩
  obtain ⟨kb, kc, hkf⟩ := Joins.ownsRow_form hO (by simp)
  rw [List.length_append] at hkf
  replace hkf : cp.kids = .slice (some ⟨kb, 0, none⟩) (ks.length + 1) kc := hkf
  have ci : w.cell? ⟨kb, ks.length, none⟩ = some (.int .i64 (m : Int)) := by
    rw [hkf] at hO
    refine owns_at (n := (ks ++ [m]).length) (by rw [List.length_append]; rw [List.length_append] at hO; exact hO) _ _ ?_
    simp [intC]
  obtain ⟨ma, mc, hmf⟩ := own_form hM
  have H1 : Hid _ := isPlace_end t B g cap cs w p cp hT hp hk
  have H2 : Hid (∀ w, _) := fun w => isScalar_any v w
  rw [hv] at H2
  have H3 : Hid _ := index_end t B g cap cs w p cp (some ⟨kb, 0, none⟩) (ks.length + 1) kc hT hp hkf
  have H4 : Hid _ := isText_in t B g cap cs w m cm hT hm
  rw [show (cm.kind == 3) = true by rw [hm3]; rfl] at H4
  have H5 : Hid (∀ w1, (∃ q, w1 = w.drewN q) → Calls Try.prog 53 #[.slice ma n mc, .int .i32 v] w1 fun e w' => ∃ a k c, e = .returned (.slice a k c) ∧ w'.cell? ⟨g, m * 10 + 5, none⟩ = some (.slice ma n mc) ∧ w'.frozen? ⟨g, m * 10 + 5, none⟩ = false ∧ Hid (GrewD w D t B g cap cs m cm n xs v (w'.setCell ⟨g, m * 10 + 5, none⟩ (.slice a k c)))) := by
    rintro w1 ⟨q, rfl⟩
    rw [← hmf]
    refine (appendRune_any D cm.more n xs v hv2.1 (by omega) (w.drewN q) hM hn hD).mono ?_
    rintro e w' ⟨v', rfl, ho, hg⟩
    obtain ⟨a, c, rfl⟩ := own_form ho
    have hg' : w.grownBy w' cm.more.ownBlock := ⟨hg.os, hg.tape, hg.output, hg.size, hg.block⟩
    obtain ⟨h1, h2⟩ := grewD_of (v := v) hT hm hM ho hg'
    exact ⟨a, _, c, rfl, h1.at hm rfl, h1.fz _, h2⟩
  have c0 := hT.c0
  have c9 : w.cell? ⟨g, p * 10 + 9, none⟩ = some (.slice (some ⟨kb, 0, none⟩) (ks.length + 1) kc) := by rw [← hkf]; exact hT.at hp rfl
  have c5 : w.cell? ⟨g, m * 10 + 5, none⟩ = some (.slice ma n mc) := by rw [← hmf]; exact hT.at hm rfl
  have hpI : (p : Int) < (cs.length : Int) := by omega
  have hmI : (m : Int) < (cs.length : Int) := by omega
  have hw32 : IntKind.i32.wrap v = v := by simp [IntKind.wrap, IntKind.bits, IntKind.signed]; omega
  have hz : (((ks.length : Int) + 1) == 0) = false := by rw [beq_eq_false_iff_ne]; omega
  clear hT hp hm hk hm3 hv hO hM hn hpl hml hv2 hkf hmf
  go_enter Try.func23, Try.ntmps23
  go_wp2_with fail
  refine Calls.mono H1.out ?_
  rintro e w1 ⟨rfl, hw1⟩
  subst hw1
  go_wp2_with fail
  refine Calls.mono (H2.out _) ?_
  rintro e w2 ⟨rfl, hw2⟩
  subst hw2
  go_wp2_with fail
  refine Calls.mono H3.out ?_
  rintro e w3 ⟨rfl, hw3⟩
  subst hw3
  go_wp2_with fail
  refine Calls.mono H4.out ?_
  rintro e w4 ⟨rfl, hw4⟩
  subst hw4
  go_upto_region 7 with fail
  go_quiet (fail)
  go_wp2_with fail
  refine Calls.mono (H5.out _ ⟨_, rfl⟩) ?_
  rintro e w5 ⟨a, k, c, rfl, d5, f5, hG⟩
  clear H1 H2 H3 H4 H5 c0 c9 c5 ci
  go_wp2
  go_ret
  exact ⟨rfl, hG.out⟩
/-- A text more. -/
structure FirstD (w : World) (D t B g : Nat) (cs : List Cel) (p : Nat) (cp : Cel) (ks : List Nat) (v at' : Int) (w' : World) : Prop where
  tree : ∃ g' cap' kv u, TreeAt w' t B g' cap' ((((cs ++ [newCel 3 at' ⟨#[]⟩ ⟨#[]⟩]).set cs.length (txtCel at' p ks.length (.slice none 0 0))).set p { cp with kids := kv }).set cs.length (txtCel at' p ks.length u)) ∧ w'.ownsRow B 3 1 kv (ks ++ [cs.length]).length (intC (ks ++ [cs.length])) ∧ w'.ownsRow D 5 1 u (Lib.runeCells v).length (Lib.runeCells v) ∧ (g' = g ∨ w.heap.size ≤ g')
  kept : Kept (fun k => k = t ∨ k = g ∨ cp.kids.ownBlock = some k) w w'

set_option maxRecDepth 100000 in
set_option maxHeartbeats 4000000 in
theorem write_behindD (D t B g cap : Nat) (cs : List Cel) (p m : Nat) (cp cm : Cel) (ks : List Nat) (v at' : Int) (w : World) (hD : D ≤ w.heap.size) (hT : TreeAt w t B g cap cs) (hp : cs[p]? = some cp) (hm : cs[m]? = some cm) (hk : cp.kind = 0 ∨ cp.kind = 2) (hm3 : ¬ cm.kind = 3) (hO : w.ownsRow B 3 1 cp.kids (ks ++ [m]).length (intC (ks ++ [m]))) (hks : ks.length ≤ 900000) (hv : scalarI v = true) (hfew : cs.length + 1 ≤ 1000000) :
    Calls Try.prog 23 #[.pointer (some ⟨t, 0, none⟩), .int .i64 v, .int .i64 at', .int .i64 (p : Int), .int .i64 (-1)] w fun e w' => e = .returned (.int .i64 0) ∧ FirstD w D t B g cs p cp (ks ++ [m]) v at' w' := by
  have hpl := (List.getElem?_eq_some_iff.1 hp).1
  have hv2 : 0 ≤ v ∧ v ≤ 1114111 := by
    unfold scalarI at hv
    simp only [Bool.and_eq_true, decide_eq_true_eq] at hv
    exact ⟨hv.1.1, hv.1.2⟩
  have H1 : Hid _ := isPlace_end t B g cap cs w p cp hT hp hk
  have H2 : Hid (∀ w, _) := fun w => isScalar_any v w
  rw [hv] at H2
  obtain ⟨jb, jc, hkf⟩ := Joins.ownsRow_form hO (by simp)
  rw [List.length_append] at hkf
  replace hkf : cp.kids = .slice (some ⟨jb, 0, none⟩) (ks.length + 1) jc := hkf
  have cj : w.cell? ⟨jb, ks.length, none⟩ = some (.int .i64 (m : Int)) := by
    have hO' := hO
    rw [hkf] at hO'
    refine owns_at (n := (ks ++ [m]).length) (by rw [List.length_append]; rw [List.length_append] at hO'; exact hO') _ _ ?_
    simp [intC]
  have H3 : Hid _ := index_end t B g cap cs w p cp (some ⟨jb, 0, none⟩) (ks.length + 1) jc hT hp hkf
  have H3b : Hid _ := isText_in t B g cap cs w m cm hT hm
  rw [show (cm.kind == 3) = false by simpa using hm3] at H3b
  have z0 := hT.c0
  have z9 : w.cell? ⟨g, p * 10 + 9, none⟩ = some (.slice (some ⟨jb, 0, none⟩) (ks.length + 1) jc) := by rw [← hkf]; exact hT.at hp rfl
  have zpI : (p : Int) < (cs.length : Int) := by omega
  have hz : (((ks.length : Int) + 1) == 0) = false := by rw [beq_eq_false_iff_ne]; omega
  have HO : Hid _ := hO
  have H4 : Hid _ := make_any t B g cap cs 3 at' ⟨#[]⟩ ⟨#[]⟩ w hT (by decide) (by decide) hfew
  have HT : Hid _ := hT
  have hw32 : IntKind.i32.wrap v = v := by simp [IntKind.wrap, IntKind.bits, IntKind.signed]; omega
  clear hT hk hv hO hm3
  go_enter Try.func23, Try.ntmps23
  go_wp2_with fail
  refine Calls.mono H1.out ?_
  rintro e w1 ⟨rfl, hw1⟩
  subst hw1
  go_wp2_with fail
  refine Calls.mono (H2.out _) ?_
  rintro e w2 ⟨rfl, hw2⟩
  subst hw2
  go_wp2_with fail
  refine Calls.mono H3.out ?_
  rintro e w3 ⟨rfl, hw3⟩
  subst hw3
  go_wp2_with fail
  refine Calls.mono H3b.out ?_
  rintro e w3b ⟨rfl, hw3b⟩
  subst hw3b
  go_wp2_with fail
  refine Calls.mono H4.out ?_
  rintro e w4 ⟨rfl, ⟨g4, cap4, hT4, hg4⟩, hk4⟩
  have hn4 : (cs ++ [newCel 3 at' ⟨#[]⟩ ⟨#[]⟩])[cs.length]? = some (newCel 3 at' ⟨#[]⟩ ⟨#[]⟩) := by simp
  have hp4 : (cs ++ [newCel 3 at' ⟨#[]⟩ ⟨#[]⟩])[p]? = some cp := by rw [List.getElem?_append_left hpl]; exact hp
  have hO4 : w4.ownsRow B 3 1 cp.kids (ks ++ [m]).length (intC (ks ++ [m])) := owns_kept HO.out hk4 (by
    intro k e hj
    rcases hj with hj | hj
    · subst hj
      exact HT.out.off HO.out (by decide) e
    · subst hj
      rcases owns_apart HO.out HT.out.own (by decide) with h | h
      · exact absurd (show (none : Option Nat) = some k from h.symm.trans e) (by simp)
      · exact h e)
  have h5 := insert_end t B g4 cap4 _ cs.length p _ cp (ks ++ [m]) w4 hT4 hn4 hp4 (by omega) hO4 (by simp; omega)
  rw [show (((ks ++ [m]).length : Nat) : Int) = (ks.length : Int) + 1 by simp] at h5
  have H5 : Hid _ := h5
  clear h5 hO4
  have HK4 : Hid _ := hk4
  have HT4 : Hid _ := hT4
  have HG4 : Hid _ := hg4
  clear H1 H2 H3 H3b H4 hT4 hk4 hn4 hp4 z0 z9 zpI cj
  go_wp2_with fail
  refine Calls.mono H5.out ?_
  rintro e w5 ⟨rfl, ⟨kv, hT5, hO5, hl5⟩, hk5⟩
  obtain ⟨kb, kc, hkv⟩ := Joins.ownsRow_form hO5 (by simp)
  replace hkv : kv = .slice (some ⟨kb, 0, none⟩) (ks.length + 1 + 1) kc := by rw [hkv]; simp
  subst hkv
  have hpc : p ≠ cs.length := by omega
  have hL5 : ((((cs ++ [newCel 3 at' ⟨#[]⟩ ⟨#[]⟩]).set cs.length (txtCel at' p (ks ++ [m]).length (.slice none 0 0))).set p { cp with kids := .slice (some ⟨kb, 0, none⟩) (ks.length + 1 + 1) kc })).length = cs.length + 1 := by simp
  have hn5 : (((cs ++ [newCel 3 at' ⟨#[]⟩ ⟨#[]⟩]).set cs.length (txtCel at' p (ks ++ [m]).length (.slice none 0 0))).set p { cp with kids := .slice (some ⟨kb, 0, none⟩) (ks.length + 1 + 1) kc })[cs.length]? = some (txtCel at' p (ks ++ [m]).length (.slice none 0 0)) := by
    rw [List.getElem?_set_ne hpc, List.getElem?_set_self (by simp)]
  have hp5 : (((cs ++ [newCel 3 at' ⟨#[]⟩ ⟨#[]⟩]).set cs.length (txtCel at' p (ks ++ [m]).length (.slice none 0 0))).set p { cp with kids := .slice (some ⟨kb, 0, none⟩) (ks.length + 1 + 1) kc })[p]? = some { cp with kids := .slice (some ⟨kb, 0, none⟩) (ks.length + 1 + 1) kc } := by
    rw [List.getElem?_set_self (by simp; omega)]
  replace hT5 : TreeAt w5 t B g4 cap4 (((cs ++ [newCel 3 at' ⟨#[]⟩ ⟨#[]⟩]).set cs.length (txtCel at' p (ks ++ [m]).length (.slice none 0 0))).set p { cp with kids := .slice (some ⟨kb, 0, none⟩) (ks.length + 1 + 1) kc }) := hT5
  have c0 := hT5.c0
  rw [hL5] at c0
  have c9 : w5.cell? ⟨g4, p * 10 + 9, none⟩ = some (.slice (some ⟨kb, 0, none⟩) (ks.length + 1 + 1) kc) := hT5.at hp5 rfl
  have c5 : w5.cell? ⟨g4, cs.length * 10 + 5, none⟩ = some (.slice none 0 0) := hT5.at hn5 rfl
  have ci : w5.cell? ⟨kb, ks.length + 1, none⟩ = some (.int .i64 (cs.length : Int)) := by
    have hO' := hO5
    rw [show (ks ++ [m] ++ [cs.length]).length = ks.length + 1 + 1 by simp] at hO'
    refine owns_at hO' _ _ ?_
    simp [intC]
  have H6 : Hid (∀ w6, (∃ q, w6 = w5.drewN q) → Calls Try.prog 53 #[.slice none 0 0, .int .i32 v] w6 fun e w' => ∃ a k c, e = .returned (.slice a k c) ∧ w'.cell? ⟨g4, cs.length * 10 + 5, none⟩ = some (.slice none 0 0) ∧ w'.frozen? ⟨g4, cs.length * 10 + 5, none⟩ = false ∧ Hid (FirstD w3b D t B g cs p cp (ks ++ [m]) v at' (w'.setCell ⟨g4, cs.length * 10 + 5, none⟩ (.slice a k c)))) := by
    rintro w6 ⟨q, rfl⟩
    refine (appendRune_any D (.slice none 0 0) 0 [] v hv2.1 (by omega) (w5.drewN q) (World.ownsRow_nil _ _ _ _) (by decide) (Nat.le_trans hD (Nat.le_trans HK4.out.size hk5.size))).mono ?_
    rintro e w' ⟨v', rfl, ho, hg⟩
    obtain ⟨a, c, rfl⟩ := own_form ho
    have hg' : w5.grownBy w' (Value.slice none 0 0).ownBlock := ⟨hg.os, hg.tape, hg.output, hg.size, hg.block⟩
    obtain ⟨h1, ⟨u, h2, h3⟩, h4⟩ := grewD_of (v := v) hT5 hn5 (World.ownsRow_nil _ _ _ _) ho hg'
    refine ⟨a, _, c, rfl, h1.at hn5 rfl, h1.fz _, ?_⟩
    have hs4 := HK4.out.size
    have hs5 := hk5.size
    refine ⟨⟨g4, cap4, _, u, h2, ?_, ?_, HG4.out⟩, ?_⟩
    · refine owns_kept hO5 h4 ?_
      intro j e hj
      rcases hj with hj | hj
      · subst hj
        rcases owns_apart hO5 hT5.own (by decide) with h | h
        · exact absurd (show (none : Option Nat) = some j from h.symm.trans e) (by simp)
        · exact h e
      · cases hj
    · generalize w'.setCell ⟨g4, cs.length * 10 + 5, none⟩ (.slice a (0 + (Lib.runeCells v).length) c) = W at h3 ⊢
      rw [Nat.zero_add, List.nil_append] at h3
      exact h3
    · have q1 : Kept (fun k => k = t ∨ k = g ∨ w3b.heap.size ≤ k ∨ cp.kids.ownBlock = some k) w3b w4 := HK4.out.mono (fun k _ e => by rcases e with e | e; exact .inl e; exact .inr (.inl e))
      have q2 : Kept (fun k => k = t ∨ k = g ∨ w3b.heap.size ≤ k ∨ cp.kids.ownBlock = some k) w4 w5 := hk5.mono (fun k _ e => by
        rcases e with e | e
        · rcases HG4.out with h | h
          · exact .inr (.inl (e.trans h))
          · exact .inr (.inr (.inl (by omega)))
        · exact .inr (.inr (.inr e)))
      have q3 : Kept (fun k => k = t ∨ k = g ∨ w3b.heap.size ≤ k ∨ cp.kids.ownBlock = some k) w5 (w'.setCell ⟨g4, cs.length * 10 + 5, none⟩ (.slice a (0 + (Lib.runeCells v).length) c)) := h4.mono (fun k _ e => by
        rcases e with e | e
        · rcases HG4.out with h | h
          · exact .inr (.inl (e.trans h))
          · exact .inr (.inr (.inl (by omega)))
        · cases e)
      exact ((q1.trans q2).trans q3).mono (fun k hk e => by
        rcases e with e | e | e | e
        · exact .inl e
        · exact .inr (.inl e)
        · omega
        · exact .inr (.inr e))
  have hpI : (p : Int) < (cs.length : Int) + 1 := by omega
  clear H5 hT5 hO5 hk5 hn5 hp5 hl5 HT HT4 HK4 HG4 hv2 hL5
  go_upto_region 7 with fail
  go_quiet (fail)
  go_wp2_with fail
  refine Calls.mono (H6.out _ ⟨_, rfl⟩) ?_
  rintro e w6 ⟨a, k, c, rfl, d5, f5, hG⟩
  clear H6 c0 c9 c5 ci
  go_wp2
  go_ret
  exact ⟨rfl, hG.out⟩
end Go.Proofs.Ytopecjchflknbaa
