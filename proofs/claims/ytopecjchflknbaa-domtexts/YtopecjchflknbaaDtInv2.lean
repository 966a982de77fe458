/-
  A text that grows: what holds between two scalars, and what stays.
-/
import Derived.Test.YtopecjchflknbaaDmApart
namespace Go.Proofs.Ytopecjchflknbaa
open Go.RowKit

theorem rune_byteC (v : Int) : Lib.runeCells v = byteC (Lib.encodeRune v) := (Lib.byteCells_encodeRune v).symm
theorem byteC_app (a b : List UInt8) : byteC (a ++ b) = byteC a ++ byteC b := by simp [byteC]
theorem byteC_len (a : List UInt8) : (byteC a).length = a.length := by simp [byteC]

structure TextCel (c : Cel) : Prop where
  kind : c.kind = 3
  data : c.data = ⟨#[]⟩
  attrs : c.attrs = .slice none 0 0

/-- What the tree's calls leave as it was: all blocks below B, and all that are neither the tree's nor rows of its kinds. -/
structure RestP (B : Nat) (w w' : World) : Prop where
  below : Below B w w'
  other : ∀ (k : Nat) (c : Array Value) (T : TypeId) (f : Nat × Nat), w.heap[k]? = some (Obj.cells c T f) → T ≠ 68 → T ≠ 65 → T ≠ 3 → T ≠ 5 → w'.heap[k]? = w.heap[k]?
theorem RestP.refl (B : Nat) (w : World) : RestP B w w := ⟨Below.refl _ _, fun _ _ _ _ _ _ _ _ _ => rfl⟩
theorem RestP.trans {B : Nat} {a b c : World} (h : RestP B a b) (k : RestP B b c) : RestP B a c :=
  ⟨h.below.trans k.below, fun i x T f hi h1 h2 h3 h4 => (k.other i x T f ((h.other i x T f hi h1 h2 h3 h4).trans hi) h1 h2 h3 h4).trans (h.other i x T f hi h1 h2 h3 h4)⟩
theorem rest_of {B : Nat} {w w' : World} {out : Nat → Prop} (hB : B ≤ w.heap.size) (h : Kept out w w') (ho : ∀ k, k < w.heap.size → out k → B ≤ k ∧ ∃ c T f, w.heap[k]? = some (Obj.cells c T f) ∧ (T = 68 ∨ T = 65 ∨ T = 3 ∨ T = 5)) : RestP B w w' := by
  refine ⟨⟨h.os, h.tape, h.output, h.size, fun k hk => h.block k (by omega) (fun e => ?_)⟩, fun k c T f hk h1 h2 h3 h4 => h.block k (Array.getElem?_eq_some_iff.1 hk).1 (fun e => ?_)⟩
  · have := (ho k (by omega) e).1
    omega
  · obtain ⟨_, c', T', f', hk', ht⟩ := ho k (Array.getElem?_eq_some_iff.1 hk).1 e
    rw [hk] at hk'
    simp only [Option.some.injEq, Obj.cells.injEq] at hk'
    obtain ⟨_, rfl, _⟩ := hk'
    rcases ht with e | e | e | e
    · exact h1 e
    · exact h2 e
    · exact h3 e
    · exact h4 e
theorem owns_cells {w : World} {B : Nat} {e : TypeId} {sz n : Nat} {v : Value} {xs : List Value} (h : w.ownsRow B e sz v n xs) {k : Nat} (hk : v.ownBlock = some k) : B ≤ k ∧ ∃ c f, w.heap[k]? = some (Obj.cells c e f) := by
  rcases h.2 with ⟨rfl, _⟩ | ⟨g, cap, cur, rfl, hg, hh, _⟩
  · cases hk
  · simp only [Value.ownBlock, Option.some.injEq] at hk
    subst hk
    exact ⟨hg, _, _, hh⟩

/-- A text stands behind what there was. -/
structure TextAt (w0 w : World) (D t B : Nat) (cs0 : List Cel) (ks0 : List Nat) (l : List UInt8) : Prop where
  tree : ∃ g cap cs cp cm, TreeAt w t B g cap cs ∧ cs[0]? = some cp ∧ cp.kind = 0 ∧ (∀ j, 0 < j → j < cs0.length → cs[j]? = cs0[j]?) ∧ w.ownsRow B 3 1 cp.kids (ks0 ++ [cs0.length]).length (intC (ks0 ++ [cs0.length])) ∧ cs[cs0.length]? = some cm ∧ TextCel cm ∧ w.ownsRow D 5 1 cm.more l.length (byteC l) ∧ cs.length = cs0.length + 1
  old : ∀ b v n xs, w0.ownsRow b 5 1 v n xs → (∀ k, v.ownBlock = some k → k < D) → w.ownsRow b 5 1 v n xs
  size : D ≤ w.heap.size
  zero : 0 < cs0.length

theorem text_more (w0 w : World) (D t B : Nat) (cs0 : List Cel) (ks0 : List Nat) (l : List UInt8) (v at' : Int) (h : TextAt w0 w D t B cs0 ks0 l) (hv : scalarI v = true) (hl : l.length ≤ 1000000) (hks : ks0.length ≤ 1000000) (hBD : B ≤ D) :
    Calls Try.prog 23 #[.pointer (some ⟨t, 0, none⟩), .int .i64 v, .int .i64 at', .int .i64 0, .int .i64 (-1)] w fun e w' => e = .returned (.int .i64 0) ∧ TextAt w0 w' D t B cs0 ks0 (l ++ Lib.encodeRune v) ∧ RestP B w w' := by
  obtain ⟨g, cap, cs, cp, cm, hT, hp, hk, hj, hO, hm, hx, hM, hln⟩ := h.tree
  refine Calls.mono (write_moreD D t B g cap cs 0 cs0.length cp cm ks0 l.length (byteC l) v at' w h.size hT hp hm (.inl hk) hx.kind hv hO hM (by omega) hks) ?_
  rintro e w' ⟨rfl, ⟨u, hT', hu⟩, hK⟩
  have hml := (List.getElem?_eq_some_iff.1 hm).1
  have hz := h.zero
  refine ⟨rfl, ⟨⟨g, cap, _, cp, { cm with more := u }, hT', ?_, hk, ?_, ?_, ?_, ⟨hx.kind, hx.data, hx.attrs⟩, ?_, by rw [List.length_set]; exact hln⟩, ?_, Nat.le_trans h.size hK.size, hz⟩, ?_⟩
  · rw [List.getElem?_set_ne (by omega)]
    exact hp
  · intro j h0 h1
    rw [List.getElem?_set_ne (by omega)]
    exact hj j h0 h1
  · refine owns_kept hO hK ?_
    intro k e hh
    rcases hh with hh | hh
    · subst hh
      rcases owns_apart hO hT.own (by decide) with h | h
      · exact absurd (h.symm.trans e) (by simp)
      · exact h e
    · rcases owns_apart hO hM (by decide) with h | h
      · exact absurd (h.symm.trans e) (by simp)
      · exact h (e.trans hh.symm)
  · rw [List.getElem?_set_self hml]
  · rw [rune_byteC, byteC_len, ← byteC_app] at hu
    rw [List.length_append]
    exact hu
  · intro b v1 n1 xs h1 h2
    have h3 := h.old b v1 n1 xs h1 h2
    refine owns_kept h3 hK ?_
    intro k e hh
    rcases hh with hh | hh
    · subst hh
      rcases owns_apart h3 hT.own (by decide) with h | h
      · exact absurd (h.symm.trans e) (by simp)
      · exact h e
    · have := (owns_lt hM k hh).1
      have := h2 k e
      omega
  · refine rest_of hT.le hK ?_
    intro k hk e
    rcases e with e | e
    · subst e
      obtain ⟨h1, c, f, h2⟩ := owns_cells hT.own rfl
      exact ⟨h1, c, _, f, h2, .inr (.inl rfl)⟩
    · obtain ⟨h1, c, f, h2⟩ := owns_cells hM e
      exact ⟨by omega, c, _, f, h2, .inr (.inr (.inr rfl))⟩

theorem text_of {w w' : World} {D t B g cap : Nat} {cs : List Cel} {cp : Cel} {ks : List Nat} {v at' : Int} (hT : TreeAt w t B g cap cs) (hp : cs[0]? = some cp) (hk : cp.kind = 0) (hO : w.ownsRow B 3 1 cp.kids ks.length (intC ks)) (hD : D ≤ w.heap.size) (h : FirstD w D t B g cs 0 cp ks v at' w') : TextAt w w' D t B cs ks (Lib.encodeRune v) ∧ RestP B w w' := by
  obtain ⟨⟨g', cap', kv, u, hT', hkv, hu, _⟩, hK⟩ := h
  have hz := (List.getElem?_eq_some_iff.1 hp).1
  refine ⟨⟨⟨g', cap', _, { cp with kids := kv }, txtCel at' 0 ks.length u, hT', ?_, hk, ?_, hkv, ?_, ⟨rfl, rfl, rfl⟩, ?_, by simp⟩, ?_, Nat.le_trans hD hK.size, hz⟩, ?_⟩
  · rw [List.getElem?_set_ne (by omega), List.getElem?_set_self (by simp)]
  · intro j h0 h1
    rw [List.getElem?_set_ne (by omega), List.getElem?_set_ne (by omega), List.getElem?_set_ne (by omega), List.getElem?_append_left h1]
  · rw [List.getElem?_set_self (by simp)]
  · rw [rune_byteC, byteC_len] at hu
    exact hu
  · intro b v1 n1 xs h1 h2
    refine owns_kept h1 hK ?_
    intro k e hh
    rcases hh with hh | hh | hh
    · subst hh
      exact hT.off h1 (by decide) e
    · subst hh
      rcases owns_apart h1 hT.own (by decide) with h | h
      · exact absurd (h.symm.trans e) (by simp)
      · exact h e
    · rcases owns_apart h1 hO (by decide) with h | h
      · exact absurd (h.symm.trans e) (by simp)
      · exact h (e.trans hh.symm)
  · refine rest_of hT.le hK ?_
    intro k hk e
    rcases e with e | e | e
    · subst e
      exact ⟨hT.tB, _, _, _, hT.blk, .inl rfl⟩
    · subst e
      obtain ⟨h1, c, f, h2⟩ := owns_cells hT.own rfl
      exact ⟨h1, c, _, f, h2, .inr (.inl rfl)⟩
    · obtain ⟨h1, c, f, h2⟩ := owns_cells hO e
      exact ⟨h1, c, _, f, h2, .inr (.inr (.inl rfl))⟩

theorem text_behind (D t B g cap : Nat) (cs : List Cel) (m : Nat) (cp cm : Cel) (ks : List Nat) (v at' : Int) (w : World) (hD : D ≤ w.heap.size) (hT : TreeAt w t B g cap cs) (hp : cs[0]? = some cp) (hm : cs[m]? = some cm) (hk : cp.kind = 0) (hm3 : ¬ cm.kind = 3) (hO : w.ownsRow B 3 1 cp.kids (ks ++ [m]).length (intC (ks ++ [m]))) (hks : ks.length ≤ 900000) (hv : scalarI v = true) (hfew : cs.length + 1 ≤ 1000000) :
    Calls Try.prog 23 #[.pointer (some ⟨t, 0, none⟩), .int .i64 v, .int .i64 at', .int .i64 0, .int .i64 (-1)] w fun e w' => e = .returned (.int .i64 0) ∧ TextAt w w' D t B cs (ks ++ [m]) (Lib.encodeRune v) ∧ RestP B w w' := by
  refine Calls.mono (write_behindD D t B g cap cs 0 m cp cm ks v at' w hD hT hp hm (.inl hk) hm3 hO hks hv hfew) ?_
  rintro e w' ⟨rfl, h⟩
  exact ⟨rfl, text_of hT hp hk hO hD h⟩

theorem text_first (t B g cap : Nat) (cs : List Cel) (cp : Cel) (v at' : Int) (w : World) (hT : TreeAt w t B g cap cs) (hp : cs[0]? = some cp) (hk : cp.kind = 0) (hkn : cp.kids = .slice none 0 0) (hv : scalarI v = true) (hfew : cs.length + 1 ≤ 1000000) :
    Calls Try.prog 23 #[.pointer (some ⟨t, 0, none⟩), .int .i64 v, .int .i64 at', .int .i64 0, .int .i64 (-1)] w fun e w' => e = .returned (.int .i64 0) ∧ TextAt w w' B t B cs [] (Lib.encodeRune v) ∧ RestP B w w' := by
  refine Calls.mono (write_first t B g cap cs 0 cp v at' w hT hp (.inl hk) hkn hv hfew) ?_
  rintro e w' ⟨rfl, ⟨a, b⟩⟩
  exact ⟨rfl, text_of hT hp hk (by rw [hkn]; exact World.ownsRow_nil _ _ _ _) hT.le ⟨a, b⟩⟩
end Go.Proofs.Ytopecjchflknbaa
