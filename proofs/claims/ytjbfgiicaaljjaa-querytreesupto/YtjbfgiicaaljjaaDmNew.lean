/-
  A new tree; a new node stands behind all kids of another one.
-/
import Derived.Test.YtjbfgiicaaljjaaDmMake
namespace Go.Proofs.Ytjbfgiicaaljjaa
open Go.RowKit

def docCel : Cel := newCel 0 0 ⟨#[]⟩ ⟨#[]⟩

set_option maxRecDepth 100000 in
set_option maxHeartbeats 1000000 in
theorem domNew_any (w : World) : Calls Try.prog 24 #[] w fun e w' => e = .returned (.pointer (some ⟨w.heap.size + 1, 0, none⟩)) ∧ TreeAt w' (w.heap.size + 1) w.heap.size w.heap.size 1 [docCel] ∧ Below w.heap.size w w' := by
  have HE : Hid (TreeAt ((w.alloc (.cells #[.int .i64 0, .int .i64 0, .string ⟨#[]⟩, .string ⟨#[]⟩, .slice none 0 0, .slice none 0 0, .map none, .int .i64 (-1), .int .i64 0, .slice none 0 0] 101)).alloc (.cells #[.slice (some ⟨w.heap.size, 0, none⟩) 1 1] 104)) (w.heap.size + 1) w.heap.size w.heap.size 1 [docCel] ∧ Below w.heap.size w ((w.alloc (.cells #[.int .i64 0, .int .i64 0, .string ⟨#[]⟩, .string ⟨#[]⟩, .slice none 0 0, .slice none 0 0, .map none, .int .i64 (-1), .int .i64 0, .slice none 0 0] 101)).alloc (.cells #[.slice (some ⟨w.heap.size, 0, none⟩) 1 1] 104))) := by
    have hs : (w.alloc (.cells #[.int .i64 0, .int .i64 0, .string ⟨#[]⟩, .string ⟨#[]⟩, .slice none 0 0, .slice none 0 0, .map none, .int .i64 (-1), .int .i64 0, .slice none 0 0] 101)).heap.size = w.heap.size + 1 := by simp
    refine ⟨⟨?_, ?_, by omega, by decide⟩, ((Below.refl _ _).alloc (Nat.le_refl _) _).alloc (by rw [hs]; omega) _⟩
    · have h := heap_alloc_new (w.alloc (.cells #[.int .i64 0, .int .i64 0, .string ⟨#[]⟩, .string ⟨#[]⟩, .slice none 0 0, .slice none 0 0, .map none, .int .i64 (-1), .int .i64 0, .slice none 0 0] 101)) (.cells #[.slice (some ⟨w.heap.size, 0, none⟩) 1 1] 104)
      rw [hs] at h
      exact h
    · refine ⟨rfl, .inr ⟨w.heap.size, 1, #[.int .i64 0, .int .i64 0, .string ⟨#[]⟩, .string ⟨#[]⟩, .slice none 0 0, .slice none 0 0, .map none, .int .i64 (-1), .int .i64 0, .slice none 0 0], rfl, Nat.le_refl _, ?_, Nat.le_refl _, by unfold maxLen; omega, rfl, rfl⟩⟩
      rw [heap_alloc_old _ _ (by rw [hs]; omega)]
      exact heap_alloc_new w _
  go_enter Try.func24, Try.ntmps24
  go_wp2
  go_ret
  exact ⟨rfl, HE.out⟩

set_option maxRecDepth 100000 in
set_option maxHeartbeats 2000000 in
theorem put_new (t B g cap : Nat) (cs : List Cel) (n p : Nat) (c cp : Cel) (ks : List Nat) (w : World) (hT : TreeAt w t B g cap cs) (hn : cs[n]? = some c) (hp : cs[p]? = some cp) (hne : n ≠ p) (hn0 : 0 < n) (hcp : c.parent = -1) (hck : c.kids = .slice none 0 0) (hk : cp.kind = 0 ∨ cp.kind = 2) (hO : w.ownsRow B 3 1 cp.kids ks.length (intC ks)) (hks : ks.length ≤ 1000000) :
    Calls Try.prog 31 #[.pointer (some ⟨t, 0, none⟩), .int .i64 (n : Int), .int .i64 (p : Int), .int .i64 (-1)] w fun e w' => e = .returned (.int .i64 0) ∧ PutP w t B g cap cs n p c cp ks w' := by
  have hnl := (List.getElem?_eq_some_iff.1 hn).1
  have H1 : Hid _ := movable_in t B g cap cs w n hT hnl hn0
  have H2 : Hid _ := isPlace_end t B g cap cs w p cp hT hp hk
  have H3 : Hid _ := isIn_bare t B g cap cs w p n c none 0 hT hn hck (fun e => hne e.symm)
  have H4 : Hid _ := takeAway_none t B g cap cs w n c hT hn hcp
  obtain ⟨ka, kc, hkf⟩ : ∃ a k, cp.kids = .slice a ks.length k := by
    rcases hO.2 with ⟨h1, h2⟩ | ⟨g1, c1, _, h1, _⟩
    · exact ⟨none, 0, by rw [h1, h2]⟩
    · exact ⟨_, c1, h1⟩
  have H5 : Hid (∀ w1, Below w.heap.size w w1 → _) := fun w1 hb => index_end t B g cap cs w1 p cp ka ks.length kc (hT.below hb) hp hkf
  have H6 : Hid (∀ w1, Below w.heap.size w w1 → _) := fun w1 hb => insert_end t B g cap cs n p c cp ks w1 (hT.below hb) hn hp hne (owns_kept (out := fun _ => False) hO (Kept.below hb) (fun _ _ e => e)) hks
  have bm : ((-1 : Int) == (n : Int)) = false := by rw [beq_eq_false_iff_ne]; omega
  clear hT hn hp hne hn0 hcp hck hk hO hks hnl hkf
  go_enter Try.func31, Try.ntmps31
  go_wp2_with fail
  refine Calls.mono H1.out ?_
  rintro e w1 ⟨rfl, hw1⟩
  subst hw1
  go_wp2_with fail
  refine Calls.mono H2.out ?_
  rintro e w2 ⟨rfl, hw2⟩
  subst hw2
  go_wp2_with fail
  refine Calls.mono H3.out ?_
  rintro e w3 ⟨rfl, hw3⟩
  subst hw3
  go_wp2_with fail
  refine Calls.mono H4.out ?_
  rintro e w4 ⟨rfl, hb4⟩
  have HB4 : Hid _ := hb4
  have H5' : Hid _ := H5.out w4 hb4
  have H6' : Hid _ := H6.out w4 hb4
  clear H1 H2 H3 H4 H5 H6 hb4
  go_wp2_with fail
  refine Calls.mono H5'.out ?_
  rintro e w5 ⟨rfl, hw5⟩
  subst hw5
  go_wp2_with fail
  refine Calls.mono H6'.out ?_
  rintro e w6 ⟨rfl, hP⟩
  have HX : Hid (PutP w3 t B g cap cs n p c cp ks w6) := by
    obtain ⟨⟨v', h1, h2, h3⟩, h4⟩ := hP
    refine ⟨⟨v', h1, h2, ?_⟩, (Kept.below HB4.out).trans h4⟩
    rcases h3 with h3 | h3
    · exact .inl h3
    · exact .inr fun k e => Nat.le_trans HB4.out.size (h3 k e)
  clear H5' H6' hP
  go_wp2
  go_ret
  exact ⟨rfl, HX.out⟩
end Go.Proofs.Ytjbfgiicaaljjaa
