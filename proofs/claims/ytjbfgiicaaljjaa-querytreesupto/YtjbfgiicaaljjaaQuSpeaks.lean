/-
  What every statement on queries asks first; no tree.
-/
import Derived.Test.YtjbfgiicaaljjaaQuSpk
namespace Go.Proofs.Ytjbfgiicaaljjaa
open Go.RowKit

theorem Kept.toBelow {out : Nat → Prop} {w w' : World} {B : Nat} (h : Kept out w w') (hB : B ≤ w.heap.size) (ho : ∀ k, out k → B ≤ k) : Below B w w' :=
  ⟨h.os, h.tape, h.output, h.size, fun k hk => h.block k (by omega) (fun e => by have := ho k e; omega)⟩

def idAtt : Att := ⟨⟨#[105, 100]⟩, ⟨#[120]⟩⟩
def paCel (av : Value) : Cel := { newCel 2 0 ⟨#[112]⟩ ⟨#[]⟩ with attrs := av }

theorem att_lit (w : World) (a : Att) : (w.alloc (.cells #[.string a.name, .string a.value] 67)).ownsRow w.heap.size 67 2 (.slice (some ⟨w.heap.size, 0, none⟩) 1 1) 1 ([a].flatMap attC) :=
  ⟨rfl, .inr ⟨w.heap.size, 1, #[.string a.name, .string a.value], rfl, Nat.le_refl _, heap_alloc_new w _, Nat.le_refl _, by unfold maxLen; omega, rfl, rfl⟩⟩

theorem two_words : (once (wordsL (⟨#[97, 32, 98, 32, 32, 97]⟩ : ByteArray).data.toList)).length = 2 := by decide

set_option maxRecDepth 100000 in
set_option maxHeartbeats 4000000 in
theorem qSpeaks (w : World) : Calls Try.prog 8 #[] w fun e w' => e = .returned (.bool true) ∧ Below w.heap.size w w' := by
  have HT : Hid (∀ w, _) := fun w => tokens_any ⟨#[97, 32, 98, 32, 32, 97]⟩ w (by decide)
  go_enter Try.func8, Try.ntmps8
  go_wp2_with fail
  refine Calls.mono (domNew_any w) ?_
  rintro e w1 ⟨rfl, hT1, hb1⟩
  have H2 : Hid (Calls Try.prog 32 #[.pointer (some ⟨w.heap.size + 1, 0, none⟩), .agg #[.int .i64 2, .int .i64 0, .string ⟨#[112]⟩, .string ⟨#[]⟩, .slice (some ⟨w1.heap.size, 0, none⟩) 1 1]] (w1.alloc (.cells #[.string ⟨#[105, 100]⟩, .string ⟨#[120]⟩] 67)) fun e w' => e = .returned (.int .i64 1) ∧ ∃ a2 c2, MadeP (w1.alloc (.cells #[.string ⟨#[105, 100]⟩, .string ⟨#[120]⟩] 67)) (w.heap.size + 1) w.heap.size w.heap.size [docCel] (paCel (.slice a2 1 c2)) 1 [idAtt] w') :=
    make_att (w.heap.size + 1) w.heap.size w.heap.size 1 w1.heap.size [docCel] 2 0 ⟨#[112]⟩ ⟨#[]⟩ (some ⟨w1.heap.size, 0, none⟩) 1 1 [idAtt] (w1.alloc (.cells #[.string ⟨#[105, 100]⟩, .string ⟨#[120]⟩] 67)) (hT1.below ((Below.refl _ _).alloc (Nat.le_refl _) _)) (att_lit w1 idAtt) (by decide) (by decide) (by decide) (by decide)
  have HB1 : Hid (Below w.heap.size w (w1.alloc (.cells #[.string ⟨#[105, 100]⟩, .string ⟨#[120]⟩] 67))) := hb1.trans (((Below.refl _ _).alloc (Nat.le_refl _) _).mono hb1.size)
  clear hT1 hb1
  generalize hB : w.heap.size = B at *
  generalize B + 1 = t at *
  go_wp2_with fail
  refine Calls.mono H2.out ?_
  rintro e w2 ⟨rfl, a2, c2, ⟨⟨g2, cap2, hT2, hg2⟩, hk2⟩, hA2⟩
  have hgB := hT2.gB
  have htB := hT2.tB
  have HB2 : Hid (Below B w w2) := HB1.out.trans (hk2.toBelow (by have := HB1.out.size; omega) (fun k e => by rcases e with e | e <;> omega))
  have HA2 : Hid _ := hA2
  have H3 : Hid (Calls Try.prog 13 #[.pointer (some ⟨t, 0, none⟩), .int .i64 1, .string ⟨#[105, 100]⟩] w2 fun e w' => e = .returned (.tuple #[.string ⟨#[120]⟩, .bool true]) ∧ Below w2.heap.size w2 w') := by
    have H := value_in t B g2 cap2 _ 1 [docCel, paCel (.slice a2 1 c2)] 1 (paCel (.slice a2 1 c2)) [] [idAtt] ⟨#[105, 100]⟩ w2 hT2 rfl (Nat.zero_le _) (empty_bytes _ _) hA2 (by decide)
    have e : valR (paCel (.slice a2 1 c2)).kind [idAtt] ⟨#[105, 100]⟩ = (⟨#[120]⟩, true) := by
      show valR 2 [idAtt] ⟨#[105, 100]⟩ = _
      unfold valR
      rw [if_pos rfl]
      have e2 : findA [idAtt] ⟨#[105, 100]⟩ = some idAtt := by
        unfold findA isN idAtt
        simp
      rw [e2]
      rfl
    rw [e] at H
    exact H
  have HT2 : Hid _ := hT2
  clear H2 hT2 hk2 HB1 hg2 hA2
  go_wp2_with fail
  refine Calls.mono H3.out ?_
  rintro e w3 ⟨rfl, hb3⟩
  have hT3 := HT2.out.below hb3
  have HB3 : Hid (Below B w w3) := HB2.out.trans (hb3.mono (by have := hgB; omega))
  have HA3 : Hid _ := owns_kept (out := fun _ => False) HA2.out (Kept.below hb3) (fun _ _ e => e)
  have H4 : Hid (Calls Try.prog 31 #[.pointer (some ⟨t, 0, none⟩), .int .i64 1, .int .i64 0, .int .i64 (-1)] w3 fun e w' => e = .returned (.int .i64 0) ∧ PutP w3 t B g2 cap2 [docCel, paCel (.slice a2 1 c2)] 1 0 (paCel (.slice a2 1 c2)) docCel [] w') := put_new t B g2 cap2 [docCel, paCel (.slice a2 1 c2)] 1 0 (paCel (.slice a2 1 c2)) docCel [] w3 hT3 rfl rfl (by decide) (by decide) rfl rfl (.inl rfl) (World.ownsRow_nil _ _ _ _) (by decide)
  have HT3 : Hid _ := hT3
  clear H3 hT3 hb3 HB2 HA2 HT2
  go_wp2_with fail
  refine Calls.mono H4.out ?_
  rintro e w4 ⟨rfl, ⟨kv, hT4, hO4, _⟩, hk4⟩
  have HB4 : Hid (Below B w w4) := HB3.out.trans (hk4.toBelow (by have := HB3.out.size; omega) (fun k e => by
    rcases e with e | e
    · omega
    · cases e))
  have hA4 := owns_kept HA3.out hk4 (fun k e e2 => by
    rcases e2 with e2 | e2
    · subst e2
      rcases owns_apart HA3.out HT3.out.own (by decide) with h | h
      · rw [h] at e; cases e
      · exact h e
    · cases e2)
  have HE : Hid _ := elements_one t B g2 cap2 _ { docCel with kids := kv } { paCel (.slice a2 1 c2) with parent := 0, ahead := 0 } [idAtt] w4 ⟨hT4, hO4, rfl, rfl, rfl, rfl, hA4, by decide⟩
  clear H4 hT4 hO4 hk4 HB3 hA4 HA3 HT3
  go_wp2_with fail
  refine Calls.mono HE.out ?_
  rintro e w5 ⟨a5, c5, rfl, hb5⟩
  have HB5 : Hid (Below B w w5) := HB4.out.trans (hb5.mono (by have := HB4.out.size; omega))
  clear HE hb5 HB4
  go_wp2_with fail
  refine Calls.mono (HT.out _) ?_
  rintro e w6 ⟨A, r, c6, rfl, h6⟩
  have hr : r = 2 := by
    have h := h6.out.1.1
    rw [List.length_map, Nat.mul_one] at h
    rw [← h]
    exact two_words
  subst hr
  have HB6 : Hid (Below B w w6) := HB5.out.trans (h6.out.2.mono (by have := HB5.out.size; omega))
  clear HT h6 HB5
  go_wp2
  go_ret
  exact ⟨rfl, by rw [hB]; exact HB6.out⟩
end Go.Proofs.Ytjbfgiicaaljjaa
