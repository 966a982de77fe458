/-
  A text's words, each once, and it stripped.
-/
import Derived.Test.YtjbfgiicaaljjaaQwDel2
import Derived.Test.YtjbfgiicaaljjaaShelf
namespace Go.Proofs.Ytjbfgiicaaljjaa
open Go.RowKit Go.Maps Go.Lib

theorem enters_blank : ∀ args w, (callFunc 95 args).run Try.prog w = .ok (.enter 95 args) w := enters_of Try.func95 (by kernel_rfl) rfl

set_option maxRecDepth 100000 in
set_option maxHeartbeats 2000000 in
theorem blank_pays (w : World) : PredAtRunes Try.prog 95 #[] blR w := by
  intro W x hx hb
  show Calls Try.prog 95 #[.int .i32 (x : Int)] W _
  clear hx hb
  go_enter Try.func95, Try.ntmps95
  go_wp2
  all_goals
    go_ret
    refine ⟨?_, 0, rfl⟩
    first
      | (have hb : blR x = true := by (unfold blR; simp only [Bool.or_eq_true, beq_iff_eq]; omega)
         rw [hb]; rfl)
      | (have hb : blR x = false := by (unfold blR; simp only [Bool.or_eq_false_iff, beq_eq_false_iff_ne]; omega)
         rw [hb]; rfl)
      | (have hq : ((x : Int) == 9 || (x : Int) == 10 || (x : Int) == 12 || (x : Int) == 13 || (x : Int) == 32) = blR x := by (unfold blR; rw [Bool.eq_iff_iff]; simp only [Bool.or_eq_true, beq_iff_eq]; omega)
         rw [← hq]; rfl)

/-- A new row of words. -/
def WordsAt (w : World) (A n c : Nat) (ws : List (List UInt8)) (w' : World) : Prop := w'.ownsRow w.heap.size 9 1 (.slice (some ⟨A, 0, none⟩) n c) n (ws.map strV) ∧ Below w.heap.size w w'

set_option maxRecDepth 100000 in
set_option maxHeartbeats 2000000 in
theorem parts_any (s : ByteArray) (w : World) (hs : s.size ≤ 4294967296) :
    Calls Try.prog 72 #[.string s] w fun e w' => ∃ A, e = .returned (.slice (some ⟨A, 0, none⟩) (wordsL s.data.toList).length (wordsL s.data.toList).length) ∧ Hid (WordsAt w A (wordsL s.data.toList).length (wordsL s.data.toList).length (wordsL s.data.toList) w') := by
  have H := Try.strings_FieldsFunc_runes 95 #[] enters_blank blR s w hs (blank_pays w)
  have e1 : (goFieldsP blR s).map Value.string = (wordsL s.data.toList).map strV := by
    rw [fields_words', List.map_map]; rfl
  have e2 : (goFieldsP blR s).length = (wordsL s.data.toList).length := by rw [fields_words', List.length_map]
  rw [e1, e2] at H
  have HH : Hid _ := H
  have heg := enters_blank
  clear H e1 e2 hs
  generalize wordsL s.data.toList = ws at *
  go_enter Try.func72, Try.ntmps72
  go_wp2_with fail
  refine Calls.mono HH.out ?_
  rintro e w1 ⟨A, rfl, _, h1, h2⟩
  have HF : Hid (WordsAt w A ws.length ws.length ws w1) := ⟨h1, h2⟩
  clear h1 h2 HH
  go_wp2
  go_ret
  exact ⟨_, rfl, HF⟩

theorem seen_start (w : World) : SeenAt ((w.alloc (.map #[] 0)).alloc (.cells #[.map (some w.heap.size)] 123)) (w.heap.size + 1) w.heap.size 0 [] := by
  refine ⟨?_, .map [], (World.ownsMap_made w Try.prog 9 (unitElem (H := Unit))).alloc _, isMap_empty, fun l => rfl⟩
  have h := heap_alloc_new (w.alloc (.map #[] 0)) (.cells #[.map (some w.heap.size)] 123)
  rw [show (w.alloc (.map #[] 0)).heap.size = w.heap.size + 1 by simp] at h
  exact h

theorem tok_below {w w1 w2 : World} {A n r c m : Nat} {ws : List (List UInt8)} (hb0 : Below w.heap.size w w1) (hm : w.heap.size ≤ m) {w3 : World} (h : WordsAt w1 A n n ws w2) (h3 : LeftP w2 ws m w1.heap.size A r c w3) : WordsAt w A r c (once ws) w3 := by
  have hA : w1.heap.size ≤ A := (owns_lt h.1 A rfl).1
  refine ⟨?_, ?_⟩
  · obtain ⟨h1, h2⟩ := h3.1
    refine ⟨h1, ?_⟩
    rcases h2 with h2 | ⟨g, cap, cur, hv, hg, rest⟩
    · exact .inl h2
    · exact .inr ⟨g, cap, cur, hv, Nat.le_trans hb0.size hg, rest⟩
  · have h4 := hb0.trans (h.2.mono hb0.size)
    have hs := h.2.size
    refine ⟨h3.2.os.trans h4.os, h3.2.tape.trans h4.tape, h3.2.output.trans h4.output, Nat.le_trans h4.size h3.2.size, fun k hk => ?_⟩
    rw [h3.2.block k (Nat.lt_of_lt_of_le hk h4.size) (fun e => by have := hb0.size; omega)]
    exact h4.block k hk

set_option maxRecDepth 100000 in
set_option maxHeartbeats 2000000 in
theorem tokens_any (s : ByteArray) (w : World) (hs : s.size ≤ 9000) :
    Calls Try.prog 33 #[.string s] w fun e w' => ∃ A r c, e = .returned (.slice (some ⟨A, 0, none⟩) r c) ∧ Hid (WordsAt w A r c (once (wordsL s.data.toList)) w') := by
  have hsl : s.data.toList.length = s.size := (Go.Lib.size_eq s).symm
  have HL : Hid (∀ x ∈ wordsL s.data.toList, x.length ≤ 10000) := fun x hx => by have := word_le _ x hx; omega
  have hn : (wordsL s.data.toList).length ≤ 10000 := by have := words_few s.data.toList; omega
  have HN : Hid _ := hn
  have h4 : s.size ≤ 4294967296 := by omega
  have HP : Hid (∀ w, _) := fun w => parts_any s w h4
  have heg := enters_seen
  have hmm : ∀ w, (Instr.makeMap 123 none).run Try.prog w = .ok (.map (some w.heap.size)) (w.alloc (.map #[] 0)) := fun w => by
    simp [Instr.makeMap, go_sem]
  clear hs hsl h4 hn
  generalize wordsL s.data.toList = ws at *
  go_enter Try.func33, Try.ntmps33
  go_wp2_with fail
  have hseen := seen_start w
  have hb0 : Below w.heap.size w ((w.alloc (.map #[] 0)).alloc (.cells #[.map (some w.heap.size)] 123)) := ((Below.refl _ _).alloc (Nat.le_refl _) _).alloc (by simp) _
  have HS0 : Hid _ := hseen
  have HB0 : Hid _ := hb0
  clear hseen hb0
  generalize (w.alloc (.map #[] 0)).alloc (.cells #[.map (some w.heap.size)] 123) = w0 at *
  refine Calls.mono (HP.out _) ?_
  rintro e w1 ⟨A, rfl, h1⟩
  have hs1 : SeenAt w1 (w.heap.size + 1) w.heap.size 0 [] := HS0.out.kept (Kept.below (out := fun _ => False) h1.out.2) (fun e => e) (fun e => e)
  have HD : Hid _ := delFunc_any w0.heap.size A ws.length (w.heap.size + 1) w.heap.size ws w1 rfl h1.out.1 hs1 HL.out HN.out
  have H1 : Hid _ := h1.out
  clear h1 hs1 HP HL HN HS0
  go_wp2_with fail
  refine Calls.mono HD.out ?_
  rintro e w2 ⟨r, c, rfl, h2⟩
  have HF : Hid (WordsAt w A r c (once ws) w2) := tok_below HB0.out (Nat.le_refl _) H1.out h2.out
  clear h2 H1 HB0 HD
  go_wp2
  go_ret
  exact ⟨_, _, _, rfl, HF⟩

end Go.Proofs.Ytjbfgiicaaljjaa
