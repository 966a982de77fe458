/-
  The document's answer: words, each once, and a text stripped.
-/
import Derived.Test.YtfpnaciookbpaaaQwParts
namespace Go.Proofs.Ytfpnaciookbpaaa
open Go.RowKit Go.Maps Go.Lib

theorem Try.infoStr : (Try.prog.info? 9).map (fun i => (i.zero, i.size, i.bytes)) = some (some (.string ⟨#[]⟩), 1, 16) := by kernel_rfl

set_option maxRecDepth 100000 in
set_option maxHeartbeats 2000000 in
theorem refBlank_any (c : UInt8) (w : World) : Calls Try.prog 83 #[.int .u8 (c.toNat : Int)] w fun e w' => e = .returned (.bool (blB c)) ∧ w' = w := by
  unfold blB
  generalize c.toNat = x
  go_enter Try.func83, Try.ntmps83
  go_wp2
  all_goals
    go_ret
    refine ⟨?_, rfl⟩
    first
      | (have hb : blR x = true := by (unfold blR; simp only [Bool.or_eq_true, beq_iff_eq]; omega)
         rw [hb]; rfl)
      | (have hq : ((x : Int) == 9 || (x : Int) == 10 || (x : Int) == 12 || (x : Int) == 13 || (x : Int) == 32) = blR x := by (unfold blR; rw [Bool.eq_iff_iff]; simp only [Bool.or_eq_true, beq_iff_eq]; omega)
         rw [← hq]; rfl)

/-- A row of words, wherever it lies. -/
def TxtsAt (w : World) (a : Option Addr) (ws : List (List UInt8)) : Prop := ∀ i x, ws[i]? = some x → ∃ g, a = some ⟨g, 0, none⟩ ∧ w.cell? ⟨g, i, none⟩ = some (strV x)
theorem txts_of {w : World} {B n c : Nat} {a : Option Addr} {ws : List (List UInt8)} (h : w.ownsRow B 9 1 (.slice a n c) n (ws.map strV)) : n = ws.length ∧ n ≤ c ∧ TxtsAt w a ws := by
  have h1 := h.1
  rw [List.length_map, Nat.mul_one] at h1
  rcases h.2 with ⟨hv, h0⟩ | ⟨g, cap, cur, hv, hg, hh, hc, rest⟩
  · injection hv with e1 e2 e3
    refine ⟨h1.symm, by omega, fun i x hx => ?_⟩
    have := (List.getElem?_eq_some_iff.1 hx).1
    omega
  · injection hv with e1 e2 e3
    subst e1 e3
    refine ⟨h1.symm, hc, fun i x hx => ⟨g, rfl, ?_⟩⟩
    exact owns_at h i _ (by rw [List.getElem?_map, hx]; rfl)

theorem str_eq (x y : List UInt8) : ((⟨x.toArray⟩ : ByteArray).toList == (⟨y.toArray⟩ : ByteArray).toList) = (x == y) := by
  simp only [ByteArray.toList_eq]
def hasW (ws : List (List UInt8)) (x : List UInt8) : Bool := ws.contains x
theorem hasW_zero (ws : List (List UInt8)) (x : List UInt8) : hasW (ws.take 0) x = false := by simp [hasW]
theorem hasW_step {ws : List (List UInt8)} {k : Nat} {y : List UInt8} (x : List UInt8) (hq : ws[k]? = some y) : hasW (ws.take (k + 1)) x = (hasW (ws.take k) x || (y == x)) := by
  unfold hasW
  rw [take_snoc ws k y hq, Bool.eq_iff_iff]
  simp only [List.contains_eq_mem, List.mem_append, List.mem_singleton, decide_eq_true_eq, Bool.or_eq_true, beq_iff_eq, eq_comm (a := y)]
theorem hasW_of {ws : List (List UInt8)} {k : Nat} {x : List UInt8} (hq : ws[k]? = some x) : hasW ws x = true := by
  unfold hasW
  simpa using List.mem_of_getElem? hq

set_option maxRecDepth 100000 in
set_option maxHeartbeats 2000000 in
theorem one_any (a : Option Addr) (n c : Nat) (ws : List (List UInt8)) (x : List UInt8) (w : World) (hn : n = ws.length) (h : TxtsAt w a ws) (hl : n ≤ 1000000) :
    Calls Try.prog 55 #[.slice a n c, strV x] w fun e w' => e = .returned (.bool (hasW ws x)) ∧ w' = w := by
  have HH : Hid _ := h
  have HN : Hid _ := hn
  have H0 : Hid (hasW (ws.take 0) x = false) := hasW_zero ws x
  unfold strV
  clear h hn
  go_enter Try.func55, Try.ntmps55
  go_wp2
  go_loopw [5] (fun i wr => ∃ k : Nat, k ≤ n ∧ i = .int .i64 k ∧ wr = w ∧ Hid (hasW (ws.take k) x = false)) (fun i _ => n - (intOf i).toNat)
  case atStart => exact ⟨0, Nat.zero_le _, rfl, rfl, H0⟩
  case round =>
    clear H0
    obtain ⟨k, hk, rfl, hwr, hI⟩ := hrel
    subst hwr
    by_cases hlt : k < n
    · have hq : ws[k]? = some (ws[k]'(by rw [← HN.out]; exact hlt)) := List.getElem?_eq_getElem _
      generalize ws[k]'(by rw [← HN.out]; exact hlt) = y at hq
      have hkI : (k : Int) < (n : Int) := by omega
      obtain ⟨g, rfl, hc⟩ := HH.out k y hq
      unfold strV at hc
      have hs := str_eq y x
      have ht := hasW_step x hq
      rw [hI.out, Bool.false_or] at ht
      have HM : Hid (y = x → hasW ws x = true) := fun e => by subst e; exact hasW_of hq
      have HT : Hid _ := ht
      clear hq hI ht HH
      cases e : (y == x)
      · rw [e] at hs HT
        clear HM
        go_wp2
        go_roundw
        case rel => exact ⟨k + 1, by omega, by go_num, by first | rfl | trivial, HT⟩
        case measure => simp only [intOf]; go_num
      · rw [e] at hs HT
        have HT2 : Hid _ := HM.out (eq_of_beq e)
        clear HM
        go_wp2
        go_ret
        exact ⟨by rw [HT2.out]; rfl, rfl⟩
    · obtain rfl : k = n := by omega
      have := hI.out
      rw [HN.out, List.take_length] at this
      have HT2 : Hid _ := this
      clear this hI
      go_wp2
      go_ret
      exact ⟨by rw [HT2.out]; rfl, rfl⟩

/-! Words. -/
theorem piece_str (s : ByteArray) (f k : Nat) : (.string (s.extract f k) : Value) = strV (piece s (f, k)) := by
  unfold strV
  rw [← piece_extract s (f, k)]

theorem own_form {w : World} {B : Nat} {e : TypeId} {sz n : Nat} {v : Value} {xs : List Value} (h : w.ownsRow B e sz v n xs) : ∃ a c, v = .slice a n c := by
  rcases h.2 with ⟨h1, h2⟩ | ⟨g1, c1, _, h1, _⟩
  · exact ⟨none, 0, by rw [h1, h2]⟩
  · exact ⟨_, c1, h1⟩

/-- Behind k octets, the last word's begin f. -/
structure WrdAt (w : World) (s : ByteArray) (k f : Nat) (v : Value) (acc : List (List UInt8)) (wr : World) : Prop where
  own : wr.ownsRow w.heap.size 9 1 v acc.length (acc.map strV)
  below : Below w.heap.size w wr
  few : acc.length ≤ k
  le : f ≤ k
  rest : if k ≤ s.size then acc ++ wordsA (piece s (f, k)) (s.data.toList.drop k) = wordsL s.data.toList else acc = wordsL s.data.toList

theorem piece_nil (s : ByteArray) (k : Nat) : piece s (k, k) = [] := by unfold piece; simp
theorem WrdAt.plain {w wr w' : World} {s : ByteArray} {k f : Nat} {v : Value} {acc : List (List UInt8)} (h : WrdAt w s k f v acc wr) (hk : k < s.size) (hb : blB s[k] = false) (hw : w' = wr) : WrdAt w s (k + 1) f v acc w' := by
  subst hw
  refine ⟨h.own, h.below, by have := h.few; omega, by have := h.le; omega, ?_⟩
  have hs : s.data.toList.length = s.size := (Go.Lib.size_eq s).symm
  have hr := h.rest
  rw [if_pos (by omega)] at hr
  rw [if_pos (by omega), ← hr]
  have hd : s.data.toList.drop k = s[k] :: s.data.toList.drop (k + 1) := by
    rw [List.drop_eq_getElem_cons (by omega)]; rfl
  rw [hd, wordsA, hb]
  simp only [Bool.false_eq_true, if_false]
  have e := piece_more' s f k 1 h.le
  rw [hd] at e
  simp only [List.take_succ_cons, List.take_zero] at e
  rw [e]
theorem WrdAt.same {w wr w' : World} {s : ByteArray} {k f : Nat} {v : Value} {acc : List (List UInt8)} (h : WrdAt w s k f v acc wr) (hk : k ≤ s.size) (hb : ∀ hk : k < s.size, blB s[k] = true) (hw : w' = wr) (hf : ¬ f < k) : WrdAt w s (k + 1) (k + 1) v acc w' := by
  subst hw
  obtain rfl : f = k := by have := h.le; omega
  refine ⟨h.own, h.below, by have := h.few; omega, by omega, ?_⟩
  have hs : s.data.toList.length = s.size := (Go.Lib.size_eq s).symm
  have hr := h.rest
  rw [if_pos hk, piece_nil] at hr
  by_cases hlt : f < s.size
  · rw [if_pos (by omega), ← hr, piece_nil]
    have hd : s.data.toList.drop f = s[f] :: s.data.toList.drop (f + 1) := by
      rw [List.drop_eq_getElem_cons (by omega)]; rfl
    rw [hd, wordsA, hb hlt]
    simp
  · rw [if_neg (by omega), ← hr, List.drop_eq_nil_of_le (by omega)]
    simp [wordsA]
theorem WrdAt.word {w wr w1 w' : World} {s : ByteArray} {k f : Nat} {v v' : Value} {acc : List (List UInt8)} (h : WrdAt w s k f v acc wr) (hk : k ≤ s.size) (hb : ∀ hk : k < s.size, blB s[k] = true) (hf : f < k) (hb1 : Below wr.heap.size wr w1) (hg : w1.grownBy w' v.ownBlock)
    (hown : w'.ownsRow w.heap.size 9 1 v' (acc.length + 1) (acc.map strV ++ [.string (s.extract f k)])) : WrdAt w s (k + 1) (k + 1) v' (acc ++ [piece s (f, k)]) w' := by
  have hs : s.data.toList.length = s.size := (Go.Lib.size_eq s).symm
  have hr := h.rest
  rw [if_pos hk] at hr
  have hne := piece_ne' s f k hf hk
  refine ⟨?_, ?_, by have := h.few; simp; omega, by omega, ?_⟩
  · rw [piece_str] at hown
    simpa using hown
  · have hbs := h.below.size
    exact (h.below.trans (hb1.mono hbs)).grown hg (Nat.le_trans hbs hb1.size) (fun j e => (owns_lt h.own j e).1)
  · by_cases hlt : k < s.size
    · rw [if_pos (by omega), ← hr, piece_nil]
      have hd : s.data.toList.drop k = s[k] :: s.data.toList.drop (k + 1) := by
        rw [List.drop_eq_getElem_cons (by omega)]; rfl
      rw [hd, wordsA, hb hlt]
      simp [hne]
    · rw [if_neg (by omega), ← hr, List.drop_eq_nil_of_le (by omega)]
      simp [wordsA, hne]

set_option maxRecDepth 100000 in
set_option maxHeartbeats 4000000 in
theorem words_any (s : ByteArray) (w : World) (hs : s.size ≤ 9000) :
    Calls Try.prog 54 #[.string s] w fun e w' => ∃ a c, e = .returned (.slice a (wordsL s.data.toList).length c) ∧ Hid (w'.ownsRow w.heap.size 9 1 (.slice a (wordsL s.data.toList).length c) (wordsL s.data.toList).length ((wordsL s.data.toList).map strV) ∧ Below w.heap.size w w') := by
  obtain ⟨i0, hi, hz0, hz1, hz2⟩ := info_parts Try.infoStr
  have H0 : Hid (WrdAt w s 0 0 (.slice none 0 0) [] w) := ⟨World.ownsRow_nil _ _ _ _, Below.refl _ _, Nat.le_refl _, Nat.le_refl _, by rw [if_pos (Nat.zero_le _), piece_nil]; simp [wordsL]⟩
  go_enter Try.func54, Try.ntmps54
  go_wp2
  go_loopw [3, 4, 5] (fun v f i wr => ∃ (k g : Nat) (acc : List (List UInt8)), k ≤ s.size + 1 ∧ g ≤ k ∧ acc.length ≤ k ∧ (∃ a c, v = .slice a acc.length c) ∧ f = .int .i64 g ∧ i = .int .i64 k ∧ Hid (WrdAt w s k g v acc wr)) (fun _ _ i _ => s.size + 1 - (intOf i).toNat)
  case atStart => exact ⟨0, 0, [], Nat.zero_le _, Nat.le_refl _, Nat.le_refl _, ⟨none, 0, rfl⟩, rfl, rfl, H0⟩
  case round =>
    clear H0
    obtain ⟨k, g, acc, hk, hgk, hfew, ⟨a, c, rfl⟩, rfl, rfl, hI⟩ := hrel
    by_cases hle : k ≤ s.size
    · have hkI : (k : Int) ≤ (s.size : Int) := by omega
      have hgI : (g : Int) ≤ (k : Int) := by omega
      by_cases hlt : k < s.size
      · have hkI2 : (k : Int) < (s.size : Int) := by omega
        have hne : ((k : Int) == (s.size : Int)) = false := by rw [beq_eq_false_iff_ne]; omega
        have HC : Hid (∀ w, _) := fun w => refBlank_any s[k] w
        have HP : Hid (∀ w', blB s[k] = false → w' = wr → _) := fun w' hb hw => WrdAt.plain (w' := w') hI.out hlt hb hw
        have HS : Hid (∀ w', blB s[k] = true → w' = wr → ¬ g < k → _) := fun w' hb hw hf => WrdAt.same (w' := w') hI.out hle (fun _ => hb) hw hf
        have HW : Hid (∀ (w1 w' : World) (v' : Value), blB s[k] = true → g < k → _) := fun w1 w' v' hb hf => WrdAt.word (w1 := w1) (w' := w') (v' := v') hI.out hle (fun _ => hb) hf
        go_wp2_with fail
        refine Calls.mono (HC.out _) ?_
        rintro e w1 ⟨rfl, hw1⟩
        subst hw1
        clear HC
        generalize blB s[k] = b at *
        cases b with
        | false =>
          have HF : Hid _ := HP.out w1 rfl rfl
          clear HP HS HW
          go_wp2
          go_roundw
          case rel => exact ⟨k + 1, g, acc, by omega, by omega, by omega, ⟨_, _, rfl⟩, rfl, by go_num, HF⟩
          case measure => simp only [intOf]; go_num
        | true =>
          by_cases hgk2 : g < k
          · have hgI2 : (g : Int) < (k : Int) := by omega
            have hle2 : w.heap.size ≤ w1.heap.size := hI.out.below.size
            have hown := hI.out.own
            have HW2 : Hid _ := fun w1 w' v' => HW.out w1 w' v' rfl hgk2
            clear HP HS HW
            go_wp2_with (at_builtin; refine wpList_append_own _ rfl _ _ 54 rfl w.heap.size 9 i0 (.string ⟨#[]⟩) 1 16 Try.underlying54 hi hz0 hz1 hz2 rfl (by decide) _ _ _ rfl (hown.alloc _) ⟨w1.heap.size, 0, none⟩ 1 1 [.string (s.extract g k)] rfl rfl (cell_one_new _ _ _) (by intro u hu; simp at hu; subst hu; rfl) (by unfold maxLen; omega) (by omega) (by simp; omega) ?_; intro v' w2 hown' hgrow' _)
            have hf := own_form hown'
            obtain ⟨a2, c2, rfl⟩ := hf
            have HF : Hid _ := HW2.out _ w2 (.slice a2 (acc.length + 1) c2) ((Below.refl _ _).alloc (Nat.le_refl _) _) hgrow' hown'
            clear HW2 hown' hgrow' hown
            go_wp2
            go_roundw
            case rel => exact ⟨k + 1, k + 1, _, by omega, by omega, by simp; omega, ⟨a2, c2, by simp⟩, by go_num, by go_num, HF⟩
            case measure => simp only [intOf]; go_num
          · have hgI2 : ¬ (g : Int) < (k : Int) := by omega
            have HF : Hid _ := HS.out w1 rfl rfl hgk2
            clear HP HS HW
            go_wp2
            go_roundw
            case rel => exact ⟨k + 1, k + 1, acc, by omega, by omega, by omega, ⟨_, _, rfl⟩, by go_num, by go_num, HF⟩
            case measure => simp only [intOf]; go_num
      · obtain rfl : k = s.size := by omega
        have HS : Hid (∀ w', w' = wr → ¬ g < s.size → _) := fun w' hw hf => WrdAt.same (w' := w') hI.out hle (fun hk => absurd hk hlt) hw hf
        have HW : Hid (∀ (w1 w' : World) (v' : Value), g < s.size → _) := fun w1 w' v' hf => WrdAt.word (w1 := w1) (w' := w') (v' := v') hI.out hle (fun hk => absurd hk hlt) hf
        by_cases hgk2 : g < s.size
        · have hgI2 : (g : Int) < (s.size : Int) := by omega
          have hle2 : w.heap.size ≤ wr.heap.size := hI.out.below.size
          have hown := hI.out.own
          have HW2 : Hid _ := fun w1 w' v' => HW.out w1 w' v' hgk2
          clear HS HW
          go_wp2_with (at_builtin; refine wpList_append_own _ rfl _ _ 54 rfl w.heap.size 9 i0 (.string ⟨#[]⟩) 1 16 Try.underlying54 hi hz0 hz1 hz2 rfl (by decide) _ _ _ rfl (hown.alloc _) ⟨wr.heap.size, 0, none⟩ 1 1 [.string (s.extract g s.size)] rfl rfl (cell_one_new _ _ _) (by intro u hu; simp at hu; subst hu; rfl) (by unfold maxLen; omega) (by omega) (by simp; omega) ?_; intro v' w2 hown' hgrow' _)
          have hf := own_form hown'
          obtain ⟨a2, c2, rfl⟩ := hf
          have HF : Hid _ := HW2.out _ w2 (.slice a2 (acc.length + 1) c2) ((Below.refl _ _).alloc (Nat.le_refl _) _) hgrow' hown'
          clear HW2 hown' hgrow' hown
          go_wp2
          go_roundw
          case rel => exact ⟨s.size + 1, s.size + 1, _, by omega, by omega, by simp; omega, ⟨a2, c2, by simp⟩, by go_num, by go_num, HF⟩
          case measure => simp only [intOf]; go_num
        · have hgI2 : ¬ (g : Int) < (s.size : Int) := by omega
          have HF : Hid _ := HS.out wr rfl hgk2
          clear HS HW
          go_wp2
          go_roundw
          case rel => exact ⟨s.size + 1, s.size + 1, acc, by omega, by omega, by omega, ⟨_, _, rfl⟩, by go_num, by go_num, HF⟩
          case measure => simp only [intOf]; go_num
    · have hkI : ¬ (k : Int) ≤ (s.size : Int) := by omega
      have hacc : acc = wordsL s.data.toList := by have := hI.out.rest; rwa [if_neg hle] at this
      subst hacc
      have HF : Hid _ := And.intro hI.out.own hI.out.below
      clear hI
      go_wp2
      go_ret
      exact ⟨_, _, rfl, HF⟩
end Go.Proofs.Ytfpnaciookbpaaa
