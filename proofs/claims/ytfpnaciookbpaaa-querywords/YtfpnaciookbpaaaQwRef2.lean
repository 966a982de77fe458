/-
  The document's answer: tokens, and a text stripped.
-/
import Derived.Test.YtfpnaciookbpaaaQwRef
namespace Go.Proofs.Ytfpnaciookbpaaa
open Go.RowKit Go.Maps Go.Lib

structure TokAt (w0 w : World) (ws : List (List UInt8)) (sa : Option Addr) (k : Nat) (v : Value) (wr : World) : Prop where
  own : wr.ownsRow w0.heap.size 9 1 v (once (ws.take k)).length ((once (ws.take k)).map strV)
  below : Below w.heap.size w wr
  size : w0.heap.size ≤ wr.heap.size
  src : TxtsAt wr sa ws
  low : ∀ g, sa = some ⟨g, 0, none⟩ → g < w0.heap.size

theorem txts_below {w w' : World} {a : Option Addr} {ws : List (List UInt8)} (h : TxtsAt w a ws) (hb : ∀ g, a = some ⟨g, 0, none⟩ → w'.heap[g]? = w.heap[g]?) : TxtsAt w' a ws := by
  intro i x hx
  obtain ⟨g, e, hc⟩ := h i x hx
  exact ⟨g, e, (World.cell?_of_block (hb g e)).trans hc⟩

theorem TokAt.seen {w0 w wr w' : World} {ws : List (List UInt8)} {sa : Option Addr} {k : Nat} {v : Value} {x : List UInt8} (h : TokAt w0 w ws sa k v wr) (hx : ws[k]? = some x) (hs : hasW (once (ws.take k)) x = true) (hw : w' = wr) : TokAt w0 w ws sa (k + 1) v w' ∧ (once (ws.take (k + 1))).length = (once (ws.take k)).length := by
  subst hw
  have e : once (ws.take (k + 1)) = once (ws.take k) := by
    unfold hasW at hs
    rw [once_has] at hs
    rw [take_snoc ws k x hx, once_snoc, hs]
    simp
  exact ⟨⟨by rw [e]; exact h.own, h.below, h.size, h.src, h.low⟩, by rw [e]⟩
theorem TokAt.more {w0 w wr w1 w' : World} {ws : List (List UInt8)} {sa : Option Addr} {k : Nat} {v v' : Value} {x : List UInt8} (h : TokAt w0 w ws sa k v wr) (hw : w.heap.size ≤ w0.heap.size) (hx : ws[k]? = some x) (hs : hasW (once (ws.take k)) x = false) (hb1 : Below wr.heap.size wr w1) (hg : w1.grownBy w' v.ownBlock)
    (hown : w'.ownsRow w0.heap.size 9 1 v' ((once (ws.take k)).length + 1) ((once (ws.take k)).map strV ++ [strV x])) : TokAt w0 w ws sa (k + 1) v' w' ∧ (once (ws.take (k + 1))).length = (once (ws.take k)).length + 1 := by
  have e : once (ws.take (k + 1)) = once (ws.take k) ++ [x] := by
    unfold hasW at hs
    rw [once_has] at hs
    rw [take_snoc ws k x hx, once_snoc, hs]
    simp
  have hl : (once (ws.take (k + 1))).length = (once (ws.take k)).length + 1 := by rw [e]; simp
  have hbs := h.below.size
  have h0 := h.size
  have h1 := hb1.size
  have h2 := hg.size
  refine ⟨⟨?_, ?_, by omega, ?_, h.low⟩, hl⟩
  · rw [hl, e, List.map_append]
    exact hown
  · exact (h.below.trans (hb1.mono hbs)).grown hg (Nat.le_trans hbs hb1.size) (fun j e => by have := (owns_lt h.own j e).1; omega)
  · refine txts_below h.src (fun g eg => ?_)
    have hg0 := h.low g eg
    rw [hg.block g (by omega) (fun e2 => by have := (owns_lt h.own g e2.symm).1; omega)]
    exact hb1.block g (by omega)

set_option maxRecDepth 100000 in
set_option maxHeartbeats 4000000 in
theorem refTok_any (s : ByteArray) (w : World) (hs : s.size ≤ 9000) :
    Calls Try.prog 27 #[.string s] w fun e w' => ∃ a c, e = .returned (.slice a (once (wordsL s.data.toList)).length c) ∧ Hid (TxtsAt w' a (once (wordsL s.data.toList)) ∧ Below w.heap.size w w') := by
  obtain ⟨i0, hi, hz0, hz1, hz2⟩ := info_parts Try.infoStr
  have HW : Hid _ := words_any s w hs
  have hsl : s.data.toList.length = s.size := (Go.Lib.size_eq s).symm
  have hn : (wordsL s.data.toList).length ≤ 10000 := by have := words_few s.data.toList; omega
  clear hs hsl
  generalize wordsL s.data.toList = ws at *
  go_enter Try.func27, Try.ntmps27
  go_wp2_with fail
  refine Calls.mono HW.out ?_
  rintro e w0 ⟨sa, sc, rfl, h0⟩
  obtain ⟨e1, e2, e3⟩ := txts_of h0.out.1
  have H0 : Hid (TokAt w0 w ws sa 0 (.slice none 0 0) w0) := ⟨World.ownsRow_nil _ _ _ _, h0.out.2, Nat.le_refl _, e3, fun g eg => (owns_lt h0.out.1 g (by rw [eg]; rfl)).2⟩
  have hws : w.heap.size ≤ w0.heap.size := h0.out.2.size
  clear h0 e1 e3 HW
  go_wp2
  go_loopw [3, 5] (fun v i wr => ∃ k m : Nat, k ≤ ws.length ∧ m ≤ k ∧ i = .int .i64 k ∧ (∃ a c, v = .slice a m c) ∧ Hid ((once (ws.take k)).length = m ∧ TokAt w0 w ws sa k v wr)) (fun _ i _ => ws.length - (intOf i).toNat)
  case atStart => exact ⟨0, 0, Nat.zero_le _, Nat.le_refl _, rfl, ⟨none, 0, rfl⟩, And.intro (by simp [once, onceA]) H0.out⟩
  case round =>
    clear H0
    obtain ⟨k, m, hk, hmk, rfl, ⟨a, c, rfl⟩, hI⟩ := hrel
    by_cases hlt : k < ws.length
    · have hq : ws[k]? = some ws[k] := List.getElem?_eq_getElem _
      generalize ws[k] = x at hq
      have hkI : (k : Int) < (ws.length : Int) := by omega
      obtain ⟨g, hsa, hc⟩ := hI.out.2.src k x hq
      subst hsa
      have hown := hI.out.2.own
      rw [hI.out.1] at hown
      obtain ⟨f1, f2, f3⟩ := txts_of hown
      have HC : Hid _ := one_any a m c (once (ws.take k)) x wr f1 f3 (by omega)
      have HS : Hid (∀ w', hasW (once (ws.take k)) x = true → w' = wr → _) := fun w' h1 h2 => TokAt.seen (w' := w') hI.out.2 hq h1 h2
      have HM : Hid (∀ (w1 w' : World) (v' : Value), hasW (once (ws.take k)) x = false → _) := fun w1 w' v' h1 => TokAt.more (w1 := w1) (w' := w') (v' := v') hI.out.2 hws hq h1
      have hsz := hI.out.2.size
      rw [hI.out.1] at HS HM
      clear f1 f2 f3 hq hI
      generalize hasW (once (ws.take k)) x = b at *
      go_wp2_with fail
      refine Calls.mono HC.out ?_
      rintro e w1 ⟨rfl, hw1⟩
      subst hw1
      clear HC
      cases b with
      | true =>
        have HF : Hid _ := HS.out w1 rfl rfl
        clear HS HM
        go_wp2
        go_roundw
        case rel => exact ⟨k + 1, m, by omega, by omega, by go_num, ⟨_, _, rfl⟩, And.intro HF.out.2 HF.out.1⟩
        case measure => simp only [intOf]; go_num
      | false =>
        have HM2 : Hid _ := fun w1 w' v' => HM.out w1 w' v' rfl
        clear HS HM
        unfold strV at hc HM2 ⊢
        go_wp2_with (at_builtin; refine wpList_append_own _ rfl _ _ 54 rfl w0.heap.size 9 i0 (.string ⟨#[]⟩) 1 16 Try.underlying54 hi hz0 hz1 hz2 rfl (by decide) _ _ _ rfl (hown.alloc _) ⟨w1.heap.size, 0, none⟩ 1 1 [.string ⟨x.toArray⟩] rfl rfl (cell_one_new _ _ _) (by intro u hu; simp at hu; subst hu; rfl) (by unfold maxLen; omega) (by omega) (by simp; omega) ?_; intro v' w2 hown' hgrow' _)
        have hf := own_form hown'
        obtain ⟨a2, c2, rfl⟩ := hf
        have HF : Hid _ := HM2.out _ w2 (.slice a2 (m + 1) c2) ((Below.refl _ _).alloc (Nat.le_refl _) _) hgrow' hown'
        clear HM2 hown' hgrow' hown
        go_wp2
        go_roundw
        case rel => exact ⟨k + 1, m + 1, by omega, by omega, by go_num, ⟨_, _, rfl⟩, And.intro HF.out.2 HF.out.1⟩
        case measure => simp only [intOf]; go_num
    · obtain rfl : k = ws.length := by omega
      have hm := hI.out.1
      have hT := hI.out.2.own
      rw [List.take_length] at hm hT
      subst hm
      have HF : Hid (TxtsAt wr a (once ws) ∧ Below w.heap.size w wr) := ⟨(txts_of hT).2.2, hI.out.2.below⟩
      clear hI hT
      go_wp2
      go_ret
      exact ⟨_, _, rfl, HF⟩

theorem joinB_snoc : ∀ (ws : List (List UInt8)) (x : List UInt8), ws ≠ [] → joinB (ws ++ [x]) = joinB ws ++ 32 :: x
  | [], _, h => absurd rfl h
  | [w], x, _ => by
    rw [List.singleton_append, joinB_cons]
    unfold joinB
    rw [join_one, join_one]
  | w :: y :: ws, x, _ => by
    have ih := joinB_snoc (y :: ws) x (by simp)
    rw [List.cons_append, List.cons_append, joinB_cons, ← List.cons_append, ih, joinB_cons]
    simp
theorem join_take_le (ws : List (List UInt8)) (k : Nat) : (joinB (ws.take k)).length ≤ (joinB ws).length := by
  cases ws with
  | nil => simp
  | cons w r =>
    cases k with
    | zero => simp [joinB, join_nil]
    | succ k =>
      unfold joinB
      rw [List.take_succ_cons, join_cons, join_cons, List.length_append, List.length_append]
      have := joinTail_take_le [32] r k
      omega
theorem strip_step0 (ws : List (List UInt8)) (x : List UInt8) (hx : ws[0]? = some x) : (⟨(joinB (ws.take 0)).toArray⟩ : ByteArray) ++ (⟨x.toArray⟩ : ByteArray) = ⟨(joinB (ws.take (0 + 1))).toArray⟩ := by
  rw [take_snoc ws 0 x hx]
  simp only [List.take_zero, List.nil_append]
  unfold joinB
  rw [join_nil, join_one]
  apply ByteArray.ext
  simp
theorem strip_step (ws : List (List UInt8)) (k : Nat) (x : List UInt8) (hx : ws[k]? = some x) (hk : 0 < k) : (⟨(joinB (ws.take k)).toArray⟩ : ByteArray) ++ (⟨#[32]⟩ : ByteArray) ++ (⟨x.toArray⟩ : ByteArray) = ⟨(joinB (ws.take (k + 1))).toArray⟩ := by
  have hlt := (List.getElem?_eq_some_iff.1 hx).1
  rw [take_snoc ws k x hx, joinB_snoc _ _ (by intro e; have := congrArg List.length e; rw [List.length_take, List.length_nil] at this; omega)]
  apply ByteArray.ext
  simp

set_option maxRecDepth 100000 in
set_option maxHeartbeats 4000000 in
theorem refStrip_any (s : ByteArray) (w : World) (hs : s.size ≤ 9000) :
    Calls Try.prog 29 #[.string s] w fun e w' => e = .returned (strV (joinB (wordsL s.data.toList))) ∧ Below w.heap.size w w' := by
  have HW : Hid _ := words_any s w hs
  have hsl : s.data.toList.length = s.size := (Go.Lib.size_eq s).symm
  have hn : (wordsL s.data.toList).length ≤ 10000 := by have := words_few s.data.toList; omega
  have HJ : Hid (∀ k, (joinB ((wordsL s.data.toList).take k)).length ≤ 9000) := fun k => by have := join_take_le (wordsL s.data.toList) k; have := strip_le s.data.toList; omega
  have HX : Hid (∀ x ∈ wordsL s.data.toList, x.length ≤ 10000) := fun x hx => by have := word_le _ x hx; omega
  clear hs hsl
  generalize wordsL s.data.toList = ws at *
  unfold strV
  go_enter Try.func29, Try.ntmps29
  go_wp2_with fail
  refine Calls.mono HW.out ?_
  rintro e w0 ⟨sa, sc, rfl, h0⟩
  obtain ⟨e1, e2, e3⟩ := txts_of h0.out.1
  have HT : Hid _ := e3
  have HB : Hid _ := h0.out.2
  have H00 : Hid ((⟨#[]⟩ : ByteArray) = ⟨(joinB (ws.take 0)).toArray⟩) := by rw [List.take_zero]; exact (show (⟨#[]⟩ : ByteArray) = ⟨(joinB []).toArray⟩ from rfl)
  clear h0 e1 e3 HW
  go_wp2
  go_loopw [4, 5] (fun v i wr => ∃ k : Nat, k ≤ ws.length ∧ i = .int .i64 k ∧ wr = w0 ∧ ∃ y : ByteArray, v = .string y ∧ Hid (y = ⟨(joinB (ws.take k)).toArray⟩)) (fun _ i _ => ws.length - (intOf i).toNat)
  case atStart => exact ⟨0, Nat.zero_le _, rfl, rfl, _, rfl, H00⟩
  case round =>
    clear H00
    obtain ⟨k, hk, rfl, hwr, y, rfl, hy⟩ := hrel
    subst hwr
    by_cases hlt : k < ws.length
    · have hq : ws[k]? = some ws[k] := List.getElem?_eq_getElem _
      generalize ws[k] = x at hq
      have hkI : (k : Int) < (ws.length : Int) := by omega
      obtain ⟨g, hsa, hc⟩ := HT.out k x hq
      subst hsa
      unfold strV at hc
      have hy1 : y.size ≤ 9000 := by rw [hy.out]; exact Nat.le_trans (Nat.le_of_eq (by simp [ByteArray.size])) (HJ.out k)
      have hz1 : (⟨x.toArray⟩ : ByteArray).size ≤ 10000 := Nat.le_trans (Nat.le_of_eq (by simp [ByteArray.size])) (HX.out x (List.mem_of_getElem? hq))
      have hyz : (y ++ (⟨#[32]⟩ : ByteArray)).size = y.size + 1 := by rw [ByteArray.size_append]; rfl
      by_cases h0 : k = 0
      · have hst : Hid (y ++ (⟨x.toArray⟩ : ByteArray) = ⟨(joinB (ws.take (k + 1))).toArray⟩) := by subst h0; rw [hy.out]; exact strip_step0 ws x hq
        have hkp : ¬ (0 : Int) < (k : Int) := by omega
        generalize (⟨x.toArray⟩ : ByteArray) = z at *
        clear hq HT hy h0 HX HJ
        go_wp2
        go_roundw
        case rel => exact ⟨k + 1, by omega, by go_num, by first | rfl | trivial, _, rfl, hst⟩
        case measure => simp only [intOf]; go_num
      · have hst : Hid (y ++ (⟨#[32]⟩ : ByteArray) ++ (⟨x.toArray⟩ : ByteArray) = ⟨(joinB (ws.take (k + 1))).toArray⟩) := by rw [hy.out]; exact strip_step ws k x hq (by omega)
        have hkp : (0 : Int) < (k : Int) := by omega
        generalize (⟨x.toArray⟩ : ByteArray) = z at *
        clear hq HT hy h0 HX HJ
        go_wp2
        go_roundw
        case rel => exact ⟨k + 1, by omega, by go_num, by first | rfl | trivial, _, rfl, hst⟩
        case measure => simp only [intOf]; go_num
    · obtain rfl : k = ws.length := by omega
      have hy2 := hy.out
      rw [List.take_length] at hy2
      subst hy2
      clear hy
      go_wp2
      go_ret
      exact ⟨rfl, HB.out⟩
end Go.Proofs.Ytfpnaciookbpaaa
