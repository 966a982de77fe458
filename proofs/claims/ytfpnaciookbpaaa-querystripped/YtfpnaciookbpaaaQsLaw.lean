/-
  What is stripped: the law's walk.
-/
import Derived.Test.YtfpnaciookbpaaaQwLaw
namespace Go.Proofs.Ytfpnaciookbpaaa
open Go.RowKit

theorem strip_once (l : List UInt8) : once (wordsL (joinB (wordsL l))) = once (wordsL l) := by rw [words_strip]
theorem strip_twice (l : List UInt8) : joinB (wordsL (joinB (wordsL l))) = joinB (wordsL l) := by rw [words_strip]
theorem str_ne {tk : List (List UInt8)} (h : tk.Pairwise (· ≠ ·)) {i k : Nat} {x y : List UInt8} (hk : k < i) (hx : tk[i]? = some x) (hy : tk[k]? = some y) : (y == x) = false := by
  have hi := (List.getElem?_eq_some_iff.1 hx).1
  have := List.pairwise_iff_getElem.1 h k i (by omega) hi hk
  rw [List.getElem?_eq_getElem hi] at hx
  rw [List.getElem?_eq_getElem (by omega)] at hy
  injection hx with hx
  injection hy with hy
  rw [hx, hy] at this
  simpa using this

theorem txts_later {w w' : World} {a : Option Addr} {ws : List (List UInt8)} (h : TxtsAt w a ws) (hb : Below w.heap.size w w') : TxtsAt w' a ws := fun i x hx => by
  obtain ⟨g, e, hc⟩ := h i x hx
  exact ⟨g, e, (hb.cell (p := ⟨g, i, none⟩) (World.block_lt_of_cell? _ _ hc)).trans hc⟩

set_option maxRecDepth 100000 in
set_option maxHeartbeats 4000000 in
theorem qstrip_law (s : ByteArray) (w : World) : Calls Try.prog 5 #[.string s] w fun e w' => e = .returned (.bool true) ∧ Below w.heap.size w w' := by
  by_cases hbig : 3000 < s.size
  · have hbI : (3000 : Int) < (s.size : Int) := by omega
    go_enter Try.func5, Try.ntmps5
    go_wp2_with fail
    refine Calls.mono (qSpeaks w) ?_
    rintro e w1 ⟨rfl, hb1⟩
    have HB1 : Hid (Below w.heap.size w w1) := hb1
    clear hb1
    go_wp2
    go_ret
    exact ⟨rfl, HB1.out⟩
  · have hbI : ¬ (3000 : Int) < (s.size : Int) := by omega
    have hsl : s.data.toList.length = s.size := (Go.Lib.size_eq s).symm
    have hst := strip_le s.data.toList
    obtain ⟨x, hx⟩ : ∃ x : ByteArray, x = ⟨(joinB (wordsL s.data.toList)).toArray⟩ := ⟨_, rfl⟩
    have hxl : x.data.toList = joinB (wordsL s.data.toList) := by rw [hx]
    have hxs : x.size ≤ s.size := by
      have : x.data.toList.length = x.size := (Go.Lib.size_eq x).symm
      rw [hxl] at this
      omega
    have hd1 : decide (s.size < x.size) = false := decide_eq_false (by omega)
    have hd2 : decide ((s.size : Int) < (x.size : Int)) = false := decide_eq_false (by omega)
    have HT : Hid (∀ w, _) := fun w => tokens_any s w (by omega)
    have HT2 : Hid (∀ w, _) := fun w => tokens_any x w (by omega)
    have HS : Hid (∀ w, _) := fun w => strip_any s w (by omega)
    have HS2 : Hid (∀ w, _) := fun w => strip_any x w (by omega)
    rw [hxl, strip_once] at HT2
    rw [hxl, strip_twice] at HS2
    unfold strV at HS HS2
    rw [← hx] at HS HS2
    have hfew : (once (wordsL s.data.toList)).length ≤ 10000 := by
      have h1 := once_len (wordsL s.data.toList)
      have h2 := words_few s.data.toList
      omega
    have HAP : Hid ((once (wordsL s.data.toList)).Pairwise (· ≠ ·)) := once_apart _
    clear hx hxl hsl hst
    generalize once (wordsL s.data.toList) = tk at *
    go_enter Try.func5, Try.ntmps5
    go_wp2_with fail
    refine Calls.mono (qSpeaks w) ?_
    rintro e w1 ⟨rfl, hb1⟩
    have HB1 : Hid (Below w.heap.size w w1) := hb1
    clear hb1
    go_wp2_with fail
    refine Calls.mono (HS.out _) ?_
    rintro e w2 ⟨rfl, h2⟩
    have HB2 : Hid (Below w.heap.size w w2) := HB1.out.trans (h2.mono HB1.out.size)
    clear h2 HS HB1
    go_wp2_with fail
    refine Calls.mono (HT.out _) ?_
    rintro e w3 ⟨A, r, c3, rfl, h3⟩
    have HB3 : Hid (Below w.heap.size w w3) := HB2.out.trans (h3.out.2.mono HB2.out.size)
    obtain ⟨e1, _, e3⟩ := txts_of h3.out.1
    subst e1
    have HA3 : Hid _ := e3
    clear h3 HB2 HT e3
    go_wp2_with fail
    refine Calls.mono (HT2.out _) ?_
    rintro e w4 ⟨A4, r4, c4, rfl, h4⟩
    have HB4 : Hid (Below w.heap.size w w4) := HB3.out.trans (h4.out.2.mono HB3.out.size)
    obtain ⟨e1, _, e3⟩ := txts_of h4.out.1
    subst e1
    have HA4 : Hid _ := e3
    have HA34 : Hid (TxtsAt w4 (some ⟨A, 0, none⟩) tk) := fun i x hx => by
      obtain ⟨g, e, hc⟩ := HA3.out i x hx
      exact ⟨g, e, (h4.out.2.cell (p := ⟨g, i, none⟩) (World.block_lt_of_cell? _ _ hc)).trans hc⟩
    clear h4 HB3 HT2 e3 HA3
    go_wp2_with fail
    refine Calls.mono (HS2.out _) ?_
    rintro e w5 ⟨rfl, h5⟩
    have HB5 : Hid (Below w.heap.size w w5) := HB4.out.trans (h5.mono HB4.out.size)
    have HI0 : Hid (CmpAt w (some ⟨A, 0, none⟩) (some ⟨A4, 0, none⟩) tk w5) := ⟨HB5.out, txts_later HA34.out h5, txts_later HA4.out h5⟩
    clear h5 HB4 HS2 HA4 HA34 HB5
    go_wp2
    go_loopw [6] (fun i wr => ∃ k : Nat, k ≤ tk.length ∧ i = .int .i64 k ∧ Hid (CmpAt w (some ⟨A, 0, none⟩) (some ⟨A4, 0, none⟩) tk wr)) (fun i _ => tk.length - (intOf i).toNat)
    case atStart => exact ⟨0, Nat.zero_le _, rfl, HI0⟩
    case round =>
      clear HI0
      obtain ⟨k, hk, rfl, hI⟩ := hrel
      by_cases hlt : k < tk.length
      · have hq : tk[k]? = some tk[k] := List.getElem?_eq_getElem _
        generalize tk[k] = y at hq
        have hkI : (k : Int) < (tk.length : Int) := by omega
        obtain ⟨g, hg, hc⟩ := hI.out.left k y hq
        injection hg with hg
        injection hg with hg _ _
        subst hg
        obtain ⟨g4, hg4, hc4⟩ := hI.out.right k y hq
        injection hg4 with hg4
        injection hg4 with hg4 _ _
        subst hg4
        unfold strV at hc hc4
        have HN : Hid _ := hI.out.drew
        have HQ : Hid _ := hq
        clear hq hI
        go_upto_region 12 with fail
        go_region
        clear hc hc4
        generalize wr.drew = wq at *
        go_wp2
        go_loopw [7] (fun j wi => ∃ m : Nat, m ≤ k ∧ j = .int .i64 m ∧ Hid (CmpAt w (some ⟨A, 0, none⟩) (some ⟨A4, 0, none⟩) tk wi)) (fun j _ => k - (intOf j).toNat)
        case atStart => exact ⟨0, Nat.zero_le _, rfl, HN⟩
        case round =>
          clear HN
          obtain ⟨m, hm, rfl, hJ⟩ := hrel
          by_cases hlt2 : m < k
          · have hq2 : tk[m]? = some (tk[m]'(by omega)) := List.getElem?_eq_getElem _
            generalize tk[m]'(by omega) = z at hq2
            have hmI : (m : Int) < (k : Int) := by omega
            have hmI2 : (m : Int) < (tk.length : Int) := by omega
            obtain ⟨g, hg, hc⟩ := hJ.out.left k y HQ.out
            injection hg with hg
            injection hg with hg _ _
            subst hg
            obtain ⟨g, hg, hc2⟩ := hJ.out.left m z hq2
            injection hg with hg
            injection hg with hg _ _
            subst hg
            unfold strV at hc hc2
            have hz := str_ne HAP.out hlt2 HQ.out hq2
            have HN : Hid _ := hJ.out.drew
            clear hq2 hJ
            go_upto_region 17 with fail
            go_region
            go_wp2
            go_roundw
            case rel => exact ⟨m + 1, by omega, by go_num, HN⟩
            case measure => simp only [intOf]; go_num
          · obtain rfl : m = k := by omega
            have HN : Hid _ := hJ.out
            clear hJ
            go_wp2
            go_roundw
            case rel => exact ⟨m + 1, by omega, by go_num, HN⟩
            case measure => simp only [intOf]; go_num
      · obtain rfl : k = tk.length := by omega
        have HB : Hid _ := hI.out.below
        clear hI
        go_wp2
        go_ret
        exact ⟨rfl, HB.out⟩
end Go.Proofs.Ytfpnaciookbpaaa
