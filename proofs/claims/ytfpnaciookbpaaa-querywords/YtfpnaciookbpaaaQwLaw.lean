/-
  Words: the law's walk.
-/
import Derived.Test.YtfpnaciookbpaaaQuSpeaks
namespace Go.Proofs.Ytfpnaciookbpaaa
open Go.RowKit

/-- Two rows of the same words. -/
structure CmpAt (w : World) (a b : Option Addr) (tk : List (List UInt8)) (wr : World) : Prop where
  below : Below w.heap.size w wr
  left : TxtsAt wr a tk
  right : TxtsAt wr b tk
theorem CmpAt.drew {w wr : World} {a b : Option Addr} {tk : List (List UInt8)} (h : CmpAt w a b tk wr) : CmpAt w a b tk wr.drew := ⟨h.below.drew, h.left, h.right⟩

set_option maxRecDepth 100000 in
set_option maxHeartbeats 4000000 in
theorem qwords_law (s : ByteArray) (w : World) : Calls Try.prog 4 #[.string s] w fun e w' => e = .returned (.bool true) ∧ Below w.heap.size w w' := by
  by_cases hbig : 3000 < s.size
  · have hbI : (3000 : Int) < (s.size : Int) := by omega
    go_enter Try.func4, Try.ntmps4
    go_wp2_with fail
    refine Calls.mono (qSpeaks w) ?_
    rintro e w1 ⟨rfl, hb1⟩
    have HB1 : Hid (Below w.heap.size w w1) := hb1
    clear hb1
    go_wp2
    go_ret
    exact ⟨rfl, HB1.out⟩
  · have hbI : ¬ (3000 : Int) < (s.size : Int) := by omega
    have HT : Hid (∀ w, _) := fun w => tokens_any s w (by omega)
    have HR : Hid (∀ w, _) := fun w => refTok_any s w (by omega)
    have HS : Hid (∀ w, _) := fun w => strip_any s w (by omega)
    have HQ : Hid (∀ w, _) := fun w => refStrip_any s w (by omega)
    have hfew : (once (wordsL s.data.toList)).length ≤ 10000 := by
      have h1 := once_len (wordsL s.data.toList)
      have h2 := words_few s.data.toList
      have hsl : s.data.toList.length = s.size := (Go.Lib.size_eq s).symm
      omega
    generalize once (wordsL s.data.toList) = tk at *
    generalize joinB (wordsL s.data.toList) = st at *
    go_enter Try.func4, Try.ntmps4
    go_wp2_with fail
    refine Calls.mono (qSpeaks w) ?_
    rintro e w1 ⟨rfl, hb1⟩
    have HB1 : Hid (Below w.heap.size w w1) := hb1
    clear hb1
    go_wp2_with fail
    refine Calls.mono (HT.out _) ?_
    rintro e w2 ⟨A, r, c2, rfl, h2⟩
    have HB2 : Hid (Below w.heap.size w w2) := HB1.out.trans (h2.out.2.mono HB1.out.size)
    obtain ⟨e1, _, e3⟩ := txts_of h2.out.1
    subst e1
    have HA2 : Hid _ := e3
    clear h2 HB1 HT e3
    go_wp2_with fail
    refine Calls.mono (HR.out _) ?_
    rintro e w3 ⟨a3, c3, rfl, h3⟩
    have HB3 : Hid (Below w.heap.size w w3) := HB2.out.trans (h3.out.2.mono HB2.out.size)
    have HA3 : Hid (TxtsAt w3 (some ⟨A, 0, none⟩) tk) := fun i x hx => by
      obtain ⟨g, e, hc⟩ := HA2.out i x hx
      exact ⟨g, e, (h3.out.2.cell (p := ⟨g, i, none⟩) (World.block_lt_of_cell? _ _ hc)).trans hc⟩
    have HI0 : Hid (CmpAt w (some ⟨A, 0, none⟩) a3 tk w3) := ⟨HB3.out, HA3.out, h3.out.1⟩
    clear h3 HB2 HA2 HR HB3 HA3
    go_wp2
    go_loopw [5] (fun i wr => ∃ k : Nat, k ≤ tk.length ∧ i = .int .i64 k ∧ Hid (CmpAt w (some ⟨A, 0, none⟩) a3 tk wr)) (fun i _ => tk.length - (intOf i).toNat)
    case atStart => exact ⟨0, Nat.zero_le _, rfl, HI0⟩
    case round =>
      clear HI0
      obtain ⟨k, hk, rfl, hI⟩ := hrel
      by_cases hlt : k < tk.length
      · have hq : tk[k]? = some tk[k] := List.getElem?_eq_getElem _
        generalize tk[k] = x at hq
        have hkI : (k : Int) < (tk.length : Int) := by omega
        obtain ⟨g, hg, hc⟩ := hI.out.left k x hq
        injection hg with hg
        injection hg with hg _ _
        subst hg
        obtain ⟨g3, rfl, hc3⟩ := hI.out.right k x hq
        unfold strV at hc hc3
        have HN : Hid _ := hI.out.drew
        clear hq hI HS HQ
        go_upto_region 11 with fail
        go_region
        go_wp2
        go_roundw
        case rel => exact ⟨k + 1, by omega, by go_num, HN⟩
        case measure => simp only [intOf]; go_num
      · obtain rfl : k = tk.length := by omega
        have HB3 : Hid _ := hI.out.below
        clear hI
        go_wp2_with fail
        refine Calls.mono (HS.out _) ?_
        rintro e w4 ⟨rfl, h4⟩
        have HB4 : Hid (Below w.heap.size w w4) := HB3.out.trans (h4.mono HB3.out.size)
        clear h4 HB3 HS
        go_wp2_with fail
        refine Calls.mono (HQ.out _) ?_
        rintro e w5 ⟨rfl, h5⟩
        have HB5 : Hid (Below w.heap.size w w5) := HB4.out.trans (h5.mono HB4.out.size)
        clear h5 HB4 HQ
        unfold strV
        go_wp2
        go_ret
        exact ⟨rfl, HB5.out⟩
end Go.Proofs.Ytfpnaciookbpaaa
