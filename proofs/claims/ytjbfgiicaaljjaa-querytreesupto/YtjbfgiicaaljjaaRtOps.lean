/-
  The reference's functions on trees.
-/
import Derived.Test.YtjbfgiicaaljjaaRtBase
import Derived.Test.YtjbfgiicaaljjaaTfOps
import Derived.Laws.AppendOwnNone
namespace Go.Proofs.Ytjbfgiicaaljjaa
open Go.RowKit

set_option maxRecDepth 100000 in
set_option maxHeartbeats 2000000 in
theorem rIs_any (t B g cap : Nat) (cs : List RCel) (n : Int) (w : World) (hT : RTreeAt w t B g cap cs) :
    Calls Try.prog 36 #[.pointer (some ⟨t, 0, none⟩), .int .i64 n] w fun e w' => e = .returned (.bool (decide (0 ≤ n) && decide (n < (cs.length : Int)))) ∧ w' = w := by
  have c0 := hT.c0
  clear hT
  generalize hb : (decide (0 ≤ n) && decide (n < (cs.length : Int))) = b
  by_cases h0 : 0 ≤ n
  · by_cases h1 : n < (cs.length : Int)
    · have HE : Hid (b = true) := (by rw [← hb, decide_eq_true h0, decide_eq_true h1]; rfl : b = true)
      clear hb
      go_enter Try.func36, Try.ntmps36
      go_wp2
      go_ret
      exact ⟨by rw [HE.out]; rfl, rfl⟩
    · have HE : Hid (b = false) := (by rw [← hb, decide_eq_false h1, Bool.and_false] : b = false)
      clear hb
      go_enter Try.func36, Try.ntmps36
      go_wp2
      go_ret
      exact ⟨by rw [HE.out]; rfl, rfl⟩
  · have HE : Hid (b = false) := (by rw [← hb, decide_eq_false h0, Bool.false_and] : b = false)
    clear hb
    go_enter Try.func36, Try.ntmps36
    go_wp2
    go_ret
    exact ⟨by rw [HE.out]; rfl, rfl⟩

set_option maxRecDepth 100000 in
set_option maxHeartbeats 2000000 in
theorem rHolds_in (t B g cap : Nat) (cs : List RCel) (n : Nat) (c : RCel) (w : World) (hT : RTreeAt w t B g cap cs) (hn : cs[n]? = some c) :
    Calls Try.prog 85 #[.pointer (some ⟨t, 0, none⟩), .int .i64 (n : Int)] w fun e w' => e = .returned (.bool (c.kind == 0 || c.kind == 2)) ∧ w' = w := by
  have hlt := (List.getElem?_eq_some_iff.1 hn).1
  have HI := rIs_any t B g cap cs n w hT
  have e1 : (decide (0 ≤ (n : Int)) && decide ((n : Int) < (cs.length : Int))) = true := by simp; exact hlt
  rw [e1] at HI
  have HH : Hid _ := HI
  have c0 := hT.c0
  have ck : w.cell? ⟨g, n * 7 + 0, none⟩ = some (.int .i64 c.kind) := hT.at hn rfl
  rw [Nat.add_zero] at ck
  have hI : (n : Int) < (cs.length : Int) := by omega
  clear hT hn hlt HI e1
  by_cases h0 : c.kind = 0
  · rw [h0] at ck ⊢
    go_enter Try.func85, Try.ntmps85
    go_wp2_with fail
    refine Calls.mono HH.out ?_
    rintro e w1 ⟨rfl, rfl⟩
    go_wp2
    go_ret
    exact ⟨rfl, rfl⟩
  · have b0 : (c.kind == 0) = false := by rw [beq_eq_false_iff_ne]; exact h0
    by_cases h2 : c.kind = 2
    · rw [h2] at ck ⊢
      go_enter Try.func85, Try.ntmps85
      go_wp2_with fail
      refine Calls.mono HH.out ?_
      rintro e w1 ⟨rfl, rfl⟩
      go_wp2
      go_ret
      exact ⟨rfl, rfl⟩
    · have b2 : (c.kind == 2) = false := by rw [beq_eq_false_iff_ne]; exact h2
      go_enter Try.func85, Try.ntmps85
      go_wp2_with fail
      refine Calls.mono HH.out ?_
      rintro e w1 ⟨rfl, rfl⟩
      go_wp2
      go_ret
      exact ⟨by rw [b0, b2]; rfl, rfl⟩

set_option maxRecDepth 100000 in
set_option maxHeartbeats 2000000 in
theorem rMay_end (t B g cap : Nat) (cs : List RCel) (n : Nat) (c : RCel) (w : World) (hT : RTreeAt w t B g cap cs) (hn : cs[n]? = some c) :
    Calls Try.prog 74 #[.pointer (some ⟨t, 0, none⟩), .int .i64 (n : Int), .int .i64 (-1)] w fun e w' => e = .returned (.bool (c.kind == 0 || c.kind == 2)) ∧ w' = w := by
  have HH : Hid _ := rHolds_in t B g cap cs n c w hT hn
  clear hT hn
  generalize (c.kind == 0 || c.kind == 2) = b at *
  cases b with
  | true =>
    go_enter Try.func74, Try.ntmps74
    go_wp2_with fail
    refine Calls.mono HH.out ?_
    rintro e w1 ⟨rfl, rfl⟩
    go_wp2
    go_ret
    exact ⟨rfl, rfl⟩
  | false =>
    go_enter Try.func74, Try.ntmps74
    go_wp2_with fail
    refine Calls.mono HH.out ?_
    rintro e w1 ⟨rfl, rfl⟩
    go_wp2
    go_ret
    exact ⟨rfl, rfl⟩

/-- Parents stand ahead. -/
def UpOk (cs : List RCel) : Prop := ∀ (k : Nat) (c : RCel), cs[k]? = some c → c.parent = -1 ∨ ∃ b : Nat, c.parent = (b : Int) ∧ b < k

set_option maxRecDepth 100000 in
set_option maxHeartbeats 4000000 in
theorem rUnder_not (t B g cap : Nat) (cs : List RCel) (p n : Nat) (w : World) (hT : RTreeAt w t B g cap cs) (hU : UpOk cs) (hp : p < cs.length) (hpn : p < n) :
    Calls Try.prog 75 #[.pointer (some ⟨t, 0, none⟩), .int .i64 (p : Int), .int .i64 (n : Int)] w fun e w' => e = .returned (.bool false) ∧ w' = w := by
  have HT : Hid _ := hT
  have HU : Hid _ := hU
  have c0 := hT.c0
  clear hT hU
  go_enter Try.func75, Try.ntmps75
  go_wp2
  go_loopw [1] (fun v wr => wr = w ∧ (v = .int .i64 (-1) ∨ ∃ k : Nat, v = .int .i64 k ∧ k < n ∧ k < cs.length)) (fun v _ => (intOf v + 1).toNat)
  case atStart => exact ⟨rfl, .inr ⟨p, rfl, hpn, hp⟩⟩
  case round =>
    obtain ⟨hwr, hv⟩ := hrel
    subst hwr
    rcases hv with rfl | ⟨k, rfl, hk1, hk2⟩
    · go_wp2
      go_ret
      exact ⟨rfl, rfl⟩
    · have hc : cs[k]? = some cs[k] := List.getElem?_eq_getElem hk2
      have hne : ((k : Int) == (n : Int)) = false := by rw [beq_eq_false_iff_ne]; omega
      have hkI : (k : Int) < (cs.length : Int) := by omega
      have c5 : wr.cell? ⟨g, k * 7 + 5, none⟩ = some (.int .i64 cs[k].parent) := HT.out.at hc rfl
      rcases HU.out k cs[k] hc with hp1 | ⟨b, hp1, hb⟩
      · rw [hp1] at c5
        clear hc hp1
        go_wp2
        go_roundw
        case rel => exact ⟨by first | rfl | trivial, .inl rfl⟩
        case measure => simp only [intOf]; omega
      · rw [hp1] at c5
        clear hc hp1
        go_wp2
        go_roundw
        case rel => exact ⟨by first | rfl | trivial, .inr ⟨b, rfl, by omega, by omega⟩⟩
        case measure => simp only [intOf]; omega

set_option maxRecDepth 100000 in
set_option maxHeartbeats 2000000 in
theorem rPlace_none (a : Option Addr) (c : Nat) (B : Nat) (ks : List Nat) (w : World) (hO : w.ownsRow B 3 1 (.slice a ks.length c) ks.length (intC ks)) (hl : ks.length ≤ 1000000) :
    Calls Try.prog 86 #[.slice a ks.length c, .int .i64 (-1)] w fun e w' => e = .returned (.int .i64 (-1)) ∧ w' = w := by
  have HO : Hid _ := hO
  clear hO
  go_enter Try.func86, Try.ntmps86
  go_wp2
  go_loopw [5] (fun i wr => wr = w ∧ ∃ m : Nat, m ≤ ks.length ∧ i = .int .i64 m) (fun i _ => ks.length - (intOf i).toNat)
  case atStart => exact ⟨rfl, 0, Nat.zero_le _, rfl⟩
  case round =>
    obtain ⟨hwr, m, hm, rfl⟩ := hrel
    subst hwr
    by_cases hlt : m < ks.length
    · have hq : ks[m]? = some ks[m] := List.getElem?_eq_getElem hlt
      generalize ks[m] = k at hq
      have hmI : (m : Int) < (ks.length : Int) := by omega
      obtain ⟨gv, hga, hcell⟩ : ∃ gv, a = some ⟨gv, 0, none⟩ ∧ wr.cell? ⟨gv, m, none⟩ = some (.int .i64 (k : Int)) := by
        rcases HO.out.2 with ⟨e1, e2⟩ | ⟨g1, c1, cur, e1, _⟩
        · omega
        · injection e1 with e1 e2 e3
          subst e1
          exact ⟨g1, rfl, owns_at HO.out m _ (by unfold intC; rw [List.getElem?_map, hq]; rfl)⟩
      subst hga
      have hne : ((k : Int) == -1) = false := by rw [beq_eq_false_iff_ne]; omega
      clear hq
      go_wp2
      go_roundw
      case rel => exact ⟨by first | rfl | trivial, m + 1, by omega, by go_num⟩
      case measure => simp only [intOf]; go_num
    · obtain rfl : m = ks.length := by omega
      go_wp2
      go_ret
      exact ⟨rfl, rfl⟩

set_option maxRecDepth 100000 in
set_option maxHeartbeats 2000000 in
theorem rCut_none (t B g cap : Nat) (cs : List RCel) (n : Nat) (c : RCel) (w : World) (hT : RTreeAt w t B g cap cs) (hn : cs[n]? = some c) (hp : c.parent = -1) :
    Calls Try.prog 76 #[.pointer (some ⟨t, 0, none⟩), .int .i64 (n : Int)] w fun e w' => e = .returned (.tuple #[]) ∧ w' = w := by
  have hlt := (List.getElem?_eq_some_iff.1 hn).1
  have c0 := hT.c0
  have ck : w.cell? ⟨g, n * 7 + 5, none⟩ = some (.int .i64 (-1)) := by rw [← hp]; exact hT.at hn rfl
  have hI : (n : Int) < (cs.length : Int) := by omega
  clear hT hn hlt
  go_enter Try.func76, Try.ntmps76
  go_wp2
  exact bodyPost_ret (v := .tuple #[]) (by simp [results, Try.results76, go_sem]) rfl ⟨rfl, rfl⟩
end Go.Proofs.Ytjbfgiicaaljjaa
