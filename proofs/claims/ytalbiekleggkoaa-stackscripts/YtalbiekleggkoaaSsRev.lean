/-
  A row of items cloned; one turned round.
-/
import Derived.Test.YtalbiekleggkoaaSsLay
import Derived.BigRegion
namespace Go.Proofs.Ytalbiekleggkoaa
open Go.RowKit

theorem itms_lit (w : World) : (w.alloc (.cells #[] 31)).ownsRow w.heap.size 31 2 (.slice (some ⟨w.heap.size, 0, none⟩) 0 0) 0 [] :=
  ⟨rfl, .inr ⟨w.heap.size, 0, #[], rfl, Nat.le_refl _, heap_alloc_new w _, Nat.le_refl _, by unfold maxLen; omega, rfl, rfl⟩⟩

set_option maxRecDepth 100000 in
set_option maxHeartbeats 4000000 in
theorem cloneI_any (a : Option Addr) (n cap : Nat) (l : List Itm) (w : World) (hn : n = l.length) (hs : ∀ j u, (l.flatMap itmC)[j]? = some u → ∃ a0, a = some a0 ∧ w.cell? (a0.add j) = some u) (hlen : l.length ≤ 1000000) (hcap : n ≤ cap) :
    Calls Try.prog 53 #[.slice a n cap] w fun e w' => ∃ a' c', e = .returned (.slice a' n c') ∧ Hid (w'.ownsRow w.heap.size 31 2 (.slice a' n c') l.length (l.flatMap itmC) ∧ Below w.heap.size w w') := by
  obtain ⟨i0, hi, hz0, hz1, hz2⟩ := info_parts Try.infoItm
  subst hn
  have hq : ∀ (a : Option Addr) (n c : Nat) (w : World), (binOp .eql 24 (.slice a n c) (.slice none 0 0)).run Try.prog w = .ok (.bool a.isNone) w := fun a n c w => Lib.run_eql_slice_nil w _ _ a n c 0 0 Try.underlying24
  cases a with
  | none =>
    have h0 : l = [] := by
      cases l with
      | nil => rfl
      | cons x l =>
        obtain ⟨a0, e, _⟩ := hs 0 (.int .i64 x.node) rfl
        cases e
    subst h0
    clear hs hcap
    go_enter Try.func53, Try.ntmps53
    go_wp2
    go_ret
    exact ⟨_, _, rfl, World.ownsRow_nil _ _ _ _, Below.refl _ _⟩
  | some a0 =>
    have HB : Hid (Below w.heap.size w (w.alloc (.cells #[] 31))) := (Below.refl _ _).alloc (Nat.le_refl _) _
    have HC : Hid (∀ j u, (l.flatMap itmC)[j]? = some u → (w.alloc (.cells #[] 31)).cell? (a0.add j) = some u) := fun j u hj => by
      obtain ⟨a1, e, hc⟩ := hs j u hj
      injection e with e
      subst e
      exact (HB.out.cell (World.block_lt_of_cell? _ _ hc)).trans hc
    have hI : (l.length : Int) ≤ (cap : Int) := by omega
    have HL : Hid ((l.flatMap itmC).length = l.length * 2) := iflat_len l
    have HO : Hid _ := itm_one l
    clear hs hcap
    go_enter Try.func53, Try.ntmps53
    go_wp2_with (at_builtin; refine wpList_append_own _ rfl _ _ 24 rfl w.heap.size 31 i0 (.agg #[.int .i64 0, .string ⟨#[]⟩]) 2 24 Try.underlying24 hi hz0 hz1 hz2 rfl (by decide) _ 0 _ rfl (itms_lit w) a0 l.length cap (l.flatMap itmC) rfl HL.out HC.out HO.out (by unfold maxLen; omega) (by omega) (by simp) ?_)
    intro v' w' hown' hgrow _
    have hX : w'.ownsRow w.heap.size 31 2 v' l.length (l.flatMap itmC) := by simpa using hown'
    have HG : Hid (Below w.heap.size w w') := HB.out.grown hgrow (by simp) (fun k hk => by simp [Value.ownBlock] at hk; omega)
    have hf : ∃ a' c', v' = .slice a' l.length c' := by
      rcases hX.2 with ⟨h1, h2⟩ | ⟨g', cap', cur, h1, _⟩
      · exact ⟨none, 0, by rw [h1, h2]⟩
      · exact ⟨_, _, h1⟩
    obtain ⟨a', c', rfl⟩ := hf
    have HW : Hid _ := hX
    clear hown' hgrow hX
    go_wp2
    go_ret
    exact ⟨_, _, rfl, HW.out, HG.out⟩

theorem iflat_set (m : List Itm) : ∀ (i : Nat) (x : Itm), i < m.length → ((m.flatMap itmC).set (i * 2) (.int .i64 x.node)).set (i * 2 + 1) (.string x.name) = (m.set i x).flatMap itmC := by
  induction m with
  | nil => intro i x h; simp at h
  | cons c m ih =>
    intro i x h
    match i with
    | 0 => rfl
    | i + 1 =>
      rw [List.flatMap_cons, List.set_append, if_neg (by rw [itmC_len]; omega), List.set_append, if_neg (by rw [itmC_len]; omega), itmC_len, show (i + 1) * 2 - 2 = i * 2 by omega, show (i + 1) * 2 + 1 - 2 = i * 2 + 1 by omega, ih i x (by simpa using h)]
      rfl

/-- A row half turned round. -/
def HalfR (l m : List Itm) (k : Nat) : Prop := m.length = l.length ∧ ∀ t, t < l.length → m[t]? = if t < k ∨ l.length - k ≤ t then l[l.length - 1 - t]? else l[t]?
theorem HalfR.start (l : List Itm) : HalfR l l 0 := ⟨rfl, fun t ht => by rw [if_neg (by omega)]⟩
theorem HalfR.step {l m : List Itm} {k : Nat} {x y : Itm} (h : HalfR l m k) (hk : k < l.length - 1 - k) (hx : m[k]? = some x) (hy : m[l.length - 1 - k]? = some y) : HalfR l ((m.set k y).set (l.length - 1 - k) x) (k + 1) := by
  have hx' := h.2 k (by omega)
  have hy' := h.2 (l.length - 1 - k) (by omega)
  rw [if_neg (by omega)] at hx' hy'
  refine ⟨by simp [h.1], fun t ht => ?_⟩
  rw [List.getElem?_set, List.getElem?_set]
  by_cases h1 : l.length - 1 - k = t
  · rw [if_pos h1, if_pos (by simp [h.1]; omega), if_pos (by omega), ← h1, show l.length - 1 - (l.length - 1 - k) = k by omega, ← hx', hx]
  · rw [if_neg h1]
    by_cases h2 : k = t
    · rw [if_pos h2, if_pos (by rw [h.1]; omega), if_pos (by omega), ← h2, ← hy', hy]
    · rw [if_neg h2, h.2 t ht]
      by_cases h3 : t < k ∨ l.length - k ≤ t
      · rw [if_pos h3, if_pos (by omega)]
      · rw [if_neg h3, if_neg (by omega)]
theorem HalfR.done {l m : List Itm} {k : Nat} (h : HalfR l m k) (hk : ¬ k < l.length - 1 - k) : m = l.reverse := by
  refine List.ext_getElem? fun t => ?_
  by_cases ht : t < l.length
  · rw [h.2 t ht, List.getElem?_reverse ht]
    split
    · rfl
    · congr 1
      omega
  · rw [List.getElem?_eq_none (by rw [h.1]; omega), List.getElem?_eq_none (by simp; omega)]

set_option maxRecDepth 100000 in
set_option maxHeartbeats 4000000 in
theorem reverse_any (B g n cap : Nat) (l : List Itm) (w : World) (hO : w.ownsRow B 31 2 (.slice (some ⟨g, 0, none⟩) n cap) n (l.flatMap itmC)) (hn : n = l.length) (hl : n ≤ 1000000) :
    Calls Try.prog 70 #[.slice (some ⟨g, 0, none⟩) n cap] w fun e w' => e = .returned (.tuple #[]) ∧ Hid (w'.ownsRow B 31 2 (.slice (some ⟨g, 0, none⟩) n cap) n (l.reverse.flatMap itmC) ∧ Kept (fun k => k = g) w w') := by
  have HO : Hid _ := hO
  have HN : Hid (n = l.length) := hn
  clear hO hn
  go_enter Try.func70, Try.ntmps70
  go_wp2
  go_loopw [2, 3] (fun i j wr => ∃ k : Nat, 2 * k ≤ n + 1 ∧ i = .int .i64 k ∧ j = .int .i64 ((n : Int) - 1 - k) ∧ ∃ m, Hid (HalfR l m k ∧ wr.ownsRow B 31 2 (.slice (some ⟨g, 0, none⟩) n cap) n (m.flatMap itmC) ∧ Kept (fun k => k = g) w wr)) (fun i _ _ => n - (intOf i).toNat)
  case atStart => exact ⟨0, by omega, rfl, by go_num, l, HalfR.start l, HO.out, Kept.refl _ _⟩
  case round =>
    clear HO
    obtain ⟨k, hk, rfl, rfl, m, HM⟩ := hrel
    by_cases hlt : (k : Int) < (n : Int) - 1 - k
    · have hml : m.length = n := by rw [HN.out]; exact HM.out.1.1
      obtain ⟨x, hx⟩ : ∃ x, m[k]? = some x := ⟨_, List.getElem?_eq_getElem (by omega)⟩
      obtain ⟨y, hy⟩ : ∃ y, m[n - 1 - k]? = some y := ⟨_, List.getElem?_eq_getElem (by omega)⟩
      obtain ⟨j, hj⟩ : ∃ j : Nat, (n : Int) - 1 - k = (j : Int) := ⟨n - 1 - k, by omega⟩
      have hjn : n - 1 - k = j := by omega
      rw [hjn] at hy
      rw [hj] at hlt ⊢
      have a0 : wr.cell? ⟨g, k * 2 + 0, none⟩ = some (.int .i64 x.node) := owns_at HM.out.2.1 _ _ (iflat_at m k 0 x _ hx rfl)
      have a1 : wr.cell? ⟨g, k * 2 + 1, none⟩ = some (.string x.name) := owns_at HM.out.2.1 _ _ (iflat_at m k 1 x _ hx rfl)
      have b0 : wr.cell? ⟨g, j * 2 + 0, none⟩ = some (.int .i64 y.node) := owns_at HM.out.2.1 _ _ (iflat_at m j 0 y _ hy rfl)
      have b1 : wr.cell? ⟨g, j * 2 + 1, none⟩ = some (.string y.name) := owns_at HM.out.2.1 _ _ (iflat_at m j 1 y _ hy rfl)
      have fz : ∀ t, wr.frozen? ⟨g, t, none⟩ = false := fun t => owns_fz HM.out.2.1 t
      rw [Nat.add_zero] at a0 b0
      have hkI : (k : Int) < (n : Int) := by omega
      have hjI : (j : Int) < (n : Int) := by omega
      have ne1 : ¬ k * 2 = j * 2 := by omega
      have ne2 : ¬ k * 2 + 1 = j * 2 := by omega
      have ne3 : ¬ k * 2 = j * 2 + 1 := by omega
      have HX : Hid (HalfR l ((m.set k y).set j x) (k + 1) ∧ ((((wr.setCell ⟨g, k * 2, none⟩ (.int .i64 y.node)).setCell ⟨g, k * 2 + 1, none⟩ (.string y.name)).setCell ⟨g, j * 2, none⟩ (.int .i64 x.node)).setCell ⟨g, j * 2 + 1, none⟩ (.string x.name)).drew.ownsRow B 31 2 (.slice (some ⟨g, 0, none⟩) n cap) n (((m.set k y).set j x).flatMap itmC) ∧ Kept (fun k => k = g) w ((((wr.setCell ⟨g, k * 2, none⟩ (.int .i64 y.node)).setCell ⟨g, k * 2 + 1, none⟩ (.string y.name)).setCell ⟨g, j * 2, none⟩ (.int .i64 x.node)).setCell ⟨g, j * 2 + 1, none⟩ (.string x.name)).drew) := by
        have hjl : l.length - 1 - k = j := by have := HN.out; omega
        have h1 := HM.out.1.step (x := x) (y := y) (by have := HN.out; omega) hx (by rw [hjl]; exact hy)
        rw [hjl] at h1
        refine ⟨h1, World.ownsRow.drew ?_, ?_⟩
        · have s := owns_set (owns_set (owns_set (owns_set HM.out.2.1 (k * 2) (.int .i64 y.node)) (k * 2 + 1) (.string y.name)) (j * 2) (.int .i64 x.node)) (j * 2 + 1) (.string x.name)
          rw [iflat_set m k y (by omega), iflat_set (m.set k y) j x (by simp; omega)] at s
          exact s
        · exact ((((HM.out.2.2.store ⟨g, k * 2, none⟩ rfl _).store ⟨g, k * 2 + 1, none⟩ rfl _).store ⟨g, j * 2, none⟩ rfl _).store ⟨g, j * 2 + 1, none⟩ rfl _).draws 1
      clear hx hy HM hml hjn
      go_upto_region 3 with fail
      go_region
      all_goals
        clear a0 a1 b0 b1 fz ne1 ne2 ne3
        go_wp2
        go_roundw
        case rel => exact ⟨k + 1, by omega, by go_num, by go_num, _, HX⟩
        case measure => simp only [intOf]; go_num
    · have hkl : ¬ k < l.length - 1 - k := by have := HN.out; omega
      have HE : Hid (m = l.reverse) := HM.out.1.done hkl
      have HR : Hid (wr.ownsRow B 31 2 (.slice (some ⟨g, 0, none⟩) n cap) n (l.reverse.flatMap itmC) ∧ Kept (fun k => k = g) w wr) := by
        rw [← HE.out]
        exact HM.out.2
      clear HM HE hkl
      go_wp2
      go_end0
      exact ⟨rfl, HR⟩
end Go.Proofs.Ytalbiekleggkoaa
