/-
  The value of an attribute of a node.
-/
import Derived.Test.YtjbfgiicaaljjaaDmNoneA
import Derived.Shelf.Abstract
namespace Go.Proofs.Ytjbfgiicaaljjaa
open Go.RowKit

/-- A row of attributes, wherever it lies. -/
def AttsAt (w : World) (a : Option Addr) (l : List Att) : Prop := ∀ i x, l[i]? = some x → ∃ g, a = some ⟨g, 0, none⟩ ∧ w.cell? ⟨g, i * 2, none⟩ = some (.string x.name) ∧ w.cell? ⟨g, i * 2 + 1, none⟩ = some (.string x.value)
theorem atts_of {w : World} {B n c : Nat} {a : Option Addr} {l : List Att} (h : w.ownsRow B 67 2 (.slice a n c) n (l.flatMap attC)) : n = l.length ∧ n ≤ c ∧ AttsAt w a l := by
  have h1 := h.1
  rw [attflat_len] at h1
  rcases h.2 with ⟨hv, h0⟩ | ⟨g, cap, cur, hv, hg, hh, hc, rest⟩
  · injection hv with e1 e2 e3
    refine ⟨by omega, by omega, fun i x hx => ?_⟩
    have := (List.getElem?_eq_some_iff.1 hx).1
    omega
  · injection hv with e1 e2 e3
    subst e1 e3
    refine ⟨by omega, hc, fun i x hx => ⟨g, rfl, owns_at h _ _ (att_at l i x hx).1, owns_at h _ _ (att_at l i x hx).2⟩⟩
theorem AttsAt.below {w w' : World} {a : Option Addr} {l : List Att} (h : AttsAt w a l) (hb : Below w.heap.size w w') : AttsAt w' a l := by
  intro i x hx
  obtain ⟨g, e, c0, c1⟩ := h i x hx
  exact ⟨g, e, (hb.cell (p := ⟨g, i * 2, none⟩) (World.block_lt_of_cell? _ _ c0)).trans c0, (hb.cell (p := ⟨g, i * 2 + 1, none⟩) (World.block_lt_of_cell? _ _ c1)).trans c1⟩

def isN (name : ByteArray) (a : Att) : Bool := a.name.toList == name.toList
def findA (l : List Att) (name : ByteArray) : Option Att := l.find? (isN name)
theorem findA_none_snoc {l : List Att} {k : Nat} {x : Att} {name : ByteArray} (h : findA (l.take k) name = none) (hx : l[k]? = some x) : (isN name x = false → findA (l.take (k + 1)) name = none) ∧ (isN name x = true → findA l name = some x) := by
  have ht : l.take (k + 1) = l.take k ++ [x] := by rw [List.take_add_one, hx]; rfl
  unfold findA at *
  refine ⟨fun e => ?_, fun e => ?_⟩
  · rw [ht, List.find?_append, h]
    simp [e]
  · have hs : l = l.take k ++ x :: l.drop (k + 1) := by
      have hlt := (List.getElem?_eq_some_iff.1 hx).1
      have e2 : l.drop k = x :: l.drop (k + 1) := by
        rw [List.drop_eq_getElem_cons hlt]
        congr 1
        rw [List.getElem?_eq_getElem hlt] at hx
        injection hx
      rw [← e2, List.take_append_drop]
    rw [hs, List.find?_append, h]
    simp [e]

theorem enters_val : ∀ args w, (callFunc 40 args).run Try.prog w = .ok (.enter 40 args) w := enters_of Try.func40 (by kernel_rfl) rfl

set_option maxRecDepth 100000 in
set_option maxHeartbeats 2000000 in
theorem isN_any (nb : Nat) (name : ByteArray) (x : Att) (w : World) (hn : w.cell? ⟨nb, 0, none⟩ = some (.string name)) :
    Calls Try.prog 40 #[.agg #[.string x.name, .string x.value], .pointer (some ⟨nb, 0, none⟩)] w fun e w' => e = .returned (.bool (isN name x)) ∧ Below w.heap.size w w' := by
  have d0 : ∀ o, (w.alloc o).cell? ⟨nb, 0, none⟩ = some (.string name) := fun o => by rw [World.cell?_alloc_old _ _ _ (Nat.ne_of_lt (World.block_lt_of_cell? _ _ hn))]; exact hn
  have HB : Hid (∀ o, Below w.heap.size w (w.alloc o)) := fun o => (Below.refl _ _).alloc (Nat.le_refl _) o
  clear hn
  unfold isN
  go_enter Try.func40, Try.ntmps40
  go_wp2
  go_ret
  exact ⟨rfl, HB.out _⟩

/-- The place of the first of a name. -/
structure FindP (w : World) (l : List Att) (name : ByteArray) (r : Int) (w' : World) : Prop where
  below : Below w.heap.size w w'
  or : (r = -1 ∧ findA l name = none) ∨ ∃ (i : Nat) (x : Att), r = (i : Int) ∧ l[i]? = some x ∧ findA l name = some x

set_option maxRecDepth 100000 in
set_option maxHeartbeats 4000000 in
theorem findA_any (a : Option Addr) (n c nb : Nat) (l : List Att) (name : ByteArray) (w : World) (hn : n = l.length) (h : AttsAt w a l) (hnb : w.cell? ⟨nb, 0, none⟩ = some (.string name)) (hl : n ≤ 1000000) :
    Calls Try.prog 39 #[.slice a n c, .func (.func 40) #[] #[.pointer (some ⟨nb, 0, none⟩)]] w fun e w' => ∃ r, e = .returned (.int .i64 r) ∧ Hid (FindP w l name r w') := by
  have HH : Hid _ := h
  have HN : Hid _ := hn
  have HNB : Hid _ := hnb
  have heg := enters_val
  have H0 : Hid (Below w.heap.size w w ∧ findA (l.take 0) name = none) := ⟨Below.refl _ _, rfl⟩
  clear h hn hnb
  go_enter Try.func39, Try.ntmps39
  go_wp2
  go_loopw [8] (fun i wr => ∃ k : Nat, k ≤ n ∧ i = .int .i64 k ∧ Hid (Below w.heap.size w wr ∧ findA (l.take k) name = none)) (fun i _ => n - (intOf i).toNat)
  case atStart => exact ⟨0, Nat.zero_le _, rfl, H0⟩
  case round =>
    clear H0
    obtain ⟨k, hk, rfl, hI⟩ := hrel
    by_cases hlt : k < n
    · have hq : l[k]? = some (l[k]'(by rw [← HN.out]; exact hlt)) := List.getElem?_eq_getElem _
      generalize l[k]'(by rw [← HN.out]; exact hlt) = x at hq
      have hkI : (k : Int) < (n : Int) := by omega
      obtain ⟨g, ha, c0, c1⟩ := (AttsAt.below HH.out hI.out.1) k x hq
      have hnb : wr.cell? ⟨nb, 0, none⟩ = some (.string name) := (hI.out.1.cell (p := ⟨nb, 0, none⟩) (World.block_lt_of_cell? _ _ HNB.out)).trans HNB.out
      have HC : Hid _ := isN_any nb name x wr hnb
      have HS : Hid _ := findA_none_snoc hI.out.2 hq
      have HB : Hid _ := hI.out.1
      have HQ : Hid _ := hq
      subst ha
      clear hI hq hnb
      generalize isN name x = b at *
      go_wp2_with fail
      refine Calls.mono HC.out ?_
      rintro e w1 ⟨rfl, h1⟩
      have hb1 := HB.out.trans (h1.mono HB.out.size)
      cases b with
      | true =>
        have HF : Hid (FindP w l name (k : Int) w1) := ⟨hb1, .inr ⟨k, x, rfl, HQ.out, HS.out.2 rfl⟩⟩
        clear HC HS HB h1 hb1
        go_wp2
        go_ret
        exact ⟨_, rfl, HF⟩
      | false =>
        have HF : Hid (Below w.heap.size w w1 ∧ findA (l.take (k + 1)) name = none) := ⟨hb1, HS.out.1 rfl⟩
        clear HC HS HB h1 hb1
        go_wp2
        go_roundw
        case rel => exact ⟨k + 1, by omega, by go_num, HF⟩
        case measure => simp only [intOf]; go_num
    · obtain rfl : k = n := by omega
      have hf := hI.out.2
      rw [HN.out, List.take_length] at hf
      have HF : Hid (FindP w l name (-1) wr) := ⟨hI.out.1, .inl ⟨rfl, hf⟩⟩
      clear hI hf
      go_wp2
      go_ret
      exact ⟨_, rfl, HF⟩
end Go.Proofs.Ytjbfgiicaaljjaa
