/-
  What is in a scope; a node's place.
-/
import Derived.Test.YtalbiekleggkoaaStEnds
import Derived.Shelf.Abstract
namespace Go.Proofs.Ytalbiekleggkoaa
open Go.RowKit

def inP (sc : Int) (nm : ByteArray) (i : Itm) : Bool := i.name.toList == nm.toList || endsOf sc i.name
/-- Is an element of a name in a scope? -/
def inOf (sc : Int) (nm : ByteArray) (cs : List Itm) : Bool := match cs[(lastOf (inP sc nm) cs cs.length).toNat]? with
  | some c => decide (0 ≤ lastOf (inP sc nm) cs cs.length) && c.name.toList == nm.toList
  | none => false

set_option maxRecDepth 100000 in
set_option maxHeartbeats 2000000 in
theorem in1_any (b1 b2 : Nat) (sc : Int) (nm : ByteArray) (i : Itm) (w : World) (h1 : w.cell? ⟨b1, 0, none⟩ = some (.string nm)) (h2 : w.cell? ⟨b2, 0, none⟩ = some (.int .i64 sc)) :
    Calls Try.prog 51 (#[.agg #[.int .i64 i.node, .string i.name]] ++ #[.pointer (some ⟨b1, 0, none⟩), .pointer (some ⟨b2, 0, none⟩)]) w fun e w' => e = .returned (.bool (inP sc nm i)) ∧ Below w.heap.size w w' := by
  have HB : Hid (∀ o, Below w.heap.size w (w.alloc o)) := fun o => (Below.refl _ _).alloc (Nat.le_refl _) o
  have HE : Hid (∀ w, _) := fun w => ends_any sc i.name w
  have k1 : ∀ o, (w.alloc o).cell? ⟨b1, 0, none⟩ = some (.string nm) := fun o => ((HB.out o).cell (p := ⟨b1, 0, none⟩) (World.block_lt_of_cell? _ _ h1)).trans h1
  have k2 : ∀ o, (w.alloc o).cell? ⟨b2, 0, none⟩ = some (.int .i64 sc) := fun o => ((HB.out o).cell (p := ⟨b2, 0, none⟩) (World.block_lt_of_cell? _ _ h2)).trans h2
  clear h1 h2
  cases he : (i.name.toList == nm.toList)
  · have hr : inP sc nm i = endsOf sc i.name := by simp [inP, he]
    rw [hr]
    generalize endsOf sc i.name = r at *
    clear hr
    go_enter Try.func51, Try.ntmps51
    go_wp2_with fail
    refine Calls.mono (HE.out _) ?_
    rintro e w1 ⟨rfl, rfl⟩
    go_wp2
    go_ret
    exact ⟨rfl, HB.out _⟩
  · have hr : inP sc nm i = true := by simp [inP, he]
    rw [hr]
    clear hr
    go_enter Try.func51, Try.ntmps51
    go_wp2
    go_ret
    exact ⟨rfl, HB.out _⟩

theorem below_drawn {B : Nat} {a w : World} (h : Below B a w) (q : Nat) : Below B a (w.drewN q) := ⟨h.os, h.tape, h.output, h.size, h.block⟩

theorem enters_in1 : ∀ args w, (callFunc 51 args).run Try.prog w = .ok (.enter 51 args) w := enters_of Try.func51 (by kernel_rfl) rfl
theorem enters_find1 : ∀ args w, (callFunc 54 args).run Try.prog w = .ok (.enter 54 args) w := enters_of Try.func54 (by kernel_rfl) rfl

set_option maxRecDepth 100000 in
set_option maxHeartbeats 2000000 in
theorem find1_any (b1 : Nat) (n : Int) (i : Itm) (w : World) (h1 : w.cell? ⟨b1, 0, none⟩ = some (.int .i64 n)) :
    Calls Try.prog 54 (#[.agg #[.int .i64 i.node, .string i.name]] ++ #[.pointer (some ⟨b1, 0, none⟩)]) w fun e w' => e = .returned (.bool (i.node == n)) ∧ Below w.heap.size w w' := by
  have HB : Hid (∀ o, Below w.heap.size w (w.alloc o)) := fun o => (Below.refl _ _).alloc (Nat.le_refl _) o
  have k1 : ∀ o, (w.alloc o).cell? ⟨b1, 0, none⟩ = some (.int .i64 n) := fun o => ((HB.out o).cell (p := ⟨b1, 0, none⟩) (World.block_lt_of_cell? _ _ h1)).trans h1
  clear h1
  go_enter Try.func54, Try.ntmps54
  go_wp2
  go_ret
  exact ⟨rfl, HB.out _⟩

set_option maxRecDepth 100000 in
set_option maxHeartbeats 2000000 in
theorem find_any (s B : Nat) (v : Value) (cs : List Itm) (n : Int) (w : World) (h : StackAt w s B v cs) (hl : cs.length ≤ 1000000) :
    Calls Try.prog 22 #[.pointer (some ⟨s, 0, none⟩), .int .i64 n] w fun e w' => e = .returned (.int .i64 (lastOf (fun i => i.node == n) cs cs.length)) ∧ Below w.heap.size w w' := by
  have hb : Below w.heap.size w (w.alloc (.cells #[.int .i64 n] 3)) := (Below.refl _ _).alloc (Nat.le_refl _) _
  have k1 : (w.alloc (.cells #[.int .i64 n] 3)).cell? ⟨w.heap.size, 0, none⟩ = some (.int .i64 n) := World.cell?_alloc_at _ _ _ 0 rfl
  have HL : Hid _ := last_any s B 54 #[.pointer (some ⟨w.heap.size, 0, none⟩)] v cs (fun i => i.node == n) (w.alloc (.cells #[.int .i64 n] 3)) (h.below hb) hl enters_find1 (fun i _ w' hb' => (find1_any w.heap.size n i w' ((hb'.cell (p := ⟨w.heap.size, 0, none⟩) (World.block_lt_of_cell? _ _ k1)).trans k1)).mono (fun e w2 ⟨he, h2⟩ => ⟨he, hb'.trans (h2.mono hb'.size)⟩))
  have HB : Hid _ := hb
  obtain ⟨r, hr⟩ : ∃ r, lastOf (fun i => i.node == n) cs cs.length = r := ⟨_, rfl⟩
  rw [hr] at HL ⊢
  clear hb k1 hr h
  go_enter Try.func22, Try.ntmps22
  go_wp2_with fail
  refine Calls.mono HL.out ?_
  rintro e w1 ⟨rfl, hb1⟩
  have HB1 : Hid (Below w.heap.size w w1) := HB.out.trans (hb1.mono HB.out.size)
  clear hb1
  go_wp2
  go_ret
  exact ⟨rfl, HB1.out⟩

set_option maxRecDepth 100000 in
set_option maxHeartbeats 2000000 in
theorem in_any (s B : Nat) (v : Value) (cs : List Itm) (sc : Int) (nm : ByteArray) (w : World) (h : StackAt w s B v cs) (hl : cs.length ≤ 1000000) :
    Calls Try.prog 18 #[.pointer (some ⟨s, 0, none⟩), .int .i64 sc, .string nm] w fun e w' => e = .returned (.bool (inOf sc nm cs)) ∧ Below w.heap.size w w' := by
  have hb : Below w.heap.size w ((w.alloc (.cells #[.int .i64 sc] 3)).alloc (.cells #[.string nm] 9)) := ((Below.refl _ _).alloc (Nat.le_refl _) _).alloc (by simp) _
  have k1 : ((w.alloc (.cells #[.int .i64 sc] 3)).alloc (.cells #[.string nm] 9)).cell? ⟨w.heap.size + 1, 0, none⟩ = some (.string nm) := by
    have := World.cell?_alloc_at (w := w.alloc (.cells #[.int .i64 sc] 3)) #[.string nm] 9 _ 0 rfl
    rwa [World.size_alloc] at this
  have k2 : ((w.alloc (.cells #[.int .i64 sc] 3)).alloc (.cells #[.string nm] 9)).cell? ⟨w.heap.size, 0, none⟩ = some (.int .i64 sc) := by
    have h1 : Below (w.alloc (.cells #[.int .i64 sc] 3)).heap.size (w.alloc (.cells #[.int .i64 sc] 3)) ((w.alloc (.cells #[.int .i64 sc] 3)).alloc (.cells #[.string nm] 9)) := (Below.refl _ _).alloc (Nat.le_refl _) _
    rw [h1.cell (p := ⟨w.heap.size, 0, none⟩) (by show w.heap.size < _; simp)]
    exact World.cell?_alloc_at _ _ _ 0 rfl
  have HL : Hid _ := last_any s B 51 #[.pointer (some ⟨w.heap.size + 1, 0, none⟩), .pointer (some ⟨w.heap.size, 0, none⟩)] v cs (inP sc nm) _ (h.below hb) hl enters_in1 (fun i _ w' hb' => (in1_any (w.heap.size + 1) w.heap.size sc nm i w' ((hb'.cell (p := ⟨w.heap.size + 1, 0, none⟩) (World.block_lt_of_cell? _ _ k1)).trans k1) ((hb'.cell (p := ⟨w.heap.size, 0, none⟩) (World.block_lt_of_cell? _ _ k2)).trans k2)).mono (fun e w2 ⟨he, h2⟩ => ⟨he, hb'.trans (h2.mono hb'.size)⟩))
  have hlt := lastOf_lt (inP sc nm) cs cs.length
  have HR : Hid (inOf sc nm cs = match cs[(lastOf (inP sc nm) cs cs.length).toNat]? with
    | some c => decide (0 ≤ lastOf (inP sc nm) cs cs.length) && c.name.toList == nm.toList
    | none => false) := rfl
  have HS : Hid _ := h.below hb
  have HB : Hid _ := hb
  have hk : ((w.alloc (.cells #[.int .i64 sc] 3)).alloc (.cells #[.string nm] 9)).heap.size = w.heap.size + 1 + 1 := by simp
  generalize lastOf (inP sc nm) cs cs.length = r at HL hlt HR
  obtain ⟨z, hz⟩ : ∃ z, inOf sc nm cs = z := ⟨_, rfl⟩
  rw [hz]
  have HZ : Hid (inOf sc nm cs = z) := hz
  clear hz
  clear hb k2 h
  go_enter Try.func18, Try.ntmps18
  go_wp2_with fail
  refine Calls.mono HL.out ?_
  rintro e w1 ⟨rfl, hb1⟩
  have hS1 := HS.out.below hb1
  have k1' : w1.cell? ⟨w.heap.size + 1, 0, none⟩ = some (.string nm) := (hb1.cell (p := ⟨w.heap.size + 1, 0, none⟩) (World.block_lt_of_cell? _ _ k1)).trans k1
  have HB1 : Hid (Below w.heap.size w w1) := HB.out.trans (hb1.mono HB.out.size)
  clear hb1 k1 HL hk
  by_cases h0 : r < 0
  · have hr : inOf sc nm cs = false := by
      rw [HR.out]
      have : decide (0 ≤ r) = false := by simp; omega
      rw [this]
      split <;> rfl
    obtain rfl : z = false := HZ.out.symm.trans hr
    have hd : decide (0 ≤ r) = false := by simp; omega
    clear hr HR HS hS1 hlt HZ
    go_wp2_with fail
    go_quiet (fail)
    go_wp2
    go_ret
    exact ⟨rfl, below_drawn HB1.out _⟩
  · obtain ⟨k, rfl⟩ := Int.eq_ofNat_of_zero_le (show 0 ≤ r by omega)
    have hk : k < cs.length := by omega
    obtain ⟨c, hc⟩ : ∃ c, cs[k]? = some c := ⟨_, List.getElem?_eq_getElem hk⟩
    have hr : inOf sc nm cs = (c.name.toList == nm.toList) := by
      rw [HR.out]
      simp [hc]
    obtain rfl : z = (c.name.toList == nm.toList) := HZ.out.symm.trans hr
    rcases hS1.form2 with ⟨rfl, rfl⟩ | ⟨g, cp, rfl, hcap⟩
    · cases hc
    have c0 := hS1.c0
    have a1 : w1.cell? ⟨g, k * 2 + 1, none⟩ = some (.string c.name) := hS1.at hc rfl
    have hI : (k : Int) < (cs.length : Int) := by omega
    have hd : decide ((0 : Int) ≤ (k : Int)) = true := by simp
    clear hr HR HS hS1 hlt h0 hc HZ
    go_wp2_with fail
    go_quiet (fail)
    go_wp2
    go_ret
    exact ⟨rfl, below_drawn HB1.out _⟩
end Go.Proofs.Ytalbiekleggkoaa
