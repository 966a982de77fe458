/-
  What comes in, and what is reckoned of it; the reference's New.
-/
import Derived.Test.YtjbfgiicaaljjaaTmTwo
namespace Go.Proofs.Ytjbfgiicaaljjaa
open Go.RowKit

/-- What comes in for a node. -/
structure Mr where
  kind : Int
  par : Int
  name : ByteArray
  data : ByteArray
  attr : ByteArray
  value : ByteArray
structure MrsAt (w : World) (sa : Option Addr) (Z : List Mr) : Prop where
  at' : ∀ (i : Nat) (m : Mr), Z[i]? = some m → ∃ a0, sa = some a0 ∧ w.cell? (a0.add (i * 6)) = some (.int .i64 m.kind) ∧ w.cell? ⟨(a0.add (i * 6)).block, (a0.add (i * 6)).off + 1, none⟩ = some (.int .i64 m.par) ∧ w.cell? ⟨(a0.add (i * 6)).block, (a0.add (i * 6)).off + 2, none⟩ = some (.string m.name) ∧
    w.cell? ⟨(a0.add (i * 6)).block, (a0.add (i * 6)).off + 3, none⟩ = some (.string m.data) ∧ w.cell? ⟨(a0.add (i * 6)).block, (a0.add (i * 6)).off + 4, none⟩ = some (.string m.attr) ∧ w.cell? ⟨(a0.add (i * 6)).block, (a0.add (i * 6)).off + 5, none⟩ = some (.string m.value)
theorem MrsAt.below {w w' : World} {sa : Option Addr} {Z : List Mr} (h : MrsAt w sa Z) (hb : Below w.heap.size w w') : MrsAt w' sa Z := by
  refine ⟨fun i p hi => ?_⟩
  obtain ⟨a0, e, c0, c1, c2, c3, c4, c5⟩ := h.at' i p hi
  have k : ∀ (q : Addr) u, w.cell? q = some u → w'.cell? q = some u := fun q u hq => (hb.cell (World.block_lt_of_cell? _ _ hq)).trans hq
  exact ⟨a0, e, k _ _ c0, k _ _ c1, k _ _ c2, k _ _ c3, k _ _ c4, k _ _ c5⟩

theorem ofInt_u64 (k : Nat) (hk : k < 18446744073709551616) : (BitVec.ofInt 64 (k : Int)).toNat = k := by
  rw [BitVec.toNat_ofInt]
  omega
theorem i64_mask3 (n : Int) : ∃ y : Nat, y < 4 ∧ bits .and .i64 n 3 = (y : Int) := by
  have e : bits .and .i64 n 3 = IntKind.i64.wrap ((BitVec.ofInt 64 n &&& BitVec.ofInt 64 ((3 : Nat) : Int)).toNat : Int) := rfl
  rw [e, BitVec.toNat_and, ofInt_u64 3 (by omega)]
  have h := Nat.and_two_pow_sub_one_eq_mod (BitVec.ofInt 64 n).toNat 2
  have h2 : (BitVec.ofInt 64 n).toNat &&& 3 = (BitVec.ofInt 64 n).toNat % 4 := h
  rw [h2]
  generalize (BitVec.ofInt 64 n).toNat = m
  refine ⟨m % 4, Nat.mod_lt _ (by decide), ?_⟩
  simp only [IntKind.wrap, IntKind.bits, IntKind.signed]
  simp
  omega
/-- The kind, as it is reckoned. -/
theorem kind_ok (k : Int) : 1 ≤ wrap64 (1 + bits BinOp.and IntKind.i64 (wrap64 (k - 1)) 3) ∧ wrap64 (1 + bits BinOp.and IntKind.i64 (wrap64 (k - 1)) 3) ≤ 4 := by
  obtain ⟨y, hy, e⟩ := i64_mask3 (wrap64 (k - 1))
  rw [e]
  unfold wrap64
  omega
/-- The number of the parent, as it is reckoned. -/
theorem pos_ok (p : Int) (k : Nat) (hk : k ≤ 100) : ∃ q : Nat, q ≤ k ∧ (wrap64 (wrap64 (p.tmod ((k : Int) + 1) + (k : Int)) + 1)).tmod ((k : Int) + 1) = (q : Int) := by
  have hpos : (0 : Int) < (k : Int) + 1 := by omega
  have h1 : p.tmod ((k : Int) + 1) < (k : Int) + 1 := Int.tmod_lt_of_pos p hpos
  have h2 : -((k : Int) + 1) < p.tmod ((k : Int) + 1) := by
    have h3 := Int.tmod_lt_of_pos (-p) hpos
    rw [Int.neg_tmod] at h3
    omega
  generalize p.tmod ((k : Int) + 1) = r at *
  have e : wrap64 (wrap64 (r + (k : Int)) + 1) = r + (k : Int) + 1 := by unfold wrap64; omega
  rw [e]
  have h3 := Int.tmod_lt_of_pos (r + (k : Int) + 1) hpos
  have h4 := Int.tmod_nonneg ((k : Int) + 1) (show 0 ≤ r + (k : Int) + 1 by omega)
  exact ⟨((r + (k : Int) + 1).tmod ((k : Int) + 1)).toNat, by omega, by omega⟩

/-- Two attributes in a block of their own. -/
theorem atts_lit2 (w : World) (a b : Att) : (w.alloc (.cells #[.string a.name, .string a.value, .string b.name, .string b.value] 67)).ownsRow w.heap.size 67 2 (.slice (some ⟨w.heap.size, 0, none⟩) 2 2) 2 ([a, b].flatMap attC) :=
  ⟨rfl, .inr ⟨w.heap.size, 2, #[.string a.name, .string a.value, .string b.name, .string b.value], rfl, Nat.le_refl _, heap_alloc_new w _, Nat.le_refl _, by unfold maxLen; omega, rfl, rfl⟩⟩
theorem ratts_lit2 (w : World) (B : Nat) (hB : B ≤ w.heap.size) (a b : Att) : (w.alloc (.cells #[.string a.name, .string a.value, .string b.name, .string b.value] 77)).ownsRow B 77 2 (.slice (some ⟨w.heap.size, 0, none⟩) 2 2) 2 ([a, b].flatMap attC) :=
  ⟨rfl, .inr ⟨w.heap.size, 2, #[.string a.name, .string a.value, .string b.name, .string b.value], rfl, hB, heap_alloc_new w _, Nat.le_refl _, by unfold maxLen; omega, rfl, rfl⟩⟩

set_option maxRecDepth 100000 in
set_option maxHeartbeats 2000000 in
theorem rNew_any (w : World) : Calls Try.prog 25 #[] w fun e w' => e = .returned (.pointer (some ⟨w.heap.size + 1, 0, none⟩)) ∧ RFamAt w' (w.heap.size + 1) w.heap.size w.heap.size 1 [docNd] [⟨0, 0, ⟨#[]⟩, ⟨#[]⟩, .slice none 0 0, -1, .slice none 0 0⟩] ∧ Below w.heap.size w w' := by
  have hone : ∀ {α : Type} (a b : α) (i : Nat), ([a] : List α)[i]? = some b → i = 0 ∧ b = a := fun a b i h => by
    match i, h with
    | 0, h => exact ⟨rfl, by simpa using h.symm⟩
    | (i + 1), h => simp at h
  have HE : Hid (RFamAt ((w.alloc (.cells #[.int .i64 0, .int .i64 0, .string ⟨#[]⟩, .string ⟨#[]⟩, .slice none 0 0, .int .i64 (-1), .slice none 0 0] 80)).alloc (.cells #[.slice (some ⟨w.heap.size, 0, none⟩) 1 1] 35)) (w.heap.size + 1) w.heap.size w.heap.size 1 [docNd] [⟨0, 0, ⟨#[]⟩, ⟨#[]⟩, .slice none 0 0, -1, .slice none 0 0⟩] ∧ Below w.heap.size w ((w.alloc (.cells #[.int .i64 0, .int .i64 0, .string ⟨#[]⟩, .string ⟨#[]⟩, .slice none 0 0, .int .i64 (-1), .slice none 0 0] 80)).alloc (.cells #[.slice (some ⟨w.heap.size, 0, none⟩) 1 1] 35))) := by
    have hs : (w.alloc (.cells #[.int .i64 0, .int .i64 0, .string ⟨#[]⟩, .string ⟨#[]⟩, .slice none 0 0, .int .i64 (-1), .slice none 0 0] 80)).heap.size = w.heap.size + 1 := by simp
    refine ⟨⟨⟨?_, ?_, by omega, by decide⟩, rfl, fun i c x hc hx => ?_, fun i c x hc hx => ?_, fun i c x hc hx => ?_, fun i c x hc hx => ?_⟩, ((Below.refl _ _).alloc (Nat.le_refl _) _).alloc (by rw [hs]; omega) _⟩
    · have h := heap_alloc_new (w.alloc (.cells #[.int .i64 0, .int .i64 0, .string ⟨#[]⟩, .string ⟨#[]⟩, .slice none 0 0, .int .i64 (-1), .slice none 0 0] 80)) (.cells #[.slice (some ⟨w.heap.size, 0, none⟩) 1 1] 35)
      rw [hs] at h
      exact h
    · refine ⟨rfl, .inr ⟨w.heap.size, 1, #[.int .i64 0, .int .i64 0, .string ⟨#[]⟩, .string ⟨#[]⟩, .slice none 0 0, .int .i64 (-1), .slice none 0 0], rfl, Nat.le_refl _, ?_, Nat.le_refl _, by unfold maxLen; omega, rfl, rfl⟩⟩
      rw [heap_alloc_old _ _ (by rw [hs]; omega)]
      exact heap_alloc_new w _
    · obtain ⟨_, rfl⟩ := hone _ _ _ hc
      obtain ⟨_, rfl⟩ := hone _ _ _ hx
      exact ⟨rfl, rfl, rfl, rfl, rfl⟩
    · obtain ⟨_, rfl⟩ := hone _ _ _ hc
      obtain ⟨_, rfl⟩ := hone _ _ _ hx
      exact World.ownsRow_nil _ _ _ _
    · obtain ⟨_, rfl⟩ := hone _ _ _ hc
      obtain ⟨_, rfl⟩ := hone _ _ _ hx
      exact World.ownsRow_nil _ _ _ _
    · obtain ⟨_, rfl⟩ := hone _ _ _ hc
      intro _
      rfl
  clear hone
  go_enter Try.func25, Try.ntmps25
  go_wp2
  go_ret
  exact ⟨rfl, HE.out.1, HE.out.2⟩

theorem dom_fam {w : World} {t B g cap : Nat} (h : TreeAt w t B g cap [docCel]) : FamAt w t B g cap [docNd] [docCel] := by
  have hone : ∀ {α : Type} (a b : α) (i : Nat), ([a] : List α)[i]? = some b → i = 0 ∧ b = a := fun a b i h => by
    match i, h with
    | 0, h => exact ⟨rfl, by simpa using h.symm⟩
    | (i + 1), h => simp at h
  refine ⟨h, rfl, fun i c x hc hx => ?_, fun i c x hc hx => ?_, fun i c x hc hx => ?_, fun i j ci cj k hi hj hne e => ?_, fun i c x hc hx => ?_⟩
  · obtain ⟨_, rfl⟩ := hone _ _ _ hc
    obtain ⟨_, rfl⟩ := hone _ _ _ hx
    exact ⟨rfl, rfl, rfl, rfl, rfl, rfl, rfl⟩
  · obtain ⟨_, rfl⟩ := hone _ _ _ hc
    obtain ⟨_, rfl⟩ := hone _ _ _ hx
    exact World.ownsRow_nil _ _ _ _
  · obtain ⟨_, rfl⟩ := hone _ _ _ hc
    obtain ⟨_, rfl⟩ := hone _ _ _ hx
    exact World.ownsRow_nil _ _ _ _
  · obtain ⟨h1, _⟩ := hone _ _ _ hi
    obtain ⟨h2, _⟩ := hone _ _ _ hj
    omega
  · obtain ⟨_, rfl⟩ := hone _ _ _ hc
    intro _
    rfl

end Go.Proofs.Ytjbfgiicaaljjaa
