/-
  The state between the steps of a round.
-/
import Derived.Test.YtjbfgiicaaljjaaTmNew
import Derived.Test.YtjbfgiicaaljjaaTxMath
namespace Go.Proofs.Ytjbfgiicaaljjaa
open Go.RowKit

def mdOf (m : Mr) (q : Nat) : Md := ⟨m.kind, m.par, m.name, m.data, m.attr, m.value, wrap64 (1 + bits BinOp.and IntKind.i64 (wrap64 (m.kind - 1)) 3), q⟩
theorem mdOk_of (m : Mr) (q k : Nat) (hq : q ≤ k) (hd : m.data.size ≤ 9223372036854775807) : MdOk (mdOf m q) k := ⟨(kind_ok m.kind).1, (kind_ok m.kind).2, hq, hd⟩

/-- The cells of what was read. -/
def MBox (w : World) (mb : Nat) (m : Mr) : Prop := w.heap[mb]? = some (.cells #[.int .i64 m.kind, .int .i64 m.par, .string m.name, .string m.data, .string m.attr, .string m.value] 75 (0, 0))
theorem MBox.c {w : World} {mb : Nat} {m : Mr} (h : MBox w mb m) : w.cell? ⟨mb, 0, none⟩ = some (.int .i64 m.kind) ∧ w.cell? ⟨mb, 1, none⟩ = some (.int .i64 m.par) ∧ w.cell? ⟨mb, 2, none⟩ = some (.string m.name) ∧ w.cell? ⟨mb, 3, none⟩ = some (.string m.data) ∧ w.cell? ⟨mb, 4, none⟩ = some (.string m.attr) ∧ w.cell? ⟨mb, 5, none⟩ = some (.string m.value) := by
  unfold MBox at h
  refine ⟨?_, ?_, ?_, ?_, ?_, ?_⟩ <;> simp [World.cell?, h]
theorem MBox.below {w w' : World} {mb : Nat} {m : Mr} (h : MBox w mb m) (hb : Below w.heap.size w w') : MBox w' mb m := (hb.block mb (Array.getElem?_eq_some_iff.1 h).1).trans h
theorem MBox.others {w w' : World} {mb : Nat} {m : Mr} (h : MBox w mb m) (ho : Others w w') : MBox w' mb m := (ho mb _ ⟨_, _, h⟩ (by decide) (by decide) (by decide) (by decide) (by decide)).trans h

/-- The state between the steps of a round. -/
structure MidAt (B t u mb : Nat) (ns ns' : List Nd) (m : Mr) (w0 w : World) : Prop where
  two : TwoAt B t u ns ns' w
  box : MBox w mb m
  below : Below B w0 w

theorem mid_make {B t u mb : Nat} {ns ns' : List Nd} {m : Mr} {w0 w : World} (h : MidAt B t u mb ns ns' m w0 w) (hl : ns.length ≤ 200) :
    Calls Try.prog 32 #[.pointer (some ⟨t, 0, none⟩), .agg #[.int .i64 (mdOf m 0).knd, .int .i64 0, .string m.name, .string m.data, .slice (some ⟨w.heap.size, 0, none⟩) 2 2]] (w.alloc (.cells #[.string m.attr, .string m.value, .string ⟨#[97]⟩, .string m.data] 67)) fun e w' => e = .returned (.int .i64 (ns.length : Int)) ∧ Hid (MidAt B t u mb (ns ++ [ndOf (mdOf m 0)]) ns' m w0 w') := by
  have hb : Below w.heap.size w (w.alloc (.cells #[.string m.attr, .string m.value, .string ⟨#[97]⟩, .string m.data] 67)) := (Below.refl _ _).alloc (Nat.le_refl _) _
  refine (two_make (h.two.below hb) (atts_lit2 w ⟨m.attr, m.value⟩ ⟨⟨#[97]⟩, m.data⟩) (show 2 ≤ 1000000 by omega) (kind_ok m.kind).1 (kind_ok m.kind).2 (by omega)).mono ?_
  rintro e w' ⟨he, h1, h2, h3⟩
  exact ⟨he, h1, (h.box.below hb).others h3, (h.below.trans (hb.mono h.two.le)).trans h2⟩
theorem mid_rmake {B t u mb : Nat} {ns ns' : List Nd} {m : Mr} {w0 w : World} (h : MidAt B t u mb ns ns' m w0 w) (hl : ns'.length ≤ 200) :
    Calls Try.prog 34 #[.pointer (some ⟨u, 0, none⟩), .agg #[.int .i64 (mdOf m 0).knd, .int .i64 0, .string m.name, .string m.data, .slice (some ⟨w.heap.size, 0, none⟩) 2 2, .int .i64 0, .slice none 0 0]] (w.alloc (.cells #[.string m.attr, .string m.value, .string ⟨#[97]⟩, .string m.data] 77)) fun e w' => e = .returned (.int .i64 (ns'.length : Int)) ∧ Hid (MidAt B t u mb ns (ns' ++ [ndOf (mdOf m 0)]) m w0 w') := by
  have hb : Below w.heap.size w (w.alloc (.cells #[.string m.attr, .string m.value, .string ⟨#[97]⟩, .string m.data] 77)) := (Below.refl _ _).alloc (Nat.le_refl _) _
  refine (two_rmake (h.two.below hb) (ratts_lit2 w B h.two.le ⟨m.attr, m.value⟩ ⟨⟨#[97]⟩, m.data⟩) (kind_ok m.kind).1 (kind_ok m.kind).2 (by omega)).mono ?_
  rintro e w' ⟨he, h1, h2, h3⟩
  exact ⟨he, h1, (h.box.below hb).others h3, (h.below.trans (hb.mono h.two.le)).trans h2⟩

theorem mid_put {B t u mb q : Nat} {ns : List Nd} {m : Mr} {w0 w : World} (h : MidAt B t u mb (ns ++ [ndOf (mdOf m 0)]) (ns ++ [ndOf (mdOf m 0)]) m w0 w) (hok : NsTree ns) (h0 : 0 < ns.length) (hq : q < ns.length) :
    Calls Try.prog 31 #[.pointer (some ⟨t, 0, none⟩), .int .i64 (ns.length : Int), .int .i64 (q : Int), .int .i64 (-1)] w fun e w' => ∃ r, e = .returned (.int .i64 r) ∧ Hid (MidAt B t u mb (stepN ns (mdOf m q)) (ns ++ [ndOf (mdOf m 0)]) m w0 w') := by
  have hxp : (ns ++ [ndOf (mdOf m 0)])[q]? = some ns[q] := by rw [List.getElem?_append_left hq]; exact List.getElem?_eq_getElem hq
  have hf := hok.few q ns[q] (List.getElem?_eq_getElem hq)
  refine (two_put h.two (snoc_last ns _) hxp (by omega) h0 rfl rfl (by omega)).mono ?_
  rintro e w' ⟨r, he, h1, h2, h3⟩
  exact ⟨r, he, h1, h.box.others h3, h.below.trans h2⟩
theorem mid_rput {B t u mb q : Nat} {ns ns2 : List Nd} {m : Mr} {w0 w : World} (h : MidAt B t u mb ns2 (ns ++ [ndOf (mdOf m 0)]) m w0 w) (hok : NsTree ns) (h0 : 0 < ns.length) (hl : ns.length ≤ 200) (hq : q < ns.length) (hd : m.data.size ≤ 9223372036854775807) :
    Calls Try.prog 35 #[.pointer (some ⟨u, 0, none⟩), .int .i64 (ns.length : Int), .int .i64 (q : Int), .int .i64 (-1)] w fun e w' => ∃ r, e = .returned (.bool r) ∧ Hid (MidAt B t u mb ns2 (stepN ns (mdOf m q)) m w0 w') := by
  have hxp : (ns ++ [ndOf (mdOf m 0)])[q]? = some ns[q] := by rw [List.getElem?_append_left hq]; exact List.getElem?_eq_getElem hq
  have hf := hok.few q ns[q] (List.getElem?_eq_getElem hq)
  refine (two_rput h.two (hok.snoc (m := mdOf m 0) hd (by omega) h0) (snoc_last ns _) hxp hq rfl (by omega)).mono ?_
  rintro e w' ⟨r, he, h1, h2, h3⟩
  exact ⟨r, he, h1, h.box.others h3, h.below.trans h2⟩

/-- Behind some rounds. -/
def sumD (Z : List Mr) : Nat := (Z.map fun m => m.data.size).sum
def MadeAt (B t u k : Nat) (Z : List Mr) (w0 w : World) : Prop := ∃ ns, ns.length = k + 1 ∧ TwoAt B t u ns ns w ∧ NsTree ns ∧ Below B w0 w ∧ Leafs ns ∧ txS ns ≤ sumD (Z.take k)
theorem sumD_next {Z : List Mr} {k : Nat} {m : Mr} (h : Z[k]? = some m) : sumD (Z.take (k + 1)) = sumD (Z.take k) + m.data.size := by
  unfold sumD
  rw [List.take_add_one, h, List.map_append, List.sum_append]
  simp
theorem sumD_take (Z : List Mr) (k : Nat) : sumD (Z.take k) ≤ sumD Z := by
  unfold sumD
  have e : Z = Z.take k ++ Z.drop k := (List.take_append_drop k Z).symm
  have := congrArg (fun l => (l.map fun m : Mr => m.data.size).sum) e
  simp only [List.map_append, List.sum_append] at this
  omega

end Go.Proofs.Ytjbfgiicaaljjaa
