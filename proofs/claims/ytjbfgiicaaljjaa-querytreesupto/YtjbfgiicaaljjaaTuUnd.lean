/-
  The elements of some names under a node.
-/
import Derived.Test.YtjbfgiicaaljjaaTfEach
import Derived.Test.YtjbfgiicaaljjaaQuUnd
import Derived.Test.YtjbfgiicaaljjaaShelf
namespace Go.Proofs.Ytjbfgiicaaljjaa
open Go.RowKit

/-- The names that are looked for. -/
def NmAt (w : World) (na : Option Addr) (nn : Nat) (nm : List ByteArray) : Prop := nn = nm.length ∧ (nm = [] ∨ ∃ g off, na = some ⟨g, off, none⟩ ∧ ∀ j, j < nm.length → w.cell? ⟨g, off + j, none⟩ = some (.string (nm.getD j ByteArray.empty)))
theorem NmAt.below {w w' : World} {na : Option Addr} {nn : Nat} {nm : List ByteArray} (h : NmAt w na nn nm) (hb : Below w.heap.size w w') : NmAt w' na nn nm := by
  refine ⟨h.1, ?_⟩
  rcases h.2 with e | ⟨g, off, e, hc⟩
  · exact .inl e
  · exact .inr ⟨g, off, e, fun j hj => (hb.cell (p := ⟨g, off + j, none⟩) (World.block_lt_of_cell? _ _ (hc j hj))).trans (hc j hj)⟩

def selN (nm : List ByteArray) (x : Nd) : Bool := x.kind == 2 && (nm.isEmpty || Lib.containsS nm x.name)
def selB (ns : List Nd) (nm : List ByteArray) (k : Nat) : Bool := match ns[k]? with
  | some x => selN nm x
  | none => false
def selL (ns : List Nd) (nm : List ByteArray) (vs : List Nat) : List Nat := vs.filter (selB ns nm)

/-- What the gatherer keeps. -/
structure UndI (w0 : World) (nb ob : Nat) (na : Option Addr) (nn nc : Nat) (nm : List ByteArray) (ns : List Nd) (vs : List Nat) (o : Nat → Prop) (w : World) : Prop where
  out : ∃ a c, w.heap[ob]? = some (.cells #[.slice a (selL ns nm vs).length c] 30 (0, 0)) ∧ w.ownsRow w0.heap.size 3 1 (.slice a (selL ns nm vs).length c) (selL ns nm vs).length (intC (selL ns nm vs)) ∧ ∀ b, o b ↔ b = ob ∨ (Value.slice a (selL ns nm vs).length c).ownBlock = some b
  nmb : w.heap[nb]? = some (.cells #[.slice na nn nc] 23 (0, 0))
  below : Below w0.heap.size w0 w
  lowo : w0.heap.size ≤ ob
  lown : w0.heap.size ≤ nb
  few : (selL ns nm vs).length ≤ vs.length

theorem UndI.off {w0 w : World} {nb ob : Nat} {na : Option Addr} {nn nc : Nat} {nm : List ByteArray} {ns : List Nd} {vs : List Nat} {o : Nat → Prop} (h : UndI w0 nb ob na nn nc nm ns vs o w) : ¬ o nb := by
  obtain ⟨⟨a, c, h1, h2, h3⟩, h4, _⟩ := h
  intro e
  rcases (h3 nb).1 e with e | e
  · rw [e, h1] at h4
    simp only [Option.some.injEq, Obj.cells.injEq] at h4
    exact absurd h4.2.1 (by decide)
  · rcases h2.2 with ⟨hv, _⟩ | ⟨g, cap, cur, hv, _, hh, _⟩
    · rw [hv] at e; cases e
    · rw [hv] at e
      simp only [Value.ownBlock, Option.some.injEq] at e
      rw [e, h4] at hh
      simp only [Option.some.injEq, Obj.cells.injEq] at hh
      exact absurd hh.2.1 (by decide)

theorem UndI.stab {w0 wa wb : World} {nb ob : Nat} {na : Option Addr} {nn nc : Nat} {nm : List ByteArray} {ns : List Nd} {vs : List Nat} {o : Nat → Prop} (h : UndI w0 nb ob na nn nc nm ns vs o wa) (hb : Below wa.heap.size wa wb) : UndI w0 nb ob na nn nc nm ns vs o wb := by
  obtain ⟨⟨a, c, h1, h2, h3⟩, h4, h5, h6, h7, h8⟩ := h
  exact ⟨⟨a, c, (hb.block ob (Array.getElem?_eq_some_iff.1 h1).1).trans h1, owns_kept (out := fun _ => False) h2 (Kept.below hb) (fun _ _ e => e), h3⟩, (hb.block nb (Array.getElem?_eq_some_iff.1 h4).1).trans h4, h5.trans (hb.mono h5.size), h6, h7, h8⟩

theorem selL_snoc (ns : List Nd) (nm : List ByteArray) (vs : List Nat) (k : Nat) : selL ns nm (vs ++ [k]) = selL ns nm vs ++ (if selB ns nm k then [k] else []) := by
  unfold selL
  rw [List.filter_append]
  congr 1
  cases h : selB ns nm k <;> simp [h]

theorem UndI.skip {w0 w w' : World} {nb ob : Nat} {na : Option Addr} {nn nc : Nat} {nm : List ByteArray} {ns : List Nd} {vs : List Nat} {o : Nat → Prop} {k : Nat} (h : UndI w0 nb ob na nn nc nm ns vs o w) (hb : Below w.heap.size w w') (hs : selB ns nm k = false) : ∃ o', UndI w0 nb ob na nn nc nm ns (vs ++ [k]) o' w' ∧ Kept o w w' ∧ ∀ b, o' b → o b ∨ w.heap.size ≤ b := by
  have h' := h.stab hb
  obtain ⟨⟨a, c, h1, h2, h3⟩, h4, h5, h6, h7, h8⟩ := h'
  have e : selL ns nm (vs ++ [k]) = selL ns nm vs := by rw [selL_snoc, hs]; simp
  refine ⟨o, ⟨⟨a, c, ?_, ?_, ?_⟩, h4, h5, h6, h7, ?_⟩, (Kept.below hb), fun b hb => .inl hb⟩
  · rw [e]; exact h1
  · rw [e]; exact h2
  · rw [e]; exact h3
  · rw [e]; simp; omega

theorem UndI.put {w0 w w1 w2 : World} {nb ob : Nat} {na : Option Addr} {nn nc : Nat} {nm : List ByteArray} {ns : List Nd} {vs : List Nat} {o : Nat → Prop} {k : Nat} {a : Option Addr} {c g2 c2 : Nat} (h : UndI w0 nb ob na nn nc nm ns vs o w) (hblk : w.heap[ob]? = some (.cells #[.slice a (selL ns nm vs).length c] 30 (0, 0))) (hO : w.ownsRow w0.heap.size 3 1 (.slice a (selL ns nm vs).length c) (selL ns nm vs).length (intC (selL ns nm vs))) (ho : ∀ b, o b ↔ b = ob ∨ (Value.slice a (selL ns nm vs).length c).ownBlock = some b)
    (hs : selB ns nm k = true) (hb : Below w.heap.size w w1) (hg : w1.grownBy w2 (Value.slice a (selL ns nm vs).length c).ownBlock) (hat : (Value.slice a (selL ns nm vs).length c).ownBlock = some g2 ∨ g2 = w1.heap.size)
    (hown : w2.ownsRow w0.heap.size 3 1 (.slice (some ⟨g2, 0, none⟩) ((selL ns nm vs).length + 1) c2) ((selL ns nm vs).length + 1) (intC (selL ns nm vs) ++ [.int .i64 (k : Int)])) :
    w2.cell? ⟨ob, 0, none⟩ = some (.slice a (selL ns nm vs).length c) ∧ w2.frozen? ⟨ob, 0, none⟩ = false ∧ Hid (∃ o', UndI w0 nb ob na nn nc nm ns (vs ++ [k]) o' (w2.setCell ⟨ob, 0, none⟩ (.slice (some ⟨g2, 0, none⟩) ((selL ns nm vs).length + 1) c2)) ∧ Kept o w (w2.setCell ⟨ob, 0, none⟩ (.slice (some ⟨g2, 0, none⟩) ((selL ns nm vs).length + 1) c2)) ∧ ∀ b, o' b → o b ∨ w.heap.size ≤ b) := by
  have hlt := (Array.getElem?_eq_some_iff.1 hblk).1
  have hoff : (Value.slice a (selL ns nm vs).length c).ownBlock ≠ some ob := by
    intro e
    rcases hO.2 with ⟨hv, _⟩ | ⟨g, cap, cur, hv, _, hh, _⟩
    · rw [hv] at e; cases e
    · rw [hv] at e
      simp only [Value.ownBlock, Option.some.injEq] at e
      subst e
      rw [hblk] at hh
      simp only [Option.some.injEq, Obj.cells.injEq] at hh
      exact absurd hh.2.1 (by decide)
  have h2 : w2.heap[ob]? = some (.cells #[.slice a (selL ns nm vs).length c] 30 (0, 0)) := ((hg.block ob (Nat.lt_of_lt_of_le hlt hb.size) (fun e => hoff e.symm)).trans (hb.block ob hlt)).trans hblk
  have hkept : Kept o w (w2.setCell ⟨ob, 0, none⟩ (.slice (some ⟨g2, 0, none⟩) ((selL ns nm vs).length + 1) c2)) := by
    have k1 : Kept o w1 w2 := Kept.grown hg (fun j e => (ho j).2 (.inr e))
    exact ((Kept.below hb).trans k1).store ⟨ob, 0, none⟩ ((ho ob).2 (.inl rfl)) _
  have hge : g2 ≠ ob := by
    rcases hat with e | e
    · intro e2; subst e2; exact hoff e
    · have := hb.size; omega
  have e : selL ns nm (vs ++ [k]) = selL ns nm vs ++ [k] := by rw [selL_snoc, hs]; simp
  have hl : (selL ns nm (vs ++ [k])).length = (selL ns nm vs).length + 1 := by rw [e]; simp
  have hle := h.below.size
  refine ⟨by simp [World.cell?, h2], by simp [World.frozen?, h2], ⟨fun b => b = ob ∨ b = g2, ⟨⟨some ⟨g2, 0, none⟩, c2, ?_, ?_, ?_⟩, ?_, ?_, h.lowo, h.lown, ?_⟩, hkept, ?_⟩⟩
  · rw [hl]
    simp only [World.setCell, Array.getElem?_modify, h2]
    simp
  · rw [hl, e, show intC (selL ns nm vs ++ [k]) = intC (selL ns nm vs) ++ [.int .i64 (k : Int)] by simp [intC]]
    exact owns_kept (out := fun j => j = ob) hown (Kept.store (out := fun j => j = ob) (Kept.refl _ _) ⟨ob, 0, none⟩ rfl _) (fun j e1 e2 => by
      simp only [Value.ownBlock, Option.some.injEq] at e1
      omega)
  · intro b
    rw [hl]
    simp only [Value.ownBlock, Option.some.injEq]
    constructor
    · rintro (e | e)
      · exact .inl e
      · exact .inr e.symm
    · rintro (e | e)
      · exact .inl e
      · exact .inr e.symm
  · exact (hkept.block nb (Array.getElem?_eq_some_iff.1 h.nmb).1 h.off).trans h.nmb
  · refine ⟨hkept.os.trans h.below.os, hkept.tape.trans h.below.tape, hkept.output.trans h.below.output, Nat.le_trans hle hkept.size, fun j hj => ?_⟩
    rw [hkept.block j (by omega) (fun e2 => by
      rcases (ho j).1 e2 with e3 | e3
      · have := h.lowo; omega
      · have := (owns_lt hO j e3).1; omega)]
    exact h.below.block j hj
  · rw [hl]; simp; exact h.few
  · rintro b (rfl | rfl)
    · exact .inl ((ho b).2 (.inl rfl))
    · rcases hat with e2 | e2
      · exact .inl ((ho b).2 (.inr e2))
      · have := hb.size
        exact .inr (by omega)

set_option maxRecDepth 100000 in
set_option maxHeartbeats 4000000 in
theorem und_call (w0 : World) (nb ob : Nat) (na : Option Addr) (nn nc : Nat) (nm : List ByteArray) (ns : List Nd) (hnm : NmAt w0 na nn nm) (vs : List Nat) (o : Nat → Prop) (w : World) (k : Nat) (x : Nd) (av : Value) (hI : UndI w0 nb ob na nn nc nm ns vs o w) (hx : ns[k]? = some x) (hvs : vs.length ≤ 1000000) (hnl : nm.length ≤ 1000) :
    Calls Try.prog 46 #[.int .i64 (k : Int), .agg #[.int .i64 x.kind, .int .i64 x.at', .string x.name, .string x.data, av], .pointer (some ⟨nb, 0, none⟩), .pointer (some ⟨ob, 0, none⟩)] w fun e w' => e = .returned (.tuple #[]) ∧ Hid (∃ o', UndI w0 nb ob na nn nc nm ns (vs ++ [k]) o' w' ∧ Kept o w w' ∧ ∀ b, o' b → o b ∨ w.heap.size ≤ b) := by
  obtain ⟨i0, hi, hz0, hz1, hz2⟩ := info_parts Try.infoInt
  obtain ⟨⟨a, c, hblk, hown, ho⟩, hnmb, hbel, hlo, hln, hfew⟩ := hI
  have hI : UndI w0 nb ob na nn nc nm ns vs o w := ⟨⟨a, c, hblk, hown, ho⟩, hnmb, hbel, hlo, hln, hfew⟩
  have hob : w.cell? ⟨ob, 0, none⟩ = some (.slice a (selL ns nm vs).length c) := by simp [World.cell?, hblk]
  have hnb : w.cell? ⟨nb, 0, none⟩ = some (.slice na nn nc) := by simp [World.cell?, hnmb]
  have d0 : ∀ o, (w.alloc o).cell? ⟨nb, 0, none⟩ = some (.slice na nn nc) := fun o => by rw [World.cell?_alloc_old _ _ _ (Nat.ne_of_lt (World.block_lt_of_cell? _ _ hnb))]; exact hnb
  have d1 : ∀ o, (w.alloc o).cell? ⟨ob, 0, none⟩ = some (.slice a (selL ns nm vs).length c) := fun o => by rw [World.cell?_alloc_old _ _ _ (Nat.ne_of_lt (World.block_lt_of_cell? _ _ hob))]; exact hob
  have hsel : selB ns nm k = selN nm x := by unfold selB; rw [hx]
  have HSK : Hid (∀ w', Below w.heap.size w w' → selB ns nm k = false → _) := fun w' hb hs => UndI.skip (w' := w') hI hb hs
  have hown2 : ∀ o o', ((w.alloc o).alloc o').ownsRow w0.heap.size 3 1 (.slice a (selL ns nm vs).length c) (selL ns nm vs).length (intC (selL ns nm vs)) := fun o o' => (World.ownsRow.alloc (World.ownsRow.alloc hown o) o')
  have HP : Hid (∀ (o1 o2 : Obj) (w2 : World) (g2 c2 : Nat), selB ns nm k = true → ((w.alloc o1).alloc o2).grownBy w2 (Value.slice a (selL ns nm vs).length c).ownBlock → ((Value.slice a (selL ns nm vs).length c).ownBlock = some g2 ∨ g2 = ((w.alloc o1).alloc o2).heap.size) → w2.ownsRow w0.heap.size 3 1 (.slice (some ⟨g2, 0, none⟩) ((selL ns nm vs).length + 1) c2) ((selL ns nm vs).length + 1) (intC (selL ns nm vs) ++ [.int .i64 (k : Int)]) → _) := fun o1 o2 w2 g2 c2 hs h1 h2 h3 => UndI.put hI hblk hown ho hs (((Below.refl _ _).alloc (Nat.le_refl _) o1).alloc (by simp) o2) h1 h2 h3
  have HBO : Hid (∀ o, Below w.heap.size w (w.alloc o)) := fun o => (Below.refl _ _).alloc (Nat.le_refl _) o
  have hRw : w0.heap.size ≤ w.heap.size := hbel.size
  have HNM : Hid (∀ o, NmAt (w.alloc o) na nn nm) := fun o => hnm.below (hbel.trans (((Below.refl _ _).alloc (Nat.le_refl _) o).mono hbel.size))
  have HNL : Hid (nn = nm.length) := hnm.1
  have hlen : (selL ns nm vs).length ≤ 1000000 := by omega
  clear hI hblk hob hnb hown ho hnmb hbel hlo hln hfew hx
  generalize (selL ns nm vs).length = L at *
  generalize intC (selL ns nm vs) = LC at *
  by_cases hk : x.kind = 2
  · cases nm with
    | nil =>
      have HS : Hid (selB ns [] k = true) := by show selB ns [] k = true; rw [hsel]; unfold selN; simp [hk]
      obtain rfl : nn = 0 := HNL.out
      rw [hk]
      clear hsel HNM HNL HSK
      go_enter Try.func46, Try.ntmps46
      go_wp2_with (at_builtin; refine wpList_append_lies _ rfl _ _ 30 rfl w0.heap.size 3 i0 (.int .i64 0) 1 8 Try.underlying30 hi hz0 hz1 hz2 rfl (by decide) _ L LC rfl (hown2 _ _) ⟨w.heap.size + 1, 0, none⟩ 1 1 [.int .i64 (k : Int)] rfl rfl (fun j u hj => by have := cell_one_new (w.alloc (.cells #[.int .i64 2, .int .i64 x.at', .string x.name, .string x.data, av] 47)) (.int .i64 (k : Int)) 3 j u hj; rw [World.size_alloc] at this; exact this) (ints_oneCell .i64 [(k : Int)]) (by omega) (by unfold maxLen; omega) (by omega) (by simp; omega) _ rfl ?_; intro g2 c2 w2 hown' hgrow' hat hlt2; obtain ⟨q1, q2, HF⟩ := HP.out _ _ w2 g2 c2 HS.out hgrow' hat hown'; clear hown' hgrow' hat hlt2 HP hown2)
      go_end0
      exact ⟨rfl, HF⟩
    | cons n0 nr =>
      obtain ⟨g, off, hga, hgc⟩ : ∃ g off, na = some ⟨g, off, none⟩ ∧ ∀ o, ∀ j, j < (n0 :: nr).length → (w.alloc o).cell? ⟨g, off + j, none⟩ = some (.string ((n0 :: nr).getD j ByteArray.empty)) := by
        rcases (HNM.out (.cells #[] 3)).2 with e | ⟨g, off, e, _⟩
        · cases e
        · refine ⟨g, off, e, fun o => ?_⟩
          rcases (HNM.out o).2 with e2 | ⟨g2, off2, e2, hc2⟩
          · cases e2
          · rw [e] at e2
            injection e2 with e2
            injection e2 with e2 e3 _
            subst e2 e3
            exact hc2
      subst hga
      have HC : Hid (∀ o, _) := fun o => Try.slices_Contains_string g off nn nc (n0 :: nr) x.name (w.alloc o) (Nat.le_of_eq HNL.out) (by rw [HNL.out]; omega) (hgc o)
      have htk : (n0 :: nr).take nn = n0 :: nr := by rw [HNL.out, List.take_length]
      rw [htk] at HC
      have hsv : selN (n0 :: nr) x = Lib.containsS (n0 :: nr) x.name := by unfold selN; simp [hk]
      rw [hsv] at hsel
      have hnp : ((nn : Int) == 0) = false := by rw [beq_eq_false_iff_ne]; have := HNL.out; simp at this; omega
      rw [hk]
      clear HNM HNL htk hsv hgc hnl
      cases hb : Lib.containsS (n0 :: nr) x.name with
      | true =>
        rw [hb] at HC hsel
        have HS : Hid (selB ns (n0 :: nr) k = true) := hsel
        clear hsel HSK hb
        go_enter Try.func46, Try.ntmps46
        go_wp2_with fail
        refine Calls.mono (HC.out _) ?_
        rintro e w1 ⟨rfl, hw1⟩
        subst hw1
        clear HC
        go_wp2_with (at_builtin; refine wpList_append_lies _ rfl _ _ 30 rfl w0.heap.size 3 i0 (.int .i64 0) 1 8 Try.underlying30 hi hz0 hz1 hz2 rfl (by decide) _ L LC rfl (hown2 _ _) ⟨w.heap.size + 1, 0, none⟩ 1 1 [.int .i64 (k : Int)] rfl rfl (fun j u hj => by have := cell_one_new (w.alloc (.cells #[.int .i64 2, .int .i64 x.at', .string x.name, .string x.data, av] 47)) (.int .i64 (k : Int)) 3 j u hj; rw [World.size_alloc] at this; exact this) (ints_oneCell .i64 [(k : Int)]) (by omega) (by unfold maxLen; omega) (by omega) (by simp; omega) _ rfl ?_; intro g2 c2 w2 hown' hgrow' hat hlt2; obtain ⟨q1, q2, HF⟩ := HP.out _ _ w2 g2 c2 HS.out hgrow' hat hown'; clear hown' hgrow' hat hlt2 HP hown2)
        go_end0
        exact ⟨rfl, HF⟩
      | false =>
        rw [hb] at HC hsel
        have HS : Hid (selB ns (n0 :: nr) k = false) := hsel
        clear hsel HP hb hown2
        go_enter Try.func46, Try.ntmps46
        go_wp2_with fail
        refine Calls.mono (HC.out _) ?_
        rintro e w1 ⟨rfl, hw1⟩
        subst hw1
        clear HC
        go_wp2
        go_end0
        exact ⟨rfl, HSK.out _ (HBO.out _) HS.out⟩
  · have HS : Hid (selB ns nm k = false) := by show selB ns nm k = false; rw [hsel]; unfold selN; simp [hk]
    have hkb : (x.kind == 2) = false := by rw [beq_eq_false_iff_ne]; exact hk
    clear hsel HNM HNL HP hown2
    go_enter Try.func46, Try.ntmps46
    go_wp2
    go_end0
    exact ⟨rfl, HSK.out _ (HBO.out _) HS.out⟩
end Go.Proofs.Ytjbfgiicaaljjaa
