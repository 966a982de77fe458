/-
  The words that were met: a map that a closure holds.
-/
import Derived.Test.YtjbfgiicaaljjaaQwRows
import Derived.Test.YtjbfgiicaaljjaaQwMath
import Derived.Maps.Own
import Derived.Maps.OwnSet
import Derived.Maps.OwnOps
import Derived.Maps.Views
import Derived.StringKeys
import Derived.Shelf.Abstract
namespace Go.Proofs.Ytjbfgiicaaljjaa
open Go.RowKit Go.Maps

def strV (l : List UInt8) : Value := .string ⟨l.toArray⟩
theorem qwLaw : Keyed Try.prog 9 := string_keyed Try.underlying9
theorem qwZero (w : World) : (zeroValue 125).run Try.prog w = .ok (.agg #[]) w := by kernel_rfl

/-- The set of the words that were met lies in a variable's block. -/
structure SeenAt (w : World) (sb m k : Nat) (ks : List (List UInt8)) : Prop where
  blk : w.heap[sb]? = some (.cells #[.map (some m)] 123 (0, 0))
  own : ∃ D : DataW Unit, w.ownsMap (H := Unit) Try.prog 9 (unitElem (H := Unit)) m k D ∧ IsMap D ∧ ∀ l, Maps.has D (.string l) = ks.contains l

theorem SeenAt.mlt {w : World} {sb m k : Nat} {ks : List (List UInt8)} (h : SeenAt w sb m k ks) : m < w.heap.size := by
  obtain ⟨D, h1, _⟩ := h.own
  exact h1.lt
theorem SeenAt.slt {w : World} {sb m k : Nat} {ks : List (List UInt8)} (h : SeenAt w sb m k ks) : sb < w.heap.size := (Array.getElem?_eq_some_iff.1 h.blk).1
theorem SeenAt.ne {w : World} {sb m k : Nat} {ks : List (List UInt8)} (h : SeenAt w sb m k ks) : sb ≠ m := by
  obtain ⟨D, ⟨es, clock, hb, _⟩, _⟩ := h.own
  intro e
  have := h.blk
  rw [e, hb] at this
  cases this
theorem SeenAt.off {w : World} {sb m k : Nat} {ks : List (List UInt8)} (h : SeenAt w sb m k ks) {B : Nat} {e : TypeId} {sz n : Nat} {v : Value} {xs : List Value} (hO : w.ownsRow B e sz v n xs) : v.ownBlock ≠ some m := by
  obtain ⟨D, ⟨es, clock, hb, _⟩, _⟩ := h.own
  intro e1
  rcases hO.2 with ⟨rfl, _⟩ | ⟨g, cap, cur, rfl, _, hg, _⟩
  · cases e1
  · simp only [Value.ownBlock, Option.some.injEq] at e1
    subst e1
    rw [hb] at hg
    cases hg
theorem SeenAt.kept {out : Nat → Prop} {w w' : World} {sb m k : Nat} {ks : List (List UInt8)} (h : SeenAt w sb m k ks) (hk : Kept out w w') (h1 : ¬ out sb) (h2 : ¬ out m) : SeenAt w' sb m k ks := by
  obtain ⟨D, ho, hi, hh⟩ := h.own
  refine ⟨(hk.block sb h.slt h1).trans h.blk, D, ?_, hi, hh⟩
  obtain ⟨es, clock, hb, r⟩ := ho
  exact ⟨es, clock, (hk.block m h.mlt h2).trans hb, r⟩

theorem SeenAt.more {w w1 w' : World} {sb m k : Nat} {ks : List (List UInt8)} {D : DataW Unit} {dd : DataW Unit} {x : List UInt8} (h : SeenAt w sb m k ks) (hi : IsMap D) (hh : ∀ l, Maps.has D (.string l) = ks.contains l) (hx : x.length ≤ maxLen) (hb : Below w.heap.size w w1)
    (hown : w'.ownsMap (H := Unit) Try.prog 9 (unitElem (H := Unit)) m (k + 1) (D.put (.string x) dd)) (hg : w1.grownBy w' (some m)) : SeenAt w' sb m (k + 1) (x :: ks) ∧ Kept (fun b => b = m) w w' := by
  have hk : Kept (fun b => b = m) w w' := (Kept.below hb).trans (Kept.grown hg (fun k e => by injection e with e; exact e.symm))
  refine ⟨⟨(hk.block sb h.slt h.ne).trans h.blk, _, hown, hi.put _ _, fun l => ?_⟩, hk⟩
  rw [List.contains_cons]
  cases e : (l == x)
  · rw [has_put_other (fun e2 => by injection e2 with e2; subst e2; simp at e), hh l, Bool.false_or]
  · obtain rfl := eq_of_beq e
    have hkey : keyOf Try.prog 9 (.string ⟨l.toArray⟩) = some (.string l) := Go.WideMaps.keyOf_string_mk Try.underlying9 (s := ⟨l.toArray⟩) (by show l.toArray.size ≤ maxLen; simpa using hx)
    rw [has_put_same hi (qwLaw.key hkey), Bool.true_or]

theorem enters_seen : ∀ args w, (callFunc 73 args).run Try.prog w = .ok (.enter 73 args) w := enters_of Try.func73 (by kernel_rfl) rfl

set_option maxRecDepth 100000 in
set_option maxHeartbeats 4000000 in
theorem seen_any (sb m k : Nat) (ks : List (List UInt8)) (x : List UInt8) (w : World) (h : SeenAt w sb m k ks) (hx : x.length ≤ 1000000) (hk : k ≤ 1000000) :
    Calls Try.prog 73 #[strV x, .pointer (some ⟨sb, 0, none⟩)] w fun e w' => e = .returned (.bool (ks.contains x)) ∧ Hid (SeenAt w' sb m (k + 1) (x :: ks) ∧ Kept (fun b => b = m) w w') := by
  obtain ⟨D, hown, hi, hh⟩ := h.own
  have c0 : w.cell? ⟨sb, 0, none⟩ = some (.map (some m)) := by simp [World.cell?, h.blk]
  have d0 : ∀ o, (w.alloc o).cell? ⟨sb, 0, none⟩ = some (.map (some m)) := fun o => by rw [World.cell?_alloc_old _ _ _ (Nat.ne_of_lt h.slt)]; exact c0
  have hkey : keyOf Try.prog 9 (.string ⟨x.toArray⟩) = some (.string x) := Go.WideMaps.keyOf_string_mk Try.underlying9 (s := ⟨x.toArray⟩) (by show x.toArray.size ≤ maxLen; unfold maxLen; simp; omega)
  have hHas : Maps.has D (.string x) = ks.contains x := hh x
  have HM : Hid (∀ (o : Obj) (w' : World) (dd : DataW Unit), w'.ownsMap (H := Unit) Try.prog 9 (unitElem (H := Unit)) m (k + 1) (D.put (.string x) dd) → (w.alloc o).grownBy w' (some m) → SeenAt w' sb m (k + 1) (x :: ks) ∧ Kept (fun b => b = m) w w') := fun o w' dd h1 h2 => h.more hi hh (by unfold maxLen; omega) ((Below.refl _ _).alloc (Nat.le_refl _) o) h1 h2
  clear h hi hh
  generalize ks.contains x = b at *
  unfold strV
  go_enter Try.func73, Try.ntmps73
  go_wp2_with (first
    | (at_lookup; refine wpList_lookup_own_unit _ rfl _ _ 123 rfl 9 125 qwLaw Try.underlying123 (qwZero _) m k _ rfl hown _ _ rfl hkey ?_; rw [hHas])
    | (at_mapUpdate; refine wpList_mapUpdate_own _ rfl _ _ _ 123 rfl 9 125 qwLaw Try.underlying123 (unitElem (H := Unit)) m k _ rfl (hown.alloc _) (by unfold maxLen; omega) _ _ _ rfl rfl hkey _ [] unitElem_mk ?_; intro w1 hown1 hgrow1)
    | go_in)
  have HF : Hid _ := HM.out _ _ _ hown1 hgrow1
  clear hown1 hgrow1 HM hown
  go_wp2
  go_ret
  exact ⟨rfl, HF⟩
end Go.Proofs.Ytjbfgiicaaljjaa
