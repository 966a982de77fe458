/-
  A map of places, keyed by attributes.
-/
import Derived.Test.YtalbiekleggkoaaMaBase
import Derived.Maps.Own
import Derived.Maps.OwnSet
import Derived.Maps.OwnOps
import Derived.Maps.Views
import Derived.DeepKeys4
namespace Go.Proofs.Ytalbiekleggkoaa
open Go.RowKit Go.Maps

theorem atLaw : Keyed Try.prog 93 := Keyed.of_law (deep_law_laid (by kernel_rfl) (m := 2) (by omega) (of_decide_eq_true (by kernel_rfl)) (by kernel_rfl) (by kernel_rfl))
theorem atKeyT : Try.prog.keyType 93 = true := by kernel_rfl
theorem atStruct : ∃ fs, Try.prog.underlying 93 = some (.struct fs) := ⟨_, Try.underlying93⟩
theorem atCells : Try.prog.cellsOf 93 = 2 := by kernel_rfl
theorem atSize : ∃ m, Try.prog.types.size = m + 1 := ⟨Try.prog.types.size - 1, by kernel_rfl⟩
theorem atFormed (c0 c1 : Value) : (Value.agg #[c0, c1]).formed Try.prog 93 = true := by
  obtain ⟨fs, hu⟩ := atStruct
  simp [Value.formed, hu, atCells]

/-- Texts that a memory can hold. -/
structure AtrOk (p : Atr) : Prop where
  h1 : p.1.size ≤ maxLen
  h2 : p.2.size ≤ maxLen

def atKey (p : Atr) : Lit := .string (keyBytes [.string p.1.data.toList, .string p.2.data.toList])
theorem at_key (p : Atr) (h : AtrOk p) : keyOf Try.prog 93 (.agg #[.string p.1, .string p.2]) = some (atKey p) := by
  have hf := atFormed (.string p.1) (.string p.2)
  have h1 := h.h1
  have h2 := h.h2
  obtain ⟨m, hm⟩ := atSize
  unfold keyOf
  simp only [Try.underlying93]
  rw [if_pos (by simp [atKeyT, hf]), hm]
  unfold Program.keyLits
  simp only [Try.underlying93, Value.cells]
  have hc9 : Try.prog.cellsOf 9 = 1 := by kernel_rfl
  rw [if_pos ⟨by rw [atCells]; rfl, by kernel_rfl⟩, List.mapM_cons, List.mapM_cons, List.mapM_nil]
  simp [hc9, Program.keyLits, Try.underlying9, h1, h2, atKey]

theorem atKey_ne {p q : Atr} (hp : AtrOk p) (hq : AtrOk q) (h : atrEq p q = false) : atKey p ≠ atKey q := by
  intro e
  have h1 := at_key p hp
  have h2 := at_key q hq
  rw [← e] at h2
  have h3 := atLaw.inj h1 h2
  injection h3 with h3
  have h4 : p = q := by
    obtain ⟨a, b⟩ := p
    obtain ⟨c, d⟩ := q
    simp at h3
    rw [h3.1, h3.2]
  subst h4
  simp [atrEq] at h
theorem atrEq_eq {p q : Atr} (h : atrEq p q = true) : p = q := by
  obtain ⟨a, b⟩ := p
  obtain ⟨c, d⟩ := q
  unfold atrEq at h
  simp only [Bool.and_eq_true, beq_iff_eq, ByteArray.toList_eq] at h
  have e1 : a = c := by
    obtain ⟨⟨x⟩⟩ := a
    obtain ⟨⟨y⟩⟩ := c
    have := h.1
    simp at this
    rw [this]
  have e2 : b = d := by
    obtain ⟨⟨x⟩⟩ := b
    obtain ⟨⟨y⟩⟩ := d
    have := h.2
    simp at this
    rw [this]
  rw [e1, e2]

/-- The first places, in a map. -/
structure PlMap (w : World) (l : List Atr) (b k : Nat) (D : DataW Unit) (wr : World) : Prop where
  own : wr.ownsMap (H := Unit) Try.prog 93 (plainElem Try.prog 3) b k D
  im : IsMap D
  has : ∀ p, AtrOk p → has D (atKey p) = hasA (l.take k) p
  bel : Below w.heap.size w wr
  wb : w.heap.size ≤ b

theorem PlMap.put {w wr w1 w' : World} {l : List Atr} {b k : Nat} {D : DataW Unit} {d : DataW Unit} {q : Atr} (h : PlMap w l b k D wr) (hq : l[k]? = some q) (hok : AtrOk q) (h1 : Below wr.heap.size wr w1) (hown : w'.ownsMap (H := Unit) Try.prog 93 (plainElem Try.prog 3) b (k + 1) (D.put (atKey q) d)) (hgrow : w1.grownBy w' (some b)) : PlMap w l b (k + 1) (D.put (atKey q) d) w' := by
  have hs := h.bel.size
  have hs1 := h1.size
  refine ⟨hown, h.im.put _ _, fun p hp => ?_, (h.bel.trans (h1.mono hs)).grown hgrow (by omega) (fun j e => by have := h.wb; injection e with e; omega), h.wb⟩
  have htk : l.take (k + 1) = l.take k ++ [q] := by rw [List.take_add_one, hq]; rfl
  have hH : hasA (l.take (k + 1)) p = (hasA (l.take k) p || atrEq p q) := by
    unfold hasA
    rw [htk, List.any_append]
    simp
  rw [hH]
  cases he : atrEq p q
  · rw [has_put_other (atKey_ne hp hok he), h.has p hp, Bool.or_false]
  · obtain rfl := atrEq_eq he
    rw [has_put_same h.im (atLaw.key (at_key p hp)), Bool.or_true]

set_option maxRecDepth 100000 in
set_option maxHeartbeats 4000000 in
theorem placesA_any (a : Option Addr) (cap : Nat) (l : List Atr) (w : World) (h : AtrsAt w a l) (hl : l.length ≤ 1000) (hok : ∀ p ∈ l, AtrOk p) :
    Calls Try.prog 84 #[.slice a l.length cap] w fun e w' => ∃ b D, e = .returned (.map (some b)) ∧ Hid (PlMap w l b l.length D w') := by
  have HH : Hid _ := h
  have hmm : ∀ w, (Instr.makeMap 116 (some (.int .i64 (l.length : Int)))).run Try.prog w = .ok (.map (some w.heap.size)) (w.alloc (.map #[] 0)) := fun w => by
    simp [Instr.makeMap, go_sem]
  have HM : Hid (PlMap w l w.heap.size 0 (.map []) (w.alloc (.map #[] 0))) := ⟨World.ownsMap_made w Try.prog 93 (plainElem Try.prog 3), isMap_empty, fun p _ => rfl, (Below.refl _ _).alloc (Nat.le_refl _) _, Nat.le_refl _⟩
  clear h
  go_enter Try.func84, Try.ntmps84
  go_wp2
  go_loopw [11] (fun i wr => ∃ (k : Nat) (D : DataW Unit), k ≤ l.length ∧ i = .int .i64 k ∧ Hid (PlMap w l w.heap.size k D wr)) (fun i _ => l.length - (intOf i).toNat)
  case atStart => exact ⟨0, _, by omega, rfl, HM⟩
  case round =>
    clear HM hmm
    obtain ⟨k, D, hk, rfl, hP⟩ := hrel
    by_cases hlt : k < l.length
    · have hkI : (k : Int) < (l.length : Int) := by omega
      have hq : l[k]? = some l[k] := List.getElem?_eq_getElem hlt
      have hokq : AtrOk l[k] := hok _ (List.getElem_mem hlt)
      obtain ⟨g, rfl, c0, c1⟩ := (HH.out.below hP.out.bel).at' k l[k] hq
      have hkey := at_key l[k] hokq
      have HP1 : Hid (∀ (o : Obj), Below wr.heap.size wr (wr.alloc o)) := fun o => (Below.refl _ _).alloc (Nat.le_refl _) o
      have hown := fun o => hP.out.own.alloc o
      have HK : Hid (AtrOk l[k] ∧ l[k]? = some l[k]) := ⟨hokq, hq⟩
      have hwk : (Lit.int .i64 (k : Int)).wf = true := by
        have e1 : IntKind.min .i64 = -9223372036854775808 := by decide +kernel
        have e2 : IntKind.max .i64 = 9223372036854775807 := by decide +kernel
        show (decide (IntKind.min .i64 ≤ (k : Int)) && decide ((k : Int) ≤ IntKind.max .i64)) = true
        rw [e1, e2]
        simp
        omega
      clear hq hokq
      generalize l[k] = r at *
      go_wp2_with (at_mapUpdate; refine wpList_mapUpdate_own _ rfl _ _ _ 116 rfl 93 3 atLaw Try.underlying116 _ w.heap.size k D rfl (hown _) (by unfold maxLen; omega) _ _ _ rfl rfl hkey _ [] (plainElem_int Try.underlying3 hwk) ?_)
      intro w' hown' hgrow
      have HN : Hid (PlMap w l w.heap.size (k + 1) _ w') := hP.out.put HK.out.2 HK.out.1 (HP1.out _) hown' hgrow
      clear hown' hgrow hown
      go_wp2
      go_roundw
      case rel => exact ⟨k + 1, _, by omega, by go_num, HN⟩
      case measure => simp only [intOf]; go_num
    · obtain rfl : k = l.length := by omega
      go_wp2
      go_ret
      exact ⟨_, D, rfl, hP⟩
end Go.Proofs.Ytalbiekleggkoaa
