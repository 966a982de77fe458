/-
  strings.Builder at this program (its copyCheck bears no text here, so the library's layings do not fit): a byte more, a text more.
-/
import Derived.Test.YtjfbogjpmieogaaDoorRows
import Derived.Lib.Builder
import Derived.Lib.AppendStr
import Derived.Below
import Derived.Carry
import Derived.OwnWalk
import Derived.WalkKit
import Derived.WalkSpells
import Derived.WalkLawsBesides
import Derived.Laws.Externs
import Derived.Deep.RegionLaw
import Derived.Deep.DeepCutAuto
import Derived.Deep.QuietTactic
import Derived.BigQuiet
import Derived.Lib.SmallJoins
namespace Go.Proofs.YtjfbogjpmieogaaDoor
open Go.RowKit

theorem Tryd.bSize : (Tryd.prog.info? 99).map (·.size) = some 2 := by kernel_rfl
theorem Tryd.bLies : liesAt Tryd.prog Tryd.prog.depth 99 (2 / Tryd.prog.cellsOf 99) 0 99 1 = true := by kernel_rfl
theorem Tryd.byteInfo : (Tryd.prog.info? 5).map (fun i => (i.zero, i.size, i.bytes)) = some (some (.int .u8 0), 1, 1) := by kernel_rfl

/-- A builder that was written, and what it holds. -/
abbrev Held (B b : Nat) (l : List Value) (w : World) : Prop := Lib.BuilderAt 99 5 B b (.pointer (some ⟨b, 0, none⟩)) l w

set_option maxHeartbeats 1000000 in
set_option maxRecDepth 100000 in
theorem check_used (b : Nat) (w : World) (h0 : w.cell? ⟨b, 0, none⟩ = some (.pointer (some ⟨b, 0, none⟩))) :
    Calls Tryd.prog 58 #[.pointer (some ⟨b, 0, none⟩)] w fun e w' => e = .returned (.tuple #[]) ∧ w' = w := by
  obtain ⟨j, hj, _⟩ := Option.map_eq_some_iff.1 Tryd.bSize
  have hne := Lib.run_neq_ptr_same w ⟨b, 0, none⟩ Tryd.underlying97 hj
  go_enter Tryd.func58, Tryd.ntmps58
  go_wp2
  go_end0
  exact ⟨rfl, rfl⟩

set_option maxHeartbeats 1000000 in
set_option maxRecDepth 100000 in
theorem check_fresh (b : Nat) (w : World) (h0 : w.cell? ⟨b, 0, none⟩ = some (.pointer none)) (hs : w.shape? b = some (99, 2)) (hf : w.frozen? ⟨b, 0, none⟩ = false) :
    Calls Tryd.prog 58 #[.pointer (some ⟨b, 0, none⟩)] w fun e w' => e = .returned (.tuple #[]) ∧ w' = w.setCell ⟨b, 0, none⟩ (.pointer (some ⟨b, 0, none⟩)) := by
  obtain ⟨j, hj, hjs⟩ := Option.map_eq_some_iff.1 Tryd.bSize
  have k1 := Lib.run_to_unsafe w ⟨b, 0, none⟩ Tryd.underlying97 Tryd.underlying132 hj (by rw [hjs]; decide) hs (Nat.zero_lt_succ 1)
  have k2 := Lib.run_from_unsafe w ⟨b, 0, none⟩ Tryd.underlying132 Tryd.underlying97 hj hs Tryd.bLies
  have k3 : ∀ (x : Value) (w : World), (callFunc 76 #[x]).run Tryd.prog w = .ok (.value x) w := fun x w => by
    rw [run_callFunc_extern Tryd.func76 (by kernel_rfl) (by kernel_rfl) (by kernel_rfl) (e := Extern.AbiNoEscape.same) (by kernel_rfl), Lib.run_noEscape]
    rfl
  clear hjs hs
  go_enter Tryd.func58, Tryd.ntmps58
  go_wp2
  go_end0
  exact ⟨rfl, rfl⟩

theorem check_any (B b : Nat) (l : List Value) (w : World) (h : Lib.IsBuilder 99 5 B b l w) :
    Calls Tryd.prog 58 #[.pointer (some ⟨b, 0, none⟩)] w fun e w' => e = .returned (.tuple #[]) ∧ Held B b l w' ∧ Below B w w' := by
  rcases h with h | h
  · exact (check_fresh b w h.cell0 h.shape h.frozen0).mono fun e w' ⟨h1, h2⟩ => ⟨h1, h2 ▸ h.used _, h2 ▸ (Below.refl B w).setCell (p := ⟨b, 0, none⟩) h.1 _⟩
  · exact (check_used b w h.cell0).mono fun e w' ⟨h1, h2⟩ => ⟨h1, h2 ▸ h, h2 ▸ Below.refl B _⟩

/-- What stands in the builder's block behind an append to its row. -/
theorem held_grown {B b : Nat} {l : List Value} {w1 wx w2 : World} (h : Held B b l w1) (hb : Below w1.heap.size w1 wx) : ∃ v, w1.cell? ⟨b, 1, none⟩ = some v ∧ wx.ownsRow B 5 1 v l.length l ∧ (wx.grownBy w2 v.ownBlock → w2.cell? ⟨b, 1, none⟩ = some v ∧ w2.frozen? ⟨b, 1, none⟩ = false ∧ Below B wx w2 ∧ (∀ v' l', w2.ownsRow B 5 1 v' l'.length l' → Held B b l' (w2.setCell ⟨b, 1, none⟩ v'))) := by
  have hlt := h.lt
  obtain ⟨hB, v, hbk, hown, hne⟩ := h
  have hox : wx.ownsRow B 5 1 v l.length l := by
    refine ⟨hown.1, ?_⟩
    rcases hown.2 with hn | ⟨g, cap, cur, hv, hg, hh, r⟩
    · exact .inl hn
    · have hgl : g < w1.heap.size := by
        rcases Nat.lt_or_ge g w1.heap.size with h' | h'
        · exact h'
        · simp [Array.getElem?_eq_none h'] at hh
      exact .inr ⟨g, cap, cur, hv, hg, (hb.block g hgl).trans hh, r⟩
  refine ⟨v, by rw [Lib.cell_of_heap hbk]; rfl, hox, fun hgrow => ?_⟩
  have hbx := (hb.block b hlt).trans hbk
  have hb2 : w2.heap[b]? = some (.cells #[.pointer (some ⟨b, 0, none⟩), v] 99 (0, 0)) := by
    rw [hgrow.block b (Nat.lt_of_lt_of_le hlt hb.size) (fun e => hne e.symm)]
    exact hbx
  exact ⟨by rw [Lib.cell_of_heap hb2]; rfl, Lib.frozen_of_heap hb2 1, (Below.refl B wx).grown hgrow (Nat.le_trans hB (Nat.le_of_lt (Nat.lt_of_lt_of_le hlt hb.size))) (fun k hk => (hox.lt k hk).1), fun v' l' ho => Lib.BuilderAt.put hB hb2 ho (by decide)⟩

set_option maxHeartbeats 1000000 in
set_option maxRecDepth 100000 in
theorem writeByte_any (B b : Nat) (l : List Value) (c : Int) (w : World) (h : Lib.IsBuilder 99 5 B b l w) (hn : l.length < 4294967296) :
    Calls Tryd.prog 36 #[.pointer (some ⟨b, 0, none⟩), .int .u8 c] w fun e w' => e = .returned .nilIface ∧ Held B b (l ++ [.int .u8 c]) w' ∧ Below B w w' := by
  obtain ⟨i0, hi, hz0, hz1, hz2⟩ := info_parts Tryd.byteInfo
  have HC : Hid _ := check_any B b l w h
  clear h
  go_enter Tryd.func36, Tryd.ntmps36
  go_wp2_with fail
  refine Calls.mono HC.out ?_
  rintro e w1 ⟨rfl, hh, hb1⟩
  have HX : Hid _ := fun w2 => held_grown (w2 := w2) hh ((Below.refl w1.heap.size w1).alloc (Nat.le_refl _) (.cells #[.int .u8 c] 5))
  obtain ⟨v, c1, hox, _⟩ := HX.out w1
  have HO : Hid _ := hox
  have HB : Hid _ := hb1
  have HS : Hid (B ≤ w1.heap.size) := Nat.le_trans hh.1 (Nat.le_of_lt hh.lt)
  clear hh hb1 hox HC
  go_wp2_with (at_builtin; refine wpList_append_own _ rfl _ _ 69 rfl B 5 i0 (.int .u8 0) 1 1 Tryd.underlying69 hi hz0 hz1 hz2 rfl (by decide) _ _ _ rfl HO.out ⟨w1.heap.size, 0, none⟩ 1 1 [.int .u8 c] rfl rfl ?c1 ?c2 ?c3 ?c4 ?c5 ?_)
  case c1 =>
    intro j u hj
    match j, hj with
    | 0, hj => simp at hj; subst hj; simp [Addr.add]
  case c2 => intro u hu; simp at hu; subst hu; rfl
  case c3 => unfold maxLen; omega
  case c4 => omega
  case c5 => have := HS.out; simp; omega
  intro v' w2 hown hgrow _
  obtain ⟨v2, e2, _, hall⟩ := HX.out w2
  rw [c1] at e2
  obtain rfl := Option.some.inj e2
  obtain ⟨d1, f1, hb2, hput⟩ := hall hgrow
  obtain ⟨⟨g, cap, rfl⟩, HP⟩ : (∃ g cap, v' = .slice (some ⟨g, 0, none⟩) (l.length + 1) cap) ∧ Hid (Held B b (l ++ [.int .u8 c]) (w2.setCell ⟨b, 1, none⟩ v') ∧ Below B w (w2.setCell ⟨b, 1, none⟩ v')) := by
    have hh := hput v' (l ++ [.int .u8 c]) (by rw [List.length_append]; exact hown)
    exact ⟨Joins.ownsRow_form hown (by omega), hh, ((HB.out.trans ((Below.refl B w1).alloc HS.out _)).trans hb2).setCell (p := ⟨b, 1, none⟩) hh.1 _⟩
  clear hall hown hgrow hput hb2 HX HO HB c1
  go_wp2
  go_ret
  exact ⟨rfl, HP.out⟩

set_option maxHeartbeats 1000000 in
set_option maxRecDepth 100000 in
theorem writeText_any (B b : Nat) (l : List Value) (s : ByteArray) (w : World) (h : Lib.IsBuilder 99 5 B b l w) (hn : l.length + s.size < 8589934592) :
    Calls Tryd.prog 37 #[.pointer (some ⟨b, 0, none⟩), .string s] w fun e w' => e = .returned (.tuple #[.int .i64 s.size, .nilIface]) ∧ Held B b (l ++ Lib.strCells s) w' ∧ Below B w w' := by
  obtain ⟨i0, hi, hz0, hz1, hz2⟩ := info_parts Tryd.byteInfo
  have HC : Hid _ := check_any B b l w h
  have hu9 := Tryd.underlying9
  clear h
  go_enter Tryd.func37, Tryd.ntmps37
  go_wp2_with fail
  refine Calls.mono HC.out ?_
  rintro e w1 ⟨rfl, hh, hb1⟩
  have HX : Hid _ := fun w2 => held_grown (w2 := w2) hh (Below.refl w1.heap.size w1)
  obtain ⟨v, c1, hox, _⟩ := HX.out w1
  have HO : Hid _ := hox
  have HB : Hid _ := hb1
  have HS : Hid (B ≤ w1.heap.size) := Nat.le_trans hh.1 (Nat.le_of_lt hh.lt)
  clear hh hb1 hox HC
  go_wp2_with (at_builtin; refine Lib.wpList_append_own_string _ rfl _ _ 69 9 rfl B 5 i0 Tryd.underlying69 hu9 hi hz0 hz1 hz2 _ _ _ rfl HO.out s rfl ?c3 ?c4 ?c5 ?_)
  case c3 => unfold maxLen; omega
  case c4 => omega
  case c5 => exact HS.out
  intro v' w2 hown hgrow _
  obtain ⟨v2, e2, _, hall⟩ := HX.out w2
  rw [c1] at e2
  obtain rfl := Option.some.inj e2
  obtain ⟨d1, f1, hb2, hput⟩ := hall hgrow
  have hl : l.length + s.size = (l ++ Lib.strCells s).length := by have := hown.1; simp at this; simp; omega
  obtain ⟨⟨ao, cap, rfl⟩, HP⟩ : (∃ ao cap, v' = .slice ao (l.length + s.size) cap) ∧ Hid (Held B b (l ++ Lib.strCells s) (w2.setCell ⟨b, 1, none⟩ v') ∧ Below B w (w2.setCell ⟨b, 1, none⟩ v')) := by
    have hh := hput v' (l ++ Lib.strCells s) (by rw [← hl]; exact hown)
    refine ⟨?_, hh, ?_⟩
    · rcases hown.2 with ⟨hv, h0⟩ | ⟨g, cap, cur, hv, _⟩
      · exact ⟨none, 0, by rw [hv, h0]⟩
      · exact ⟨_, _, hv⟩
    · exact (HB.out.trans hb2).setCell (p := ⟨b, 1, none⟩) hh.1 _
  clear hall hown hgrow hput hb2 HX HO HB c1 hl
  go_wp2
  go_ret2
  exact ⟨rfl, HP.out⟩
end Go.Proofs.YtjfbogjpmieogaaDoor
