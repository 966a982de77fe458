/-
  The text of steps: the program's answer.
-/
import Derived.Test.YtjfbogjpmieogaaDoorPathPlain
import Derived.Test.YtjfbogjpmieogaaDoorBuildP
import Derived.Lib.AppendIntMem
import Derived.WalkSmall
namespace Go.Proofs.YtjfbogjpmieogaaDoor
open Go.RowKit

/-- Whole numbers, where they lie. -/
structure IntsAt (w : World) (a : Option Addr) (Z : List Int) : Prop where
  out : ∀ t, (h : t < Z.length) → ∃ ad, a = some ad ∧ w.cell? (ad.add t) = some (.int .i64 Z[t])

theorem cell_later {w w' : World} {a : Addr} {v : Value} (h : w.cell? a = some v) (hb : Below w.heap.size w w') : w'.cell? a = some v :=
  (hb.cell (p := a) (World.block_lt_of_cell? w _ h)).trans h

theorem IntsAt.later {w w' : World} {a : Option Addr} {Z : List Int} (h : IntsAt w a Z) (hb : Below w.heap.size w w') : IntsAt w' a Z := ⟨fun t ht => by
  obtain ⟨ad, e, hc⟩ := h.out t ht
  exact ⟨ad, e, cell_later hc hb⟩⟩

/-- The library's table of powers of ten, as it starts. -/
structure IsPow (w : World) : Prop where
  out : Lib.TabIs Tryd.prog w "internal/strconv.uint64pow10" .u64 Lib.pow10Tab
theorem gPow : Tryd.prog.globalNamed "internal/strconv.uint64pow10" = some 1 := by kernel_rfl
theorem IsPow.lt {w : World} (h : IsPow w) : 1 < w.heap.size := by
  have := h.out.cell gPow 0 (by decide)
  exact World.block_lt_of_cell? w _ this
theorem IsPow.later {w w' : World} (h : IsPow w) {B : Nat} (hb : Below B w w') (hB : 1 < B) : IsPow w' := ⟨var?_below hb gPow hB h.out⟩

theorem held_later {B b : Nat} {l : List Value} {w w' : World} (h : Held B b l w) (hb : Below w.heap.size w w') : Held B b l w' := by
  have hlt := h.lt
  obtain ⟨hB, v, hbk, hown, hne⟩ := h
  exact ⟨hB, v, (hb.block b hlt).trans hbk, own_below_s hown hb, hne⟩

/-- How far the text of steps has come. -/
structure PathAt (w wr : World) (b k : Nat) (Z : List Int) : Prop where
  bld : Lib.IsBuilder 99 5 w.heap.size b (Lib.byteCells (catL ((Z.take k).map Int.toNat))) wr
  pos : ∀ z ∈ Z.take k, 0 ≤ z
  below : Below w.heap.size w wr

theorem take_next {α : Type} (Z : List α) (k : Nat) (h : k < Z.length) : Z.take (k + 1) = Z.take k ++ [Z[k]] := by
  rw [List.take_succ_eq_append_getElem h]

theorem wf_nat (Z : List Int) (hZ : ∀ z ∈ Z, z < 9223372036854775808) (k : Nat) : ∀ n ∈ (Z.take k).map Int.toNat, n < 10000000000000000000 := by
  intro n hn
  obtain ⟨z, hz, rfl⟩ := List.mem_map.1 hn
  have := hZ z (List.mem_of_mem_take hz)
  omega

theorem byte_app (a b : List UInt8) : Lib.byteCells (a ++ b) = Lib.byteCells a ++ Lib.byteCells b := by simp [Lib.byteCells]

theorem text_toArray (l : List UInt8) : (⟨l.toArray⟩ : ByteArray).size = l.length := by simp [ByteArray.size]

set_option maxRecDepth 100000 in
set_option maxHeartbeats 2000000 in
theorem path_any (za : Option Addr) (zcap : Nat) (Z : List Int) (w : World) (hZ : IntsAt w za Z) (hP : IsPow w) (hn : Z.length ≤ 1048576) (hwf : ∀ z ∈ Z, -9223372036854775808 ≤ z ∧ z < 9223372036854775808) :
    Calls Tryd.prog 21 #[.slice za Z.length zcap] w fun e w' => e = .returned (.string ⟨(pathS Z).toArray⟩) ∧ Below w.heap.size w w' := by
  by_cases h0 : Z.length = 0
  · obtain rfl : Z = [] := List.length_eq_zero_iff.1 h0
    clear hZ hP hwf hn h0
    go_enter Tryd.func21, Tryd.ntmps21
    go_wp2
    go_ret
    exact ⟨rfl, Below.refl _ _⟩
  have h0i : ((Z.length : Int) == 0) = false := by rw [beq_eq_false_iff_ne]; omega
  have HNE : Hid (¬ Z = []) := fun h => h0 (by rw [h]; rfl)
  have HZ : Hid _ := hZ
  have HP : Hid _ := hP
  have HWF : Hid _ := hwf
  have HST : Hid (PathAt w (w.alloc (.cells #[.pointer none, .slice none 0 0] 99)) w.heap.size 0 Z) := ⟨Lib.fresh_isBuilder _ _ w, by simp, (Below.refl _ _).alloc (Nat.le_refl _) _⟩
  have hni : (Z.length : Int) ≤ 1048576 := by omega
  clear hZ hP hwf h0
  go_enter Tryd.func21, Tryd.ntmps21
  go_wp2
  go_loopw [5, 11] (fun s i wr => ∃ k : Nat, k ≤ Z.length ∧ i = .int .i64 k ∧ PathAt w wr w.heap.size k Z) (fun _ i _ => Z.length - (intOf i).toNat)
  case atStart => exact ⟨0, Nat.zero_le _, rfl, HST.out⟩
  case round =>
    clear HST
    obtain ⟨k, hk, rfl, hA⟩ := hrel
    have HA : Hid _ := hA
    clear hA
    by_cases hlt : k < Z.length
    · obtain ⟨ad, rfl, cz⟩ := (HZ.out.later HA.out.below).out k hlt
      have hzb := HWF.out Z[k] (List.getElem_mem hlt)
      obtain ⟨z, hz⟩ : ∃ z, Z[k] = z := ⟨_, rfl⟩
      rw [hz] at cz hzb
      have HZE : Hid (Z[k] = z) := hz
      clear hz
      by_cases hneg : z < 0
      · have HE : Hid (pathS Z = []) := by
          show _ = _
          unfold pathS
          rw [if_neg HNE.out, if_neg]
          intro h
          rw [List.all_eq_true] at h
          have := h Z[k] (List.getElem_mem hlt)
          rw [HZE.out] at this
          simp at this
          omega
        go_wp2
        go_ret
        rw [HE.out]
        exact ⟨rfl, HA.out.below⟩
      · have hcl := cat_len ((Z.take k).map Int.toNat) (wf_nat Z (fun z hz => (HWF.out z hz).2) k)
        have hcl2 : (Lib.byteCells (catL ((Z.take k).map Int.toNat))).length ≤ 20971520 := by
          rw [Lib.byteCells_length]
          have : ((Z.take k).map Int.toNat).length ≤ k := by simp; omega
          omega
        have HCL : Hid _ := hcl2
        have hdl := dec_len 18 z.toNat (by have := hzb.2; simp; omega)
        have HDL : Hid ((Lib.itoa z).length ≤ 19 ∧ Lib.itoa z = Lib.decDigits z.toNat) := by
          have e : Lib.itoa z = Lib.decDigits z.toNat := by unfold Lib.itoa; rw [if_neg hneg]
          exact ⟨by rw [e]; exact hdl, e⟩
        have HW1 : Hid _ := writeByte_any w.heap.size w.heap.size _ 47 wr HA.out.bld (by omega)
        clear hcl hcl2 hdl
        go_wp2_with fail
        refine Calls.mono HW1.out ?_
        rintro e w1 ⟨rfl, hh1, hb1⟩
        have HB1 : Hid (Below w.heap.size w w1) := HA.out.below.trans hb1
        have HI : Hid _ := Tryd.strconv_Itoa z hzb.1 (by omega) w1 (HP.out.later HB1.out HP.out.lt).out
        have HH1 : Hid _ := hh1
        clear hh1 hb1 HW1
        go_wp2_with fail
        refine Calls.mono HI.out ?_
        rintro e w2 ⟨rfl, q, os, hw2⟩
        have hb2 : Below w1.heap.size w1 w2 := by rw [hw2]; exact Lib.below_grow _ _ (Nat.le_refl _) _ _
        have HW2 : Hid _ := writeText_any w.heap.size w.heap.size _ ⟨(Lib.itoa z).toArray⟩ w2 (.inr (held_later HH1.out hb2)) (by have := HCL.out; have := HDL.out.1; rw [text_toArray, List.length_append, List.length_singleton]; omega)
        have HB2 : Hid (Below w.heap.size w w2) := HB1.out.trans (hb2.mono HB1.out.size)
        clear hw2 hb2 HI HH1 HB1
        go_wp2_with fail
        refine Calls.mono HW2.out ?_
        rintro e w3 ⟨rfl, hh3, hb3⟩
        have HN : Hid (PathAt w w3 w.heap.size (k + 1) Z) := by
          refine ⟨.inr ?_, ?_, HB2.out.trans hb3⟩
          · have e1 : Lib.byteCells (catL ((Z.take (k + 1)).map Int.toNat)) = Lib.byteCells (catL ((Z.take k).map Int.toNat)) ++ [.int .u8 47] ++ Lib.strCells ⟨(Lib.itoa z).toArray⟩ := by
              rw [take_next Z k hlt, List.map_append, HZE.out, List.map_singleton, cat_snoc, byte_app, Lib.strCells_toArray, HDL.out.2]
              simp [Lib.byteCells]
            rw [e1]
            exact hh3
          · intro y hy
            rw [take_next Z k hlt, List.mem_append, HZE.out] at hy
            rcases hy with hy | hy
            · exact HA.out.pos y hy
            · rw [List.mem_singleton] at hy
              omega
        clear hh3 hb3 HW2 HB2
        go_wp2
        go_roundw
        case rel => exact ⟨k + 1, by omega, by go_num, HN.out⟩
        case measure => simp [intOf]; omega
    · have hkz : k = Z.length := by omega
      subst hkz
      have hS := Tryd.Builder_String_any w.heap.size w.heap.size _ wr HA.out.bld HA.out.below.size
      rw [List.take_length] at hS
      have HS : Hid _ := hS
      clear hS
      have HE : Hid (pathS Z = catL (Z.map Int.toNat)) := by
        show _ = _
        unfold pathS
        rw [if_neg HNE.out, if_pos]
        rw [List.all_eq_true]
        intro z hz
        have := HA.out.pos z (by rw [List.take_length]; exact hz)
        simpa using this
      clear hlt hk
      go_wp2_with fail
      refine Calls.mono HS.out ?_
      rintro e w1 ⟨rfl, hb1⟩
      go_wp2
      go_ret
      rw [HE.out]
      exact ⟨rfl, HA.out.below.trans hb1⟩
end Go.Proofs.YtjfbogjpmieogaaDoor
