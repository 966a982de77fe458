/-
  Bytes cut into parts.
-/
import Derived.Test.YtjfbogjpmieogaaDoorDpRest
import Derived.Laws.BitsAllLaws
namespace Go.Proofs.YtjfbogjpmieogaaDoor
open Go.RowKit

/-- Whole numbers, where they lie. -/
structure IntsAt (w : World) (a : Option Addr) (Z : List Int) : Prop where
  out : ∀ t, (h : t < Z.length) → ∃ ad, a = some ad ∧ w.cell? (ad.add t) = some (.int .i64 Z[t])
theorem IntsAt.later {w w' : World} {a : Option Addr} {Z : List Int} (h : IntsAt w a Z) (hb : Below w.heap.size w w') : IntsAt w' a Z := ⟨fun t ht => by
  obtain ⟨ad, e, hc⟩ := h.out t ht
  exact ⟨ad, e, cell_later2 hc hb⟩⟩

theorem ofInt_u64' (k : Nat) (hk : k < 18446744073709551616) : (BitVec.ofInt 64 (k : Int)).toNat = k := by
  rw [BitVec.toNat_ofInt]
  omega
theorem i64_mask15 (n : Int) : ∃ y : Nat, y < 16 ∧ bits .and .i64 n 15 = (y : Int) := by
  have e : bits .and .i64 n 15 = IntKind.i64.wrap ((BitVec.ofInt 64 n &&& BitVec.ofInt 64 ((15 : Nat) : Int)).toNat : Int) := rfl
  rw [e, BitVec.toNat_and, ofInt_u64' 15 (by omega)]
  have h2 : (BitVec.ofInt 64 n).toNat &&& 15 = (BitVec.ofInt 64 n).toNat % 16 := Nat.and_two_pow_sub_one_eq_mod (BitVec.ofInt 64 n).toNat 4
  rw [h2]
  generalize (BitVec.ofInt 64 n).toNat = m
  refine ⟨m % 16, Nat.mod_lt _ (by decide), ?_⟩
  simp only [IntKind.wrap, IntKind.bits, IntKind.signed]
  simp
  omega

theorem Tryd.infoStr : (Tryd.prog.info? 9).map (fun i => (i.zero, i.size, i.bytes)) = some (some (.string ByteArray.empty), 1, 16) := by kernel_rfl

def flatS (ps : List ByteArray) : List UInt8 := ps.flatMap (fun p => p.data.toList)

/-- How far the bytes are cut. -/
structure CutAt (w wr : World) (k : Nat) (s S : ByteArray) (v : Value) (ps : List ByteArray) : Prop where
  own : wr.ownsRow w.heap.size 9 1 v ps.length (ps.map Value.string)
  len : ps.length = k
  eq : flatS ps ++ S.data.toList = s.data.toList
  below : Below w.heap.size w wr

theorem CutAt.next {w wr w1 w' : World} {k : Nat} {s S A B : ByteArray} {v v' : Value} {ps : List ByteArray} (h : CutAt w wr k s S v ps) (h01 : Below wr.heap.size wr w1) (hS : A.data.toList ++ B.data.toList = S.data.toList)
    (hown' : w'.ownsRow w.heap.size 9 1 v' (ps.length + 1) (ps.map Value.string ++ [.string A])) (hgrow : w1.grownBy w' v.ownBlock) : CutAt w w' (k + 1) s B v' (ps ++ [A]) := by
  have hs := h.below.size
  refine ⟨by simpa using hown', by have := h.len; simp; omega, ?_, (h.below.trans (h01.mono hs)).grown hgrow (Nat.le_trans hs h01.size) (own_block_ge h.own)⟩
  rw [← h.eq, ← hS]
  simp [flatS]

theorem cut_two (S : ByteArray) (n : Nat) : (S.extract 0 n).data.toList ++ (S.extract n S.size).data.toList = S.data.toList := by
  simp only [ByteArray.data_extract, Array.toList_extract, List.extract_eq_take_drop, List.drop_zero, Nat.sub_zero]
  rw [List.take_of_length_le (l := S.data.toList.drop n) (by simp)]
  exact List.take_append_drop n _

set_option maxRecDepth 100000 in
set_option maxHeartbeats 4000000 in
theorem parts_any (s : ByteArray) (za : Option Addr) (zcap : Nat) (Z : List Int) (w : World) (hZ : IntsAt w za Z) (hn : Z.length ≤ 1048576) (hs : s.size ≤ 1048576) :
    Calls Tryd.prog 14 #[.string s, .slice za Z.length zcap] w fun e w' => ∃ v ps, e = .returned v ∧ w'.ownsRow w.heap.size 9 1 v ps.length (ps.map Value.string) ∧ ps.length = Z.length + 1 ∧ flatS ps = s.data.toList ∧ Below w.heap.size w w' := by
  obtain ⟨i0, hi, hy0, hy1, hy2⟩ := info_parts Tryd.infoStr
  have HZ : Hid _ := hZ
  have hnI : (Z.length : Int) ≤ 1048576 := by omega
  clear hZ
  go_enter Tryd.func14, Tryd.ntmps14
  go_wp2
  go_loopw [0, 5, 6, 7] (fun sv o i _ wr => ∃ (k : Nat) (S : ByteArray) (ps : List ByteArray), k ≤ Z.length ∧ S.size ≤ 1048576 ∧ sv = .string S ∧ i = .int .i64 (k : Int) ∧ CutAt w wr k s S o ps) (fun _ _ i _ _ => Z.length - (intOf i).toNat)
  case atStart => exact ⟨0, s, [], Nat.zero_le _, hs, rfl, rfl, ⟨World.ownsRow_nil _ _ _ _, rfl, rfl, Below.refl _ _⟩⟩
  case round =>
    obtain ⟨k, S, ps, hk, hS, rfl, rfl, hR⟩ := hrel
    have HR : Hid _ := hR
    have hsz := hR.below.size
    have HLN : Hid (ps.length = k ∧ k ≤ 1048576) := ⟨hR.len, by omega⟩
    obtain ⟨va, vcap, hve⟩ := own_head hR.own
    subst hve
    have HBL : Hid (∀ o, Below wr.heap.size wr (wr.alloc o)) := fun o => (Below.refl _ _).alloc (Nat.le_refl _) o
    clear hR
    by_cases hlt : k < Z.length
    · obtain ⟨ad, rfl, cz⟩ := (HZ.out.later HR.out.below).out k hlt
      generalize Z[k] = z at cz
      obtain ⟨y, hy, hye⟩ := i64_mask15 z
      have hkI : (k : Int) < (Z.length : Int) := by omega
      by_cases hyS : y ≤ S.size
      · have h1 : ¬ (S.size : Int) < (y : Int) := by omega
        have h2 : (y : Int) ≤ (S.size : Int) := by omega
        go_wp2_with (at_builtin; refine wpList_append_own _ rfl _ _ 44 rfl w.heap.size 9 i0 (.string ByteArray.empty) 1 16 Tryd.underlying44 hi hy0 hy1 hy2 rfl (by decide) _ _ _ rfl (own_below HR.out.own (HBL.out _)) ⟨wr.heap.size, 0, none⟩ 1 1 [.string (S.extract 0 y)] rfl rfl (news_cells _ #[.string (S.extract 0 y)] _ _ rfl) (by intro u hu; simp at hu; subst hu; rfl) (by have := HLN.out; unfold maxLen; omega) (by have := HLN.out; omega) (by simp; omega) ?_)
        intro v' w3 hown hgrow _
        obtain ⟨⟨g, cap, rfl⟩, HN⟩ : (∃ g cap, v' = .slice (some ⟨g, 0, none⟩) (ps.length + 1) cap) ∧ Hid (CutAt w w3 (k + 1) s (S.extract y S.size) v' (ps ++ [S.extract 0 y])) := ⟨Joins.ownsRow_form hown (by omega), HR.out.next (HBL.out _) (cut_two S y) hown hgrow⟩
        clear hown hgrow HR HBL
        go_wp2
        go_roundw
        case rel => exact ⟨k + 1, _, _, hlt, by simp; omega, rfl, by go_num, HN.out⟩
        case measure => simp [intOf]; omega
      · have h1 : (S.size : Int) < (y : Int) := by omega
        go_wp2_with (at_builtin; refine wpList_append_own _ rfl _ _ 44 rfl w.heap.size 9 i0 (.string ByteArray.empty) 1 16 Tryd.underlying44 hi hy0 hy1 hy2 rfl (by decide) _ _ _ rfl (own_below HR.out.own (HBL.out _)) ⟨wr.heap.size, 0, none⟩ 1 1 [.string S] rfl rfl (news_cells _ #[.string S] _ _ rfl) (by intro u hu; simp at hu; subst hu; rfl) (by have := HLN.out; unfold maxLen; omega) (by have := HLN.out; omega) (by simp; omega) ?_)
        intro v' w3 hown hgrow _
        obtain ⟨⟨g, cap, rfl⟩, HN⟩ : (∃ g cap, v' = .slice (some ⟨g, 0, none⟩) (ps.length + 1) cap) ∧ Hid (CutAt w w3 (k + 1) s ByteArray.empty v' (ps ++ [S])) := ⟨Joins.ownsRow_form hown (by omega), HR.out.next (HBL.out _) (by simp) hown hgrow⟩
        clear hown hgrow HR HBL
        go_wp2
        go_roundw
        case rel => exact ⟨k + 1, _, _, hlt, by simp, rfl, by go_num, HN.out⟩
        case measure => simp [intOf]; omega
    · have hkz : k = Z.length := by omega
      subst hkz
      clear hlt hk
      go_wp2_with (at_builtin; refine wpList_append_own _ rfl _ _ 44 rfl w.heap.size 9 i0 (.string ByteArray.empty) 1 16 Tryd.underlying44 hi hy0 hy1 hy2 rfl (by decide) _ _ _ rfl (own_below HR.out.own (HBL.out _)) ⟨wr.heap.size, 0, none⟩ 1 1 [.string S] rfl rfl (news_cells _ #[.string S] _ _ rfl) (by intro u hu; simp at hu; subst hu; rfl) (by have := HLN.out; unfold maxLen; omega) (by have := HLN.out; omega) (by simp; omega) ?_)
      intro v' w3 hown hgrow _
      obtain ⟨⟨g, cap, rfl⟩, HN⟩ : (∃ g cap, v' = .slice (some ⟨g, 0, none⟩) (ps.length + 1) cap) ∧ Hid (CutAt w w3 (Z.length + 1) s ByteArray.empty v' (ps ++ [S])) := ⟨Joins.ownsRow_form hown (by omega), HR.out.next (HBL.out _) (by simp) hown hgrow⟩
      clear hown hgrow HR HBL
      go_wp2
      go_ret
      exact ⟨_, ps ++ [S], rfl, HN.out.own, HN.out.len, by have := HN.out.eq; simpa using this, HN.out.below⟩
end Go.Proofs.YtjfbogjpmieogaaDoor
