/-
  Is an entry alike?
-/
import Derived.Test.YtalbiekleggkoaaMaLike
namespace Go.Proofs.Ytalbiekleggkoaa
open Go.RowKit Go.Maps

def likeB (name name1 : ByteArray) (l l1 : List Atr) : Bool := (name1.toList == name.toList) && (l1.length == l.length) && l1.all (hasA l)

theorem LikeAt.turn {w w' : World} {b h s : Nat} {name : ByteArray} {a : Option Addr} {cap : Nat} {l : List Atr} (h0 : LikeAt w b h s name a cap l) (hk : Kept (amOut s) w w') (ha : AmAt w' s a cap l) : LikeAt w' b h s name a cap l :=
  ⟨(hk.cell ⟨b, 1, none⟩ (World.block_lt_of_cell? _ _ h0.c1) h0.ob).trans h0.c1, (hk.cell ⟨b, 2, none⟩ (World.block_lt_of_cell? _ _ h0.c2) h0.ob).trans h0.c2, (hk.cell ⟨h, 0, none⟩ (World.block_lt_of_cell? _ _ h0.ch) h0.oh).trans h0.ch, ha, h0.hra, h0.ob, h0.oh⟩
theorem AtrsAt.turn {w w' : World} {s : Nat} {a : Option Addr} {l : List Atr} (h : AtrsAt w a l) (hk : Kept (amOut s) w w') (hra : ∀ g, a = some ⟨g, 0, none⟩ → l ≠ [] → ¬ amOut s g) : AtrsAt w' a l := by
  refine ⟨fun i p hi => ?_⟩
  obtain ⟨g, e1, e2, e3⟩ := h.at' i p hi
  have hn := hra g e1 (by intro e; subst e; simp at hi)
  exact ⟨g, e1, (hk.cell ⟨g, i * 2, none⟩ (World.block_lt_of_cell? _ _ e2) hn).trans e2, (hk.cell ⟨g, i * 2 + 1, none⟩ (World.block_lt_of_cell? _ _ e3) hn).trans e3⟩

/-- How far the attributes were asked. -/
structure L1At (w : World) (b h s : Nat) (name : ByteArray) (a : Option Addr) (cap : Nat) (l : List Atr) (a1 : Option Addr) (l1 : List Atr) (k : Nat) (wr : World) : Prop where
  lk : LikeAt wr b h s name a cap l
  row : AtrsAt wr a1 l1
  kept : Kept (amOut s) w wr
  all : (l1.take k).all (hasA l) = true

set_option maxRecDepth 100000 in
set_option maxHeartbeats 4000000 in
theorem like1_any (b h s : Nat) (name : ByteArray) (a : Option Addr) (cap : Nat) (l : List Atr) (node1 : Int) (name1 : ByteArray) (a1 : Option Addr) (cap1 : Nat) (l1 : List Atr) (w : World) (hL : LikeAt w b h s name a cap l) (hR : AtrsAt w a1 l1) (hra1 : ∀ g, a1 = some ⟨g, 0, none⟩ → l1 ≠ [] → ¬ amOut s g)
    (hl : l.length ≤ 1000) (hok : ∀ q ∈ l, AtrOk q) (hok1 : ∀ q ∈ l1, AtrOk q) :
    Calls Try.prog 78 #[.agg #[.int .i64 node1, .string name1, .slice a1 l1.length cap1], .pointer (some ⟨b, 0, none⟩), .pointer (some ⟨h, 0, none⟩)] w fun e w' => e = .returned (.bool (likeB name name1 l l1)) ∧ Kept (amOut s) w w' := by
  have HB : Hid (∀ o, Below w.heap.size w (w.alloc o)) := fun o => (Below.refl _ _).alloc (Nat.le_refl _) o
  have HL : Hid (∀ o, L1At w b h s name a cap l a1 l1 0 (w.alloc o)) := fun o => ⟨hL.below (HB.out o), hR.below (HB.out o), Kept.below (HB.out o), rfl⟩
  have k1 : ∀ o, (w.alloc o).cell? ⟨b, 1, none⟩ = some (.string name) := fun o => (HL.out o).lk.c1
  have k2 : ∀ o, (w.alloc o).cell? ⟨b, 2, none⟩ = some (.slice a l.length cap) := fun o => (HL.out o).lk.c2
  clear hL hR
  unfold likeB
  cases hn : (name1.toList == name.toList)
  · go_enter Try.func78, Try.ntmps78
    go_wp2
    go_ret
    exact ⟨rfl, Kept.below (HB.out _)⟩
  · cases hln : (l1.length == l.length)
    · have hne : ¬ (l1.length : Int) = (l.length : Int) := by
        have := beq_eq_false_iff_ne.1 hln
        omega
      have hnb : ((l1.length : Int) != (l.length : Int)) = true := by simp; omega
      go_enter Try.func78, Try.ntmps78
      go_wp2
      go_ret
      exact ⟨rfl, Kept.below (HB.out _)⟩
    · have hll : l1.length = l.length := by simpa using hln
      have hnb : ((l1.length : Int) != (l.length : Int)) = false := by simp; omega
      have HLL : Hid (l1.length = l.length) := hll
      clear hll hln
      go_enter Try.func78, Try.ntmps78
      go_wp2
      go_loopw [24] (fun i wr => ∃ k : Nat, k ≤ l1.length ∧ i = .int .i64 k ∧ Hid (L1At w b h s name a cap l a1 l1 k wr)) (fun i _ => l1.length - (intOf i).toNat)
      case atStart => exact ⟨0, by omega, rfl, HL.out _⟩
      case round =>
        clear HL HB k1 k2
        obtain ⟨k, hk, rfl, hM⟩ := hrel
        by_cases hlt : k < l1.length
        · have hk1000 : l1.length ≤ 1000 := by have := HLL.out; omega
          have hkI : (k : Int) < (l1.length : Int) := by omega
          obtain ⟨g, rfl, d0, d1⟩ := hM.out.row.at' k l1[k] (List.getElem?_eq_getElem hlt)
          have HBk : Hid (∀ o, Below wr.heap.size wr (wr.alloc o)) := fun o => (Below.refl _ _).alloc (Nat.le_refl _) o
          have j1 : ∀ o, (wr.alloc o).cell? ⟨h, 0, none⟩ = some (.func (.func 82) #[] #[.pointer (some ⟨s + 2, 0, none⟩), .pointer (some ⟨s, 0, none⟩), .pointer (some ⟨s + 1, 0, none⟩)]) := fun o => (hM.out.lk.below (HBk.out o)).ch
          have HC : Hid (∀ o, _) := fun o => among1_any s a cap l l1[k] (wr.alloc o) (hM.out.lk.am.below (HBk.out o)) hl hok (hok1 _ (List.getElem_mem hlt)) hM.out.lk.hra
          have HTK : Hid (l1.take (k + 1) = l1.take k ++ [l1[k]]) := by
            show _ = _
            rw [List.take_add_one, List.getElem?_eq_getElem hlt]
            rfl
          have HMEM : Hid (l1[k] ∈ l1) := List.getElem_mem hlt
          have en := enters_among1
          generalize l1[k] = r at *
          go_wp2_with fail
          refine Calls.mono (HC.out _) ?_
          rintro e w2 ⟨rfl, hA⟩
          have HNX : Hid (hasA l r = true → L1At w b h s name _ cap l (some ⟨g, 0, none⟩) l1 (k + 1) w2) := fun hh => by
            have hkk := (Kept.below (HBk.out _)).trans hA.out.2
            refine ⟨hM.out.lk.turn hkk hA.out.1, hM.out.row.turn hkk hra1, hM.out.kept.trans hkk, ?_⟩
            rw [HTK.out, List.all_append, hM.out.all]
            simp [hh]
          have HKP : Hid (Kept (amOut s) w w2) := hM.out.kept.trans ((Kept.below (HBk.out _)).trans hA.out.2)
          clear HC hA
          cases hh : hasA l r
          · have HF : Hid (l1.all (hasA l) = false) := by
              show _ = _
              rw [List.all_eq_false]
              exact ⟨r, HMEM.out, by simp [hh]⟩
            go_wp2
            go_ret
            exact ⟨by rw [HF.out]; simp, HKP.out⟩
          · have HN2 := HNX.out hh
            go_wp2
            go_roundw
            case rel => exact ⟨k + 1, by omega, by go_num, HN2⟩
            case measure => simp only [intOf]; go_num
        · obtain rfl : k = l1.length := by omega
          have HF : Hid (l1.all (hasA l) = true) := by
            have := hM.out.all
            rwa [List.take_length] at this
          go_wp2
          go_ret
          exact ⟨by rw [HF.out]; simp, hM.out.kept⟩
end Go.Proofs.Ytalbiekleggkoaa
