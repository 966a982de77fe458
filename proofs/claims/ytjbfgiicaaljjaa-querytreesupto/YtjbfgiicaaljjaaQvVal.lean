/-
  The value of an attribute of a node, whole.
-/
import Derived.Test.YtjbfgiicaaljjaaQvIdx
namespace Go.Proofs.Ytjbfgiicaaljjaa
open Go.RowKit

def valR (kind : Int) (al : List Att) (name : ByteArray) : ByteArray × Bool := if kind = 2 then (match findA al name with | some x => (x.value, true) | none => (⟨#[]⟩, false)) else (⟨#[]⟩, false)

theorem node_blk (w : World) (k0 k1 k2 k3 k4 : Value) (t : TypeId) : (w.alloc (.cells #[k0, k1, k2, k3, k4] t)).heap[w.heap.size]? = some (.cells #[k0, k1, k2, k3, k4] t (0, 0)) := heap_alloc_new w _

set_option maxRecDepth 100000 in
set_option maxHeartbeats 4000000 in
theorem value_in (t B g cap BA na : Nat) (cs : List Cel) (n : Nat) (c : Cel) (l : List UInt8) (al : List Att) (name : ByteArray) (w : World) (hT : TreeAt w t B g cap cs) (hn : cs[n]? = some c) (hds : c.data.size + l.length ≤ 9223372036854775807) (hM : w.ownsRow B 5 1 c.more l.length (byteC l)) (hA : w.ownsRow BA 67 2 c.attrs na (al.flatMap attC)) (hal : al.length ≤ 1000000) :
    Calls Try.prog 13 #[.pointer (some ⟨t, 0, none⟩), .int .i64 (n : Int), .string name] w fun e w' => e = .returned (.tuple #[.string (valR c.kind al name).1, .bool (valR c.kind al name).2]) ∧ Below w.heap.size w w' := by
  have HG : Hid (∀ o, _) := fun o => get_att t B g cap BA na cs n c l al (w.alloc o) (hT.below ((Below.refl _ _).alloc (Nat.le_refl _) o)) hn hds (World.ownsRow.alloc hM o) (World.ownsRow.alloc hA o) hal
  have HBO : Hid (∀ o, Below w.heap.size w (w.alloc o)) := fun o => (Below.refl _ _).alloc (Nat.le_refl _) o
  have heg := enters_val
  clear hT hn hds hM hA
  generalize hVV : valR c.kind al name = V
  have HVV : Hid (valR c.kind al name = V) := hVV
  clear hVV
  go_enter Try.func13, Try.ntmps13
  go_wp2_with fail
  have hblk : (w.alloc (.cells #[.string name] 9)).heap[w.heap.size]? = some (.cells #[.string name] 9 (0, 0)) := heap_alloc_new w _
  have hb1 := HBO.out (.cells #[.string name] 9)
  refine Calls.mono (HG.out _) ?_
  rintro e w1 ⟨a2, c2, rfl, h1⟩
  have hlt1 : w.heap.size < w1.heap.size := Nat.lt_of_lt_of_le (by simp) h1.out.2.size
  have hnm : w1.cell? ⟨w.heap.size, 0, none⟩ = some (.string name) := by
    have := (h1.out.2.block w.heap.size (by simp)).trans hblk
    simp [World.cell?, this]
  have HNM : Hid (∀ o, (w1.alloc o).cell? ⟨w.heap.size, 0, none⟩ = some (.string name)) := fun o => by rw [World.cell?_alloc_old _ _ _ (Nat.ne_of_lt hlt1)]; exact hnm
  have HB1 : Hid (Below w.heap.size w w1) := hb1.trans (h1.out.2.mono hb1.size)
  obtain ⟨f1, f2, f3⟩ := atts_of h1.out.1
  have HF : Hid (∀ o, AttsAt (w1.alloc o) a2 al) := fun o => f3.below ((Below.refl _ _).alloc (Nat.le_refl _) o)
  have HNA : Hid _ := f1
  have HBO1 : Hid (∀ o, Below w1.heap.size w1 (w1.alloc o)) := fun o => (Below.refl _ _).alloc (Nat.le_refl _) o
  clear h1 hblk hb1 HG HBO hnm f1 f3
  generalize hdt : c.data ++ (⟨l.toArray⟩ : ByteArray) = dt
  clear hdt
  have HX : Hid (∀ o, _) := fun o => findA_any a2 na c2 w.heap.size al name (w1.alloc o) HNA.out (HF.out o) (HNM.out o) (by rw [HNA.out]; exact hal)
  by_cases hk : c.kind = 2
  · have HV : Hid (V = (match findA al name with | some x => (x.value, true) | none => (⟨#[]⟩, false))) := (by rw [← HVV.out]; unfold valR; rw [if_pos hk] : V = _)
    clear HVV
    rw [hk] at *
    have n0 := node_blk w1 (.int .i64 2) (.int .i64 c.at') (.string c.name) (.string dt) (.slice a2 na c2) 47
    go_wp2_with fail
    refine Calls.mono (HX.out _) ?_
    rintro e w2 ⟨r, rfl, h2⟩
    have hw := HBO1.out (.cells #[.int .i64 2, .int .i64 c.at', .string c.name, .string dt, .slice a2 na c2] 47)
    have HB2 : Hid (Below w.heap.size w w2) := (HB1.out.trans (hw.mono (Nat.le_of_lt hlt1))).trans (h2.out.below.mono (Nat.le_trans (Nat.le_of_lt hlt1) hw.size))
    rcases h2.out.or with ⟨rfl, h3⟩ | ⟨i, x, rfl, h3, h4⟩
    · rw [h3] at HV
      clear HX HF HNM HB1 h2 hw n0
      go_wp2
      go_ret2
      exact ⟨by rw [HV.out]; rfl, HB2.out⟩
    · rw [h4] at HV
      have n1 := (h2.out.below.block _ (by simp)).trans n0
      have k4 : w2.cell? ⟨w1.heap.size, 4, none⟩ = some (.slice a2 na c2) := by simp [World.cell?, n1]
      obtain ⟨gg, ha, _, q1⟩ := ((HF.out _).below h2.out.below) i x h3
      have hi : (i : Int) < (na : Int) := by have := (List.getElem?_eq_some_iff.1 h3).1; have := HNA.out; omega
      have hi0 : ¬ (i : Int) < 0 := by omega
      subst ha
      clear HX HF HNM HB1 h2 hw n0 n1 h3 h4
      go_wp2
      go_ret2
      exact ⟨by rw [HV.out]; rfl, HB2.out⟩
  · have HV : Hid (V = (⟨#[]⟩, false)) := (by rw [← HVV.out]; unfold valR; rw [if_neg hk] : V = _)
    clear HVV
    have hkn : (c.kind != 2) = true := by simpa using hk
    have HB2 : Hid (∀ o, Below w.heap.size w (w1.alloc o)) := fun o => HB1.out.trans ((HBO1.out o).mono (Nat.le_of_lt hlt1))
    clear HX HF HNM HB1
    go_wp2
    go_ret2
    exact ⟨by rw [HV.out]; rfl, HB2.out _⟩

set_option maxRecDepth 100000 in
set_option maxHeartbeats 2000000 in
theorem value_none (n : Int) (name : ByteArray) (w : World) :
    Calls Try.prog 13 #[.pointer none, .int .i64 n, .string name] w fun e w' => e = .returned (.tuple #[.string ⟨#[]⟩, .bool false]) ∧ Below w.heap.size w w' := by
  have HG : Hid (∀ w, _) := fun w => get_none n w
  have HBO : Hid (∀ o, Below w.heap.size w (w.alloc o)) := fun o => (Below.refl _ _).alloc (Nat.le_refl _) o
  go_enter Try.func13, Try.ntmps13
  go_wp2_with fail
  refine Calls.mono (HG.out _) ?_
  rintro e w1 ⟨rfl, h1⟩
  have hb1 := HBO.out (.cells #[.string name] 9)
  have HB1 : Hid (Below w.heap.size w w1) := hb1.trans (h1.mono hb1.size)
  have HB2 : Hid (∀ o, Below w.heap.size w (w1.alloc o)) := fun o => HB1.out.trans (((Below.refl _ _).alloc (Nat.le_refl _) o).mono HB1.out.size)
  clear HG HBO h1 hb1 HB1
  go_wp2
  go_ret2
  exact ⟨rfl, HB2.out _⟩
end Go.Proofs.Ytjbfgiicaaljjaa
