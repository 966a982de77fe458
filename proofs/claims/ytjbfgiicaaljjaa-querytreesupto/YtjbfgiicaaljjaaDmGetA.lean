/-
  A node by its number, with all its attributes; its kids.
-/
import Derived.Test.YtjbfgiicaaljjaaDmToldA
namespace Go.Proofs.Ytjbfgiicaaljjaa
open Go.RowKit

theorem get_fin {w wr w2 : World} {na : Nat} {al : List Att} {a2 : Option Addr} {c2 : Nat} (hb : Below w.heap.size w wr) (hlt : w.heap.size < wr.heap.size) (h : FreshA wr a2 na c2 al w2) (k0 k1 k2 k3 k4 : Value) :
    FreshA w a2 na c2 al (((((w2.setCell ⟨w.heap.size, 0, none⟩ k0).setCell ⟨w.heap.size, 1, none⟩ k1).setCell ⟨w.heap.size, 2, none⟩ k2).setCell ⟨w.heap.size, 3, none⟩ k3).setCell ⟨w.heap.size, 4, none⟩ k4) := by
  refine ⟨?_, ?_⟩
  · have hk : Kept (fun k => k = w.heap.size) w2 (((((w2.setCell ⟨w.heap.size, 0, none⟩ k0).setCell ⟨w.heap.size, 1, none⟩ k1).setCell ⟨w.heap.size, 2, none⟩ k2).setCell ⟨w.heap.size, 3, none⟩ k3).setCell ⟨w.heap.size, 4, none⟩ k4) :=
      (((((Kept.refl (fun k => k = w.heap.size) _).store ⟨w.heap.size, 0, none⟩ rfl _).store ⟨w.heap.size, 1, none⟩ rfl _).store ⟨w.heap.size, 2, none⟩ rfl _).store ⟨w.heap.size, 3, none⟩ rfl _).store ⟨w.heap.size, 4, none⟩ rfl _
    have h1 := owns_kept h.1 hk (fun k e e2 => by have := (owns_lt h.1 k e).1; omega)
    refine ⟨h1.1, ?_⟩
    rcases h1.2 with h2 | ⟨g', cap', cur, hv, hg, rest⟩
    · exact .inl h2
    · exact .inr ⟨g', cap', cur, hv, by omega, rest⟩
  · have hb2 := hb.trans (h.2.mono hb.size)
    exact ((((hb2.setCell (p := ⟨w.heap.size, 0, none⟩) (Nat.le_refl _) _).setCell (p := ⟨w.heap.size, 1, none⟩) (Nat.le_refl _) _).setCell (p := ⟨w.heap.size, 2, none⟩) (Nat.le_refl _) _).setCell (p := ⟨w.heap.size, 3, none⟩) (Nat.le_refl _) _).setCell (p := ⟨w.heap.size, 4, none⟩) (Nat.le_refl _) _

set_option maxRecDepth 100000 in
set_option maxHeartbeats 2000000 in
theorem get_att (t B g cap BA na : Nat) (cs : List Cel) (n : Nat) (c : Cel) (l : List UInt8) (al : List Att) (w : World) (hT : TreeAt w t B g cap cs) (hn : cs[n]? = some c) (hds : c.data.size + l.length ≤ 9223372036854775807) (hM : w.ownsRow B 5 1 c.more l.length (byteC l)) (hA : w.ownsRow BA 67 2 c.attrs na (al.flatMap attC)) (hal : al.length ≤ 1000000) :
    Calls Try.prog 20 #[.pointer (some ⟨t, 0, none⟩), .int .i64 (n : Int)] w fun e w' => ∃ a2 c2, e = .returned (.tuple #[.agg #[.int .i64 c.kind, .int .i64 c.at', .string c.name, .string (c.data ++ ⟨l.toArray⟩), .slice a2 na c2], .bool true]) ∧ Hid (FreshA w a2 na c2 al w') := by
  have hlt := (List.getElem?_eq_some_iff.1 hn).1
  have HBD : Hid (∀ o, Below w.heap.size w (w.alloc o)) := fun o => (Below.refl _ _).alloc (Nat.le_refl _) o
  have HH : Hid (∀ w', Below w.heap.size w w' → _) := fun w' hb => has_in t B g cap cs w' n (hT.below hb) hlt
  have HT : Hid (∀ w', Below w.heap.size w w' → _) := fun w' hb => told_att t B g cap BA na cs n c l al w' (hT.below hb) hn hds (owns_kept (out := fun _ => False) hM (Kept.below hb) (fun _ _ e => e)) (owns_kept (out := fun _ => False) hA (Kept.below hb) (fun _ _ e => e)) hal
  have HT0 : Hid (∀ w', Below w.heap.size w w' → _) := fun w' hb => (hT.below hb).c0
  have hI : (n : Int) < (cs.length : Int) := by omega
  clear hT hn hds hM hA hlt
  go_enter Try.func20, Try.ntmps20
  go_wp2_with fail
  obtain ⟨wr, hwr⟩ : ∃ x, x = (w.alloc (.cells #[.int .i64 0, .int .i64 0, .string ⟨#[]⟩, .string ⟨#[]⟩, .slice none 0 0] 47)) := ⟨_, rfl⟩
  rw [← hwr]
  have hBr : Below w.heap.size w wr := by rw [hwr]; exact HBD.out _
  have hb0 : wr.heap[w.heap.size]? = some (.cells #[.int .i64 0, .int .i64 0, .string ⟨#[]⟩, .string ⟨#[]⟩, .slice none 0 0] 47 (0, 0)) := by rw [hwr]; exact Array.getElem?_push_size
  have hRl : w.heap.size < wr.heap.size := (Array.getElem?_eq_some_iff.1 hb0).1
  refine Calls.mono (HH.out wr hBr) ?_
  rintro e w1 ⟨rfl, hw1⟩
  subst hw1
  have c0 := HT0.out w1 hBr
  have HC : Hid _ := HT.out w1 hBr
  have HBr : Hid _ := hBr
  have HB0 : Hid _ := hb0
  have HRl : Hid _ := hRl
  clear HH HT HT0 HBD hBr hb0 hwr hRl
  go_wp2_with fail
  refine Calls.mono HC.out ?_
  rintro e w2 ⟨a2, c2, rfl, h2⟩
  have hb0 := (h2.out.2.block _ HRl.out).trans HB0.out
  have m0 : w2.cell? ⟨w.heap.size, 0, none⟩ = some (.int .i64 0) := by simp [World.cell?, hb0]
  have m1 : w2.cell? ⟨w.heap.size, 1, none⟩ = some (.int .i64 0) := by simp [World.cell?, hb0]
  have m2 : w2.cell? ⟨w.heap.size, 2, none⟩ = some (.string ⟨#[]⟩) := by simp [World.cell?, hb0]
  have m3 : w2.cell? ⟨w.heap.size, 3, none⟩ = some (.string ⟨#[]⟩) := by simp [World.cell?, hb0]
  have m4 : w2.cell? ⟨w.heap.size, 4, none⟩ = some (.slice none 0 0) := by simp [World.cell?, hb0]
  have z0 : ∀ j, w2.frozen? ⟨w.heap.size, j, none⟩ = false := by intro j; simp [World.frozen?, hb0]
  have HE : Hid (∀ k0 k1 k2 k3 k4 : Value, _) := fun k0 k1 k2 k3 k4 => get_fin HBr.out HRl.out h2.out k0 k1 k2 k3 k4
  clear hb0 h2 HC HBr HB0 HRl c0
  generalize hR : w.heap.size = R at *
  generalize hLB : (⟨l.toArray⟩ : ByteArray) = lb at *
  clear hI
  go_wp2
  clear hR
  subst hLB
  refine bodyPost_ret (v := .tuple #[.agg #[.int .i64 c.kind, .int .i64 c.at', .string c.name, .string (c.data ++ ⟨l.toArray⟩), .slice a2 na c2], .bool true]) (by simp [results, Try.results20, go_sem, *]) rfl ⟨_, _, rfl, ?_⟩
  exact HE.out _ _ _ _ _
end Go.Proofs.Ytjbfgiicaaljjaa
