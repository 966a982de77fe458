/-
  A node as it is told.
-/
import Derived.Test.YtopecjchflknbaaDmText
namespace Go.Proofs.Ytopecjchflknbaa
open Go.RowKit

theorem two_at (w : World) (o1 o2 : Obj) : ((w.alloc o1).alloc o2).heap[w.heap.size + 1]? = some o2 := by
  have h : (w.alloc o1).heap.size = w.heap.size + 1 := by simp
  show ((w.alloc o1).heap.push o2)[w.heap.size + 1]? = some o2
  rw [← h, Array.getElem?_push_size]
theorem one_at (w : World) (o1 o2 : Obj) : ((w.alloc o1).alloc o2).heap[w.heap.size]? = some o1 := by
  rw [heap_alloc_old _ _ (by simp)]
  exact Array.getElem?_push_size

theorem told_below {R R1 : Nat} {w wr : World} (h : Below R w wr) (h1 : R ≤ R1) (a b k0 k1 k2 k3 k4 : Value) : Below R w (((((((wr.setCell ⟨R1, 3, none⟩ a).setCell ⟨R1, 4, none⟩ b).setCell ⟨R, 0, none⟩ k0).setCell ⟨R, 1, none⟩ k1).setCell ⟨R, 2, none⟩ k2).setCell ⟨R, 3, none⟩ k3).setCell ⟨R, 4, none⟩ k4).drew := by
  have hd : ∀ x : World, Below R w x → Below R w x.drew := fun x h => ⟨h.os, h.tape, h.output, h.size, h.block⟩
  refine hd _ ?_
  exact ((((((h.setCell (p := ⟨R1, 3, none⟩) h1 _).setCell (p := ⟨R1, 4, none⟩) h1 _).setCell (p := ⟨R, 0, none⟩) (Nat.le_refl _) _).setCell (p := ⟨R, 1, none⟩) (Nat.le_refl _) _).setCell (p := ⟨R, 2, none⟩) (Nat.le_refl _) _).setCell (p := ⟨R, 3, none⟩) (Nat.le_refl _) _).setCell (p := ⟨R, 4, none⟩) (Nat.le_refl _) _

set_option maxRecDepth 100000 in
set_option maxHeartbeats 2000000 in
theorem told_any (t B g cap : Nat) (cs : List Cel) (n : Nat) (c : Cel) (l : List UInt8) (w : World) (hT : TreeAt w t B g cap cs) (hn : cs[n]? = some c) (hd : c.data = ⟨#[]⟩) (ha : c.attrs = .slice none 0 0) (hM : w.ownsRow B 5 1 c.more l.length (byteC l)) (hl : l.length ≤ 1000000) :
    Calls Try.prog 37 #[.pointer (some ⟨g, n * 10, none⟩)] w fun e w' => e = .returned (.agg #[.int .i64 c.kind, .int .i64 c.at', .string c.name, .string ⟨l.toArray⟩, .slice none 0 0]) ∧ Below w.heap.size w w' := by
  have c0 : w.cell? ⟨g, n * 10, none⟩ = some (.int .i64 c.kind) := hT.at (j := 0) hn rfl
  have c1 : w.cell? ⟨g, n * 10 + 1, none⟩ = some (.int .i64 c.at') := hT.at hn rfl
  have c2 : w.cell? ⟨g, n * 10 + 2, none⟩ = some (.string c.name) := hT.at hn rfl
  have c3 : w.cell? ⟨g, n * 10 + 3, none⟩ = some (.string ⟨#[]⟩) := by rw [← hd]; exact hT.at hn rfl
  have c4 : w.cell? ⟨g, n * 10 + 4, none⟩ = some (.slice none 0 0) := by rw [← ha]; exact hT.at hn rfl
  have HB1 : Hid (∀ o, Below w.heap.size w (w.alloc o)) := fun o => (Below.refl _ _).alloc (Nat.le_refl _) o
  have d0 : ∀ o, (w.alloc o).cell? ⟨g, n * 10, none⟩ = some (.int .i64 c.kind) := fun o => (hT.below (HB1.out o)).at (j := 0) hn rfl
  have d1 : ∀ o, (w.alloc o).cell? ⟨g, n * 10 + 1, none⟩ = some (.int .i64 c.at') := fun o => (hT.below (HB1.out o)).at hn rfl
  have d2 : ∀ o, (w.alloc o).cell? ⟨g, n * 10 + 2, none⟩ = some (.string c.name) := fun o => (hT.below (HB1.out o)).at hn rfl
  have d3 : ∀ o, (w.alloc o).cell? ⟨g, n * 10 + 3, none⟩ = some (.string ⟨#[]⟩) := fun o => by rw [← hd]; exact (hT.below (HB1.out o)).at hn rfl
  have d4 : ∀ o, (w.alloc o).cell? ⟨g, n * 10 + 4, none⟩ = some (.slice none 0 0) := fun o => by rw [← ha]; exact (hT.below (HB1.out o)).at hn rfl
  have HT : Hid _ := hT
  have HM : Hid _ := hM
  have HN : Hid _ := hn
  clear hT hM hn c0 c1 c2 c3 c4 hd ha
  go_enter Try.func37, Try.ntmps37
  go_upto_region 2 with fail
  obtain ⟨wr, hwr⟩ : ∃ x, x = ((w.alloc (.cells #[.int .i64 0, .int .i64 0, .string ⟨#[]⟩, .string ⟨#[]⟩, .slice none 0 0] 38)).alloc (.cells #[.int .i64 c.kind, .int .i64 c.at', .string c.name, .string ⟨#[]⟩, .slice none 0 0] 38)) := ⟨_, rfl⟩
  rw [← hwr]
  have hBr : Below w.heap.size w wr := by rw [hwr]; exact ((Below.refl _ _).alloc (Nat.le_refl _) _).alloc (by simp) _
  have hb1 : wr.heap[w.heap.size + 1]? = some (.cells #[.int .i64 c.kind, .int .i64 c.at', .string c.name, .string ⟨#[]⟩, .slice none 0 0] 38 (0, 0)) := by rw [hwr]; exact two_at _ _ _
  have hb0 : wr.heap[w.heap.size]? = some (.cells #[.int .i64 0, .int .i64 0, .string ⟨#[]⟩, .string ⟨#[]⟩, .slice none 0 0] 38 (0, 0)) := by rw [hwr]; exact one_at _ _ _
  have e5 : wr.cell? ⟨g, n * 10 + 5, none⟩ = some c.more := (HT.out.below hBr).at HN.out rfl
  have hbk : (convert 62 9 c.more).run Try.prog wr.drew = .ok (.string ⟨l.toArray⟩) wr.drew := byteBack (w := wr.drew) (owns_kept (out := fun _ => False) HM.out ((Kept.below hBr).draws 1) (fun _ _ e => e))
  have k0 : wr.cell? ⟨w.heap.size + 1, 0, none⟩ = some (.int .i64 c.kind) := by simp [World.cell?, hb1]
  have k1 : wr.cell? ⟨w.heap.size + 1, 1, none⟩ = some (.int .i64 c.at') := by simp [World.cell?, hb1]
  have k2 : wr.cell? ⟨w.heap.size + 1, 2, none⟩ = some (.string c.name) := by simp [World.cell?, hb1]
  have k3 : wr.cell? ⟨w.heap.size + 1, 3, none⟩ = some (.string ⟨#[]⟩) := by simp [World.cell?, hb1]
  have k4 : wr.cell? ⟨w.heap.size + 1, 4, none⟩ = some (.slice none 0 0) := by simp [World.cell?, hb1]
  have z1 : ∀ j, wr.frozen? ⟨w.heap.size + 1, j, none⟩ = false := by intro j; simp [World.frozen?, hb1]
  have z0 : ∀ j, wr.frozen? ⟨w.heap.size, j, none⟩ = false := by intro j; simp [World.frozen?, hb0]
  have m0 : wr.cell? ⟨w.heap.size, 0, none⟩ = some (.int .i64 0) := by simp [World.cell?, hb0]
  have m1 : wr.cell? ⟨w.heap.size, 1, none⟩ = some (.int .i64 0) := by simp [World.cell?, hb0]
  have m2 : wr.cell? ⟨w.heap.size, 2, none⟩ = some (.string ⟨#[]⟩) := by simp [World.cell?, hb0]
  have m3 : wr.cell? ⟨w.heap.size, 3, none⟩ = some (.string ⟨#[]⟩) := by simp [World.cell?, hb0]
  have m4 : wr.cell? ⟨w.heap.size, 4, none⟩ = some (.slice none 0 0) := by simp [World.cell?, hb0]
  have HBr : Hid _ := hBr
  have hR1 : w.heap.size ≠ w.heap.size + 1 := by omega
  have HR1 : Hid (w.heap.size ≤ w.heap.size + 1) := Nat.le_succ _
  have hsa : ((⟨#[]⟩ : ByteArray) ++ (⟨l.toArray⟩ : ByteArray)) = ⟨l.toArray⟩ := by apply ByteArray.ext; simp
  clear hwr hBr hb1 hb0 d0 d1 d2 d3 d4 HB1 HM
  generalize w.heap.size + 1 = R1 at *
  generalize hR : w.heap.size = R at *
  go_region
  have HC : Hid (∀ w, _) := clone_nil
  go_wp2_with fail
  refine Calls.mono (HC.out _) ?_
  rintro e w3 ⟨rfl, hw3⟩
  subst hw3
  go_wp2
  have HE : Hid (∀ a b k0 k1 k2 k3 k4 : Value, _) := fun a b k0 k1 k2 k3 k4 => told_below HBr.out HR1.out a b k0 k1 k2 k3 k4
  rw [hR]
  clear hR HBr HR1 HT HN HC hbk hsa e5 hl
  refine bodyPost_ret (v := .agg #[.int .i64 c.kind, .int .i64 c.at', .string c.name, .string ⟨l.toArray⟩, .slice none 0 0]) (by simp [results, Try.results37, go_sem, *]) rfl ⟨rfl, ?_⟩
  exact HE.out _ _ _ _ _ _ _
end Go.Proofs.Ytopecjchflknbaa
