/-
  A node as it is told, with all its attributes.
-/
import Derived.Test.YtjbfgiicaaljjaaDmMakeA
import Derived.Laws.BytesArg
namespace Go.Proofs.Ytjbfgiicaaljjaa
open Go.RowKit

def byteC (l : List UInt8) : List Value := l.map fun b => Value.int .u8 (b.toNat : Int)
theorem byteBack {w : World} {base : Nat} {v : Value} {l : List UInt8} (h : w.ownsRow base 5 1 v l.length (byteC l)) : (convert 88 9 v).run Try.prog w = .ok (.string ⟨l.toArray⟩) w := by
  rcases h.2 with ⟨rfl, hn⟩ | ⟨g, cap, cur, rfl, _, hg, _, _, hs, htk⟩
  · have : l = [] := List.length_eq_zero_iff.1 hn
    subst this
    exact run_convert_bytes_nil (P := Try.prog) w 88 5 Try.underlying88 Try.underlying5 0 0 9 Try.underlying9
  · refine run_convert_bytes_back w 88 9 5 ⟨g, 0, none⟩ cap l Try.underlying88 Try.underlying5 Try.underlying9 (fun j hj => ?_)
    exact h.cells rfl j _ (by simp [byteC, List.getElem?_eq_getElem hj])

theorem two_at (w : World) (o1 o2 : Obj) : ((w.alloc o1).alloc o2).heap[w.heap.size + 1]? = some o2 := by
  have h : (w.alloc o1).heap.size = w.heap.size + 1 := by simp
  show ((w.alloc o1).heap.push o2)[w.heap.size + 1]? = some o2
  rw [← h, Array.getElem?_push_size]
theorem one_at (w : World) (o1 o2 : Obj) : ((w.alloc o1).alloc o2).heap[w.heap.size]? = some o1 := by
  rw [heap_alloc_old _ _ (by simp)]
  exact Array.getElem?_push_size

/-- A row of attributes, fresh, behind a world. -/
def FreshA (w : World) (a : Option Addr) (n c : Nat) (l : List Att) (w' : World) : Prop := w'.ownsRow w.heap.size 67 2 (.slice a n c) n (l.flatMap attC) ∧ Below w.heap.size w w'

/-- Behind the data. -/
structure ToldW (w W : World) (BA na : Nat) (aa : Option Addr) (ca : Nat) (al : List Att) (c : Cel) (d : ByteArray) : Prop where
  b1 : W.heap[w.heap.size + 1]? = some (.cells #[.int .i64 c.kind, .int .i64 c.at', .string c.name, .string d, .slice aa na ca] 47 (0, 0))
  b0 : W.heap[w.heap.size]? = some (.cells #[.int .i64 0, .int .i64 0, .string ⟨#[]⟩, .string ⟨#[]⟩, .slice none 0 0] 47 (0, 0))
  below : Below w.heap.size w W
  row : W.ownsRow BA 67 2 (.slice aa na ca) na (al.flatMap attC)
theorem ToldW.lt1 {w W : World} {BA na : Nat} {aa : Option Addr} {ca : Nat} {al : List Att} {c : Cel} {d : ByteArray} (h : ToldW w W BA na aa ca al c d) : w.heap.size + 1 < W.heap.size := (Array.getElem?_eq_some_iff.1 h.b1).1

theorem toldW_of {w wr : World} {BA na : Nat} {aa : Option Addr} {ca : Nat} {al : List Att} {c : Cel} {d : ByteArray} (hb : Below w.heap.size w wr) (hb0 : wr.heap[w.heap.size]? = some (.cells #[.int .i64 0, .int .i64 0, .string ⟨#[]⟩, .string ⟨#[]⟩, .slice none 0 0] 47 (0, 0)))
    (hb1 : wr.heap[w.heap.size + 1]? = some (.cells #[.int .i64 c.kind, .int .i64 c.at', .string c.name, .string c.data, .slice aa na ca] 47 (0, 0))) (hA : wr.ownsRow BA 67 2 (.slice aa na ca) na (al.flatMap attC)) : ToldW w (wr.setCell ⟨w.heap.size + 1, 3, none⟩ (.string d)).drew BA na aa ca al c d := by
  have hlt := (Array.getElem?_eq_some_iff.1 hb1).1
  have hk : Kept (fun k => k = w.heap.size + 1) wr (wr.setCell ⟨w.heap.size + 1, 3, none⟩ (.string d)) := Kept.store (out := fun k => k = w.heap.size + 1) (Kept.refl _ _) ⟨w.heap.size + 1, 3, none⟩ rfl _
  refine ⟨?_, ?_, ?_, ?_⟩
  · show (wr.setCell ⟨w.heap.size + 1, 3, none⟩ (.string d)).heap[w.heap.size + 1]? = _
    simp only [World.setCell, Array.getElem?_modify, hb1]
    simp
  · exact (hk.block _ (by omega) (by omega)).trans hb0
  · exact (hb.setCell (p := ⟨w.heap.size + 1, 3, none⟩) (Nat.le_succ _) _).drew
  · have h1 := owns_kept hA hk (fun k e e2 => by
      subst e2
      rcases hA.2 with ⟨hv, _⟩ | ⟨g', cap', cur, hv, _, hh, _⟩
      · rw [hv] at e; cases e
      · rw [hv] at e
        simp only [Value.ownBlock, Option.some.injEq] at e
        subst e
        rw [hb1] at hh
        simp only [Option.some.injEq, Obj.cells.injEq] at hh
        exact absurd hh.2.1 (by decide))
    exact World.ownsRow.drew h1

theorem told_fin {w W w3 : World} {BA na : Nat} {aa : Option Addr} {ca : Nat} {al : List Att} {c : Cel} {d : ByteArray} {a2 : Option Addr} {c2 : Nat} (h : ToldW w W BA na aa ca al c d) (hn : na = al.length) (hA : w3.ownsRow W.heap.size 67 2 (.slice a2 na c2) al.length (al.flatMap attC)) (hb : Below W.heap.size W w3) (k0 k1 k2 k3 k4 : Value) :
    FreshA w a2 na c2 al ((((((w3.setCell ⟨w.heap.size + 1, 4, none⟩ (.slice a2 na c2)).setCell ⟨w.heap.size, 0, none⟩ k0).setCell ⟨w.heap.size, 1, none⟩ k1).setCell ⟨w.heap.size, 2, none⟩ k2).setCell ⟨w.heap.size, 3, none⟩ k3).setCell ⟨w.heap.size, 4, none⟩ k4) := by
  have hlt := h.lt1
  rw [← hn] at hA
  have hs := h.below.size
  refine ⟨?_, ?_⟩
  · have hk : Kept (fun k => k = w.heap.size ∨ k = w.heap.size + 1) w3 ((((((w3.setCell ⟨w.heap.size + 1, 4, none⟩ (.slice a2 na c2)).setCell ⟨w.heap.size, 0, none⟩ k0).setCell ⟨w.heap.size, 1, none⟩ k1).setCell ⟨w.heap.size, 2, none⟩ k2).setCell ⟨w.heap.size, 3, none⟩ k3).setCell ⟨w.heap.size, 4, none⟩ k4) :=
      ((((((Kept.refl _ _).store ⟨w.heap.size + 1, 4, none⟩ (.inr rfl) _).store ⟨w.heap.size, 0, none⟩ (.inl rfl) _).store ⟨w.heap.size, 1, none⟩ (.inl rfl) _).store ⟨w.heap.size, 2, none⟩ (.inl rfl) _).store ⟨w.heap.size, 3, none⟩ (.inl rfl) _).store ⟨w.heap.size, 4, none⟩ (.inl rfl) _
    have h1 := owns_kept hA hk (fun k e e2 => by have := (owns_lt hA k e).1; omega)
    refine ⟨h1.1, ?_⟩
    rcases h1.2 with h2 | ⟨g', cap', cur, hv, hg, rest⟩
    · exact .inl h2
    · exact .inr ⟨g', cap', cur, hv, by omega, rest⟩
  · have hb2 := h.below.trans (hb.mono hs)
    exact (((((hb2.setCell (p := ⟨w.heap.size + 1, 4, none⟩) (Nat.le_succ _) _).setCell (p := ⟨w.heap.size, 0, none⟩) (Nat.le_refl _) _).setCell (p := ⟨w.heap.size, 1, none⟩) (Nat.le_refl _) _).setCell (p := ⟨w.heap.size, 2, none⟩) (Nat.le_refl _) _).setCell (p := ⟨w.heap.size, 3, none⟩) (Nat.le_refl _) _).setCell (p := ⟨w.heap.size, 4, none⟩) (Nat.le_refl _) _

set_option maxRecDepth 100000 in
set_option maxHeartbeats 2000000 in
theorem told_att (t B g cap BA na : Nat) (cs : List Cel) (n : Nat) (c : Cel) (l : List UInt8) (al : List Att) (w : World) (hT : TreeAt w t B g cap cs) (hn : cs[n]? = some c) (hds : c.data.size + l.length ≤ 9223372036854775807) (hM : w.ownsRow B 5 1 c.more l.length (byteC l)) (hA : w.ownsRow BA 67 2 c.attrs na (al.flatMap attC)) (hal : al.length ≤ 1000000) :
    Calls Try.prog 48 #[.pointer (some ⟨g, n * 10, none⟩)] w fun e w' => ∃ a2 c2, e = .returned (.agg #[.int .i64 c.kind, .int .i64 c.at', .string c.name, .string (c.data ++ ⟨l.toArray⟩), .slice a2 na c2]) ∧ Hid (FreshA w a2 na c2 al w') := by
  have hf : ∃ a k, c.attrs = .slice a na k := by
    rcases hA.2 with ⟨h1, h2⟩ | ⟨g1, c1, _, h1, _⟩
    · exact ⟨none, 0, by rw [h1, h2]⟩
    · exact ⟨_, c1, h1⟩
  obtain ⟨aa, ca, ha⟩ := hf
  have c0 : w.cell? ⟨g, n * 10, none⟩ = some (.int .i64 c.kind) := hT.at (j := 0) hn rfl
  have HB1 : Hid (∀ o, Below w.heap.size w (w.alloc o)) := fun o => (Below.refl _ _).alloc (Nat.le_refl _) o
  have d0 : ∀ o, (w.alloc o).cell? ⟨g, n * 10, none⟩ = some (.int .i64 c.kind) := fun o => (hT.below (HB1.out o)).at (j := 0) hn rfl
  have d1 : ∀ o, (w.alloc o).cell? ⟨g, n * 10 + 1, none⟩ = some (.int .i64 c.at') := fun o => (hT.below (HB1.out o)).at hn rfl
  have d2 : ∀ o, (w.alloc o).cell? ⟨g, n * 10 + 2, none⟩ = some (.string c.name) := fun o => (hT.below (HB1.out o)).at hn rfl
  have d3 : ∀ o, (w.alloc o).cell? ⟨g, n * 10 + 3, none⟩ = some (.string c.data) := fun o => (hT.below (HB1.out o)).at hn rfl
  have d4 : ∀ o, (w.alloc o).cell? ⟨g, n * 10 + 4, none⟩ = some (.slice aa na ca) := fun o => by rw [← ha]; exact (hT.below (HB1.out o)).at hn rfl
  rw [ha] at hA
  have HA : Hid _ := hA
  have HT : Hid _ := hT
  have HM : Hid _ := hM
  have HN : Hid _ := hn
  have HLS : Hid (c.data.size + (⟨l.toArray⟩ : ByteArray).size ≤ 9223372036854775807) := (by rw [show (⟨l.toArray⟩ : ByteArray).size = l.length from rfl]; exact hds : c.data.size + (⟨l.toArray⟩ : ByteArray).size ≤ 9223372036854775807)
  clear hT hM hn c0 ha hA
  go_enter Try.func48, Try.ntmps48
  go_upto_region 2 with fail
  obtain ⟨wr, hwr⟩ : ∃ x, x = ((w.alloc (.cells #[.int .i64 0, .int .i64 0, .string ⟨#[]⟩, .string ⟨#[]⟩, .slice none 0 0] 47)).alloc (.cells #[.int .i64 c.kind, .int .i64 c.at', .string c.name, .string c.data, .slice aa na ca] 47)) := ⟨_, rfl⟩
  rw [← hwr]
  have hBr : Below w.heap.size w wr := by rw [hwr]; exact ((Below.refl _ _).alloc (Nat.le_refl _) _).alloc (by simp) _
  have hb1 : wr.heap[w.heap.size + 1]? = some (.cells #[.int .i64 c.kind, .int .i64 c.at', .string c.name, .string c.data, .slice aa na ca] 47 (0, 0)) := by rw [hwr]; exact two_at _ _ _
  have hb0 : wr.heap[w.heap.size]? = some (.cells #[.int .i64 0, .int .i64 0, .string ⟨#[]⟩, .string ⟨#[]⟩, .slice none 0 0] 47 (0, 0)) := by rw [hwr]; exact one_at _ _ _
  have e5 : wr.cell? ⟨g, n * 10 + 5, none⟩ = some c.more := (HT.out.below hBr).at HN.out rfl
  have hbk : (convert 88 9 c.more).run Try.prog wr.drew = .ok (.string ⟨l.toArray⟩) wr.drew := byteBack (w := wr.drew) (owns_kept (out := fun _ => False) HM.out ((Kept.below hBr).draws 1) (fun _ _ e => e))
  have k3 : wr.cell? ⟨w.heap.size + 1, 3, none⟩ = some (.string c.data) := by simp [World.cell?, hb1]
  have z1 : ∀ j, wr.frozen? ⟨w.heap.size + 1, j, none⟩ = false := by intro j; simp [World.frozen?, hb1]
  have HBr : Hid _ := hBr
  have HB0 : Hid _ := hb0
  have HB2 : Hid _ := hb1
  have hLS := HLS.out
  have HAr : Hid (wr.ownsRow BA 67 2 (.slice aa na ca) na (al.flatMap attC)) := owns_kept (out := fun _ => False) HA.out (Kept.below hBr) (fun _ _ e => e)
  have hR1w : w.heap.size + 1 < wr.heap.size := (Array.getElem?_eq_some_iff.1 hb1).1
  clear hwr hBr hb1 hb0 d0 d1 d2 d3 d4 HB1 HM HA
  generalize hLB : (⟨l.toArray⟩ : ByteArray) = lb at *
  have HW : Hid (ToldW w (wr.setCell ⟨w.heap.size + 1, 3, none⟩ (.string (c.data ++ lb))).drew BA na aa ca al c (c.data ++ lb)) := toldW_of HBr.out HB0.out HB2.out HAr.out
  go_region
  clear HB2 HB0 HAr HBr z1 k3 e5 hbk
  generalize (wr.setCell ⟨w.heap.size + 1, 3, none⟩ (.string (c.data ++ lb))).drew = W at *
  have hb1 := HW.out.b1
  have hb0 := HW.out.b0
  have k4 : W.cell? ⟨w.heap.size + 1, 4, none⟩ = some (.slice aa na ca) := by simp [World.cell?, hb1]
  have HC : Hid _ := (cloneA_row BA aa na ca al W HW.out.row hal).2
  have hnl : na = al.length := (cloneA_row BA aa na ca al W HW.out.row hal).1
  have HNL : Hid _ := hnl
  clear hnl hb1 hb0
  go_wp2_with fail
  refine Calls.mono HC.out ?_
  rintro e w3 ⟨a2, c2, rfl, h3⟩
  have hb1 := (h3.out.2.block _ HW.out.lt1).trans HW.out.b1
  have hb0 := (h3.out.2.block _ (by have := HW.out.lt1; omega)).trans HW.out.b0
  have k0 : w3.cell? ⟨w.heap.size + 1, 0, none⟩ = some (.int .i64 c.kind) := by simp [World.cell?, hb1]
  have k1 : w3.cell? ⟨w.heap.size + 1, 1, none⟩ = some (.int .i64 c.at') := by simp [World.cell?, hb1]
  have k2 : w3.cell? ⟨w.heap.size + 1, 2, none⟩ = some (.string c.name) := by simp [World.cell?, hb1]
  have k3 : w3.cell? ⟨w.heap.size + 1, 3, none⟩ = some (.string (c.data ++ lb)) := by simp [World.cell?, hb1]
  have k4 : w3.cell? ⟨w.heap.size + 1, 4, none⟩ = some (.slice aa na ca) := by simp [World.cell?, hb1]
  have z1 : ∀ j, w3.frozen? ⟨w.heap.size + 1, j, none⟩ = false := by intro j; simp [World.frozen?, hb1]
  have m0 : w3.cell? ⟨w.heap.size, 0, none⟩ = some (.int .i64 0) := by simp [World.cell?, hb0]
  have m1 : w3.cell? ⟨w.heap.size, 1, none⟩ = some (.int .i64 0) := by simp [World.cell?, hb0]
  have m2 : w3.cell? ⟨w.heap.size, 2, none⟩ = some (.string ⟨#[]⟩) := by simp [World.cell?, hb0]
  have m3 : w3.cell? ⟨w.heap.size, 3, none⟩ = some (.string ⟨#[]⟩) := by simp [World.cell?, hb0]
  have m4 : w3.cell? ⟨w.heap.size, 4, none⟩ = some (.slice none 0 0) := by simp [World.cell?, hb0]
  have z0 : ∀ j, w3.frozen? ⟨w.heap.size, j, none⟩ = false := by intro j; simp [World.frozen?, hb0]
  have HF : Hid (∀ k0 k1 k2 k3 k4 : Value, FreshA w a2 na c2 al (((((((w3.setCell ⟨w.heap.size + 1, 4, none⟩ (.slice a2 na c2)).setCell ⟨w.heap.size, 0, none⟩ k0).setCell ⟨w.heap.size, 1, none⟩ k1).setCell ⟨w.heap.size, 2, none⟩ k2).setCell ⟨w.heap.size, 3, none⟩ k3).setCell ⟨w.heap.size, 4, none⟩ k4))) := fun k0 k1 k2 k3 k4 => told_fin HW.out HNL.out h3.out.1 h3.out.2 k0 k1 k2 k3 k4
  have hR1 : w.heap.size ≠ w.heap.size + 1 := by omega
  clear hb1 hb0 HW HC h3 HT HN hds hLS HLS
  generalize w.heap.size + 1 = R1 at *
  generalize hR : w.heap.size = R at *
  go_wp2
  clear hR
  subst hLB
  refine bodyPost_ret (v := .agg #[.int .i64 c.kind, .int .i64 c.at', .string c.name, .string (c.data ++ ⟨l.toArray⟩), .slice a2 na c2]) (by simp [results, Try.results48, go_sem, *]) rfl ⟨_, _, rfl, ?_⟩
  exact HF.out _ _ _ _ _
end Go.Proofs.Ytjbfgiicaaljjaa
