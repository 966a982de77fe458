/-
  A stack: its last item taken away and told.
-/
import Derived.Test.YtalbiekleggkoaaSsCut
namespace Go.Proofs.Ytalbiekleggkoaa
open Go.RowKit

theorem put2 (W : World) (r : Nat) (a b a0 b0 : Value) (h0 : W.cell? ⟨r, 0, none⟩ = some a0) (h1 : W.cell? ⟨r, 1, none⟩ = some b0) :
    ((W.setCell ⟨r, 0, none⟩ a).setCell ⟨r, 1, none⟩ b).cell? ⟨r, 0, none⟩ = some a ∧ ((W.setCell ⟨r, 0, none⟩ a).setCell ⟨r, 1, none⟩ b).cell? ⟨r, 1, none⟩ = some b ∧ Kept (fun k => k = r) W ((W.setCell ⟨r, 0, none⟩ a).setCell ⟨r, 1, none⟩ b) := by
  have ne : ∀ i j, i ≠ j → (⟨r, i, none⟩ : Addr) ≠ ⟨r, j, none⟩ := fun i j h e => by injection e with _ e _; exact h e
  refine ⟨?_, ?_, ((Kept.refl (fun k => k = r) W).store ⟨r, 0, none⟩ rfl a).store ⟨r, 1, none⟩ rfl b⟩
  · rw [World.cell?_setCell_other _ _ _ _ (ne 1 0 (by decide))]
    exact World.cell?_setCell_same _ _ _ h0
  · exact World.cell?_setCell_same _ _ _ (by rw [World.cell?_setCell_other _ _ _ _ (ne 0 1 (by decide))]; exact h1)
theorem Kept.fresh {w W W' : World} {r : Nat} (hb : Below w.heap.size w W) (hk : Kept (fun k => k = r) W W') (hr : w.heap.size ≤ r) : Below w.heap.size w W' :=
  hb.trans ⟨hk.os, hk.tape, hk.output, hk.size, fun j hj => hk.block j (Nat.lt_of_lt_of_le hj hb.size) (by omega)⟩
theorem TurnP.fresh {w W W' : World} {s B r : Nat} {v : Value} {cs cs' : List Itm} (h : StackAt w s B v cs) (ht : TurnP w s B v cs' W) (hk : Kept (fun k => k = r) W W') (hr : w.heap.size ≤ r) (hn : ∀ v', StackAt W s B v' cs' → v'.ownBlock ≠ some r) : TurnP w s B v cs' W' := by
  obtain ⟨v', h1, h2⟩ := ht.at'
  have hlt := h.slt
  refine ⟨⟨v', h1.kept hk (by omega) (fun k e e2 => hn v' h1 (by rw [e, e2])), h2⟩, ?_⟩
  exact ⟨hk.os.trans ht.kept.os, hk.tape.trans ht.kept.tape, hk.output.trans ht.kept.output, Nat.le_trans ht.kept.size hk.size, fun j hj hno => (hk.block j (Nat.lt_of_lt_of_le hj ht.kept.size) (by omega)).trans (ht.kept.block j hj hno)⟩

set_option maxRecDepth 100000 in
set_option maxHeartbeats 4000000 in
theorem spop_empty (s B : Nat) (v : Value) (w : World) (h : StackAt w s B v []) :
    Calls Try.prog 9 #[.pointer (some ⟨s, 0, none⟩)] w fun e w' => e = .returned (.tuple #[.agg #[.int .i64 0, .string ⟨#[]⟩], .bool false]) ∧ Below w.heap.size w w' := by
  have hb : Below w.heap.size w (w.alloc (.cells #[.int .i64 0, .string ⟨#[]⟩] 31)) := (Below.refl _ _).alloc (Nat.le_refl _) _
  have HT : Hid _ := stop_empty s B v (w.alloc (.cells #[.int .i64 0, .string ⟨#[]⟩] 31)) (h.below hb)
  have n0 := heap_alloc_new w (.cells #[.int .i64 0, .string ⟨#[]⟩] 31)
  have hz : (w.alloc (.cells #[.int .i64 0, .string ⟨#[]⟩] 31)).heap.size = w.heap.size + 1 := by simp
  have HB : Hid _ := hb
  clear h hb
  go_enter Try.func9, Try.ntmps9
  go_wp2_with fail
  refine Calls.mono HT.out ?_
  rintro e w1 ⟨rfl, hb1⟩
  have n1 := (hb1.block w.heap.size (by omega)).trans n0
  have HB1 : Hid (Below w.heap.size w w1) := HB.out.trans (hb1.mono (by omega))
  have hlt : w.heap.size < w1.heap.size := by have := hb1.size; omega
  have HA : Hid (Below w.heap.size w (w1.alloc (.cells #[.int .i64 0, .string ⟨#[]⟩] 31))) := HB1.out.alloc HB1.out.size _
  have n2 := (heap_alloc_old w1 (.cells #[.int .i64 0, .string ⟨#[]⟩] 31) hlt).trans n1
  have m2 := heap_alloc_new w1 (.cells #[.int .i64 0, .string ⟨#[]⟩] 31)
  clear HT HB hb1 n0 n1 hz
  go_upto_region 4 with fail
  generalize w1.alloc (.cells #[.int .i64 0, .string ⟨#[]⟩] 31) = w2 at *
  have x0 : w2.cell? ⟨w.heap.size, 0, none⟩ = some (.int .i64 0) := by simp only [World.cell?, n2]; rfl
  have x1 : w2.cell? ⟨w.heap.size, 1, none⟩ = some (.string ⟨#[]⟩) := by simp only [World.cell?, n2]; rfl
  have y0 : w2.cell? ⟨w1.heap.size, 0, none⟩ = some (.int .i64 0) := by simp only [World.cell?, m2]; rfl
  have y1 : w2.cell? ⟨w1.heap.size, 1, none⟩ = some (.string ⟨#[]⟩) := by simp only [World.cell?, m2]; rfl
  have f0 : ∀ j, w2.frozen? ⟨w.heap.size, j, none⟩ = false := fun j => by simp only [World.frozen?, n2]; simp
  have HF : Hid _ := put2 w2 w.heap.size (.int .i64 0) (.string ⟨#[]⟩) _ _ x0 x1
  clear n2 m2
  go_wp2
  refine gen_w (C := fun W => W.cell? ⟨w.heap.size, 0, none⟩ = some (.int .i64 0) ∧ W.cell? ⟨w.heap.size, 1, none⟩ = some (.string ⟨#[]⟩) ∧ Hid (Below w.heap.size w W)) ⟨HF.out.1, HF.out.2.1, Kept.fresh HA.out HF.out.2.2 (Nat.le_refl _)⟩ ?_
  clear HF HA x0 x1 f0 y0 y1
  rintro W' ⟨p0, p1, hb⟩
  exact bodyPost_ret (v := .tuple #[.agg #[.int .i64 0, .string ⟨#[]⟩], .bool false]) (by simp [results, Try.results9, go_sem, p0, p1]) rfl ⟨rfl, hb.out⟩

set_option maxRecDepth 100000 in
set_option maxHeartbeats 4000000 in
theorem spop_in (s B : Nat) (v : Value) (cs : List Itm) (c : Itm) (w : World) (h : StackAt w s B v (cs ++ [c])) (hl : cs.length ≤ 100000) :
    Calls Try.prog 9 #[.pointer (some ⟨s, 0, none⟩)] w fun e w' => e = .returned (.tuple #[.agg #[.int .i64 c.node, .string c.name], .bool true]) ∧ Hid (TurnP w s B v cs w') := by
  have hb : Below w.heap.size w (w.alloc (.cells #[.int .i64 0, .string ⟨#[]⟩] 31)) := (Below.refl _ _).alloc (Nat.le_refl _) _
  have HT : Hid _ := stop_in s B v cs c (w.alloc (.cells #[.int .i64 0, .string ⟨#[]⟩] 31)) (h.below hb) (by omega)
  have n0 := heap_alloc_new w (.cells #[.int .i64 0, .string ⟨#[]⟩] 31)
  have hz : (w.alloc (.cells #[.int .i64 0, .string ⟨#[]⟩] 31)).heap.size = w.heap.size + 1 := by simp
  have HB : Hid _ := hb
  have HS : Hid _ := h
  have hlen : (cs ++ [c]).length = cs.length + 1 := by simp
  obtain ⟨g, cp, rfl⟩ : ∃ g cp, v = .slice (some ⟨g, 0, none⟩) (cs ++ [c]).length cp := by
    rcases h.form2 with ⟨_, e⟩ | ⟨g, cp, e, _⟩
    · simp at e
    · exact ⟨g, cp, e⟩
  have hgl := owns_lt h.own g rfl
  have hsl := h.slt
  have hcut : (cs ++ [c]).take cs.length ++ (cs ++ [c]).drop (cs.length + 1) = cs := by simp
  have hw1 : IntKind.i64.wrap ((cs.length : Int) + 1 - 1) = (cs.length : Int) := by rw [IntKind.wrap_i64]; omega
  have hw2 : IntKind.i64.wrap (cs.length : Int) = (cs.length : Int) := by rw [IntKind.wrap_i64]; omega
  clear h hb
  go_enter Try.func9, Try.ntmps9
  go_wp2_with fail
  refine Calls.mono HT.out ?_
  rintro e w1 ⟨rfl, hb1⟩
  have n1 := (hb1.block w.heap.size (by omega)).trans n0
  have HB1 : Hid (Below w.heap.size w w1) := HB.out.trans (hb1.mono (by omega))
  have hlt : w.heap.size < w1.heap.size := by have := hb1.size; omega
  have HA : Hid (Below w.heap.size w (w1.alloc (.cells #[.int .i64 c.node, .string c.name] 31))) := HB1.out.alloc HB1.out.size _
  have n2 := (heap_alloc_old w1 (.cells #[.int .i64 c.node, .string c.name] 31) hlt).trans n1
  have m2 := heap_alloc_new w1 (.cells #[.int .i64 c.node, .string c.name] 31)
  have hz2 : (w1.alloc (.cells #[.int .i64 c.node, .string c.name] 31)).heap.size = w1.heap.size + 1 := by simp
  clear HT HB hb1 n0 n1 hz
  go_upto_region 2 with fail
  generalize w1.alloc (.cells #[.int .i64 c.node, .string c.name] 31) = w2 at *
  have HS2 : Hid _ := HS.out.below HA.out
  have c0 := HS2.out.c0
  rw [hlen] at c0
  have HC : Hid _ := scut_in s B _ (cs ++ [c]) cs.length w2 HS2.out (by rw [hlen]; omega) (by rw [hlen]; omega)
  rw [hcut] at HC
  go_wp2_with fail
  refine Calls.mono HC.out ?_
  rintro e w3 ⟨rfl, hT⟩
  have hgs : ∀ k, w.heap.size ≤ k → k < w2.heap.size → ¬ (k = s ∨ (Value.slice (some ⟨g, 0, none⟩) (cs ++ [c]).length cp).ownBlock = some k) := fun k h1 _ e => by
    rcases e with e | e
    · omega
    · simp only [Value.ownBlock, Option.some.injEq] at e
      omega
  have n3 := (hT.out.kept.block w.heap.size (by have := HA.out.size; omega) (hgs _ (Nat.le_refl _) (by omega))).trans n2
  have m3 := (hT.out.kept.block w1.heap.size (by omega) (hgs _ (by omega) (by omega))).trans m2
  have x0 : w3.cell? ⟨w.heap.size, 0, none⟩ = some (.int .i64 0) := by simp only [World.cell?, n3]; rfl
  have x1 : w3.cell? ⟨w.heap.size, 1, none⟩ = some (.string ⟨#[]⟩) := by simp only [World.cell?, n3]; rfl
  have y0 : w3.cell? ⟨w1.heap.size, 0, none⟩ = some (.int .i64 c.node) := by simp only [World.cell?, m3]; rfl
  have y1 : w3.cell? ⟨w1.heap.size, 1, none⟩ = some (.string c.name) := by simp only [World.cell?, m3]; rfl
  have f0 : ∀ j, w3.frozen? ⟨w.heap.size, j, none⟩ = false := fun j => by simp only [World.frozen?, n3]; simp
  have HF : Hid _ := put2 w3 w.heap.size (.int .i64 c.node) (.string c.name) _ _ x0 x1
  have HT3 : Hid (TurnP w s B (.slice (some ⟨g, 0, none⟩) (cs ++ [c]).length cp) cs w3) := by
    obtain ⟨v', h1, h2⟩ := hT.out.at'
    refine ⟨⟨v', h1, h2.imp id (fun h k e => Nat.le_trans (by have := HA.out.size; omega) (h k e))⟩, (Kept.below HA.out).trans hT.out.kept⟩
  have HFIN : Hid (TurnP w s B (.slice (some ⟨g, 0, none⟩) (cs ++ [c]).length cp) cs ((w3.setCell ⟨w.heap.size, 0, none⟩ (.int .i64 c.node)).setCell ⟨w.heap.size, 1, none⟩ (.string c.name))) := by
    obtain ⟨v', h1, h2⟩ := hT.out.at'
    have hn : v'.ownBlock ≠ some w.heap.size := by
      rcases h2 with e | e
      · rw [e]
        simp only [Value.ownBlock, ne_eq, Option.some.injEq]
        omega
      · intro e2
        have := e _ e2
        have := HA.out.size
        omega
    refine ⟨⟨v', h1.kept HF.out.2.2 (by omega) (fun k e e2 => hn (by rw [e, e2])), h2.imp id (fun h k e => Nat.le_trans (by have := HA.out.size; omega) (h k e))⟩, ?_⟩
    exact ⟨HF.out.2.2.os.trans HT3.out.kept.os, HF.out.2.2.tape.trans HT3.out.kept.tape, HF.out.2.2.output.trans HT3.out.kept.output, Nat.le_trans HT3.out.kept.size HF.out.2.2.size, fun j hj hno => (HF.out.2.2.block j (Nat.lt_of_lt_of_le hj HT3.out.kept.size) (by omega)).trans (HT3.out.kept.block j hj hno)⟩
  clear n2 m2 n3 m3 hT HT3 HC HS HS2 HA HB1 hgs c0 hw1 hw2
  go_wp2
  refine gen_w (C := fun W => W.cell? ⟨w.heap.size, 0, none⟩ = some (.int .i64 c.node) ∧ W.cell? ⟨w.heap.size, 1, none⟩ = some (.string c.name) ∧ Hid (TurnP w s B (.slice (some ⟨g, 0, none⟩) (cs ++ [c]).length cp) cs W)) ⟨HF.out.1, HF.out.2.1, HFIN.out⟩ ?_
  clear HF HFIN x0 x1 f0 y0 y1
  rintro W' ⟨p0, p1, hb⟩
  exact bodyPost_ret (v := .tuple #[.agg #[.int .i64 c.node, .string c.name], .bool true]) (by simp [results, Try.results9, go_sem, p0, p1]) rfl ⟨rfl, hb⟩
end Go.Proofs.Ytalbiekleggkoaa
