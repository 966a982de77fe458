/-
  Entries with attributes: their own, markers, what tells of one whether it is alike.
-/
import Derived.Test.YtalbiekleggkoaaMmPr
import Derived.Shelf.Abstract
namespace Go.Proofs.Ytalbiekleggkoaa
open Go.RowKit Go.Maps

theorem atrs_lit (w : World) : (w.alloc (.cells #[] 93)).ownsRow w.heap.size 93 2 (.slice (some ⟨w.heap.size, 0, none⟩) 0 0) 0 [] :=
  ⟨rfl, .inr ⟨w.heap.size, 0, #[], rfl, Nat.le_refl _, heap_alloc_new w _, Nat.le_refl _, by unfold maxLen; omega, rfl, rfl⟩⟩
theorem Try.infoAttr : (Try.prog.info? 93).map (fun i => (i.zero, i.size, i.bytes)) = some (some (.agg #[.string ⟨#[]⟩, .string ⟨#[]⟩]), 2, 32) := by kernel_rfl
theorem mflat_at (l : List Atr) (i : Nat) (p : Atr) (h : l[i]? = some p) : (l.flatMap atrC)[i * 2]? = some (.string p.1) ∧ (l.flatMap atrC)[i * 2 + 1]? = some (.string p.2) := by
  induction l generalizing i with
  | nil => simp at h
  | cons x l ih =>
    match i, h with
    | 0, h =>
      simp only [List.getElem?_cons_zero, Option.some.injEq] at h
      subst h
      exact ⟨rfl, rfl⟩
    | i + 1, h =>
      have h2 := ih i (by simpa using h)
      have e : ∀ j, ((x :: l).flatMap atrC)[(i + 1) * 2 + j]? = (l.flatMap atrC)[i * 2 + j]? := by
        intro j
        have e2 : (atrC x).length = 2 := rfl
        rw [List.flatMap_cons, List.getElem?_append_right (by omega), e2]
        congr 1
        omega
      exact ⟨(e 0).trans h2.1, (e 1).trans h2.2⟩
theorem mflat_len (l : List Atr) : (l.flatMap atrC).length = l.length * 2 := by
  induction l with
  | nil => rfl
  | cons x l ih => rw [List.flatMap_cons, List.length_append, ih]; simp [atrC]; omega
theorem mflat_one (l : List Atr) : ∀ u ∈ l.flatMap atrC, u.oneCell' = true := by
  intro u hu
  rw [List.mem_flatMap] at hu
  obtain ⟨c, _, h⟩ := hu
  simp [atrC] at h
  rcases h with rfl | rfl <;> rfl
theorem AtrRow.of_owns {w : World} {B : Nat} {a : Option Addr} {cap : Nat} {l : List Atr} (h : w.ownsRow B 93 2 (.slice a l.length cap) l.length (l.flatMap atrC)) : AtrRow w a cap l := by
  rcases h.2 with ⟨hv, h0⟩ | ⟨g, cp, cur, hv, hB, hh, h1, h2, _⟩
  · injection hv with e1 _ e3
    obtain rfl := List.length_eq_zero_iff.1 h0
    subst e1 e3
    exact AtrRow.bare w
  · injection hv with e1 _ e3
    subst e1 e3
    refine ⟨⟨fun i p hi => ?_⟩, .inr ⟨g, rfl, h1, h2, _, _, hh⟩⟩
    have hd := mflat_at l i p hi
    exact ⟨g, rfl, owns_at h _ _ hd.1, owns_at h _ _ hd.2⟩
theorem AtrRow.cells {w : World} {g cap : Nat} {l : List Atr} (h : AtrRow w (some ⟨g, 0, none⟩) cap l) : ∀ j u, (l.flatMap atrC)[j]? = some u → w.cell? ((⟨g, 0, none⟩ : Addr).add j) = some u := by
  intro j u hj
  have hlt := (List.getElem?_eq_some_iff.1 hj).1
  rw [mflat_len] at hlt
  have hi : j / 2 < l.length := by omega
  have hp : l[j / 2]? = some l[j / 2] := List.getElem?_eq_getElem hi
  obtain ⟨g', e, c0, c1⟩ := h.row.at' _ _ hp
  injection e with e
  injection e with e _ _
  subst e
  have hd := mflat_at l _ _ hp
  rw [addr_at]
  rcases (show j = j / 2 * 2 ∨ j = j / 2 * 2 + 1 by omega) with e | e
  · rw [e] at hj ⊢
    rw [hd.1] at hj
    injection hj with hj
    rw [← hj]
    exact c0
  · rw [e] at hj ⊢
    rw [hd.2] at hj
    injection hj with hj
    rw [← hj]
    exact c1

set_option maxRecDepth 100000 in
set_option maxHeartbeats 4000000 in
theorem cloneA_any (a : Option Addr) (cap : Nat) (l : List Atr) (w : World) (h : AtrRow w a cap l) (hl : l.length ≤ 1000) :
    Calls Try.prog 73 #[.slice a l.length cap] w fun e w' => ∃ a' cap', e = .returned (.slice a' l.length cap') ∧ Hid (AtrRow w' a' cap' l) ∧ Below w.heap.size w w' := by
  obtain ⟨i0, hi, hz0, hz1, hz2⟩ := info_parts Try.infoAttr
  have hq : ∀ (a : Option Addr) (n c : Nat) (w : World), (binOp .eql 56 (.slice a n c) (.slice none 0 0)).run Try.prog w = .ok (.bool a.isNone) w := fun a n c w => Lib.run_eql_slice_nil w _ _ a n c 0 0 Try.underlying56
  rcases h.form with ⟨rfl, rfl, rfl⟩ | ⟨g, rfl, hcap, _, _⟩
  · clear h
    go_enter Try.func73, Try.ntmps73
    go_wp2
    go_ret
    exact ⟨_, _, rfl, AtrRow.bare w, Below.refl _ _⟩
  · have HB : Hid (Below w.heap.size w (w.alloc (.cells #[] 93))) := (Below.refl _ _).alloc (Nat.le_refl _) _
    have HC : Hid (∀ j u, (l.flatMap atrC)[j]? = some u → (w.alloc (.cells #[] 93)).cell? ((⟨g, 0, none⟩ : Addr).add j) = some u) := (h.below HB.out).cells
    have hI : (l.length : Int) ≤ (cap : Int) := by omega
    have HL : Hid ((l.flatMap atrC).length = l.length * 2) := mflat_len l
    have HO : Hid _ := mflat_one l
    clear h hcap
    go_enter Try.func73, Try.ntmps73
    go_wp2_with (at_builtin; refine wpList_append_own _ rfl _ _ 56 rfl w.heap.size 93 i0 (.agg #[.string ⟨#[]⟩, .string ⟨#[]⟩]) 2 32 Try.underlying56 hi hz0 hz1 hz2 rfl (by decide) _ 0 _ rfl (atrs_lit w) ⟨g, 0, none⟩ l.length cap (l.flatMap atrC) rfl HL.out HC.out HO.out (by unfold maxLen; omega) (by omega) (by simp) ?_)
    intro v' w' hown' hgrow _
    have hX : w'.ownsRow w.heap.size 93 2 v' l.length (l.flatMap atrC) := by simpa using hown'
    have HG : Hid (Below w.heap.size w w') := HB.out.grown hgrow (by simp) (fun k hk => by simp [Value.ownBlock] at hk; omega)
    have hf : ∃ a' c', v' = .slice a' l.length c' := by
      rcases hX.2 with ⟨h1, h2⟩ | ⟨g', cap', cur, h1, _⟩
      · exact ⟨none, 0, by rw [h1, h2]⟩
      · exact ⟨_, _, h1⟩
    obtain ⟨a', c', rfl⟩ := hf
    have HW : Hid _ := AtrRow.of_owns hX
    clear hown' hgrow hX
    go_wp2
    go_ret
    exact ⟨_, _, rfl, HW, HG.out⟩

theorem markerR_any (i : Enr) (w : World) : Calls Try.prog 56 #[enrV i] w fun e w' => e = .returned (.bool (i.node == -1)) ∧ Below w.heap.size w w' := by
  have HB : Hid (∀ o, Below w.heap.size w (w.alloc o)) := fun o => (Below.refl _ _).alloc (Nat.le_refl _) o
  unfold enrV
  go_enter Try.func56, Try.ntmps56
  go_wp2
  go_ret
  exact ⟨rfl, HB.out _⟩

theorem AtrRow.apart {w : World} {a : Option Addr} {cap : Nat} {l : List Atr} (h : AtrRow w a cap l) {k : Nat} {xs : Array Value} {r : Nat × Nat} (hk : w.heap[k]? = some (.cells xs 58 r)) : ∀ g, a = some ⟨g, 0, none⟩ → g ≠ k := by
  intro g hg e
  subst e
  obtain ⟨_, ys, r', hy⟩ := h.typed hg
  rw [hk] at hy
  simp only [Option.some.injEq, Obj.cells.injEq] at hy
  exact absurd hy.2.1 (by decide)

/-- What own hands back. -/
structure OwnP (w : World) (c : Enr) (a' : Option Addr) (cap' : Nat) (W : World) : Prop where
  r0 : W.cell? ⟨w.heap.size + 1, 0, none⟩ = some (.int .i64 c.node)
  r1 : W.cell? ⟨w.heap.size + 1, 1, none⟩ = some (.string c.name)
  r2 : W.cell? ⟨w.heap.size + 1, 2, none⟩ = some (.slice a' c.l.length cap')
  row : AtrRow W a' cap' c.l
  bel : Below w.heap.size w W
theorem own_fin {w w1 : World} {c : Enr} {a' : Option Addr} {cap' : Nat} (hb : Below w.heap.size w w1) (h0 : w1.heap[w.heap.size]? = some (.cells #[.int .i64 c.node, .string c.name, .slice c.a c.l.length c.cap] 58)) (h1 : w1.heap[w.heap.size + 1]? = some (.cells #[.int .i64 0, .string ⟨#[]⟩, .slice none 0 0] 58)) (hr : AtrRow w1 a' cap' c.l) :
    OwnP w c a' cap' (((((w1.setCell ⟨w.heap.size, 2, none⟩ (.slice a' c.l.length cap'))).setCell ⟨w.heap.size + 1, 0, none⟩ (.int .i64 c.node)).setCell ⟨w.heap.size + 1, 1, none⟩ (.string c.name)).setCell ⟨w.heap.size + 1, 2, none⟩ (.slice a' c.l.length cap')) := by
  have hk : Kept (fun k => k = w.heap.size ∨ k = w.heap.size + 1) w1 (set3 (w1.setCell ⟨w.heap.size, 2, none⟩ (.slice a' c.l.length cap')) (w.heap.size + 1) (.int .i64 c.node) (.string c.name) (.slice a' c.l.length cap')) :=
    (Kept.store (out := fun k => k = w.heap.size ∨ k = w.heap.size + 1) (Kept.refl _ _) ⟨w.heap.size, 2, none⟩ (.inl rfl) _).trans ((set3_kept _ _ _ _ _).mono (fun k _ e => .inr e))
  have far : ∀ j, (w1.setCell ⟨w.heap.size, 2, none⟩ (.slice a' c.l.length cap')).cell? ⟨w.heap.size + 1, j, none⟩ = w1.cell? ⟨w.heap.size + 1, j, none⟩ := fun j => World.cell?_setCell_other _ _ _ _ (by intro e; injection e with e _; omega)
  have P := set3_in (w1.setCell ⟨w.heap.size, 2, none⟩ (.slice a' c.l.length cap')) (w.heap.size + 1) (.int .i64 c.node) (.string c.name) (.slice a' c.l.length cap') (.int .i64 0) (.string ⟨#[]⟩) (.slice none 0 0) (by rw [far]; simp only [World.cell?, h1]; rfl) (by rw [far]; simp only [World.cell?, h1]; rfl) (by rw [far]; simp only [World.cell?, h1]; rfl)
  have hrow := hr.kept hk (fun g hg e => by
    rcases e with e | e
    · exact hr.apart h0 g hg e
    · exact hr.apart h1 g hg e)
  exact ⟨P.1, P.2.1, P.2.2, hrow, hb.trans ⟨hk.os, hk.tape, hk.output, hk.size, fun j hj => hk.block j (Nat.lt_of_lt_of_le hj hb.size) (fun e => by rcases e with e | e <;> omega)⟩⟩

set_option maxRecDepth 100000 in
set_option maxHeartbeats 4000000 in
theorem own_any (c : Enr) (w : World) (h : AtrRow w c.a c.cap c.l) (hl : c.l.length ≤ 1000) :
    Calls Try.prog 60 #[enrV c] w fun e w' => ∃ a' cap', e = .returned (enrV ⟨c.node, c.name, a', cap', c.l⟩) ∧ Hid (AtrRow w' a' cap' c.l) ∧ Below w.heap.size w w' := by
  unfold enrV
  have HB : Hid (∀ o o2, Below w.heap.size w ((w.alloc o).alloc o2)) := fun o o2 => ((Below.refl _ _).alloc (Nat.le_refl _) o).alloc (by simp) o2
  have HC : Hid (∀ w', AtrRow w' c.a c.cap c.l → _) := fun w' hr => cloneA_any c.a c.cap c.l w' hr hl
  have HR : Hid _ := h
  have hz : ∀ o, (w.alloc o).heap.size = w.heap.size + 1 := fun o => by simp
  have hnew := heap_alloc_new w (.cells #[.int .i64 c.node, .string c.name, .slice c.a c.l.length c.cap] 58)
  clear h
  go_enter Try.func60, Try.ntmps60
  go_wp2_with fail
  refine Calls.mono (HC.out _ (HR.out.below (HB.out _ _))) ?_
  rintro e w1 ⟨a', cap', rfl, hrow, hb1⟩
  have hb2 := hb1.mono (HB.out _ _).size
  have hbb : Below w.heap.size w w1 := (HB.out _ _).trans hb2
  have hz2 : ((w.alloc (.cells #[.int .i64 c.node, .string c.name, .slice c.a c.l.length c.cap] 58)).alloc (.cells #[.int .i64 0, .string ⟨#[]⟩, .slice none 0 0] 58)).heap.size = w.heap.size + 2 := by simp
  have hn0 := (hb1.block w.heap.size (by omega)).trans ((heap_alloc_old _ _ (by simp)).trans hnew)
  have hn1 : w1.heap[w.heap.size + 1]? = some (.cells #[.int .i64 0, .string ⟨#[]⟩, .slice none 0 0] 58) := by
    rw [hb1.block (w.heap.size + 1) (by omega)]
    have := heap_alloc_new (w.alloc (.cells #[.int .i64 c.node, .string c.name, .slice c.a c.l.length c.cap] 58)) (.cells #[.int .i64 0, .string ⟨#[]⟩, .slice none 0 0] 58)
    rw [hz] at this
    exact this
  have x0 : w1.cell? ⟨w.heap.size, 0, none⟩ = some (.int .i64 c.node) := by simp only [World.cell?, hn0]; rfl
  have x1 : w1.cell? ⟨w.heap.size, 1, none⟩ = some (.string c.name) := by simp only [World.cell?, hn0]; rfl
  have x2 : w1.cell? ⟨w.heap.size, 2, none⟩ = some (.slice c.a c.l.length c.cap) := by simp only [World.cell?, hn0]; rfl
  have y0 : w1.cell? ⟨w.heap.size + 1, 0, none⟩ = some (.int .i64 0) := by simp only [World.cell?, hn1]; rfl
  have y1 : w1.cell? ⟨w.heap.size + 1, 1, none⟩ = some (.string ⟨#[]⟩) := by simp only [World.cell?, hn1]; rfl
  have y2 : w1.cell? ⟨w.heap.size + 1, 2, none⟩ = some (.slice none 0 0) := by simp only [World.cell?, hn1]; rfl
  have fx : ∀ j, w1.frozen? ⟨w.heap.size, j, none⟩ = false := fun j => by simp only [World.frozen?, hn0]; simp
  have fy : ∀ j, w1.frozen? ⟨w.heap.size + 1, j, none⟩ = false := fun j => by simp only [World.frozen?, hn1]; simp
  have HF : Hid _ := own_fin (c := c) hbb hn0 hn1 hrow.out
  clear hrow hb1 hb2 hbb hz2 hn0 hn1 hz hnew HB HC HR
  go_wp2
  refine gen_world (C := OwnP w c a' cap') HF.out ?_
  clear HF x0 x1 x2 y0 y1 y2 fx fy
  intro W hO
  obtain ⟨r0, r1, r2, hrow, hbel⟩ := hO
  have RO : Hid _ := hrow
  have BE : Hid _ := hbel
  clear hrow hbel
  exact bodyPost_ret (v := .agg #[.int .i64 c.node, .string c.name, .slice a' c.l.length cap']) (by simp [results, Try.results60, go_sem, r0, r1, r2]) rfl ⟨a', cap', rfl, RO.out, BE.out⟩
end Go.Proofs.Ytalbiekleggkoaa
