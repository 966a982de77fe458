/-
  What tells whether an attribute is among many, asked again and again.
-/
import Derived.Test.YtalbiekleggkoaaMaMap
namespace Go.Proofs.Ytalbiekleggkoaa
open Go.RowKit Go.Maps

set_option maxRecDepth 100000 in
set_option maxHeartbeats 2000000 in
theorem containsA_any (a : Option Addr) (cap : Nat) (l : List Atr) (p : Atr) (w : World) (h : AtrsAt w a l) (hl : l.length ≤ 1000) :
    Calls Try.prog 83 #[.slice a l.length cap, .agg #[.string p.1, .string p.2]] w fun e w' => e = .returned (.bool (hasA l p)) ∧ Below w.heap.size w w' := by
  have HI : Hid (∀ o, _) := fun o => indexA_any a cap l p (w.alloc o) (h.below ((Below.refl _ _).alloc (Nat.le_refl _) o)) hl
  have HB : Hid (∀ o, Below w.heap.size w (w.alloc o)) := fun o => (Below.refl _ _).alloc (Nat.le_refl _) o
  clear h
  go_enter Try.func83, Try.ntmps83
  go_wp2_with fail
  refine Calls.mono (HI.out _) ?_
  rintro e w1 ⟨n, rfl, hn, hb⟩
  have HN : Hid _ := hn
  have HB1 : Hid (Below w.heap.size w w1) := (HB.out _).trans (hb.mono (HB.out _).size)
  clear HI hn hb HB
  go_wp2
  go_ret
  exact ⟨by rw [← HN.out]; rfl, HB1.out⟩

/-- The closure's own: the list, the places, whether it was asked. -/
structure AmAt (w : World) (s : Nat) (a : Option Addr) (cap : Nat) (l : List Atr) : Prop where
  c0 : w.cell? ⟨s, 0, none⟩ = some (.slice a l.length cap)
  c1 : (w.cell? ⟨s + 1, 0, none⟩ = some (.map none)) ∨ ∃ b n D, w.cell? ⟨s + 1, 0, none⟩ = some (.map (some b)) ∧ w.ownsMap (H := Unit) Try.prog 93 (plainElem Try.prog 3) b n D ∧ (∀ p, AtrOk p → has D (atKey p) = hasA l p)
  c2 : ∃ x, w.cell? ⟨s + 2, 0, none⟩ = some (.bool x)
  f1 : w.frozen? ⟨s + 1, 0, none⟩ = false
  f2 : w.frozen? ⟨s + 2, 0, none⟩ = false
  row : AtrsAt w a l

def amV (s : Nat) : Value := .func (.func 82) #[] #[.pointer (some ⟨s + 1 + 1, 0, none⟩), .pointer (some ⟨s, 0, none⟩), .pointer (some ⟨s + 1, 0, none⟩)]

theorem AmAt.below {w w' : World} {s : Nat} {a : Option Addr} {cap : Nat} {l : List Atr} (h : AmAt w s a cap l) (hb : Below w.heap.size w w') : AmAt w' s a cap l := by
  have h0 := World.block_lt_of_cell? _ _ h.c0
  obtain ⟨x, hx⟩ := h.c2
  have h2 := World.block_lt_of_cell? _ _ hx
  have h1 : s + 1 < w.heap.size := by
    have : s + 2 < w.heap.size := h2
    omega
  refine ⟨(hb.cell (p := ⟨s, 0, none⟩) h0).trans h.c0, ?_, ⟨x, (hb.cell (p := ⟨s + 2, 0, none⟩) h2).trans hx⟩, (hb.frozen (p := ⟨s + 1, 0, none⟩) h1).trans h.f1, (hb.frozen (p := ⟨s + 2, 0, none⟩) h2).trans h.f2, h.row.below hb⟩
  rcases h.c1 with hc | ⟨b, n, D, hc, ho, hh⟩
  · exact .inl ((hb.cell (p := ⟨s + 1, 0, none⟩) h1).trans hc)
  · exact .inr ⟨b, n, D, (hb.cell (p := ⟨s + 1, 0, none⟩) h1).trans hc, ho.kept (row := none) ⟨hb.os, hb.tape, hb.output, hb.size, fun k hk _ => hb.block k hk⟩ (by simp), hh⟩

/-- What a call of the closure turns. -/
def amOut (s : Nat) (k : Nat) : Prop := k = s + 1 ∨ k = s + 2

theorem AmAt.move {w w' : World} {s : Nat} {a : Option Addr} {cap : Nat} {l : List Atr} (h : AmAt w s a cap l) (hk : Kept (amOut s) w w') (hra : ∀ g, a = some ⟨g, 0, none⟩ → l ≠ [] → ¬ amOut s g)
    (c1 : (w'.cell? ⟨s + 1, 0, none⟩ = some (.map none)) ∨ ∃ b n D, w'.cell? ⟨s + 1, 0, none⟩ = some (.map (some b)) ∧ w'.ownsMap (H := Unit) Try.prog 93 (plainElem Try.prog 3) b n D ∧ (∀ p, AtrOk p → has D (atKey p) = hasA l p))
    (c2 : ∃ x, w'.cell? ⟨s + 2, 0, none⟩ = some (.bool x)) (f1 : w'.frozen? ⟨s + 1, 0, none⟩ = false) (f2 : w'.frozen? ⟨s + 2, 0, none⟩ = false) : AmAt w' s a cap l := by
  refine ⟨(hk.cell ⟨s, 0, none⟩ (World.block_lt_of_cell? _ _ h.c0) (fun e => by rcases e with e | e <;> simp at e <;> omega)).trans h.c0, c1, c2, f1, f2, ⟨fun i p hi => ?_⟩⟩
  obtain ⟨g, e1, e2, e3⟩ := h.row.at' i p hi
  exact ⟨g, e1, (hk.cell ⟨g, i * 2, none⟩ (World.block_lt_of_cell? _ _ e2) (hra g e1 (by intro e; subst e; simp at hi))).trans e2, (hk.cell ⟨g, i * 2 + 1, none⟩ (World.block_lt_of_cell? _ _ e3) (hra g e1 (by intro e; subst e; simp at hi))).trans e3⟩

theorem map_off {w : World} {b n : Nat} {D : DataW Unit} {q : Addr} {u : Value} (h : w.ownsMap (H := Unit) Try.prog 93 (plainElem Try.prog 3) b n D) (hc : w.cell? q = some u) : b ≠ q.block := by
  obtain ⟨es, clock, hb, _⟩ := h
  intro e
  subst e
  simp [World.cell?, hb] at hc

theorem AmAt.asked {w : World} {s : Nat} {a : Option Addr} {cap : Nat} {l : List Atr} (h : AmAt w s a cap l) (hra : ∀ g, a = some ⟨g, 0, none⟩ → l ≠ [] → ¬ amOut s g) : AmAt (w.setCell ⟨s + 2, 0, none⟩ (.bool true)) s a cap l := by
  obtain ⟨x, hx⟩ := h.c2
  have hne : (⟨s + 2, 0, none⟩ : Addr) ≠ ⟨s + 1, 0, none⟩ := by intro e; injection e with e _ _; omega
  refine h.move ((Kept.refl _ _).store ⟨s + 2, 0, none⟩ (.inr rfl) _) hra ?_ ⟨true, World.cell?_setCell_same _ _ _ hx⟩ (by rw [World.frozen?_setCell]; exact h.f1) (by rw [World.frozen?_setCell]; exact h.f2)
  rcases h.c1 with hc | ⟨b, n, D, hc, ho, hh⟩
  · exact .inl ((World.cell?_setCell_other _ _ _ _ hne).trans hc)
  · exact .inr ⟨b, n, D, (World.cell?_setCell_other _ _ _ _ hne).trans hc, ho.kept (row := some (s + 2)) ⟨rfl, rfl, rfl, by simp [World.setCell], fun k _ hk => Below.heap_setCell _ _ _ _ (fun e => hk (by rw [e]))⟩ (fun e => map_off ho hx (by injection e)), hh⟩

theorem enters_among1 : ∀ args w, (callFunc 82 args).run Try.prog w = .ok (.enter 82 args) w := enters_of Try.func82 (by kernel_rfl) rfl

set_option maxRecDepth 100000 in
set_option maxHeartbeats 4000000 in
theorem among1_any (s : Nat) (a : Option Addr) (cap : Nat) (l : List Atr) (p : Atr) (w : World) (h : AmAt w s a cap l) (hl : l.length ≤ 1000) (hok : ∀ q ∈ l, AtrOk q) (hp : AtrOk p) (hra : ∀ g, a = some ⟨g, 0, none⟩ → l ≠ [] → ¬ amOut s g) :
    Calls Try.prog 82 #[.agg #[.string p.1, .string p.2], .pointer (some ⟨s + 2, 0, none⟩), .pointer (some ⟨s, 0, none⟩), .pointer (some ⟨s + 1, 0, none⟩)] w fun e w' => e = .returned (.bool (hasA l p)) ∧ Hid (AmAt w' s a cap l ∧ Kept (amOut s) w w') := by
  obtain ⟨x, hx⟩ := h.c2
  have hs2 : s + 2 < w.heap.size := World.block_lt_of_cell? _ _ hx
  have HB : Hid (∀ o, Below w.heap.size w (w.alloc o)) := fun o => (Below.refl _ _).alloc (Nat.le_refl _) o
  have HA : Hid (∀ o, AmAt (w.alloc o) s a cap l) := fun o => h.below (HB.out o)
  have HS : Hid (∀ o, AmAt ((w.setCell ⟨s + 2, 0, none⟩ (.bool true)).alloc o) s a cap l ∧ Kept (amOut s) w ((w.setCell ⟨s + 2, 0, none⟩ (.bool true)).alloc o)) := fun o => by
    have hb : Below (w.setCell ⟨s + 2, 0, none⟩ (.bool true)).heap.size (w.setCell ⟨s + 2, 0, none⟩ (.bool true)) ((w.setCell ⟨s + 2, 0, none⟩ (.bool true)).alloc o) := (Below.refl _ _).alloc (Nat.le_refl _) o
    exact ⟨(h.asked hra).below hb, ((Kept.refl (amOut s) w).store ⟨s + 2, 0, none⟩ (.inr rfl) _).trans (Kept.below hb)⟩
  have hlt1 : ∀ q, q < w.heap.size → q ≠ w.heap.size := fun q hq => by omega
  by_cases hcase : x = false ∨ l.length ≤ 8
  · have k2 : ∀ o, (w.alloc o).cell? ⟨s + 2, 0, none⟩ = some (.bool x) := fun o => ((HB.out o).cell (p := ⟨s + 2, 0, none⟩) hs2).trans hx
    have k0 : ∀ o, (w.alloc o).cell? ⟨s, 0, none⟩ = some (.slice a l.length cap) := fun o => (HA.out o).c0
    have f2 : ∀ o, (w.alloc o).frozen? ⟨s + 2, 0, none⟩ = false := fun o => (HA.out o).f2
    have j0 : ∀ o, ((w.setCell ⟨s + 2, 0, none⟩ (.bool true)).alloc o).cell? ⟨s, 0, none⟩ = some (.slice a l.length cap) := fun o => (HS.out o).1.c0
    have HC : Hid (∀ o, _) := fun o => containsA_any a cap l p ((w.setCell ⟨s + 2, 0, none⟩ (.bool true)).alloc o) (HS.out o).1.row hl
    have hbox : s + 2 ≠ w.heap.size := by omega
    clear h hx HB HA hlt1
    rcases hcase with rfl | h8
    · go_enter Try.func82, Try.ntmps82
      go_wp2_with fail
      refine Calls.mono (HC.out _) ?_
      rintro e w1 ⟨rfl, hb⟩
      have HR : Hid (AmAt w1 s a cap l ∧ Kept (amOut s) w w1) := ⟨(HS.out _).1.below hb, (HS.out _).2.trans (Kept.below hb)⟩
      clear HS HC hb
      go_wp2
      go_ret
      exact ⟨rfl, HR⟩
    · have hd8 : decide ((l.length : Int) ≤ 8) = true := by simp; omega
      cases x
      all_goals
        go_enter Try.func82, Try.ntmps82
        go_wp2_with fail
        refine Calls.mono (HC.out _) ?_
        rintro e w1 ⟨rfl, hb⟩
        have HR : Hid (AmAt w1 s a cap l ∧ Kept (amOut s) w w1) := ⟨(HS.out _).1.below hb, (HS.out _).2.trans (Kept.below hb)⟩
        clear HS HC hb
        go_wp2
        go_ret
        exact ⟨rfl, HR⟩
  · have hx1 : x = true := by
      cases x
      · exact absurd (.inl rfl) hcase
      · rfl
    subst hx1
    have h8 : ¬ l.length ≤ 8 := fun e => hcase (.inr e)
    have hd8 : decide ((l.length : Int) ≤ 8) = false := by simp; omega
    have k2 : ∀ o, (w.alloc o).cell? ⟨s + 2, 0, none⟩ = some (.bool true) := fun o => ((HB.out o).cell (p := ⟨s + 2, 0, none⟩) hs2).trans hx
    have k0 : ∀ o, (w.alloc o).cell? ⟨s, 0, none⟩ = some (.slice a l.length cap) := fun o => (HA.out o).c0
    have hkey := at_key p hp
    have qm : ∀ (w : World) (r : Option Nat), (binOp .eql 116 (.map r) (.map none)).run Try.prog w = .ok (.bool r.isNone) w := fun w r => run_eql_map_nil w 116 93 3 r Try.underlying116
    rcases h.c1 with hc | ⟨b, n, D, hc, ho, hh⟩
    · have k1 : ∀ o, (w.alloc o).cell? ⟨s + 1, 0, none⟩ = some (.map none) := fun o => ((HB.out o).cell (p := ⟨s + 1, 0, none⟩) (World.block_lt_of_cell? _ _ hc)).trans hc
      have HPm : Hid (∀ o, _) := fun o => placesA_any a cap l (w.alloc o) (HA.out o).row hl hok
      have HHX : Hid (s + 2 < w.heap.size) := hs2
      clear h hx HS hlt1 hc
      go_enter Try.func82, Try.ntmps82
      go_wp2_with fail
      refine Calls.mono (HPm.out _) ?_
      rintro e w1 ⟨b, D, rfl, hM⟩
      have hA1 := (HA.out _).below hM.out.bel
      have hbel := hM.out.bel
      have hz : w.heap.size < (w.alloc (.cells #[.string p.1, .string p.2] 93)).heap.size := by simp
      have m1 : w1.cell? ⟨s + 1, 0, none⟩ = some (.map none) := (hbel.cell (p := ⟨s + 1, 0, none⟩) (show s + 1 < _ by omega)).trans (k1 _)
      have g1 := hA1.f1
      have hne : s + 1 ≠ w.heap.size := by omega
      have b0 : w1.cell? ⟨w.heap.size, 0, none⟩ = some (.string p.1) := (hbel.cell (p := ⟨w.heap.size, 0, none⟩) hz).trans (World.cell?_alloc_at _ _ _ 0 rfl)
      have b1 : w1.cell? ⟨w.heap.size, 1, none⟩ = some (.string p.2) := (hbel.cell (p := ⟨w.heap.size, 1, none⟩) hz).trans (World.cell?_alloc_at _ _ _ 1 rfl)
      have hown : (w1.setCell ⟨s + 1, 0, none⟩ (.map (some b))).ownsMap (H := Unit) Try.prog 93 (plainElem Try.prog 3) b l.length D := hM.out.own.kept (row := some (s + 1)) ⟨rfl, rfl, rfl, by simp [World.setCell], fun k _ hk => Below.heap_setCell _ _ _ _ (fun e => hk (by rw [e]))⟩ (fun e => map_off hM.out.own m1 (by injection e))
      have hhas : ∀ p, AtrOk p → has D (atKey p) = hasA l p := fun q hq => by
        have := hM.out.has q hq
        rwa [List.take_length] at this
      have HH : Hid (has D (atKey p) = hasA l p) := hhas p hp
      have HF : Hid (AmAt (w1.setCell ⟨s + 1, 0, none⟩ (.map (some b))) s a cap l ∧ Kept (amOut s) w (w1.setCell ⟨s + 1, 0, none⟩ (.map (some b)))) := by
        have hne2 : (⟨s + 1, 0, none⟩ : Addr) ≠ ⟨s + 2, 0, none⟩ := by intro e; injection e with e _ _; omega
        obtain ⟨x, hx⟩ := hA1.c2
        refine ⟨hA1.move ((Kept.refl _ _).store ⟨s + 1, 0, none⟩ (.inl rfl) _) hra (.inr ⟨b, l.length, D, World.cell?_setCell_same _ _ _ m1, hown, hhas⟩) ⟨x, (World.cell?_setCell_other _ _ _ _ hne2).trans hx⟩ (by rw [World.frozen?_setCell]; exact hA1.f1) (by rw [World.frozen?_setCell]; exact hA1.f2), ?_⟩
        exact (((Kept.below (HB.out _)).trans (Kept.below hbel)).store ⟨s + 1, 0, none⟩ (.inl rfl) _)
      clear hA1 hbel hM HPm hhas k0 k1 k2
      go_wp2_with (at_lookup; refine wpList_lookup_own_ok_int _ rfl _ _ 116 rfl 93 3 .i64 atLaw Try.underlying116 Try.underlying3 (by kernel_rfl) b l.length D rfl hown _ _ rfl hkey ?_)
      intro c _ _
      rw [HH.out]
      go_wp2
      go_ret
      exact ⟨rfl, HF⟩
    · have k1 : ∀ o, (w.alloc o).cell? ⟨s + 1, 0, none⟩ = some (.map (some b)) := fun o => ((HB.out o).cell (p := ⟨s + 1, 0, none⟩) (World.block_lt_of_cell? _ _ hc)).trans hc
      have hown := fun o => ho.alloc o
      have HH : Hid (has D (atKey p) = hasA l p) := hh p hp
      clear h hx HS hlt1 hc ho hh
      go_enter Try.func82, Try.ntmps82
      go_wp2_with (at_lookup; refine wpList_lookup_own_ok_int _ rfl _ _ 116 rfl 93 3 .i64 atLaw Try.underlying116 Try.underlying3 (by kernel_rfl) b n D rfl (hown _) _ _ rfl hkey ?_)
      intro c _ _
      rw [HH.out]
      go_wp2
      go_ret
      exact ⟨rfl, HA.out _, Kept.below (HB.out _)⟩
end Go.Proofs.Ytalbiekleggkoaa
