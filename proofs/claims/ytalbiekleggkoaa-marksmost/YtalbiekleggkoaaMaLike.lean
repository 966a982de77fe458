/-
  What tells whether an entry is alike one, with attributes.
-/
import Derived.Test.YtalbiekleggkoaaMaAmong
namespace Go.Proofs.Ytalbiekleggkoaa
open Go.RowKit Go.Maps

def enV (node : Int) (name : ByteArray) (a : Option Addr) (n cap : Nat) : Value := .agg #[.int .i64 node, .string name, .slice a n cap]

/-- The closure of like. -/
structure LikeAt (w : World) (b h s : Nat) (name : ByteArray) (a : Option Addr) (cap : Nat) (l : List Atr) : Prop where
  c1 : w.cell? ⟨b, 1, none⟩ = some (.string name)
  c2 : w.cell? ⟨b, 2, none⟩ = some (.slice a l.length cap)
  ch : w.cell? ⟨h, 0, none⟩ = some (.func (.func 82) #[] #[.pointer (some ⟨s + 2, 0, none⟩), .pointer (some ⟨s, 0, none⟩), .pointer (some ⟨s + 1, 0, none⟩)])
  am : AmAt w s a cap l
  hra : ∀ g, a = some ⟨g, 0, none⟩ → l ≠ [] → ¬ amOut s g
  ob : ¬ amOut s b
  oh : ¬ amOut s h
theorem LikeAt.below {w w' : World} {b h s : Nat} {name : ByteArray} {a : Option Addr} {cap : Nat} {l : List Atr} (h0 : LikeAt w b h s name a cap l) (hb : Below w.heap.size w w') : LikeAt w' b h s name a cap l :=
  ⟨(hb.cell (p := ⟨b, 1, none⟩) (World.block_lt_of_cell? _ _ h0.c1)).trans h0.c1, (hb.cell (p := ⟨b, 2, none⟩) (World.block_lt_of_cell? _ _ h0.c2)).trans h0.c2, (hb.cell (p := ⟨h, 0, none⟩) (World.block_lt_of_cell? _ _ h0.ch)).trans h0.ch, h0.am.below hb, h0.hra, h0.ob, h0.oh⟩

theorem row_lt {w : World} {a : Option Addr} {l : List Atr} (h : AtrsAt w a l) (g : Nat) (hg : a = some ⟨g, 0, none⟩) (hl : l ≠ []) : g < w.heap.size := by
  obtain ⟨p, r, rfl⟩ : ∃ p r, l = p :: r := by
    cases l with
    | nil => exact absurd rfl hl
    | cons p r => exact ⟨p, r, rfl⟩
  obtain ⟨g', e, h2, _⟩ := h.at' 0 p rfl
  rw [hg] at e
  injection e with e
  injection e with e _ _
  subst e
  exact World.block_lt_of_cell? _ _ h2

set_option maxRecDepth 100000 in
set_option maxHeartbeats 2000000 in
theorem like_any (node : Int) (name : ByteArray) (a : Option Addr) (cap : Nat) (l : List Atr) (w : World) (hr : AtrsAt w a l) :
    Calls Try.prog 67 #[.agg #[.int .i64 node, .string name, .slice a l.length cap]] w fun e w' => ∃ h, e = .returned (likeV w.heap.size h) ∧ Hid (LikeAt w' w.heap.size h (w.heap.size + 1) name a cap l ∧ Below w.heap.size w w') := by
  unfold likeV
  have HC : Hid (∀ w, _) := fun w => amongA_any a l.length cap w
  have hst := fun (a : Addr) (caps : Array Value) (w : World) => run_store Try.prog w a (.func (.func 82) #[] caps) .plain rfl
  have HRW : Hid _ := hr
  clear hr
  go_enter Try.func67, Try.ntmps67
  go_wp2_with fail
  refine Calls.mono (HC.out _) ?_
  rintro e w1 ⟨rfl, hw1⟩
  have h0 : (w.alloc (.cells #[.int .i64 node, .string name, .slice a l.length cap] 58)).cell? ⟨w.heap.size, 1, none⟩ = some (.string name) := World.cell?_alloc_at _ _ _ 1 rfl
  have h1 : (w.alloc (.cells #[.int .i64 node, .string name, .slice a l.length cap] 58)).cell? ⟨w.heap.size, 2, none⟩ = some (.slice a l.length cap) := World.cell?_alloc_at _ _ _ 2 rfl
  have hz : (w.alloc (.cells #[.int .i64 node, .string name, .slice a l.length cap] 58)).heap.size = w.heap.size + 1 := by simp
  have hba : Below w.heap.size w (w.alloc (.cells #[.int .i64 node, .string name, .slice a l.length cap] 58)) := (Below.refl _ _).alloc (Nat.le_refl _) _
  generalize w.alloc (.cells #[.int .i64 node, .string name, .slice a l.length cap] 58) = w0 at *
  have hz1 : w1.heap.size = w.heap.size + 4 := by rw [hw1]; simp [hz]
  have HAM : Hid (AmAt w1 (w.heap.size + 1) a cap l ∧ Below w0.heap.size w0 w1) := by
    have ha : Below w0.heap.size w0 (w0.alloc (.cells #[.slice a l.length cap] 56)) := (Below.refl _ _).alloc (Nat.le_refl _) _
    have za : (w0.alloc (.cells #[.slice a l.length cap] 56)).heap.size = w.heap.size + 1 + 1 := by simp [hz]
    have ca : (w0.alloc (.cells #[.slice a l.length cap] 56)).cell? ⟨w.heap.size + 1, 0, none⟩ = some (.slice a l.length cap) := World.cell?_alloc_at _ _ _ 0 hz.symm
    generalize w0.alloc (.cells #[.slice a l.length cap] 56) = wa at *
    have hb : Below wa.heap.size wa (wa.alloc (.cells #[.map none] 116)) := (Below.refl _ _).alloc (Nat.le_refl _) _
    have zb : (wa.alloc (.cells #[.map none] 116)).heap.size = w.heap.size + 1 + 1 + 1 := by simp [za]
    have cb : (wa.alloc (.cells #[.map none] 116)).cell? ⟨w.heap.size + 1 + 1, 0, none⟩ = some (.map none) := World.cell?_alloc_at _ _ _ 0 za.symm
    have fb : (wa.alloc (.cells #[.map none] 116)).frozen? ⟨w.heap.size + 1 + 1, 0, none⟩ = false := World.frozen?_alloc_at _ _ _ 0 za.symm
    generalize wa.alloc (.cells #[.map none] 116) = wb at *
    have hc : Below wb.heap.size wb w1 := by rw [hw1]; exact (Below.refl _ _).alloc (Nat.le_refl _) _
    have cc : w1.cell? ⟨w.heap.size + 1 + 2, 0, none⟩ = some (.bool false) := by rw [hw1]; exact World.cell?_alloc_at _ _ _ 0 zb.symm
    have fc : w1.frozen? ⟨w.heap.size + 1 + 2, 0, none⟩ = false := by rw [hw1]; exact World.frozen?_alloc_at _ _ _ 0 zb.symm
    refine ⟨⟨?_, .inl ((hc.cell (p := ⟨w.heap.size + 1 + 1, 0, none⟩) (show w.heap.size + 1 + 1 < _ by omega)).trans cb), ⟨_, cc⟩, (hc.frozen (p := ⟨w.heap.size + 1 + 1, 0, none⟩) (show w.heap.size + 1 + 1 < _ by omega)).trans fb, fc, (((HRW.out.below hba).below ha).below hb).below hc⟩, (ha.trans (hb.mono (by omega))).trans (hc.mono (by omega))⟩
    exact (hc.cell (p := ⟨w.heap.size + 1, 0, none⟩) (show w.heap.size + 1 < _ by omega)).trans ((hb.cell (p := ⟨w.heap.size + 1, 0, none⟩) (show w.heap.size + 1 < _ by omega)).trans ca)
  have HW : Hid (∀ t, LikeAt (w1.alloc (.cells #[.func (.func 82) #[] #[.pointer (some ⟨w.heap.size + 1 + 1 + 1, 0, none⟩), .pointer (some ⟨w.heap.size + 1, 0, none⟩), .pointer (some ⟨w.heap.size + 1 + 1, 0, none⟩)]] t)) w.heap.size (w.heap.size + 4) (w.heap.size + 1) name a cap l ∧ Below w.heap.size w (w1.alloc (.cells #[.func (.func 82) #[] #[.pointer (some ⟨w.heap.size + 1 + 1 + 1, 0, none⟩), .pointer (some ⟨w.heap.size + 1, 0, none⟩), .pointer (some ⟨w.heap.size + 1 + 1, 0, none⟩)]] t))) := by
    intro t
    have hd : Below w1.heap.size w1 (w1.alloc (.cells #[.func (.func 82) #[] #[.pointer (some ⟨w.heap.size + 1 + 1 + 1, 0, none⟩), .pointer (some ⟨w.heap.size + 1, 0, none⟩), .pointer (some ⟨w.heap.size + 1 + 1, 0, none⟩)]] t)) := (Below.refl _ _).alloc (Nat.le_refl _) _
    have hb01 := HAM.out.2
    have hs0 := hba.size
    have hb02 := hb01.trans (hd.mono (by omega))
    refine ⟨⟨(hb02.cell (p := ⟨w.heap.size, 1, none⟩) (show w.heap.size < _ by omega)).trans h0, (hb02.cell (p := ⟨w.heap.size, 2, none⟩) (show w.heap.size < _ by omega)).trans h1, World.cell?_alloc_at _ _ _ 0 hz1.symm, HAM.out.1.below hd, fun g hg hl e => ?_, ?_, ?_⟩, hba.trans (hb02.mono (by omega))⟩
    · have := row_lt HRW.out g hg hl
      rcases e with e | e <;> omega
    · intro e
      rcases e with e | e <;> omega
    · intro e
      rcases e with e | e <;> omega
  clear hw1 h0 h1 HC
  go_wp2
  go_ret
  exact ⟨_, rfl, ⟨(HW.out _).1, (HW.out _).2⟩⟩
end Go.Proofs.Ytalbiekleggkoaa
