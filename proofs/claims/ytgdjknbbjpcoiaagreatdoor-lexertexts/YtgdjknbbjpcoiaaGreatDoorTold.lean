/-
  What one call of the decoder answers: a scalar more, a bad one more.
-/
import Derived.Test.YtgdjknbbjpcoiaaGreatDoorRows
import Derived.Below
import Derived.Carry
import Derived.OwnWalk
import Derived.WalkKit
import Derived.WalkSpells
import Derived.WalkLawsBesides
import Derived.Deep.RegionLaw
import Derived.Deep.DeepCutAuto
import Derived.Deep.QuietTactic
import Derived.BigQuiet
import Derived.BigRegion
import Derived.Lib.SmallJoins
namespace Go.Proofs.YtgdjknbbjpcoiaaGreatDoor
open Go.RowKit

theorem own_block_ge {w : World} {base : Nat} {e : TypeId} {size : Nat} {v : Value} {n : Nat} {xs : List Value} (h : w.ownsRow base e size v n xs) : ∀ k, v.ownBlock = some k → base ≤ k := by
  intro k hk
  rcases h.2 with ⟨rfl, _⟩ | ⟨g, cap, cur, rfl, hg, _⟩
  · cases hk
  · simp only [Value.ownBlock] at hk
    obtain rfl := Option.some.inj hk
    exact hg

theorem own_below {w w' : World} {base : Nat} {e : TypeId} {size : Nat} {v : Value} {n : Nat} {xs : List Value} (h : w.ownsRow base e size v n xs) (hb : Below w.heap.size w w') : w'.ownsRow base e size v n xs := by
  obtain ⟨h1, h2⟩ := h
  refine ⟨h1, ?_⟩
  rcases h2 with h2 | ⟨g, cap, cur, hv, hg, hh, r⟩
  · exact Or.inl h2
  · have hgl : g < w.heap.size := by
      rcases Nat.lt_or_ge g w.heap.size with h' | h'
      · exact h'
      · simp [Array.getElem?_eq_none h'] at hh
    exact Or.inr ⟨g, cap, cur, hv, hg, (hb.block g hgl).trans hh, r⟩

/-- Rows of other elements lie in other blocks. -/
theorem own_apart {w : World} {base : Nat} {e e' : TypeId} {size size' : Nat} {v v' : Value} {n n' : Nat} {xs xs' : List Value} (h : w.ownsRow base e size v n xs) (h' : w.ownsRow base e' size' v' n' xs') (he : e ≠ e') : v.ownBlock = none ∨ v.ownBlock ≠ v'.ownBlock := by
  rcases h.2 with ⟨rfl, _⟩ | ⟨g, cap, cur, rfl, hg, hh, _⟩
  · exact .inl rfl
  · refine .inr ?_
    intro hk
    rcases h'.2 with ⟨rfl, _⟩ | ⟨g', cap', cur', rfl, hg', hh', _⟩
    · cases hk
    · simp only [Value.ownBlock, Option.some.injEq] at hk
      subst hk
      rw [hh] at hh'
      simp only [Option.some.injEq, Obj.cells.injEq] at hh'
      exact he hh'.2.1

def runeC (r : Int × Int) : List Value := [.int .i64 r.1, .int .i64 r.2]
def diagC (a : Int) : List Value := [.int .i64 2, .int .i64 a, .string ByteArray.empty]

structure ToldAt (w : World) (tb base : Nat) (vr vw : Value) (rs : List (Int × Int)) (ws : List Int) : Prop where
  c0 : w.cell? ⟨tb, 0, none⟩ = some vr
  c1 : w.cell? ⟨tb, 1, none⟩ = some vw
  f0 : w.frozen? ⟨tb, 0, none⟩ = false
  f1 : w.frozen? ⟨tb, 1, none⟩ = false
  ro : w.ownsRow base 121 2 vr rs.length (rs.flatMap runeC)
  wo : w.ownsRow base 49 3 vw ws.length (ws.flatMap diagC)
  lt : tb < base
  le : base ≤ w.heap.size

theorem ToldAt.below {w w' : World} {tb base : Nat} {vr vw : Value} {rs : List (Int × Int)} {ws : List Int} (h : ToldAt w tb base vr vw rs ws) (hb : Below w.heap.size w w') : ToldAt w' tb base vr vw rs ws := by
  have hl : tb < w.heap.size := Nat.lt_of_lt_of_le h.lt h.le
  exact ⟨(hb.cell (p := ⟨tb, 0, none⟩) hl).trans h.c0, (hb.cell (p := ⟨tb, 1, none⟩) hl).trans h.c1, (hb.frozen (p := ⟨tb, 0, none⟩) hl).trans h.f0, (hb.frozen (p := ⟨tb, 1, none⟩) hl).trans h.f1, own_below h.ro hb, own_below h.wo hb, h.lt, Nat.le_trans h.le hb.size⟩

/-- A store below the answer's block. -/
theorem ToldAt.store {w : World} {tb base : Nat} {vr vw : Value} {rs : List (Int × Int)} {ws : List Int} (h : ToldAt w tb base vr vw rs ws) {p : Addr} (hp : p.block < tb) (u : Value) : ToldAt (w.setCell p u) tb base vr vw rs ws := by
  have key : ∀ j, (w.setCell p u).cell? ⟨tb, j, none⟩ = w.cell? ⟨tb, j, none⟩ := fun j =>
    World.cell?_setCell_other w p ⟨tb, j, none⟩ u (by intro e; rw [e] at hp; exact Nat.lt_irrefl _ hp)
  have hb : p.block < base := Nat.lt_trans hp h.lt
  refine ⟨(key 0).trans h.c0, (key 1).trans h.c1, ?_, ?_, ownsRow_setCell_below h.ro hb u, ownsRow_setCell_below h.wo hb u, h.lt, by simpa [World.setCell] using h.le⟩
  · rw [World.frozen?_setCell]; exact h.f0
  · rw [World.frozen?_setCell]; exact h.f1

def Told (w w' : World) (tb base : Nat) (rs : List (Int × Int)) (ws : List Int) : Prop := ∃ vr vw, ToldAt w' tb base vr vw rs ws ∧ Below tb w w'

theorem told_rune {w w1 w' : World} {tb base : Nat} {vr vw vr' : Value} {rs : List (Int × Int)} {ws : List Int} {r : Int × Int} (h0 : ToldAt w tb base vr vw rs ws) (h01 : Below w.heap.size w w1)
    (hown' : w'.ownsRow base 121 2 vr' (rs.length + 1) (rs.flatMap runeC ++ runeC r)) (hgrow : w1.grownBy w' vr.ownBlock) :
    (∃ g cap, vr' = .slice (some ⟨g, 0, none⟩) (rs.length + 1) cap) ∧ w'.cell? ⟨tb, 0, none⟩ = some vr ∧ w'.frozen? ⟨tb, 0, none⟩ = false ∧
    Told w (w'.setCell ⟨tb, 0, none⟩ vr') tb base (rs ++ [r]) ws := by
  have h := h0.below h01
  have hB : Below base w w' := (h01.mono h0.le).grown hgrow h.le (own_block_ge h.ro)
  have hB1 : Below base w1 w' := (Below.refl _ _).grown hgrow h.le (own_block_ge h.ro)
  have c0 := (hB1.cell (p := ⟨tb, 0, none⟩) h.lt).trans h.c0
  have c1 := (hB1.cell (p := ⟨tb, 1, none⟩) h.lt).trans h.c1
  have f0 := (hB1.frozen (p := ⟨tb, 0, none⟩) h.lt).trans h.f0
  have f1 := (hB1.frozen (p := ⟨tb, 1, none⟩) h.lt).trans h.f1
  have wo := h.wo.kept hgrow (own_apart h.wo h.ro (by decide))
  have ro : w'.ownsRow base 121 2 vr' (rs ++ [r]).length ((rs ++ [r]).flatMap runeC) := by simpa using hown'
  refine ⟨Joins.ownsRow_form hown' (by omega), c0, f0, vr', vw, ⟨World.cell?_setCell_same _ _ _ c0, ?_, ?_, ?_, ownsRow_setCell_below ro h.lt _, ownsRow_setCell_below wo h.lt _, h.lt, ?_⟩, (hB.mono (Nat.le_of_lt h.lt)).setCell (Nat.le_refl _) _⟩
  · rw [World.cell?_setCell_other w' ⟨tb, 0, none⟩ ⟨tb, 1, none⟩ vr' (by intro e; injection e with _ e _; cases e)]; exact c1
  · rw [World.frozen?_setCell]; exact f0
  · rw [World.frozen?_setCell]; exact f1
  · have := hB.size
    have := h0.le
    simp [World.setCell]
    omega

theorem told_diag {w w1 w' : World} {tb base : Nat} {vr vw vw' : Value} {rs : List (Int × Int)} {ws : List Int} {r : Int} (h0 : ToldAt w tb base vr vw rs ws) (h01 : Below w.heap.size w w1)
    (hown' : w'.ownsRow base 49 3 vw' (ws.length + 1) (ws.flatMap diagC ++ diagC r)) (hgrow : w1.grownBy w' vw.ownBlock) :
    (∃ g cap, vw' = .slice (some ⟨g, 0, none⟩) (ws.length + 1) cap) ∧ w'.cell? ⟨tb, 1, none⟩ = some vw ∧ w'.frozen? ⟨tb, 1, none⟩ = false ∧
    Told w (w'.setCell ⟨tb, 1, none⟩ vw') tb base rs (ws ++ [r]) := by
  have h := h0.below h01
  have hB : Below base w w' := (h01.mono h0.le).grown hgrow h.le (own_block_ge h.wo)
  have hB1 : Below base w1 w' := (Below.refl _ _).grown hgrow h.le (own_block_ge h.wo)
  have c0 := (hB1.cell (p := ⟨tb, 0, none⟩) h.lt).trans h.c0
  have c1 := (hB1.cell (p := ⟨tb, 1, none⟩) h.lt).trans h.c1
  have f0 := (hB1.frozen (p := ⟨tb, 0, none⟩) h.lt).trans h.f0
  have f1 := (hB1.frozen (p := ⟨tb, 1, none⟩) h.lt).trans h.f1
  have ro := h.ro.kept hgrow (own_apart h.ro h.wo (by decide))
  have wo : w'.ownsRow base 49 3 vw' (ws ++ [r]).length ((ws ++ [r]).flatMap diagC) := by simpa using hown'
  refine ⟨Joins.ownsRow_form hown' (by omega), c1, f1, vr, vw', ⟨?_, World.cell?_setCell_same _ _ _ c1, ?_, ?_, ownsRow_setCell_below ro h.lt _, ownsRow_setCell_below wo h.lt _, h.lt, ?_⟩, (hB.mono (Nat.le_of_lt h.lt)).setCell (Nat.le_refl _) _⟩
  · rw [World.cell?_setCell_other w' ⟨tb, 1, none⟩ ⟨tb, 0, none⟩ vw' (by intro e; injection e with _ e _; cases e)]; exact c0
  · rw [World.frozen?_setCell]; exact f0
  · rw [World.frozen?_setCell]; exact f1
  · have := hB.size
    have := h0.le
    simp [World.setCell]
    omega

theorem Tryz.infoRune : (Tryz.prog.info? 121).map (fun i => (i.zero, i.size, i.bytes)) = some (some (.agg #[.int .i64 0, .int .i64 0]), 2, 16) := by kernel_rfl
theorem Tryz.infoDiag : (Tryz.prog.info? 49).map (fun i => (i.zero, i.size, i.bytes)) = some (some (.agg #[.int .i64 0, .int .i64 0, .string ByteArray.empty]), 3, 32) := by kernel_rfl

theorem news_cells (w : World) (cs : Array Value) (e : TypeId) (k : Nat) (hk : k = w.heap.size) : ∀ j u, cs.toList[j]? = some u → (w.alloc (.cells cs e)).cell? ((⟨k, 0, none⟩ : Addr).add j) = some u := by
  intro j u hj
  subst hk
  have e0 : (⟨w.heap.size, 0, none⟩ : Addr).add j = ⟨w.heap.size, j, none⟩ := by
    cases j <;> simp [Addr.add]
  rw [e0]
  have hj2 : cs[j]? = some u := by simpa using hj
  exact (World.cell?_alloc_at cs e _ j rfl).trans hj2

set_option maxHeartbeats 1000000 in
theorem tell_any (tb base : Nat) (vr vw : Value) (rs : List (Int × Int)) (ws : List Int) (v at' : Int) (w : World) (hT : ToldAt w tb base vr vw rs ws) (hn : rs.length < 8796093022208) :
    Calls Tryz.prog 37 #[.pointer (some ⟨tb, 0, none⟩), .int .i64 v, .int .i64 at'] w fun e w' => e = .returned (.tuple #[]) ∧ Told w w' tb base (rs ++ [(v, at')]) ws := by
  obtain ⟨i0, hi, hz0, hz1, hz2⟩ := info_parts Tryz.infoRune
  have HT : Hid (ToldAt w tb base vr vw rs ws) := hT
  have h0 := hT.c0
  have hbase := hT.le
  have HBL : Hid (∀ o, Below w.heap.size w (w.alloc o)) := fun o => (Below.refl _ _).alloc (Nat.le_refl _) o
  clear hT
  go_enter Tryz.func37, Tryz.ntmps37
  go_wp2_with (at_builtin; refine wpList_append_own _ rfl _ _ 60 rfl base 121 i0 (.agg #[.int .i64 0, .int .i64 0]) 2 16 Tryz.underlying60 hi hz0 hz1 hz2 rfl (by decide) _ _ _ rfl (own_below HT.out.ro (HBL.out _)) ⟨w.heap.size, 0, none⟩ 1 1 (runeC (v, at')) rfl rfl (news_cells _ #[.int .i64 v, .int .i64 at'] _ _ rfl) (by intro u hu; simp [runeC] at hu; rcases hu with rfl | rfl <;> rfl) (by unfold maxLen; omega) (by omega) (by simp; omega) ?_)
  intro v' w' hown' hgrow _
  obtain ⟨⟨g, cap, rfl⟩, k0, k1, kR⟩ := told_rune HT.out (HBL.out _) hown' hgrow
  have KR : Hid _ := kR
  clear kR hown' hgrow h0
  go_wp2
  go_end0
  exact ⟨rfl, KR.out⟩

set_option maxHeartbeats 1000000 in
theorem bad_any (tb base : Nat) (vr vw : Value) (rs : List (Int × Int)) (ws : List Int) (at' : Int) (w : World) (hT : ToldAt w tb base vr vw rs ws) (hn : rs.length < 4398046511104) (hn2 : ws.length < 4398046511104) :
    Calls Tryz.prog 81 #[.pointer (some ⟨tb, 0, none⟩), .int .i64 at'] w fun e w' => e = .returned (.tuple #[]) ∧ Told w w' tb base (rs ++ [(65533, at')]) (ws ++ [at']) := by
  obtain ⟨i0, hi, hz0, hz1, hz2⟩ := info_parts Tryz.infoDiag
  have HC : Hid _ := tell_any tb base vr vw rs ws 65533 at' w hT (by omega)
  clear hT
  go_enter Tryz.func81, Tryz.ntmps81
  go_wp2_with fail
  refine Calls.mono HC.out ?_
  rintro e w1 ⟨rfl, vr1, vw1, hT1, hb1⟩
  have HT : Hid (ToldAt w1 tb base vr1 vw1 (rs ++ [(65533, at')]) ws) := hT1
  have h0 := hT1.c1
  have hbase := hT1.le
  have HBL : Hid (∀ o, Below w1.heap.size w1 (w1.alloc o)) := fun o => (Below.refl _ _).alloc (Nat.le_refl _) o
  clear hT1 HC
  go_wp2_with (at_builtin; refine wpList_append_own _ rfl _ _ 30 rfl base 49 i0 (.agg #[.int .i64 0, .int .i64 0, .string ByteArray.empty]) 3 32 Tryz.underlying30 hi hz0 hz1 hz2 rfl (by decide) _ _ _ rfl (own_below HT.out.wo (HBL.out _)) ⟨w1.heap.size, 0, none⟩ 1 1 (diagC at') rfl rfl (news_cells _ #[.int .i64 2, .int .i64 at', .string ByteArray.empty] _ _ rfl) (by intro u hu; simp [diagC] at hu; rcases hu with rfl | rfl | rfl <;> rfl) (by unfold maxLen; omega) (by omega) (by simp; omega) ?_)
  intro v' w' hown' hgrow _
  obtain ⟨⟨g, cap, rfl⟩, k0, k1, vr2, vw2, hT2, hb2⟩ := told_diag HT.out (HBL.out _) hown' hgrow
  have KR : Hid (ToldAt _ tb base vr2 vw2 (rs ++ [(65533, at')]) (ws ++ [at'])) := hT2
  clear hT2 hown' hgrow h0
  go_wp2
  go_end0
  exact ⟨rfl, vr2, vw2, KR.out, hb1.trans hb2⟩
end Go.Proofs.YtgdjknbbjpcoiaaGreatDoor
