/-
  A value without quotes ends; what is told is settled.
-/
import Derived.Test.YtgdjknbbjpcoiaaGreatDoorLxAttrEnd
namespace Go.Proofs.YtgdjknbbjpcoiaaGreatDoor
open Go.RowKit

set_option maxRecDepth 100000 in
set_option maxHeartbeats 2000000 in
theorem unquoted_gt (l : Nat) (cs : List Value) (g o n cap pos : Nat) (a : Int) (B : Nat) (u v : Value) (us vs : List UInt8) (w : World) (hL : LexAt w l cs) (hN : NextIs w cs g o n cap pos 62 a) (hl : l < w.heap.size) (h13 : cs[13]? = some (.slice none 0 0)) (h18 : cs[18]? = some u) (h21 : cs[21]? = some v) (h22 : cs[22]? = some (.map none)) (hu : w.ownsRow B 5 1 u us.length (lxCells us)) (hv : w.ownsRow B 5 1 v vs.length (lxCells vs)) (hlB : l < B) (hus : us.length ≤ 1000000) :
    Calls Tryz.prog 244 #[.pointer (some ⟨l, 0, none⟩)] w fun e w' => e = .returned (.func (.func 146) #[] #[]) ∧ ∃ b cp mp, LexAt w' l ((cs.set 22 mp).set 13 (.slice (some ⟨b, 0, none⟩) 1 cp)) ∧ w'.cell? ⟨b, 0, none⟩ = some (.string ⟨us.toArray⟩) ∧ w'.cell? ⟨b, 1, none⟩ = some (.string ⟨vs.toArray⟩) ∧ But l w.heap.size w w' := by
  have HP : Hid _ := peek_any l cs g o n cap pos 62 a w hL hN
  have HB : Hid (∀ w, _) := fun w => isBlank_any 62 w
  rw [show blankI 62 = false by decide] at HB
  have HE : Hid (∀ w1 : World, (∃ q, w1 = w.drewN q) → _) := fun w1 h => endAttribute_first l cs (.func (.func 146) #[] #[]) B u v us vs w1 (by obtain ⟨q, rfl⟩ := h; exact hL.draws q) (by obtain ⟨q, rfl⟩ := h; exact hl) h13 h18 h21 h22 (by obtain ⟨q, rfl⟩ := h; exact hu) (by obtain ⟨q, rfl⟩ := h; exact hv) hlB hus
  clear hL hN h13 h18 h21 h22 hu hv hus
  go_enter Tryz.func244, Tryz.ntmps244
  go_wp2_with fail
  refine Calls.mono HP.out ?_
  rintro e w1 ⟨rfl, hq⟩
  have HQ : Hid _ := hq
  clear HP hq
  go_wp2_with fail
  refine Calls.mono (HB.out w1) ?_
  rintro e w2 ⟨rfl, hw2⟩
  subst hw2
  go_wp2_with fail
  refine Calls.mono (HE.out _ HQ.out) ?_
  rintro e w3 ⟨rfl, b, cp, mp, hL3, hb0, hb1, hb3⟩
  have HX : Hid (But l w.heap.size w w3) := by
    obtain ⟨q, hq⟩ := HQ.out
    rw [hq] at hb3
    exact (But.of (drewN_below (Below.refl _ _) q)).trans hb3
  clear hb3 HE HQ HB
  go_wp2
  go_ret
  exact ⟨rfl, b, cp, mp, hL3, hb0, hb1, HX.out⟩

/-- The lexer, a result's block, a token's block. -/
structure SetP (w : World) (l R : Nat) (cs zs ts : List Value) (wy : World) : Prop where
  lex : LexAt wy l cs
  but : But l w.heap.size w wy
  r0 : ∀ j v, zs[j]? = some v → wy.cell? ⟨R, j, none⟩ = some v
  r1 : ∀ j v, ts[j]? = some v → wy.cell? ⟨R + 1, j, none⟩ = some v
  z0 : ∀ j, wy.frozen? ⟨R, j, none⟩ = false

theorem setP_of {w W : World} {l : Nat} {cs : List Value} {t1 t2 : TypeId} (h1 : LexAt W l cs) (h2 : But l w.heap.size w W) (h3 : W.heap.size = w.heap.size) (hl : l < w.heap.size) (zs ts : Array Value) : SetP w l w.heap.size cs zs.toList ts.toList ((W.alloc (.cells zs t1)).alloc (.cells ts t2)) := by
  have hb : Below w.heap.size W ((W.alloc (.cells zs t1)).alloc (.cells ts t2)) := ((Below.refl w.heap.size W).alloc (by omega) _).alloc (by simp; omega) _
  have hs1 : (W.alloc (.cells zs t1)).heap.size = w.heap.size + 1 := by simp [h3]
  have e0 : ((W.alloc (.cells zs t1)).alloc (.cells ts t2)).heap[w.heap.size]? = some (.cells zs t1 (0, 0)) := by
    rw [heap_alloc_old (W.alloc (.cells zs t1)) (.cells ts t2) (by omega), ← h3]
    exact heap_alloc_new W _
  have e1 : ((W.alloc (.cells zs t1)).alloc (.cells ts t2)).heap[w.heap.size + 1]? = some (.cells ts t2 (0, 0)) := by
    rw [← hs1]
    exact heap_alloc_new _ _
  refine ⟨h1.below hb hl, h2.trans (But.of hb), fun j v hv => ?_, fun j v hv => ?_, fun j => ?_⟩
  · rw [cell_of_row _ _ j zs t1 (0, 0) e0]; simpa using hv
  · rw [cell_of_row _ _ j ts t2 (0, 0) e1]; simpa using hv
  · simp [World.frozen?, e0]

theorem LexAt.off {w : World} {l R : Nat} {cs : List Value} (h : LexAt w l cs) (hR : l ≠ R) (j : Nat) (u : Value) : LexAt (w.setCell ⟨R, j, none⟩ u) l cs :=
  ⟨h.len, fun k v hv => by rw [World.cell?_setCell_other _ _ _ _ (by intro e; injection e with e _ _; exact hR e.symm)]; exact h.c k v hv, fun k => by rw [World.frozen?_setCell]; exact h.fz k⟩
theorem But.off {a w : World} {l B R : Nat} (h : But l B a w) (hR : B ≤ R) (j : Nat) (u : Value) : But l B a (w.setCell ⟨R, j, none⟩ u) :=
  h.trans ⟨rfl, rfl, rfl, by simp [World.setCell], fun k hk _ => Below.heap_setCell _ _ _ _ (by show k ≠ R; omega)⟩
theorem LexAt.drew2 {w : World} {l : Nat} {cs : List Value} (h : LexAt w l cs) : LexAt w.drew.drew l cs := ⟨h.len, h.c, h.fz⟩
theorem But.drew2 {a w : World} {l B : Nat} (h : But l B a w) : But l B a w.drew.drew := ⟨h.os, h.tape, h.output, h.size, h.block⟩
theorem settled {a w : World} {l B R : Nat} {cs : List Value} (hL : LexAt w l cs) (hB : But l B a w) (hl : l ≠ R) (hR : B ≤ R) (u0 u1 u2 u3 u4 u5 u6 u7 : Value) :
    LexAt ((((((((w.setCell ⟨R, 0, none⟩ u0).setCell ⟨R, 1, none⟩ u1).setCell ⟨R, 2, none⟩ u2).setCell ⟨R, 3, none⟩ u3).setCell ⟨R, 4, none⟩ u4).setCell ⟨R, 5, none⟩ u5).setCell ⟨R, 6, none⟩ u6).setCell ⟨R, 7, none⟩ u7).drew.drew l cs ∧
    But l B a ((((((((w.setCell ⟨R, 0, none⟩ u0).setCell ⟨R, 1, none⟩ u1).setCell ⟨R, 2, none⟩ u2).setCell ⟨R, 3, none⟩ u3).setCell ⟨R, 4, none⟩ u4).setCell ⟨R, 5, none⟩ u5).setCell ⟨R, 6, none⟩ u6).setCell ⟨R, 7, none⟩ u7).drew.drew := by
  have h1 := (((((((hL.off hl 0 u0).off hl 1 u1).off hl 2 u2).off hl 3 u3).off hl 4 u4).off hl 5 u5).off hl 6 u6).off hl 7 u7
  have h2 := (((((((hB.off hR 0 u0).off hR 1 u1).off hR 2 u2).off hR 3 u3).off hR 4 u4).off hR 5 u5).off hR 6 u6).off hR 7 u7
  exact ⟨h1.drew2, h2.drew2⟩
/-- The cells where a token was told. -/
def restOf (cs : List Value) (g o n cap pos : Nat) : List Value := ((((withTok cs tok0).set 33 (.slice none 0 0)).set 32 (.slice none 0 0)).set 0 (.slice (some ⟨g, o, none⟩) (n - pos) (cap - pos))).set 1 (.int .i64 0)

structure SettledP (w : World) (l : Nat) (cs : List Value) (g o n cap pos : Nat) (w' : World) : Prop where
  lex : ∃ o', (pos < cap → o' = o + pos * 2) ∧ LexAt w' l (restOf cs g o' n cap pos)
  but : But l w.heap.size w w'

set_option maxRecDepth 100000 in
set_option maxHeartbeats 4000000 in
/-- Nothing wrong was met, nothing wrong stands to be asked. -/
theorem settle_any (l : Nat) (cs : List Value) (t : Tok) (g o n cap pos : Nat) (w : World) (hL : LexAt w l cs) (hT : TokAt cs t) (h0 : cs[0]? = some (.slice (some ⟨g, o, none⟩) n cap)) (h1 : cs[1]? = some (.int .i64 (pos : Int))) (hp : pos ≤ n) (hn : n ≤ cap) (h32 : cs[32]? = some (.slice none 0 0)) (h33 : cs[33]? = some (.slice none 0 0)) (hl : l < w.heap.size) :
    Calls Tryz.prog 40 #[.pointer (some ⟨l, 0, none⟩)] w fun e w' => e = .returned (tokV t) ∧ SettledP w l cs g o n cap pos w' := by
  have c8 := hL.c 8 _ hT.t0
  have c9 := hL.c 9 _ hT.t1
  have c10 := hL.c 10 _ hT.t2
  have c11 := hL.c 11 _ hT.t3
  have c12 := hL.c 12 _ hT.t4
  have c13 := hL.c 13 _ hT.t5
  have c14 := hL.c 14 _ hT.t6
  have c15 := hL.c 15 _ hT.t7
  have c0 := hL.c 0 _ h0
  have c1 := hL.c 1 _ h1
  have c32 := hL.c 32 _ h32
  have c33 := hL.c 33 _ h33
  have f0 := hL.fz 0
  have f1 := hL.fz 1
  have f8 := hL.fz 8
  have f9 := hL.fz 9
  have f10 := hL.fz 10
  have f11 := hL.fz 11
  have f12 := hL.fz 12
  have f13 := hL.fz 13
  have f14 := hL.fz 14
  have f15 := hL.fz 15
  have f32 := hL.fz 32
  have f33 := hL.fz 33
  have hlen := hL.len
  have hW := lex_tok hL tok0
  have hWB := but_tok (But.refl l w.heap.size w) tok0
  unfold tok0 at hW hWB
  have HS : Hid (∀ W : World, LexAt W l (withTok cs tok0) → But l w.heap.size w W → W.heap.size = w.heap.size → ∀ zs ts : Array Value, SetP w l w.heap.size (withTok cs tok0) zs.toList ts.toList ((W.alloc (.cells zs 41)).alloc (.cells ts 41))) := fun W h1 h2 h3 zs ts => setP_of h1 h2 h3 hl zs ts
  have hne : l ≠ w.heap.size := by omega
  have hne1 : l ≠ w.heap.size + 1 := by omega
  clear hL hT
  go_enter Tryz.func40, Tryz.ntmps40
  go_upto_region 3 with fail
  have HP := HS.out _ hW hWB (by simp [World.setCell]) #[.int .i64 0, .int .i64 0, .int .i64 0, .string ⟨#[]⟩, .string ⟨#[]⟩, .slice none 0 0, .bool false, .bool false] #[.int .i64 t.kind, .int .i64 t.value, .int .i64 t.at', .string t.name, .string t.data, .slice t.attrs t.an t.ac, .bool t.self, .bool t.quirks]
  generalize ((World.alloc _ (.cells #[.int .i64 0, .int .i64 0, .int .i64 0, .string ⟨#[]⟩, .string ⟨#[]⟩, .slice none 0 0, .bool false, .bool false] 41)).alloc _) = wy at HP ⊢
  clear c8 c9 c10 c11 c12 c13 c14 c15 c0 c1 c32 c33 f0 f1 f8 f9 f10 f11 f12 f13 f14 f15 f32 f33 hW hWB HS
  have c0 : wy.cell? ⟨l, 0, none⟩ = some (.slice (some ⟨g, o, none⟩) n cap) := HP.lex.c 0 _ (by rw [with_other _ _ _ (by omega)]; exact h0)
  have c1 : wy.cell? ⟨l, 1, none⟩ = some (.int .i64 (pos : Int)) := HP.lex.c 1 _ (by rw [with_other _ _ _ (by omega)]; exact h1)
  have c32 : wy.cell? ⟨l, 32, none⟩ = some (.slice none 0 0) := HP.lex.c 32 _ (by rw [with_other _ _ _ (by omega)]; exact h32)
  have c33 : wy.cell? ⟨l, 33, none⟩ = some (.slice none 0 0) := HP.lex.c 33 _ (by rw [with_other _ _ _ (by omega)]; exact h33)
  have f0 := HP.lex.fz 0
  have f1 := HP.lex.fz 1
  have f32 := HP.lex.fz 32
  have f33 := HP.lex.fz 33
  have a0 := HP.r0 0 _ rfl
  have a1 := HP.r0 1 _ rfl
  have a2 := HP.r0 2 _ rfl
  have a3 := HP.r0 3 _ rfl
  have a4 := HP.r0 4 _ rfl
  have a5 := HP.r0 5 _ rfl
  have a6 := HP.r0 6 _ rfl
  have a7 := HP.r0 7 _ rfl
  have b0 := HP.r1 0 _ rfl
  have b1 := HP.r1 1 _ rfl
  have b2 := HP.r1 2 _ rfl
  have b3 := HP.r1 3 _ rfl
  have b4 := HP.r1 4 _ rfl
  have b5 := HP.r1 5 _ rfl
  have b6 := HP.r1 6 _ rfl
  have b7 := HP.r1 7 _ rfl
  have z0 := HP.z0 0
  have z1 := HP.z0 1
  have z2 := HP.z0 2
  have z3 := HP.z0 3
  have z4 := HP.z0 4
  have z5 := HP.z0 5
  have z6 := HP.z0 6
  have z7 := HP.z0 7
  have HPP : Hid _ := HP
  have hR1 : w.heap.size ≠ w.heap.size + 1 := by omega
  clear h0 h1 h32 h33 HP
  generalize w.heap.size + 1 = R1 at *
  generalize hR : w.heap.size = R at *
  have hI : (pos : Int) ≤ (n : Int) := by omega
  have hIc : (n : Int) ≤ (cap : Int) := by omega
  go_region
  go_wp2
  go_region
  all_goals go_wp2
  all_goals
    have h1 := ((((HPP.out.lex.set 33 (by omega) (.slice none 0 0)).set 32 (by omega) (.slice none 0 0))))
    have h2 := (HPP.out.but.store 33 (.slice none 0 0)).store 32 (.slice none 0 0)
  · subst h
    have h3 := settled ((h1.set 0 (by omega) (.slice (some ⟨g, o, none⟩) (n - cap) 0)).set 1 (by omega) (.int .i64 0)) ((h2.store 0 (.slice (some ⟨g, o, none⟩) (n - cap) 0)).store 1 (.int .i64 0)) hne (Nat.le_of_eq hR) (.int .i64 t.kind) (.int .i64 t.value) (.int .i64 t.at') (.string t.name) (.string t.data) (.slice t.attrs t.an t.ac) (.bool t.self) (.bool t.quirks)
    exact bodyPost_ret (v := tokV t) (by simp [results, Tryz.results40, go_sem, tokV, *]) rfl ⟨rfl, ⟨o, fun hh => absurd hh (by omega), by unfold restOf; rw [Nat.sub_self]; exact h3.1⟩, h3.2⟩
  · have h3 := settled ((h1.set 0 (by omega) (.slice (some ⟨g, o + pos * 2, none⟩) (n - pos) (cap - pos))).set 1 (by omega) (.int .i64 0)) ((h2.store 0 (.slice (some ⟨g, o + pos * 2, none⟩) (n - pos) (cap - pos))).store 1 (.int .i64 0)) hne (Nat.le_of_eq hR) (.int .i64 t.kind) (.int .i64 t.value) (.int .i64 t.at') (.string t.name) (.string t.data) (.slice t.attrs t.an t.ac) (.bool t.self) (.bool t.quirks)
    exact bodyPost_ret (v := tokV t) (by simp [results, Tryz.results40, go_sem, tokV, *]) rfl ⟨rfl, ⟨o + pos * 2, fun _ => rfl, h3.1⟩, h3.2⟩
end Go.Proofs.YtgdjknbbjpcoiaaGreatDoor
