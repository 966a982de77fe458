/-
  The first attribute of a tag ends.
-/
import Derived.Test.YtgdjknbbjpcoiaaGreatDoorLxTold
import Derived.Maps.Own
import Derived.Maps.OwnOps
import Derived.Maps.Views
import Derived.WalkSpells
import Derived.StringKeys
import Derived.Deep.AppendLies
import Derived.Deep.RegionLaw
namespace Go.Proofs.YtgdjknbbjpcoiaaGreatDoor
open Go.RowKit Go.Maps

theorem lxLaw : Keyed Tryz.prog 9 := string_keyed Tryz.underlying9
theorem lxZero (w : World) : (zeroValue 3).run Tryz.prog w = .ok (.int .i64 0) w := by kernel_rfl

theorem one_of {s : List UInt8} {c : Int} (h : ((DataW.map []).put (.string s) (.lit (.int .i64 1)) : DataW Unit).atKey (.string s) (.lit (.int .i64 0)) = .lit (.int .i64 c)) : c = 1 := by
  rw [atKey_put_same ⟨_, rfl⟩ (by trivial)] at h
  injection h with e
  injection e with _ e
  exact e.symm

/-- Behind the count. -/
structure After (w : World) (l : Nat) (cs : List Value) (w2 : World) : Prop where
  lex : LexAt w2 l cs
  but : But l w.heap.size w w2
  lt : l < w2.heap.size
theorem After.took {w : World} {l : Nat} {cs : List Value} {w2 w' : World} {t : TypeId} {o : Obj} {g cap : Nat} {a b : Value} (h : After w l cs w2) (h13 : cs[13]? = some (.slice none 0 0)) (hown : w'.ownsRow w2.heap.size t 2 (.slice (some ⟨g, 0, none⟩) (0 + 1) cap) (0 + 1) ([] ++ [a, b])) (hg : (w2.alloc o).drew.grownBy w' (Value.slice none 0 0).ownBlock) :
    w'.cell? ⟨l, 13, none⟩ = some (.slice none 0 0) ∧ w'.frozen? ⟨l, 13, none⟩ = false ∧ Hid (LexAt w' l cs ∧ But l w.heap.size w w' ∧ w'.cell? ⟨g, 0, none⟩ = some a ∧ w'.cell? ⟨g, 1, none⟩ = some b ∧ l ≠ g) := by
  have hlt := h.lt
  have hs1 : (w2.alloc o).drew.heap.size = w2.heap.size + 1 := by show (w2.alloc o).heap.size = _; simp
  have hb1 : But l w2.heap.size w2 w' := by
    refine ⟨hg.os, hg.tape, hg.output, Nat.le_trans (by omega) hg.size, fun k hk _ => ?_⟩
    rw [hg.block k (by omega) (by simp [Value.ownBlock])]
    exact heap_alloc_old w2 o hk
  have hL : LexAt w' l cs := by
    have h1 : LexAt (w2.alloc o).drew l cs := (h.lex.below ((Below.refl w2.heap.size w2).alloc (Nat.le_refl _) o) hlt).draws 1
    exact h1.grown hg (by omega) (by simp [Value.ownBlock])
  have hgb := (hown.lt g rfl).1
  refine ⟨hL.c 13 _ h13, hL.fz 13, hL, h.but.trans (hb1.mono h.but.size), hown.cells rfl 0 _ rfl, hown.cells rfl 1 _ rfl, by omega⟩
theorem news_two (w : World) (t : TypeId) (a b : Value) : ∀ j u, ([a, b] : List Value)[j]? = some u → (w.alloc (.cells #[a, b] t)).drew.cell? ((⟨w.heap.size, 0, none⟩ : Addr).add j) = some u := by
  intro j u h
  match j, h with
  | 0, h => simp at h; subst h; exact World.cell?_alloc_at (w := w) _ _ _ 0 rfl
  | 1, h => simp at h; subst h; exact World.cell?_alloc_at (w := w) _ _ _ 1 rfl
  | (j + 2), h => simp at h
theorem two_one (a b : ByteArray) : ∀ u ∈ [Value.string a, Value.string b], u.oneCell' = true := by
  intro u hu
  simp at hu
  rcases hu with rfl | rfl <;> rfl

/-- Ahead of the first name's count. -/
structure NamP (w : World) (l B : Nat) (cs : List Value) (u v : Value) (us vs : List UInt8) (b : Nat) (wx : World) : Prop where
  lex : LexAt wx l cs
  ou : wx.ownsRow B 5 1 u us.length (lxCells us)
  ov : wx.ownsRow B 5 1 v vs.length (lxCells vs)
  mp : wx.ownsMap (H := Unit) Tryz.prog 9 (plainElem Tryz.prog 3) b 0 (.map [])
  but : But l w.heap.size w wx
  lb : w.heap.size ≤ b

set_option maxRecDepth 100000 in
set_option maxHeartbeats 2000000 in
theorem endAttribute_first (l : Nat) (cs : List Value) (N : Value) (B : Nat) (u v : Value) (us vs : List UInt8) (w : World) (hL : LexAt w l cs) (hl : l < w.heap.size) (h13 : cs[13]? = some (.slice none 0 0)) (h18 : cs[18]? = some u) (h21 : cs[21]? = some v) (h22 : cs[22]? = some (.map none)) (hu : w.ownsRow B 5 1 u us.length (lxCells us)) (hv : w.ownsRow B 5 1 v vs.length (lxCells vs)) (hlB : l < B) (hus : us.length ≤ 1000000) :
    Calls Tryz.prog 238 #[.pointer (some ⟨l, 0, none⟩), N] w fun e w' => e = .returned N ∧ ∃ b cp mp, LexAt w' l ((cs.set 22 mp).set 13 (.slice (some ⟨b, 0, none⟩) 1 cp)) ∧ w'.cell? ⟨b, 0, none⟩ = some (.string ⟨us.toArray⟩) ∧ w'.cell? ⟨b, 1, none⟩ = some (.string ⟨vs.toArray⟩) ∧ But l w.heap.size w w' := by
  have c22 := hL.c 22 _ h22
  have f22 := hL.fz 22
  have hlen := hL.len
  have qm : ∀ (w : World) (r : Option Nat), (binOp .eql 92 (.map r) (.map none)).run Tryz.prog w = .ok (.bool r.isNone) w := fun w r => run_eql_map_nil w 92 9 3 r Tryz.underlying92
  have hmm := @run_makeMap Tryz.prog
  have hsz : (w.setCell ⟨l, 22, none⟩ (.map (some w.heap.size))).heap.size = w.heap.size := by simp [World.setCell]
  have hB0 : But l w.heap.size w (w.setCell ⟨l, 22, none⟩ (.map (some w.heap.size))) := (But.refl l _ _).store 22 _
  have hBe : Below w.heap.size (w.setCell ⟨l, 22, none⟩ (.map (some w.heap.size))) ((w.setCell ⟨l, 22, none⟩ (.map (some w.heap.size))).alloc (.map #[] 0)) := (Below.refl _ _).alloc (by rw [hsz]; exact Nat.le_refl _) _
  have HX : Hid (NamP w l B (cs.set 22 (.map (some w.heap.size))) u v us vs w.heap.size ((w.setCell ⟨l, 22, none⟩ (.map (some w.heap.size))).alloc (.map #[] 0))) :=
    { lex := (hL.set 22 (by omega) _).below hBe hl
      ou := (owns_but hu hB0 (Nat.le_refl _) (owns_off hu hlB)).alloc _
      ov := (owns_but hv hB0 (Nat.le_refl _) (owns_off hv hlB)).alloc _
      mp := by
        have h := World.ownsMap_made (H := Unit) (w.setCell ⟨l, 22, none⟩ (.map (some w.heap.size))) Tryz.prog 9 (plainElem Tryz.prog 3)
        rw [hsz] at h
        exact h
      but := hB0.trans (But.of hBe)
      lb := Nat.le_refl _ }
  have HC : Hid _ := hlen
  have HV : Hid (v.ownBlock = none ∨ v.ownBlock ≠ some w.heap.size) := Or.inr (fun e => by have := (hv.lt _ e).2; omega)
  have HB : Hid _ := hlB
  clear hL hu hv hB0 hBe hsz hlen hlB h22
  go_enter Tryz.func238, Tryz.ntmps238
  go_upto_region 3 with fail
  have HH : Hid (w.heap.size ≤ w.heap.size ∧ l < w.heap.size) := ⟨Nat.le_refl _, hl⟩
  generalize (w.setCell ⟨l, 22, none⟩ (.map (some w.heap.size))).alloc (.map #[] 0) = wx at HX ⊢
  generalize hbm : w.heap.size = bm at HX HH HV ⊢
  have hlt : l < bm := HH.out.2
  have hne : some l ≠ some bm := by intro e; cases e; omega
  have k13 : wx.cell? ⟨l, 13, none⟩ = some (.slice none 0 0) := HX.out.lex.c 13 _ (by rw [List.getElem?_set_ne (by omega)]; exact h13)
  have k18 : wx.cell? ⟨l, 18, none⟩ = some u := HX.out.lex.c 18 _ (by rw [List.getElem?_set_ne (by omega)]; exact h18)
  have k21 : wx.cell? ⟨l, 21, none⟩ = some v := HX.out.lex.c 21 _ (by rw [List.getElem?_set_ne (by omega)]; exact h21)
  have k22 : wx.cell? ⟨l, 22, none⟩ = some (.map (some bm)) := HX.out.lex.c 22 _ (List.getElem?_set_self (by rw [HC.out]; omega))
  have hcu := lxBack HX.out.ou
  have hkey : keyOf Tryz.prog 9 (.string ⟨us.toArray⟩) = some _ := Go.WideMaps.keyOf_string_mk Tryz.underlying9 (s := ⟨us.toArray⟩) (by show us.toArray.size ≤ maxLen; unfold maxLen; simp; omega)
  have hown := HX.out.mp
  clear c22 f22 h18 h21 hmm qm
  go_upto_region 8 with (first
    | (at_lookup; refine wpList_lookup_own_int _ rfl _ _ 92 rfl 9 3 .i64 lxLaw Tryz.underlying92 Tryz.underlying3 (lxZero _) bm 0 (.map []) rfl hown _ _ rfl hkey ?_; intro c0 hat0 hwc0; have hc0 : c0 = 0 := (by injection hat0 with e; injection e with _ e; exact e.symm); clear hat0 hwc0; subst hc0)
    | (at_mapUpdate; refine wpList_mapUpdate_own _ rfl _ _ _ 92 rfl 9 3 lxLaw Tryz.underlying92 _ bm 0 _ rfl hown (by unfold maxLen; omega) _ _ _ rfl rfl hkey _ [] (plainElem_int Tryz.underlying3 (by rfl)) ?_; intro w2 hown2 hgrow2; have m22 := hgrow2.cell k22 hne)
    | (at_lookup; refine wpList_lookup_own_int _ rfl _ _ 92 rfl 9 3 .i64 lxLaw Tryz.underlying92 Tryz.underlying3 (lxZero _) bm 1 _ rfl hown2 _ _ rfl hkey ?_; intro c1 hat1 hwc1; have hc1 : c1 = 1 := one_of hat1; clear hat1 hwc1; subst hc1))
  have hs2 := hgrow2.size
  have hbx := HX.out.but.size
  rw [hbm] at hbx
  have hL2 : LexAt w2 l (cs.set 22 (.map (some bm))) := HX.out.lex.grown hgrow2 (by omega) hne
  have HF : Hid (After w l (cs.set 22 (.map (some bm))) w2) :=
    ⟨hL2, HX.out.but.trans ⟨hgrow2.os, hgrow2.tape, hgrow2.output, hgrow2.size, fun k hk _ => hgrow2.block k (by omega) (by intro e; cases e; omega)⟩, by omega⟩
  have p13 : w2.cell? ⟨l, 13, none⟩ = some (.slice none 0 0) := hgrow2.cell k13 hne
  have p21 : w2.cell? ⟨l, 21, none⟩ = some v := hgrow2.cell k21 hne
  have d13 : ∀ o, (w2.alloc o).cell? ⟨l, 13, none⟩ = some (.slice none 0 0) := fun o => by
    rw [World.cell?_of_block (w := w2) (a := ⟨l, 13, none⟩) (heap_alloc_old w2 o (show l < w2.heap.size by omega))]
    exact p13
  have e13 : (cs.set 22 (.map (some bm)))[13]? = some (.slice none 0 0) := by rw [List.getElem?_set_ne (by omega)]; exact h13
  have hov2 : w2.ownsRow B 5 1 v vs.length (lxCells vs) := HX.out.ov.kept hgrow2 HV.out
  have hcv : (convert 87 9 v).run Tryz.prog w2.drew = .ok (.string ⟨vs.toArray⟩) w2.drew := lxBack (w := w2.drew) hov2
  obtain ⟨i0, hi, hz0, hz1, hz2⟩ := info_parts (show (Tryz.prog.info? 55).map (fun i => (i.zero, i.size, i.bytes)) = some (some (.agg #[.string ⟨#[]⟩, .string ⟨#[]⟩]), 2, 32) by kernel_rfl)
  clear k13 k18 k21 k22 hcu hkey hown hown2 hgrow2 m22 hov2 hL2 HX HV
  go_region_law (refine step_append_lies _ rfl (.tmp 51) (.tmp 60) 39 rfl w2.heap.size 55 i0 (.agg #[.string ⟨#[]⟩, .string ⟨#[]⟩]) 2 32 Tryz.underlying39 hi hz0 hz1 hz2 rfl (by decide) (.slice none 0 0) 0 [] (by simp [Act.eval]) (World.ownsRow_nil _ _ _ _) ⟨w2.heap.size, 0, none⟩ 1 1 [.string ⟨us.toArray⟩, .string ⟨vs.toArray⟩] (by simp [Act.eval]) rfl (news_two w2 _ _ _) (two_one _ _) (by omega) (by unfold maxLen; omega) (by omega) (by show w2.heap.size ≤ (w2.alloc _).heap.size; simp) _ rfl (fun g cap w' hown' hgrow hg hlt => ?_); obtain ⟨q13, g13, KR⟩ := HF.out.took e13 hown' hgrow; clear hown' hgrow hg hlt)
  all_goals
    go_wp2
    go_ret
    refine ⟨rfl, g, cap, .map (some bm), KR.out.1.set 13 (by omega) _, ?_, ?_, KR.out.2.1.store 13 _⟩
    · rw [World.cell?_setCell_other _ _ _ _ (by intro e; injection e with e _ _; exact KR.out.2.2.2.2 e)]; exact KR.out.2.2.1
    · rw [World.cell?_setCell_other _ _ _ _ (by intro e; injection e with e _ _; exact KR.out.2.2.2.2 e)]; exact KR.out.2.2.2.1
end Go.Proofs.YtgdjknbbjpcoiaaGreatDoor
