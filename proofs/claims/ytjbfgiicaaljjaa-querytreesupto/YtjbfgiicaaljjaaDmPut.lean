/-
  A node stands behind all kids of another one: the tree's own insert.
-/
import Derived.Test.YtjbfgiicaaljjaaDmIns
namespace Go.Proofs.Ytjbfgiicaaljjaa
open Go.RowKit

set_option maxRecDepth 100000 in
set_option maxHeartbeats 2000000 in
theorem eachKid_none (t B g cap : Nat) (cs : List Cel) (n : Nat) (c : Cel) (kg k kc : Nat) (f : Value) (w : World) (hT : TreeAt w t B g cap cs) (hn : cs[n]? = some c) (hk : c.kids = .slice (some ⟨kg, 0, none⟩) k kc) (hle : k ≤ kc) :
    Calls Try.prog 50 #[.pointer (some ⟨t, 0, none⟩), .int .i64 (n : Int), .int .i64 (k : Int), f] w fun e w' => e = .returned (.tuple #[]) ∧ w' = w := by
  have hlt := (List.getElem?_eq_some_iff.1 hn).1
  have c0 := hT.c0
  have ck : w.cell? ⟨g, n * 10 + 9, none⟩ = some (.slice (some ⟨kg, 0, none⟩) k kc) := by rw [← hk]; exact hT.at hn rfl
  have hI : (n : Int) < (cs.length : Int) := by omega
  have hkI : (k : Int) ≤ (kc : Int) := by omega
  clear hT hn hlt
  go_enter Try.func50, Try.ntmps50
  go_wp2
  all_goals
    refine wp_loop_rounds 1 ?_
    rw [rounds_succ]
    go_wp2
    go_end0
    exact ⟨rfl, rfl⟩

theorem TreeAt.drew {w : World} {t B g cap : Nat} {cs : List Cel} (h : TreeAt w t B g cap cs) : TreeAt w.drew t B g cap cs := ⟨h.blk, h.own, h.tB, h.few⟩

/-- Behind the row of kids that has grown. -/
structure InsP (w : World) (t B g cap : Nat) (cs : List Cel) (old : Value) (ks : List Nat) (n : Nat) (v' : Value) (w' : World) : Prop where
  tree : TreeAt w' t B g cap cs
  own : w'.ownsRow B 3 1 v' (ks ++ [n]).length (intC (ks ++ [n]))
  lies : v'.ownBlock = old.ownBlock ∨ ∀ k, v'.ownBlock = some k → w.heap.size ≤ k
  kept : Kept (fun k => old.ownBlock = some k) w w'

theorem insP_of {w wx w' : World} {t B g cap : Nat} {cs : List Cel} {old : Value} {ks : List Nat} {n : Nat} {v' : Value} (hT : TreeAt w t B g cap cs) (hO : w.ownsRow B 3 1 old ks.length (intC ks)) (hb : Below w.heap.size w wx) (hK : KidsP wx B old ks n v' w') : InsP w t B g cap cs old ks n v' w' := by
  have k1 : Kept (fun k => old.ownBlock = some k) w w' := (Kept.below hb).trans (Kept.grown hK.grown (fun k e => e))
  have hg := hT.gB
  refine ⟨hT.kept k1 (fun e => ?_) (fun e => ?_), hK.own, ?_, k1⟩
  · exact hT.off hO (by decide) e
  · rcases owns_apart hO hT.own (by decide) with h | h
    · rw [h] at e; cases e
    · exact h e
  · rcases hK.lies with h | h
    · exact .inl h
    · exact .inr fun k e => Nat.le_trans hb.size (h k e)

/-- A node stands behind the kids of another one. -/
structure PutP (w : World) (t B g cap : Nat) (cs : List Cel) (n p : Nat) (c cp : Cel) (ks : List Nat) (w' : World) : Prop where
  tree : ∃ v', TreeAt w' t B g cap ((cs.set n { c with parent := (p : Int), ahead := (ks.length : Int) }).set p { cp with kids := v' }) ∧ w'.ownsRow B 3 1 v' (ks ++ [n]).length (intC (ks ++ [n])) ∧ (v'.ownBlock = cp.kids.ownBlock ∨ ∀ k, v'.ownBlock = some k → w.heap.size ≤ k)
  kept : Kept (fun k => k = g ∨ cp.kids.ownBlock = some k) w w'

theorem fin_of {w w2 w3 : World} {t B g cap : Nat} {cs : List Cel} {n p : Nat} {c cp : Cel} {ks : List Nat} {ka : Option Addr} {kcap g' cap' : Nat} (hE : InsP w2 t B g cap (cs.set n { c with parent := (p : Int), ahead := (ks.length : Int) }) (.slice ka ks.length kcap) ks n (.slice (some ⟨g', 0, none⟩) (ks.length + 1) cap') w3) (hK : Kept (fun k => k = g) w w2) (hp2 : (cs.set n { c with parent := (p : Int), ahead := (ks.length : Int) })[p]? = some cp) (hkv : cp.kids = .slice ka ks.length kcap) (hpl : p < cs.length) (F : Fn) (cap2 : Array Value) :
    PutP w t B g cap cs n p c cp ks (w3.setCell ⟨g, p * 10 + 9, none⟩ (.slice (some ⟨g', 0, none⟩) (ks.length + 1) cap')) ∧ Calls Try.prog 50 #[.pointer (some ⟨t, 0, none⟩), .int .i64 (p : Int), .int .i64 ((ks.length : Int) + 1), .func F #[] cap2] (w3.setCell ⟨g, p * 10 + 9, none⟩ (.slice (some ⟨g', 0, none⟩) (ks.length + 1) cap')) fun e w' => e = .returned (.tuple #[]) ∧ w' = w3.setCell ⟨g, p * 10 + 9, none⟩ (.slice (some ⟨g', 0, none⟩) (ks.length + 1) cap') := by
  have hT4 := hE.tree.set (i := p) (j := 9) (c := cp) (c' := { cp with kids := .slice (some ⟨g', 0, none⟩) (ks.length + 1) cap' }) (u := .slice (some ⟨g', 0, none⟩) (ks.length + 1) cap') hp2 (by omega) rfl
  have hgk : ∀ k, (Value.slice (some ⟨g', 0, none⟩) (ks.length + 1) cap').ownBlock = some k → k ≠ g := by
    intro k e hkg
    subst hkg
    rcases owns_apart hE.own hE.tree.own (by decide) with h | h
    · rw [h] at e; cases e
    · exact h e
  have hO4 := owns_kept (out := fun k => k = g) hE.own ((Kept.refl (fun k => k = g) w3).store ⟨g, p * 10 + 9, none⟩ rfl (.slice (some ⟨g', 0, none⟩) (ks.length + 1) cap')) hgk
  refine ⟨⟨⟨_, hT4, hO4, ?_⟩, ?_⟩, ?_⟩
  · rw [hkv]
    rcases hE.lies with h | h
    · exact .inl h
    · exact .inr fun k e => Nat.le_trans hK.size (h k e)
  · rw [hkv]
    exact ((hK.mono (out' := fun k => k = g ∨ (Value.slice ka ks.length kcap).ownBlock = some k) (fun k _ e => .inl e)).trans (hE.kept.mono (fun k _ e => .inr e))).store ⟨g, p * 10 + 9, none⟩ (.inl rfl) _
  · have h := eachKid_none t B g cap _ p { cp with kids := .slice (some ⟨g', 0, none⟩) (ks.length + 1) cap' } g' (ks.length + 1) cap' (.func F #[] cap2) _ hT4 (by rw [List.getElem?_set_self (by rw [List.length_set]; exact hpl)]) rfl (by
      have := owns_room (n := ks.length + 1) (by have h := hE.own; rw [List.length_append] at h; exact h)
      exact this)
    have e : ((ks.length + 1 : Nat) : Int) = (ks.length : Int) + 1 := by simp
    rw [e] at h
    exact h

set_option linter.unusedSimpArgs false in
set_option maxRecDepth 100000 in
set_option maxHeartbeats 4000000 in
theorem insert_end (t B g cap : Nat) (cs : List Cel) (n p : Nat) (c cp : Cel) (ks : List Nat) (w : World) (hT : TreeAt w t B g cap cs) (hn : cs[n]? = some c) (hp : cs[p]? = some cp) (hne : n ≠ p) (hO : w.ownsRow B 3 1 cp.kids ks.length (intC ks)) (hks : ks.length ≤ 1000000) :
    Calls Try.prog 68 #[.pointer (some ⟨t, 0, none⟩), .int .i64 (n : Int), .int .i64 (p : Int), .int .i64 (ks.length : Int)] w fun e w' => e = .returned (.tuple #[]) ∧ PutP w t B g cap cs n p c cp ks w' := by
  have hnl := (List.getElem?_eq_some_iff.1 hn).1
  have hpl := (List.getElem?_eq_some_iff.1 hp).1
  have hB1 : ∀ o, Below w.heap.size w (w.alloc o) := fun o => (Below.refl _ _).alloc (Nat.le_refl _) o
  have hnI : (n : Int) < (cs.length : Int) := by omega
  have hpI : (p : Int) < (cs.length : Int) := by omega
  have HT : Hid _ := hT
  have HB1 : Hid _ := hB1
  have HO : Hid _ := hO
  clear hT hB1 hO
  go_enter Try.func68, Try.ntmps68
  go_upto_region 1 with fail
  have hT1 := HT.out.below (HB1.out (.cells #[.pointer (some ⟨t, 0, none⟩)] 25))
  have cb : (w.alloc (.cells #[.pointer (some ⟨t, 0, none⟩)] 25)).cell? ⟨w.heap.size, 0, none⟩ = some (.pointer (some ⟨t, 0, none⟩)) := World.cell?_alloc_at _ _ _ 0 rfl
  have c0 := hT1.c0
  have cp7 : (w.alloc (.cells #[.pointer (some ⟨t, 0, none⟩)] 25)).cell? ⟨g, n * 10 + 7, none⟩ = some (.int .i64 c.parent) := hT1.at hn rfl
  have cp8 : (w.alloc (.cells #[.pointer (some ⟨t, 0, none⟩)] 25)).cell? ⟨g, n * 10 + 8, none⟩ = some (.int .i64 c.ahead) := hT1.at hn rfl
  have f7 := hT1.fz (n * 10 + 7)
  have f8 := hT1.fz (n * 10 + 8)
  have hg := hT1.gB
  have HT1 : Hid _ := hT1
  have HBL : Hid _ := HB1.out (.cells #[.pointer (some ⟨t, 0, none⟩)] 25)
  have hge : g ≠ w.heap.size := by have := HT.out.gB; omega
  have hte : t ≠ g := HT.out.ne
  clear hT1 HB1
  generalize w.alloc (.cells #[.pointer (some ⟨t, 0, none⟩)] 25) = w1 at *
  go_region
  have hT2 : TreeAt ((w1.setCell ⟨g, n * 10 + 7, none⟩ (.int .i64 (p : Int))).setCell ⟨g, n * 10 + 8, none⟩ (.int .i64 (ks.length : Int))).drew t B g cap (cs.set n { c with parent := (p : Int), ahead := (ks.length : Int) }) := by
    have h1 := HT1.out.set (j := 7) (c' := { c with parent := (p : Int) }) (u := .int .i64 (p : Int)) hn (by omega) rfl
    have h2 := h1.set (i := n) (j := 8) (c := { c with parent := (p : Int) }) (c' := { c with parent := (p : Int), ahead := (ks.length : Int) }) (u := .int .i64 (ks.length : Int)) (by simp [hnl]) (by omega) rfl
    rw [List.set_set] at h2
    exact h2.drew
  have cb2 : ((w1.setCell ⟨g, n * 10 + 7, none⟩ (.int .i64 (p : Int))).setCell ⟨g, n * 10 + 8, none⟩ (.int .i64 (ks.length : Int))).drew.cell? ⟨w.heap.size, 0, none⟩ = some (.pointer (some ⟨t, 0, none⟩)) := by
    rw [World.cell?_drew, World.cell?_setCell_other _ _ _ _ (by intro e; injection e with e _ _; exact hge e), World.cell?_setCell_other _ _ _ _ (by intro e; injection e with e _ _; exact hge e)]
    exact cb
  have hk2 : Kept (fun k => k = g) w ((w1.setCell ⟨g, n * 10 + 7, none⟩ (.int .i64 (p : Int))).setCell ⟨g, n * 10 + 8, none⟩ (.int .i64 (ks.length : Int))).drew :=
    (((Kept.below (out := fun k => k = g) HBL.out).store ⟨g, n * 10 + 7, none⟩ rfl _).store ⟨g, n * 10 + 8, none⟩ rfl _).draws 1
  have hbl2 : w.heap.size < ((w1.setCell ⟨g, n * 10 + 7, none⟩ (.int .i64 (p : Int))).setCell ⟨g, n * 10 + 8, none⟩ (.int .i64 (ks.length : Int))).drew.heap.size := World.block_lt_of_cell? _ _ cb2
  clear cb c0 cp7 cp8 f7 f8
  generalize ((w1.setCell ⟨g, n * 10 + 7, none⟩ (.int .i64 (p : Int))).setCell ⟨g, n * 10 + 8, none⟩ (.int .i64 (ks.length : Int))).drew = w2 at *
  have hO2 : w2.ownsRow B 3 1 cp.kids ks.length (intC ks) := owns_kept HO.out hk2 (by
    intro k e hkg
    subst hkg
    rcases owns_apart HO.out HT.out.own (by decide) with h | h
    · rw [h] at e; cases e
    · exact h e)
  have hp2 : (cs.set n { c with parent := (p : Int), ahead := (ks.length : Int) })[p]? = some cp := by rw [List.getElem?_set_ne hne]; exact hp
  have c0 := hT2.c0
  rw [List.length_set] at c0
  have c9 : w2.cell? ⟨g, p * 10 + 9, none⟩ = some cp.kids := hT2.at hp2 rfl
  have f9 := hT2.fz (p * 10 + 9)
  have hoff : cp.kids.ownBlock ≠ some w.heap.size := by
    intro e
    have := (owns_lt HO.out _ e).2
    omega
  have HI : Hid (∀ wx b, Below w2.heap.size w2 wx → wx.cell? ⟨b, 0, none⟩ = some (.int .i64 (n : Int)) → Calls Try.prog 91 #[cp.kids, .int .i64 (ks.length : Int), .slice (some ⟨b, 0, none⟩) 1 1] wx fun e w' => ∃ g' cap', e = .returned (.slice (some ⟨g', 0, none⟩) (ks.length + 1) cap') ∧ w'.cell? ⟨w.heap.size, 0, none⟩ = some (.pointer (some ⟨t, 0, none⟩)) ∧ w'.cell? ⟨t, 0, none⟩ = some (.slice (some ⟨g, 0, none⟩) cs.length cap) ∧ w'.cell? ⟨g, p * 10 + 9, none⟩ = some cp.kids ∧ w'.frozen? ⟨g, p * 10 + 9, none⟩ = false ∧ Hid (InsP w2 t B g cap (cs.set n { c with parent := (p : Int), ahead := (ks.length : Int) }) cp.kids ks n (.slice (some ⟨g', 0, none⟩) (ks.length + 1) cap') w')) := by
    intro wx b hb hc
    refine (ins_end B b n cp.kids ks wx (owns_kept (out := fun _ => False) hO2 (Kept.below hb) (fun _ _ e => e)) hc (Nat.le_trans hT2.le hb.size) hks).mono ?_
    rintro e w' ⟨g', cap', rfl, hK⟩
    have hI := insP_of hT2 hO2 hb hK.out
    have d0 := hI.tree.c0
    rw [List.length_set] at d0
    exact ⟨g', cap', rfl, (hI.kept.cell ⟨w.heap.size, 0, none⟩ hbl2 hoff).trans cb2, d0, hI.tree.at hp2 rfl, hI.tree.fz _, hI⟩
  have HK2 : Hid _ := hk2
  have HP2 : Hid _ := hp2
  have HBB : Hid (∀ o, Below w2.heap.size w2 (w2.alloc o)) := fun o => (Below.refl _ _).alloc (Nat.le_refl _) o
  have HF : Hid (∃ a c, cp.kids = .slice a ks.length c) := by
    rcases hO2.2 with ⟨h1, h2⟩ | ⟨g1, c1, _, h1, _⟩
    · exact ⟨none, 0, by rw [h1, h2]⟩
    · exact ⟨_, c1, h1⟩
  clear hT2 hO2 hk2 hp2 HBL HT1 HT HO
  obtain ⟨ka, kcap, hkv⟩ := HF.out
  have d0 : ∀ o, (w2.alloc o).cell? ⟨t, 0, none⟩ = some (.slice (some ⟨g, 0, none⟩) cs.length cap) := fun o => ((HBB.out o).cell (p := ⟨t, 0, none⟩) (World.block_lt_of_cell? _ _ c0)).trans c0
  have d9 : ∀ o, (w2.alloc o).cell? ⟨g, p * 10 + 9, none⟩ = some (.slice ka ks.length kcap) := fun o => ((HBB.out o).cell (p := ⟨g, p * 10 + 9, none⟩) (World.block_lt_of_cell? _ _ c9)).trans (by rw [← hkv]; exact c9)
  have db : ∀ o, (w2.alloc o).cell? ⟨w.heap.size, 0, none⟩ = some (.pointer (some ⟨t, 0, none⟩)) := fun o => ((HBB.out o).cell (p := ⟨w.heap.size, 0, none⟩) hbl2).trans cb2
  rw [hkv] at c9 HI hoff
  go_upto_region 2 with fail
  refine wp_region_held_drew (S := fun w' => w'.cell? ⟨w.heap.size, 0, none⟩ = some (.pointer (some ⟨t, 0, none⟩)) ∧ w'.cell? ⟨t, 0, none⟩ = some (.slice (some ⟨g, 0, none⟩) cs.length cap)) (by kernel_rfl) ⟨cb2, c0⟩ (fun hHeld => ?_)
  refine wpAnyH_take (i := 0) (oi := { dst := some 24, op := Op.load 25 (Operand.tmp 4), type := 25, pos := "move.go:105", after := #[], guard := none }) (v := ?_) rfl (by kernel_rfl) (by kernel_rfl) (by kernel_rfl) (fun _ _ _ h => h) (Or.inl ⟨by rfl, ?_⟩) (by assumption) ?_
  rotate_left
  · (intro w hSw; (try dsimp only at hSw); go_simp)
    all_goals with_reducible rfl
  try simp only [Act.put, List.setIfInBounds_toArray, List.set_cons_zero, List.set_cons_succ]
  refine wpAnyH_take (i := 1) (oi := { dst := some 25, op := Op.nilCheck (Operand.tmp 24), type := 0, pos := "move.go:105", after := #[{ on := 0, ground := Ground.data }], guard := none }) (v := ?_) rfl (by kernel_rfl) (by kernel_rfl) (by kernel_rfl) (fun _ _ _ h => h) (Or.inl ⟨by rfl, ?_⟩) (by assumption) ?_
  rotate_left
  · (intro w hSw; (try dsimp only at hSw); go_simp)
    all_goals with_reducible rfl
  try simp only [Act.put, List.setIfInBounds_toArray, List.set_cons_zero, List.set_cons_succ]
  refine wpAnyH_take (i := 2) (oi := { dst := some 26, op := Op.fieldAddr 104 (Operand.tmp 25) 0, type := 0, pos := "move.go:105", after := #[{ on := 1, ground := Ground.data }], guard := none }) (v := ?_) rfl (by kernel_rfl) (by kernel_rfl) (by kernel_rfl) (fun _ _ _ h => h) (Or.inl ⟨by rfl, ?_⟩) (by assumption) ?_
  rotate_left
  · (intro w hSw; (try dsimp only at hSw); go_simp)
    all_goals with_reducible rfl
  try simp only [Act.put, List.setIfInBounds_toArray, List.set_cons_zero, List.set_cons_succ]
  refine wpAnyH_take (i := 3) (oi := { dst := some 27, op := Op.load 102 (Operand.tmp 26), type := 102, pos := "move.go:105", after := #[{ on := 2, ground := Ground.data }], guard := none }) (v := ?_) rfl (by kernel_rfl) (by kernel_rfl) (by kernel_rfl) (fun _ _ _ h => h) (Or.inl ⟨by rfl, ?_⟩) (by assumption) ?_
  rotate_left
  · (intro w hSw; (try dsimp only at hSw); go_simp)
    all_goals with_reducible rfl
  try simp only [Act.put, List.setIfInBounds_toArray, List.set_cons_zero, List.set_cons_succ]
  refine wpAnyH_take (i := 4) (oi := { dst := some 28, op := Op.move (Operand.tmp 2), type := 3, pos := "move.go:105", after := #[], guard := none }) (v := ?_) rfl (by kernel_rfl) (by kernel_rfl) (by kernel_rfl) (fun _ _ _ h => h) (Or.inl ⟨by rfl, ?_⟩) (by assumption) ?_
  rotate_left
  · (intro w hSw; (try dsimp only at hSw); go_simp)
    all_goals with_reducible rfl
  try simp only [Act.put, List.setIfInBounds_toArray, List.set_cons_zero, List.set_cons_succ]
  refine wpAnyH_take (i := 5) (oi := { dst := some 29, op := Op.load 25 (Operand.tmp 4), type := 25, pos := "move.go:105", after := #[], guard := none }) (v := ?_) rfl (by kernel_rfl) (by kernel_rfl) (by kernel_rfl) (fun _ _ _ h => h) (Or.inl ⟨by rfl, ?_⟩) (by assumption) ?_
  rotate_left
  · (intro w hSw; (try dsimp only at hSw); go_simp)
    all_goals with_reducible rfl
  try simp only [Act.put, List.setIfInBounds_toArray, List.set_cons_zero, List.set_cons_succ]
  refine wpAnyH_take (i := 6) (oi := { dst := some 30, op := Op.nilCheck (Operand.tmp 29), type := 0, pos := "move.go:105", after := #[{ on := 5, ground := Ground.data }], guard := none }) (v := ?_) rfl (by kernel_rfl) (by kernel_rfl) (by kernel_rfl) (fun _ _ _ h => h) (Or.inl ⟨by rfl, ?_⟩) (by assumption) ?_
  rotate_left
  · (intro w hSw; (try dsimp only at hSw); go_simp)
    all_goals with_reducible rfl
  try simp only [Act.put, List.setIfInBounds_toArray, List.set_cons_zero, List.set_cons_succ]
  refine wpAnyH_take (i := 7) (oi := { dst := some 31, op := Op.fieldAddr 104 (Operand.tmp 30) 0, type := 0, pos := "move.go:105", after := #[{ on := 6, ground := Ground.data }], guard := none }) (v := ?_) rfl (by kernel_rfl) (by kernel_rfl) (by kernel_rfl) (fun _ _ _ h => h) (Or.inl ⟨by rfl, ?_⟩) (by assumption) ?_
  rotate_left
  · (intro w hSw; (try dsimp only at hSw); go_simp)
    all_goals with_reducible rfl
  try simp only [Act.put, List.setIfInBounds_toArray, List.set_cons_zero, List.set_cons_succ]
  refine wpAnyH_take (i := 8) (oi := { dst := some 32, op := Op.load 102 (Operand.tmp 31), type := 102, pos := "move.go:105", after := #[{ on := 7, ground := Ground.data }], guard := none }) (v := ?_) rfl (by kernel_rfl) (by kernel_rfl) (by kernel_rfl) (fun _ _ _ h => h) (Or.inl ⟨by rfl, ?_⟩) (by assumption) ?_
  rotate_left
  · (intro w hSw; (try dsimp only at hSw); go_simp)
    all_goals with_reducible rfl
  try simp only [Act.put, List.setIfInBounds_toArray, List.set_cons_zero, List.set_cons_succ]
  refine wpAnyH_take (i := 9) (oi := { dst := some 33, op := Op.move (Operand.tmp 2), type := 3, pos := "move.go:105", after := #[], guard := none }) (v := ?_) rfl (by kernel_rfl) (by kernel_rfl) (by kernel_rfl) (fun _ _ _ h => h) (Or.inl ⟨by rfl, ?_⟩) (by assumption) ?_
  rotate_left
  · (intro w hSw; (try dsimp only at hSw); go_simp)
    all_goals with_reducible rfl
  try simp only [Act.put, List.setIfInBounds_toArray, List.set_cons_zero, List.set_cons_succ]
  refine wpAnyH_take (i := 10) (oi := { dst := some 34, op := Op.indexAddr 102 (Operand.tmp 32) (Operand.tmp 33), type := 0, pos := "move.go:105", after := #[{ on := 8, ground := Ground.data }, { on := 9, ground := Ground.data }], guard := none }) (v := ?_) rfl (by kernel_rfl) (by kernel_rfl) (by kernel_rfl) (fun _ _ _ h => h) (Or.inl ⟨by rfl, ?_⟩) (by assumption) ?_
  rotate_left
  · (intro w hSw; (try dsimp only at hSw); go_simp)
    all_goals with_reducible rfl
  try simp only [Act.put, List.setIfInBounds_toArray, List.set_cons_zero, List.set_cons_succ]
  refine wpAnyH_take (i := 11) (oi := { dst := some 35, op := Op.fieldAddr 101 (Operand.tmp 34) 5, type := 0, pos := "move.go:105", after := #[{ on := 10, ground := Ground.data }], guard := none }) (v := ?_) rfl (by kernel_rfl) (by kernel_rfl) (by kernel_rfl) (fun _ _ _ h => h) (Or.inl ⟨by rfl, ?_⟩) (by assumption) ?_
  rotate_left
  · (intro w hSw; (try dsimp only at hSw); go_simp)
    all_goals with_reducible rfl
  try simp only [Act.put, List.setIfInBounds_toArray, List.set_cons_zero, List.set_cons_succ]
  refine wpAnyH_take (i := 13) (oi := { dst := some 37, op := Op.move (Operand.tmp 3), type := 3, pos := "move.go:105", after := #[], guard := none }) (v := ?_) rfl (by kernel_rfl) (by kernel_rfl) (by kernel_rfl) (fun _ _ _ h => h) (Or.inl ⟨by rfl, ?_⟩) (by assumption) ?_
  rotate_left
  · (intro w hSw; (try dsimp only at hSw); go_simp)
    all_goals with_reducible rfl
  try simp only [Act.put, List.setIfInBounds_toArray, List.set_cons_zero, List.set_cons_succ]
  refine wpAnyH_take (i := 14) (oi := { dst := some 38, op := Op.move (Operand.tmp 1), type := 3, pos := "move.go:105", after := #[], guard := none }) (v := ?_) rfl (by kernel_rfl) (by kernel_rfl) (by kernel_rfl) (fun _ _ _ h => h) (Or.inl ⟨by rfl, ?_⟩) (by assumption) ?_
  rotate_left
  · (intro w hSw; (try dsimp only at hSw); go_simp)
    all_goals with_reducible rfl
  try simp only [Act.put, List.setIfInBounds_toArray, List.set_cons_zero, List.set_cons_succ]
  refine wpAnyH_ready (rs := [12, 15]) (by kernel_rfl) (by simp) ?_
  refine AllReadyH.cons (o := { dst := some 36, op := Op.load 30 (Operand.tmp 35), type := 30, pos := "move.go:105", after := #[{ on := 11, ground := Ground.data }], guard := none }) rfl (fun K hK => ?_) ?_
  · go_simp
    refine hK.out _ _ hHeld (fun hHeld => ?_)
    clear hK K
    try simp only [Act.put, List.setIfInBounds_toArray, List.set_cons_zero, List.set_cons_succ]
    refine wpAnyH_ready (rs := [15]) (by kernel_rfl) (by simp) ?_
    refine AllReadyH.cons (o := { dst := some 39, op := Op.buildSlice 30 1 #[(0, Operand.tmp 38)], type := 30, pos := "move.go:105", after := #[{ on := 14, ground := Ground.data }], guard := none }) rfl (fun K hK => ?_) AllReadyH.nil
    go_simp
    refine hK.out _ _ ⟨db _, d0 _⟩ (fun hHeld => ?_)
    clear hK K
    try simp only [Act.put, List.setIfInBounds_toArray, List.set_cons_zero, List.set_cons_succ]
    refine wpAnyH_ready (rs := [16]) (by kernel_rfl) (by simp) ?_
    refine AllReadyH.cons (o := { dst := some 40, op := Op.call { callee := Callee.value (Operand.func 91), args := #[Operand.tmp 36, Operand.tmp 37, Operand.tmp 39], argTypes := #[30, 3, 30] }, type := 30, pos := "move.go:105", after := #[{ on := 12, ground := Ground.data }, { on := 13, ground := Ground.data }, { on := 15, ground := Ground.data }], guard := none }) rfl (fun K hK => ?_) AllReadyH.nil
    go_simp
    refine Calls.mono (HI.out _ _ ((Below.refl _ _).drew.alloc (Nat.le_refl _) _) (World.cell?_alloc_at _ _ _ 0 rfl)) ?_
    rintro e w3 ⟨g', cap', rfl, e1, e2, e3, e4, hE⟩
    dsimp only
    refine hK.out _ _ ⟨e1, e2⟩ (fun hHeld => ?_)
    clear hK K
    try simp only [Act.put, List.setIfInBounds_toArray, List.set_cons_zero, List.set_cons_succ]
    refine wpAnyH_take (i := 17) (oi := { dst := some 41, op := Op.indexAddr 102 (Operand.tmp 27) (Operand.tmp 28), type := 0, pos := "move.go:105", after := #[{ on := 3, ground := Ground.data }, { on := 4, ground := Ground.data }, { on := 0, ground := Ground.phase }, { on := 1, ground := Ground.phase }, { on := 2, ground := Ground.phase }, { on := 3, ground := Ground.phase }, { on := 4, ground := Ground.phase }, { on := 5, ground := Ground.phase }, { on := 6, ground := Ground.phase }, { on := 7, ground := Ground.phase }, { on := 8, ground := Ground.phase }, { on := 9, ground := Ground.phase }, { on := 10, ground := Ground.phase }, { on := 11, ground := Ground.phase }, { on := 12, ground := Ground.phase }, { on := 13, ground := Ground.phase }, { on := 14, ground := Ground.phase }, { on := 15, ground := Ground.phase }, { on := 16, ground := Ground.phase }], guard := none }) (v := ?_) rfl (by kernel_rfl) (by kernel_rfl) (by kernel_rfl) (fun _ _ _ h => h) (Or.inl ⟨by rfl, ?_⟩) (by assumption) ?_
    rotate_left
    · (intro w hSw; (try dsimp only at hSw); go_simp)
      all_goals with_reducible rfl
    try simp only [Act.put, List.setIfInBounds_toArray, List.set_cons_zero, List.set_cons_succ]
    refine wpAnyH_take (i := 18) (oi := { dst := some 42, op := Op.fieldAddr 101 (Operand.tmp 41) 5, type := 0, pos := "move.go:105", after := #[{ on := 17, ground := Ground.data }, { on := 0, ground := Ground.phase }, { on := 1, ground := Ground.phase }, { on := 2, ground := Ground.phase }, { on := 3, ground := Ground.phase }, { on := 4, ground := Ground.phase }, { on := 5, ground := Ground.phase }, { on := 6, ground := Ground.phase }, { on := 7, ground := Ground.phase }, { on := 8, ground := Ground.phase }, { on := 9, ground := Ground.phase }, { on := 10, ground := Ground.phase }, { on := 11, ground := Ground.phase }, { on := 12, ground := Ground.phase }, { on := 13, ground := Ground.phase }, { on := 14, ground := Ground.phase }, { on := 15, ground := Ground.phase }, { on := 16, ground := Ground.phase }], guard := none }) (v := ?_) rfl (by kernel_rfl) (by kernel_rfl) (by kernel_rfl) (fun _ _ _ h => h) (Or.inl ⟨by rfl, ?_⟩) (by assumption) ?_
    rotate_left
    · (intro w hSw; (try dsimp only at hSw); go_simp)
      all_goals with_reducible rfl
    try simp only [Act.put, List.setIfInBounds_toArray, List.set_cons_zero, List.set_cons_succ]
    refine wpAnyH_ready (rs := [19]) (by kernel_rfl) (by simp) ?_
    refine AllReadyH.cons (o := { dst := none, op := Op.store 30 (Operand.tmp 42) (Operand.tmp 40), type := 0, pos := "move.go:105", after := #[{ on := 18, ground := Ground.data }, { on := 16, ground := Ground.data }, { on := 16, ground := Ground.chain }, { on := 0, ground := Ground.phase }, { on := 1, ground := Ground.phase }, { on := 2, ground := Ground.phase }, { on := 3, ground := Ground.phase }, { on := 4, ground := Ground.phase }, { on := 5, ground := Ground.phase }, { on := 6, ground := Ground.phase }, { on := 7, ground := Ground.phase }, { on := 8, ground := Ground.phase }, { on := 9, ground := Ground.phase }, { on := 10, ground := Ground.phase }, { on := 11, ground := Ground.phase }, { on := 12, ground := Ground.phase }, { on := 13, ground := Ground.phase }, { on := 14, ground := Ground.phase }, { on := 15, ground := Ground.phase }, { on := 16, ground := Ground.phase }], guard := none }) rfl (fun K hK => ?_) AllReadyH.nil
    go_simp
    refine hK.out _ _ ⟨by rw [World.cell?_setCell_other _ _ _ _ (by intro e; injection e with e _ _; exact hge e)]; exact e1, by rw [World.cell?_setCell_other _ _ _ _ (by intro e; injection e with e _ _; exact hte e.symm)]; exact e2⟩ (fun _ => ?_)
    refine wpAnyH_done (by kernel_rfl) ?_ _
    have HFIN : Hid (PutP w t B g cap cs n p c cp ks (w3.setCell ⟨g, p * 10 + 9, none⟩ (.slice (some ⟨g', 0, none⟩) (ks.length + 1) cap')) ∧ Calls Try.prog 50 #[.pointer (some ⟨t, 0, none⟩), .int .i64 (p : Int), .int .i64 ((ks.length : Int) + 1), .func (.func 92) #[] #[.pointer (some ⟨w.heap.size, 0, none⟩)]] (w3.setCell ⟨g, p * 10 + 9, none⟩ (.slice (some ⟨g', 0, none⟩) (ks.length + 1) cap')) fun e w' => e = .returned (.tuple #[]) ∧ w' = w3.setCell ⟨g, p * 10 + 9, none⟩ (.slice (some ⟨g', 0, none⟩) (ks.length + 1) cap')) := fin_of hE.out HK2.out HP2.out hkv hpl _ _
    have b1 : (w3.setCell ⟨g, p * 10 + 9, none⟩ (.slice (some ⟨g', 0, none⟩) (ks.length + 1) cap')).cell? ⟨w.heap.size, 0, none⟩ = some (.pointer (some ⟨t, 0, none⟩)) := by rw [World.cell?_setCell_other _ _ _ _ (by intro e; injection e with e _ _; exact hge e)]; exact e1
    clear hK K hE HI e1 e2 e3 e4 d0 d9 db c0 c9 f9 cb2 hHeld
    go_wp2_with fail
    refine Calls.mono HFIN.out.2 ?_
    rintro e w5 ⟨rfl, hw5⟩
    subst hw5
    go_wp2
    go_end0
    exact ⟨rfl, HFIN.out.1⟩
  · refine AllReadyH.cons (o := { dst := some 39, op := Op.buildSlice 30 1 #[(0, Operand.tmp 38)], type := 30, pos := "move.go:105", after := #[{ on := 14, ground := Ground.data }], guard := none }) rfl (fun K hK => ?_) AllReadyH.nil
    go_simp
    refine hK.out _ _ ⟨db _, d0 _⟩ (fun hHeld => ?_)
    clear hK K
    try simp only [Act.put, List.setIfInBounds_toArray, List.set_cons_zero, List.set_cons_succ]
    refine wpAnyH_ready (rs := [12]) (by kernel_rfl) (by simp) ?_
    refine AllReadyH.cons (o := { dst := some 36, op := Op.load 30 (Operand.tmp 35), type := 30, pos := "move.go:105", after := #[{ on := 11, ground := Ground.data }], guard := none }) rfl (fun K hK => ?_) AllReadyH.nil
    go_simp
    refine hK.out _ _ ⟨db _, d0 _⟩ (fun hHeld => ?_)
    clear hK K
    try simp only [Act.put, List.setIfInBounds_toArray, List.set_cons_zero, List.set_cons_succ]
    refine wpAnyH_ready (rs := [16]) (by kernel_rfl) (by simp) ?_
    refine AllReadyH.cons (o := { dst := some 40, op := Op.call { callee := Callee.value (Operand.func 91), args := #[Operand.tmp 36, Operand.tmp 37, Operand.tmp 39], argTypes := #[30, 3, 30] }, type := 30, pos := "move.go:105", after := #[{ on := 12, ground := Ground.data }, { on := 13, ground := Ground.data }, { on := 15, ground := Ground.data }], guard := none }) rfl (fun K hK => ?_) AllReadyH.nil
    go_simp
    refine Calls.mono (HI.out _ _ ((Below.refl _ _).drew.alloc (Nat.le_refl _) _) (World.cell?_alloc_at _ _ _ 0 rfl)) ?_
    rintro e w3 ⟨g', cap', rfl, e1, e2, e3, e4, hE⟩
    dsimp only
    refine hK.out _ _ ⟨e1, e2⟩ (fun hHeld => ?_)
    clear hK K
    try simp only [Act.put, List.setIfInBounds_toArray, List.set_cons_zero, List.set_cons_succ]
    refine wpAnyH_take (i := 17) (oi := { dst := some 41, op := Op.indexAddr 102 (Operand.tmp 27) (Operand.tmp 28), type := 0, pos := "move.go:105", after := #[{ on := 3, ground := Ground.data }, { on := 4, ground := Ground.data }, { on := 0, ground := Ground.phase }, { on := 1, ground := Ground.phase }, { on := 2, ground := Ground.phase }, { on := 3, ground := Ground.phase }, { on := 4, ground := Ground.phase }, { on := 5, ground := Ground.phase }, { on := 6, ground := Ground.phase }, { on := 7, ground := Ground.phase }, { on := 8, ground := Ground.phase }, { on := 9, ground := Ground.phase }, { on := 10, ground := Ground.phase }, { on := 11, ground := Ground.phase }, { on := 12, ground := Ground.phase }, { on := 13, ground := Ground.phase }, { on := 14, ground := Ground.phase }, { on := 15, ground := Ground.phase }, { on := 16, ground := Ground.phase }], guard := none }) (v := ?_) rfl (by kernel_rfl) (by kernel_rfl) (by kernel_rfl) (fun _ _ _ h => h) (Or.inl ⟨by rfl, ?_⟩) (by assumption) ?_
    rotate_left
    · (intro w hSw; (try dsimp only at hSw); go_simp)
      all_goals with_reducible rfl
    try simp only [Act.put, List.setIfInBounds_toArray, List.set_cons_zero, List.set_cons_succ]
    refine wpAnyH_take (i := 18) (oi := { dst := some 42, op := Op.fieldAddr 101 (Operand.tmp 41) 5, type := 0, pos := "move.go:105", after := #[{ on := 17, ground := Ground.data }, { on := 0, ground := Ground.phase }, { on := 1, ground := Ground.phase }, { on := 2, ground := Ground.phase }, { on := 3, ground := Ground.phase }, { on := 4, ground := Ground.phase }, { on := 5, ground := Ground.phase }, { on := 6, ground := Ground.phase }, { on := 7, ground := Ground.phase }, { on := 8, ground := Ground.phase }, { on := 9, ground := Ground.phase }, { on := 10, ground := Ground.phase }, { on := 11, ground := Ground.phase }, { on := 12, ground := Ground.phase }, { on := 13, ground := Ground.phase }, { on := 14, ground := Ground.phase }, { on := 15, ground := Ground.phase }, { on := 16, ground := Ground.phase }], guard := none }) (v := ?_) rfl (by kernel_rfl) (by kernel_rfl) (by kernel_rfl) (fun _ _ _ h => h) (Or.inl ⟨by rfl, ?_⟩) (by assumption) ?_
    rotate_left
    · (intro w hSw; (try dsimp only at hSw); go_simp)
      all_goals with_reducible rfl
    try simp only [Act.put, List.setIfInBounds_toArray, List.set_cons_zero, List.set_cons_succ]
    refine wpAnyH_ready (rs := [19]) (by kernel_rfl) (by simp) ?_
    refine AllReadyH.cons (o := { dst := none, op := Op.store 30 (Operand.tmp 42) (Operand.tmp 40), type := 0, pos := "move.go:105", after := #[{ on := 18, ground := Ground.data }, { on := 16, ground := Ground.data }, { on := 16, ground := Ground.chain }, { on := 0, ground := Ground.phase }, { on := 1, ground := Ground.phase }, { on := 2, ground := Ground.phase }, { on := 3, ground := Ground.phase }, { on := 4, ground := Ground.phase }, { on := 5, ground := Ground.phase }, { on := 6, ground := Ground.phase }, { on := 7, ground := Ground.phase }, { on := 8, ground := Ground.phase }, { on := 9, ground := Ground.phase }, { on := 10, ground := Ground.phase }, { on := 11, ground := Ground.phase }, { on := 12, ground := Ground.phase }, { on := 13, ground := Ground.phase }, { on := 14, ground := Ground.phase }, { on := 15, ground := Ground.phase }, { on := 16, ground := Ground.phase }], guard := none }) rfl (fun K hK => ?_) AllReadyH.nil
    go_simp
    refine hK.out _ _ ⟨by rw [World.cell?_setCell_other _ _ _ _ (by intro e; injection e with e _ _; exact hge e)]; exact e1, by rw [World.cell?_setCell_other _ _ _ _ (by intro e; injection e with e _ _; exact hte e.symm)]; exact e2⟩ (fun _ => ?_)
    refine wpAnyH_done (by kernel_rfl) ?_ _
    have HFIN : Hid (PutP w t B g cap cs n p c cp ks (w3.setCell ⟨g, p * 10 + 9, none⟩ (.slice (some ⟨g', 0, none⟩) (ks.length + 1) cap')) ∧ Calls Try.prog 50 #[.pointer (some ⟨t, 0, none⟩), .int .i64 (p : Int), .int .i64 ((ks.length : Int) + 1), .func (.func 92) #[] #[.pointer (some ⟨w.heap.size, 0, none⟩)]] (w3.setCell ⟨g, p * 10 + 9, none⟩ (.slice (some ⟨g', 0, none⟩) (ks.length + 1) cap')) fun e w' => e = .returned (.tuple #[]) ∧ w' = w3.setCell ⟨g, p * 10 + 9, none⟩ (.slice (some ⟨g', 0, none⟩) (ks.length + 1) cap')) := fin_of hE.out HK2.out HP2.out hkv hpl _ _
    have b1 : (w3.setCell ⟨g, p * 10 + 9, none⟩ (.slice (some ⟨g', 0, none⟩) (ks.length + 1) cap')).cell? ⟨w.heap.size, 0, none⟩ = some (.pointer (some ⟨t, 0, none⟩)) := by rw [World.cell?_setCell_other _ _ _ _ (by intro e; injection e with e _ _; exact hge e)]; exact e1
    clear hK K hE HI e1 e2 e3 e4 d0 d9 db c0 c9 f9 cb2 hHeld
    go_wp2_with fail
    refine Calls.mono HFIN.out.2 ?_
    rintro e w5 ⟨rfl, hw5⟩
    subst hw5
    go_wp2
    go_end0
    exact ⟨rfl, HFIN.out.1⟩
end Go.Proofs.Ytjbfgiicaaljjaa
