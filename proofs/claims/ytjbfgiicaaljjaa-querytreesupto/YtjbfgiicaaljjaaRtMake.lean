/-
  The reference's Put and Make.
-/
import Derived.Test.YtjbfgiicaaljjaaRtLay
import Derived.Deep.AppendLies
namespace Go.Proofs.Ytjbfgiicaaljjaa
open Go.RowKit

set_option maxRecDepth 100000 in
set_option maxHeartbeats 4000000 in
theorem rPut_end (t B g cap : Nat) (cs : List RCel) (n p : Nat) (c cp : RCel) (ks : List Nat) (w : World) (hT : RTreeAt w t B g cap cs) (hn : cs[n]? = some c) (hp : cs[p]? = some cp) (hpn : p < n) (hU : UpOk cs) (hc : c.parent = -1) (hk : (cp.kind == 0 || cp.kind == 2) = true) (hO : w.ownsRow B 3 1 cp.kids ks.length (intC ks)) (hb : ks = [] → cp.kids = .slice none 0 0) (hl : ks.length ≤ 1000000) :
    Calls Try.prog 35 #[.pointer (some ⟨t, 0, none⟩), .int .i64 (n : Int), .int .i64 (p : Int), .int .i64 (-1)] w fun e w' => e = .returned (.bool true) ∧ Hid (RLayP w t B g cap cs n p c cp ks w') := by
  have hnl := (List.getElem?_eq_some_iff.1 hn).1
  have H1 := rIs_any t B g cap cs n w hT
  rw [show (decide (0 ≤ (n : Int)) && decide ((n : Int) < (cs.length : Int))) = true by simp; exact hnl] at H1
  have H2 := rMay_end t B g cap cs p cp w hT hp
  rw [hk] at H2
  have HH1 : Hid _ := H1
  have HH2 : Hid _ := H2
  have HH3 : Hid _ := rUnder_not t B g cap cs p n w hT hU (by omega) hpn
  have HH4 : Hid _ := rCut_none t B g cap cs n c w hT hn hc
  have HH5 : Hid _ := rLay_end t B g cap cs n p c cp ks w hT hn hp (by omega) hO hb hl
  have b0 : ((n : Int) == 0) = false := by rw [beq_eq_false_iff_ne]; omega
  have b1 : ((-1 : Int) == (n : Int)) = false := by rw [beq_eq_false_iff_ne]; omega
  clear hT hn hp hU hc hk hO hb hl hnl H1 H2
  go_enter Try.func35, Try.ntmps35
  go_wp2_with fail
  refine Calls.mono HH1.out ?_
  rintro e w1 ⟨rfl, hw1⟩
  subst hw1
  go_wp2_with fail
  refine Calls.mono HH2.out ?_
  rintro e w2 ⟨rfl, hw2⟩
  subst hw2
  go_wp2_with fail
  refine Calls.mono HH3.out ?_
  rintro e w3 ⟨rfl, hw3⟩
  subst hw3
  go_wp2_with fail
  refine Calls.mono HH4.out ?_
  rintro e w4 ⟨rfl, hw4⟩
  subst hw4
  go_wp2_with fail
  refine Calls.mono HH5.out ?_
  rintro e w5 ⟨rfl, h5⟩
  have HF : Hid _ := h5
  clear h5 HH1 HH2 HH3 HH4 HH5
  go_wp2
  go_ret
  exact ⟨rfl, HF.out⟩

set_option maxRecDepth 100000 in
set_option maxHeartbeats 4000000 in
theorem rPut_not (t B g cap : Nat) (cs : List RCel) (n p : Nat) (cp : RCel) (w : World) (hT : RTreeAt w t B g cap cs) (hn : n < cs.length) (hn0 : 0 < n) (hp : cs[p]? = some cp) (hk : (cp.kind == 0 || cp.kind == 2) = false) :
    Calls Try.prog 35 #[.pointer (some ⟨t, 0, none⟩), .int .i64 (n : Int), .int .i64 (p : Int), .int .i64 (-1)] w fun e w' => e = .returned (.bool false) ∧ w' = w := by
  have H1 := rIs_any t B g cap cs n w hT
  rw [show (decide (0 ≤ (n : Int)) && decide ((n : Int) < (cs.length : Int))) = true by simp; exact hn] at H1
  have H2 := rMay_end t B g cap cs p cp w hT hp
  rw [hk] at H2
  have HH1 : Hid _ := H1
  have HH2 : Hid _ := H2
  have b0 : ((n : Int) == 0) = false := by rw [beq_eq_false_iff_ne]; omega
  clear hT hn hn0 hp hk H1 H2
  go_enter Try.func35, Try.ntmps35
  go_wp2_with fail
  refine Calls.mono HH1.out ?_
  rintro e w1 ⟨rfl, hw1⟩
  subst hw1
  go_wp2_with fail
  refine Calls.mono HH2.out ?_
  rintro e w2 ⟨rfl, hw2⟩
  subst hw2
  go_wp2
  go_ret
  exact ⟨rfl, rfl⟩

theorem Try.infoRNode : (Try.prog.info? 80).map (fun i => (i.zero, i.size, i.bytes)) = some (some (.agg #[.int .i64 0, .int .i64 0, .string ⟨#[]⟩, .string ⟨#[]⟩, .slice none 0 0, .int .i64 0, .slice none 0 0]), 7, 104) := by kernel_rfl

structure RMakeP (w : World) (t B g : Nat) (cs : List RCel) (c : RCel) (w' : World) : Prop where
  tree : ∃ g' cap', RTreeAt w' t B g' cap' (cs ++ [c]) ∧ (g' = g ∨ w.heap.size ≤ g')
  kept : Kept (fun k => k = t ∨ k = g) w w'

theorem rmake_fin {w w2 w3 : World} {t B g cap g3 cap3 : Nat} {cs : List RCel} {c : RCel} (hT : RTreeAt w t B g cap cs) (hb : Below w.heap.size w w2) (hown3 : w3.ownsRow B 80 7 (.slice (some ⟨g3, 0, none⟩) (cs.length + 1) cap3) (cs.length + 1) (cs.flatMap rcC ++ rcC c)) (hgrow : w2.grownBy w3 (Value.slice (some ⟨g, 0, none⟩) cs.length cap).ownBlock) (hat : (Value.slice (some ⟨g, 0, none⟩) cs.length cap).ownBlock = some g3 ∨ g3 = w2.heap.size) (hfew : cs.length + 1 ≤ 1000000) :
    w3.cell? ⟨t, 0, none⟩ = some (.slice (some ⟨g, 0, none⟩) cs.length cap) ∧ w3.frozen? ⟨t, 0, none⟩ = false ∧ RMakeP w t B g cs c (w3.setCell ⟨t, 0, none⟩ (.slice (some ⟨g3, 0, none⟩) (cs.length + 1) cap3)) := by
  have hs := hb.size
  have hgt := hT.tlt
  have hk3 : Kept (fun k => k = t ∨ k = g) w w3 := (Kept.below hb).trans (Kept.grown hgrow (fun k e => by simp only [Value.ownBlock, Option.some.injEq] at e; exact .inr e.symm))
  have ht3 : w3.heap[t]? = some (.cells #[.slice (some ⟨g, 0, none⟩) cs.length cap] 35 (0, 0)) := by
    have h1 := hgrow.block t (by omega) (by intro e; simp only [Value.ownBlock, Option.some.injEq] at e; exact hT.ne e)
    rw [h1, hb.block t hgt]
    exact hT.blk
  simp only [Value.ownBlock, Option.some.injEq] at hat
  have htg : t ≠ g3 := by
    rcases hat with e | e
    · exact fun e2 => hT.ne (e2.trans e.symm)
    · omega
  have hl : (cs ++ [c]).length = cs.length + 1 := by simp
  refine ⟨by simp [World.cell?, ht3], by simp [World.frozen?, ht3], ⟨g3, cap3, ⟨?_, ?_, hT.tB, by rw [hl]; exact hfew⟩, ?_⟩, hk3.store ⟨t, 0, none⟩ (.inl rfl) _⟩
  · rw [hl]
    have hlt := (Array.getElem?_eq_some_iff.1 ht3).1
    simp only [World.setCell, Array.getElem?_modify, ht3]
    simp
  · rw [hl]
    have h := owns_kept (out := fun k => k = t) hown3 ((Kept.refl (fun k => k = t) w3).store ⟨t, 0, none⟩ rfl (.slice (some ⟨g3, 0, none⟩) (cs.length + 1) cap3)) (by intro k e hk; simp only [Value.ownBlock, Option.some.injEq] at e; subst e; exact htg hk.symm)
    rw [show (cs ++ [c]).flatMap rcC = cs.flatMap rcC ++ rcC c by simp]
    exact h
  · rcases hat with h | h
    · exact .inl h.symm
    · exact .inr (by omega)

theorem news7 (w : World) (t : TypeId) (a b c d e f g : Value) : ∀ j u, ([a, b, c, d, e, f, g] : List Value)[j]? = some u → (w.alloc (.cells #[a, b, c, d, e, f, g] t)).drew.cell? ((⟨w.heap.size, 0, none⟩ : Addr).add j) = some u := by
  intro j u h
  match j, h with
  | 0, h => simp at h; subst h; exact World.cell?_alloc_at (w := w) _ _ _ 0 rfl
  | 1, h => simp at h; subst h; exact World.cell?_alloc_at (w := w) _ _ _ 1 rfl
  | 2, h => simp at h; subst h; exact World.cell?_alloc_at (w := w) _ _ _ 2 rfl
  | 3, h => simp at h; subst h; exact World.cell?_alloc_at (w := w) _ _ _ 3 rfl
  | 4, h => simp at h; subst h; exact World.cell?_alloc_at (w := w) _ _ _ 4 rfl
  | 5, h => simp at h; subst h; exact World.cell?_alloc_at (w := w) _ _ _ 5 rfl
  | 6, h => simp at h; subst h; exact World.cell?_alloc_at (w := w) _ _ _ 6 rfl
  | (j + 7), h => simp at h

set_option maxRecDepth 100000 in
set_option maxHeartbeats 4000000 in
theorem rMake_any (t B g cap : Nat) (cs : List RCel) (kind at' pa : Int) (name data : ByteArray) (aa : Option Addr) (na ca : Nat) (w : World) (hT : RTreeAt w t B g cap cs) (hk1 : 1 ≤ kind) (hk4 : kind ≤ 4) (hfew : cs.length + 1 ≤ 1000000) :
    Calls Try.prog 34 #[.pointer (some ⟨t, 0, none⟩), .agg #[.int .i64 kind, .int .i64 at', .string name, .string data, .slice aa na ca, .int .i64 pa, .slice none 0 0]] w fun e w' => e = .returned (.int .i64 (cs.length : Int)) ∧ Hid (RMakeP w t B g cs ⟨kind, at', name, data, .slice aa na ca, -1, .slice none 0 0⟩ w') := by
  have HB1 : Hid (∀ o, Below w.heap.size w (w.alloc o)) := fun o => (Below.refl _ _).alloc (Nat.le_refl _) o
  obtain ⟨i0, hi, hz0, hz1, hz2⟩ := info_parts Try.infoRNode
  have HT : Hid _ := hT
  have n1 : ¬ kind < 1 := by omega
  have n4 : ¬ 4 < kind := by omega
  clear hT
  go_enter Try.func34, Try.ntmps34
  go_upto_region 4 with fail
  obtain ⟨w1, hw1⟩ : ∃ x, x = w.alloc (.cells #[.int .i64 kind, .int .i64 at', .string name, .string data, .slice aa na ca, .int .i64 (-1), .slice none 0 0] 80) := ⟨_, rfl⟩
  rw [← hw1]
  have hb1 : Below w.heap.size w w1 := by
    rw [hw1]
    exact HB1.out _
  have hblk : w1.heap[w.heap.size]? = some (.cells #[.int .i64 kind, .int .i64 at', .string name, .string data, .slice aa na ca, .int .i64 (-1), .slice none 0 0] 80 (0, 0)) := by
    rw [hw1]
    exact heap_alloc_new w _
  have x0 : w1.cell? ⟨w.heap.size, 0, none⟩ = some (.int .i64 kind) := by simp [World.cell?, hblk]
  have x1 : w1.cell? ⟨w.heap.size, 1, none⟩ = some (.int .i64 at') := by simp [World.cell?, hblk]
  have x2 : w1.cell? ⟨w.heap.size, 2, none⟩ = some (.string name) := by simp [World.cell?, hblk]
  have x3 : w1.cell? ⟨w.heap.size, 3, none⟩ = some (.string data) := by simp [World.cell?, hblk]
  have x4 : w1.cell? ⟨w.heap.size, 4, none⟩ = some (.slice aa na ca) := by simp [World.cell?, hblk]
  have x5 : w1.cell? ⟨w.heap.size, 5, none⟩ = some (.int .i64 (-1)) := by simp [World.cell?, hblk]
  have x6 : w1.cell? ⟨w.heap.size, 6, none⟩ = some (.slice none 0 0) := by simp [World.cell?, hblk]
  have hRl : w.heap.size < w1.heap.size := (Array.getElem?_eq_some_iff.1 hblk).1
  have HB : Hid _ := hb1
  have hT1 := HT.out.below hb1
  clear hw1 hblk HB1 hb1
  have c0 := hT1.c0
  have hle := hT1.le
  have d0 : ∀ o, (w1.alloc o).cell? ⟨t, 0, none⟩ = some (.slice (some ⟨g, 0, none⟩) cs.length cap) := fun o => (((Below.refl _ _).alloc (Nat.le_refl _) o : Below w1.heap.size w1 (w1.alloc o)).cell (p := ⟨t, 0, none⟩) hT1.tlt).trans c0
  have y0 : ∀ o, (w1.alloc o).cell? ⟨w.heap.size, 0, none⟩ = some (.int .i64 kind) := fun o => by rw [World.cell?_alloc_old _ _ _ (Nat.ne_of_lt hRl)]; exact x0
  have hown : ∀ o, (w1.alloc o).drew.ownsRow B 80 7 (.slice (some ⟨g, 0, none⟩) cs.length cap) cs.length (cs.flatMap rcC) := fun o => World.ownsRow.drew (World.ownsRow.alloc hT1.own o)
  have HF : Hid (∀ o g3 cap3 w3, w3.ownsRow B 80 7 (.slice (some ⟨g3, 0, none⟩) (cs.length + 1) cap3) (cs.length + 1) (cs.flatMap rcC ++ [.int .i64 kind, .int .i64 at', .string name, .string data, .slice aa na ca, .int .i64 (-1), .slice none 0 0]) → (w1.alloc o).drew.grownBy w3 (Value.slice (some ⟨g, 0, none⟩) cs.length cap).ownBlock → ((Value.slice (some ⟨g, 0, none⟩) cs.length cap).ownBlock = some g3 ∨ g3 = (w1.alloc o).drew.heap.size) → _) := fun o g3 cap3 w3 h1 h2 h3 => rmake_fin (c := ⟨kind, at', name, data, .slice aa na ca, -1, .slice none 0 0⟩) HT.out (HB.out.trans (((Below.refl w1.heap.size w1).alloc (Nat.le_refl _) o).drew.mono HB.out.size)) h1 h2 h3 hfew
  clear HT hT1 HB y0
  go_region_law (refine step_append_lies _ rfl (.tmp 19) (.tmp 21) 33 rfl B 80 i0 (.agg #[.int .i64 0, .int .i64 0, .string ⟨#[]⟩, .string ⟨#[]⟩, .slice none 0 0, .int .i64 0, .slice none 0 0]) 7 104 Try.underlying33 hi hz0 hz1 hz2 rfl (by decide) (.slice (some ⟨g, 0, none⟩) cs.length cap) cs.length (cs.flatMap rcC) (by simp [Act.eval]) (hown _) ⟨w1.heap.size, 0, none⟩ 1 1 [.int .i64 kind, .int .i64 at', .string name, .string data, .slice aa na ca, .int .i64 (-1), .slice none 0 0] (by simp [Act.eval]) rfl (news7 w1 _ _ _ _ _ _ _ _) (by intro u hu; simp at hu; rcases hu with rfl | rfl | rfl | rfl | rfl | rfl | rfl <;> rfl) (by omega) (by unfold maxLen; omega) (by omega) (by show B ≤ (w1.alloc _).heap.size; simp; omega) _ rfl (fun g3 cap3 w' hown' hgrow hat hlt => ?_); obtain ⟨q0, z0, KR⟩ := HF.out _ g3 cap3 w' hown' hgrow hat; have KR2 : Hid _ := KR; have q1 : (w'.setCell ⟨t, 0, none⟩ (.slice (some ⟨g3, 0, none⟩) (cs.length + 1) cap3)).cell? ⟨t, 0, none⟩ = some (.slice (some ⟨g3, 0, none⟩) (cs.length + 1) cap3) := World.cell?_setCell_same _ _ _ q0; clear hown' hgrow hat hlt KR)
  all_goals
    go_wp2
    go_ret
    exact ⟨by go_num, KR2⟩
end Go.Proofs.Ytjbfgiicaaljjaa
