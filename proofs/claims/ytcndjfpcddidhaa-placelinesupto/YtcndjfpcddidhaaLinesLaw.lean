/-
  The line and the column of any place among any scalars: the law's walk.
-/
import Derived.Test.YtcndjfpcddidhaaLinesLow
import Derived.Deep.AppendLies
import Derived.Deep.RegionHeld3
namespace Go.Proofs.Ytcndjfpcddidhaa
open Go.RowKit

/-- How far the loop has come. -/
structure LinesAt (w wr : World) (k : Nat) (p : Int) (rs : List (Int × Int)) (v u : Value) : Prop where
  own : wr.ownsRow w.heap.size 27 2 v rs.length (rs.flatMap rnC)
  ref : wr.ownsRow w.heap.size 29 3 u rs.length (rs.flatMap rfC)
  len : rs.length = k
  rise : (rs.map (·.2)).Pairwise (· < ·)
  top : ∀ x ∈ rs.map (·.2), x < p
  lo : 0 ≤ p
  hi : p ≤ 4 * k
  below : Below w.heap.size w wr

theorem own_apart2 {w : World} {base : Nat} {e e' : TypeId} {size size' : Nat} {v v' : Value} {n n' : Nat} {xs xs' : List Value} (h : w.ownsRow base e size v n xs) (h' : w.ownsRow base e' size' v' n' xs') (he : e ≠ e') : v.ownBlock = none ∨ v.ownBlock ≠ v'.ownBlock := by
  rcases h.2 with ⟨rfl, _⟩ | ⟨g, cap, cur, rfl, hg, hh, _⟩
  · exact .inl rfl
  · refine .inr ?_
    intro hk
    rcases h'.2 with ⟨rfl, _⟩ | ⟨g', cap', cur', rfl, hg', hh', _⟩
    · cases hk
    · simp only [Value.ownBlock, Option.some.injEq] at hk
      subst hk
      rw [hh] at hh'
      simp only [Option.some.injEq, Obj.cells.injEq] at hh'
      exact he hh'.2.1

theorem own_block_lt {w : World} {base : Nat} {e : TypeId} {size : Nat} {v : Value} {n : Nat} {xs : List Value} (h : w.ownsRow base e size v n xs) : ∀ k, v.ownBlock = some k → k < w.heap.size := by
  intro k hk
  rcases h.2 with ⟨rfl, _⟩ | ⟨g, cap, cur, rfl, hg, hh, _⟩
  · cases hk
  · simp only [Value.ownBlock, Option.some.injEq] at hk
    subst hk
    exact (Array.getElem?_eq_some_iff.1 hh).1

theorem up0 (w : World) : Below w.heap.size w w := Below.refl _ _
theorem up1 (w : World) (o : Obj) : Below w.heap.size w (w.alloc o) := (Below.refl _ _).alloc (Nat.le_refl _) o
theorem up2 (w : World) (o o' : Obj) : Below w.heap.size w ((w.alloc o).alloc o') := (up1 w o).alloc (by simp) o'
theorem up1d (w : World) (o : Obj) : Below w.heap.size w (w.alloc o).drew := (up1 w o).drew
theorem up2d (w : World) (o o' : Obj) : Below w.heap.size w ((w.alloc o).alloc o').drew := (up2 w o o').drew
theorem nbB (w : World) (o o' : Obj) : ((w.alloc o).alloc o').heap[w.heap.size]? = some o := by
  rw [Below.heap_alloc _ _ _ (by simp)]
  exact heap_alloc_new w o
theorem nbC (w : World) (o o' : Obj) : ((w.alloc o).alloc o').heap[w.heap.size + 1]? = some o' := by
  have h := heap_alloc_new (w.alloc o) o'
  simpa using h

/-- Behind the first of two appends. -/
structure Kept (w1 wr W w2 : World) (rs : List (Int × Int)) (u : Value) : Prop where
  ref : w2.ownsRow w1.heap.size 29 3 u rs.length (rs.flatMap rfC)
  blocks : ∀ B, wr.heap.size ≤ B → B < W.heap.size → w2.heap[B]? = W.heap[B]?
  below : Below w1.heap.size wr w2
  size : w1.heap.size ≤ w2.heap.size

theorem LinesAt.kept {w1 wr W w2 : World} {k : Nat} {p : Int} {rs : List (Int × Int)} {v u : Value} (h : LinesAt w1 wr k p rs v u) (hW : Below wr.heap.size wr W) (hgrow : W.grownBy w2 v.ownBlock) : Kept w1 wr W w2 rs u := by
  have hs := h.below.size
  have hB : Below w1.heap.size wr w2 := (hW.mono hs).grown hgrow (Nat.le_trans hs hW.size) (own_block_ge' h.own)
  refine ⟨(own_below' h.ref hW).kept hgrow (own_apart2 h.ref h.own (by decide)), fun B h1 h2 => hgrow.block B h2 (fun e => ?_), hB, Nat.le_trans hs hB.size⟩
  have := own_block_lt h.own B e.symm
  omega

/-- Behind both. -/
structure Grew (w1 wr w3 : World) (rs : List (Int × Int)) (v u : Value) : Prop where
  own : w3.ownsRow w1.heap.size 27 2 v rs.length (rs.flatMap rnC)
  ref : w3.ownsRow w1.heap.size 29 3 u rs.length (rs.flatMap rfC)
  below : Below w1.heap.size wr w3

theorem Kept.both {w1 wr W w2 W2 w3 : World} {rs : List (Int × Int)} {u v' u' : Value} {r : Int × Int} (h : Kept w1 wr W w2 rs u) (hown1 : w2.ownsRow w1.heap.size 27 2 v' (rs.length + 1) (rs.flatMap rnC ++ rnC r)) (hW : Below w2.heap.size w2 W2)
    (hgrow : W2.grownBy w3 u.ownBlock) (hown2 : w3.ownsRow w1.heap.size 29 3 u' (rs.length + 1) (rs.flatMap rfC ++ rfC r)) : Grew w1 wr w3 (rs ++ [r]) v' u' := by
  have hs := h.size
  have hB : Below w1.heap.size wr w3 := (h.below.trans (hW.mono hs)).grown hgrow (Nat.le_trans hs hW.size) (own_block_ge' h.ref)
  refine ⟨?_, by simpa using hown2, hB⟩
  have := (own_below' hown1 hW).kept hgrow (own_apart2 hown1 h.ref (by decide))
  simpa using this

theorem LinesAt.next {w1 wr w' : World} {k : Nat} {p x : Int} {rs : List (Int × Int)} {v u v' u' : Value} {z : Int} (h : LinesAt w1 wr k p rs v u) (hg : Grew w1 wr w' (rs ++ [(z, p)]) v' u') (hx0 : 0 ≤ x) (hx1 : x ≤ 3) : LinesAt w1 w' (k + 1) (p + 1 + x) (rs ++ [(z, p)]) v' u' := by
  refine ⟨hg.own, hg.ref, by simp [h.len], ?_, ?_, ?_, ?_, h.below.trans hg.below⟩
  · rw [List.map_append, List.pairwise_append]
    refine ⟨h.rise, by simp, fun y hy q hq => ?_⟩
    have := h.top y hy
    simp at hq
    omega
  · intro y hy
    rw [List.map_append] at hy
    rcases List.mem_append.1 hy with hy | hy
    · have := h.top y hy; omega
    · simp at hy; omega
  · have := h.lo; omega
  · have := h.hi; omega

theorem LinesAt.drew {w1 wr : World} {k : Nat} {p : Int} {rs : List (Int × Int)} {v u : Value} (h : LinesAt w1 wr k p rs v u) : LinesAt w1 wr.drew k p rs v u :=
  ⟨h.own, h.ref, h.len, h.rise, h.top, h.lo, h.hi, h.below.drew⟩

set_option maxRecDepth 100000 in
set_option maxHeartbeats 4000000 in
theorem lines_law (za : Option Addr) (zcap : Nat) (Z : List Int) (sa : Option Addr) (scap : Nat) (S : List Int) (x : Int) (w : World) (hZ : IntsAt w za Z) (hS : IntsAt w sa S) (hz : Z.length ≤ 1048576) :
    Calls Try.prog 3 #[.slice za Z.length zcap, .slice sa S.length scap, .int .i64 x] w fun e w' => e = .returned (.bool true) ∧ Below w.heap.size w w' := by
  obtain ⟨i0, hi, hy0, hy1, hy2⟩ := info_parts Try.infoRn
  obtain ⟨j0, hj, hj0, hj1, hj2⟩ := info_parts Try.infoRf
  have HS : Hid _ := speaks3_any w
  have HZ : Hid _ := hZ
  have HSS : Hid _ := hS
  clear hZ hS
  go_enter Try.func3, Try.ntmps3
  go_wp2_with fail
  refine Calls.mono HS.out ?_
  rintro e w1 ⟨rfl, hb1⟩
  have HST : Hid (LinesAt w1 w1 0 0 [] (.slice none 0 0) (.slice none 0 0)) := ⟨World.ownsRow_nil _ _ _ _, World.ownsRow_nil _ _ _ _, rfl, by simp, by simp, Int.le_refl _, by simp, Below.refl _ _⟩
  have HZ1 : Hid _ := HZ.out.later hb1
  have HS1 : Hid _ := HSS.out.later hb1
  have HB1 : Hid _ := hb1
  clear HS HZ HSS hb1
  go_wp2
  go_loopw [7, 8, 9, 10] (fun l u p i wr => ∃ (k : Nat) (pp : Int) (rs : List (Int × Int)) (v v' : Value), k ≤ Z.length ∧ l = v ∧ u = v' ∧ p = .int .i64 pp ∧ i = .int .i64 k ∧ LinesAt w1 wr k pp rs v v') (fun _ _ _ i _ => Z.length - (intOf i).toNat)
  case atStart => exact ⟨0, 0, [], _, _, by omega, rfl, rfl, rfl, rfl, HST.out⟩
  case round =>
    clear HST
    obtain ⟨k, pp, rs, v, v', hk, rfl, rfl, rfl, rfl, hR⟩ := hrel
    have HR : Hid _ := hR
    by_cases hin : k < Z.length
    · obtain ⟨zad, rfl, cz⟩ := (HZ1.out.later hR.below).out k hin
      generalize Z[k] = z at cz
      have plo := hR.lo
      have phi := hR.hi
      have hsz := hR.below.size
      have HLN : Hid (rs.length = k) := hR.len
      have hzl : (zad.add k).block < w1.heap.size := by
        obtain ⟨ad, e, hc⟩ := HZ1.out.out k hin
        cases e
        exact World.block_lt_of_cell? w1 _ hc
      have HM : Hid (rs.length + 1 ≤ maxLen) := by show _ ≤ _; have := hR.len; unfold maxLen; omega
      have HM1 : Hid ((rs.length + 1) * 16 ≤ 140737488355328) := by show _ ≤ _; have := hR.len; omega
      have HM2 : Hid ((rs.length + 1) * 24 ≤ 140737488355328) := by show _ ≤ _; have := hR.len; omega
      clear hR
      go_wp2_with fail
      go_cut [7, 8] (fun v7 v8 wy => ∃ g cap g' cap', v7 = .slice (some ⟨g, 0, none⟩) (rs.length + 1) cap ∧ v8 = .slice (some ⟨g', 0, none⟩) (rs.length + 1) cap' ∧ Grew w1 wr wy (rs ++ [(z, pp)]) v7 v8)
      case first =>
        go_region_held3 (fun w' => w'.cell? (zad.add k) = some (.int .i64 z)) (go_keep)
          (first
            | (refine step_append_lies _ (by rfl) _ _ _ (by rfl) w1.heap.size 27 i0 _ 2 16 Try.underlying24 hi hy0 hy1 hy2 rfl (by omega) u7 rs.length (rs.flatMap rnC) (by rfl) (own_below' HR.out.own (up1d wr _)) ⟨wr.heap.size, 0, none⟩ 1 1 (rnC (z, pp)) (by rfl) (by rfl) (World.news_of_block (cs := #[.int .i64 z, .int .i64 pp]) (t := 27) (fr := (0, 0)) (heap_alloc_new wr _)) (by simp [rnC, Value.oneCell']) (by omega) HM.out HM1.out (Nat.le_trans hsz (Below.size (up1d wr _))) _ rfl ?_
               intro g cap w2 hown1 hgrow1 hat1 hlt1
               have HK : Hid _ := HR.out.kept (up1d wr _) hgrow1
               have hcz2 := (HK.out.below.cell hzl).trans cz
               have HO1 : Hid _ := hown1
               clear hown1 hgrow1 hat1 hlt1)
            | (refine step_append_lies _ (by rfl) _ _ _ (by rfl) w1.heap.size 27 i0 _ 2 16 Try.underlying24 hi hy0 hy1 hy2 rfl (by omega) u7 rs.length (rs.flatMap rnC) (by rfl) (own_below' HR.out.own (up2d wr _ _)) ⟨wr.heap.size, 0, none⟩ 1 1 (rnC (z, pp)) (by rfl) (by rfl) (World.news_of_block (cs := #[.int .i64 z, .int .i64 pp]) (t := 27) (fr := (0, 0)) (nbB wr _ _)) (by simp [rnC, Value.oneCell']) (by omega) HM.out HM1.out (Nat.le_trans hsz (Below.size (up2d wr _ _))) _ rfl ?_
               intro g cap w2 hown1 hgrow1 hat1 hlt1
               have HK : Hid _ := HR.out.kept (up2d wr _ _) hgrow1
               have hcz2 := (HK.out.below.cell hzl).trans cz
               have HO1 : Hid _ := hown1
               clear hown1 hgrow1 hat1 hlt1)
            | (refine step_append_lies _ (by rfl) _ _ _ (by rfl) w1.heap.size 27 i0 _ 2 16 Try.underlying24 hi hy0 hy1 hy2 rfl (by omega) u7 rs.length (rs.flatMap rnC) (by rfl) (own_below' HR.out.own (up2d wr _ _)) ⟨wr.heap.size + 1, 0, none⟩ 1 1 (rnC (z, pp)) (by rfl) (by rfl) (World.news_of_block (cs := #[.int .i64 z, .int .i64 pp]) (t := 27) (fr := (0, 0)) (nbC wr _ _)) (by simp [rnC, Value.oneCell']) (by omega) HM.out HM1.out (Nat.le_trans hsz (Below.size (up2d wr _ _))) _ rfl ?_
               intro g cap w2 hown1 hgrow1 hat1 hlt1
               have HK : Hid _ := HR.out.kept (up2d wr _ _) hgrow1
               have hcz2 := (HK.out.below.cell hzl).trans cz
               have HO1 : Hid _ := hown1
               clear hown1 hgrow1 hat1 hlt1)
            | (refine step_append_lies _ (by rfl) _ _ _ (by rfl) w1.heap.size 29 j0 _ 3 24 Try.underlying25 hj hj0 hj1 hj2 rfl (by omega) u8 rs.length (rs.flatMap rfC) (by rfl) (own_below' HK.out.ref (up1 w2 _)) ⟨w2.heap.size, 0, none⟩ 1 1 (rfC (z, pp)) (by rfl) (by rfl) (World.news_of_block (cs := #[.int .i64 z, .int .i64 pp, .bool false]) (t := 29) (fr := (0, 0)) (heap_alloc_new w2 _)) (by simp [rfC, Value.oneCell']) (by omega) HM.out HM2.out (Nat.le_trans HK.out.size (Below.size (up1 w2 _))) _ rfl ?_
               intro g' cap' w3 hown2 hgrow2 hat2 hlt2
               have HG : Hid _ := HK.out.both HO1.out (up1 w2 _) hgrow2 hown2
               have hcz3 := (HG.out.below.cell hzl).trans cz
               clear hown2 hgrow2 hat2 hlt2)
            | (refine step_append_lies _ (by rfl) _ _ _ (by rfl) w1.heap.size 29 j0 _ 3 24 Try.underlying25 hj hj0 hj1 hj2 rfl (by omega) u8 rs.length (rs.flatMap rfC) (by rfl) (own_below' HK.out.ref (up0 w2)) ⟨wr.heap.size + 1, 0, none⟩ 1 1 (rfC (z, pp)) (by rfl) (by rfl) (World.news_of_block (cs := #[.int .i64 z, .int .i64 pp, .bool false]) (t := 29) (fr := (0, 0)) ((HK.out.blocks _ (Nat.le_succ _) (by simp)).trans (nbC wr _ _))) (by simp [rfC, Value.oneCell']) (by omega) HM.out HM2.out (Nat.le_trans HK.out.size (Below.size (up0 w2))) _ rfl ?_
               intro g' cap' w3 hown2 hgrow2 hat2 hlt2
               have HG : Hid _ := HK.out.both HO1.out (up0 w2) hgrow2 hown2
               have hcz3 := (HG.out.below.cell hzl).trans cz
               clear hown2 hgrow2 hat2 hlt2)
            | (refine step_append_lies _ (by rfl) _ _ _ (by rfl) w1.heap.size 29 j0 _ 3 24 Try.underlying25 hj hj0 hj1 hj2 rfl (by omega) u8 rs.length (rs.flatMap rfC) (by rfl) (own_below' HK.out.ref (up0 w2)) ⟨wr.heap.size, 0, none⟩ 1 1 (rfC (z, pp)) (by rfl) (by rfl) (World.news_of_block (cs := #[.int .i64 z, .int .i64 pp, .bool false]) (t := 29) (fr := (0, 0)) ((HK.out.blocks _ (Nat.le_refl _) (by simp; omega)).trans (nbB wr _ _))) (by simp [rfC, Value.oneCell']) (by omega) HM.out HM2.out (Nat.le_trans HK.out.size (Below.size (up0 w2))) _ rfl ?_
               intro g' cap' w3 hown2 hgrow2 hat2 hlt2
               have HG : Hid _ := HK.out.both HO1.out (up0 w2) hgrow2 hown2
               have hcz3 := (HG.out.below.cell hzl).trans cz
               clear hown2 hgrow2 hat2 hlt2))
        all_goals go_wp2
        all_goals go_meet
        all_goals exact ⟨_, _, _, _, rfl, rfl, HG.out⟩
      case rest =>
        obtain ⟨g, cap, g', cap', rfl, rfl, hG⟩ := hcut
        have HG : Hid _ := hG
        have hBc : Below w1.heap.size w1 wc := HR.out.below.trans hG.below
        by_cases hks : k < S.length
        · obtain ⟨sad, rfl, cs⟩ := (HS1.out.later hBc).out k hks
          generalize S[k] = y0 at cs
          have hy := i64_and3 y0
          obtain ⟨y, hye⟩ : ∃ y, bits .and .i64 y0 3 = y := ⟨_, rfl⟩
          rw [hye] at hy
          obtain ⟨ya, yb⟩ := hy
          have HN : Hid _ := HR.out.next HG.out ya yb
          clear hG hBc cz hzl hi hy0 hy1 hy2 hj hj0 hj1 hj2
          go_wp2
          go_roundw
          case rel => exact ⟨k + 1, _, _, _, _, by omega, rfl, rfl, rfl, by go_num, HN.out⟩
          case measure => simp only [intOf]; go_num
        · have HN : Hid _ := HR.out.next HG.out (x := 0) (by omega) (by omega)
          rw [Int.add_zero] at HN
          clear hG hBc cz hzl hi hy0 hy1 hy2 hj hj0 hj1 hj2
          go_wp2
          go_roundw
          case rel => exact ⟨k + 1, _, _, _, _, by omega, rfl, rfl, rfl, by go_num, HN.out⟩
          case measure => simp only [intOf]; go_num
    · have hlen : rs.length ≤ 1099511627776 := by have := hR.len; omega
      have HN : Hid _ := new_row w1.heap.size _ rs wr hR.own hlen
      have HRI : Hid _ := hR.rise
      have HBR : Hid (Below w.heap.size w wr) := HB1.out.trans (hR.below.mono HB1.out.size)
      have HOW : Hid _ := hR.ref
      obtain ⟨va, vcap, hve⟩ := own_head' hR.own
      subst hve
      obtain ⟨ua, ucap, hue⟩ := own_head' hR.ref
      subst hue
      have HL : Hid _ := hlen
      clear hR HR HZ1 HS1 hk hi hy0 hy1 hy2 hj hj0 hj1 hj2 hlen
      go_wp2_with fail
      refine Calls.mono HN.out ?_
      rintro e w2 ⟨rfl, hb2, vb, hT⟩
      have HA1 : Hid _ := at_any _ _ _ _ _ x w2 hT HRI.out HL.out
      have HB2 : Hid (Below w.heap.size w w2) := HBR.out.trans (hb2.mono HBR.out.size)
      have HO2 : Hid _ := own_below' HOW.out hb2
      obtain ⟨l1, hl1⟩ : ∃ l1, lineCol ((rs.map (·.1)).take (aheadOf rs x)) = l1 := ⟨_, rfl⟩
      have HE : Hid (lineCol ((rs.map (·.1)).take (aheadOf rs x)) = l1) := hl1
      rw [hl1] at HA1
      clear hT hb2 HN HOW hl1
      go_wp2_with fail
      refine Calls.mono HA1.out ?_
      rintro e w3 ⟨rfl, hb3⟩
      have HB3 : Hid (Below w.heap.size w w3) := HB2.out.trans (hb3.mono HB2.out.size)
      have HO3 : Hid _ := own_below' HO2.out hb3
      clear hb3 HA1 HO2
      go_wp2_with fail
      have HA2 : Hid _ := rAt_any _ _ rs x w3 HO3.out HRI.out HL.out
      rw [HE.out] at HA2
      refine Calls.mono HA2.out ?_
      rintro e w4 ⟨rfl, hb4⟩
      have HB4 : Hid (Below w.heap.size w w4) := HB3.out.trans (hb4.mono HB3.out.size)
      have HA3 : Hid _ := at_nil x w4
      clear hb4 HA2 HO3
      go_wp2_with fail
      refine Calls.mono HA3.out ?_
      rintro e w5 ⟨rfl, hb5⟩
      have HB5 : Hid (Below w.heap.size w w5) := HB4.out.trans (hb5.mono HB4.out.size)
      clear hb5 HA3
      go_wp2
      go_ret
      exact ⟨rfl, HB5.out⟩
end Go.Proofs.Ytcndjfpcddidhaa
