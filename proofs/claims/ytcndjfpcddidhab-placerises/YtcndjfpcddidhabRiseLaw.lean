/-
  Going on in a document: the law's walk.
-/
import Derived.Test.YtcndjfpcddidhabRisePlain
import Derived.Test.YtcndjfpcddidhabNumPlain
namespace Go.Proofs.Ytcndjfpcddidhab
open Go.RowKit

/-- An argument: whole numbers, where they lie. -/
structure IntsAt (w : World) (a : Option Addr) (Z : List Int) : Prop where
  out : ∀ t, (h : t < Z.length) → ∃ ad, a = some ad ∧ w.cell? (ad.add t) = some (.int .i64 Z[t])
structure BoolsAt (w : World) (a : Option Addr) (Z : List Bool) : Prop where
  out : ∀ t, (h : t < Z.length) → ∃ ad, a = some ad ∧ w.cell? (ad.add t) = some (.bool Z[t])

theorem cell_later {w w' : World} {a : Addr} {v : Value} (h : w.cell? a = some v) (hb : Below w.heap.size w w') : w'.cell? a = some v :=
  (hb.cell (p := a) (World.block_lt_of_cell? w _ h)).trans h

theorem IntsAt.later {w w' : World} {a : Option Addr} {Z : List Int} (h : IntsAt w a Z) (hb : Below w.heap.size w w') : IntsAt w' a Z := ⟨fun t ht => by
  obtain ⟨ad, e, hc⟩ := h.out t ht
  exact ⟨ad, e, cell_later hc hb⟩⟩
theorem BoolsAt.later {w w' : World} {a : Option Addr} {Z : List Bool} (h : BoolsAt w a Z) (hb : Below w.heap.size w w') : BoolsAt w' a Z := ⟨fun t ht => by
  obtain ⟨ad, e, hc⟩ := h.out t ht
  exact ⟨ad, e, cell_later hc hb⟩⟩

/-- How far the first loop has come. -/
structure RiseAt (w wr : World) (k : Nat) (p : Int) (rs : List (Int × Int)) (v : Value) : Prop where
  own : wr.ownsRow w.heap.size 27 2 v rs.length (rs.flatMap rnC)
  len : rs.length = k
  rise : (rs.map (·.2)).Pairwise (· < ·)
  top : ∀ x ∈ rs.map (·.2), x ≤ p
  lo : 0 ≤ p
  hi : p ≤ 4 * k
  below : Below w.heap.size w wr

theorem RiseAt.next {w wr w1 w' : World} {k : Nat} {p x : Int} {rs : List (Int × Int)} {v v' : Value} {r : Int} (h : RiseAt w wr k p rs v) (h01 : Below wr.heap.size wr w1) (hx0 : 0 ≤ x) (hx1 : x ≤ 3)
    (hown' : w'.ownsRow w.heap.size 27 2 v' (rs.length + 1) (rs.flatMap rnC ++ rnC (r, p + (1 + x)))) (hgrow : w1.grownBy w' v.ownBlock) :
    RiseAt w w' (k + 1) (p + (1 + x)) (rs ++ [(r, p + (1 + x))]) v' := by
  have hs := h.below.size
  have hB : Below w.heap.size w w' := (h.below.trans (h01.mono hs)).grown hgrow (Nat.le_trans hs h01.size) (own_block_ge' h.own)
  refine ⟨by simpa using hown', by simp [h.len], ?_, ?_, ?_, ?_, hB⟩
  · rw [List.map_append, List.pairwise_append]
    refine ⟨h.rise, by simp, fun y hy z hz => ?_⟩
    have := h.top y hy
    simp at hz
    omega
  · intro y hy
    rw [List.map_append] at hy
    rcases List.mem_append.1 hy with hy | hy
    · have := h.top y hy; omega
    · simp at hy; omega
  · have := h.lo; omega
  · have := h.hi; omega

set_option maxRecDepth 100000 in
set_option maxHeartbeats 4000000 in
theorem rises_law (ga la : Option Addr) (gcap lcap : Nat) (G : List Int) (L : List Bool) (x : Int) (w : World) (hG : IntsAt w ga G) (hL : BoolsAt w la L) :
    Calls Try.prog 3 #[.slice ga G.length gcap, .slice la L.length lcap, .int .i64 x] w fun e w' => e = .returned (.bool true) ∧ Below w.heap.size w w' := by
  obtain ⟨i0, hi, hz0, hz1, hz2⟩ := info_parts Try.infoRn
  have HS : Hid _ := speaks3_any w
  have HG : Hid _ := hG
  have HL : Hid _ := hL
  clear hG hL
  go_enter Try.func3, Try.ntmps3
  go_wp2_with fail
  refine Calls.mono HS.out ?_
  rintro e w1 ⟨rfl, hb1⟩
  have HST : Hid (RiseAt w1 w1 0 0 [] (.slice none 0 0)) := ⟨World.ownsRow_nil _ _ _ _, rfl, by simp, by simp, Int.le_refl _, by simp, Below.refl _ _⟩
  have HG1 : Hid _ := HG.out.later hb1
  have HL1 : Hid _ := HL.out.later hb1
  have HB1 : Hid _ := hb1
  clear HS HG HL hb1
  go_wp2
  go_loopw [7, 8, 9] (fun l p i wr => ∃ (k : Nat) (pp : Int) (rs : List (Int × Int)) (v : Value), k ≤ 200 ∧ l = v ∧ p = .int .i64 pp ∧ i = .int .i64 k ∧ RiseAt w1 wr k pp rs v) (fun _ _ i _ => 200 - (intOf i).toNat)
  case atStart => exact ⟨0, 0, [], _, by omega, rfl, rfl, rfl, HST.out⟩
  case round =>
    clear HST
    obtain ⟨k, pp, rs, v, hk, rfl, rfl, rfl, hR⟩ := hrel
    have HR : Hid _ := hR
    by_cases hin : k < G.length ∧ k < L.length ∧ k < 200
    · obtain ⟨i1, i2, i3⟩ := hin
      obtain ⟨gad, rfl, cg⟩ := (HG1.out.later hR.below).out k i1
      obtain ⟨lad, rfl, cl⟩ := (HL1.out.later hR.below).out k i2
      generalize G[k] = z at cg
      have hz := i64_and3 z
      have plo := hR.lo
      have phi := hR.hi
      have HBL : Hid (∀ o, Below wr.heap.size wr (wr.alloc o)) := fun o => (Below.refl _ _).alloc (Nat.le_refl _) o
      have hsz := hR.below.size
      have HLN : Hid (rs.length = k) := hR.len
      obtain ⟨y, hy⟩ : ∃ y, bits .and .i64 z 3 = y := ⟨_, rfl⟩
      rw [hy] at hz
      obtain ⟨y0, y1⟩ := hz
      clear hR
      generalize L[k] = b at cl
      cases b with
      | false =>
        go_wp2_with (at_builtin; refine wpList_append_own _ rfl _ _ 25 rfl w1.heap.size 27 i0 (.agg #[.int .i64 0, .int .i64 0]) 2 16 Try.underlying25 hi hz0 hz1 hz2 rfl (by decide) _ _ _ rfl (own_below' HR.out.own (HBL.out _)) ⟨wr.heap.size, 0, none⟩ 1 1 (rnC (97, pp + (1 + y))) rfl rfl (news_of _ #[.int .i64 97, .int .i64 (pp + (1 + y))] _ _ rfl) (by intro u hu; simp [rnC] at hu; rcases hu with rfl | rfl <;> rfl) (by have := HLN.out; unfold maxLen; omega) (by have := HLN.out; omega) (by simp; omega) ?_)
        intro v' w' hown' hgrow _
        obtain ⟨⟨g, cap, rfl⟩, HN⟩ : (∃ g cap, v' = .slice (some ⟨g, 0, none⟩) (rs.length + 1) cap) ∧ Hid (RiseAt w1 w' (k + 1) (pp + (1 + y)) (rs ++ [(97, pp + (1 + y))]) v') := ⟨Joins.ownsRow_form hown' (by omega), HR.out.next (HBL.out _) y0 y1 hown' hgrow⟩
        clear hown' hgrow cg cl
        go_wp2
        go_roundw
        case rel => exact ⟨k + 1, _, _, _, by omega, rfl, rfl, by go_num, HN.out⟩
        case measure => simp [intOf]; omega
      | true =>
        go_wp2_with (at_builtin; refine wpList_append_own _ rfl _ _ 25 rfl w1.heap.size 27 i0 (.agg #[.int .i64 0, .int .i64 0]) 2 16 Try.underlying25 hi hz0 hz1 hz2 rfl (by decide) _ _ _ rfl (own_below' HR.out.own (HBL.out _)) ⟨wr.heap.size, 0, none⟩ 1 1 (rnC (10, pp + (1 + y))) rfl rfl (news_of _ #[.int .i64 10, .int .i64 (pp + (1 + y))] _ _ rfl) (by intro u hu; simp [rnC] at hu; rcases hu with rfl | rfl <;> rfl) (by have := HLN.out; unfold maxLen; omega) (by have := HLN.out; omega) (by simp; omega) ?_)
        intro v' w' hown' hgrow _
        obtain ⟨⟨g, cap, rfl⟩, HN⟩ : (∃ g cap, v' = .slice (some ⟨g, 0, none⟩) (rs.length + 1) cap) ∧ Hid (RiseAt w1 w' (k + 1) (pp + (1 + y)) (rs ++ [(10, pp + (1 + y))]) v') := ⟨Joins.ownsRow_form hown' (by omega), HR.out.next (HBL.out _) y0 y1 hown' hgrow⟩
        clear hown' hgrow cg cl
        go_wp2
        go_roundw
        case rel => exact ⟨k + 1, _, _, _, by omega, rfl, rfl, by go_num, HN.out⟩
        case measure => simp [intOf]; omega
    · have hlen : rs.length ≤ 1099511627776 := by have := hR.len; omega
      have hl200 : rs.length ≤ 200 := by have := hR.len; omega
      have HN : Hid _ := new_row w1.heap.size _ rs wr hR.own hlen
      have plo := hR.lo
      have phi : pp ≤ 800 := by have := hR.hi; omega
      obtain ⟨r, hr⟩ : ∃ r, x.tmod (pp + 3) = r := ⟨_, rfl⟩
      have hr1 : r < pp + 3 := by rw [← hr]; exact Int.tmod_lt_of_pos x (by omega)
      have hr2 : -(pp + 3) < r := by rw [← hr]; exact Int.lt_tmod_of_pos x (by omega)
      obtain ⟨q, hq⟩ : ∃ q, (r + pp + 3).tmod (pp + 3) = q := ⟨_, rfl⟩
      have hq1 : q < pp + 3 := by rw [← hq]; exact Int.tmod_lt_of_pos _ (by omega)
      have hq0 : 0 ≤ q := by rw [← hq]; exact Int.tmod_nonneg _ (by omega)
      have HRI : Hid _ := hR.rise
      have HBR : Hid (Below w.heap.size w wr) := HB1.out.trans (hR.below.mono HB1.out.size)
      have HOW : Hid _ := hR.own
      have hpm : (0 : Int) < pp + 3 := by omega
      obtain ⟨va, vcap, hve⟩ := own_head' hR.own
      subst hve
      rcases (show ¬ k < G.length ∨ (k < G.length ∧ ¬ k < L.length) ∨ (k < G.length ∧ k < L.length ∧ ¬ k < 200) by omega) with i1 | ⟨i1, i2⟩ | ⟨i1, i2, i3⟩
      all_goals
        clear hin hR HG1 HL1 hk hi hz0 hz1 hz2
        go_wp2_with fail
        refine Calls.mono HN.out ?_
        rintro e w2 ⟨rfl, hb2, vb, hT⟩
        have HA1 : Hid _ := at_any _ _ _ _ _ q w2 hT HRI.out hlen
        have HT : Hid _ := hT
        have HB2 : Hid (Below w.heap.size w w2) := HBR.out.trans (hb2.mono HBR.out.size)
        have HO2 : Hid _ := own_below' HOW.out hb2
        obtain ⟨l1, hl1⟩ : ∃ l1, lineCol ((rs.map (·.1)).take (aheadOf rs q)) = l1 := ⟨_, rfl⟩
        have hlb := lineCol_bound ((rs.map (·.1)).take (aheadOf rs q))
        have hll : ((rs.map (·.1)).take (aheadOf rs q)).length ≤ 200 := by rw [List.length_take, List.length_map]; omega
        have hst := rise_step rs HRI.out q
        rw [hl1] at HA1 hlb hst
        obtain ⟨b1, b2, b3, b4⟩ := hlb
        have b2' : l1.1 ≤ 201 := by omega
        have b4' : l1.2 ≤ 201 := by omega
        have HST : Hid _ := hst
        clear hT hb2 HN HOW hst hll b2 b4 hl1
        go_wp2_with fail
        refine Calls.mono HA1.out ?_
        rintro e w3 ⟨rfl, hb3⟩
        have HA2 : Hid _ := at_any _ _ _ _ _ (q + 1) w3 (HT.out.later hb3) HRI.out hlen
        have HB3 : Hid (Below w.heap.size w w3) := HB2.out.trans (hb3.mono HB2.out.size)
        have HO3 : Hid _ := own_below' HO2.out hb3
        clear hb3 HA1 HT HO2
        go_wp2_with fail
        refine Calls.mono HA2.out ?_
        rintro e w4 ⟨rfl, hb4⟩
        have HB4 : Hid (Below w.heap.size w w4) := HB3.out.trans (hb4.mono HB3.out.size)
        have HO4 : Hid _ := own_below' HO3.out hb4
        have HC : Hid (∀ p, (hp : p < rs.length) → ∃ g, va = some ⟨g, 0, none⟩ ∧ w4.cell? ⟨g, p * 2 + 1, none⟩ = some (.int .i64 rs[p].2)) := fun p hp => by
          obtain ⟨g, cap, hv, _, _, _, hcells⟩ := own_rns HO4.out (by omega)
          injection hv with hv1 _ _
          exact ⟨g, hv1, (hcells p hp).2⟩
        obtain ⟨l2, hl2⟩ : ∃ l2, lineCol ((rs.map (·.1)).take (aheadOf rs (q + 1))) = l2 := ⟨_, rfl⟩
        rw [hl2] at HST ⊢
        clear hb4 HA2 HO3 HO4 hl2 hr hq hr1 hr2 HB3
        go_wp2
        go_loopw [16, 17] (fun s16 s17 wr => ∃ (j : Nat), j ≤ rs.length ∧ s17 = .int .i64 j ∧ s16 = .bool ((rs.take j).any (fun r => r.2 == q)) ∧ wr = w4) (fun _ s17 _ => rs.length - (intOf s17).toNat)
        case atStart => exact ⟨0, Nat.zero_le _, rfl, rfl, rfl⟩
        case round =>
          obtain ⟨j, hj, rfl, rfl, rfl⟩ := hrel
          by_cases hjl : j < rs.length
          · obtain ⟨g, rfl, hcell⟩ := HC.out j hjl
            have HX : Hid ((rs.take (j + 1)).any (fun r => r.2 == q) = ((rs.take j).any (fun r => r.2 == q) || (rs[j].2 == q))) := by
              show _ = _
              rw [List.take_succ_eq_append_getElem hjl, List.any_append]
              simp
            generalize (rs.take j).any (fun r => r.2 == q) = tb at HX ⊢
            generalize rs[j].2 = y at HX hcell
            cases tb with
            | false =>
              go_wp2
              go_roundw
              case rel => exact ⟨j + 1, by omega, by go_num, by rw [HX.out]; simp, by simp⟩
              case measure => simp [intOf]; omega
            | true =>
              go_wp2
              go_roundw
              case rel => exact ⟨j + 1, by omega, by go_num, by rw [HX.out]; simp, by simp⟩
              case measure => simp [intOf]; omega
          · obtain rfl : j = rs.length := by omega
            have e : rs.take rs.length = rs := List.take_length
            rw [e]
            clear e
            have h1 := HST.out.1
            have h2 := HST.out.2
            generalize rs.any (fun r => r.2 == q) = tb at h1 h2 ⊢
            obtain ⟨la1, lc1⟩ := l1
            obtain ⟨la2, lc2⟩ := l2
            simp only [Prod.mk.injEq] at h1 h2
            cases tb with
            | false =>
              obtain ⟨rfl, rfl⟩ := h1 rfl
              clear h1 h2 HST
              go_wp2
              go_ret
              exact ⟨rfl, HB4.out⟩
            | true =>
              rcases h2 rfl with ⟨rfl, rfl⟩ | ⟨rfl, rfl⟩
              · clear h1 h2 HST
                simp only [] at b1 b2' b3 b4'
                go_wp2
                go_ret
                exact ⟨rfl, HB4.out⟩
              · clear h1 h2 HST
                simp only [] at b1 b2' b3 b4'
                have hne : (la1 + 1 == la1) = false := beq_false_of_ne (by omega)
                go_wp2
                go_ret
                exact ⟨rfl, HB4.out⟩
end Go.Proofs.Ytcndjfpcddidhab
