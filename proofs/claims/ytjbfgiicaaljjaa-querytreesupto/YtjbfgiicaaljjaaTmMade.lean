/-
  A tree made of a row, and the reference's beside it.
-/
import Derived.Test.YtjbfgiicaaljjaaTmMid
namespace Go.Proofs.Ytjbfgiicaaljjaa
open Go.RowKit

set_option maxRecDepth 100000 in
set_option maxHeartbeats 1000000 in
theorem made_any (sa : Option Addr) (len cap : Nat) (Z : List Mr) (w : World) (hlen : Z.length = len) (hcap : len ≤ 9223372036854775807) (hZ : MrsAt w sa Z) (hd : ∀ m ∈ Z, m.data.size ≤ 9223372036854775807) :
    Calls Try.prog 9 #[.slice sa len cap] w fun e w' => ∃ t u, e = .returned (.tuple #[.pointer (some ⟨t, 0, none⟩), .pointer (some ⟨u, 0, none⟩)]) ∧ Hid (∃ k, k ≤ 100 ∧ MadeAt w.heap.size t u k Z w w') := by
  have HZ : Hid _ := hZ
  have HD : Hid _ := hd
  have HL : Hid _ := hlen
  clear hZ hd hlen
  go_enter Try.func9, Try.ntmps9
  go_wp2_with fail
  refine Calls.mono (domNew_any w) ?_
  rintro e w1 ⟨rfl, hT1, hb1⟩
  have HT1 : Hid _ := hT1
  have HB1 : Hid _ := hb1
  clear hT1 hb1
  go_wp2_with fail
  refine Calls.mono (rNew_any w1) ?_
  rintro e w2 ⟨rfl, hR2, hb2⟩
  have H0 : Hid (MadeAt w.heap.size (w.heap.size + 1) (w1.heap.size + 1) 0 Z w w2) := by
    refine ⟨[docNd], rfl, ⟨_, _, _, _, _, _, dom_fam (HT1.out.below hb2), ⟨⟨hR2.tree.blk, owns_base hR2.tree.own HB1.out.size, by have := HB1.out.size; omega, hR2.tree.few⟩, hR2.len, hR2.cel, fun i c x hc hx => owns_base (hR2.kids i c x hc hx) HB1.out.size, fun i c x hc hx => owns_base (hR2.atts i c x hc hx) HB1.out.size, hR2.bare⟩, fun k hk => ?_⟩, doc_tree, HB1.out.trans (hb2.mono HB1.out.size), doc_leafs, Nat.zero_le _⟩
    obtain ⟨i, c, hc, hb⟩ := hk
    match i, hc with
    | 0, hc =>
      obtain rfl : docCel = c := by simpa using hc
      cases hb
    | (i + 1), hc => simp at hc
  clear hR2 hb2 HT1 HB1
  generalize w.heap.size + 1 = t at *
  generalize w1.heap.size + 1 = u at *
  go_wp2
  go_loopw [6] (fun i wr => ∃ k : Nat, k ≤ len ∧ k ≤ 100 ∧ i = .int .i64 k ∧ Hid (MadeAt w.heap.size t u k Z w wr)) (fun i _ => 100 - (intOf i).toNat)
  case atStart => exact ⟨0, Nat.zero_le _, by omega, rfl, H0⟩
  case round =>
    clear H0
    obtain ⟨k, hk, hk2, rfl, hI⟩ := hrel
    by_cases hlt : k < len
    · by_cases hlt2 : k < 100
      · obtain ⟨ns, hns, hT, hok, hbw, hlf, htx⟩ := hI.out
        have hkI : (k : Int) < (len : Int) := by omega
        have hkI2 : (k : Int) < 100 := by omega
        have hq : Z[k]? = some (Z[k]'(by rw [HL.out]; exact hlt)) := List.getElem?_eq_getElem _
        generalize Z[k]'(by rw [HL.out]; exact hlt) = m at hq
        obtain ⟨a0, hsa, q0, q1, q2, q3, q4, q5⟩ := (HZ.out.below (hbw.mono (Nat.le_refl _))).at' k m hq
        have HMD : Hid _ := HD.out m (List.mem_of_getElem? hq)
        have HM0 : Hid (MidAt w.heap.size t u wr.heap.size ns ns m w (wr.alloc (.cells #[.int .i64 m.kind, .int .i64 m.par, .string m.name, .string m.data, .string m.attr, .string m.value] 75))) := ⟨hT.below ((Below.refl _ _).alloc (Nat.le_refl _) _), heap_alloc_new wr _, hbw.alloc hbw.size _⟩
        have hn0 : 0 < ns.length := by omega
        have hn2 : ns.length ≤ 200 := by omega
        have H1 : Hid _ := mid_make HM0.out hn2
        have HOK : Hid _ := hok
        have HNS : Hid _ := hns
        have HLF : Hid _ := hlf
        have HTX : Hid (∀ q, q < ns.length → txS (stepN ns (mdOf m q)) ≤ sumD (Z.take (k + 1))) := fun q hq2 => by
          rw [sumD_next hq]
          exact Nat.le_trans (txS_step (m := mdOf m q) hq2) (Nat.add_le_add_right htx _)
        obtain ⟨p, hp1, hp2⟩ := pos_ok m.par k hk2
        have hkne : ((k : Int) + 1 == 0) = false := by rw [beq_eq_false_iff_ne]; omega
        have hkne2 : ¬ (k : Int) + 1 = 0 := by omega
        have hkw : wrap64 ((k : Int) + 1) = (k : Int) + 1 := by unfold wrap64; omega
        subst hsa
        clear hI hT hok hbw hns hlf htx hq HZ HD HL
        simp only [mdOf, World.size_alloc] at H1
        go_wp2_with fail
        refine Calls.mono H1.out ?_
        rintro e w3 ⟨rfl, h3⟩
        have H2 : Hid _ := mid_rmake h3.out hn2
        obtain ⟨m0, m1, m2, m3, m4, m5⟩ := h3.out.box.c
        clear HM0 H1 h3 q0 q1 q2 q3 q4 q5
        simp only [mdOf] at H2
        go_wp2_with fail
        refine Calls.mono H2.out ?_
        rintro e w4 ⟨rfl, h4⟩
        have hpl : p < ns.length := by have := HNS.out; omega
        have H3 : Hid _ := mid_put (q := p) h4.out HOK.out hn0 hpl
        obtain ⟨m0, m1, m2, m3, m4, m5⟩ := h4.out.box.c
        clear H2 h4
        go_wp2_with fail
        refine Calls.mono H3.out ?_
        rintro e w5 ⟨r5, rfl, h5⟩
        have H4 : Hid _ := mid_rput (q := p) h5.out HOK.out hn0 hn2 hpl HMD.out
        clear H3 h5 m0 m1 m2 m3 m4 m5
        go_wp2_with fail
        refine Calls.mono H4.out ?_
        rintro e w6 ⟨r6, rfl, h6⟩
        have HF : Hid (MadeAt w.heap.size t u (k + 1) Z w w6) := ⟨_, by rw [stepN_len, HNS.out], h6.out.two, HOK.out.step (by rw [show ns.length - 1 = k by have := HNS.out; omega]; exact mdOk_of m p k hp1 HMD.out) (by have := hn2; omega) hn0, h6.out.below, Leafs.step HLF.out (m := mdOf m p) hpl, HTX.out p hpl⟩
        clear H4 h6
        go_wp2
        go_roundw
        case rel => exact ⟨k + 1, by omega, by omega, by go_num, HF⟩
        case measure => simp only [intOf]; go_num
      · obtain rfl : k = 100 := by omega
        have hkI : ((100 : Nat) : Int) < (len : Int) := by omega
        have HF : Hid _ := hI
        clear hI
        go_wp2
        go_ret2
        exact ⟨_, _, rfl, 100, Nat.le_refl _, HF.out⟩
    · obtain rfl : k = len := by omega
      have HF : Hid _ := hI
      clear hI
      go_wp2
      go_ret2
      exact ⟨_, _, rfl, k, hk2, HF.out⟩
end Go.Proofs.Ytjbfgiicaaljjaa
