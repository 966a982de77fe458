/-
  The elements under a node; the one around.
-/
import Derived.Test.YtjbfgiicaaljjaaTuUnd
import Derived.Test.YtjbfgiicaaljjaaTfMath
namespace Go.Proofs.Ytjbfgiicaaljjaa
open Go.RowKit

theorem und_visits (ns : List Nd) (w : World) (na : Option Addr) (nn nc : Nat) (nm : List ByteArray) (hnm : NmAt w na nn nm) (hnl : nm.length ≤ 1000) (nb ob : Nat) : Visits 46 #[.pointer (some ⟨nb, 0, none⟩), .pointer (some ⟨ob, 0, none⟩)] ns (fun vs => vs.length ≤ 1000001) w (UndI w nb ob na nn nc nm ns) := by
  refine ⟨fun a b h => by have := h; rw [List.length_append] at this; omega, enters_und, fun vs o wa wb h hb => h.stab hb, fun vs o w' h => ⟨h.below, fun k hk => ?_⟩, fun vs o w' k x av h hx hl => ?_⟩
  · obtain ⟨⟨a, c, h1, h2, h3⟩, _, hbel, hlo, _, _⟩ := h
    rcases (h3 k).1 hk with e | e
    · rw [e]; exact ⟨hlo, (Array.getElem?_eq_some_iff.1 h1).1⟩
    · exact owns_lt h2 k e
  · refine (und_call w nb ob na nn nc nm ns hnm vs o w' k x av h hx (by have := hl; rw [List.length_append, List.length_singleton] at this; omega) hnl).mono ?_
    rintro e w'' ⟨he, h2⟩
    exact ⟨he, h2.out⟩

set_option maxRecDepth 100000 in
set_option maxHeartbeats 4000000 in
theorem under_in (t B g cap : Nat) (ns : List Nd) (cs : List Cel) (na : Option Addr) (nn nc : Nat) (nm : List ByteArray) (n : Nat) (w : World) (hT : FamAt w t B g cap ns cs) (hok : NsTree ns) (hnm : NmAt w na nn nm) (hnl : nm.length ≤ 1000) (hn : n < ns.length) :
    Calls Try.prog 19 #[.pointer (some ⟨t, 0, none⟩), .int .i64 (n : Int), .slice na nn nc] w fun e w' => ∃ a c, e = .returned (.slice a (selL ns nm (undL ns ns.length n)).length c) ∧ Hid (w'.ownsRow w.heap.size 3 1 (.slice a (selL ns nm (undL ns ns.length n)).length c) (selL ns nm (undL ns ns.length n)).length (intC (selL ns nm (undL ns ns.length n))) ∧ Below w.heap.size w w') := by
  have HI0 : Hid (UndI w w.heap.size (w.heap.size + 1) na nn nc nm ns [] (fun b => b = w.heap.size + 1) ((w.alloc (.cells #[.slice na nn nc] 23)).alloc (.cells #[.slice none 0 0] 30))) := by
    refine ⟨⟨none, 0, ?_, World.ownsRow_nil _ _ _ _, fun b => ?_⟩, ?_, ((Below.refl _ _).alloc (Nat.le_refl _) _).alloc (by simp) _, by omega, Nat.le_refl _, Nat.le_refl _⟩
    · have h := heap_alloc_new (w.alloc (.cells #[.slice na nn nc] 23)) (.cells #[.slice none 0 0] 30)
      rw [World.size_alloc] at h
      exact h
    · constructor
      · exact fun e => .inl e
      · rintro (e | e)
        · exact e
        · cases e
    · rw [heap_alloc_old _ _ (by simp)]
      exact heap_alloc_new w _
  have hlen := undL_len hok ns.length n
  have hall := hok.all
  have HE : Hid _ := each_any 46 #[.pointer (some ⟨w.heap.size, 0, none⟩), .pointer (some ⟨w.heap.size + 1, 0, none⟩)] ns cs t B g cap (fun vs => vs.length ≤ 1000001) w (UndI w w.heap.size (w.heap.size + 1) na nn nc nm ns) (und_visits ns w na nn nc nm hnm hnl w.heap.size (w.heap.size + 1)) hT hok.toNsOk ns.length n [] _ _ (by omega) hn (by simp; omega) HI0.out
  have heg := enters_und
  clear hT hok hnm hnl hn HI0 hlen hall
  generalize hVL : undL ns ns.length n = VL at *
  clear hVL
  go_enter Try.func19, Try.ntmps19
  go_wp2_with fail
  refine Calls.mono HE.out ?_
  rintro e w1 ⟨rfl, h1⟩
  obtain ⟨o', h2, _, _⟩ := h1.out
  obtain ⟨⟨a, c, hblk, hown, _⟩, _, hbel, _, _, _⟩ := h2
  rw [List.nil_append] at hblk hown
  have hc : w1.cell? ⟨w.heap.size + 1, 0, none⟩ = some (.slice a (selL ns nm VL).length c) := by simp [World.cell?, hblk]
  have HF : Hid (w1.ownsRow w.heap.size 3 1 (.slice a (selL ns nm VL).length c) (selL ns nm VL).length (intC (selL ns nm VL)) ∧ Below w.heap.size w w1) := ⟨hown, hbel⟩
  clear h1 hblk hown hbel HE
  go_wp2
  go_ret
  exact ⟨_, _, rfl, HF⟩

set_option maxRecDepth 100000 in
set_option maxHeartbeats 2000000 in
theorem elements_in (t B g cap : Nat) (ns : List Nd) (cs : List Cel) (w : World) (hT : FamAt w t B g cap ns cs) (hok : NsTree ns) (hn : 0 < ns.length) :
    Calls Try.prog 11 #[.pointer (some ⟨t, 0, none⟩)] w fun e w' => ∃ a c, e = .returned (.slice a (selL ns [] (undL ns ns.length 0)).length c) ∧ Hid (w'.ownsRow w.heap.size 3 1 (.slice a (selL ns [] (undL ns ns.length 0)).length c) (selL ns [] (undL ns ns.length 0)).length (intC (selL ns [] (undL ns ns.length 0))) ∧ Below w.heap.size w w') := by
  have HU : Hid _ := under_in t B g cap ns cs none 0 0 [] 0 w hT hok ⟨rfl, .inl rfl⟩ (Nat.zero_le _) hn
  clear hT hok hn
  generalize selL ns [] (undL ns ns.length 0) = VL at *
  go_enter Try.func11, Try.ntmps11
  go_wp2_with fail
  refine Calls.mono HU.out ?_
  rintro e w1 ⟨a, c, rfl, h1⟩
  have HB : Hid _ := h1
  clear h1 HU
  go_wp2
  go_ret
  exact ⟨_, _, rfl, HB.out⟩

/-- The one around, or none. -/
def ArdP (ns : List Nd) (nm : List ByteArray) (n : Nat) (r : Int) : Prop := r = -1 ∨ ∃ (a : Nat) (x : Nd), r = (a : Int) ∧ ns[a]? = some x ∧ selN nm x = true ∧ n ∈ undL ns ns.length a
/-- How far up. -/
def UpTo (ns : List Nd) (n : Nat) (r : Int) : Prop := r = -1 ∨ ∃ b : Nat, r = (b : Int) ∧ b < ns.length ∧ n ∈ undL ns ns.length b

theorem upTo_par {ns : List Nd} (h : NsTree ns) {n b : Nat} {x : Nd} (hx : ns[b]? = some x) (hm : n = b ∨ n ∈ undL ns ns.length b) : UpTo ns n x.parent ∧ (x.parent = -1 ∨ ∃ c : Nat, x.parent = (c : Int) ∧ c < b) := by
  rcases h.back b x hx with e | ⟨c, z, e1, e2, e3⟩
  · exact ⟨.inl e, .inl e⟩
  · have hcl := (List.getElem?_eq_some_iff.1 e2).1
    have hup := h.up c z e2 b e3
    refine ⟨.inr ⟨c, e1, hcl, ?_⟩, .inr ⟨c, e1, hup.1⟩⟩
    rcases hm with rfl | hm
    · exact undL_kid (by omega) e2 e3
    · obtain ⟨f, hf⟩ : ∃ f, ns.length = f + 1 := ⟨ns.length - 1, by omega⟩
      rw [hf]
      refine undL_mem.2 ⟨b, by unfold kidsN; rw [e2]; exact e3, .inr ?_⟩
      rw [undL_le ns h.toNsOk f b (by omega) ns.length (by omega)]
      exact hm

set_option maxRecDepth 100000 in
set_option maxHeartbeats 4000000 in
theorem around_in (t B g cap : Nat) (ns : List Nd) (cs : List Cel) (gn off nn nc : Nat) (nm : List ByteArray) (n : Nat) (w : World) (hT : FamAt w t B g cap ns cs) (hok : NsTree ns) (hnn : nn = nm.length) (hne : nm ≠ []) (hnc : ∀ j, j < nm.length → w.cell? ⟨gn, off + j, none⟩ = some (.string (nm.getD j ByteArray.empty))) (hnl : nm.length ≤ 1000) (hn : n < ns.length) :
    Calls Try.prog 17 #[.pointer (some ⟨t, 0, none⟩), .int .i64 (n : Int), .slice (some ⟨gn, off, none⟩) nn nc] w fun e w' => ∃ r, e = .returned (.int .i64 r) ∧ Hid (ArdP ns nm n r ∧ Below w.heap.size w w') := by
  have HT : Hid _ := hT
  have HOK : Hid _ := hok
  have hx : ns[n]? = some ns[n] := List.getElem?_eq_getElem hn
  have HP : Hid _ := fam_parent hT hx
  have HU0 : Hid _ := upTo_par hok hx (.inl rfl)
  have HNC : Hid (∀ w', Below w.heap.size w w' → ∀ j, j < nm.length → w'.cell? ⟨gn, off + j, none⟩ = some (.string (nm.getD j ByteArray.empty))) := fun w' hb j hj => (hb.cell (p := ⟨gn, off + j, none⟩) (World.block_lt_of_cell? _ _ (hnc j hj))).trans (hnc j hj)
  have htk : nm.take nn = nm := by rw [hnn, List.take_length]
  have HNN : Hid _ := hnn
  have HTK : Hid _ := htk
  have HEM : Hid (nm.isEmpty = false) := (by cases nm with | nil => exact absurd rfl hne | cons a b => rfl : nm.isEmpty = false)
  clear hT hok hx hnc hnn htk hne
  generalize ns[n].parent = p0 at *
  go_enter Try.func17, Try.ntmps17
  go_wp2_with fail
  refine Calls.mono HP.out ?_
  rintro e w1 ⟨rfl, hw1⟩
  subst hw1
  have H0 : Hid (UpTo ns n p0 ∧ Below w1.heap.size w1 w1) := ⟨HU0.out.1, Below.refl _ _⟩
  have hp0 : (-1 : Int) ≤ p0 := by
    rcases HU0.out.2 with e | ⟨c, e, _⟩ <;> omega
  clear HP HU0
  go_wp2
  go_loopw [1] (fun v wr => ∃ q : Int, v = .int .i64 q ∧ -1 ≤ q ∧ Hid (UpTo ns n q ∧ Below w1.heap.size w1 wr)) (fun v _ => (intOf v + 1).toNat)
  case atStart => exact ⟨p0, rfl, hp0, H0⟩
  case round =>
    clear H0
    obtain ⟨q, rfl, hq, hI⟩ := hrel
    rcases hI.out.1 with rfl | ⟨b, rfl, hb, hbu⟩
    · have HB : Hid _ := hI.out.2
      clear hI
      go_wp2
      go_ret
      exact ⟨-1, rfl, .inl rfl, HB.out⟩
    · have hx : ns[b]? = some ns[b] := List.getElem?_eq_getElem hb
      have hF := HT.out.below hI.out.2
      have hfew := HOK.out.few b ns[b] hx
      have HG : Hid _ := fam_get hF hx hfew.2.1 (by have := hfew.2.2; omega)
      have HU : Hid _ := upTo_par HOK.out hx (.inr hbu)
      have HX : Hid _ := hx
      have HBU : Hid _ := hbu
      have HB : Hid _ := hI.out.2
      have hbI : ((b : Int) != -1) = true := by rw [bne_iff_ne]; omega
      clear hI hF hx hbu hfew
      generalize ns[b] = x at *
      go_wp2_with fail
      refine Calls.mono HG.out ?_
      rintro e w2 ⟨a2, c2, rfl, h2⟩
      have HB2 : Hid (∀ o : Obj, Below w1.heap.size w1 (w2.alloc o)) := fun o => (HB.out.trans (h2.out.2.mono HB.out.size)).alloc (Nat.le_trans HB.out.size h2.out.2.size) o
      have HP2 : Hid (∀ o : Obj, _) := fun o => fam_parent (HT.out.below (HB2.out o)) HX.out
      have HC : Hid (∀ o : Obj, _) := fun o => Try.slices_Contains_string gn off nn nc nm x.name (w2.alloc o) (Nat.le_of_eq HNN.out) (by rw [HNN.out]; omega) (HNC.out _ (HB2.out o))
      rw [HTK.out] at HC
      clear h2 HG HB
      by_cases hk : x.kind = 2
      · have hsv : selN nm x = Lib.containsS nm x.name := by unfold selN; rw [HEM.out]; simp [hk]
        rw [hk] at *
        cases hcs : Lib.containsS nm x.name with
        | true =>
          rw [hcs] at HC hsv
          have HF : Hid (ArdP ns nm n (b : Int)) := .inr ⟨b, x, rfl, HX.out, hsv, HBU.out⟩
          clear HP2 hsv hcs HU
          go_wp2_with fail
          refine Calls.mono (HC.out _) ?_
          rintro e w3 ⟨rfl, hw3⟩
          subst hw3
          clear HC
          go_wp2
          go_ret
          exact ⟨_, rfl, HF.out, HB2.out _⟩
        | false =>
          rw [hcs] at HC
          clear hsv hcs
          go_wp2_with fail
          refine Calls.mono (HC.out _) ?_
          rintro e w3 ⟨rfl, hw3⟩
          subst hw3
          clear HC
          go_wp2_with fail
          refine Calls.mono (HP2.out _) ?_
          rintro e w4 ⟨rfl, hw4⟩
          subst hw4
          have HF : Hid (UpTo ns n x.parent) := HU.out.1
          have hpb : -1 ≤ x.parent ∧ x.parent < (b : Int) := by rcases HU.out.2 with e | ⟨c, e, _⟩ <;> omega
          clear HP2 HU
          go_wp2
          go_roundw
          case rel => exact ⟨x.parent, rfl, hpb.1, HF.out, HB2.out _⟩
          case measure => simp only [intOf]; omega
      · have hkb : (x.kind == 2) = false := by rw [beq_eq_false_iff_ne]; exact hk
        have HF : Hid (UpTo ns n x.parent) := HU.out.1
        have hpb : -1 ≤ x.parent ∧ x.parent < (b : Int) := by rcases HU.out.2 with e | ⟨c, e, _⟩ <;> omega
        clear HC HU
        go_wp2_with fail
        refine Calls.mono (HP2.out _) ?_
        rintro e w4 ⟨rfl, hw4⟩
        subst hw4
        clear HP2
        go_wp2
        go_roundw
        case rel => exact ⟨x.parent, rfl, hpb.1, HF.out, HB2.out _⟩
        case measure => simp only [intOf]; omega
end Go.Proofs.Ytjbfgiicaaljjaa
