/-
  The reference's lay and Put of a new node.
-/
import Derived.Test.YtjbfgiicaaljjaaRtOps
namespace Go.Proofs.Ytjbfgiicaaljjaa
open Go.RowKit

/-- A node behind the kids of another one. -/
structure RLayP (w : World) (t B g cap : Nat) (cs : List RCel) (n p : Nat) (c cp : RCel) (ks : List Nat) (w' : World) : Prop where
  tree : ∃ v', RTreeAt w' t B g cap ((cs.set p { cp with kids := v' }).set n { c with parent := (p : Int) }) ∧ w'.ownsRow w.heap.size 3 1 v' (ks ++ [n]).length (intC (ks ++ [n]))
  kept : Kept (fun k => k = g) w w'

theorem own_form2 {w : World} {B : Nat} {e : TypeId} {sz n : Nat} {v : Value} {xs : List Value} (h : w.ownsRow B e sz v n xs) : ∃ a c, v = .slice a n c := by
  rcases h.2 with ⟨h1, h2⟩ | ⟨g1, c1, _, h1, _⟩
  · exact ⟨none, 0, by rw [h1, h2]⟩
  · exact ⟨_, c1, h1⟩

theorem rlay_fin {w w3 : World} {t B g cap : Nat} {cs : List RCel} {n p : Nat} {c cp : RCel} {ks : List Nat} {a : Option Addr} {k cc : Nat} (hT : RTreeAt w t B g cap cs) (hn : cs[n]? = some c) (hp : cs[p]? = some cp) (hne : n ≠ p) (hb : Below w.heap.size w w3) (hown : w3.ownsRow w.heap.size 3 1 (.slice a k cc) (ks ++ [n]).length (intC (ks ++ [n]))) :
    RLayP w t B g cap cs n p c cp ks ((w3.setCell ⟨g, p * 7 + 6, none⟩ (.slice a k cc)).setCell ⟨g, n * 7 + 5, none⟩ (.int .i64 (p : Int))) := by
  have h3 := hT.below hb
  have h4 := h3.set (i := p) (j := 6) (c := cp) (c' := { cp with kids := .slice a k cc }) (u := .slice a k cc) hp (by omega) rfl
  have hn4 : (cs.set p { cp with kids := .slice a k cc })[n]? = some c := by rw [List.getElem?_set_ne (fun e => hne e.symm)]; exact hn
  have h5 := h4.set (i := n) (j := 5) (c := c) (c' := { c with parent := (p : Int) }) (u := .int .i64 (p : Int)) hn4 (by omega) rfl
  have hk : Kept (fun j => j = g) w3 ((w3.setCell ⟨g, p * 7 + 6, none⟩ (.slice a k cc)).setCell ⟨g, n * 7 + 5, none⟩ (.int .i64 (p : Int))) := ((Kept.refl (fun j => j = g) _).store ⟨g, p * 7 + 6, none⟩ rfl _).store ⟨g, n * 7 + 5, none⟩ rfl _
  refine ⟨⟨_, h5, owns_kept hown hk (fun j e e2 => ?_)⟩, (Kept.below hb).trans hk⟩
  have := (owns_lt hown j e).1
  have := hT.gB
  omega

/-- What the walk asks of the world behind the appends. -/
structure RLayW (W : World) (t g cap n p : Nat) (cs : List RCel) (kv : Value) (q : Int) : Prop where
  c0 : W.cell? ⟨t, 0, none⟩ = some (.slice (some ⟨g, 0, none⟩) cs.length cap)
  c6 : W.cell? ⟨g, p * 7 + 6, none⟩ = some kv
  f6 : W.frozen? ⟨g, p * 7 + 6, none⟩ = false
  c0b : ∀ u, (W.setCell ⟨g, p * 7 + 6, none⟩ u).cell? ⟨t, 0, none⟩ = some (.slice (some ⟨g, 0, none⟩) cs.length cap)
  c5b : ∀ u, (W.setCell ⟨g, p * 7 + 6, none⟩ u).cell? ⟨g, n * 7 + 5, none⟩ = some (.int .i64 q)
  f5b : ∀ u, (W.setCell ⟨g, p * 7 + 6, none⟩ u).frozen? ⟨g, n * 7 + 5, none⟩ = false
theorem rlayW_of {w W : World} {t B g cap n p : Nat} {cs : List RCel} {c cp : RCel} (hT : RTreeAt w t B g cap cs) (hn : cs[n]? = some c) (hp : cs[p]? = some cp) (hb : Below w.heap.size w W) : RLayW W t g cap n p cs cp.kids c.parent := by
  have h3 := hT.below hb
  refine ⟨h3.c0, h3.at hp rfl, h3.fz _, fun u => ?_, fun u => ?_, fun u => ?_⟩
  · rw [World.cell?_setCell_other _ _ _ _ (by intro e; injection e with e _ _; exact hT.ne e.symm)]
    exact h3.c0
  · rw [World.cell?_setCell_other _ _ _ _ (by intro e; injection e with _ e _; omega)]
    exact h3.at hn rfl
  · rw [World.frozen?_setCell]
    exact h3.fz _

set_option maxRecDepth 100000 in
set_option maxHeartbeats 4000000 in
theorem rLay_end (t B g cap : Nat) (cs : List RCel) (n p : Nat) (c cp : RCel) (ks : List Nat) (w : World) (hT : RTreeAt w t B g cap cs) (hn : cs[n]? = some c) (hp : cs[p]? = some cp) (hne : n ≠ p) (hO : w.ownsRow B 3 1 cp.kids ks.length (intC ks)) (hb : ks = [] → cp.kids = .slice none 0 0) (hl : ks.length ≤ 1000000) :
    Calls Try.prog 77 #[.pointer (some ⟨t, 0, none⟩), .int .i64 (n : Int), .int .i64 (p : Int), .int .i64 (-1)] w fun e w' => e = .returned (.tuple #[]) ∧ Hid (RLayP w t B g cap cs n p c cp ks w') := by
  obtain ⟨i0, hi, hz0, hz1, hz2⟩ := info_parts Try.infoInt
  obtain ⟨a, kc, hkf⟩ : ∃ a k, cp.kids = .slice a ks.length k := by
    rcases hO.2 with ⟨h1, h2⟩ | ⟨g1, c1, _, h1, _⟩
    · exact ⟨none, 0, by rw [h1, h2]⟩
    · exact ⟨_, c1, h1⟩
  have hnl := (List.getElem?_eq_some_iff.1 hn).1
  have hpl := (List.getElem?_eq_some_iff.1 hp).1
  have hnI : (n : Int) < (cs.length : Int) := by omega
  have hpI : (p : Int) < (cs.length : Int) := by omega
  have c0 := hT.c0
  have c6 : w.cell? ⟨g, p * 7 + 6, none⟩ = some (.slice a ks.length kc) := by rw [← hkf]; exact hT.at hp rfl
  have HT : Hid _ := hT
  have HF : Hid (∀ w3 a k cc, Below w.heap.size w w3 → w3.ownsRow w.heap.size 3 1 (.slice a k cc) (ks ++ [n]).length (intC (ks ++ [n])) → RLayP w t B g cap cs n p c cp ks ((w3.setCell ⟨g, p * 7 + 6, none⟩ (.slice a k cc)).setCell ⟨g, n * 7 + 5, none⟩ (.int .i64 (p : Int)))) := fun w3 a k cc h1 h2 => rlay_fin hT hn hp hne h1 h2
  rw [hkf] at hO
  have HRW : Hid (∀ W, Below w.heap.size w W → RLayW W t g cap n p cs (.slice a ks.length kc) c.parent) := fun W hb => by rw [← hkf]; exact rlayW_of hT hn hp hb
  have HP : Hid _ := rPlace_none a kc B ks w hO hl
  have HO : Hid _ := hO
  have HB : Hid (ks = [] → a = none ∧ kc = 0) := fun e => by
    have := hb e
    rw [hkf] at this
    injection this with h1 _ h3
    exact ⟨h1, h3⟩
  have hle : B ≤ w.heap.size := hT.le
  have hroom : ks.length ≤ kc := by
    rcases hO.2 with ⟨h1, h2⟩ | ⟨g1, c1, _, h1, _, _, h2, _⟩
    · omega
    · injection h1 with _ _ e; omega
  have hroomI : (ks.length : Int) ≤ (kc : Int) := by omega
  clear hT hn hp hO hb hkf hnl hpl
  cases ks with
  | nil =>
    obtain ⟨rfl, rfl⟩ := HB.out rfl
    simp only [List.length_nil] at *
    clear hroom hroomI HB hl
    go_enter Try.func77, Try.ntmps77
    go_wp2_with fail
    refine Calls.mono HP.out ?_
    rintro e w1 ⟨rfl, hw1⟩
    subst hw1
    clear HP
    go_wp2_with (first
      | (at_builtin; refine wpList_append_lies _ rfl _ _ 30 rfl w1.heap.size 3 i0 (.int .i64 0) 1 8 Try.underlying30 hi hz0 hz1 hz2 rfl (by decide) (.slice none 0 0) 0 [] rfl (World.ownsRow_nil _ _ _ _) ⟨w1.heap.size, 0, none⟩ 1 1 [.int .i64 (n : Int)] rfl rfl (cell_one_new _ _ _) (ints_oneCell .i64 [(n : Int)]) (by omega) (by unfold maxLen; omega) (by omega) (by simp) _ rfl ?_; intro g2 c2 w2 hown' hgrow' hat hlt2; have HB2 : Hid (Below w1.heap.size w1 w2) := ((Below.refl _ _).alloc (Nat.le_refl _) _).grown hgrow' (by simp) (fun j e => by cases e); have HR := HRW.out w2 HB2.out; have k0 := HR.c0; have k6 := HR.c6; have z6 := HR.f6; have k0b := HR.c0b; have z5 := HR.f5b; have k5b := HR.c5b; have HX : Hid (w2.ownsRow w1.heap.size 3 1 (.slice (some ⟨g2, 0, none⟩) 1 c2) 1 [.int .i64 (n : Int)]) := hown'; clear hown' hgrow' hat hlt2 HR HRW)
      | (at_builtin; refine wpList_append_own_none rfl _ _ 30 rfl w1.heap.size 3 i0 1 Try.underlying30 hi _ _ _ rfl HX.out rfl ?_))
    go_end0
    exact ⟨rfl, HF.out w2 _ 1 c2 HB2.out HX.out⟩
  | cons k0 kr =>
    have HN : Hid (0 < (k0 :: kr).length) := Nat.succ_pos _
    obtain ⟨gk, hga⟩ : ∃ gk, a = some ⟨gk, 0, none⟩ := by
      rcases HO.out.2 with ⟨e1, e2⟩ | ⟨g1, c1, cur, e1, _⟩
      · cases e2
      · injection e1 with e1 _ _
        exact ⟨g1, e1⟩
    subst hga
    have HCK : Hid (∀ j u, (intC (k0 :: kr))[j]? = some u → w.cell? ((⟨gk, 0, none⟩ : Addr).add j) = some u) := fun j u hj => World.ownsRow.cells HO.out rfl j u hj
    have HLK : Hid ((intC (k0 :: kr)).length = (k0 :: kr).length * 1) := by show (intC (k0 :: kr)).length = _; unfold intC; rw [List.length_map, Nat.mul_one]
    have HOK : Hid (∀ u ∈ intC (k0 :: kr), u.oneCell' = true) := fun u hu => by
      unfold intC at hu
      rw [List.mem_map] at hu
      obtain ⟨q, _, rfl⟩ := hu
      rfl
    have HIC : Hid (intC ((k0 :: kr) ++ [n]) = intC (k0 :: kr) ++ [.int .i64 (n : Int)]) := (by simp [intC] : intC ((k0 :: kr) ++ [n]) = _)
    have HLC : Hid (((k0 :: kr) ++ [n]).length = (k0 :: kr).length + 1) := (by simp : ((k0 :: kr) ++ [n]).length = _)
    rw [HIC.out, HLC.out] at HF
    clear HB HO HIC HLC
    generalize intC (k0 :: kr) = KC at *
    generalize (k0 :: kr).length = L at *
    generalize k0 :: kr = ks at *
    have hLI : (0 : Int) < (L : Int) := by have := HN.out; omega
    by_cases hLk : L = kc
    · subst hLk
      go_enter Try.func77, Try.ntmps77
      go_wp2_with fail
      refine Calls.mono HP.out ?_
      rintro e w1 ⟨rfl, hw1⟩
      subst hw1
      clear HP
      go_wp2_with (first
        | (at_builtin; refine wpList_append_lies _ rfl _ _ 30 rfl w1.heap.size 3 i0 (.int .i64 0) 1 8 Try.underlying30 hi hz0 hz1 hz2 rfl (by decide) (.slice none 0 0) 0 [] rfl (World.ownsRow_nil _ _ _ _) ⟨gk, 0, none⟩ L L KC rfl HLK.out HCK.out HOK.out HN.out (by unfold maxLen; omega) (by omega) (Nat.le_refl _) _ rfl ?_; intro g2 c2 w2 hown' hgrow' hat hlt2; have HB2 : Hid (Below w1.heap.size w1 w2) := (Below.refl _ _).grown hgrow' (Nat.le_refl _) (fun j e => by cases e); have HR := HRW.out w2 HB2.out; have j0 := HR.c0; have j6 := HR.c6; have HX : Hid (w2.ownsRow w1.heap.size 3 1 (.slice (some ⟨g2, 0, none⟩) L c2) L KC) := (by simpa using hown' : w2.ownsRow w1.heap.size 3 1 (.slice (some ⟨g2, 0, none⟩) L c2) L KC); clear hown' hgrow' hat hlt2 HR)
        | (at_builtin; refine wpList_append_lies _ rfl _ _ 30 rfl w1.heap.size 3 i0 (.int .i64 0) 1 8 Try.underlying30 hi hz0 hz1 hz2 rfl (by decide) (.slice (some ⟨g2, 0, none⟩) L c2) L KC rfl (World.ownsRow.alloc HX.out _) ⟨w2.heap.size, 0, none⟩ 1 1 [.int .i64 (n : Int)] rfl rfl (cell_one_new _ _ _) (ints_oneCell .i64 [(n : Int)]) (by omega) (by unfold maxLen; omega) (by omega) (by have := HB2.out.size; simp; omega) _ rfl ?_; intro g3 c3 w3 hown' hgrow' hat hlt2; have HB3 : Hid (Below w1.heap.size w1 w3) := (HB2.out.alloc HB2.out.size _).grown hgrow' (by have := HB2.out.size; simp; omega) (fun j e => (owns_lt HX.out j e).1); have HR := HRW.out w3 HB3.out; have l0 := HR.c0; have l6 := HR.c6; have HX3 : Hid (w3.ownsRow w1.heap.size 3 1 (.slice (some ⟨g3, 0, none⟩) (L + 1) c3) (L + 1) (KC ++ [.int .i64 (n : Int)])) := hown'; clear hown' hgrow' hat hlt2 HR j0 j6)
        | (at_builtin; refine wpList_append_own _ rfl _ _ 30 rfl w1.heap.size 3 i0 (.int .i64 0) 1 8 Try.underlying30 hi hz0 hz1 hz2 rfl (by decide) (.slice (some ⟨g3, 0, none⟩) (L + 1) c3) (L + 1) (KC ++ [.int .i64 (n : Int)]) rfl HX3.out ⟨gk, 0, none⟩ 0 0 [] rfl rfl (fun j u hj => by cases hj) (fun u hu => by cases hu) (by unfold maxLen; omega) (by omega) HB3.out.size ?_; intro v4 w4 hown' hgrow' _; obtain ⟨a4, c4, rfl⟩ := own_form2 hown'; have HB4 : Hid (Below w1.heap.size w1 w4) := HB3.out.grown hgrow' HB3.out.size (fun j e => (owns_lt HX3.out j e).1); have HR := HRW.out w4 HB4.out; have k0 := HR.c0; have k6 := HR.c6; have z6 := HR.f6; have k0b := HR.c0b; have k5b := HR.c5b; have z5 := HR.f5b; have HX4 : Hid (w4.ownsRow w1.heap.size 3 1 (.slice a4 (L + 1) c4) (L + 1) (KC ++ [.int .i64 (n : Int)])) := (by simpa using hown' : w4.ownsRow w1.heap.size 3 1 (.slice a4 (L + 1) c4) (L + 1) (KC ++ [.int .i64 (n : Int)])); clear hown' hgrow' HR l0 l6)
        | go_in)
      go_end0
      exact ⟨rfl, HF.out w4 a4 (L + 1) c4 HB4.out HX4.out⟩
    · have hLk2 : ¬ kc = L := fun e => hLk e.symm
      go_enter Try.func77, Try.ntmps77
      go_wp2_with fail
      refine Calls.mono HP.out ?_
      rintro e w1 ⟨rfl, hw1⟩
      subst hw1
      clear HP
      go_wp2_with (first
        | (at_builtin; refine wpList_append_lies _ rfl _ _ 30 rfl w1.heap.size 3 i0 (.int .i64 0) 1 8 Try.underlying30 hi hz0 hz1 hz2 rfl (by decide) (.slice none 0 0) 0 [] rfl (World.ownsRow_nil _ _ _ _) ⟨gk, 0, none⟩ L kc KC rfl HLK.out HCK.out HOK.out HN.out (by unfold maxLen; omega) (by omega) (Nat.le_refl _) _ rfl ?_; intro g2 c2 w2 hown' hgrow' hat hlt2; have HB2 : Hid (Below w1.heap.size w1 w2) := (Below.refl _ _).grown hgrow' (Nat.le_refl _) (fun j e => by cases e); have HR := HRW.out w2 HB2.out; have j0 := HR.c0; have j6 := HR.c6; have HX : Hid (w2.ownsRow w1.heap.size 3 1 (.slice (some ⟨g2, 0, none⟩) L c2) L KC) := (by simpa using hown' : w2.ownsRow w1.heap.size 3 1 (.slice (some ⟨g2, 0, none⟩) L c2) L KC); clear hown' hgrow' hat hlt2 HR)
        | (at_builtin; refine wpList_append_lies _ rfl _ _ 30 rfl w1.heap.size 3 i0 (.int .i64 0) 1 8 Try.underlying30 hi hz0 hz1 hz2 rfl (by decide) (.slice (some ⟨g2, 0, none⟩) L c2) L KC rfl (World.ownsRow.alloc HX.out _) ⟨w2.heap.size, 0, none⟩ 1 1 [.int .i64 (n : Int)] rfl rfl (cell_one_new _ _ _) (ints_oneCell .i64 [(n : Int)]) (by omega) (by unfold maxLen; omega) (by omega) (by have := HB2.out.size; simp; omega) _ rfl ?_; intro g3 c3 w3 hown' hgrow' hat hlt2; have HB3 : Hid (Below w1.heap.size w1 w3) := (HB2.out.alloc HB2.out.size _).grown hgrow' (by have := HB2.out.size; simp; omega) (fun j e => (owns_lt HX.out j e).1); have HR := HRW.out w3 HB3.out; have l0 := HR.c0; have l6 := HR.c6; have HX3 : Hid (w3.ownsRow w1.heap.size 3 1 (.slice (some ⟨g3, 0, none⟩) (L + 1) c3) (L + 1) (KC ++ [.int .i64 (n : Int)])) := hown'; clear hown' hgrow' hat hlt2 HR j0 j6)
        | (at_builtin; refine wpList_append_own _ rfl _ _ 30 rfl w1.heap.size 3 i0 (.int .i64 0) 1 8 Try.underlying30 hi hz0 hz1 hz2 rfl (by decide) (.slice (some ⟨g3, 0, none⟩) (L + 1) c3) (L + 1) (KC ++ [.int .i64 (n : Int)]) rfl HX3.out ⟨gk, L, none⟩ 0 (kc - L) [] rfl rfl (fun j u hj => by cases hj) (fun u hu => by cases hu) (by unfold maxLen; omega) (by omega) HB3.out.size ?_; intro v4 w4 hown' hgrow' _; obtain ⟨a4, c4, rfl⟩ := own_form2 hown'; have HB4 : Hid (Below w1.heap.size w1 w4) := HB3.out.grown hgrow' HB3.out.size (fun j e => (owns_lt HX3.out j e).1); have HR := HRW.out w4 HB4.out; have k0 := HR.c0; have k6 := HR.c6; have z6 := HR.f6; have k0b := HR.c0b; have k5b := HR.c5b; have z5 := HR.f5b; have HX4 : Hid (w4.ownsRow w1.heap.size 3 1 (.slice a4 (L + 1) c4) (L + 1) (KC ++ [.int .i64 (n : Int)])) := (by simpa using hown' : w4.ownsRow w1.heap.size 3 1 (.slice a4 (L + 1) c4) (L + 1) (KC ++ [.int .i64 (n : Int)])); clear hown' hgrow' HR l0 l6)
        | go_in)
      go_end0
      exact ⟨rfl, HF.out w4 a4 (L + 1) c4 HB4.out HX4.out⟩
end Go.Proofs.Ytjbfgiicaaljjaa
