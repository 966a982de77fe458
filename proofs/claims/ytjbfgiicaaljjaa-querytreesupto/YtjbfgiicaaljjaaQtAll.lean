/-
  The program is answers and the reference is, of every node of a tree and of what is none.
-/
import Derived.Test.YtjbfgiicaaljjaaTwWalk
import Derived.Test.YtjbfgiicaaljjaaRtFam
import Derived.Test.YtjbfgiicaaljjaaTuUnd
import Derived.Deep.QuietTactic
import Derived.BigQuiet
import Derived.Test.YtjbfgiicaaljjaaTxOf
import Derived.Test.YtjbfgiicaaljjaaBtStep
import Derived.Test.YtjbfgiicaaljjaaTfMath
import Derived.Test.YtjbfgiicaaljjaaQvVal
import Derived.Test.YtjbfgiicaaljjaaTaAll
import Derived.Test.YtjbfgiicaaljjaaTmMade
import Derived.Test.YtjbfgiicaaljjaaQjMath
import Derived.Test.YtjbfgiicaaljjaaQuSpeaks
namespace Go.Proofs.Ytjbfgiicaaljjaa
open Go.RowKit

theorem one_row (w : World) (n : Nat) : (w.alloc (.cells #[.int .i64 (n : Int)] 3)).ownsRow w.heap.size 3 1 (.slice (some ⟨w.heap.size, 0, none⟩) 1 1) 1 (intC [n]) :=
  ⟨rfl, .inr ⟨w.heap.size, 1, #[.int .i64 (n : Int)], rfl, Nat.le_refl _, heap_alloc_new w _, Nat.le_refl _, by unfold maxLen; omega, rfl, rfl⟩⟩
theorem intC_one (L : List Nat) : ∀ u ∈ intC L, u.oneCell' = true := fun u hu => by
  unfold intC at hu
  rw [List.mem_map] at hu
  obtain ⟨q, _, rfl⟩ := hu
  rfl
theorem intC_append (a b : List Nat) : intC (a ++ b) = intC a ++ intC b := by simp [intC]
theorem intC_len (a : List Nat) : (intC a).length = a.length := by simp [intC]

/-- A row of numbers, wherever it lies. -/
def IntsW (w : World) (a : Option Addr) (L : List Nat) : Prop := ∀ (i x : Nat), L[i]? = some x → ∃ g, a = some ⟨g, 0, none⟩ ∧ w.cell? ⟨g, i, none⟩ = some (.int .i64 (x : Int))
theorem intsW_of {w : World} {B n c : Nat} {a : Option Addr} {L : List Nat} (h : w.ownsRow B 3 1 (.slice a n c) n (intC L)) : IntsW w a L := by
  have h1 := h.1
  rw [Nat.mul_one, intC_len] at h1
  rcases h.2 with ⟨hv, h0⟩ | ⟨g, cap, cur, hv, hg, hh, hc, rest⟩
  · intro i x hx
    have := (List.getElem?_eq_some_iff.1 hx).1
    omega
  · injection hv with e1 e2 e3
    subst e1 e3
    intro i x hx
    refine ⟨g, rfl, ?_⟩
    exact owns_at h i _ (by unfold intC; rw [List.getElem?_map, hx]; rfl)

/-- What the reference's walk has gathered. -/
structure RwAt (w : World) (n : Nat) (VL : List Nat) (a : Option Addr) (c : Nat) (wi : World) : Prop where
  own : wi.ownsRow w.heap.size 3 1 (.slice a VL.length c) VL.length (intC VL)
  below : Below w.heap.size w wi

/-- What a walk does. -/
def RWalkOk (u : Nat) (ns : List Nd) (w0 : World) (f : Nat) : Prop := ∀ (n : Nat) (w : World), Below w0.heap.size w0 w → ns.length ≤ n + f → n < ns.length →
  Calls Try.prog 37 #[.pointer (some ⟨u, 0, none⟩), .int .i64 (n : Int)] w fun e w' => ∃ a c, e = .returned (.slice a (n :: undL ns f n).length c) ∧ Hid (RwAt w n (n :: undL ns f n) a c w')

set_option maxRecDepth 100000 in
set_option maxHeartbeats 2000000 in
theorem rWalk_any (u B g cap : Nat) (ns : List Nd) (rs : List RCel) (w0 : World) (hR : RFamAt w0 u B g cap ns rs) (hok : NsTree ns) : ∀ f, RWalkOk u ns w0 f := by
  intro f
  induction f with
  | zero => intro n w _ h1 h2; omega
  | succ f ih =>
    intro n w hb hf hn
    obtain ⟨i0, hi, hz0, hz1, hz2⟩ := info_parts Try.infoInt
    obtain ⟨x, hx⟩ : ∃ x, ns[n]? = some x := ⟨_, List.getElem?_eq_getElem hn⟩
    obtain ⟨c, hc, hc1⟩ := hR.cell hx
    have hkn : kidsN ns n = x.kids := by unfold kidsN; rw [hx]
    have hun : undL ns (f + 1) n = x.kids.flatMap fun k => k :: undL ns f k := by
      show (kidsN ns n).flatMap _ = _
      rw [hkn]
    have HTOT : Hid ((x.kids.flatMap fun k => k :: undL ns f k).length ≤ 1000) := (by rw [← hun]; exact Nat.le_trans (undL_len hok _ _) hok.all : (x.kids.flatMap fun k => k :: undL ns f k).length ≤ 1000)
    have HUP : Hid (∀ k ∈ x.kids, n < k ∧ k < ns.length) := hok.up n x hx
    have hkl : x.kids.length ≤ 1000 := (hok.few n x hx).1
    obtain ⟨ka, kc, hkv⟩ : ∃ ka kc, c.kids = .slice ka x.kids.length kc := by
      rcases (hR.kids n c x hc hx).2 with ⟨e1, e2⟩ | ⟨g1, c1, _, e1, _⟩
      · exact ⟨none, 0, by rw [e1, e2]⟩
      · exact ⟨_, c1, e1⟩
    have HC : Hid (∀ wi, Below w0.heap.size w0 wi → wi.cell? ⟨u, 0, none⟩ = some (.slice (some ⟨g, 0, none⟩) rs.length cap) ∧ wi.cell? ⟨g, n * 7 + 6, none⟩ = some (.slice ka x.kids.length kc)) := fun wi hb => ⟨(hR.below hb).tree.c0, by rw [← hkv]; exact (hR.below hb).tree.at hc rfl⟩
    have HKC : Hid (∀ wi, Below w0.heap.size w0 wi → IntsW wi ka x.kids) := fun wi hb => by
      have h2 := (hR.below hb).kids n c x hc hx
      rw [hkv] at h2
      exact intsW_of h2
    have hnI : (n : Int) < (rs.length : Int) := by have := hR.len; omega
    have HB0 : Hid _ := hb
    have HIH : Hid _ := ih
    have H0 : Hid (RwAt w n [n] (some ⟨w.heap.size, 0, none⟩) 1 (w.alloc (.cells #[.int .i64 (n : Int)] 3))) := ⟨one_row w n, (Below.refl _ _).alloc (Nat.le_refl _) _⟩
    rw [hun]
    clear hR hok hc hc1 hkn hun hkv ih hb hx
    generalize x.kids = ks at *
    have HK0 : Hid ([n] = n :: (ks.take 0).flatMap fun k => k :: undL ns f k) := (by simp : [n] = _)
    go_enter Try.func37, Try.ntmps37
    go_wp2
    go_loopw [5, 6] (fun v i wi => ∃ (m : Nat) (VL : List Nat) (a : Option Addr) (ca : Nat), m ≤ ks.length ∧ v = .slice a VL.length ca ∧ i = .int .i64 m ∧ Hid (VL = (n :: (ks.take m).flatMap fun k => k :: undL ns f k) ∧ RwAt w n VL a ca wi)) (fun _ i _ => ks.length - (intOf i).toNat)
    case atStart => exact ⟨0, [n], _, 1, Nat.zero_le _, rfl, rfl, And.intro HK0.out H0.out⟩
    case round =>
      clear H0 HK0
      obtain ⟨m, VL, a, ca, hm, rfl, rfl, hI⟩ := hrel
      have HBI : Hid (Below w0.heap.size w0 wr) := HB0.out.trans (hI.out.2.below.mono HB0.out.size)
      obtain ⟨cu, ck⟩ := HC.out wr HBI.out
      by_cases hlt : m < ks.length
      · have hq : ks[m]? = some ks[m] := List.getElem?_eq_getElem hlt
        generalize ks[m] = k at hq
        obtain ⟨hnk, hkn⟩ := HUP.out k (List.mem_of_getElem? hq)
        have hmI : (m : Int) < (ks.length : Int) := by omega
        obtain ⟨gk, hgk, hck⟩ := HKC.out wr HBI.out m k hq
        subst hgk
        have HR : Hid _ := HIH.out k wr HBI.out (by omega) hkn
        have hlen := flatU_len ks m k (fun k => undL ns f k) hq
        have hVL : VL.length + (k :: undL ns f k).length ≤ 1001 := by
          have := HTOT.out
          rw [hI.out.1]
          simp only [List.length_cons]
          omega
        have HV : Hid (VL ++ (k :: undL ns f k) = n :: (ks.take (m + 1)).flatMap fun k => k :: undL ns f k) := (by rw [flat_next ks m k (fun k => undL ns f k) hq, hI.out.1]; rfl : VL ++ (k :: undL ns f k) = _)
        have HI : Hid _ := hI.out.2
        have hWp : 0 < (k :: undL ns f k).length := Nat.succ_pos _
        clear hI hq hlen
        generalize (k :: undL ns f k) = W at *
        go_wp2_with fail
        refine Calls.mono HR.out ?_
        rintro e w2 ⟨a2, c2, rfl, h2⟩
        have hWo := h2.out.own
        obtain ⟨g2, ha2⟩ : ∃ g2, a2 = some ⟨g2, 0, none⟩ := by
          rcases hWo.2 with ⟨e1, e2⟩ | ⟨g1, c1, cur, e1, _⟩
          · omega
          · injection e1 with e1 _ _
            exact ⟨g1, e1⟩
        subst ha2
        have HCW : Hid (∀ j v, (intC W)[j]? = some v → w2.cell? ((⟨g2, 0, none⟩ : Addr).add j) = some v) := fun j v hj => World.ownsRow.cells hWo rfl j v hj
        have HLW : Hid ((intC W).length = W.length * 1) := (by rw [intC_len, Nat.mul_one] : (intC W).length = W.length * 1)
        have HOWN : Hid (w2.ownsRow w.heap.size 3 1 (.slice a VL.length ca) VL.length (intC VL)) := owns_kept (out := fun _ => False) HI.out.own (Kept.below h2.out.below) (fun _ _ e => e)
        have HB2 : Hid (Below w.heap.size w w2) := HI.out.below.trans (h2.out.below.mono HI.out.below.size)
        have hsz2 := HB2.out.size
        have HLN : Hid ((VL ++ W).length = VL.length + W.length) := List.length_append
        clear h2 hWo HR HI cu ck hck
        generalize hVl : VL.length = vl at *
        generalize hWl : W.length = wl at *
        go_wp2_with (at_builtin; refine wpList_append_lies _ rfl _ _ 30 rfl w.heap.size 3 i0 (.int .i64 0) 1 8 Try.underlying30 hi hz0 hz1 hz2 rfl (by decide) (.slice a vl ca) vl (intC VL) rfl HOWN.out ⟨g2, 0, none⟩ wl c2 (intC W) rfl HLW.out HCW.out (intC_one W) hWp (by unfold maxLen; omega) (by omega) hsz2 _ rfl ?_; intro g3 c3 w3 hown' hgrow' hat hlt2; have HF : Hid (RwAt w n (VL ++ W) (some ⟨g3, 0, none⟩) c3 w3) := ⟨by rw [HLN.out, intC_append]; exact hown', HB2.out.grown hgrow' hsz2 (fun j e => (owns_lt HOWN.out j e).1)⟩; clear hown' hgrow' hat hlt2 HOWN HCW HLW)
        go_roundw
        case rel => exact ⟨m + 1, VL ++ W, _, _, by omega, by rw [HLN.out], by go_num, And.intro HV.out HF.out⟩
        case measure => simp only [intOf]; go_num
      · obtain rfl : m = ks.length := by omega
        have HF : Hid _ := hI.out.2
        have hV := hI.out.1
        rw [List.take_length] at hV
        subst hV
        clear hI
        go_wp2
        go_ret
        exact ⟨_, _, rfl, HF⟩

theorem toList_inj {x y : ByteArray} (h : x.toList = y.toList) : x = y := by
  simp only [ByteArray.toList_eq] at h
  apply ByteArray.ext
  exact Array.ext' h
theorem NmAt.get {w : World} {na : Option Addr} {nn : Nat} {nm : List ByteArray} (h : NmAt w na nn nm) {k : Nat} {y : ByteArray} (hk : nm[k]? = some y) : ∃ g off, na = some ⟨g, off, none⟩ ∧ w.cell? ⟨g, off + k, none⟩ = some (.string y) := by
  have hlt := (List.getElem?_eq_some_iff.1 hk).1
  rcases h.2 with rfl | ⟨g, off, e, hc⟩
  · cases hk
  · have := hc k hlt
    rw [List.getD_eq_getElem?_getD, hk] at this
    exact ⟨g, off, e, this⟩

set_option maxRecDepth 100000 in
set_option maxHeartbeats 2000000 in
theorem one_nm (na : Option Addr) (nn nc : Nat) (nm : List ByteArray) (x : ByteArray) (w : World) (h : NmAt w na nn nm) (hl : nm.length ≤ 1000) :
    Calls Try.prog 38 #[.slice na nn nc, .string x] w fun e w' => e = .returned (.bool (Lib.containsS nm x)) ∧ w' = w := by
  have HH : Hid _ := h
  have hn : nn ≤ 1000 := by rw [h.1]; exact hl
  have HN : Hid (nn = nm.length) := h.1
  have H0 : Hid (x ∉ nm.take 0) := (by simp : x ∉ nm.take 0)
  clear h hl
  go_enter Try.func38, Try.ntmps38
  go_wp2
  go_loopw [5] (fun i wr => ∃ k : Nat, k ≤ nn ∧ i = .int .i64 k ∧ wr = w ∧ Hid (x ∉ nm.take k)) (fun i _ => nn - (intOf i).toNat)
  case atStart => exact ⟨0, Nat.zero_le _, rfl, rfl, H0⟩
  case round =>
    clear H0
    obtain ⟨k, hk, rfl, hwr, hI⟩ := hrel
    subst hwr
    by_cases hlt : k < nn
    · have hq : nm[k]? = some (nm[k]'(by rw [← HN.out]; exact hlt)) := List.getElem?_eq_getElem _
      generalize nm[k]'(by rw [← HN.out]; exact hlt) = y at hq
      have hkI : (k : Int) < (nn : Int) := by omega
      obtain ⟨g, off, rfl, hc⟩ := NmAt.get HH.out hq
      by_cases e : y = x
      · have HT : Hid (Lib.containsS nm x = true) := (Lib.containsS_iff _ _).2 (e ▸ List.mem_of_getElem? hq)
        have hs : (y.toList == x.toList) = true := by rw [e]; simp
        clear hq hI e
        go_wp2
        go_ret
        exact ⟨by rw [HT.out]; rfl, rfl⟩
      · have HT : Hid (x ∉ nm.take (k + 1)) := (by
          rw [List.take_add_one, hq]
          intro h2
          rcases List.mem_append.1 h2 with h3 | h3
          · exact hI.out h3
          · simp at h3
            exact e h3.symm : x ∉ nm.take (k + 1))
        have hs : (y.toList == x.toList) = false := by rw [beq_eq_false_iff_ne]; exact fun h => e (toList_inj h)
        clear hq hI e
        go_wp2
        go_roundw
        case rel => exact ⟨k + 1, by omega, by go_num, by first | rfl | trivial, HT⟩
        case measure => simp only [intOf]; go_num
    · obtain rfl : k = nn := by omega
      have := hI.out
      rw [HN.out, List.take_length] at this
      have HT : Hid (Lib.containsS nm x = false) := (by
        cases h : Lib.containsS nm x
        · rfl
        · exact absurd ((Lib.containsS_iff _ _).1 h) this : Lib.containsS nm x = false)
      clear this hI
      go_wp2
      go_ret
      exact ⟨by rw [HT.out]; rfl, rfl⟩

/-- What the reference's Under has gathered. -/
structure RuAt (w : World) (OL : List Nat) (a : Option Addr) (c : Nat) (wi : World) : Prop where
  own : wi.ownsRow w.heap.size 3 1 (.slice a OL.length c) OL.length (intC OL)
  below : Below w.heap.size w wi
theorem IntsW.below {w w' : World} {a : Option Addr} {L : List Nat} (h : IntsW w a L) (hb : Below w.heap.size w w') : IntsW w' a L := fun i x hx => by
  obtain ⟨g, e, hc⟩ := h i x hx
  exact ⟨g, e, (hb.cell (p := ⟨g, i, none⟩) (World.block_lt_of_cell? _ _ hc)).trans hc⟩

theorem RuAt.next {w wi wj : World} {a : Option Addr} {OL : List Nat} {c : Nat} (h : RuAt w OL a c wi) (hb : Below wi.heap.size wi wj) : RuAt w OL a c wj := ⟨owns_kept (out := fun _ => False) h.own (Kept.below hb) (fun _ _ e => e), h.below.trans (hb.mono h.below.size)⟩
theorem RuAt.put {w wq w3 : World} {a : Option Addr} {OL : List Nat} {c ol k g3 c3 : Nat} {o : Obj} (h : RuAt w OL a c wq) (hl : OL.length = ol) (hown : w3.ownsRow w.heap.size 3 1 (.slice (some ⟨g3, 0, none⟩) (ol + 1) c3) (ol + 1) (intC OL ++ [.int .i64 (k : Int)])) (hg : (wq.alloc o).grownBy w3 (Value.slice a ol c).ownBlock) : RuAt w (OL ++ [k]) (some ⟨g3, 0, none⟩) c3 w3 := by
  subst hl
  refine ⟨?_, ?_⟩
  · rw [List.length_append, intC_append]
    exact hown
  · exact (h.below.alloc h.below.size o).grown hg (by have := h.below.size; simp; omega) (fun j e => (owns_lt h.own j e).1)

set_option maxRecDepth 100000 in
set_option maxHeartbeats 4000000 in
theorem rUnder_in (u B g cap : Nat) (ns : List Nd) (rs : List RCel) (na : Option Addr) (nn nc : Nat) (nm : List ByteArray) (n : Nat) (w : World) (hR : RFamAt w u B g cap ns rs) (hok : NsTree ns) (hnm : NmAt w na nn nm) (hnl : nm.length ≤ 1000) (hn : n < ns.length) :
    Calls Try.prog 12 #[.pointer (some ⟨u, 0, none⟩), .int .i64 (n : Int), .slice na nn nc] w fun e w' => ∃ a c, e = .returned (.slice a (selL ns nm (undL ns ns.length n)).length c) ∧ Hid (w'.ownsRow w.heap.size 3 1 (.slice a (selL ns nm (undL ns ns.length n)).length c) (selL ns nm (undL ns ns.length n)).length (intC (selL ns nm (undL ns ns.length n))) ∧ Below w.heap.size w w') := by
  obtain ⟨i0, hi, hz0, hz1, hz2⟩ := info_parts Try.infoInt
  have hlen := hR.len
  have HIS : Hid _ := rIs_any u B g cap rs (n : Int) w hR.tree
  have his : (decide ((0 : Int) ≤ (n : Int)) && decide ((n : Int) < (rs.length : Int))) = true := by
    rw [decide_eq_true (by omega), decide_eq_true (by omega)]; rfl
  rw [his] at HIS
  have HW : Hid _ := rWalk_any u B g cap ns rs w hR hok ns.length n w (Below.refl _ _) (by omega) hn
  have hul := undL_len hok ns.length n
  have hall := hok.all
  have HVL : Hid (∀ k ∈ (undL ns ns.length n), k < ns.length) := fun k hk => (undL_gt hok.toNsOk _ _ _ hk).2
  have HC : Hid (∀ wi k x, Below w.heap.size w wi → ns[k]? = some x → wi.cell? ⟨u, 0, none⟩ = some (.slice (some ⟨g, 0, none⟩) rs.length cap) ∧ wi.cell? ⟨g, k * 7, none⟩ = some (.int .i64 x.kind) ∧ wi.cell? ⟨g, k * 7 + 2, none⟩ = some (.string x.name)) := fun wi k x hb hx => by
    have h := hR.below hb
    obtain ⟨c, hc, hc1⟩ := h.cell hx
    refine ⟨h.tree.c0, ?_, ?_⟩
    · rw [← hc1.kind]; exact h.tree.at (j := 0) hc rfl
    · rw [← hc1.name]; exact h.tree.at (j := 2) hc rfl
  have HONE : Hid (∀ wi x, Below w.heap.size w wi → _) := fun wi x hb => one_nm na nn nc nm x wi (hnm.below hb) hnl
  have HNN : Hid (nn = nm.length) := hnm.1
  clear hR hok hnm hnl his
  generalize undL ns ns.length n = UL at *
  go_enter Try.func12, Try.ntmps12
  go_wp2_with fail
  refine Calls.mono HIS.out ?_
  rintro e w1 ⟨rfl, hw1⟩
  subst hw1
  clear HIS
  go_wp2_with fail
  refine Calls.mono HW.out ?_
  rintro e w2 ⟨aw, cw, rfl, h2⟩
  have H0 : Hid (RuAt w2 [] none 0 w2) := ⟨World.ownsRow_nil _ _ _ _, Below.refl _ _⟩
  have HWK : Hid (IntsW w2 aw (n :: UL)) := intsW_of h2.out.own
  have HB12 : Hid (∀ wi, Below w2.heap.size w2 wi → Below w1.heap.size w1 wi) := fun wi hb => h2.out.below.trans (hb.mono h2.out.below.size)
  have hsz12 := h2.out.below.size
  clear h2 HW
  go_wp2
  go_loopw [7, 9] (fun v i wi => ∃ (m : Nat) (OL : List Nat) (a : Option Addr) (ca : Nat), m ≤ UL.length ∧ OL.length ≤ m ∧ v = .slice a OL.length ca ∧ i = .int .i64 ((m : Int) + 1) ∧ Hid (OL = selL ns nm (UL.take m) ∧ RuAt w2 OL a ca wi)) (fun _ i _ => UL.length + 1 - (intOf i).toNat)
  case atStart => exact ⟨0, [], none, 0, Nat.zero_le _, Nat.le_refl _, rfl, rfl, And.intro rfl H0.out⟩
  case round =>
    clear H0
    obtain ⟨m, OL, a, ca, hm, hom, rfl, rfl, hI⟩ := hrel
    by_cases hlt : m < UL.length
    · have hq : UL[m]? = some UL[m] := List.getElem?_eq_getElem _
      generalize UL[m] = k at hq
      have hkl := HVL.out k (List.mem_of_getElem? hq)
      obtain ⟨x, hx⟩ : ∃ x, ns[k]? = some x := ⟨_, List.getElem?_eq_getElem hkl⟩
      have hmI : (m : Int) + 1 < ((n :: UL).length : Int) := by simp; omega
      obtain ⟨gw, hgw, hcw⟩ := (HWK.out.below hI.out.2.below) (m + 1) k (by simpa using hq)
      subst hgw
      obtain ⟨cu, ck, cn⟩ := HC.out wr k x (HB12.out wr hI.out.2.below) hx
      have HNQ : Hid (∀ q, RuAt w2 OL a ca (wr.drewN q)) := fun q => hI.out.2.next (drewN_below (Below.refl _ _) q)
      have HBQ : Hid (∀ q, Below w1.heap.size w1 (wr.drewN q)) := fun q => HB12.out _ (HNQ.out q).below
      have HBR : Hid _ := HB12.out _ hI.out.2.below
      have hszr := hI.out.2.below.size
      have HSL : Hid (selB ns nm k = selN nm x) := (by unfold selB; rw [hx] : selB ns nm k = selN nm x)
      have HSN : Hid (selL ns nm (UL.take (m + 1)) = OL ++ (if selB ns nm k then [k] else [])) := (by rw [List.take_add_one, hq, hI.out.1]; exact selL_snoc ns nm (UL.take m) k : selL ns nm (UL.take (m + 1)) = _)
      have HQM : Hid ((n :: UL)[m + 1]? = some k) := (by simpa using hq : (n :: UL)[m + 1]? = some k)
      have hcq : ∀ q, (wr.drewN q).cell? ⟨gw, m + 1, none⟩ = some (.int .i64 (k : Int)) := fun q => hcw
      have HON : Hid (∀ wi, Below w1.heap.size w1 wi → _) := fun wi hb => HONE.out wi x.name hb
      clear hI hq hx
      generalize hol : OL.length = ol at *
      have HOL : Hid (OL.length = ol) := hol
      have HOW : Hid (∀ q o, ((wr.drewN q).alloc o).ownsRow w2.heap.size 3 1 (.slice a ol ca) ol (intC OL)) := fun q o => by
        rw [← hol]
        exact World.ownsRow.alloc (HNQ.out q).own o
      have HSQ : Hid (∀ q o, w2.heap.size ≤ ((wr.drewN q).alloc o).heap.size) := fun q o => ((HNQ.out q).below.alloc (HNQ.out q).below.size o).size
      have HC1 : Hid (∀ q j v, [Value.int .i64 (k : Int)][j]? = some v → ((wr.drewN q).alloc (.cells #[.int .i64 (k : Int)] 3)).cell? ((⟨wr.heap.size, 0, none⟩ : Addr).add j) = some v) := fun q j v hj => cell_one_new (wr.drewN q) (.int .i64 (k : Int)) 3 j v hj
      clear hol
      by_cases hk2 : x.kind = 2
      · have hkb : (x.kind == 2) = true := by rw [beq_iff_eq]; exact hk2
        by_cases hn0 : nn = 0
        · have hnb : ((nn : Int) == 0) = true := by rw [beq_iff_eq]; omega
          have HTK : Hid (OL ++ [k] = selL ns nm (UL.take (m + 1))) := (by
            have : nm = [] := List.length_eq_zero_iff.1 (by rw [← HNN.out]; exact hn0)
            rw [HSN.out, HSL.out]
            unfold selN
            rw [this, hkb]
            rfl : OL ++ [k] = _)
          clear hk2 hn0
          go_upto_region 8 with fail
          go_quiet (fail)
          go_wp2_with (at_builtin; refine wpList_append_lies _ rfl _ _ 30 rfl w2.heap.size 3 i0 (.int .i64 0) 1 8 Try.underlying30 hi hz0 hz1 hz2 rfl (by decide) (.slice a ol ca) ol (intC OL) rfl (HOW.out _ _) ⟨wr.heap.size, 0, none⟩ 1 1 [.int .i64 (k : Int)] rfl rfl (HC1.out _) (ints_oneCell .i64 [(k : Int)]) (by omega) (by unfold maxLen; omega) (by omega) (HSQ.out _ _) _ rfl ?_; intro g3 c3 w3 hown' hgrow' hat hlt2; have HF : Hid (RuAt w2 (OL ++ [k]) (some ⟨g3, 0, none⟩) c3 w3) := RuAt.put (HNQ.out _) HOL.out hown' hgrow'; clear hown' hgrow' hat hlt2)
          go_roundw
          case rel => exact ⟨m + 1, OL ++ [k], _, _, by omega, by rw [List.length_append, HOL.out]; simp; omega, by rw [List.length_append, HOL.out]; rfl, by go_num, And.intro HTK.out HF.out⟩
          case measure => simp only [intOf]; go_num
        · have hnb : ((nn : Int) == 0) = false := by rw [beq_eq_false_iff_ne]; omega
          have hem : nm.isEmpty = false := by
            cases nm with
            | nil => exact absurd HNN.out hn0
            | cons a b => rfl
          have hsel : selB ns nm k = Lib.containsS nm x.name := by
            rw [HSL.out]
            unfold selN
            rw [hkb, hem]
            rfl
          cases hcs : Lib.containsS nm x.name with
          | true =>
            rw [hcs] at HON hsel
            have HTK : Hid (OL ++ [k] = selL ns nm (UL.take (m + 1))) := (by rw [HSN.out, hsel]; rfl : OL ++ [k] = _)
            clear hk2 hn0 hem hsel hcs
            go_upto_region 8 with fail
            go_quiet ((go_at_call 38; exact Calls.quiet_of_same (HON.out _ (by first | exact HBR.out | exact HBQ.out _ | exact drewN_below HBR.out _))))
            go_wp2_with (at_builtin; refine wpList_append_lies _ rfl _ _ 30 rfl w2.heap.size 3 i0 (.int .i64 0) 1 8 Try.underlying30 hi hz0 hz1 hz2 rfl (by decide) (.slice a ol ca) ol (intC OL) rfl (HOW.out _ _) ⟨wr.heap.size, 0, none⟩ 1 1 [.int .i64 (k : Int)] rfl rfl (HC1.out _) (ints_oneCell .i64 [(k : Int)]) (by omega) (by unfold maxLen; omega) (by omega) (HSQ.out _ _) _ rfl ?_; intro g3 c3 w3 hown' hgrow' hat hlt2; have HF : Hid (RuAt w2 (OL ++ [k]) (some ⟨g3, 0, none⟩) c3 w3) := RuAt.put (HNQ.out _) HOL.out hown' hgrow'; clear hown' hgrow' hat hlt2)
            go_roundw
            case rel => exact ⟨m + 1, OL ++ [k], _, _, by omega, by rw [List.length_append, HOL.out]; simp; omega, by rw [List.length_append, HOL.out]; rfl, by go_num, And.intro HTK.out HF.out⟩
            case measure => simp only [intOf]; go_num
          | false =>
            rw [hcs] at HON hsel
            have HSK : Hid (OL = selL ns nm (UL.take (m + 1))) := (by rw [HSN.out, hsel]; simp : OL = _)
            clear hk2 hn0 hem hsel hcs
            go_upto_region 8 with fail
            go_quiet ((go_at_call 38; exact Calls.quiet_of_same (HON.out _ (by first | exact HBR.out | exact HBQ.out _ | exact drewN_below HBR.out _))))
            go_wp2
            go_roundw
            case rel => exact ⟨m + 1, OL, _, _, by omega, by rw [HOL.out]; omega, by rw [HOL.out], by go_num, And.intro HSK.out (HNQ.out _)⟩
            case measure => simp only [intOf]; go_num
      · have hkb : (x.kind == 2) = false := by rw [beq_eq_false_iff_ne]; exact hk2
        have HSK : Hid (OL = selL ns nm (UL.take (m + 1))) := (by rw [HSN.out, HSL.out]; unfold selN; rw [hkb]; simp : OL = _)
        clear hk2
        go_upto_region 8 with fail
        go_quiet (fail)
        go_wp2
        go_roundw
        case rel => exact ⟨m + 1, OL, _, _, by omega, by rw [HOL.out]; omega, by rw [HOL.out], by go_num, And.intro HSK.out (HNQ.out _)⟩
        case measure => simp only [intOf]; go_num
    · obtain rfl : m = UL.length := by omega
      have HF : Hid (RuAt w2 OL a ca wr) := hI.out.2
      have hO := hI.out.1
      rw [List.take_length] at hO
      subst hO
      have hge : ¬ (UL.length : Int) + 1 < ((n :: UL).length : Int) := by simp
      clear hI
      go_wp2
      go_ret
      exact ⟨_, _, rfl, owns_base HF.out.own hsz12, HB12.out _ HF.out.below⟩

/-- Is it an element of one of the names? -/
def ardS (nm : List ByteArray) (x : Nd) : Bool := x.kind == 2 && Lib.containsS nm x.name
/-- The innermost one from a number on (the first number bounds the way up). -/
def ardN (ns : List Nd) (nm : List ByteArray) : Nat → Int → Int
  | 0, _ => -1
  | f + 1, q => match ns[q.toNat]? with
    | some x => if q < 0 then -1 else if ardS nm x then q else ardN ns nm f x.parent
    | none => -1
def ardQ (ns : List Nd) (nm : List ByteArray) (q : Int) : Int := ardN ns nm (q + 1).toNat q

theorem par_lt {ns : List Nd} (h : NsTree ns) {b : Nat} {x : Nd} (hx : ns[b]? = some x) : -1 ≤ x.parent ∧ x.parent < (b : Int) := by
  rcases h.back b x hx with e | ⟨c, z, e1, e2, e3⟩
  · omega
  · have := h.up c z e2 b e3
    omega
theorem ardN_fuel {ns : List Nd} (h : NsTree ns) (nm : List ByteArray) : ∀ (f : Nat) (q : Int), -1 ≤ q → (q + 1).toNat ≤ f → ardN ns nm f q = ardQ ns nm q := by
  intro f
  induction f using Nat.strongRecOn with
  | _ f ih =>
    intro q hq hf
    unfold ardQ
    by_cases h0 : q = -1
    · subst h0
      cases f with
      | zero => rfl
      | succ f =>
        show (match ns[(-1 : Int).toNat]? with | some x => if (-1 : Int) < 0 then -1 else if ardS nm x then -1 else ardN ns nm f x.parent | none => -1) = -1
        split <;> simp
    · obtain ⟨b, rfl⟩ : ∃ b : Nat, q = (b : Int) := ⟨q.toNat, by omega⟩
      have e : ((b : Int) + 1).toNat = b + 1 := by omega
      rw [e] at hf ⊢
      obtain ⟨f, rfl⟩ : ∃ f', f = f' + 1 := ⟨f - 1, by omega⟩
      show (match ns[(b : Int).toNat]? with | some x => if (b : Int) < 0 then -1 else if ardS nm x then (b : Int) else ardN ns nm f x.parent | none => -1) = (match ns[(b : Int).toNat]? with | some x => if (b : Int) < 0 then -1 else if ardS nm x then (b : Int) else ardN ns nm b x.parent | none => -1)
      rw [Int.toNat_natCast]
      cases hx : ns[b]? with
      | none => rfl
      | some x =>
        have hp := par_lt h hx
        simp only
        rw [ih f (by omega) x.parent hp.1 (by omega)]
        by_cases hbf : b < f + 1
        · rw [ih b hbf x.parent hp.1 (by omega)]
        · omega
theorem ardQ_none (ns : List Nd) (nm : List ByteArray) : ardQ ns nm (-1) = -1 := rfl
theorem ardQ_some {ns : List Nd} (h : NsTree ns) (nm : List ByteArray) {b : Nat} {x : Nd} (hx : ns[b]? = some x) : ardQ ns nm (b : Int) = if ardS nm x then (b : Int) else ardQ ns nm x.parent := by
  have hp := par_lt h hx
  have e : ((b : Int) + 1).toNat = b + 1 := by omega
  have h2 : ardQ ns nm (b : Int) = (match ns[(b : Int).toNat]? with | some x => if (b : Int) < 0 then -1 else if ardS nm x then (b : Int) else ardN ns nm b x.parent | none => -1) := by
    unfold ardQ
    rw [e]
    rfl
  rw [h2, Int.toNat_natCast, hx]
  simp only
  rw [if_neg (by omega), ardN_fuel h nm b x.parent hp.1 (by omega)]

set_option maxRecDepth 100000 in
set_option maxHeartbeats 2000000 in
theorem rAround_in (u B g cap : Nat) (ns : List Nd) (rs : List RCel) (na : Option Addr) (nn nc : Nat) (nm : List ByteArray) (n : Nat) (x0 : Nd) (w : World) (hR : RFamAt w u B g cap ns rs) (hok : NsTree ns) (hnm : NmAt w na nn nm) (hnl : nm.length ≤ 1000) (hx0 : ns[n]? = some x0) :
    Calls Try.prog 18 #[.pointer (some ⟨u, 0, none⟩), .int .i64 (n : Int), .slice na nn nc] w fun e w' => e = .returned (.int .i64 (ardQ ns nm x0.parent)) ∧ Below w.heap.size w w' := by
  have hn := (List.getElem?_eq_some_iff.1 hx0).1
  have hlen := hR.len
  have HIS : Hid _ := rIs_any u B g cap rs (n : Int) w hR.tree
  have his : (decide ((0 : Int) ≤ (n : Int)) && decide ((n : Int) < (rs.length : Int))) = true := by
    rw [decide_eq_true (by omega), decide_eq_true (by omega)]; rfl
  rw [his] at HIS
  have HC : Hid (∀ wi k x, Below w.heap.size w wi → ns[k]? = some x → wi.cell? ⟨u, 0, none⟩ = some (.slice (some ⟨g, 0, none⟩) rs.length cap) ∧ wi.cell? ⟨g, k * 7, none⟩ = some (.int .i64 x.kind) ∧ wi.cell? ⟨g, k * 7 + 2, none⟩ = some (.string x.name) ∧ wi.cell? ⟨g, k * 7 + 5, none⟩ = some (.int .i64 x.parent)) := fun wi k x hb hx => by
    have h := hR.below hb
    obtain ⟨c, hc, hc1⟩ := h.cell hx
    refine ⟨h.tree.c0, ?_, ?_, ?_⟩
    · rw [← hc1.kind]; exact h.tree.at (j := 0) hc rfl
    · rw [← hc1.name]; exact h.tree.at (j := 2) hc rfl
    · rw [← hc1.parent]; exact h.tree.at (j := 5) hc rfl
  have HONE : Hid (∀ wi x, Below w.heap.size w wi → _) := fun wi x hb => one_nm na nn nc nm x wi (hnm.below hb) hnl
  obtain ⟨cu, _, _, cp⟩ := HC.out w n x0 (Below.refl _ _) hx0
  have hp0 := par_lt hok hx0
  have HBK : Hid _ := hok.back
  have hup0 : x0.parent < (ns.length : Int) := by omega
  have HOK : Hid _ := hok
  generalize hV : ardQ ns nm x0.parent = V
  have H0 : Hid (ardQ ns nm x0.parent = V ∧ Below w.heap.size w w) := ⟨hV, Below.refl _ _⟩
  clear hR hnm hnl his hok hx0 hV
  generalize x0.parent = p0 at *
  go_enter Try.func18, Try.ntmps18
  go_wp2_with fail
  refine Calls.mono HIS.out ?_
  rintro e w1 ⟨rfl, hw1⟩
  subst hw1
  clear HIS
  go_wp2
  go_loopw [1] (fun v wi => ∃ q : Int, v = .int .i64 q ∧ -1 ≤ q ∧ q < (ns.length : Int) ∧ Hid (ardQ ns nm q = V ∧ Below w1.heap.size w1 wi)) (fun v _ => (intOf v + 1).toNat)
  case atStart => exact ⟨p0, rfl, hp0.1, hup0, H0⟩
  case round =>
    clear H0 cu cp
    obtain ⟨q, rfl, hq, hql, hI⟩ := hrel
    by_cases h0 : 0 ≤ q
    · obtain ⟨b, rfl⟩ : ∃ b : Nat, q = (b : Int) := ⟨q.toNat, by omega⟩
      obtain ⟨x, hx⟩ : ∃ x, ns[b]? = some x := ⟨_, List.getElem?_eq_getElem (by omega)⟩
      have hbr : (b : Int) < (rs.length : Int) := by omega
      have hpx := par_lt HOK.out hx
      have hard := ardQ_some HOK.out nm hx
      have HV : Hid ((if ardS nm x then (b : Int) else ardQ ns nm x.parent) = V) := (by rw [← hard]; exact hI.out.1 : (if ardS nm x then (b : Int) else ardQ ns nm x.parent) = V)
      have HBR : Hid _ := hI.out.2
      obtain ⟨cu, ck, cn, cp⟩ := HC.out wr b x HBR.out hx
      clear hI hx hard
      by_cases hk2 : x.kind = 2
      · have hkb : (x.kind == 2) = true := by rw [beq_iff_eq]; exact hk2
        have HON : Hid (∀ wi, Below w1.heap.size w1 wi → _) := fun wi hb => HONE.out wi x.name hb
        have hsel : ardS nm x = Lib.containsS nm x.name := by unfold ardS; rw [hkb]; rfl
        cases hcs : Lib.containsS nm x.name with
        | true =>
          rw [hcs] at HON hsel
          have HVV : Hid ((b : Int) = V) := (by rw [← HV.out, hsel]; rfl : (b : Int) = V)
          clear hk2 hsel hcs HV
          go_wp2_with fail
          refine Calls.mono (HON.out _ HBR.out) ?_
          rintro e w2 ⟨rfl, hw2⟩
          subst hw2
          clear HON
          go_wp2
          go_ret
          exact ⟨by rw [← HVV.out]; rfl, HBR.out⟩
        | false =>
          rw [hcs] at HON hsel
          have HVV : Hid (ardQ ns nm x.parent = V) := (by rw [← HV.out, hsel]; rfl : ardQ ns nm x.parent = V)
          clear hk2 hsel hcs HV
          go_wp2_with fail
          refine Calls.mono (HON.out _ HBR.out) ?_
          rintro e w2 ⟨rfl, hw2⟩
          subst hw2
          clear HON
          go_wp2
          go_roundw
          case rel => exact ⟨x.parent, rfl, hpx.1, by omega, HVV.out, HBR.out⟩
          case measure => simp only [intOf]; omega
      · have hkb : (x.kind == 2) = false := by rw [beq_eq_false_iff_ne]; exact hk2
        have hsel : ardS nm x = false := by unfold ardS; rw [hkb]; rfl
        have HVV : Hid (ardQ ns nm x.parent = V) := (by rw [← HV.out, hsel]; rfl : ardQ ns nm x.parent = V)
        clear hk2 hsel HV
        go_wp2
        go_roundw
        case rel => exact ⟨x.parent, rfl, hpx.1, by omega, HVV.out, HBR.out⟩
        case measure => simp only [intOf]; omega
    · obtain rfl : q = -1 := by omega
      have HVV : Hid (-1 = V) := hI.out.1
      have HB : Hid _ := hI.out.2
      clear hI
      go_wp2
      go_ret
      exact ⟨by rw [← HVV.out]; rfl, HB.out⟩

/-- What the reference's Text has gathered. -/
structure RxAt (w : World) (X : List UInt8) (v : Value) (wi : World) : Prop where
  own : wi.ownsRow w.heap.size 5 1 v X.length (Lib.byteCells X)
  below : Below w.heap.size w wi
theorem RxAt.next {w wi wj : World} {v : Value} {X : List UInt8} (h : RxAt w X v wi) (hb : Below wi.heap.size wi wj) : RxAt w X v wj := ⟨owns_kept (out := fun _ => False) h.own (Kept.below hb) (fun _ _ e => e), h.below.trans (hb.mono h.below.size)⟩

theorem RxAt.put {w wq w3 : World} {v v' : Value} {X Y : List UInt8} {s : ByteArray} (h : RxAt w X v wq) (hown : w3.ownsRow w.heap.size 5 1 v' (X.length + s.size) (Lib.byteCells X ++ Lib.strCells s)) (hg : wq.grownBy w3 v.ownBlock) (he : Y = X ++ s.data.toList) : RxAt w Y v' w3 := by
  have e1 : Lib.byteCells X ++ Lib.strCells s = Lib.byteCells Y := by
    rw [he, Lib.strCells_eq]
    simp [Lib.byteCells]
  have e2 : X.length + s.size = Y.length := by rw [he, List.length_append, Lib.size_eq]
  rw [e1, e2] at hown
  exact ⟨hown, h.below.grown hg h.below.size (fun j e => (owns_lt h.own j e).1)⟩

set_option maxRecDepth 100000 in
set_option maxHeartbeats 4000000 in
theorem rText_in (u B g cap : Nat) (ns : List Nd) (rs : List RCel) (n : Nat) (w : World) (hR : RFamAt w u B g cap ns rs) (hok : NsTree ns) (hn : n < ns.length) (hfit : Fits ns (n :: undL ns ns.length n)) :
    Calls Try.prog 16 #[.pointer (some ⟨u, 0, none⟩), .int .i64 (n : Int)] w fun e w' => e = .returned (.string (strN (txL ns (n :: undL ns ns.length n)))) ∧ Below w.heap.size w w' := by
  obtain ⟨i0, hi, hz0, hz1, hz2⟩ := info_parts Try.byteInfo
  have hu9 := Try.underlying9
  have hlen := hR.len
  have HIS : Hid _ := rIs_any u B g cap rs (n : Int) w hR.tree
  have his : (decide ((0 : Int) ≤ (n : Int)) && decide ((n : Int) < (rs.length : Int))) = true := by
    rw [decide_eq_true (by omega), decide_eq_true (by omega)]; rfl
  rw [his] at HIS
  have HW : Hid _ := rWalk_any u B g cap ns rs w hR hok ns.length n w (Below.refl _ _) (by omega) hn
  have hul := undL_len hok ns.length n
  have hall := hok.all
  have HVL : Hid (∀ k ∈ (n :: undL ns ns.length n), k < ns.length) := fun k hk => by
    rcases List.mem_cons.1 hk with rfl | h
    · exact hn
    · exact (undL_gt hok.toNsOk _ _ _ h).2
  have HC : Hid (∀ wi k x, Below w.heap.size w wi → ns[k]? = some x → wi.cell? ⟨u, 0, none⟩ = some (.slice (some ⟨g, 0, none⟩) rs.length cap) ∧ wi.cell? ⟨g, k * 7, none⟩ = some (.int .i64 x.kind) ∧ wi.cell? ⟨g, k * 7 + 3, none⟩ = some (.string x.data)) := fun wi k x hb hx => by
    have h := hR.below hb
    obtain ⟨c, hc, hc1⟩ := h.cell hx
    refine ⟨h.tree.c0, ?_, ?_⟩
    · rw [← hc1.kind]; exact h.tree.at (j := 0) hc rfl
    · rw [← hc1.data]; exact h.tree.at (j := 3) hc rfl
  have HFIT : Hid _ := hfit
  have hvl : (n :: undL ns ns.length n).length ≤ 1001 := by simp; omega
  clear hR hok his hul hfit
  generalize n :: undL ns ns.length n = VL at *
  go_enter Try.func16, Try.ntmps16
  go_wp2_with fail
  refine Calls.mono HIS.out ?_
  rintro e w1 ⟨rfl, hw1⟩
  subst hw1
  clear HIS
  go_wp2_with fail
  refine Calls.mono HW.out ?_
  rintro e w2 ⟨aw, cw, rfl, h2⟩
  have H0 : Hid (RxAt w2 [] (.slice none 0 0) w2) := ⟨World.ownsRow_nil _ _ _ _, Below.refl _ _⟩
  have HWK : Hid (IntsW w2 aw VL) := intsW_of h2.out.own
  have HB12 : Hid (∀ wi, Below w2.heap.size w2 wi → Below w1.heap.size w1 wi) := fun wi hb => h2.out.below.trans (hb.mono h2.out.below.size)
  clear h2 HW
  have HSZ : Hid (∀ j, (txL ns (VL.take j)).length ≤ 140737488355328) := fun j => by
    have h1 := HFIT.out
    rw [← List.take_append_drop j VL] at h1
    exact Fits.pre _ _ h1
  clear HFIT
  go_wp2
  go_loopw [5, 7] (fun s i wi => ∃ (m : Nat) (v : Value), m ≤ VL.length ∧ s = v ∧ i = .int .i64 m ∧ Hid (RxAt w2 (txL ns (VL.take m)) v wi)) (fun _ i _ => VL.length - (intOf i).toNat)
  case atStart => exact ⟨0, _, Nat.zero_le _, rfl, rfl, H0⟩
  case round =>
    clear H0
    obtain ⟨m, v, hm, hs, rfl, hI⟩ := hrel
    subst hs
    by_cases hlt : m < VL.length
    · have hq : VL[m]? = some VL[m] := List.getElem?_eq_getElem _
      generalize VL[m] = k at hq
      have hkl := HVL.out k (List.mem_of_getElem? hq)
      obtain ⟨x, hx⟩ : ∃ x, ns[k]? = some x := ⟨_, List.getElem?_eq_getElem hkl⟩
      have hmI : (m : Int) < (VL.length : Int) := by omega
      have hkI : (k : Int) < (rs.length : Int) := by omega
      obtain ⟨gw, hgw, hcw⟩ := (HWK.out.below hI.out.below) m k hq
      subst hgw
      obtain ⟨cu, ck, cn⟩ := HC.out wr k x (HB12.out wr hI.out.below) hx
      have HNQ : Hid (∀ q, RxAt w2 (txL ns (VL.take m)) u5 (wr.drewN q)) := fun q => hI.out.next (drewN_below (Below.refl _ _) q)
      have hB : txB ns k = if x.kind == 3 then x.data.data.toList else [] := by unfold txB; rw [hx]
      have HTK : Hid (txL ns (VL.take (m + 1)) = txL ns (VL.take m) ++ txB ns k) := (by rw [List.take_add_one, hq]; exact txL_snoc ns (VL.take m) k : txL ns (VL.take (m + 1)) = _)
      clear hI hq hx
      by_cases hk3 : x.kind = 3
      · have hkb : (x.kind == 3) = true := by rw [beq_iff_eq]; exact hk3
        rw [hkb, if_pos rfl] at hB
        rw [hB] at HTK
        have hln : (txL ns (VL.take m)).length + x.data.size ≤ 140737488355328 := by
          have h := HSZ.out (m + 1)
          rw [HTK.out, List.length_append] at h
          rw [Lib.size_eq]
          exact h
        clear hk3 hB
        go_upto_region 8 with fail
        go_quiet (fail)
        have HN9 : Hid (∀ q, RxAt w2 (txL ns (VL.take m)) u5 ((wr.drewN q).drew)) := fun q => (HNQ.out q).next (Below.refl _ _).drew
        have HSZ9 : Hid (∀ q, w2.heap.size ≤ ((wr.drewN q).drew).heap.size) := fun q => (HN9.out q).below.size
        go_upto_region 9 with fail
        go_region_law (refine step_append_text_lies rfl (.tmp 33) (.tmp 44) 88 9 rfl w2.heap.size 5 i0 Try.underlying88 hu9 hi hz0 hz1 hz2 u5 (txL ns (VL.take m)).length (Lib.byteCells (txL ns (VL.take m))) (by simp [Act.eval]) (HN9.out _).own x.data (by simp [Act.eval]) (by unfold maxLen; omega) hln (HSZ9.out _) (fun v' w' hown' hgrow' hat => ?_); have HF : Hid (RxAt w2 (txL ns (VL.take (m + 1))) v' w') := RxAt.put (HN9.out _) hown' hgrow' HTK.out; clear hown' hgrow' hat)
        all_goals
          go_wp2
          go_roundw
          case rel => exact ⟨m + 1, _, by omega, rfl, by go_num, HF⟩
          case measure => simp only [intOf]; go_num
      · have hkb : (x.kind == 3) = false := by rw [beq_eq_false_iff_ne]; exact hk3
        have hE : txL ns (VL.take (m + 1)) = txL ns (VL.take m) := by rw [HTK.out, hB, hkb]; simp
        have HNR : Hid (∀ q, RxAt w2 (txL ns (VL.take (m + 1))) u5 (wr.drewN q)) := fun q => by rw [hE]; exact HNQ.out q
        clear hk3 hB hE HTK
        go_upto_region 8 with fail
        go_quiet (fail)
        go_wp2
        go_roundw
        case rel => exact ⟨m + 1, _, by omega, rfl, by go_num, HNR.out _⟩
        case measure => simp only [intOf]; go_num
    · obtain rfl : m = VL.length := by omega
      have hcv := byteBack (w := wr) hI.out.own
      rw [List.take_length] at hcv
      have HF : Hid _ := HB12.out _ hI.out.below
      clear hI
      go_wp2
      go_ret
      exact ⟨rfl, HF.out⟩

theorem fam_value {w : World} {t B g cap : Nat} {ns : List Nd} {cs : List Cel} (h : FamAt w t B g cap ns cs) {n : Nat} {x : Nd} (name : ByteArray) (hx : ns[n]? = some x) (hd : x.data.size ≤ 9223372036854775807) (ha : x.atts.length ≤ 1000000) :
    Calls Try.prog 13 #[.pointer (some ⟨t, 0, none⟩), .int .i64 (n : Int), .string name] w fun e w' => e = .returned (.tuple #[.string (valR x.kind x.atts name).1, .bool (valR x.kind x.atts name).2]) ∧ Below w.heap.size w w' := by
  obtain ⟨c, hc, hc1⟩ := h.cell hx
  have H := value_in t B g cap B x.atts.length cs n c [] x.atts name w h.tree hc (by rw [hc1.data]; exact hd) (by rw [hc1.more]; exact World.ownsRow_nil _ _ _ _) (h.atts n c x hc hx) ha
  rw [hc1.kind] at H
  exact H

theorem ratts_of {w : World} {B n c : Nat} {a : Option Addr} {l : List Att} (h : w.ownsRow B 77 2 (.slice a n c) n (l.flatMap attC)) : AttsAt w a l := by
  have h1 := h.1
  rw [attflat_len] at h1
  rcases h.2 with ⟨hv, h0⟩ | ⟨g, cap, cur, hv, hg, hh, hc, rest⟩
  · injection hv with e1 e2 e3
    intro i x hx
    have := (List.getElem?_eq_some_iff.1 hx).1
    omega
  · injection hv with e1 e2 e3
    subst e1 e3
    exact fun i x hx => ⟨g, rfl, owns_at h _ _ (att_at l i x hx).1, owns_at h _ _ (att_at l i x hx).2⟩

set_option maxRecDepth 100000 in
set_option maxHeartbeats 2000000 in
theorem rValue_in (u B g cap : Nat) (ns : List Nd) (rs : List RCel) (n : Nat) (x : Nd) (name : ByteArray) (w : World) (hR : RFamAt w u B g cap ns rs) (hx : ns[n]? = some x) (ha : x.atts.length ≤ 1000) :
    Calls Try.prog 14 #[.pointer (some ⟨u, 0, none⟩), .int .i64 (n : Int), .string name] w fun e w' => e = .returned (.tuple #[.string (valR x.kind x.atts name).1, .bool (valR x.kind x.atts name).2]) ∧ Below w.heap.size w w' := by
  have hn := (List.getElem?_eq_some_iff.1 hx).1
  have hlen := hR.len
  have HIS : Hid (∀ wi, Below w.heap.size w wi → _) := fun wi hb => rIs_any u B g cap rs (n : Int) wi (hR.below hb).tree
  have his : (decide ((0 : Int) ≤ (n : Int)) && decide ((n : Int) < (rs.length : Int))) = true := by
    rw [decide_eq_true (by omega), decide_eq_true (by omega)]; rfl
  rw [his] at HIS
  obtain ⟨c, hc, hc1⟩ := hR.cell hx
  obtain ⟨aa, ac, hav⟩ : ∃ aa ac, c.attrs = .slice aa x.atts.length ac := own_form2 (hR.atts n c x hc hx)
  have HC : Hid (∀ wi, Below w.heap.size w wi → wi.cell? ⟨u, 0, none⟩ = some (.slice (some ⟨g, 0, none⟩) rs.length cap) ∧ wi.cell? ⟨g, n * 7, none⟩ = some (.int .i64 x.kind) ∧ wi.cell? ⟨g, n * 7 + 4, none⟩ = some (.slice aa x.atts.length ac) ∧ AttsAt wi aa x.atts) := fun wi hb => by
    have h := hR.below hb
    refine ⟨h.tree.c0, ?_, ?_, ?_⟩
    · rw [← hc1.kind]; exact h.tree.at (j := 0) hc rfl
    · rw [← hav]; exact h.tree.at (j := 4) hc rfl
    · have := h.atts n c x hc hx
      rw [hav] at this
      exact ratts_of this
  have hnI : (n : Int) < (rs.length : Int) := by omega
  obtain ⟨cu, ck, _, _⟩ := HC.out w (Below.refl _ _)
  have HB0 : Hid (Below w.heap.size w w) := Below.refl _ _
  have HBQ : Hid (∀ q, Below w.heap.size w (w.drewN q)) := fun q => drewN_below (Below.refl _ _) q
  clear hR hx hc hc1 hav his
  by_cases hk2 : x.kind = 2
  · have hkb : (x.kind != 2) = false := by simp [hk2]
    have hV : valR x.kind x.atts name = (match findA x.atts name with | some x => (x.value, true) | none => (⟨#[]⟩, false)) := by unfold valR; rw [if_pos hk2]; cases findA x.atts name <;> rfl
    have HV : Hid _ := hV
    clear hk2 hV
    generalize x.atts = al at *
    generalize hVV : valR x.kind al name = V at HV ⊢
    clear hVV
    go_enter Try.func14, Try.ntmps14
    go_wp2_with fail
    refine Calls.mono (HIS.out _ HB0.out) ?_
    rintro e w1 ⟨rfl, hw1⟩
    subst hw1
    have H0 : Hid (findA (al.take 0) name = none ∧ Below w1.heap.size w1 w1) := ⟨rfl, HB0.out⟩
    clear HIS
    go_wp2
    go_loopw [8] (fun i wr => ∃ k : Nat, k ≤ al.length ∧ i = .int .i64 k ∧ Hid (findA (al.take k) name = none ∧ Below w1.heap.size w1 wr)) (fun i _ => al.length - (intOf i).toNat)
    case atStart => exact ⟨0, Nat.zero_le _, rfl, H0⟩
    case round =>
      clear H0 cu ck
      obtain ⟨k, hk, rfl, hI⟩ := hrel
      obtain ⟨cu, ck, ca, hat⟩ := HC.out wr hI.out.2
      by_cases hlt : k < al.length
      · have hq : al[k]? = some al[k] := List.getElem?_eq_getElem _
        generalize al[k] = y at hq
        have hkI : (k : Int) < (al.length : Int) := by omega
        obtain ⟨ga, hga, cn, cv⟩ := hat k y hq
        subst hga
        have HS : Hid _ := findA_none_snoc hI.out.1 hq
        have HB : Hid _ := hI.out.2
        clear hI hq hat
        cases hb : (y.name.toList == name.toList) with
        | true =>
          have hf : findA al name = some y := HS.out.2 hb
          rw [hf] at HV
          have HV2 : Hid (V = (y.value, true)) := HV.out
          clear HS hf HV
          go_wp2
          go_ret2
          exact ⟨by rw [HV2.out]; rfl, HB.out⟩
        | false =>
          have HN : Hid (findA (al.take (k + 1)) name = none) := HS.out.1 hb
          clear HS
          go_wp2
          go_roundw
          case rel => exact ⟨k + 1, by omega, by go_num, HN.out, HB.out⟩
          case measure => simp only [intOf]; go_num
      · obtain rfl : k = al.length := by omega
        have hf := hI.out.1
        rw [List.take_length] at hf
        rw [hf] at HV
        have HV2 : Hid (V = (⟨#[]⟩, false)) := HV.out
        have HB : Hid _ := hI.out.2
        clear hI hat hf HV
        go_wp2
        go_ret2
        exact ⟨by rw [HV2.out]; rfl, HB.out⟩
  · have hkb : (x.kind != 2) = true := by simp [hk2]
    have hV : valR x.kind x.atts name = (⟨#[]⟩, false) := by unfold valR; rw [if_neg hk2]
    rw [hV]
    clear hk2 hV
    go_enter Try.func14, Try.ntmps14
    go_wp2_with fail
    refine Calls.mono (HIS.out _ HB0.out) ?_
    rintro e w1 ⟨rfl, hw1⟩
    subst hw1
    clear HIS
    go_wp2
    go_ret2
    exact ⟨rfl, HB0.out⟩

theorem no_nd {rs : List RCel} {n : Int} (h : n < 0 ∨ (rs.length : Int) ≤ n) : (decide (0 ≤ n) && decide (n < (rs.length : Int))) = false := by
  rcases h with h | h
  · rw [decide_eq_false (by omega), Bool.false_and]
  · rw [decide_eq_false (by omega : ¬ n < (rs.length : Int)), Bool.and_false]

set_option maxRecDepth 100000 in
theorem rUnder_out (u B g cap : Nat) (rs : List RCel) (n : Int) (v : Value) (w : World) (hT : RTreeAt w u B g cap rs) (hn : n < 0 ∨ (rs.length : Int) ≤ n) : Calls Try.prog 12 #[.pointer (some ⟨u, 0, none⟩), .int .i64 n, v] w fun e w' => e = .returned (.slice none 0 0) ∧ w' = w := by
  have HI : Hid _ := rIs_any u B g cap rs n w hT
  rw [no_nd hn] at HI
  clear hT hn
  go_enter Try.func12, Try.ntmps12
  go_wp2_with fail
  refine Calls.mono HI.out ?_
  rintro e w1 ⟨rfl, hw1⟩
  subst hw1
  clear HI
  go_wp2
  go_ret
  exact ⟨rfl, rfl⟩

set_option maxRecDepth 100000 in
theorem rAround_out (u B g cap : Nat) (rs : List RCel) (n : Int) (v : Value) (w : World) (hT : RTreeAt w u B g cap rs) (hn : n < 0 ∨ (rs.length : Int) ≤ n) : Calls Try.prog 18 #[.pointer (some ⟨u, 0, none⟩), .int .i64 n, v] w fun e w' => e = .returned (.int .i64 (-1)) ∧ w' = w := by
  have HI : Hid _ := rIs_any u B g cap rs n w hT
  rw [no_nd hn] at HI
  clear hT hn
  go_enter Try.func18, Try.ntmps18
  go_wp2_with fail
  refine Calls.mono HI.out ?_
  rintro e w1 ⟨rfl, hw1⟩
  subst hw1
  clear HI
  go_wp2
  go_ret
  exact ⟨rfl, rfl⟩

set_option maxRecDepth 100000 in
theorem rText_out (u B g cap : Nat) (rs : List RCel) (n : Int) (w : World) (hT : RTreeAt w u B g cap rs) (hn : n < 0 ∨ (rs.length : Int) ≤ n) : Calls Try.prog 16 #[.pointer (some ⟨u, 0, none⟩), .int .i64 n] w fun e w' => e = .returned (.string ⟨#[]⟩) ∧ w' = w := by
  have HI : Hid _ := rIs_any u B g cap rs n w hT
  rw [no_nd hn] at HI
  clear hT hn
  go_enter Try.func16, Try.ntmps16
  go_wp2_with fail
  refine Calls.mono HI.out ?_
  rintro e w1 ⟨rfl, hw1⟩
  subst hw1
  clear HI
  go_wp2
  go_ret
  exact ⟨rfl, rfl⟩

set_option maxRecDepth 100000 in
theorem rValue_out (u B g cap : Nat) (rs : List RCel) (n : Int) (name : ByteArray) (w : World) (hT : RTreeAt w u B g cap rs) (hn : n < 0 ∨ (rs.length : Int) ≤ n) : Calls Try.prog 14 #[.pointer (some ⟨u, 0, none⟩), .int .i64 n, .string name] w fun e w' => e = .returned (.tuple #[.string ⟨#[]⟩, .bool false]) ∧ w' = w := by
  have HI : Hid _ := rIs_any u B g cap rs n w hT
  rw [no_nd hn] at HI
  clear hT hn
  go_enter Try.func14, Try.ntmps14
  go_wp2_with fail
  refine Calls.mono HI.out ?_
  rintro e w1 ⟨rfl, hw1⟩
  subst hw1
  clear HI
  go_wp2
  go_ret2
  exact ⟨rfl, rfl⟩


/-- Both rows, between two rounds. -/
structure TwoRows (w : World) (a b : Option Addr) (L : List Nat) (wr : World) : Prop where
  left : IntsW wr a L
  right : IntsW wr b L
  below : Below w.heap.size w wr
theorem TwoRows.drew {w wr : World} {a b : Option Addr} {L : List Nat} (h : TwoRows w a b L wr) : TwoRows w a b L wr.drew := ⟨h.left, h.right, h.below.drew⟩

set_option maxRecDepth 100000 in
set_option maxHeartbeats 1000000 in
theorem ints_same (a b : Option Addr) (ca cb : Nat) (L : List Nat) (w : World) (hl : L.length ≤ 1000000) (ha : IntsW w a L) (hb : IntsW w b L) :
    Calls Try.prog 10 #[.slice a L.length ca, .slice b L.length cb] w fun e w' => e = .returned (.bool true) ∧ Below w.heap.size w w' := by
  have H0 : Hid (TwoRows w a b L w) := ⟨ha, hb, Below.refl _ _⟩
  clear ha hb
  go_enter Try.func10, Try.ntmps10
  go_wp2
  go_loopw [5] (fun i wr => ∃ k : Nat, k ≤ L.length ∧ i = .int .i64 k ∧ Hid (TwoRows w a b L wr)) (fun i _ => L.length - (intOf i).toNat)
  case atStart => exact ⟨0, Nat.zero_le _, rfl, H0⟩
  case round =>
    clear H0
    obtain ⟨k, hk, rfl, hI⟩ := hrel
    by_cases hlt : k < L.length
    · have hq : L[k]? = some L[k] := List.getElem?_eq_getElem _
      generalize L[k] = y at hq
      have hkI : (k : Int) < (L.length : Int) := by omega
      obtain ⟨ga, hga, hca⟩ := hI.out.left k y hq
      obtain ⟨gb, hgb, hcb⟩ := hI.out.right k y hq
      subst hga hgb
      have HN : Hid _ := hI.out.drew
      clear hI hq
      go_wp2_with fail
      go_region
      go_wp2
      go_roundw
      case rel => exact ⟨k + 1, by omega, by go_num, HN⟩
      case measure => simp only [intOf]; go_num
    · obtain rfl : k = L.length := by omega
      have HB : Hid _ := hI.out.below
      clear hI
      go_wp2
      go_ret
      exact ⟨rfl, HB.out⟩

set_option maxRecDepth 100000 in
set_option maxHeartbeats 4000000 in
theorem around_gen (t B g cap : Nat) (ns : List Nd) (cs : List Cel) (na : Option Addr) (nn nc : Nat) (nm : List ByteArray) (n : Nat) (x0 : Nd) (w : World) (hT : FamAt w t B g cap ns cs) (hok : NsTree ns) (hC : ∀ w' x, Below w.heap.size w w' → Calls Try.prog 45 #[.slice na nn nc, .string x] w' fun e w'' => e = .returned (.bool (Lib.containsS nm x)) ∧ w'' = w') (hx0 : ns[n]? = some x0) :
    Calls Try.prog 17 #[.pointer (some ⟨t, 0, none⟩), .int .i64 (n : Int), .slice na nn nc] w fun e w' => e = .returned (.int .i64 (ardQ ns nm x0.parent)) ∧ Hid (Below w.heap.size w w') := by
  have HT : Hid _ := hT
  have HOK : Hid _ := hok
  have hn := (List.getElem?_eq_some_iff.1 hx0).1
  have HP : Hid _ := fam_parent hT hx0
  have HCC : Hid _ := hC
  have hp00 := par_lt hok hx0
  have hup0 : x0.parent < (ns.length : Int) := by omega
  generalize hV : ardQ ns nm x0.parent = V
  have H00 : Hid (ardQ ns nm x0.parent = V) := hV
  clear hT hok hx0 hC hV
  generalize x0.parent = p0 at *
  go_enter Try.func17, Try.ntmps17
  go_wp2_with fail
  refine Calls.mono HP.out ?_
  rintro e w1 ⟨rfl, hw1⟩
  subst hw1
  have H0 : Hid (ardQ ns nm p0 = V ∧ Below w1.heap.size w1 w1) := ⟨H00.out, Below.refl _ _⟩
  clear HP H00
  go_wp2
  go_loopw [1] (fun v wr => ∃ q : Int, v = .int .i64 q ∧ -1 ≤ q ∧ q < (ns.length : Int) ∧ Hid (ardQ ns nm q = V ∧ Below w1.heap.size w1 wr)) (fun v _ => (intOf v + 1).toNat)
  case atStart => exact ⟨p0, rfl, hp00.1, hup0, H0⟩
  case round =>
    clear H0
    obtain ⟨q, rfl, hq, hql, hI⟩ := hrel
    by_cases hq1 : q = -1
    · subst hq1
      have HVV : Hid (-1 = V) := hI.out.1
      have HB : Hid _ := hI.out.2
      clear hI
      go_wp2
      go_ret
      exact ⟨by rw [← HVV.out]; rfl, HB⟩
    · obtain ⟨b, rfl⟩ : ∃ b : Nat, q = (b : Int) := ⟨q.toNat, by omega⟩
      obtain ⟨x, hx⟩ : ∃ x, ns[b]? = some x := ⟨_, List.getElem?_eq_getElem (by omega)⟩
      have hF := HT.out.below hI.out.2
      have hfew := HOK.out.few b x hx
      have HG : Hid _ := fam_get hF hx hfew.2.1 (by have := hfew.2.2; omega)
      have HX : Hid _ := hx
      have HB : Hid _ := hI.out.2
      have hbI : ((b : Int) != -1) = true := by rw [bne_iff_ne]; omega
      have hpx := par_lt HOK.out hx
      have hard := ardQ_some HOK.out nm hx
      have HV : Hid ((if ardS nm x then (b : Int) else ardQ ns nm x.parent) = V) := (by rw [← hard]; exact hI.out.1 : (if ardS nm x then (b : Int) else ardQ ns nm x.parent) = V)
      clear hI hF hx hfew hard
      go_wp2_with fail
      refine Calls.mono HG.out ?_
      rintro e w2 ⟨a2, c2, rfl, h2⟩
      have HB2 : Hid (∀ o : Obj, Below w1.heap.size w1 (w2.alloc o)) := fun o => (HB.out.trans (h2.out.2.mono HB.out.size)).alloc (Nat.le_trans HB.out.size h2.out.2.size) o
      have HP2 : Hid (∀ o : Obj, _) := fun o => fam_parent (HT.out.below (HB2.out o)) HX.out
      have HC : Hid (∀ o : Obj, _) := fun o => HCC.out (w2.alloc o) x.name (HB2.out o)
      clear h2 HG HB
      by_cases hk : x.kind = 2
      · have hsv : ardS nm x = Lib.containsS nm x.name := by unfold ardS; simp [hk]
        rw [hk] at *
        cases hcs : Lib.containsS nm x.name with
        | true =>
          rw [hcs] at HC hsv
          have HF : Hid ((b : Int) = V) := (by rw [← HV.out, hsv]; rfl : (b : Int) = V)
          clear HP2 hsv hcs HV
          go_wp2_with fail
          refine Calls.mono (HC.out _) ?_
          rintro e w3 ⟨rfl, hw3⟩
          subst hw3
          clear HC
          go_wp2
          go_ret
          exact ⟨by rw [← HF.out]; rfl, HB2.out _⟩
        | false =>
          rw [hcs] at HC hsv
          have HF : Hid (ardQ ns nm x.parent = V) := (by rw [← HV.out, hsv]; rfl : ardQ ns nm x.parent = V)
          clear hsv hcs HV
          go_wp2_with fail
          refine Calls.mono (HC.out _) ?_
          rintro e w3 ⟨rfl, hw3⟩
          subst hw3
          clear HC
          go_wp2_with fail
          refine Calls.mono (HP2.out _) ?_
          rintro e w4 ⟨rfl, hw4⟩
          subst hw4
          clear HP2
          go_wp2
          go_roundw
          case rel => exact ⟨x.parent, rfl, hpx.1, by omega, HF.out, HB2.out _⟩
          case measure => simp only [intOf]; omega
      · have hkb : (x.kind == 2) = false := by rw [beq_eq_false_iff_ne]; exact hk
        have hsv : ardS nm x = false := by unfold ardS; rw [hkb]; rfl
        have HF : Hid (ardQ ns nm x.parent = V) := (by rw [← HV.out, hsv]; rfl : ardQ ns nm x.parent = V)
        clear HC hsv HV
        go_wp2_with fail
        refine Calls.mono (HP2.out _) ?_
        rintro e w4 ⟨rfl, hw4⟩
        subst hw4
        clear HP2
        go_wp2
        go_roundw
        case rel => exact ⟨x.parent, rfl, hpx.1, by omega, HF.out, HB2.out _⟩
        case measure => simp only [intOf]; omega
theorem around_ex (t B g cap : Nat) (ns : List Nd) (cs : List Cel) (gn off nn nc : Nat) (nm : List ByteArray) (n : Nat) (x0 : Nd) (w : World) (hT : FamAt w t B g cap ns cs) (hok : NsTree ns) (hnn : nn = nm.length) (hnc : ∀ j, j < nm.length → w.cell? ⟨gn, off + j, none⟩ = some (.string (nm.getD j ByteArray.empty))) (hnl : nm.length ≤ 1000) (hx0 : ns[n]? = some x0) :
    Calls Try.prog 17 #[.pointer (some ⟨t, 0, none⟩), .int .i64 (n : Int), .slice (some ⟨gn, off, none⟩) nn nc] w fun e w' => e = .returned (.int .i64 (ardQ ns nm x0.parent)) ∧ Hid (Below w.heap.size w w') := by
  refine around_gen t B g cap ns cs (some ⟨gn, off, none⟩) nn nc nm n x0 w hT hok (fun w' x hb => ?_) hx0
  have h := Try.slices_Contains_string gn off nn nc nm x w' (Nat.le_of_eq hnn) (by rw [hnn]; omega) (fun j hj => (hb.cell (p := ⟨gn, off + j, none⟩) (World.block_lt_of_cell? _ _ (hnc j hj))).trans (hnc j hj))
  have htk : nm.take nn = nm := by rw [hnn, List.take_length]
  rw [htk] at h
  exact h

set_option maxRecDepth 100000 in
set_option maxHeartbeats 1000000 in
theorem index_zero (na : Option Addr) (nc : Nat) (x : ByteArray) (w : World) : Calls Try.prog 79 #[.slice na 0 nc, .string x] w fun e w' => e = .returned (.int .i64 (-1)) ∧ w' = w := by
  go_enter Try.func79, Try.ntmps79
  go_wp2
  all_goals
    refine wp_loop_rounds 1 ?_
    rw [rounds_succ]
    go_wp2
    go_ret
    exact ⟨rfl, rfl⟩
set_option maxRecDepth 100000 in
set_option maxHeartbeats 1000000 in
theorem contains_zero (na : Option Addr) (nc : Nat) (x : ByteArray) (w : World) : Calls Try.prog 45 #[.slice na 0 nc, .string x] w fun e w' => e = .returned (.bool false) ∧ w' = w := by
  have HI : Hid _ := index_zero na nc x w
  go_enter Try.func45, Try.ntmps45
  go_wp2_with fail
  refine Calls.mono HI.out ?_
  rintro e w1 ⟨rfl, hw1⟩
  subst hw1
  clear HI
  go_wp2
  go_ret
  exact ⟨rfl, rfl⟩
theorem contains_nil (x : ByteArray) : Lib.containsS [] x = false := by
  cases h : Lib.containsS [] x
  · rfl
  · have := (Lib.containsS_iff _ _).1 h
    cases this
theorem around_nm (t B g cap : Nat) (ns : List Nd) (cs : List Cel) (na : Option Addr) (nn nc : Nat) (nm : List ByteArray) (n : Nat) (x0 : Nd) (w : World) (hT : FamAt w t B g cap ns cs) (hok : NsTree ns) (hnm : NmAt w na nn nm) (hnl : nm.length ≤ 1000) (hx0 : ns[n]? = some x0) :
    Calls Try.prog 17 #[.pointer (some ⟨t, 0, none⟩), .int .i64 (n : Int), .slice na nn nc] w fun e w' => e = .returned (.int .i64 (ardQ ns nm x0.parent)) ∧ Hid (Below w.heap.size w w') := by
  obtain ⟨hnn, hc⟩ := hnm
  rcases hc with rfl | ⟨gn, off, rfl, hc⟩
  · obtain rfl : nn = 0 := hnn
    exact around_gen t B g cap ns cs na 0 nc [] n x0 w hT hok (fun w' x _ => by rw [contains_nil]; exact contains_zero na nc x w') hx0
  · exact around_ex t B g cap ns cs gn off nn nc nm n x0 w hT hok hnn hc hnl hx0

/-- No node of the tree. -/
def NoNd (cs : List Cel) (n : Int) : Prop := n < 0 ∨ (cs.length : Int) ≤ n

set_option maxRecDepth 100000 in
theorem get_out (t B g cap : Nat) (cs : List Cel) (n : Int) (w : World) (hT : TreeAt w t B g cap cs) (hn : NoNd cs n) : Calls Try.prog 20 #[.pointer (some ⟨t, 0, none⟩), .int .i64 n] w fun e w' => e = .returned (.tuple #[.agg #[.int .i64 0, .int .i64 0, .string ⟨#[]⟩, .string ⟨#[]⟩, .slice none 0 0], .bool false]) ∧ Below w.heap.size w w' := by
  have HB : Hid (∀ o, Below w.heap.size w (w.alloc o)) := fun o => (Below.refl _ _).alloc (Nat.le_refl _) o
  have HB0 : Hid (Below w.heap.size w w) := Below.refl _ _
  have HB2 : Hid (∀ o o', Below w.heap.size w ((w.alloc o).alloc o')) := fun o o' => ((Below.refl _ _).alloc (Nat.le_refl _) o).alloc (by simp) o'
  have HC : Hid (∀ o, _) := fun o => has_out t B g cap cs (w.alloc o) n (hT.below (HB.out o)) hn
  have HC0 : Hid _ := has_out t B g cap cs w n hT hn
  clear hT hn
  go_enter Try.func20, Try.ntmps20
  go_wp2_with fail
  first
    | refine Calls.mono HC0.out ?_
    | refine Calls.mono (HC.out _) ?_
  rintro e w1 ⟨rfl, hw1⟩
  subst hw1
  clear HC HC0
  go_wp2
  first
    | (go_ret; exact ⟨rfl, by first | exact HB0.out | exact HB.out _ | exact HB2.out _ _⟩)
    | exact bodyPost_ret (v := .tuple #[.agg #[.int .i64 0, .int .i64 0, .string ⟨#[]⟩, .string ⟨#[]⟩, .slice none 0 0], .bool false]) (by simp [results, Try.results20, go_sem]) rfl ⟨rfl, by first | exact HB0.out | exact HB.out _ | exact HB2.out _ _⟩

set_option maxRecDepth 100000 in
theorem parent_out (t B g cap : Nat) (cs : List Cel) (n : Int) (w : World) (hT : TreeAt w t B g cap cs) (hn : NoNd cs n) : Calls Try.prog 28 #[.pointer (some ⟨t, 0, none⟩), .int .i64 n] w fun e w' => e = .returned (.int .i64 (-1)) ∧ Below w.heap.size w w' := by
  have HB : Hid (∀ o, Below w.heap.size w (w.alloc o)) := fun o => (Below.refl _ _).alloc (Nat.le_refl _) o
  have HB0 : Hid (Below w.heap.size w w) := Below.refl _ _
  have HB2 : Hid (∀ o o', Below w.heap.size w ((w.alloc o).alloc o')) := fun o o' => ((Below.refl _ _).alloc (Nat.le_refl _) o).alloc (by simp) o'
  have HC : Hid (∀ o, _) := fun o => has_out t B g cap cs (w.alloc o) n (hT.below (HB.out o)) hn
  have HC0 : Hid _ := has_out t B g cap cs w n hT hn
  clear hT hn
  go_enter Try.func28, Try.ntmps28
  go_wp2_with fail
  first
    | refine Calls.mono HC0.out ?_
    | refine Calls.mono (HC.out _) ?_
  rintro e w1 ⟨rfl, hw1⟩
  subst hw1
  clear HC HC0
  go_wp2
  first
    | (go_ret; exact ⟨rfl, by first | exact HB0.out | exact HB.out _ | exact HB2.out _ _⟩)
    | exact bodyPost_ret (v := .int .i64 (-1)) (by simp [results, Try.results28, go_sem]) rfl ⟨rfl, by first | exact HB0.out | exact HB.out _ | exact HB2.out _ _⟩

set_option maxRecDepth 100000 in
theorem kids_out (t B g cap : Nat) (cs : List Cel) (n : Int) (w : World) (hT : TreeAt w t B g cap cs) (hn : NoNd cs n) : Calls Try.prog 22 #[.pointer (some ⟨t, 0, none⟩), .int .i64 n] w fun e w' => e = .returned (.slice none 0 0) ∧ Below w.heap.size w w' := by
  have HB : Hid (∀ o, Below w.heap.size w (w.alloc o)) := fun o => (Below.refl _ _).alloc (Nat.le_refl _) o
  have HB0 : Hid (Below w.heap.size w w) := Below.refl _ _
  have HB2 : Hid (∀ o o', Below w.heap.size w ((w.alloc o).alloc o')) := fun o o' => ((Below.refl _ _).alloc (Nat.le_refl _) o).alloc (by simp) o'
  have HC : Hid (∀ o, _) := fun o => has_out t B g cap cs (w.alloc o) n (hT.below (HB.out o)) hn
  have HC0 : Hid _ := has_out t B g cap cs w n hT hn
  clear hT hn
  go_enter Try.func22, Try.ntmps22
  go_wp2_with fail
  first
    | refine Calls.mono HC0.out ?_
    | refine Calls.mono (HC.out _) ?_
  rintro e w1 ⟨rfl, hw1⟩
  subst hw1
  clear HC HC0
  go_wp2
  first
    | (go_ret; exact ⟨rfl, by first | exact HB0.out | exact HB.out _ | exact HB2.out _ _⟩)
    | exact bodyPost_ret (v := .slice none 0 0) (by simp [results, Try.results22, go_sem]) rfl ⟨rfl, by first | exact HB0.out | exact HB.out _ | exact HB2.out _ _⟩

set_option maxRecDepth 100000 in
set_option maxHeartbeats 2000000 in
theorem each_out (t B g cap : Nat) (cs : List Cel) (n : Int) (f : Value) (w : World) (hT : TreeAt w t B g cap cs) (hn : NoNd cs n) :
    Calls Try.prog 43 #[.pointer (some ⟨t, 0, none⟩), .int .i64 n, f] w fun e w' => e = .returned (.tuple #[]) ∧ Below w.heap.size w w' := by
  have HK : Hid _ := kids_out t B g cap cs n w hT hn
  clear hT hn
  go_enter Try.func43, Try.ntmps43
  go_wp2_with fail
  refine Calls.mono HK.out ?_
  rintro e w1 ⟨rfl, h1⟩
  have HB : Hid _ := h1
  clear h1 HK
  go_wp2
  go_loopg [14] 0 (fun k i wi => k = 0 ∧ i = .int .i64 0 ∧ Hid (Below w.heap.size w wi))
  case atStart => exact ⟨rfl, rfl, HB⟩
  case round =>
    clear HB
    obtain ⟨rfl, rfl, hI⟩ := hrel
    go_wp2
    go_end0
    exact ⟨rfl, hI.out⟩

set_option maxRecDepth 100000 in
set_option maxHeartbeats 2000000 in
theorem under_out (t B g cap : Nat) (cs : List Cel) (n : Int) (na : Option Addr) (nn nc : Nat) (w : World) (hT : TreeAt w t B g cap cs) (hn : NoNd cs n) : Calls Try.prog 19 #[.pointer (some ⟨t, 0, none⟩), .int .i64 n, .slice na nn nc] w fun e w' => e = .returned (.slice none 0 0) ∧ Below w.heap.size w w' := by
  have HB0 : Hid (Below w.heap.size w ((w.alloc (.cells #[.slice na nn nc] 23)).alloc (.cells #[.slice none 0 0] 30))) := ((Below.refl _ _).alloc (Nat.le_refl _) _).alloc (by simp) _
  have HE : Hid (∀ f, _) := fun f => each_out t B g cap cs n f _ (hT.below HB0.out) hn
  have HC : Hid (((w.alloc (.cells #[.slice na nn nc] 23)).alloc (.cells #[.slice none 0 0] 30)).heap[w.heap.size + 1]? = some (.cells #[.slice none 0 0] 30 (0, 0))) := by
    have h := heap_alloc_new (w.alloc (.cells #[.slice na nn nc] 23)) (.cells #[.slice none 0 0] 30)
    rw [World.size_alloc] at h
    exact h
  clear hT hn
  go_enter Try.func19, Try.ntmps19
  go_wp2_with fail
  refine Calls.mono (HE.out _) ?_
  rintro e w1 ⟨rfl, h1⟩
  have hblk := (h1.block (w.heap.size + 1) (by simp)).trans HC.out
  have hc : w1.cell? ⟨w.heap.size + 1, 0, none⟩ = some (.slice none 0 0) := by simp [World.cell?, hblk]
  have HB : Hid (Below w.heap.size w w1) := HB0.out.trans (h1.mono HB0.out.size)
  clear h1 hblk HE HB0 HC
  go_wp2
  go_ret
  exact ⟨rfl, HB.out⟩

set_option maxRecDepth 100000 in
set_option maxHeartbeats 2000000 in
theorem around_out (t B g cap : Nat) (cs : List Cel) (n : Int) (v : Value) (w : World) (hT : TreeAt w t B g cap cs) (hn : NoNd cs n) : Calls Try.prog 17 #[.pointer (some ⟨t, 0, none⟩), .int .i64 n, v] w fun e w' => e = .returned (.int .i64 (-1)) ∧ Below w.heap.size w w' := by
  have HP : Hid _ := parent_out t B g cap cs n w hT hn
  clear hT hn
  go_enter Try.func17, Try.ntmps17
  go_wp2_with fail
  refine Calls.mono HP.out ?_
  rintro e w1 ⟨rfl, h1⟩
  have HB : Hid _ := h1
  clear h1 HP
  go_wp2
  go_loopg [1] 0 (fun k i wi => k = 0 ∧ i = .int .i64 (-1) ∧ Hid (Below w.heap.size w wi))
  case atStart => exact ⟨rfl, rfl, HB⟩
  case round =>
    clear HB
    obtain ⟨rfl, rfl, hI⟩ := hrel
    go_wp2
    go_ret
    exact ⟨rfl, hI.out⟩

set_option maxRecDepth 100000 in
set_option maxHeartbeats 2000000 in
theorem value_out (t B g cap : Nat) (cs : List Cel) (n : Int) (name : ByteArray) (w : World) (hT : TreeAt w t B g cap cs) (hn : NoNd cs n) :
    Calls Try.prog 13 #[.pointer (some ⟨t, 0, none⟩), .int .i64 n, .string name] w fun e w' => e = .returned (.tuple #[.string ⟨#[]⟩, .bool false]) ∧ Below w.heap.size w w' := by
  have HBO : Hid (∀ o, Below w.heap.size w (w.alloc o)) := fun o => (Below.refl _ _).alloc (Nat.le_refl _) o
  have HG : Hid (∀ o, _) := fun o => get_out t B g cap cs n (w.alloc o) (hT.below (HBO.out o)) hn
  clear hT hn
  go_enter Try.func13, Try.ntmps13
  go_wp2_with fail
  refine Calls.mono (HG.out _) ?_
  rintro e w1 ⟨rfl, h1⟩
  have hb1 := HBO.out (.cells #[.string name] 9)
  have HB1 : Hid (Below w.heap.size w w1) := hb1.trans (h1.mono hb1.size)
  have HB2 : Hid (∀ o, Below w.heap.size w (w1.alloc o)) := fun o => HB1.out.trans (((Below.refl _ _).alloc (Nat.le_refl _) o).mono HB1.out.size)
  clear HG HBO h1 hb1 HB1
  go_wp2
  go_ret2
  exact ⟨rfl, HB2.out _⟩
set_option maxRecDepth 100000 in
set_option maxHeartbeats 2000000 in
theorem textNot_any (kid kind at' : Int) (name data : ByteArray) (av p : Value) (w : World) (hk : kind ≠ 3) :
    Calls Try.prog 41 #[.int .i64 kid, .agg #[.int .i64 kind, .int .i64 at', .string name, .string data, av], p] w fun e w' => e = .returned (.tuple #[]) ∧ Below w.heap.size w w' := by
  have HB : Hid (∀ o, Below w.heap.size w (w.alloc o)) := fun o => (Below.refl _ _).alloc (Nat.le_refl _) o
  go_enter Try.func41, Try.ntmps41
  go_wp2
  go_end0
  exact ⟨rfl, HB.out _⟩

set_option maxRecDepth 100000 in
set_option maxHeartbeats 4000000 in
theorem text_out (t B g cap : Nat) (cs : List Cel) (n : Int) (w : World) (hT : TreeAt w t B g cap cs) (hn : NoNd cs n) : Calls Try.prog 15 #[.pointer (some ⟨t, 0, none⟩), .int .i64 n] w fun e w' => e = .returned (.string ⟨#[]⟩) ∧ Below w.heap.size w w' := by
  have HBA : Hid (∀ o, Below w.heap.size w (w.alloc o)) := fun o => (Below.refl _ _).alloc (Nat.le_refl _) o
  have HG : Hid (∀ o, _) := fun o => get_out t B g cap cs n (w.alloc o) (hT.below (HBA.out o)) hn
  have HE : Hid (∀ f w', Below w.heap.size w w' → _) := fun f w' hb => each_out t B g cap cs n f w' (hT.below hb) hn
  have heg := enters_txt
  clear hT hn HBA
  have HX : Hid (∀ p w, _) := fun p w => textNot_any n 0 0 ⟨#[]⟩ ⟨#[]⟩ (.slice none 0 0) p w (by decide)
  have HB0 : Hid (Below w.heap.size w (w.alloc (.cells #[.pointer none, .slice none 0 0] 90))) := (Below.refl _ _).alloc (Nat.le_refl _) _
  have HC : Hid ((w.alloc (.cells #[.pointer none, .slice none 0 0] 90)).heap[w.heap.size]? = some (.cells #[.pointer none, .slice none 0 0] 90 (0, 0))) := heap_alloc_new w _
  go_enter Try.func15, Try.ntmps15
  go_wp2_with fail
  refine Calls.mono (HG.out _) ?_
  rintro e w1 ⟨rfl, h1⟩
  have hs1 : w.heap.size < w1.heap.size := Nat.lt_of_lt_of_le (by simp) h1.size
  have HC1 : Hid _ := (h1.block w.heap.size (by simp)).trans HC.out
  have HB1 : Hid (∀ o, Below w.heap.size w (w1.alloc o)) := fun o => (HB0.out.trans (h1.mono HB0.out.size)).alloc (by omega) o
  have HC2 : Hid (∀ o, (w1.alloc o).heap[w.heap.size]? = _) := fun o => (heap_alloc_old w1 o hs1).trans HC1.out
  clear h1 HG HB0 HC HC1
  go_wp2_with fail
  refine Calls.mono (HX.out _ _) ?_
  rintro e w2 ⟨rfl, h2⟩
  have HC3 : Hid _ := (h2.block w.heap.size (by simp; omega)).trans (HC2.out _)
  have HB2 : Hid (Below w.heap.size w w2) := (HB1.out _).trans (h2.mono (HB1.out _).size)
  have hs2 : w.heap.size < w2.heap.size := (Array.getElem?_eq_some_iff.1 HC3.out).1
  clear h2 HX HB1 HC2
  go_wp2_with fail
  refine Calls.mono (HE.out _ _ HB2.out) ?_
  rintro e w3 ⟨rfl, h3⟩
  have hC4 := (h3.block w.heap.size hs2).trans HC3.out
  have HB3 : Hid (Below w.heap.size w w3) := HB2.out.trans (h3.mono HB2.out.size)
  have HS : Hid _ := Try.Builder_String_any w.heap.size w.heap.size [] w3 (.inl ⟨Nat.le_refl _, _, hC4, World.ownsRow_nil _ _ _ _, by simp [Value.ownBlock]⟩) HB3.out.size
  clear h3 HE HC3 HB2 hC4
  go_wp2_with fail
  refine Calls.mono HS.out ?_
  rintro e w4 ⟨rfl, h4⟩
  have HB4 : Hid (Below w.heap.size w w4) := HB3.out.trans h4
  clear h4 HS HB3
  go_wp2
  go_ret
  exact ⟨rfl, HB4.out⟩

/-- Both trees, between two rounds. -/
structure QtAt (w0 : World) (t g tcap u gu ucap B : Nat) (ns : List Nd) (cs : List Cel) (rs : List RCel) (na : Option Addr) (nn : Nat) (nm : List ByteArray) (w : World) : Prop where
  dom : FamAt w t B g tcap ns cs
  ref : RFamAt w u B gu ucap ns rs
  nms : NmAt w na nn nm
  below : Below w0.heap.size w0 w
theorem QtAt.next {w0 w w' : World} {t g tcap u gu ucap B : Nat} {ns : List Nd} {cs : List Cel} {rs : List RCel} {na : Option Addr} {nn : Nat} {nm : List ByteArray} (h : QtAt w0 t g tcap u gu ucap B ns cs rs na nn nm w) (hb : Below w.heap.size w w') : QtAt w0 t g tcap u gu ucap B ns cs rs na nn nm w' := ⟨h.dom.below hb, h.ref.below hb, NmAt.below h.nms hb, h.below.trans (hb.mono h.below.size)⟩

/-- What is answered of one number, by both. -/
structure AnsOk (t u : Nat) (n : Int) (attr : ByteArray) (na : Option Addr) (nn nc : Nat) (aV : ByteArray × Bool) (aT : ByteArray) (aA : Int) (aU : List Nat) (w : World) : Prop where
  v1 : Calls Try.prog 13 #[.pointer (some ⟨t, 0, none⟩), .int .i64 n, .string attr] w fun e w' => e = .returned (.tuple #[.string aV.1, .bool aV.2]) ∧ Below w.heap.size w w'
  v2 : Calls Try.prog 14 #[.pointer (some ⟨u, 0, none⟩), .int .i64 n, .string attr] w fun e w' => e = .returned (.tuple #[.string aV.1, .bool aV.2]) ∧ Below w.heap.size w w'
  t1 : Calls Try.prog 15 #[.pointer (some ⟨t, 0, none⟩), .int .i64 n] w fun e w' => e = .returned (.string aT) ∧ Below w.heap.size w w'
  t2 : Calls Try.prog 16 #[.pointer (some ⟨u, 0, none⟩), .int .i64 n] w fun e w' => e = .returned (.string aT) ∧ Below w.heap.size w w'
  a1 : Calls Try.prog 17 #[.pointer (some ⟨t, 0, none⟩), .int .i64 n, .slice na nn nc] w fun e w' => e = .returned (.int .i64 aA) ∧ Below w.heap.size w w'
  a2 : Calls Try.prog 18 #[.pointer (some ⟨u, 0, none⟩), .int .i64 n, .slice na nn nc] w fun e w' => e = .returned (.int .i64 aA) ∧ Below w.heap.size w w'
  u1 : Calls Try.prog 19 #[.pointer (some ⟨t, 0, none⟩), .int .i64 n, .slice na nn nc] w fun e w' => ∃ a c, e = .returned (.slice a aU.length c) ∧ Hid (IntsW w' a aU ∧ Below w.heap.size w w')
  u2 : Calls Try.prog 12 #[.pointer (some ⟨u, 0, none⟩), .int .i64 n, .slice na nn nc] w fun e w' => ∃ a c, e = .returned (.slice a aU.length c) ∧ Hid (IntsW w' a aU ∧ Below w.heap.size w w')

theorem ints_none (w : World) (a : Option Addr) : IntsW w a [] := fun i x h => by cases h
theorem ans_of {w0 : World} {t g tcap u gu ucap B : Nat} {ns : List Nd} {cs : List Cel} {rs : List RCel} {na : Option Addr} {nn : Nat} (nc : Nat) {nm : List ByteArray} (attr : ByteArray) (hok : NsTree ns) (hs : txS ns ≤ 140737488355328) (hnl : nm.length ≤ 1000) (n : Int) (hlc : cs.length = ns.length) (hlr : rs.length = ns.length) : ∃ aV aT aA aU, aU.length ≤ 1000000 ∧ ∀ w, QtAt w0 t g tcap u gu ucap B ns cs rs na nn nm w → AnsOk t u n attr na nn nc aV aT aA aU w := by
  by_cases h : 0 ≤ n ∧ n < (ns.length : Int)
  · obtain ⟨k, rfl⟩ : ∃ k : Nat, n = (k : Int) := ⟨n.toNat, by omega⟩
    have hk : k < ns.length := by omega
    obtain ⟨x, hx⟩ : ∃ x, ns[k]? = some x := ⟨_, List.getElem?_eq_getElem hk⟩
    have hf := hok.few k x hx
    have hl : (selL ns nm (undL ns ns.length k)).length ≤ ns.length := Nat.le_trans (List.length_filter_le _ _) (undL_len hok _ _)
    have hall := hok.all
    refine ⟨valR x.kind x.atts attr, strN (txL ns (k :: undL ns ns.length k)), ardQ ns nm x.parent, selL ns nm (undL ns ns.length k), by omega, fun w hw => ⟨?_, ?_, ?_, ?_, ?_, ?_, ?_, ?_⟩⟩
    · exact fam_value hw.dom attr hx hf.2.1 (by have := hf.2.2; omega)
    · exact rValue_in u B gu ucap ns rs k x attr w hw.ref hx hf.2.2
    · exact text_in t B g tcap ns cs k w hw.dom hok hk (node_fits hok hs hk)
    · exact rText_in u B gu ucap ns rs k w hw.ref hok hk (node_fits hok hs hk)
    · exact (around_nm t B g tcap ns cs na nn nc nm k x w hw.dom hok hw.nms hnl hx).mono fun e w' ⟨h1, h2⟩ => ⟨h1, h2.out⟩
    · exact rAround_in u B gu ucap ns rs na nn nc nm k x w hw.ref hok hw.nms hnl hx
    · exact (under_in t B g tcap ns cs na nn nc nm k w hw.dom hok hw.nms hnl hk).mono fun e w' ⟨a, c, h1, h2⟩ => ⟨a, c, h1, intsW_of h2.out.1, h2.out.2⟩
    · exact (rUnder_in u B gu ucap ns rs na nn nc nm k w hw.ref hok hw.nms hnl hk).mono fun e w' ⟨a, c, h1, h2⟩ => ⟨a, c, h1, intsW_of h2.out.1, h2.out.2⟩
  · have hc : n < 0 ∨ (cs.length : Int) ≤ n := by omega
    have hr : n < 0 ∨ (rs.length : Int) ≤ n := by omega
    refine ⟨(⟨#[]⟩, false), ⟨#[]⟩, -1, [], by simp, fun w hw => ⟨?_, ?_, ?_, ?_, ?_, ?_, ?_, ?_⟩⟩
    · exact value_out t B g tcap cs n attr w hw.dom.tree hc
    · exact (rValue_out u B gu ucap rs n attr w hw.ref.tree hr).mono fun e w' ⟨h1, h2⟩ => ⟨h1, h2 ▸ Below.refl _ _⟩
    · exact text_out t B g tcap cs n w hw.dom.tree hc
    · exact (rText_out u B gu ucap rs n w hw.ref.tree hr).mono fun e w' ⟨h1, h2⟩ => ⟨h1, h2 ▸ Below.refl _ _⟩
    · exact around_out t B g tcap cs n _ w hw.dom.tree hc
    · exact (rAround_out u B gu ucap rs n _ w hw.ref.tree hr).mono fun e w' ⟨h1, h2⟩ => ⟨h1, h2 ▸ Below.refl _ _⟩
    · exact (under_out t B g tcap cs n na nn nc w hw.dom.tree hc).mono fun e w' ⟨h1, h2⟩ => ⟨none, 0, h1, ints_none _ _, h2⟩
    · exact (rUnder_out u B gu ucap rs n _ w hw.ref.tree hr).mono fun e w' ⟨h1, h2⟩ => ⟨none, 0, h1, ints_none _ _, h2 ▸ Below.refl _ _⟩

set_option maxRecDepth 100000 in
set_option maxHeartbeats 2000000 in
theorem trees_law (sa : Option Addr) (len cap : Nat) (Z : List Mr) (attr : ByteArray) (na : Option Addr) (nn nc : Nat) (nm : List ByteArray) (w : World) (hlen : Z.length = len) (hcap : len ≤ 9223372036854775807) (hZ : MrsAt w sa Z) (hd : ∀ m ∈ Z, m.data.size ≤ 9223372036854775807) (hsum : sumD Z ≤ 140737488355328) (hnm : NmAt w na nn nm) :
    Calls Try.prog 3 #[.slice sa len cap, .string attr, .slice na nn nc] w fun e w' => e = .returned (.bool true) ∧ Below w.heap.size w w' := by
  have HZ : Hid _ := hZ
  have HD : Hid _ := hd
  have HL : Hid _ := hlen
  have HNM : Hid _ := hnm
  clear hZ hd hlen hnm
  by_cases hbig : 20 < nn
  · have hbI : (20 : Int) < (nn : Int) := by omega
    clear HZ HD HL HNM
    go_enter Try.func3, Try.ntmps3
    go_wp2_with fail
    refine Calls.mono (qSpeaks w) ?_
    rintro e w1 ⟨rfl, hb1⟩
    have HB1 : Hid (Below w.heap.size w w1) := hb1
    clear hb1
    go_wp2
    go_ret
    exact ⟨rfl, HB1.out⟩
  · have hbI : ¬ (20 : Int) < (nn : Int) := by omega
    have HNL : Hid (nm.length ≤ 1000) := (by have := HNM.out.1; omega : nm.length ≤ 1000)
    go_enter Try.func3, Try.ntmps3
    go_wp2_with fail
    refine Calls.mono (qSpeaks w) ?_
    rintro e w1 ⟨rfl, hb1⟩
    have HB1 : Hid (Below w.heap.size w w1) := hb1
    clear hb1
    have HM : Hid _ := made_any sa len cap Z w1 HL.out hcap (HZ.out.below HB1.out) HD.out
    clear HZ HD HL hcap
    go_wp2_with fail
    refine Calls.mono HM.out ?_
    rintro e w2 ⟨t, u, rfl, h2⟩
    obtain ⟨k0, hk0, ns, hns, hT, hok, hb2, hlf, htx⟩ := h2.out
    obtain ⟨g, tcap, cs, gu, capu, rs, hF, hR, _⟩ := hT.ex
    have HOK : Hid _ := hok
    have HTX : Hid (txS ns ≤ 140737488355328) := (Nat.le_trans htx (Nat.le_trans (sumD_take Z k0) hsum) : txS ns ≤ 140737488355328)
    have HFW : Hid (ns.length ≤ 101) := (by omega : ns.length ≤ 101)
    have HNS : Hid (0 < ns.length) := (by omega : 0 < ns.length)
    have HQ2 : Hid (QtAt w t g tcap u gu capu w1.heap.size ns cs rs na nn nm w2) := ⟨hF, hR, NmAt.below (NmAt.below HNM.out HB1.out) (hb2.mono (Nat.le_refl _)), HB1.out.trans (hb2.mono HB1.out.size)⟩
    clear HM h2 hT hF hR hok hb2 HB1 HNM hns hk0 hlf htx k0 hsum
    generalize w1.heap.size = B at *
    clear w1
    have HE : Hid _ := elements_in t B g tcap ns cs w2 HQ2.out.dom HOK.out HNS.out
    go_wp2_with fail
    refine Calls.mono HE.out ?_
    rintro e w3 ⟨a3, c3, rfl, h3⟩
    have HQ3 : Hid _ := HQ2.out.next h3.out.2
    have HI3 : Hid (IntsW w3 a3 (selL ns [] (undL ns ns.length 0))) := intsW_of h3.out.1
    have HE4 : Hid _ := rUnder_in u B gu capu ns rs none 0 0 [] 0 w3 HQ3.out.ref HOK.out ⟨rfl, .inl rfl⟩ (Nat.zero_le _) HNS.out
    clear h3 HE HQ2
    go_wp2_with fail
    refine Calls.mono HE4.out ?_
    rintro e w4 ⟨a4, c4, rfl, h4⟩
    have HQ4 : Hid _ := HQ3.out.next h4.out.2
    have hsl : (selL ns [] (undL ns ns.length 0)).length ≤ 1000000 := by
      have h1 : (selL ns [] (undL ns ns.length 0)).length ≤ ns.length := Nat.le_trans (List.length_filter_le _ _) (undL_len HOK.out _ _)
      have := HFW.out
      omega
    have HE5 : Hid _ := ints_same a3 a4 c3 c4 (selL ns [] (undL ns ns.length 0)) w4 hsl (fun i x hx => by
      obtain ⟨g1, e1, h1⟩ := HI3.out i x hx
      exact ⟨g1, e1, (h4.out.2.cell (p := ⟨g1, i, none⟩) (World.block_lt_of_cell? _ _ h1)).trans h1⟩) (intsW_of h4.out.1)
    clear h4 HE4 HQ3 HI3 hsl
    go_wp2_with fail
    refine Calls.mono HE5.out ?_
    rintro e w5 ⟨rfl, h5⟩
    have HQ5 : Hid _ := HQ4.out.next h5
    clear h5 HE5 HQ4
    have hlc := HQ5.out.dom.len
    have hlr := HQ5.out.ref.len
    have HANS : Hid (∀ n : Int, _) := fun n => ans_of (w0 := w) (t := t) (g := g) (tcap := tcap) (u := u) (gu := gu) (ucap := capu) (B := B) (cs := cs) (rs := rs) (na := na) (nn := nn) nc attr HOK.out HTX.out HNL.out n hlc hlr
    clear HOK HTX HNL HNS hlc hlr
    go_wp2
    go_loopw [9] (fun i wr => ∃ n : Int, -1 ≤ n ∧ n ≤ (rs.length : Int) + 1 ∧ i = .int .i64 n ∧ Hid (QtAt w t g tcap u gu capu B ns cs rs na nn nm wr)) (fun i _ => ((rs.length : Int) + 1 - intOf i).toNat)
    case atStart => exact ⟨-1, by omega, by omega, rfl, HQ5⟩
    case round =>
      clear HQ5
      obtain ⟨n, hn1, hn2, rfl, hI⟩ := hrel
      have cu := hI.out.ref.tree.c0
      have hrl : rs.length ≤ 101 := by rw [hI.out.ref.len]; exact HFW.out
      by_cases hle : n ≤ (rs.length : Int)
      · obtain ⟨⟨s1, b1⟩, aT, aA, aU, hul, hA⟩ := HANS.out n
        have HA : Hid _ := hA
        have HI : Hid _ := hI.out
        have HC1 : Hid _ := (hA wr hI.out).v1
        clear hA hI
        go_wp2_with fail
        refine Calls.mono HC1.out ?_
        rintro e w6 ⟨rfl, h6⟩
        have HQ6 : Hid _ := HI.out.next h6
        have HC2 : Hid _ := (HA.out w6 HQ6.out).v2
        clear h6 HC1 HI cu
        go_wp2_with fail
        refine Calls.mono HC2.out ?_
        rintro e w7 ⟨rfl, h7⟩
        have HQ7 : Hid _ := HQ6.out.next h7
        have HC3 : Hid _ := (HA.out w7 HQ7.out).t1
        clear h7 HC2 HQ6
        go_wp2_with fail
        refine Calls.mono HC3.out ?_
        rintro e w8 ⟨rfl, h8⟩
        have HQ8 : Hid _ := HQ7.out.next h8
        have HC4 : Hid _ := (HA.out w8 HQ8.out).t2
        clear h8 HC3 HQ7
        go_wp2_with fail
        refine Calls.mono HC4.out ?_
        rintro e w9 ⟨rfl, h9⟩
        have HQ9 : Hid _ := HQ8.out.next h9
        have HC5 : Hid _ := (HA.out w9 HQ9.out).a1
        clear h9 HC4 HQ8
        go_wp2_with fail
        refine Calls.mono HC5.out ?_
        rintro e w10 ⟨rfl, h10⟩
        have HQ10 : Hid _ := HQ9.out.next h10
        have HC6 : Hid _ := (HA.out w10 HQ10.out).a2
        clear h10 HC5 HQ9
        go_wp2_with fail
        refine Calls.mono HC6.out ?_
        rintro e w11 ⟨rfl, h11⟩
        have HQ11 : Hid _ := HQ10.out.next h11
        have HC7 : Hid _ := (HA.out w11 HQ11.out).u1
        clear h11 HC6 HQ10
        go_wp2_with fail
        refine Calls.mono HC7.out ?_
        rintro e w12 ⟨x1, y1, rfl, h12⟩
        have HQ12 : Hid _ := HQ11.out.next h12.out.2
        have HX12 : Hid (IntsW w12 x1 aU) := h12.out.1
        have HC8 : Hid _ := (HA.out w12 HQ12.out).u2
        clear h12 HC7 HQ11
        go_wp2_with fail
        refine Calls.mono HC8.out ?_
        rintro e w13 ⟨x2, y2, rfl, h13⟩
        have HQ13 : Hid _ := HQ12.out.next h13.out.2
        have HC9 : Hid _ := ints_same x1 x2 y1 y2 aU w13 hul (HX12.out.below h13.out.2) h13.out.1
        clear h13 HC8 HQ12 HX12 HA
        go_wp2_with fail
        refine Calls.mono HC9.out ?_
        rintro e w14 ⟨rfl, h14⟩
        have HQ14 : Hid _ := HQ13.out.next h14
        clear h14 HC9 HQ13
        go_wp2
        go_roundw
        case rel => exact ⟨n + 1, by omega, by omega, by go_num, HQ14⟩
        case measure => simp only [intOf]; go_num
      · have HB : Hid _ := hI.out.below
        clear hI
        go_wp2
        go_ret
        exact ⟨rfl, HB.out⟩
theorem trees_walk (sa : Option Addr) (cap : Nat) (Z : List Mr) (attr : ByteArray) (na : Option Addr) (nc : Nat) (nm : List ByteArray) (w : World) (hl : Z.length ≤ maxLen) (hZ : MrsAt w sa Z) (hd : ∀ m ∈ Z, m.data.size ≤ maxLen) (hnm : NmAt w na nm.length nm) (hs : sumD Z ≤ 1048576) :
    Calls Try.prog 3 #[.slice sa Z.length cap, .string attr, .slice na nm.length nc] w fun e w' => e = .returned (.bool true) ∧ Below w.heap.size w w' :=
  trees_law sa Z.length cap Z attr na nm.length nc nm w rfl hl hZ hd (by omega) hnm
end Go.Proofs.Ytjbfgiicaaljjaa
