/-
  The texts of the kids make the text: the law's walk.
-/
import Derived.Test.YtjbfgiicaaljjaaQjMath
import Derived.Test.YtjbfgiicaaljjaaQiLaw
namespace Go.Proofs.Ytjbfgiicaaljjaa
open Go.RowKit

/-- Between two rounds of the kids. -/
structure JnAt (w0 : World) (t B g cap : Nat) (ns : List Nd) (cs : List Cel) (a : Option Addr) (L : List Nat) (ak : Option Addr) (ks : List Nat) (w : World) : Prop where
  inn : InnAt w0 t B g cap ns cs a L w
  row : IntsAt w ak ks
theorem JnAt.next {w0 w w' : World} {t B g cap : Nat} {ns : List Nd} {cs : List Cel} {a ak : Option Addr} {L ks : List Nat} (h : JnAt w0 t B g cap ns cs a L ak ks w) (hb : Below w.heap.size w w') : JnAt w0 t B g cap ns cs a L ak ks w' := ⟨h.inn.next hb, h.row.below hb⟩
theorem strN_size (l : List UInt8) : (strN l).size = l.length := by
  rw [Lib.size_eq]
  simp [strN]
theorem texts_small {ns : List Nd} {ks : List Nat} {z r : ByteArray} {j : Nat} (h : z ++ r = strN (textsN ns (ks.take j))) (hs : (textsN ns ks).length ≤ 140737488355328) : ¬ 9223372036854775807 < z.size + r.size := by
  have h1 := congrArg ByteArray.size h
  rw [ByteArray.size_append, strN_size] at h1
  have h2 : (textsN ns (ks.take j)).length ≤ (textsN ns ks).length := by
    have e : ks = ks.take j ++ ks.drop j := (List.take_append_drop j ks).symm
    have h3 := congrArg (fun l => (textsN ns l).length) e
    unfold textsN at *
    simp only [List.flatMap_append, List.length_append] at h3
    omega
  omega
theorem strN_toList (x : ByteArray) : strN x.data.toList = x := by
  apply ByteArray.ext
  simp [strN]

set_option maxRecDepth 100000 in
set_option maxHeartbeats 2000000 in
theorem joined_law (sa : Option Addr) (len cap : Nat) (Z : List Mr) (w : World) (hlen : Z.length = len) (hcap : len ≤ 9223372036854775807) (hZ : MrsAt w sa Z) (hd : ∀ m ∈ Z, m.data.size ≤ 9223372036854775807) (hsum : sumD Z ≤ 140737488355328) :
    Calls Try.prog 5 #[.slice sa len cap] w fun e w' => e = .returned (.bool true) ∧ Below w.heap.size w w' := by
  have HZ : Hid _ := hZ
  have HD : Hid _ := hd
  have HL : Hid _ := hlen
  clear hZ hd hlen
  go_enter Try.func5, Try.ntmps5
  go_wp2_with fail
  refine Calls.mono (qSpeaks w) ?_
  rintro e w1 ⟨rfl, hb1⟩
  have HB1 : Hid (Below w.heap.size w w1) := hb1
  clear hb1
  have HM : Hid _ := made_any sa len cap Z w1 HL.out hcap (HZ.out.below HB1.out) HD.out
  clear HZ HD HL hcap
  go_wp2_with fail
  refine Calls.mono HM.out ?_
  rintro e w2 ⟨t, u, rfl, h2⟩
  obtain ⟨k0, hk0, ns, hns, hT, hok, hb2, hlf, htx⟩ := h2.out
  obtain ⟨g, tcap, cs, gu, capu, rs, hF, _, _⟩ := hT.ex
  have HOK : Hid _ := hok
  have HLF : Hid _ := hlf
  have HTX : Hid (txS ns ≤ 140737488355328) := (Nat.le_trans htx (Nat.le_trans (sumD_take Z k0) hsum) : txS ns ≤ 140737488355328)
  have HFW : Hid (ns.length ≤ 101) := (by omega : ns.length ≤ 101)
  have HNS : Hid (0 < ns.length) := (by omega : 0 < ns.length)
  have HE : Hid _ := walk_in t w1.heap.size g tcap ns cs w2 hF hok HNS.out
  have HF : Hid _ := hF
  have HB2 : Hid (Below w.heap.size w w2) := HB1.out.trans (hb2.mono HB1.out.size)
  clear HM h2 hT hF hok hb2 HB1 hns hk0 k0 hlf htx hsum
  generalize w1.heap.size = B at *
  clear w1
  have HVN : Hid (∀ b ∈ (0 :: undL ns ns.length 0), b < ns.length) := fun b hb => by
    rcases List.mem_cons.1 hb with rfl | h
    · exact HNS.out
    · exact (undL_gt HOK.out.toNsOk _ _ _ h).2
  have hLn : (0 :: undL ns ns.length 0).length ≤ 102 := by
    have h1 := undL_len HOK.out ns.length 0
    have h2 := HFW.out
    simp
    omega
  generalize (0 :: undL ns ns.length 0) = L at *
  go_wp2_with fail
  refine Calls.mono HE.out ?_
  rintro e w3 ⟨a, c, rfl, h3⟩
  have HI0 : Hid (InnAt w t B g tcap ns cs a L w3) := ⟨HB2.out.trans (h3.out.2.mono HB2.out.size), HF.out.below h3.out.2, ints_of h3.out.1⟩
  clear h3 HE HF HB2
  have HT : Hid (∀ (wi : World) (b : Nat), FamAt wi t B g tcap ns cs → b < ns.length → _) := fun wi b hf hb => text_in t B g tcap ns cs b wi hf HOK.out hb (node_fits HOK.out HTX.out hb)
  have HFT : Hid (∀ b, b < ns.length → (textN ns b).length ≤ 140737488355328) := fun b hb => node_fits HOK.out HTX.out hb
  clear HTX
  go_wp2
  go_loopw [6] (fun i wr => ∃ k : Nat, k ≤ L.length ∧ i = .int .i64 k ∧ Hid (InnAt w t B g tcap ns cs a L wr)) (fun i _ => L.length - (intOf i).toNat)
  case atStart => exact ⟨0, Nat.zero_le _, rfl, HI0⟩
  case round =>
    clear HI0
    obtain ⟨k, hk, rfl, hI⟩ := hrel
    by_cases hlt : k < L.length
    · have hq : L[k]? = some L[k] := List.getElem?_eq_getElem _
      generalize L[k] = b at hq
      have hkI : (k : Int) < (L.length : Int) := by omega
      obtain ⟨ga, hga, hca⟩ := hI.out.row k b hq
      subst hga
      have hbl := HVN.out b (List.mem_of_getElem? hq)
      obtain ⟨x, hx⟩ : ∃ x, ns[b]? = some x := ⟨_, List.getElem?_eq_getElem hbl⟩
      have hfew := HOK.out.few b x hx
      have HG : Hid _ := fam_get hI.out.fam hx hfew.2.1 (by have := hfew.2.2; omega)
      have HQ : Hid _ := hq
      have HI : Hid _ := hI
      have HX : Hid _ := hx
      have HBL : Hid _ := hbl
      have HKF : Hid (x.kids.length ≤ 1000000) := (by have := hfew.1; omega : x.kids.length ≤ 1000000)
      have HKK : Hid (∀ k ∈ x.kids, k < ns.length) := fun k hk => (HOK.out.up b x hx k hk).2
      clear hq hI hx hfew hbl
      go_wp2_with fail
      refine Calls.mono HG.out ?_
      rintro e w5 ⟨a2, c2, rfl, h5⟩
      have HN5 : Hid (InnAt w t B g tcap ns cs (some ⟨ga, 0, none⟩) L (w5.alloc (.cells #[.int .i64 x.kind, .int .i64 x.at', .string x.name, .string x.data, .slice a2 x.atts.length c2] 47))) := HI.out.next (h5.out.2.alloc h5.out.2.size _)
      have c0 : (w5.alloc (.cells #[.int .i64 x.kind, .int .i64 x.at', .string x.name, .string x.data, .slice a2 x.atts.length c2] 47)).cell? ⟨w5.heap.size, 0, none⟩ = some (.int .i64 x.kind) := by rw [World.cell?]; simp only [heap_alloc_new]; rfl
      have c3 : (w5.alloc (.cells #[.int .i64 x.kind, .int .i64 x.at', .string x.name, .string x.data, .slice a2 x.atts.length c2] 47)).cell? ⟨w5.heap.size, 3, none⟩ = some (.string x.data) := by rw [World.cell?]; simp only [heap_alloc_new]; rfl
      have hsz : w5.heap.size < (w5.alloc (.cells #[.int .i64 x.kind, .int .i64 x.at', .string x.name, .string x.data, .slice a2 x.atts.length c2] 47)).heap.size := by simp
      obtain ⟨gb, hgb, hcb⟩ := HN5.out.row k b HQ.out
      injection hgb with hgb
      injection hgb with hgb _ _
      subst hgb
      clear h5 HG hca HI
      generalize hwb : w5.alloc (.cells #[.int .i64 x.kind, .int .i64 x.at', .string x.name, .string x.data, .slice a2 x.atts.length c2] 47) = wb at HN5 c0 c3 hsz hcb
      by_cases hk3 : x.kind = 3
      · have hkb : (x.kind == 3) = true := by rw [beq_iff_eq]; exact hk3
        have HT1 : Hid _ := HT.out wb.drew b HN5.out.drew.fam HBL.out
        have HD5 : Hid _ := HN5.out.drew
        have hte : strN (txL ns (b :: undL ns ns.length b)) = x.data := by
          have := textN_text HLF.out HX.out hk3
          unfold textN at this
          rw [this, strN_toList]
        rw [hte] at HT1
        clear hk3 hte HKF HKK HX HT
        subst hwb
        go_wp2_with fail
        go_region_with (go_at_call 15; refine Calls.mono HT1.out ?_; rintro e w6 ⟨rfl, h6⟩; have HN6 : Hid _ := HD5.out.next h6; have c36 := (h6.cell (p := ⟨w5.heap.size, 3, none⟩) hsz).trans c3; clear h6 hcb)
        all_goals
          clear HT1 HN5 HD5 c0 c3 hsz
          go_wp2
          go_roundw
          case rel => exact ⟨k + 1, by omega, by go_num, HN6⟩
          case measure => simp only [intOf]; go_num
      · have hkb : (x.kind == 3) = false := by rw [beq_eq_false_iff_ne]; exact hk3
        have HTE : Hid (strN (txL ns (b :: undL ns ns.length b)) = strN (textsN ns x.kids)) := congrArg strN (textN_kids HOK.out HX.out hk3)
        have HTS : Hid ((textsN ns x.kids).length ≤ 140737488355328) := (by rw [← textN_kids HOK.out HX.out hk3]; exact HFT.out b HBL.out : (textsN ns x.kids).length ≤ 140737488355328)
        have HK : Hid _ := fam_kids HN5.out.fam HX.out HKF.out
        clear hk3 HX
        generalize x.kids = ks at *
        subst hwb
        go_wp2_with fail
        refine Calls.mono HK.out ?_
        rintro e w6 ⟨v, rfl, h6, h7⟩
        obtain ⟨ak, ck, rfl⟩ : ∃ ak ck, v = .slice ak ks.length ck := by
          rcases h6.2 with ⟨e1, e2⟩ | ⟨g1, c1, _, e1, _⟩
          · exact ⟨none, 0, by rw [e1, e2]⟩
          · exact ⟨_, c1, e1⟩
        have HJ0 : Hid (JnAt w t B g tcap ns cs (some ⟨ga, 0, none⟩) L ak ks w6) := ⟨HN5.out.next h7, ints_of h6⟩
        clear h6 h7 HK HN5 c0 c3 hsz hcb
        go_wp2
        go_loopw [9, 11] (fun s i wi => ∃ (m : Nat) (z : ByteArray), m ≤ ks.length ∧ s = .string z ∧ i = .int .i64 m ∧ Hid (z = strN (textsN ns (ks.take m)) ∧ JnAt w t B g tcap ns cs (some ⟨ga, 0, none⟩) L ak ks wi)) (fun _ i _ => ks.length - (intOf i).toNat)
        case atStart => exact ⟨0, _, Nat.zero_le _, rfl, rfl, And.intro rfl HJ0.out⟩
        case round =>
          clear HJ0
          obtain ⟨m, z, hm, rfl, rfl, hJ⟩ := hrel
          have hkk := HKF.out
          by_cases hlt2 : m < ks.length
          · have hq2 : ks[m]? = some ks[m] := List.getElem?_eq_getElem _
            generalize ks[m] = y at hq2
            have hmI : (m : Int) < (ks.length : Int) := by omega
            obtain ⟨gk, hgk, hck⟩ := hJ.out.2.row m y hq2
            subst hgk
            have HT1 : Hid _ := HT.out wr y hJ.out.2.inn.fam (HKK.out y (List.mem_of_getElem? hq2))
            have HZN : Hid (z ++ strN (txL ns (y :: undL ns ns.length y)) = strN (textsN ns (ks.take (m + 1)))) := by
              show z ++ strN (textN ns y) = _
              rw [hJ.out.1, textsN_next hq2]
            have HJ1 : Hid _ := hJ.out.2
            clear hJ hq2
            generalize strN (txL ns (y :: undL ns ns.length y)) = r at *
            have hzr := texts_small HZN.out HTS.out
            go_wp2_with fail
            refine Calls.mono HT1.out ?_
            rintro e w7 ⟨rfl, h7⟩
            have HJ2 : Hid _ := HJ1.out.next h7
            clear h7 HT1 HJ1
            go_wp2
            go_roundw
            case rel => exact ⟨m + 1, _, by omega, rfl, by go_num, And.intro HZN.out HJ2.out⟩
            case measure => simp only [intOf]; go_num
          · obtain rfl : m = ks.length := by omega
            have hz := hJ.out.1
            rw [List.take_length, ← HTE.out] at hz
            have HT1 : Hid _ := HT.out wr b hJ.out.2.inn.fam HBL.out
            have HJ1 : Hid _ := hJ.out.2.inn
            obtain ⟨gb', hgb, hcb⟩ := hJ.out.2.inn.row k b HQ.out
            injection hgb with hgb
            injection hgb with hgb _ _
            subst hgb
            rw [← hz] at HT1
            clear hJ hz HTE
            go_wp2_with fail
            refine Calls.mono HT1.out ?_
            rintro e w7 ⟨rfl, h7⟩
            have HN7 : Hid _ := HJ1.out.next h7
            clear h7 HT1 HJ1
            go_wp2
            go_roundw
            case rel => exact ⟨k + 1, by omega, by go_num, HN7⟩
            case measure => simp only [intOf]; go_num
    · obtain rfl : k = L.length := by omega
      have HF : Hid _ := hI.out.below
      clear hI
      go_wp2
      go_ret
      exact ⟨rfl, HF.out⟩
theorem joined_walk (sa : Option Addr) (cap : Nat) (Z : List Mr) (w : World) (hl : Z.length ≤ maxLen) (hZ : MrsAt w sa Z) (hd : ∀ m ∈ Z, m.data.size ≤ maxLen) (hs : sumD Z ≤ 1048576) :
    Calls Try.prog 5 #[.slice sa Z.length cap] w fun e w' => e = .returned (.bool true) ∧ Below w.heap.size w w' :=
  joined_law sa Z.length cap Z w rfl hl hZ hd (by omega)
end Go.Proofs.Ytjbfgiicaaljjaa
