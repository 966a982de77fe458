/-
  Who stands around has it under it: the law's walk.
-/
import Derived.Test.YtjbfgiicaaljjaaTaAll
import Derived.Test.YtjbfgiicaaljjaaTmMade
import Derived.Test.YtjbfgiicaaljjaaQuSpeaks
namespace Go.Proofs.Ytjbfgiicaaljjaa
open Go.RowKit

/-- A row of numbers, wherever it lies. -/
def IntsAt (w : World) (a : Option Addr) (L : List Nat) : Prop := ∀ (i x : Nat), L[i]? = some x → ∃ g, a = some ⟨g, 0, none⟩ ∧ w.cell? ⟨g, i, none⟩ = some (.int .i64 (x : Int))
theorem ints_of {w : World} {B n c : Nat} {a : Option Addr} {L : List Nat} (h : w.ownsRow B 3 1 (.slice a n c) n (intC L)) : IntsAt w a L := by
  have h1 := h.1
  rw [Nat.mul_one] at h1
  rcases h.2 with ⟨hv, h0⟩ | ⟨g, cap, cur, hv, hg, hh, hc, rest⟩
  · injection hv with e1 e2 e3
    intro i x hx
    have := (List.getElem?_eq_some_iff.1 hx).1
    have h2 : (intC L).length = L.length := by simp [intC]
    omega
  · injection hv with e1 e2 e3
    subst e1 e3
    intro i x hx
    refine ⟨g, rfl, ?_⟩
    exact owns_at h i _ (by unfold intC; rw [List.getElem?_map, hx]; rfl)
theorem IntsAt.below {w w' : World} {a : Option Addr} {L : List Nat} (h : IntsAt w a L) (hb : Below w.heap.size w w') : IntsAt w' a L := fun i x hx => by
  obtain ⟨g, e, hc⟩ := h i x hx
  exact ⟨g, e, (hb.cell (p := ⟨g, i, none⟩) (World.block_lt_of_cell? _ _ hc)).trans hc⟩
theorem IntsAt.drew {w : World} {a : Option Addr} {L : List Nat} (h : IntsAt w a L) : IntsAt w.drew a L := h

theorem selL_mem {ns : List Nd} {nm : List ByteArray} {l : List Nat} {b : Nat} : b ∈ selL ns nm l ↔ b ∈ l ∧ selB ns nm b = true := by
  unfold selL
  exact List.mem_filter
theorem sel_one {ns : List Nd} (h : NsTree ns) {a b : Nat} (hb : b ∈ undL ns ns.length a) (hs : selB ns [] b = true) : (selL ns [] (undL ns ns.length a)).count b = 1 := by
  have hn : (selL ns [] (undL ns ns.length a)).Nodup := (undL_nodup h _ _).sublist List.filter_sublist
  rw [hn.count, if_pos (selL_mem.2 ⟨hb, hs⟩)]
theorem count_next (l : List Nat) (b k x : Nat) (h : l[k]? = some x) : (l.take (k + 1)).count b = (l.take k).count b + (if x = b then 1 else 0) := by
  rw [List.take_add_one, h, List.count_append]
  by_cases e : x = b
  · subst e; simp
  · simp [e]
theorem selL_len {ns : List Nd} (h : NsTree ns) (nm : List ByteArray) (a : Nat) : (selL ns nm (undL ns ns.length a)).length ≤ ns.length := Nat.le_trans (List.length_filter_le _ _) (undL_len h _ _)
theorem selN_has {nm : ByteArray} {x : Nd} (h : selN [nm] x = true) : x.name = nm := by
  unfold selN at h
  simp only [List.isEmpty_cons, Bool.false_or, Bool.and_eq_true] at h
  have := (Lib.containsS_iff _ _).1 h.2
  simpa using this

/-- Between two rounds. -/
structure InnAt (w0 : World) (t B g cap : Nat) (ns : List Nd) (cs : List Cel) (a : Option Addr) (L : List Nat) (w : World) : Prop where
  below : Below w0.heap.size w0 w
  fam : FamAt w t B g cap ns cs
  row : IntsAt w a L
theorem InnAt.drew {w0 w : World} {t B g cap : Nat} {ns : List Nd} {cs : List Cel} {a : Option Addr} {L : List Nat} (h : InnAt w0 t B g cap ns cs a L w) : InnAt w0 t B g cap ns cs a L w.drew := ⟨h.below.drew, h.fam.below (Below.refl _ _).drew, h.row⟩
theorem InnAt.next {w0 w w' : World} {t B g cap : Nat} {ns : List Nd} {cs : List Cel} {a : Option Addr} {L : List Nat} (h : InnAt w0 t B g cap ns cs a L w) (hb : Below w.heap.size w w') : InnAt w0 t B g cap ns cs a L w' := ⟨h.below.trans (hb.mono h.below.size), h.fam.below hb, h.row.below hb⟩

/-- Between two rounds of the count. -/
structure CntAt (w0 : World) (t B g cap : Nat) (ns : List Nd) (cs : List Cel) (a : Option Addr) (L : List Nat) (ai : Option Addr) (IL : List Nat) (xb : Nat) (nm : ByteArray) (w : World) : Prop where
  inn : InnAt w0 t B g cap ns cs a L w
  row : IntsAt w ai IL
  nam : w.cell? ⟨xb, 2, none⟩ = some (.string nm)
theorem CntAt.drew {w0 w : World} {t B g cap : Nat} {ns : List Nd} {cs : List Cel} {a ai : Option Addr} {L IL : List Nat} {xb : Nat} {nm : ByteArray} (h : CntAt w0 t B g cap ns cs a L ai IL xb nm w) : CntAt w0 t B g cap ns cs a L ai IL xb nm w.drew := ⟨h.inn.drew, h.row, h.nam⟩

set_option maxRecDepth 100000 in
set_option maxHeartbeats 2000000 in
theorem inner_law (sa : Option Addr) (len cap : Nat) (Z : List Mr) (name : ByteArray) (w : World) (hlen : Z.length = len) (hcap : len ≤ 9223372036854775807) (hZ : MrsAt w sa Z) (hd : ∀ m ∈ Z, m.data.size ≤ 9223372036854775807) :
    Calls Try.prog 4 #[.slice sa len cap, .string name] w fun e w' => e = .returned (.bool true) ∧ Below w.heap.size w w' := by
  have HZ : Hid _ := hZ
  have HD : Hid _ := hd
  have HL : Hid _ := hlen
  clear hZ hd hlen
  go_enter Try.func4, Try.ntmps4
  go_wp2_with fail
  refine Calls.mono (qSpeaks w) ?_
  rintro e w1 ⟨rfl, hb1⟩
  have HB1 : Hid (Below w.heap.size w w1) := hb1
  clear hb1
  have HM : Hid _ := made_any sa len cap Z w1 HL.out hcap (HZ.out.below HB1.out) HD.out
  clear HZ HD HL hcap
  go_wp2_with fail
  refine Calls.mono HM.out ?_
  rintro e w2 ⟨t, u, rfl, h2⟩
  obtain ⟨k0, hk0, ns, hns, hT, hok, hb2, hlf, htx⟩ := h2.out
  obtain ⟨g, tcap, cs, gu, capu, rs, hF, _, _⟩ := hT.ex
  have HOK : Hid _ := hok
  have HFW : Hid (ns.length ≤ 101) := (by omega : ns.length ≤ 101)
  have HNS : Hid (0 < ns.length) := (by omega : 0 < ns.length)
  have HE : Hid _ := elements_in t w1.heap.size g tcap ns cs w2 hF hok HNS.out
  have HF : Hid _ := hF
  have HB2 : Hid (Below w.heap.size w w2) := HB1.out.trans (hb2.mono HB1.out.size)
  clear HM h2 hT hF hok hb2 HB1 hns hk0 hlf htx k0
  generalize w1.heap.size = B at *
  clear w1
  go_wp2_with fail
  refine Calls.mono HE.out ?_
  rintro e w3 ⟨a, c, rfl, h3⟩
  have HSB : Hid (∀ b ∈ selL ns [] (undL ns ns.length 0), selB ns [] b = true ∧ b < ns.length) := fun b hb => ⟨(selL_mem.1 hb).2, (undL_gt HOK.out.toNsOk _ _ _ (selL_mem.1 hb).1).2⟩
  have HI0 : Hid (InnAt w t B g tcap ns cs a (selL ns [] (undL ns ns.length 0)) w3) := ⟨HB2.out.trans (h3.out.2.mono HB2.out.size), HF.out.below h3.out.2, ints_of h3.out.1⟩
  have hLn : (selL ns [] (undL ns ns.length 0)).length ≤ 101 := Nat.le_trans (selL_len HOK.out _ _) HFW.out
  clear h3 HE HF HB2
  generalize selL ns [] (undL ns ns.length 0) = L at *
  go_wp2
  go_loopw [8] (fun i wr => ∃ k : Nat, k ≤ L.length ∧ i = .int .i64 k ∧ Hid (InnAt w t B g tcap ns cs a L wr)) (fun i _ => L.length - (intOf i).toNat)
  case atStart => exact ⟨0, Nat.zero_le _, rfl, HI0⟩
  case round =>
    clear HI0
    obtain ⟨k, hk, rfl, hI⟩ := hrel
    by_cases hlt : k < L.length
    · have hq : L[k]? = some L[k] := List.getElem?_eq_getElem _
      generalize L[k] = b at hq
      have hkI : (k : Int) < (L.length : Int) := by omega
      obtain ⟨ga, hga, hca⟩ := hI.out.row k b hq
      subst hga
      obtain ⟨hsb, hbl⟩ := HSB.out b (List.mem_of_getElem? hq)
      have HSB2 : Hid _ := hsb
      have HN : Hid (InnAt w t B g tcap ns cs (some ⟨ga, 0, none⟩) L (wr.alloc (.cells #[.string name] 9))) := hI.out.next ((Below.refl _ _).alloc (Nat.le_refl _) _)
      have HA : Hid _ := around_in t B g tcap ns cs wr.heap.size 1 1 [name] b (wr.alloc (.cells #[.string name] 9)) HN.out.fam HOK.out rfl (by simp) (fun j hj => by
        obtain rfl : j = 0 := by simpa using hj
        rw [World.cell?]; simp only [heap_alloc_new]; rfl) (by simp) hbl
      have HQ0 : Hid _ := hq
      clear hI hq hsb hbl
      go_wp2_with fail
      refine Calls.mono HA.out ?_
      rintro e w4 ⟨r, rfl, h4⟩
      have HN4 : Hid _ := HN.out.next h4.out.2
      have HAR : Hid _ := h4.out.1
      clear HN HA h4 hca
      rcases HAR.out with rfl | ⟨a, x, rfl, hx, hsx, hbu⟩
      · clear HAR HSB2
        go_wp2
        go_roundw
        case rel => exact ⟨k + 1, by omega, by go_num, HN4⟩
        case measure => simp only [intOf]; go_num
      · have hfew := HOK.out.few a x hx
        have hne : ((a : Int) == -1) = false := by rw [beq_eq_false_iff_ne]; omega
        have hne2 : ¬ (a : Int) = -1 := by omega
        have HG : Hid (∀ w', FamAt w' t B g tcap ns cs → _) := fun w' h' => fam_get (w := w') h' hx hfew.2.1 (by have := hfew.2.2; omega)
        have hal := (List.getElem?_eq_some_iff.1 hx).1
        have HU : Hid (∀ w', FamAt w' t B g tcap ns cs → _) := fun w' h' => under_in t B g tcap ns cs none 0 0 [] a w' h' HOK.out ⟨rfl, .inl rfl⟩ (Nat.zero_le _) hal
        have HONE : Hid _ := sel_one HOK.out hbu HSB2.out
        have hIn : (selL ns [] (undL ns ns.length a)).length ≤ 101 := Nat.le_trans (selL_len HOK.out _ _) HFW.out
        have hxn : x.name = name := selN_has hsx
        have hab := (undL_gt HOK.out.toNsOk _ _ _ hbu).1
        have habI : ((a : Int) == (b : Int)) = false := by rw [beq_eq_false_iff_ne]; omega
        subst hxn
        clear HAR HSB2 hx hsx hbu hfew hal
        generalize selL ns [] (undL ns ns.length a) = IL at *
        have HG4 : Hid _ := HG.out _ HN4.out.fam
        clear HG
        go_wp2_with fail
        refine Calls.mono HG4.out ?_
        rintro e w5 ⟨a2, c2, rfl, h5⟩
        have HN5 : Hid _ := fun o => HN4.out.next (h5.out.2.alloc h5.out.2.size o)
        clear HN4 h5 HG4
        have HU5 : Hid (∀ o, _) := fun o => HU.out _ (HN5.out o).fam
        clear HU
        go_wp2_with fail
        refine Calls.mono (HU5.out _) ?_
        rintro e w6 ⟨ai, ci, rfl, h6⟩
        have HC : Hid (CntAt w t B g tcap ns cs (some ⟨ga, 0, none⟩) L ai IL w5.heap.size x.name w6) := ⟨(HN5.out _).next h6.out.2, ints_of h6.out.1, (h6.out.2.cell (p := ⟨w5.heap.size, 2, none⟩) (by simp)).trans (by rw [World.cell?]; simp only [heap_alloc_new]; rfl)⟩
        clear HN5 h6 HU5
        generalize w5.heap.size = xb at *
        clear w5
        go_wp2
        go_loopw [13, 14] (fun f j wi => ∃ (m q : Nat), m ≤ IL.length ∧ q ≤ m ∧ f = .int .i64 q ∧ j = .int .i64 m ∧ Hid ((IL.take m).count b = q ∧ CntAt w t B g tcap ns cs (some ⟨ga, 0, none⟩) L ai IL xb x.name wi)) (fun _ j _ => IL.length - (intOf j).toNat)
        case atStart => exact ⟨0, 0, Nat.zero_le _, Nat.le_refl _, rfl, rfl, And.intro (by simp) HC.out⟩
        case round =>
          clear HC
          obtain ⟨m, q, hm, hqm, rfl, rfl, hJ⟩ := hrel
          by_cases hlt2 : m < IL.length
          · have hq : IL[m]? = some IL[m] := List.getElem?_eq_getElem _
            generalize IL[m] = y at hq
            have hmI : (m : Int) < (IL.length : Int) := by omega
            obtain ⟨gi, hgi, hci⟩ := hJ.out.2.row m y hq
            subst hgi
            obtain ⟨ga', hga, hca⟩ := hJ.out.2.inn.row k b HQ0.out
            injection hga with hga
            injection hga with hga _ _
            subst hga
            have hcn := count_next IL b m y hq
            have HN : Hid _ := hJ.out.2.drew
            have hct := hJ.out.1
            clear hJ hq
            go_upto_region 16 with fail
            go_region
            clear hci hca
            generalize wr.drew = wq at *
            by_cases hyb : y = b
            · have HCN : Hid ((IL.take (m + 1)).count b = q + 1) := (by rw [hcn, if_pos hyb, hct] : (IL.take (m + 1)).count b = q + 1)
              have hyI : ((y : Int) == (b : Int)) = true := by rw [beq_iff_eq]; omega
              clear hcn hct
              go_wp2
              go_roundw
              case rel => exact ⟨m + 1, q + 1, by omega, by omega, by go_num, by go_num, HCN.out, HN.out⟩
              case measure => simp only [intOf]; go_num
            · have HCN : Hid ((IL.take (m + 1)).count b = q) := (by rw [hcn, if_neg hyb, hct, Nat.add_zero] : (IL.take (m + 1)).count b = q)
              have hyI : ((y : Int) == (b : Int)) = false := by rw [beq_eq_false_iff_ne]; omega
              clear hcn hct
              go_wp2
              go_roundw
              case rel => exact ⟨m + 1, q, by omega, by omega, by go_num, by go_num, HCN.out, HN.out⟩
              case measure => simp only [intOf]; go_num
          · obtain rfl : m = IL.length := by omega
            have hct := hJ.out.1
            rw [List.take_length, HONE.out] at hct
            subst hct
            have HN : Hid _ := hJ.out.2.inn
            have hnam := hJ.out.2.nam
            obtain ⟨ga', hga, hca⟩ := hJ.out.2.inn.row k b HQ0.out
            injection hga with hga
            injection hga with hga _ _
            subst hga
            clear hJ
            go_wp2
            go_roundw
            case rel => exact ⟨k + 1, by omega, by go_num, HN⟩
            case measure => simp only [intOf]; go_num
    · obtain rfl : k = L.length := by omega
      have HF : Hid _ := hI.out.below
      clear hI
      go_wp2
      go_ret
      exact ⟨rfl, HF.out⟩
theorem inner_walk (sa : Option Addr) (cap : Nat) (Z : List Mr) (name : ByteArray) (w : World) (hl : Z.length ≤ maxLen) (hZ : MrsAt w sa Z) (hd : ∀ m ∈ Z, m.data.size ≤ maxLen) :
    Calls Try.prog 4 #[.slice sa Z.length cap, .string name] w fun e w' => e = .returned (.bool true) ∧ Below w.heap.size w w' :=
  inner_law sa Z.length cap Z name w rfl hl hZ hd
end Go.Proofs.Ytjbfgiicaaljjaa
