/-
  All that stands under a node, each ahead of its kids.
-/
import Derived.Test.YtjbfgiicaaljjaaTfOps
namespace Go.Proofs.Ytjbfgiicaaljjaa
open Go.RowKit

/-- The numbers under a node (the first number bounds the depth). -/
def kidsN (ns : List Nd) (n : Nat) : List Nat := match ns[n]? with
  | some x => x.kids
  | none => []
def undL (ns : List Nd) : Nat → Nat → List Nat
  | 0, _ => []
  | f + 1, n => (kidsN ns n).flatMap fun k => k :: undL ns f k

/-- Kids stand behind their parents, and are there; what nodes say fits. -/
structure NsOk (ns : List Nd) : Prop where
  up : ∀ (n : Nat) (x : Nd), ns[n]? = some x → ∀ k ∈ x.kids, n < k ∧ k < ns.length
  few : ∀ (n : Nat) (x : Nd), ns[n]? = some x → x.kids.length ≤ 1000 ∧ x.data.size ≤ 9223372036854775807 ∧ x.atts.length ≤ 1000
  all : ns.length ≤ 1000

theorem undL_le (ns : List Nd) (h : NsOk ns) : ∀ (f n : Nat), ns.length ≤ n + f → ∀ (f' : Nat), ns.length ≤ n + f' → undL ns f n = undL ns f' n := by
  intro f
  induction f with
  | zero =>
    intro n hn f' hn'
    have : kidsN ns n = [] := by
      unfold kidsN
      rw [List.getElem?_eq_none (by omega)]
    cases f' with
    | zero => rfl
    | succ f' => simp [undL, this]
  | succ f ih =>
    intro n hn f' hn'
    cases f' with
    | zero =>
      have : kidsN ns n = [] := by
        unfold kidsN
        rw [List.getElem?_eq_none (by omega)]
      simp [undL, this]
    | succ f' =>
      unfold undL
      by_cases hlt : n < ns.length
      · have hx : ns[n]? = some ns[n] := List.getElem?_eq_getElem hlt
        have hk : kidsN ns n = ns[n].kids := by unfold kidsN; rw [hx]
        rw [hk]
        have hall := h.up n ns[n] hx
        generalize ns[n].kids = l at hall
        clear hx hk
        induction l with
        | nil => rfl
        | cons a l ih2 =>
          have ha := hall a (by simp)
          rw [List.flatMap_cons, List.flatMap_cons, ih a (by omega) f' (by omega), ih2 (fun k hk => hall k (by simp [hk]))]
      · have : kidsN ns n = [] := by
          unfold kidsN
          rw [List.getElem?_eq_none (by omega)]
        simp [this]

/-- What a visitor keeps: what it gathered, in blocks of its own. -/
structure Visits (F : Nat) (caps : Array Value) (ns : List Nd) (P : List Nat → Prop) (w0 : World) (Inv : List Nat → (Nat → Prop) → World → Prop) : Prop where
  pre : ∀ a b, P (a ++ b) → P a
  enters : ∀ args w, (callFunc F args).run Try.prog w = .ok (.enter F args) w
  stab : ∀ (vs : List Nat) (o : Nat → Prop) (wa wb : World), Inv vs o wa → Below wa.heap.size wa wb → Inv vs o wb
  low : ∀ (vs : List Nat) (o : Nat → Prop) (w : World), Inv vs o w → Below w0.heap.size w0 w ∧ ∀ k, o k → w0.heap.size ≤ k ∧ k < w.heap.size
  call : ∀ (vs : List Nat) (o : Nat → Prop) (w : World) (k : Nat) (x : Nd) (av : Value), Inv vs o w → ns[k]? = some x → P (vs ++ [k]) → Calls Try.prog F (#[.int .i64 (k : Int), .agg #[.int .i64 x.kind, .int .i64 x.at', .string x.name, .string x.data, av]] ++ caps) w fun e w' => e = .returned (.tuple #[]) ∧ ∃ o', Inv (vs ++ [k]) o' w' ∧ Kept o w w' ∧ ∀ b, o' b → o b ∨ w.heap.size ≤ b

/-- Behind some of the kids. -/
structure EachAt (ns : List Nd) (w : World) (Inv : List Nat → (Nat → Prop) → World → Prop) (vs : List Nat) (o : Nat → Prop) (f : Nat) (ks : List Nat) (v : Value) (m : Nat) (wi : World) : Prop where
  inv : ∃ o', Inv (vs ++ (ks.take m).flatMap fun k => k :: undL ns f k) o' wi ∧ Kept o w wi ∧ (∀ b, o' b → o b ∨ w.heap.size ≤ b) ∧ (∀ k, v.ownBlock = some k → ¬ o' k)
  row : wi.ownsRow w.heap.size 3 1 v ks.length (intC ks)

theorem EachAt.start {ns : List Nd} {w w1 : World} {Inv : List Nat → (Nat → Prop) → World → Prop} {vs : List Nat} {o : Nat → Prop} {f : Nat} {ks : List Nat} {v : Value} (hst : ∀ vs o wa wb, Inv vs o wa → Below wa.heap.size wa wb → Inv vs o wb) (hlow : ∀ k, o k → k < w.heap.size) (h : Inv vs o w) (hrow : w1.ownsRow w.heap.size 3 1 v ks.length (intC ks)) (hb : Below w.heap.size w w1) : EachAt ns w Inv vs o f ks v 0 w1 := by
  refine ⟨⟨o, ?_, Kept.below hb, fun b hb2 => .inl hb2, fun k e ho => ?_⟩, hrow⟩
  · rw [List.take_zero, List.flatMap_nil, List.append_nil]
    exact hst vs o w w1 h hb
  · have := (owns_lt hrow k e).1
    have := hlow k ho
    omega

theorem EachAt.fin {ns : List Nd} {w wi : World} {Inv : List Nat → (Nat → Prop) → World → Prop} {vs : List Nat} {o : Nat → Prop} {f n : Nat} {ks : List Nat} {v : Value} (h : EachAt ns w Inv vs o f ks v ks.length wi) (hk : kidsN ns n = ks) : ∃ o', Inv (vs ++ undL ns (f + 1) n) o' wi ∧ Kept o w wi ∧ ∀ b, o' b → o b ∨ w.heap.size ≤ b := by
  obtain ⟨o', h1, h2, h3, _⟩ := h.inv
  rw [List.take_length] at h1
  refine ⟨o', ?_, h2, h3⟩
  unfold undL
  rw [hk]
  exact h1

theorem EachAt.next {ns : List Nd} {w wi wg wc we : World} {Inv : List Nat → (Nat → Prop) → World → Prop} {vs vs' : List Nat} {o o1 o2 o3 : Nat → Prop} {f m k : Nat} {ks : List Nat} {v : Value} (h : EachAt ns w Inv vs o f ks v m wi) (hk : ks[m]? = some k) (he : vs' = vs ++ (ks.take m).flatMap (fun k => k :: undL ns f k))
    (ho1 : ∀ b, o1 b → o b ∨ w.heap.size ≤ b) (hK1 : Kept o w wi) (hn1 : ∀ j, v.ownBlock = some j → ¬ o1 j) (hbg : Below wi.heap.size wi wg) (hc : Kept o1 wg wc) (ho2 : ∀ b, o2 b → o1 b ∨ wg.heap.size ≤ b) (h3 : Inv ((vs' ++ [k]) ++ undL ns f k) o3 we) (hk3 : Kept o2 wc we) (ho3 : ∀ b, o3 b → o2 b ∨ wc.heap.size ≤ b) : EachAt ns w Inv vs o f ks v (m + 1) we := by
  have s1 := hK1.size
  have s2 := hbg.size
  have s3 := hc.size
  have s4 := hk3.size
  have hvlt : ∀ j, v.ownBlock = some j → w.heap.size ≤ j ∧ j < wi.heap.size := fun j e => owns_lt h.row j e
  have hn2 : ∀ j, v.ownBlock = some j → ¬ o2 j := fun j e e2 => by
    rcases ho2 j e2 with e3 | e3
    · exact hn1 j e e3
    · have := hvlt j e
      omega
  refine ⟨⟨o3, ?_, ?_, fun b hb => ?_, fun j e e2 => ?_⟩, ?_⟩
  · rw [List.take_add_one, hk]
    simp only [Option.toList_some, List.flatMap_append, List.flatMap_cons, List.flatMap_nil, List.append_nil]
    rw [he] at h3
    simpa using h3
  · have ha : Kept o w wg := hK1.trans ((Kept.below hbg).mono (fun _ _ e => e))
    have hb : Kept o w wc := by
      refine ⟨hc.os.trans ha.os, hc.tape.trans ha.tape, hc.output.trans ha.output, by omega, fun j hj ho => ?_⟩
      rw [hc.block j (by omega) (fun e => by
        rcases ho1 j e with e2 | e2
        · exact ho e2
        · omega)]
      exact ha.block j hj ho
    refine ⟨hk3.os.trans hb.os, hk3.tape.trans hb.tape, hk3.output.trans hb.output, by omega, fun j hj ho => ?_⟩
    rw [hk3.block j (by omega) (fun e => by
      rcases ho2 j e with e2 | e2
      · rcases ho1 j e2 with e3 | e3
        · exact ho e3
        · omega
      · omega)]
    exact hb.block j hj ho
  · rcases ho3 b hb with e | e
    · rcases ho2 b e with e2 | e2
      · exact ho1 b e2
      · exact .inr (by omega)
    · exact .inr (by omega)
  · rcases ho3 j e2 with e3 | e3
    · exact hn2 j e e3
    · have := hvlt j e
      omega
  · have r1 := owns_kept (out := fun _ => False) h.row (Kept.below hbg) (fun _ _ e => e)
    have r2 := owns_kept r1 hc (fun j e e2 => hn1 j e e2)
    exact owns_kept r2 hk3 (fun j e e2 => hn2 j e e2)

theorem flat_upto (ks : List Nat) (m k : Nat) (u : Nat → List Nat) (h : ks[m]? = some k) : ∃ r, (ks.flatMap fun k => k :: u k) = ((ks.take m).flatMap fun k => k :: u k) ++ ((k :: u k) ++ r) := by
  have hlt := (List.getElem?_eq_some_iff.1 h).1
  have hs : ks = ks.take m ++ k :: ks.drop (m + 1) := by
    have e2 : ks.drop m = k :: ks.drop (m + 1) := by
      rw [List.drop_eq_getElem_cons hlt]
      congr 1
      rw [List.getElem?_eq_getElem hlt] at h
      injection h
    rw [← e2, List.take_append_drop]
  have := congrArg (fun l => l.flatMap fun k => k :: u k) hs
  simp only [List.flatMap_append, List.flatMap_cons] at this
  exact ⟨_, this⟩

set_option maxRecDepth 100000 in
set_option maxHeartbeats 4000000 in
theorem each_any (F : Nat) (caps : Array Value) (ns : List Nd) (cs : List Cel) (t B g cap : Nat) (P : List Nat → Prop) (w0 : World) (Inv : List Nat → (Nat → Prop) → World → Prop) (hV : Visits F caps ns P w0 Inv) (hT : FamAt w0 t B g cap ns cs) (hok : NsOk ns) :
    ∀ (f n : Nat) (vs : List Nat) (o : Nat → Prop) (w : World), ns.length ≤ n + f → n < ns.length → P (vs ++ undL ns f n) → Inv vs o w →
      Calls Try.prog 43 #[.pointer (some ⟨t, 0, none⟩), .int .i64 (n : Int), .func (.func F) #[] caps] w fun e w' => e = .returned (.tuple #[]) ∧ Hid (∃ o', Inv (vs ++ undL ns f n) o' w' ∧ Kept o w w' ∧ ∀ b, o' b → o b ∨ w.heap.size ≤ b) := by
  intro f
  induction f with
  | zero => intro n vs o w h1 h2 _; omega
  | succ f ih =>
    intro n vs o w hf hn hM hI
    have hFam : ∀ vs o w, Inv vs o w → FamAt w t B g cap ns cs := fun vs o w h => hT.below (hV.low vs o w h).1
    have hx : ns[n]? = some ns[n] := List.getElem?_eq_getElem hn
    have hfew := hok.few n ns[n] hx
    have HK : Hid _ := fam_kids (hFam vs o w hI) hx (by have := hfew.1; omega)
    have HKN : Hid (kidsN ns n = ns[n].kids) := by show kidsN ns n = _; unfold kidsN; rw [hx]
    have HM : Hid (P (vs ++ ns[n].kids.flatMap fun k => k :: undL ns f k)) := by
      have := hM
      unfold undL at this
      rw [HKN.out] at this
      exact this
    clear hM
    have HUP : Hid (∀ k ∈ ns[n].kids, n < k ∧ k < ns.length) := hok.up n ns[n] hx
    have hkl : ns[n].kids.length ≤ 1000 := hfew.1
    clear hx hfew
    generalize ns[n].kids = ks at *
    have HI : Hid _ := hI
    have HLO : Hid (∀ k, o k → k < w.heap.size) := fun k hk => ((hV.low vs o w hI).2 k hk).2
    have HIH : Hid _ := ih
    have HV : Hid _ := hV
    have HFam : Hid _ := hFam
    have HOK : Hid _ := hok
    have heg := hV.enters
    clear hI ih hT hV hFam hok
    go_enter Try.func43, Try.ntmps43
    go_wp2_with fail
    refine Calls.mono HK.out ?_
    rintro e w1 ⟨v, rfl, h1, h2⟩
    have H0 : Hid (EachAt ns w Inv vs o f ks v 0 w1) := EachAt.start HV.out.stab HLO.out HI.out h1 h2
    have hvf : ∃ a c, v = .slice a ks.length c := by
      rcases h1.2 with ⟨e1, e2⟩ | ⟨g1, c1, _, e1, _⟩
      · exact ⟨none, 0, by rw [e1, e2]⟩
      · exact ⟨_, c1, e1⟩
    obtain ⟨a, c, rfl⟩ := hvf
    clear h1 h2 HK HI
    go_wp2
    go_loopw [14] (fun i wi => ∃ m : Nat, m ≤ ks.length ∧ i = .int .i64 m ∧ Hid (EachAt ns w Inv vs o f ks (.slice a ks.length c) m wi)) (fun i _ => ks.length - (intOf i).toNat)
    case atStart => exact ⟨0, Nat.zero_le _, rfl, H0⟩
    case round =>
      clear H0
      obtain ⟨m, hm, rfl, hE⟩ := hrel
      by_cases hlt : m < ks.length
      · have hq : ks[m]? = some ks[m] := List.getElem?_eq_getElem hlt
        generalize ks[m] = k at hq
        obtain ⟨hnk, hkn⟩ := HUP.out k (List.mem_of_getElem? hq)
        have hmI : (m : Int) < (ks.length : Int) := by omega
        obtain ⟨gv, hga, hcell⟩ : ∃ gv, a = some ⟨gv, 0, none⟩ ∧ wr.cell? ⟨gv, m, none⟩ = some (.int .i64 (k : Int)) := by
          rcases hE.out.row.2 with ⟨e1, e2⟩ | ⟨g1, c1, cur, e1, _⟩
          · omega
          · injection e1 with e1 e2 e3
            subst e1
            exact ⟨g1, rfl, owns_at hE.out.row m _ (by unfold intC; rw [List.getElem?_map, hq]; rfl)⟩
        subst hga
        obtain ⟨o1, hI1, hK1, ho1, hn1⟩ := hE.out.inv
        have hy : ns[k]? = some ns[k] := List.getElem?_eq_getElem hkn
        have hyf := HOK.out.few k ns[k] hy
        have HG : Hid _ := fam_get (HFam.out _ _ _ hI1) hy hyf.2.1 (by have := hyf.2.2; omega)
        generalize hvs : vs ++ (ks.take m).flatMap (fun k => k :: undL ns f k) = vs' at *
        have HI1 : Hid _ := hI1
        have HE : Hid _ := hE
        have HX : Hid (∀ wg wc we o2 o3, Below wr.heap.size wr wg → Kept o1 wg wc → (∀ b, o2 b → o1 b ∨ wg.heap.size ≤ b) → Inv ((vs' ++ [k]) ++ undL ns f k) o3 we → Kept o2 wc we → (∀ b, o3 b → o2 b ∨ wc.heap.size ≤ b) → EachAt ns w Inv vs o f ks (.slice (some ⟨gv, 0, none⟩) ks.length c) (m + 1) we) := fun wg wc we o2 o3 q1 q2 q3 q4 q5 q6 => hE.out.next hq hvs.symm ho1 hK1 hn1 q1 q2 q3 q4 q5 q6
        obtain ⟨r, hr⟩ := flat_upto ks m k (fun k => undL ns f k) hq
        have hMM := HM.out
        rw [hr, ← List.append_assoc, hvs, ← List.append_assoc] at hMM
        have hM2 := HV.out.pre _ _ hMM
        have hM3 : P ((vs' ++ [k]) ++ undL ns f k) := by rw [List.append_assoc, List.singleton_append]; exact hM2
        have hM4 := HV.out.pre _ _ hM3
        have HCL : Hid (∀ wg av, Below wr.heap.size wr wg → _) := fun wg av hb => HV.out.call vs' o1 wg k ns[k] av (HV.out.stab _ _ _ _ hI1 hb) hy hM4
        have HREC : Hid (∀ o2 wc, Inv (vs' ++ [k]) o2 wc → _) := fun o2 wc hi => HIH.out k (vs' ++ [k]) o2 wc (by omega) hkn hM3 hi
        clear hr hMM hM2 hM3 hM4
        clear hI1 hE hK1 ho1 hn1 hy hyf hq hvs
        generalize ns[k] = x at *
        go_wp2_with fail
        refine Calls.mono HG.out ?_
        rintro e w2 ⟨a2, c2, rfl, h2⟩
        have HB2 : Hid (∀ o : Obj, Below wr.heap.size wr (w2.alloc o)) := fun o => h2.out.2.alloc h2.out.2.size o
        clear h2 HG
        go_wp2_with fail
        refine Calls.mono (HCL.out _ _ (HB2.out _)) ?_
        rintro e wc ⟨rfl, o2, h3, h4, h5⟩
        have HR : Hid _ := HREC.out o2 wc h3
        have HX2 : Hid _ := fun we o3 q4 q5 q6 => HX.out _ wc we o2 o3 (HB2.out _) h4 h5 q4 q5 q6
        clear h3 h4 h5 HX HREC HCL HB2
        go_wp2_with fail
        refine Calls.mono HR.out ?_
        rintro e we ⟨rfl, h6⟩
        obtain ⟨o3, h7, h8, h9⟩ := h6.out
        have HF : Hid (EachAt ns w Inv vs o f ks (.slice (some ⟨gv, 0, none⟩) ks.length c) (m + 1) we) := HX2.out we o3 h7 h8 h9
        clear h6 h7 h8 h9 HX2 HR
        go_wp2
        go_roundw
        case rel => exact ⟨m + 1, by omega, by go_num, HF⟩
        case measure => simp only [intOf]; go_num
      · obtain rfl : m = ks.length := by omega
        have HF : Hid _ := hE.out.fin HKN.out
        clear hE
        go_wp2
        go_end0
        exact ⟨rfl, HF⟩
end Go.Proofs.Ytjbfgiicaaljjaa
