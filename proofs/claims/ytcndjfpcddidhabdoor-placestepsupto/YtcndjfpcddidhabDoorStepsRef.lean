/-
  The steps of a path: the document's answer.
-/
import Derived.Test.YtcndjfpcddidhabDoorStepsProg
namespace Go.Proofs.YtcndjfpcddidhabDoor
open Go.RowKit

def walkF (l : List UInt8) : Option (List Nat) := walkS (l.length + 1) l

theorem walkS_fuel : ∀ k (l : List UInt8) m, l.length + 1 ≤ k → l.length + 1 ≤ m → walkS k l = walkS m l := by
  intro k
  induction k with
  | zero => intro l m h; omega
  | succ k ih =>
    intro l m h hm
    obtain ⟨m, rfl⟩ : ∃ m', m = m' + 1 := ⟨m - 1, by omega⟩
    cases l with
    | nil => rfl
    | cons c l =>
      simp only [walkS]
      rw [ih (l.drop (ahead l).length) m (by simp at h ⊢; omega) (by simp at hm ⊢; omega)]

theorem walkF_cons (c : UInt8) (l : List UInt8) : walkF (c :: l) = if c = 47 then (if ahead l = [] then none else if (ahead l).head? = some 48 ∧ 1 < (ahead l).length then none else (walkF (l.drop (ahead l).length)).map (numV (ahead l) :: ·)) else none := by
  unfold walkF
  simp only [walkS, List.length_cons]
  rw [walkS_fuel (l.length + 1) (l.drop (ahead l).length) ((l.drop (ahead l).length).length + 1) (by simp) (Nat.le_refl _)]

theorem stepsP_walk (l : List UInt8) (h1 : l ≠ [47]) (h2 : l ≠ []) : stepsP l = walkF l := by
  unfold stepsP
  rw [if_neg h1]
  cases l with
  | nil => exact absurd rfl h2
  | cons c r =>
    by_cases hc : c = 47
    · subst hc
      simp only [if_true]
      exact (walkS_cut (r.length + 2) r (Nat.le_refl _)).symm
    · rw [walkF_cons, if_neg hc]
      simp [hc]

/-- The digits ahead, one by one. -/
theorem ahead_at (r : List UInt8) (j : Nat) (hj : j ≤ (ahead r).length) : (j < (ahead r).length ↔ (j < 18 ∧ ∃ h : j < r.length, isDig r[j] = true)) ∧ ∀ h : j < (ahead r).length, ∃ h2 : j < r.length, (ahead r)[j] = r[j] := by
  obtain ⟨q, hq⟩ := ahead_prefix r
  have hlen := congrArg List.length hq
  rw [List.length_append] at hlen
  have hel : ∀ h : j < (ahead r).length, ∃ h2 : j < r.length, (ahead r)[j] = r[j] := fun h => by
    refine ⟨by omega, ?_⟩
    have : r[j]? = (ahead r)[j]? := by
      conv => lhs; rw [hq]
      rw [List.getElem?_append_left h]
    rw [List.getElem?_eq_getElem (by omega), List.getElem?_eq_getElem h] at this
    exact (Option.some.inj this).symm
  refine ⟨⟨fun h => ?_, fun ⟨h18, hjr, hd⟩ => ?_⟩, hel⟩
  · have h2 := ahead_dig r
    obtain ⟨hjr, e⟩ := hel h
    refine ⟨by omega, hjr, ?_⟩
    rw [← e]
    exact List.all_eq_true.1 h2.1 _ (List.getElem_mem h)
  · rcases Nat.lt_or_ge j (ahead r).length with h | h
    · exact h
    · obtain rfl : j = (ahead r).length := by omega
      exfalso
      have htw : (r.take 18).takeWhile isDig ++ (r.take 18).dropWhile isDig = r.take 18 := List.takeWhile_append_dropWhile
      have hlt : (ahead r).length < (r.take 18).length := by rw [List.length_take]; omega
      have hdl := congrArg List.length htw
      rw [List.length_append] at hdl
      have hne : (r.take 18).dropWhile isDig ≠ [] := by
        intro h0
        rw [h0] at hdl
        simp only [List.length_nil, Nat.add_zero] at hdl
        unfold ahead at hlt
        omega
      have hhd := List.head_dropWhile_not isDig hne
      have : r[(ahead r).length]? = some (((r.take 18).dropWhile isDig).head hne) := by
        have e1 : (r.take 18)[(ahead r).length]? = r[(ahead r).length]? := by rw [List.getElem?_take, if_pos h18]
        rw [← e1]
        conv => lhs; rw [← htw]
        unfold ahead
        rw [List.getElem?_append_right (Nat.le_refl _), Nat.sub_self, ← List.head?_eq_getElem?, List.head?_eq_some_head hne]
      rw [List.getElem?_eq_getElem hjr] at this
      rw [← Option.some.inj this] at hhd
      rw [hd] at hhd
      cases hhd

theorem map_cons_append (o : Option (List Nat)) (ns : List Nat) (n : Nat) : (o.map (n :: ·)).map (ns ++ ·) = o.map ((ns ++ [n]) ++ ·) := by
  cases o <;> simp

set_option maxRecDepth 100000 in
set_option maxHeartbeats 4000000 in
theorem rSteps_any (s : ByteArray) (hs : s.size ≤ 1048576) (w : World) :
    Calls Tryd.prog 6 #[.string s] w fun e w' => Told s.data.toList w w' e := by
  have hlen : s.data.toList.length = s.size := by simp
  by_cases h1 : s.toList = [47]
  · have hb : (s.toList == [47]) = true := by rw [h1]; rfl
    have hp : stepsP s.data.toList = some [] := by rw [← Lib.toList_data, h1]; rfl
    have HT : Hid (Told s.data.toList w w (.returned (.tuple #[.slice none 0 0, .bool true]))) := ⟨_, by rw [hp]; rfl, by rw [hp]; exact World.ownsRow_nil _ _ _ _, Below.refl _ _⟩
    clear h1 hp hs hlen
    go_enter Tryd.func6, Tryd.ntmps6
    go_wp2
    go_ret2
    exact HT.out
  have hb : (s.toList == [47]) = false := beq_false_of_ne h1
  by_cases h0 : s.size = 0
  · have hnil : s.data.toList = [] := List.length_eq_zero_iff.1 (by omega)
    have hem : s.toList.isEmpty = true := by rw [Lib.toList_data, hnil]; rfl
    have HT : Hid _ := told_none (l := s.data.toList) (by rw [hnil]; rfl) (Below.refl w.heap.size w)
    clear h1 hs hlen hnil h0
    go_enter Tryd.func6, Tryd.ntmps6
    go_wp2
    go_ret2
    exact HT.out
  have hnn : s.data.toList ≠ [] := by intro h; rw [h] at hlen; simp at hlen; omega
  have hem : s.toList.isEmpty = false := by
    rw [Lib.toList_data]
    cases h : s.data.toList with
    | nil => exact absurd h hnn
    | cons c l => rfl
  have hwf := stepsP_walk s.data.toList (by rw [← Lib.toList_data]; exact h1) hnn
  have HL : Hid (s.data.toList.length = s.size) := hlen
  have HST0 : Hid (Got w w (.slice none 0 0) []) := ⟨World.ownsRow_nil _ _ _ _, Below.refl _ _⟩
  have HWF : Hid (stepsP s.data.toList = (walkF (s.data.toList.drop 0)).map ([] ++ ·)) := by
    show _ = _
    rw [hwf, List.drop_zero]
    cases walkF s.data.toList <;> simp
  obtain ⟨i0, hi, hz0, hz1, hz2⟩ := info_parts Tryd.infoInt
  clear h1 h0 hnn hwf hlen
  go_enter Tryd.func6, Tryd.ntmps6
  go_wp2
  go_loopw [4, 5] (fun v i wr => ∃ (p : Nat) (ns : List Nat), p ≤ s.size ∧ ns.length ≤ p ∧ i = .int .i64 p ∧ stepsP s.data.toList = (walkF (s.data.toList.drop p)).map (ns ++ ·) ∧ Got w wr v ns) (fun _ i _ => s.size - (intOf i).toNat)
  case atStart => exact ⟨0, [], Nat.zero_le _, Nat.le_refl _, rfl, HWF.out, HST0.out⟩
  case round =>
    clear HWF HST0
    obtain ⟨p, ns, hp, hnl, rfl, hst, hG⟩ := hrel
    have HG : Hid _ := hG
    have HNL : Hid (ns.length ≤ p) := hnl
    clear hnl
    by_cases hlt : p < s.size
    · have hpl : p < s.data.toList.length := by rw [HL.out]; exact hlt
      have hpI : (p : Int) < (s.size : Int) := by omega
      obtain ⟨c, hc⟩ : ∃ c, s[p]'hlt = c := ⟨_, rfl⟩
      have hcl : s.data.toList[p] = c := by rw [← hc]; simp [ByteArray.getElem_eq_getElem_data]
      obtain ⟨r, hr⟩ : ∃ r, s.data.toList.drop (p + 1) = r := ⟨_, rfl⟩
      have hrl : r.length + p + 1 = s.size := by rw [← hr, List.length_drop, HL.out]; omega
      rw [List.drop_eq_getElem_cons hpl, hcl, hr, walkF_cons] at hst
      by_cases h47 : c = 47
      · subst h47
        simp only [if_true] at hst
        have hrel : ∀ j, (h : p + 1 + j < s.size) → ∃ h2 : j < r.length, (s[p + 1 + j]'h) = r[j] := fun j h => by
          have h2 : j < r.length := by omega
          refine ⟨h2, ?_⟩
          have e1 : s[p + 1 + j]'h = s.data.toList[p + 1 + j]'(by rw [HL.out]; exact h) := by simp [ByteArray.getElem_eq_getElem_data]
          rw [e1]
          subst hr
          rw [List.getElem_drop]
        have HREL : Hid _ := hrel
        have HSTE : Hid _ := hst
        have HRL : Hid (r.length + p + 1 = s.size) := hrl
        have HRD : Hid (s.data.toList.drop (p + 1) = r) := hr
        have ha18 := (ahead_dig r).2
        have hadg := (ahead_dig r).1
        have HADG : Hid _ := hadg
        have HPI : Hid (p < s.size) := hlt
        clear hst hrel hrl hr hcl hG hadg
        go_wp2
        go_loopw [5, 7] (fun qv n wx => ∃ (j q : Nat), j ≤ (ahead r).length ∧ q = p + 1 + j ∧ qv = .int .i64 (q : Int) ∧ n = .int .i64 (numV ((ahead r).take j) : Nat) ∧ wx = wr) (fun q _ _ => s.size - (intOf q).toNat)
        case atStart => exact ⟨0, p + 1, Nat.zero_le _, rfl, by go_num, rfl, rfl⟩
        case round =>
          obtain ⟨j, q, hj, hqe, rfl, rfl, rfl⟩ := hrel
          obtain ⟨hiff, hel⟩ := ahead_at r j hj
          by_cases hja : j < (ahead r).length
          · obtain ⟨hj18, hjr, hd⟩ := hiff.1 hja
            have hps : p + 1 + j < s.size := by have := HRL.out; omega
            obtain ⟨_, hce⟩ := HREL.out j hps
            have hqs : q < s.size := by omega
            obtain ⟨c, hc2⟩ : ∃ c, s[q]'hqs = c := ⟨_, rfl⟩
            have hce2 : c = r[j] := by
              rw [← hc2, ← hce]
              simp [hqe]
            have hd2 := (dig_of c).1 (by rw [hce2]; exact hd)
            have hsn : (ahead r).take (j + 1) = (ahead r).take j ++ [c] := by
              rw [List.take_succ_eq_append_getElem hja, (hel hja).2, hce2]
            have HNV : Hid ((numV ((ahead r).take (j + 1)) : Int) = 10 * (numV ((ahead r).take j) : Int) + ((c.toNat : Int) - 48)) := by
              show _ = _
              rw [hsn, numV_snoc]
              omega
            have hnb : numV ((ahead r).take j) < 100000000000000000 := by
              have h0 : ((ahead r).take j).all isDig = true := by
                rw [List.all_eq_true]
                intro x hx
                exact List.all_eq_true.1 HADG.out x (List.mem_of_mem_take hx)
              have h1 := numV_lt _ h0
              have h2 : 10 ^ ((ahead r).take j).length ≤ 10 ^ 17 := Nat.pow_le_pow_right (by decide) (by rw [List.length_take]; omega)
              omega
            have HJ : Hid (j + 1 ≤ (ahead r).length ∧ q + 1 = p + 1 + (j + 1) ∧ q < s.size) := ⟨by omega, by omega, hqs⟩
            have q1 : (q : Int) < (s.size : Int) := by omega
            have q2 : (q : Int) < (p : Int) + 1 + 18 := by omega
            have q3 : (48 : Int) ≤ (c.toNat : Int) := by omega
            have q4 : (c.toNat : Int) ≤ 57 := by omega
            have g3 : IntKind.u8.wrap ((c.toNat : Int) - 48) = (c.toNat : Int) - 48 := by simp [IntKind.wrap, IntKind.bits, IntKind.signed]; omega
            generalize numV ((ahead r).take j) = nv at hnb HNV ⊢
            have nvI : (nv : Int) < 100000000000000000 := by omega
            clear hiff hel hja hj18 hjr hd hps hce hce2 hd2 hsn hnb hqe hj
            go_wp2
            go_roundw
            case rel => exact ⟨j + 1, q + 1, HJ.out.1, HJ.out.2.1, by go_num, by rw [HNV.out], by simp⟩
            case measure => have := HJ.out.2.2; simp [intOf]; omega
          · have hje : j = (ahead r).length := by omega
            have htk : (ahead r).take j = ahead r := List.take_of_length_le (by omega)
            rw [htk]
            -- the inner loop ends: at the text's end, at no digit, or behind eighteen
            have hno : ¬ (j < 18 ∧ ∃ h : j < r.length, isDig r[j] = true) := fun h => hja (hiff.2 h)
            have HQE : Hid (q = p + 1 + (ahead r).length) := by show _ = _; omega
            have hqp : (p : Int) + 1 ≤ (q : Int) := by omega
            have hways : (¬ (q : Int) < (s.size : Int)) ∨ ((q : Int) < (s.size : Int) ∧ ∃ (h : q < s.size), (s[q]'h).toNat < 48) ∨ ((q : Int) < (s.size : Int) ∧ ∃ (h : q < s.size), 57 < (s[q]'h).toNat) ∨ ((q : Int) < (s.size : Int) ∧ ¬ (q : Int) < (p : Int) + 1 + 18 ∧ ∃ (h : q < s.size), 48 ≤ (s[q]'h).toNat ∧ (s[q]'h).toNat ≤ 57) := by
              by_cases c1 : q < s.size
              · right
                obtain ⟨h2, hce⟩ := HREL.out j (by omega)
                have hcq : (s[q]'c1) = r[j] := by rw [← hce]; simp [hqe]
                by_cases c2 : (s[q]'c1).toNat < 48
                · left; exact ⟨by omega, c1, c2⟩
                · by_cases c3 : 57 < (s[q]'c1).toNat
                  · right; left; exact ⟨by omega, c1, c3⟩
                  · right; right
                    refine ⟨by omega, ?_, c1, by omega, by omega⟩
                    have : ¬ j < 18 := fun h => hno ⟨h, h2, (dig_of _).2 (by rw [← hcq]; omega)⟩
                    omega
              · left; omega
            have HR0 : Hid (ahead r = [] → stepsP s.data.toList = none) := fun h => by rw [HSTE.out, if_pos h]; rfl
            have HR1 : Hid (¬ ahead r = [] → ((ahead r).head? = some 48 ∧ 1 < (ahead r).length) → stepsP s.data.toList = none) := fun h h' => by rw [HSTE.out, if_neg h, if_pos h']; rfl
            have HR2 : Hid (¬ ahead r = [] → ¬ ((ahead r).head? = some 48 ∧ 1 < (ahead r).length) → stepsP s.data.toList = (walkF (s.data.toList.drop q)).map ((ns ++ [numV (ahead r)]) ++ ·)) := fun h h' => by
              rw [HSTE.out, if_neg h, if_neg h', map_cons_append]
              congr 2
              rw [HQE.out, ← HRD.out, List.drop_drop]
            clear hno hiff hel htk hja HSTE
            have HBL : Hid (∀ o, Below wr.heap.size wr (wr.alloc o)) := fun o => (Below.refl _ _).alloc (Nat.le_refl _) o
            obtain ⟨nv, hnv⟩ : ∃ nv, numV (ahead r) = nv := ⟨_, rfl⟩
            rw [hnv] at HR2 ⊢
            have HQS : Hid (q ≤ s.size ∧ (ns ++ [nv]).length ≤ q) := by
              have h1 := HRL.out
              have h2 := HNL.out
              obtain ⟨x, hx⟩ := ahead_prefix r
              have h3 := congrArg List.length hx
              rw [List.length_append] at h3
              exact ⟨by omega, by simp; omega⟩
            have HRA : Hid (∀ x y, ahead r = x :: y → ∃ h : p + 1 < s.size, (s[p + 1]'h) = x) := fun x y hxy => by
              obtain ⟨z, hz⟩ := ahead_prefix r
              have h1 := HRL.out
              have hrne : r = x :: (y ++ z) := by rw [hz, hxy]; rfl
              have h2 : 0 < r.length := by rw [hrne]; simp
              obtain ⟨h3, h4⟩ := HREL.out 0 (by omega)
              refine ⟨by omega, ?_⟩
              have h5 : r[0]'h3 = x := by simp [hrne]
              rw [← h5, ← h4]
            have hqI : (q : Int) = (p : Int) + 1 + ((ahead r).length : Int) := by have := HQE.out; omega
            have HQG : Hid (¬ ahead r = [] → p < q) := fun _ => by have := HQE.out; omega
            clear hje hqe hnv HREL HRL HRD HADG hj ha18
            cases hah : ahead r with
            | nil =>
              rw [hah] at hqI
              have HT : Hid (Told s.data.toList w wr (.returned (.tuple #[.slice none 0 0, .bool false]))) := told_none (HR0.out hah) HG.out.below
              have z0 : ((q : Int) == (p : Int) + 1) = true := by simp at hqI; simpa using hqI
              have HZ : Hid _ := hqI
              clear hqI HR0 HR1 HR2 HRA hah HQE HQG
              rcases hways with y1 | ⟨y1, y2, y3⟩ | ⟨y1, y2, y3⟩ | ⟨y1, y0, y2, y3, y4⟩
              · go_wp2
                go_ret2
                exact HT.out
              · obtain ⟨c, hc2⟩ : ∃ c, s[q]'y2 = c := ⟨_, rfl⟩
                rw [hc2] at y3
                have y5 : ¬ (48 : Int) ≤ (c.toNat : Int) := by omega
                go_wp2
                go_ret2
                exact HT.out
              · obtain ⟨c, hc2⟩ : ∃ c, s[q]'y2 = c := ⟨_, rfl⟩
                rw [hc2] at y3
                have y5 : (48 : Int) ≤ (c.toNat : Int) := by omega
                have y6 : ¬ (c.toNat : Int) ≤ 57 := by omega
                go_wp2
                go_ret2
                exact HT.out
              · exfalso
                have := HZ.out
                simp at this
                omega
            | cons x y =>
              have hne : ¬ ahead r = [] := by rw [hah]; simp
              obtain ⟨hp1, hx⟩ := HRA.out x y hah
              have HQG2 : Hid (p < q) := HQG.out hne
              rw [hah] at hqI
              have z0 : ((q : Int) == (p : Int) + 1) = false := beq_false_of_ne (by simp at hqI; omega)
              have p1I : (p : Int) + 1 < (s.size : Int) := by omega
              by_cases hld : (ahead r).head? = some 48 ∧ 1 < (ahead r).length
              · have HT : Hid (Told s.data.toList w wr (.returned (.tuple #[.slice none 0 0, .bool false]))) := told_none (HR1.out hne hld) HG.out.below
                rw [hah] at hld
                have hx48 : x = 48 := by simpa using hld.1
                have z1 : ((x.toNat : Int) == 48) = true := by rw [hx48]; rfl
                have z2 : (p : Int) + 1 + 1 < (q : Int) := by have := hld.2; omega
                clear hqI HR0 HR1 HR2 HRA hah HQE HQG hne hld hx48
                rcases hways with y1 | ⟨y1, y2, y3⟩ | ⟨y1, y2, y3⟩ | ⟨y1, y0, y2, y3, y4⟩
                · go_wp2
                  go_ret2
                  exact HT.out
                · obtain ⟨c, hc2⟩ : ∃ c, s[q]'y2 = c := ⟨_, rfl⟩
                  rw [hc2] at y3
                  have y5 : ¬ (48 : Int) ≤ (c.toNat : Int) := by omega
                  go_wp2
                  go_ret2
                  exact HT.out
                · obtain ⟨c, hc2⟩ : ∃ c, s[q]'y2 = c := ⟨_, rfl⟩
                  rw [hc2] at y3
                  have y5 : (48 : Int) ≤ (c.toNat : Int) := by omega
                  have y6 : ¬ (c.toNat : Int) ≤ 57 := by omega
                  go_wp2
                  go_ret2
                  exact HT.out
                · obtain ⟨c, hc2⟩ : ∃ c, s[q]'y2 = c := ⟨_, rfl⟩
                  rw [hc2] at y3 y4
                  have y5 : (48 : Int) ≤ (c.toNat : Int) := by omega
                  have y6 : (c.toNat : Int) ≤ 57 := by omega
                  go_wp2
                  go_ret2
                  exact HT.out
              · have HOK : Hid (stepsP s.data.toList = (walkF (s.data.toList.drop q)).map ((ns ++ [nv]) ++ ·)) := HR2.out hne hld
                have hzz : ((x.toNat : Int) == 48) = false ∨ (((x.toNat : Int) == 48) = true ∧ ¬ (p : Int) + 1 + 1 < (q : Int)) := by
                  rw [hah] at hld
                  by_cases e : x = 48
                  · right
                    refine ⟨by rw [e]; rfl, ?_⟩
                    have : ¬ 1 < (x :: y).length := fun h => hld ⟨by rw [e]; rfl, h⟩
                    omega
                  · left
                    exact beq_false_of_ne (fun h => e (UInt8.toNat_inj.1 (by show x.toNat = 48; omega)))
                have HQG : Hid (p < q) := HQG2.out
                clear hqI HR0 HR1 HR2 HRA hah HQE hne hld
                rcases hways with y1 | ⟨y1, y2, y3⟩ | ⟨y1, y2, y3⟩ | ⟨y1, y0, y2, y3, y4⟩ <;> rcases hzz with z1 | ⟨z1, z2⟩
                · go_wp2_with (at_builtin; refine wpList_append_own _ rfl _ _ 22 rfl w.heap.size 3 i0 (.int .i64 0) 1 8 Tryd.underlying22 hi hz0 hz1 hz2 rfl (by decide) _ _ _ rfl (own_below_s HG.out.own (HBL.out _)) ⟨wr.heap.size, 0, none⟩ 1 1 [.int .i64 (nv : Int)] rfl rfl (by intro j u hj; match j, hj with | 0, hj => (simp at hj; subst hj; simp [Addr.add])) (by intro u hu; simp at hu; subst hu; rfl) (by have := HNL.out; have := HPI.out; unfold maxLen; omega) (by have := HNL.out; have := HPI.out; omega) (by have := HG.out.below.size; simp; omega) ?_)
                  intro v' w' hown' hgrow _
                  obtain ⟨⟨g', cap', rfl⟩, HN⟩ : (∃ g cap, v' = .slice (some ⟨g, 0, none⟩) (ns.length + 1) cap) ∧ Hid (Got w w' v' (ns ++ [nv])) := ⟨Joins.ownsRow_form hown' (by omega), HG.out.add (HBL.out _) hown' hgrow⟩
                  clear hown' hgrow
                  go_wp2
                  go_roundw
                  case rel => exact ⟨q, ns ++ [nv], HQS.out.1, HQS.out.2, rfl, HOK.out, HN.out⟩
                  case measure => have := HQS.out.1; have := HQG.out; simp [intOf]; omega
                · go_wp2_with (at_builtin; refine wpList_append_own _ rfl _ _ 22 rfl w.heap.size 3 i0 (.int .i64 0) 1 8 Tryd.underlying22 hi hz0 hz1 hz2 rfl (by decide) _ _ _ rfl (own_below_s HG.out.own (HBL.out _)) ⟨wr.heap.size, 0, none⟩ 1 1 [.int .i64 (nv : Int)] rfl rfl (by intro j u hj; match j, hj with | 0, hj => (simp at hj; subst hj; simp [Addr.add])) (by intro u hu; simp at hu; subst hu; rfl) (by have := HNL.out; have := HPI.out; unfold maxLen; omega) (by have := HNL.out; have := HPI.out; omega) (by have := HG.out.below.size; simp; omega) ?_)
                  intro v' w' hown' hgrow _
                  obtain ⟨⟨g', cap', rfl⟩, HN⟩ : (∃ g cap, v' = .slice (some ⟨g, 0, none⟩) (ns.length + 1) cap) ∧ Hid (Got w w' v' (ns ++ [nv])) := ⟨Joins.ownsRow_form hown' (by omega), HG.out.add (HBL.out _) hown' hgrow⟩
                  clear hown' hgrow
                  go_wp2
                  go_roundw
                  case rel => exact ⟨q, ns ++ [nv], HQS.out.1, HQS.out.2, rfl, HOK.out, HN.out⟩
                  case measure => have := HQS.out.1; have := HQG.out; simp [intOf]; omega
                · obtain ⟨c, hc2⟩ : ∃ c, s[q]'y2 = c := ⟨_, rfl⟩
                  rw [hc2] at y3
                  have y5 : ¬ (48 : Int) ≤ (c.toNat : Int) := by omega
                  go_wp2_with (at_builtin; refine wpList_append_own _ rfl _ _ 22 rfl w.heap.size 3 i0 (.int .i64 0) 1 8 Tryd.underlying22 hi hz0 hz1 hz2 rfl (by decide) _ _ _ rfl (own_below_s HG.out.own (HBL.out _)) ⟨wr.heap.size, 0, none⟩ 1 1 [.int .i64 (nv : Int)] rfl rfl (by intro j u hj; match j, hj with | 0, hj => (simp at hj; subst hj; simp [Addr.add])) (by intro u hu; simp at hu; subst hu; rfl) (by have := HNL.out; have := HPI.out; unfold maxLen; omega) (by have := HNL.out; have := HPI.out; omega) (by have := HG.out.below.size; simp; omega) ?_)
                  intro v' w' hown' hgrow _
                  obtain ⟨⟨g', cap', rfl⟩, HN⟩ : (∃ g cap, v' = .slice (some ⟨g, 0, none⟩) (ns.length + 1) cap) ∧ Hid (Got w w' v' (ns ++ [nv])) := ⟨Joins.ownsRow_form hown' (by omega), HG.out.add (HBL.out _) hown' hgrow⟩
                  clear hown' hgrow
                  go_wp2
                  go_roundw
                  case rel => exact ⟨q, ns ++ [nv], HQS.out.1, HQS.out.2, rfl, HOK.out, HN.out⟩
                  case measure => have := HQS.out.1; have := HQG.out; simp [intOf]; omega
                · obtain ⟨c, hc2⟩ : ∃ c, s[q]'y2 = c := ⟨_, rfl⟩
                  rw [hc2] at y3
                  have y5 : ¬ (48 : Int) ≤ (c.toNat : Int) := by omega
                  go_wp2_with (at_builtin; refine wpList_append_own _ rfl _ _ 22 rfl w.heap.size 3 i0 (.int .i64 0) 1 8 Tryd.underlying22 hi hz0 hz1 hz2 rfl (by decide) _ _ _ rfl (own_below_s HG.out.own (HBL.out _)) ⟨wr.heap.size, 0, none⟩ 1 1 [.int .i64 (nv : Int)] rfl rfl (by intro j u hj; match j, hj with | 0, hj => (simp at hj; subst hj; simp [Addr.add])) (by intro u hu; simp at hu; subst hu; rfl) (by have := HNL.out; have := HPI.out; unfold maxLen; omega) (by have := HNL.out; have := HPI.out; omega) (by have := HG.out.below.size; simp; omega) ?_)
                  intro v' w' hown' hgrow _
                  obtain ⟨⟨g', cap', rfl⟩, HN⟩ : (∃ g cap, v' = .slice (some ⟨g, 0, none⟩) (ns.length + 1) cap) ∧ Hid (Got w w' v' (ns ++ [nv])) := ⟨Joins.ownsRow_form hown' (by omega), HG.out.add (HBL.out _) hown' hgrow⟩
                  clear hown' hgrow
                  go_wp2
                  go_roundw
                  case rel => exact ⟨q, ns ++ [nv], HQS.out.1, HQS.out.2, rfl, HOK.out, HN.out⟩
                  case measure => have := HQS.out.1; have := HQG.out; simp [intOf]; omega
                · obtain ⟨c, hc2⟩ : ∃ c, s[q]'y2 = c := ⟨_, rfl⟩
                  rw [hc2] at y3
                  have y5 : (48 : Int) ≤ (c.toNat : Int) := by omega
                  have y6 : ¬ (c.toNat : Int) ≤ 57 := by omega
                  go_wp2_with (at_builtin; refine wpList_append_own _ rfl _ _ 22 rfl w.heap.size 3 i0 (.int .i64 0) 1 8 Tryd.underlying22 hi hz0 hz1 hz2 rfl (by decide) _ _ _ rfl (own_below_s HG.out.own (HBL.out _)) ⟨wr.heap.size, 0, none⟩ 1 1 [.int .i64 (nv : Int)] rfl rfl (by intro j u hj; match j, hj with | 0, hj => (simp at hj; subst hj; simp [Addr.add])) (by intro u hu; simp at hu; subst hu; rfl) (by have := HNL.out; have := HPI.out; unfold maxLen; omega) (by have := HNL.out; have := HPI.out; omega) (by have := HG.out.below.size; simp; omega) ?_)
                  intro v' w' hown' hgrow _
                  obtain ⟨⟨g', cap', rfl⟩, HN⟩ : (∃ g cap, v' = .slice (some ⟨g, 0, none⟩) (ns.length + 1) cap) ∧ Hid (Got w w' v' (ns ++ [nv])) := ⟨Joins.ownsRow_form hown' (by omega), HG.out.add (HBL.out _) hown' hgrow⟩
                  clear hown' hgrow
                  go_wp2
                  go_roundw
                  case rel => exact ⟨q, ns ++ [nv], HQS.out.1, HQS.out.2, rfl, HOK.out, HN.out⟩
                  case measure => have := HQS.out.1; have := HQG.out; simp [intOf]; omega
                · obtain ⟨c, hc2⟩ : ∃ c, s[q]'y2 = c := ⟨_, rfl⟩
                  rw [hc2] at y3
                  have y5 : (48 : Int) ≤ (c.toNat : Int) := by omega
                  have y6 : ¬ (c.toNat : Int) ≤ 57 := by omega
                  go_wp2_with (at_builtin; refine wpList_append_own _ rfl _ _ 22 rfl w.heap.size 3 i0 (.int .i64 0) 1 8 Tryd.underlying22 hi hz0 hz1 hz2 rfl (by decide) _ _ _ rfl (own_below_s HG.out.own (HBL.out _)) ⟨wr.heap.size, 0, none⟩ 1 1 [.int .i64 (nv : Int)] rfl rfl (by intro j u hj; match j, hj with | 0, hj => (simp at hj; subst hj; simp [Addr.add])) (by intro u hu; simp at hu; subst hu; rfl) (by have := HNL.out; have := HPI.out; unfold maxLen; omega) (by have := HNL.out; have := HPI.out; omega) (by have := HG.out.below.size; simp; omega) ?_)
                  intro v' w' hown' hgrow _
                  obtain ⟨⟨g', cap', rfl⟩, HN⟩ : (∃ g cap, v' = .slice (some ⟨g, 0, none⟩) (ns.length + 1) cap) ∧ Hid (Got w w' v' (ns ++ [nv])) := ⟨Joins.ownsRow_form hown' (by omega), HG.out.add (HBL.out _) hown' hgrow⟩
                  clear hown' hgrow
                  go_wp2
                  go_roundw
                  case rel => exact ⟨q, ns ++ [nv], HQS.out.1, HQS.out.2, rfl, HOK.out, HN.out⟩
                  case measure => have := HQS.out.1; have := HQG.out; simp [intOf]; omega
                · obtain ⟨c, hc2⟩ : ∃ c, s[q]'y2 = c := ⟨_, rfl⟩
                  rw [hc2] at y3 y4
                  have y5 : (48 : Int) ≤ (c.toNat : Int) := by omega
                  have y6 : (c.toNat : Int) ≤ 57 := by omega
                  go_wp2_with (at_builtin; refine wpList_append_own _ rfl _ _ 22 rfl w.heap.size 3 i0 (.int .i64 0) 1 8 Tryd.underlying22 hi hz0 hz1 hz2 rfl (by decide) _ _ _ rfl (own_below_s HG.out.own (HBL.out _)) ⟨wr.heap.size, 0, none⟩ 1 1 [.int .i64 (nv : Int)] rfl rfl (by intro j u hj; match j, hj with | 0, hj => (simp at hj; subst hj; simp [Addr.add])) (by intro u hu; simp at hu; subst hu; rfl) (by have := HNL.out; have := HPI.out; unfold maxLen; omega) (by have := HNL.out; have := HPI.out; omega) (by have := HG.out.below.size; simp; omega) ?_)
                  intro v' w' hown' hgrow _
                  obtain ⟨⟨g', cap', rfl⟩, HN⟩ : (∃ g cap, v' = .slice (some ⟨g, 0, none⟩) (ns.length + 1) cap) ∧ Hid (Got w w' v' (ns ++ [nv])) := ⟨Joins.ownsRow_form hown' (by omega), HG.out.add (HBL.out _) hown' hgrow⟩
                  clear hown' hgrow
                  go_wp2
                  go_roundw
                  case rel => exact ⟨q, ns ++ [nv], HQS.out.1, HQS.out.2, rfl, HOK.out, HN.out⟩
                  case measure => have := HQS.out.1; have := HQG.out; simp [intOf]; omega
                · exfalso
                  omega
      · rw [if_neg h47] at hst
        have HT : Hid (Told s.data.toList w wr (.returned (.tuple #[.slice none 0 0, .bool false]))) := told_none hst hG.below
        have c1 : ((c.toNat : Int) != 47) = true := bne_iff_ne.2 (fun h => h47 (UInt8.toNat_inj.1 (by show c.toNat = 47; omega)))
        clear hst hG hcl hr hrl h47
        go_wp2
        go_ret2
        exact HT.out
    · have hpI : ¬ (p : Int) < (s.size : Int) := by omega
      have hd0 : s.data.toList.drop p = [] := List.drop_eq_nil_of_le (by rw [HL.out]; omega)
      rw [hd0] at hst
      have HA : Hid (stepsP s.data.toList = some ns) := by
        show _ = _
        rw [hst]
        simp [walkF, walkS]
      obtain ⟨a, cap, hv⟩ := own_head_s hG.own
      have HT : Hid (Told s.data.toList w wr (.returned (.tuple #[u4, .bool true]))) := ⟨_, by rw [HA.out]; rfl, by rw [HA.out]; exact hG.own, hG.below⟩
      rw [hv] at HT
      subst hv
      clear hG HG HA hst hd0
      go_wp2
      go_ret2
      exact HT.out
end Go.Proofs.YtcndjfpcddidhabDoor
