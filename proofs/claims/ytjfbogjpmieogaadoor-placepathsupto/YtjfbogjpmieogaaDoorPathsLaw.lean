/-
  PlacePaths: the text of any steps; it tells them again: the law's walk.
-/
import Derived.Test.YtjfbogjpmieogaaDoorPathRef
import Derived.Laws.AppendOwnNone
namespace Go.Proofs.YtjfbogjpmieogaaDoor
open Go.RowKit

theorem own_nats {w : World} {base : Nat} {v : Value} {l : List Nat} (h : w.ownsRow base 3 1 v l.length (natV l)) : ∃ a cap, v = .slice a l.length cap ∧ ∀ p, (hp : p < l.length) → ∃ g, a = some ⟨g, 0, none⟩ ∧ w.cell? ⟨g, p, none⟩ = some (.int .i64 (l[p] : Nat)) := by
  rcases h.2 with ⟨rfl, h0⟩ | ⟨g, cap, cur, rfl, hg, hh, hnc, hcm, hcs, htk⟩
  · exact ⟨none, 0, by rw [h0], fun p hp => by omega⟩
  · refine ⟨_, cap, rfl, fun p hp => ⟨g, rfl, ?_⟩⟩
    have e : (natV l)[p]? = some (.int .i64 (l[p] : Nat)) := by simp [natV, hp]
    rw [← htk, List.getElem?_take, if_pos (by omega)] at e
    simp only [World.cell?, hh]
    simpa using e

theorem own_ints {w : World} {base : Nat} {v : Value} {l : List Int} (h : w.ownsRow base 3 1 v l.length (l.map (Value.int .i64))) : ∃ a cap, v = .slice a l.length cap ∧ IntsAt w a l := by
  rcases h.2 with ⟨rfl, h0⟩ | ⟨g, cap, cur, rfl, hg, hh, hnc, hcm, hcs, htk⟩
  · exact ⟨none, 0, by rw [h0], ⟨fun p hp => by omega⟩⟩
  · refine ⟨_, cap, rfl, ⟨fun p hp => ⟨_, rfl, ?_⟩⟩⟩
    have e : (l.map (Value.int .i64))[p]? = some (.int .i64 l[p]) := by simp [hp]
    rw [← htk, List.getElem?_take, if_pos (by omega)] at e
    have e0 : (⟨g, 0, none⟩ : Addr).add p = ⟨g, p, none⟩ := by cases p <;> simp [Addr.add]
    rw [e0]
    simp only [World.cell?, hh]
    simpa using e

theorem first_text : pathS [0, 12] = [47, 48, 47, 49, 50] := by
  unfold pathS
  simp [catL, dec_small, dec_step]
theorem two_at (w : World) : IntsAt (w.alloc (.cells #[.int .i64 0, .int .i64 12] 3)) (some ⟨w.heap.size, 0, none⟩) [0, 12] := ⟨fun t ht => ⟨_, rfl, by
  match t, ht with
  | 0, _ => exact World.cell?_alloc_at _ _ _ 0 rfl
  | 1, _ => exact World.cell?_alloc_at _ _ _ 1 rfl⟩⟩

theorem lit0_ints (w : World) : (w.alloc (.cells #[] 3)).ownsRow w.heap.size 3 1 (.slice (some ⟨w.heap.size, 0, none⟩) 0 0) 0 ([] : List Value) :=
  World.ownsRow_lit w _ 0 (Nat.le_refl _) (by unfold maxLen; omega) rfl

theorem nat_back (Z : List Int) (h : ∀ z ∈ Z, 0 ≤ z) (k : Nat) (hk : k < Z.length) : ((Z.map Int.toNat)[k]'(by simpa using hk) : Int) = Z[k] := by
  have := h Z[k] (List.getElem_mem hk)
  simp
  omega

theorem path_steps (Z : List Int) (h : ∀ z ∈ Z, 0 ≤ z ∧ z < 1000000000000000000) : stepsP (pathS Z) = some (Z.map Int.toNat) ∧ (pathS Z).length ≤ 20 * Z.length + 1 := by
  have e : pathS Z = if Z.map Int.toNat = [] then [47] else catL (Z.map Int.toNat) := by
    unfold pathS
    by_cases h0 : Z = []
    · rw [if_pos h0, if_pos (by rw [h0]; rfl)]
    · rw [if_neg h0, if_pos (by rw [List.all_eq_true]; intro z hz; simpa using (h z hz).1), if_neg (by simpa using h0)]
  constructor
  · rw [e]
    refine steps_cat _ (fun m hm => ?_)
    obtain ⟨z, hz, rfl⟩ := List.mem_map.1 hm
    have := h z hz
    omega
  · rw [e]
    split
    · simp
    · have := cat_len (Z.map Int.toNat) (fun m hm => by
        obtain ⟨z, hz, rfl⟩ := List.mem_map.1 hm
        have := h z hz
        omega)
      rw [List.length_map] at this
      omega

set_option maxRecDepth 100000 in
set_option maxHeartbeats 4000000 in
theorem paths_some (ad : Addr) (zcap : Nat) (Z : List Int) (m : Int) (w : World) (hZ : IntsAt w (some ad) Z) (hP : IsPow w) (hm : w.cell? ⟨2, 0, none⟩ = some (.int .i64 m)) (h0 : 0 < Z.length) (hn : Z.length ≤ 1048576) (hwf : ∀ z ∈ Z, -9223372036854775808 ≤ z ∧ z < 9223372036854775808) :
    Calls Tryd.prog 5 #[.slice (some ad) Z.length zcap] w fun e w' => e = .returned (.bool true) ∧ Below w.heap.size w w' := by
  obtain ⟨i0, hi, hy0, hy1, hy2⟩ := info_parts Tryd.infoInt
  have HZ : Hid _ := hZ
  have HP : Hid _ := hP
  have HM : Hid _ := hm
  have HWF : Hid _ := hwf
  have hni : (Z.length : Int) ≤ 1048576 := by omega
  have HB0 : Hid (Below w.heap.size w (w.alloc (.cells #[.int .i64 0, .int .i64 12] 3))) := (Below.refl _ _).alloc (Nat.le_refl _) _
  have hC := path_any (some ⟨w.heap.size, 0, none⟩) 2 [0, 12] (w.alloc (.cells #[.int .i64 0, .int .i64 12] 3)) (two_at w) (hP.later HB0.out hP.lt) (by decide) (by decide)
  rw [first_text] at hC
  have HC : Hid _ := hC
  clear hZ hP hm hwf hC
  go_enter Tryd.func5, Tryd.ntmps5
  go_wp2_with fail
  refine Calls.mono HC.out ?_
  rintro e w1 ⟨rfl, hb1⟩
  have HB1 : Hid (Below w.heap.size w w1) := HB0.out.trans (hb1.mono HB0.out.size)
  have HZ1 : Hid (∀ o, IntsAt (w1.alloc o) (some ad) Z) := fun o => (HZ.out.later HB1.out).later ((Below.refl _ _).alloc (Nat.le_refl _) o)
  clear hb1 HC HB0
  go_wp2_with (at_builtin; refine wpList_append_own _ rfl _ _ 38 rfl w1.heap.size 3 i0 (.int .i64 0) 1 8 Tryd.underlying38 hi hy0 hy1 hy2 rfl (by decide) _ 0 _ rfl (lit0_ints w1) ad Z.length zcap (Z.map (Value.int .i64)) rfl ?c0 ?c1 ?c2 ?c3 ?c4 ?c5 ?_)
  case c0 => simp
  case c1 =>
    intro j u hj
    have hjl : j < Z.length := by
      rcases Nat.lt_or_ge j Z.length with h | h
      · exact h
      · rw [List.getElem?_eq_none (by simpa using h)] at hj; cases hj
    obtain ⟨ad', e, hc⟩ := (HZ1.out (.cells #[] 3)).out j hjl
    obtain rfl := Option.some.inj e
    rw [hc]
    simpa [hjl] using hj
  case c2 => intro u hu; obtain ⟨z, _, rfl⟩ := List.mem_map.1 hu; rfl
  case c3 => unfold maxLen; omega
  case c4 => omega
  case c5 => simp
  intro v' w2 hown hgrow _
  have hB2 : Below w1.heap.size w1 w2 := ((Below.refl _ _).alloc (Nat.le_refl _) _).grown hgrow (by simp) (fun k hk => by simp [Value.ownBlock] at hk; omega)
  have HB2 : Hid (Below w.heap.size w w2) := HB1.out.trans (hB2.mono HB1.out.size)
  obtain ⟨a2, cap2, rfl, hI2⟩ := own_ints (by simpa using hown : w2.ownsRow w1.heap.size 3 1 v' Z.length (Z.map (Value.int .i64)))
  have HC2 : Hid _ := path_any a2 cap2 Z w2 hI2 (HP.out.later HB2.out HP.out.lt) hn HWF.out
  clear hown hgrow hB2 hI2 HB1 HZ1 hi hy0 hy1 hy2
  go_wp2_with fail
  refine Calls.mono HC2.out ?_
  rintro e w3 ⟨rfl, hb3⟩
  have HB3 : Hid (Below w.heap.size w w3) := HB2.out.trans (hb3.mono HB2.out.size)
  have HC3 : Hid _ := rPath_any (some ad) zcap Z w3 (HZ.out.later HB3.out) hn HWF.out
  obtain ⟨S, hS⟩ : ∃ S : ByteArray, ⟨(pathS Z).toArray⟩ = S := ⟨_, rfl⟩
  rw [hS] at HC3 ⊢
  have HS : Hid (S.data.toList = pathS Z) := by show _ = _; rw [← hS]
  clear hb3 HC2 HB2 hS
  go_wp2_with fail
  refine Calls.mono HC3.out ?_
  rintro e w4 ⟨rfl, hb4⟩
  have HB4 : Hid (Below w.heap.size w w4) := HB3.out.trans (hb4.mono HB3.out.size)
  have HZ4 : Hid _ := HZ.out.later HB4.out
  have HM4 : Hid _ := cell_later HM.out HB4.out
  clear hb4 HC3 HB3
  go_wp2
  go_loopw [4] (fun i wr => ∃ k : Nat, k ≤ Z.length ∧ i = .int .i64 k ∧ (∀ j, (h : j < Z.length) → j < k → 0 ≤ Z[j] ∧ Z[j] < 1000000000000000000) ∧ wr = w4) (fun i _ => Z.length - (intOf i).toNat)
  case atStart => exact ⟨0, Nat.zero_le _, rfl, fun _ _ h => absurd h (Nat.not_lt_zero _), rfl⟩
  case round =>
    obtain ⟨k, hk, rfl, hall, hwr⟩ := hrel
    have HALL : Hid _ := hall
    subst hwr
    clear hall
    by_cases hlt : k < Z.length
    · obtain ⟨ad', e, cz⟩ := HZ4.out.out k hlt
      obtain rfl := Option.some.inj e
      obtain ⟨z, hz⟩ : ∃ z, Z[k] = z := ⟨_, rfl⟩
      rw [hz] at cz
      have HZE : Hid (Z[k] = z) := hz
      clear hz e
      by_cases hr : 0 ≤ z ∧ z < 1000000000000000000
      · obtain ⟨r1, r2⟩ := hr
        have HN : Hid (∀ j, (h : j < Z.length) → j < k + 1 → 0 ≤ Z[j] ∧ Z[j] < 1000000000000000000) := fun j h hj => by
          by_cases e : j = k
          · subst e
            rw [HZE.out]
            exact ⟨r1, r2⟩
          · exact HALL.out j h (by omega)
        clear HALL
        go_wp2
        go_roundw
        case rel => exact ⟨k + 1, by omega, by go_num, HN.out, by simp⟩
        case measure => simp [intOf]; omega
      · clear HALL
        rcases (show z < 0 ∨ (0 ≤ z ∧ 1000000000000000000 ≤ z) by omega) with r1 | ⟨r1, r2⟩
        all_goals
          go_wp2
          go_ret
          exact ⟨rfl, HB4.out⟩
    · have hkz : k = Z.length := by omega
      subst hkz
      have hR : ∀ z ∈ Z, 0 ≤ z ∧ z < 1000000000000000000 := fun z hz => by
        obtain ⟨j, hj, rfl⟩ := List.mem_iff_getElem.1 hz
        exact HALL.out j hj hj
      obtain ⟨hst, hsl⟩ := path_steps Z hR
      have hsz : S.size ≤ 67108864 := by
        have h2 : S.data.toList.length = S.size := by simp
        rw [HS.out] at h2
        omega
      have hT := steps_any S hsz m wr HM4.out
      have HT : Hid _ := hT
      have HST : Hid _ := hst
      have HR : Hid _ := hR
      clear hlt hk HALL hT hst hsl hR
      go_wp2_with fail
      refine Calls.mono HT.out ?_
      rintro e w5 hto
      unfold Told at hto
      rw [HS.out, HST.out] at hto
      obtain ⟨v, rfl, hown, hb5⟩ := hto
      have hown2 : w5.ownsRow wr.heap.size 3 1 v (Z.map Int.toNat).length (natV (Z.map Int.toNat)) := hown
      obtain ⟨a5, c5, rfl, hcl⟩ := own_nats hown2
      have HCL : Hid _ := hcl
      have HB5 : Hid (Below w.heap.size w w5) := HB4.out.trans (hb5.mono HB4.out.size)
      have HZ5 : Hid _ := HZ4.out.later hb5
      rw [List.length_map]
      have HLM : Hid ((Z.map Int.toNat).length = Z.length) := by show _ = _; simp
      clear hown hown2 hcl hb5 HT HB4 HZ4 HM4
      go_wp2
      go_loopw [7] (fun i wx => ∃ j q : Nat, j ≤ Z.length ∧ i = .int .i64 j ∧ wx = w5.drewN q) (fun i _ => Z.length - (intOf i).toNat)
      case atStart => exact ⟨0, 0, by omega, rfl, rfl⟩
      case round =>
        obtain ⟨t, q, ht, rfl, rfl⟩ := hrel
        by_cases htl : t < Z.length
        · obtain ⟨g, rfl, k1⟩ := HCL.out t (by rw [HLM.out]; exact htl)
          obtain ⟨ad', e, k2⟩ := HZ5.out.out t htl
          obtain rfl := Option.some.inj e
          have hnb := nat_back Z (fun z hz => (HR.out z hz).1) t htl
          rw [hnb] at k1
          generalize Z[t] = z at k1 k2
          have htI : (t : Int) < (Z.length : Int) := by omega
          clear hnb e
          go_wp2_with fail
          go_quiet (fail)
          go_wp2
          go_roundw
          case rel => exact ⟨t + 1, q + nq, by omega, by go_num, by simp⟩
          case measure => simp only [intOf]; go_num
        · go_wp2
          go_ret
          exact ⟨rfl, HB5.out.trans ⟨rfl, rfl, rfl, Nat.le_refl _, fun _ _ => rfl⟩⟩

/-- Nothing behind a row. -/
theorem wpList_append_zero {P : Program} {w : World} {ops : Array Oper} {rest : List Oper} {o : Oper} {a : Act} {Q : Exit → Act → World → Prop} (hgd : o.guard = none) (s x : Operand) (t : TypeId)
    (ho : o.op = .call { callee := .builtin .append, args := #[s, x], argTypes := #[t, t] })
    (base : Nat) (e : TypeId) (i : TypeInfo) (z : Value) (size bytes : Nat) (ht : P.underlying t = some (.slice e)) (hi : P.info? e = some i) (hz : i.zero = some z)
    (hsize : i.size = size) (hby : i.bytes = bytes) (hzs : z.cells.size = size) (hsz : 0 < size)
    (v : Value) (n : Nat) (xs : List Value) (hs : a.eval s = v) (hown : w.ownsRow base e size v n xs)
    (za : Option Addr) (zcap : Nat) (hnc : za = none → zcap = 0) (hx : a.eval x = .slice za 0 zcap)
    (h63 : n ≤ maxLen) (hbytes : n * bytes ≤ 140737488355328) (hbase : base ≤ w.heap.size)
    (h : ∀ v' w', w'.ownsRow base e size v' n xs → w.grownBy w' v.ownBlock → wpList P ops Q rest (a.put o.dst v') w') : wpList P ops Q (o :: rest) a w := by
  cases za with
  | none =>
    rw [hnc rfl] at hx
    exact wpList_append_own_none hgd s x t ho base e i size ht hi v n xs hs hown hx (h v w hown (World.grownBy.refl _ _))
  | some ad =>
    exact wpList_append_own w hgd s x t ho base e i z size bytes ht hi hz hsize hby hzs hsz v n xs hs hown ad 0 zcap [] hx (by simp) (fun j u hj => by simp at hj) (by simp) (by simpa using h63) (by simpa using hbytes) hbase (fun v' w' k1 k2 _ => h v' w' (by simpa using k1) k2)

set_option maxRecDepth 100000 in
set_option maxHeartbeats 4000000 in
theorem paths_none (za : Option Addr) (zcap : Nat) (m : Int) (w : World) (hnc : za = none → zcap = 0) (hP : IsPow w) (hm : w.cell? ⟨2, 0, none⟩ = some (.int .i64 m)) :
    Calls Tryd.prog 5 #[.slice za 0 zcap] w fun e w' => e = .returned (.bool true) ∧ Below w.heap.size w w' := by
  obtain ⟨i0, hi, hy0, hy1, hy2⟩ := info_parts Tryd.infoInt
  have HP : Hid _ := hP
  have HM : Hid _ := hm
  have HNC : Hid _ := hnc
  have HB0 : Hid (Below w.heap.size w (w.alloc (.cells #[.int .i64 0, .int .i64 12] 3))) := (Below.refl _ _).alloc (Nat.le_refl _) _
  have hC := path_any (some ⟨w.heap.size, 0, none⟩) 2 [0, 12] (w.alloc (.cells #[.int .i64 0, .int .i64 12] 3)) (two_at w) (hP.later HB0.out hP.lt) (by decide) (by decide)
  rw [first_text] at hC
  have HC : Hid _ := hC
  clear hP hm hC hnc
  go_enter Tryd.func5, Tryd.ntmps5
  go_wp2_with fail
  refine Calls.mono HC.out ?_
  rintro e w1 ⟨rfl, hb1⟩
  have HB1 : Hid (Below w.heap.size w w1) := HB0.out.trans (hb1.mono HB0.out.size)
  clear hb1 HC HB0
  go_wp2_with (at_builtin; refine wpList_append_zero rfl _ _ 38 rfl w1.heap.size 3 i0 (.int .i64 0) 1 8 Tryd.underlying38 hi hy0 hy1 hy2 rfl (by decide) _ 0 [] rfl (lit0_ints w1) za zcap HNC.out rfl (by unfold maxLen; omega) (by omega) (by simp) ?_)
  intro v' w2 hown hgrow
  have hB2 : Below w1.heap.size w1 w2 := ((Below.refl _ _).alloc (Nat.le_refl _) _).grown hgrow (by simp) (fun k hk => by simp [Value.ownBlock] at hk; omega)
  have HB2 : Hid (Below w.heap.size w w2) := HB1.out.trans (hB2.mono HB1.out.size)
  obtain ⟨a2, cap2, rfl, hI2⟩ := own_ints (l := []) (by simpa using hown)
  have hC2 := path_any a2 cap2 [] w2 hI2 (HP.out.later HB2.out HP.out.lt) (by decide) (by simp)
  have HC2 : Hid (Calls Tryd.prog 21 #[.slice a2 0 cap2] w2 fun e w' => e = .returned (.string ⟨#[47]⟩) ∧ Below w2.heap.size w2 w') := hC2
  clear hown hgrow hB2 hI2 HB1 hi hy0 hy1 hy2 hC2
  go_wp2_with fail
  refine Calls.mono HC2.out ?_
  rintro e w3 ⟨rfl, hb3⟩
  have HB3 : Hid (Below w.heap.size w w3) := HB2.out.trans (hb3.mono HB2.out.size)
  have HC3 : Hid (Calls Tryd.prog 22 #[.slice za 0 zcap] w3 fun e w' => e = .returned (.string ⟨#[47]⟩) ∧ Below w3.heap.size w3 w') := rPath_any za zcap [] w3 ⟨fun t h => absurd h (by simp)⟩ (by decide) (by simp)
  clear hb3 HC2 HB2
  go_wp2_with fail
  refine Calls.mono HC3.out ?_
  rintro e w4 ⟨rfl, hb4⟩
  have HB4 : Hid (Below w.heap.size w w4) := HB3.out.trans (hb4.mono HB3.out.size)
  have HT : Hid _ := steps_any ⟨#[47]⟩ (by decide) m w4 (cell_later HM.out HB4.out)
  clear hb4 HC3 HB3
  go_wp2
  refine wp_loop_rounds 1 ?_
  rw [rounds_succ]
  go_wp2_with fail
  refine Calls.mono HT.out ?_
  rintro e w5 hto
  obtain ⟨v, he, hown, hb5⟩ := hto
  have he2 : e = .returned (.tuple #[v, .bool true]) := he
  have hown2 : w5.ownsRow w4.heap.size 3 1 v 0 [] := hown
  obtain ⟨a5, c5, rfl⟩ := own_head_s hown2
  subst he2
  have HB5 : Hid (Below w.heap.size w w5) := HB4.out.trans (hb5.mono HB4.out.size)
  clear he hown hown2 hb5 HT HB4
  go_wp2
  refine wp_loop_rounds 1 ?_
  rw [rounds_succ]
  go_wp2
  go_ret
  exact ⟨rfl, HB5.out⟩

theorem paths_law (za : Option Addr) (zcap : Nat) (Z : List Int) (w : World) (hZ : IntsAt w za Z) (hnc : za = none → zcap = 0) (hwf : ∀ z ∈ Z, -9223372036854775808 ≤ z ∧ z < 9223372036854775808) (hn : Z.length ≤ 1048576) (hsh : w.ShapedOpen Tryd.prog) (hP : IsPow w) :
    Calls Tryd.prog 5 #[.slice za Z.length zcap] w fun e w' => e = .returned (.bool true) ∧ Below w.heap.size w w' := by
  obtain ⟨m, hm⟩ := Tryd.maxlen w hsh
  rcases Nat.eq_zero_or_pos Z.length with h0 | h0
  · rw [h0]
    exact paths_none za zcap m w hnc hP hm
  · obtain ⟨ad, rfl, _⟩ := hZ.out 0 h0
    exact paths_some ad zcap Z m w hZ hP hm h0 hn hwf
end Go.Proofs.YtjfbogjpmieogaaDoor
