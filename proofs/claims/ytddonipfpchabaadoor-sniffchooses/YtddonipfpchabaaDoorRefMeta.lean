/-
  The reference's letter and meta.
-/
import Derived.Test.YtddonipfpchabaaDoorPrescan
import Derived.Test.YtddonipfpchabaaDoorRefAttr
import Derived.Test.YtddonipfpchabaaDoorRefCharset
import Derived.Test.YtddonipfpchabaaDoorRefTrim
import Derived.Deep.CutBlock
namespace Go.Proofs.YtddonipfpchabaaDoor
open Go.RowKit

theorem letter_eq2 (c : UInt8) : letterB c = ((decide ((64 : Int) < (c.toNat : Int)) && decide ((c.toNat : Int) < 91)) || (decide ((96 : Int) < (c.toNat : Int)) && decide ((c.toNat : Int) < 123))) :=
  ps_all (Q := fun c => letterB c = ((decide ((64 : Int) < (c.toNat : Int)) && decide ((c.toNat : Int) < 91)) || (decide ((96 : Int) < (c.toNat : Int)) && decide ((c.toNat : Int) < 123)))) (by decide +kernel) c

set_option maxHeartbeats 400000 in
theorem refLetter_any (c : UInt8) (w : World) :
    Calls Tryd.prog 35 #[.int .u8 (c.toNat : Int)] w fun e w' => e = .returned (.bool (letterB c)) ∧ w = w' := by
  have h := letter_eq2 c
  rw [h]
  clear h
  go_enter Tryd.func35, Tryd.ntmps35
  go_wp2
  all_goals go_ret
  all_goals exact ⟨by first | (simp [*]; done) | (simp [*]; omega), rfl⟩

theorem refAt_to (s : ByteArray) (k : Nat) (n v : ByteArray) (m : Nat) (ok : Bool) (w : World) (hs : s.size ≤ 140737488351232) (hk : k ≤ s.size) (h : attrF s k = (n, v, m, ok)) :
    Calls Tryd.prog 36 #[.string s, .int .i64 k] w fun e w' => e = .returned (.tuple #[.string n, .string v, .int .i64 m, .bool ok]) ∧ Below w.heap.size w w' := by
  have := ref_in s k w hs hk
  rw [h] at this
  exact this

/-- What the reference's meta answers: the name, or none, and where the attributes end. -/
def metaF (t : ByteArray) (k : Nat) : ByteArray × Nat :=
  (if tellsB (mread t (t.size + 1) k st0).1 then (mread t (t.size + 1) k st0).1.name else ⟨#[]⟩, (mread t (t.size + 1) k st0).2)

theorem own_below {w w' : World} {base : Nat} {v : Value} {n : Nat} {xs : List Value} (h : w.ownsRow base 9 1 v n xs) (hb : Below w.heap.size w w') : w'.ownsRow base 9 1 v n xs := by
  obtain ⟨h1, h2⟩ := h
  refine ⟨h1, ?_⟩
  rcases h2 with h2 | ⟨g, cap, cur, hv, hg, hh, r⟩
  · exact Or.inl h2
  · have hgl : g < w.heap.size := by
      rcases Nat.lt_or_ge g w.heap.size with h' | h'
      · exact h'
      · simp [Array.getElem?_eq_none h'] at hh
    exact Or.inr ⟨g, cap, cur, hv, hg, (hb.block g hgl).trans hh, r⟩

theorem own_cell {w : World} {base : Nat} {v : Value} {seen : List ByteArray} (h : w.ownsRow base 9 1 v seen.length (seen.map Value.string)) :
    (seen = [] ∧ v = .slice none 0 0) ∨ ∃ g cap, v = .slice (some ⟨g, 0, none⟩) seen.length cap ∧ ∀ j x, seen[j]? = some x → w.cell? ⟨g, j, none⟩ = some (.string x) := by
  rcases h.2 with ⟨rfl, h0⟩ | ⟨g, cap, cur, rfl, hg, hh, hnc, hcm, hcs, htk⟩
  · exact Or.inl ⟨List.length_eq_zero_iff.1 h0, rfl⟩
  · refine Or.inr ⟨g, cap, rfl, fun j x hx => ?_⟩
    have hj2 : (seen.map Value.string)[j]? = some (.string x) := by simp [hx]
    have hj := (List.getElem?_eq_some_iff.1 hx).1
    rw [← htk, List.getElem?_take, if_pos (by omega)] at hj2
    simp [World.cell?, hh]
    simpa using hj2

theorem cS_false (zs : List ByteArray) (x : ByteArray) : Lib.containsS zs x = false ↔ ¬ x ∈ zs := by
  rw [← Lib.containsS_iff, Bool.not_eq_true]
theorem cS_snoc_no {zs : List ByteArray} {x y : ByteArray} (h1 : Lib.containsS zs x = false) (h2 : (y.toList == x.toList) = false) : Lib.containsS (zs ++ [y]) x = false := by
  rw [cS_false] at h1 ⊢
  intro h
  rcases List.mem_append.1 h with h | h
  · exact h1 h
  · rw [List.mem_singleton.1 h] at h2
    simp at h2
theorem cS_snoc_here {zs : List ByteArray} {x y : ByteArray} (h2 : (y.toList == x.toList) = true) : Lib.containsS (zs ++ [y]) x = true := by
  rw [Lib.containsS_iff]
  have e : y.toList = x.toList := by simpa using h2
  rw [Lib.toList_data, Lib.toList_data] at e
  have : y = x := ByteArray.ext (Array.toList_inj.1 e)
  simp [this]
theorem cS_snoc_old {zs : List ByteArray} {x y : ByteArray} (h1 : Lib.containsS zs x = true) : Lib.containsS (zs ++ [y]) x = true := by
  rw [Lib.containsS_iff] at h1 ⊢
  exact List.mem_append.2 (Or.inl h1)

set_option maxRecDepth 100000 in
set_option maxHeartbeats 4000000 in
theorem refMeta_any (t : ByteArray) (k0 : Nat) (w : World) (ht : t.size ≤ 1024) (hk0 : k0 ≤ t.size) :
    Calls Tryd.prog 34 #[.string t, .int .i64 k0] w fun e w' => e = .returned (.tuple #[.string (metaF t k0).1, .int .i64 (metaF t k0).2]) ∧ Below w.heap.size w w' := by
  obtain ⟨i0, hi, hz0, hz1, hz2⟩ := info_parts Tryd.info9
  generalize hV : metaF t k0 = V
  have HV : Hid (metaF t k0 = V) := hV
  clear hV
  obtain ⟨⟨st1, en⟩, hmd⟩ : ∃ R, mread t (t.size + 1) k0 st0 = R := ⟨_, rfl⟩
  have HMD : Hid (mread t (t.size + 1) k0 st0 = (st1, en)) := hmd
  clear hmd
  go_enter Tryd.func34, Tryd.ntmps34
  go_wp2
  go_loopw [1, 6, 7, 8, 9] (fun pi sv nv pv wv wr => ∃ (k f : Nat) (st : MSt) (sR : List ByteArray), k ≤ t.size ∧ pi = .int .i64 k ∧ t.size < k + f ∧ mread t f k st = (st1, en) ∧ sR.length ≤ k ∧ (∀ x, x ∈ sR ↔ x ∈ st.seen) ∧ wr.ownsRow w.heap.size 9 1 sv sR.length (sR.map Value.string) ∧ nv = .string st.name ∧ pv = .bool st.pragma ∧ wv = .bool st.wanted ∧ Below w.heap.size w wr) (fun pi _ _ _ _ _ => t.size - (intOf pi).toNat)
  case atStart => exact ⟨k0, t.size + 1, st0, [], hk0, rfl, by omega, HMD.out, Nat.zero_le _, fun x => Iff.rfl, World.ownsRow_nil _ _ _ _, rfl, rfl, rfl, Below.refl _ _⟩
  case round =>
    obtain ⟨k, f, st, sR, hk, rfl, hf, hmr, hsl, hsm, hown, rfl, rfl, rfl, hBr⟩ := hrel
    obtain ⟨f', rfl⟩ : ∃ f', f = f' + 1 := ⟨f - 1, by omega⟩
    obtain ⟨⟨n, vv, en', ok⟩, had⟩ : ∃ R, attrF t k = R := ⟨_, rfl⟩
    have hvz : vv.size ≤ t.size := by have := attrF_vsize t k; rw [had] at this; exact this
    have HAT : Hid (attrF t k = (n, vv, en', ok)) := had
    have HMR : Hid (mread t (f' + 1) k st = (st1, en)) := hmr
    have HSM : Hid (∀ x, x ∈ sR ↔ x ∈ st.seen) := hsm
    have HOWN : Hid (wr.ownsRow w.heap.size 9 1 u6 sR.length (sR.map Value.string)) := hown
    clear had hmr hsm hown
    go_wp2_with fail
    refine (refAt_to _ _ n vv en' ok _ (by omega) hk (by exact HAT.out)).mono ?_
    rintro e w3 ⟨rfl, hb3⟩
    have hB3 : Below w.heap.size w w3 := hBr.trans (hb3.mono hBr.size)
    have hown3 := own_below HOWN.out hb3
    have HOW3 : Hid (w3.ownsRow w.heap.size 9 1 u6 sR.length (sR.map Value.string)) := hown3
    have hw3 : w.heap.size ≤ w3.heap.size := hB3.size
    clear hb3 hBr HOWN
    cases ok
    · have HE : Hid (st = st1 ∧ en' = en) := by
        show _ ∧ _
        have := HMR.out
        unfold mread at this
        rw [HAT.out] at this
        simpa using this
      clear hown3
      obtain ⟨h1, h2⟩ := HE.out
      subst h1 h2
      clear HE HMR HSM
      have hnz : st.name.size ≤ t.size := by
        have h1 := mread_size t (t.size + 1) k0 st0 (Nat.zero_le _)
        rw [HMD.out] at h1
        exact h1
      have hnm : st.name.size ≤ maxLen := by unfold maxLen; omega
      obtain ⟨x, hx⟩ : ∃ x, trimX st.name = x := ⟨_, rfl⟩
      have HX : Hid (trimX st.name = x) := hx
      clear hx
      cases hp : st.pragma
      · cases hwa : st.wanted
        · cases hem : x.toList.isEmpty
          · have HF : Hid (V = (st.name, en')) := by
              show _ = _
              rw [← HV.out]
              simp [metaF, HMD.out, tellsB, HX.out, hem, hp, hwa]
            go_wp2_with fail
            refine (refTrim_any _ _ hnm).mono ?_
            rintro e w4 ⟨rfl, rfl⟩
            rw [HX.out]
            go_wp2
            go_ret2
            rw [HF.out]
            exact ⟨rfl, hB3⟩
          · have HF : Hid (V = (⟨#[]⟩, en')) := by
              show _ = _
              rw [← HV.out]
              simp [metaF, HMD.out, tellsB, HX.out, hem, hp, hwa]
            go_wp2_with fail
            refine (refTrim_any _ _ hnm).mono ?_
            rintro e w4 ⟨rfl, rfl⟩
            rw [HX.out]
            go_wp2
            go_ret2
            rw [HF.out]
            exact ⟨rfl, hB3⟩
        · have HF : Hid (V = (⟨#[]⟩, en')) := by
            show _ = _
            rw [← HV.out]
            simp [metaF, HMD.out, tellsB, hp, hwa]
          go_wp2
          go_ret2
          rw [HF.out]
          exact ⟨rfl, hB3⟩
      · cases hem : x.toList.isEmpty
        · have HF : Hid (V = (st.name, en')) := by
            show _ = _
            rw [← HV.out]
            simp [metaF, HMD.out, tellsB, HX.out, hem, hp]
          cases hwa : st.wanted
          all_goals
            go_wp2_with fail
            refine (refTrim_any _ _ hnm).mono ?_
            rintro e w4 ⟨rfl, rfl⟩
            rw [HX.out]
            go_wp2
            go_ret2
            rw [HF.out]
            exact ⟨rfl, hB3⟩
        · have HF : Hid (V = (⟨#[]⟩, en')) := by
            show _ = _
            rw [← HV.out]
            simp [metaF, HMD.out, tellsB, HX.out, hem]
          cases hwa : st.wanted
          all_goals
            go_wp2_with fail
            refine (refTrim_any _ _ hnm).mono ?_
            rintro e w4 ⟨rfl, rfl⟩
            rw [HX.out]
            go_wp2
            go_ret2
            rw [HF.out]
            exact ⟨rfl, hB3⟩
    · have HE : Hid (mread t f' en' (mstep st n vv) = (st1, en)) := by
        show _ = _
        have := HMR.out
        unfold mread at this
        rw [HAT.out] at this
        simpa using this
      have hon : k < en' ∧ en' ≤ t.size := by
        have := attrF_on t k (by rw [HAT.out])
        rw [HAT.out] at this
        exact this
      have hu6 := own_cell hown3
      have HU6 : Hid ((sR = [] ∧ u6 = .slice none 0 0) ∨ ∃ g cap, u6 = .slice (some ⟨g, 0, none⟩) sR.length cap ∧ ∀ j x, sR[j]? = some x → w3.cell? ⟨g, j, none⟩ = some (.string x)) := hu6
      clear hown3 hu6
      go_upto_block 2 with fail
      go_cut [14, 15] (fun tw _ wx => tw = .bool (Lib.containsS sR n) ∧ w3 = wx)
      case first =>
        rcases HU6.out with ⟨rfl, rfl⟩ | ⟨g, cap, rfl, hcell⟩
        · go_wp2_with fail
          go_loop [14, 15] (fun tw i => tw = .bool false ∧ i = .int .i64 0) (fun _ _ => 0)
          case atStart => exact ⟨rfl, rfl⟩
          case round =>
            obtain ⟨rfl, rfl⟩ := hrel
            go_wp2_with fail
            go_meet
            exact ⟨rfl, rfl⟩
        · have HCELL : Hid (∀ j x, sR[j]? = some x → w3.cell? ⟨g, j, none⟩ = some (.string x)) := hcell
          clear hcell
          have hsl2 : sR.length ≤ 2000 := by omega
          go_wp2_with fail
          go_loop [14, 15] (fun tw i => ∃ x : Nat, x ≤ sR.length ∧ i = .int .i64 x ∧ tw = .bool (Lib.containsS (sR.take x) n)) (fun _ i => sR.length - (intOf i).toNat)
          case atStart => exact ⟨0, Nat.zero_le _, rfl, rfl⟩
          case round =>
            obtain ⟨x, hx, rfl, rfl⟩ := hrel
            by_cases hxl : x < sR.length
            · obtain ⟨y, hyd⟩ : ∃ y, sR[x]? = some y := ⟨_, List.getElem?_eq_getElem hxl⟩
              have hcx := HCELL.out x y hyd
              have HT : Hid (sR.take (x + 1) = sR.take x ++ [y]) := by
                show _ = _
                rw [List.take_add_one, hyd]
                rfl
              cases htw : Lib.containsS (sR.take x) n
              · cases hyn : (y.toList == n.toList)
                · have HD : Hid (Lib.containsS (sR.take (x + 1)) n = false) := by
                    show _ = _
                    rw [HT.out]
                    exact cS_snoc_no htw hyn
                  go_wp2_with fail
                  go_round
                  case rel => exact ⟨x + 1, by omega, by go_num, by rw [HD.out]⟩
                  case measure => simp [intOf]; omega
                · have HD : Hid (Lib.containsS (sR.take (x + 1)) n = true) := by
                    show _ = _
                    rw [HT.out]
                    exact cS_snoc_here hyn
                  go_wp2_with fail
                  go_round
                  case rel => exact ⟨x + 1, by omega, by go_num, by rw [HD.out]⟩
                  case measure => simp [intOf]; omega
              · have HD : Hid (Lib.containsS (sR.take (x + 1)) n = true) := by
                  show _ = _
                  rw [HT.out]
                  exact cS_snoc_old htw
                go_wp2_with fail
                go_round
                case rel => exact ⟨x + 1, by omega, by go_num, by rw [HD.out]⟩
                case measure => simp [intOf]; omega
            · have HD : Hid (sR.take x = sR) := by
                show _ = _
                rw [List.take_of_length_le (by omega)]
              rw [HD.out]
              go_wp2_with fail
              go_meet
              exact ⟨rfl, rfl⟩
      case rest =>
        obtain ⟨rfl, rfl⟩ := hcut
        clear HU6
        go_wp2_with (at_builtin; refine wpList_append_own _ rfl _ _ 34 rfl w.heap.size 9 i0 (.string ByteArray.empty) 1 16 Tryd.underlying34 hi hz0 hz1 hz2 rfl (by decide) _ _ _ rfl (HOW3.out.alloc _) ⟨w3.heap.size, 0, none⟩ 1 1 [.string n] rfl rfl (cell_one_new _ _ _) (str_one n) (by unfold maxLen; omega) (by omega) (by simp; omega) ?_)
        intro v' w5 hown5 hgrow _
        have hB5 : Below w.heap.size w w5 := (hB3.alloc hw3 _).grown hgrow (by simp; omega) (mt_block_ge HOW3.out)
        have HOW5 : Hid (w5.ownsRow w.heap.size 9 1 v' (sR.length + 1) (sR.map Value.string ++ [.string n])) := hown5
        clear hown5 hgrow HOW3 hB3 hi hz0 hz1 hz2
        cases htw : Lib.containsS sR n
        rotate_left
        · have HCS : Hid (Lib.containsS st.seen n = true) := (Lib.containsS_iff _ _).2 ((HSM.out n).1 ((Lib.containsS_iff _ _).1 htw))
          have HST : Hid (mstep st n vv = st) := by
            show _ = _
            simp [mstep, HCS.out]
          have HMEM : Hid (∀ x, x ∈ sR ++ [n] ↔ x ∈ st.seen) := fun x => by
            have hn := (Lib.containsS_iff _ _).1 HCS.out
            constructor
            · intro h
              rcases List.mem_append.1 h with h | h
              · exact (HSM.out x).1 h
              · rw [List.mem_singleton.1 h]; exact hn
            · intro h
              exact List.mem_append.2 (Or.inl ((HSM.out x).2 h))
          go_wp2
          go_roundw
          case rel => exact ⟨en', f', st, sR ++ [n], hon.2, rfl, by omega, by rw [← HST.out]; exact HE.out, by simp; omega, HMEM.out, by simpa using HOW5.out, rfl, rfl, rfl, hB5⟩
          case measure => simp [intOf]; omega
        have HCS : Hid (Lib.containsS st.seen n = false) := (cS_false _ _).2 (fun h => (cS_false _ _).1 htw ((HSM.out n).2 h))
        cases g1 : (n.toList == [104, 116, 116, 112, 45, 101, 113, 117, 105, 118])
        rotate_left
        · have hn1 : n.toList = [104, 116, 116, 112, 45, 101, 113, 117, 105, 118] := by simpa using g1
          have g2 : (n.toList == [99, 111, 110, 116, 101, 110, 116]) = false := by rw [hn1]; decide
          have g3 : (n.toList == [99, 104, 97, 114, 115, 101, 116]) = false := by rw [hn1]; decide
          clear hn1
          have HST : Hid (mstep st n vv = { st with seen := st.seen ++ [n], pragma := vv.toList == [99, 111, 110, 116, 101, 110, 116, 45, 116, 121, 112, 101] }) := by
            show _ = _
            simp [mstep, HCS.out, g1]
          have HMEM : Hid (∀ x, x ∈ sR ++ [n] ↔ x ∈ ({ st with seen := st.seen ++ [n], pragma := vv.toList == [99, 111, 110, 116, 101, 110, 116, 45, 116, 121, 112, 101] } : MSt).seen) := fun x => by simp [HSM.out x]
          go_wp2
          go_roundw
          case rel => exact ⟨en', f', { st with seen := st.seen ++ [n], pragma := vv.toList == [99, 111, 110, 116, 101, 110, 116, 45, 116, 121, 112, 101] }, sR ++ [n], hon.2, rfl, by omega, by rw [← HST.out]; exact HE.out, by simp; omega, HMEM.out, by simpa using HOW5.out, rfl, rfl, rfl, hB5⟩
          case measure => simp [intOf]; omega
        cases g2 : (n.toList == [99, 111, 110, 116, 101, 110, 116])
        rotate_left
        · have hn1 : n.toList = [99, 111, 110, 116, 101, 110, 116] := by simpa using g2
          have g3 : (n.toList == [99, 104, 97, 114, 115, 101, 116]) = false := by rw [hn1]; decide
          clear hn1
          cases hem : st.name.toList.isEmpty
          · skip
            have HST : Hid (mstep st n vv = { st with seen := st.seen ++ [n] }) := by
              show _ = _
              simp [mstep, HCS.out, g1, g2, hem]
            have HMEM : Hid (∀ x, x ∈ sR ++ [n] ↔ x ∈ ({ st with seen := st.seen ++ [n] } : MSt).seen) := fun x => by simp [HSM.out x]
            go_wp2
            go_roundw
            case rel => exact ⟨en', f', { st with seen := st.seen ++ [n] }, sR ++ [n], hon.2, rfl, by omega, by rw [← HST.out]; exact HE.out, by simp; omega, HMEM.out, by simpa using HOW5.out, rfl, rfl, rfl, hB5⟩
            case measure => simp [intOf]; omega
          · obtain ⟨⟨cn, cb⟩, hcd⟩ : ∃ C, charF vv = C := ⟨_, rfl⟩
            have HCF : Hid (charF vv = (cn, cb)) := hcd
            clear hcd
            go_wp2_with fail
            refine (refCharset_any _ _ (by omega)).mono ?_
            rintro e w6 ⟨rfl, hb6⟩
            rw [HCF.out]
            have hB6 := hB5.trans (hb6.mono hB5.size)
            have HOW6 : Hid (w6.ownsRow w.heap.size 9 1 v' (sR.length + 1) (sR.map Value.string ++ [.string n])) := own_below HOW5.out hb6
            clear hb6
            cases cb
            · skip
              have HST : Hid (mstep st n vv = { st with seen := st.seen ++ [n] }) := by
                show _ = _
                simp [mstep, HCS.out, g1, g2, hem, HCF.out]
              have HMEM : Hid (∀ x, x ∈ sR ++ [n] ↔ x ∈ ({ st with seen := st.seen ++ [n] } : MSt).seen) := fun x => by simp [HSM.out x]
              go_wp2
              go_roundw
              case rel => exact ⟨en', f', { st with seen := st.seen ++ [n] }, sR ++ [n], hon.2, rfl, by omega, by rw [← HST.out]; exact HE.out, by simp; omega, HMEM.out, by simpa using HOW6.out, rfl, rfl, rfl, hB6⟩
              case measure => simp [intOf]; omega
            · skip
              have HST : Hid (mstep st n vv = { st with seen := st.seen ++ [n], name := cn, wanted := true }) := by
                show _ = _
                simp [mstep, HCS.out, g1, g2, hem, HCF.out]
              have HMEM : Hid (∀ x, x ∈ sR ++ [n] ↔ x ∈ ({ st with seen := st.seen ++ [n], name := cn, wanted := true } : MSt).seen) := fun x => by simp [HSM.out x]
              go_wp2
              go_roundw
              case rel => exact ⟨en', f', { st with seen := st.seen ++ [n], name := cn, wanted := true }, sR ++ [n], hon.2, rfl, by omega, by rw [← HST.out]; exact HE.out, by simp; omega, HMEM.out, by simpa using HOW6.out, rfl, rfl, rfl, hB6⟩
              case measure => simp [intOf]; omega
        cases g3 : (n.toList == [99, 104, 97, 114, 115, 101, 116])
        · skip
          have HST : Hid (mstep st n vv = { st with seen := st.seen ++ [n] }) := by
            show _ = _
            simp [mstep, HCS.out, g1, g2, g3]
          have HMEM : Hid (∀ x, x ∈ sR ++ [n] ↔ x ∈ ({ st with seen := st.seen ++ [n] } : MSt).seen) := fun x => by simp [HSM.out x]
          go_wp2
          go_roundw
          case rel => exact ⟨en', f', { st with seen := st.seen ++ [n] }, sR ++ [n], hon.2, rfl, by omega, by rw [← HST.out]; exact HE.out, by simp; omega, HMEM.out, by simpa using HOW5.out, rfl, rfl, rfl, hB5⟩
          case measure => simp [intOf]; omega
        · skip
          have HST : Hid (mstep st n vv = { st with seen := st.seen ++ [n], name := vv, wanted := false }) := by
            show _ = _
            simp [mstep, HCS.out, g1, g2, g3]
          have HMEM : Hid (∀ x, x ∈ sR ++ [n] ↔ x ∈ ({ st with seen := st.seen ++ [n], name := vv, wanted := false } : MSt).seen) := fun x => by simp [HSM.out x]
          go_wp2
          go_roundw
          case rel => exact ⟨en', f', { st with seen := st.seen ++ [n], name := vv, wanted := false }, sR ++ [n], hon.2, rfl, by omega, by rw [← HST.out]; exact HE.out, by simp; omega, HMEM.out, by simpa using HOW5.out, rfl, rfl, rfl, hB5⟩
          case measure => simp [intOf]; omega
end Go.Proofs.YtddonipfpchabaaDoor
