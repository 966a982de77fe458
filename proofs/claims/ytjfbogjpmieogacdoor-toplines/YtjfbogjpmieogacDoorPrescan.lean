/-
  Prescan: the name that the first bytes tell.
-/
import Derived.Test.YtjfbogjpmieogacDoorMetaRead
namespace Go.Proofs.YtjfbogjpmieogacDoor.Sn
open Go.RowKit

def st0 : MSt := ⟨[], ⟨#[]⟩, false, false⟩

def prescanL (t : ByteArray) : Nat → Nat → ByteArray × Bool
  | 0, _ => (⟨#[]⟩, false)
  | n + 1, p =>
    if p < t.size then
      if Lib.hasPrefix (t.data.toList.drop p) [60, 33, 45, 45] then prescanL t n (endC t p + 1)
      else if metaL (t.data.toList.drop p) then
        (if tellsB (mread t (t.size + 1) (p + 5) st0).1 then ((mread t (t.size + 1) (p + 5) st0).1.name, true) else prescanL t n ((mread t (t.size + 1) (p + 5) st0).2 + 1))
      else if tagL (t.data.toList.drop p) then prescanL t n (behL t (t.size + 1) (scan pVal t.data.toList p) + 1)
      else if otherL (t.data.toList.drop p) then prescanL t n (scan (fun c => !inSet [62] c) t.data.toList p + 1)
      else prescanL t n (p + 1)
    else (⟨#[]⟩, false)

def pre1024 (s : ByteArray) : ByteArray := s.extract 0 (min s.size 1024)
def prescanF (s : ByteArray) : ByteArray × Bool := prescanL (pre1024 s) ((pre1024 s).size + 2) 0

theorem valC_size (s : ByteArray) (k : Nat) : (valC s k).1.size ≤ s.size := by
  unfold valC
  dsimp only
  split
  · split
    · split
      · simp; omega
      · exact Nat.zero_le _
    · simp; omega
  · exact Nat.zero_le _
theorem charL_size (s : ByteArray) : ∀ n k, (charL s n k).1.size ≤ s.size
  | 0, _ => Nat.zero_le _
  | n + 1, k => by
    unfold charL
    dsimp only
    split
    · split
      · split
        · exact valC_size s _
        · exact charL_size s n _
      · exact charL_size s n _
    · exact Nat.zero_le _
theorem mstep_size (st : MSt) (n v : ByteArray) (B : Nat) (h : st.name.size ≤ B) (hv : v.size ≤ B) : (mstep st n v).name.size ≤ B := by
  have hc : (charF v).1.size ≤ v.size := charL_size v _ _
  unfold mstep
  split
  · exact h
  · split
    · exact h
    · split
      · split
        · show (charF v).1.size ≤ B
          omega
        · exact h
      · split
        · exact hv
        · exact h
theorem mread_size (t : ByteArray) : ∀ n k st, st.name.size ≤ t.size → (mread t n k st).1.name.size ≤ t.size
  | 0, _, _, h => h
  | n + 1, k, st, h => by
    unfold mread
    split
    · exact mread_size t n _ _ (mstep_size _ _ _ _ h (attrF_vsize t k))
    · exact h
theorem mread_le (t : ByteArray) : ∀ n k st, k ≤ t.size → (mread t n k st).2 ≤ t.size
  | 0, _, _, h => h
  | n + 1, k, st, h => by
    unfold mread
    split
    · exact mread_le t n _ _ (attrF_le t k)
    · exact attrF_le t k
theorem behL_le (t : ByteArray) : ∀ n k, k ≤ t.size → behL t n k ≤ t.size
  | 0, _, h => h
  | n + 1, k, h => by
    unfold behL
    split
    · exact behL_le t n _ (attrF_le t k)
    · exact attrF_le t k
theorem attrF_ge (s : ByteArray) (k : Nat) (hk : k ≤ s.size) : k ≤ (attrF s k).2.2.1 := by
  have h1 := scan_ge pBS s.data.toList k
  have h2 := scan_ge pName s.data.toList (scan pBS s.data.toList k + 1)
  have h3 := scan_ge pB s.data.toList (scan pName s.data.toList (scan pBS s.data.toList k + 1))
  unfold attrF
  dsimp only
  split
  · split
    · exact h1
    · split
      · split
        · have h4 := valF_ge s (scan pB s.data.toList (scan pName s.data.toList (scan pBS s.data.toList k + 1)) + 1) (by omega)
          split
          · split
            · show k ≤ (valF s _).2.1
              omega
            · show k ≤ (valF s _).2.1
              omega
          · show k ≤ scan pB _ _
            omega
        · exact hk
      · exact hk
  · exact hk
theorem mread_ge (t : ByteArray) : ∀ n k st, k ≤ t.size → k ≤ (mread t n k st).2
  | 0, _, _, _ => Nat.le_refl _
  | n + 1, k, st, h => by
    unfold mread
    split
    · rename_i hok
      have h1 := attrF_on t k hok
      have := mread_ge t n (attrF t k).2.2.1 (mstep st (attrF t k).1 (attrF t k).2.1) h1.2
      omega
    · exact attrF_ge t k h
theorem behL_ge (t : ByteArray) : ∀ n k, k ≤ t.size → k ≤ behL t n k
  | 0, _, _ => Nat.le_refl _
  | n + 1, k, h => by
    unfold behL
    split
    · rename_i hok
      have h1 := attrF_on t k hok
      have := behL_ge t n (attrF t k).2.2.1 h1.2
      omega
    · exact attrF_ge t k h
theorem endC_le (t : ByteArray) (p : Nat) (hp : p + 2 ≤ t.size) : endC t p ≤ t.size ∧ p ≤ endC t p := by
  unfold endC
  split
  · omega
  · rename_i h
    obtain ⟨i, hi⟩ := Int.eq_ofNat_of_zero_le (show 0 ≤ Lib.index (t.data.toList.drop (p + 2)) [45, 45, 62] by omega)
    have := index_room _ i hi
    rw [hi]
    simp at this
    simp
    omega
theorem metaL_room {l : List UInt8} (h : metaL l = true) : 5 < l.length := by
  unfold metaL at h
  rcases Nat.lt_or_ge 5 l.length with h' | h'
  · exact h'
  · rw [List.getElem?_eq_none h'] at h
    simp at h
theorem hp_room {l : List UInt8} (h : Lib.hasPrefix l [60, 33, 45, 45] = true) : 4 ≤ l.length :=
  (List.isPrefixOf_iff_prefix.1 h).length_le

theorem hasPrefix_to (t p : ByteArray) (k : Nat) (b : Bool) (w : World) (hb : Lib.hasPrefix (t.data.toList.drop k) p.data.toList = b) :
    Calls Tryd.prog 12 #[.string (t.extract k t.size), .string p] w fun e w' => e = .returned (.bool b) ∧ w = w' := by
  have h := Tryd.strings_HasPrefix (t.extract k t.size) p w
  rw [Lib.extract_to_end, hb] at h
  exact h.mono fun e w' h => ⟨h.1, h.2.symm⟩
theorem meta_to (t : ByteArray) (k : Nat) (b : Bool) (w : World) (ht : t.size ≤ 1024) (hb : metaL (t.data.toList.drop k) = b) :
    Calls Tryd.prog 23 #[.string (t.extract k t.size)] w fun e w' => e = .returned (.bool b) ∧ Below w.heap.size w w' := by
  have h := beginsMeta_any (t.extract k t.size) w (by unfold maxLen; simp; omega)
  rw [Lib.extract_to_end, hb] at h
  exact h
theorem tag_to (t : ByteArray) (k : Nat) (b : Bool) (w : World) (hb : tagL (t.data.toList.drop k) = b) :
    Calls Tryd.prog 26 #[.string (t.extract k t.size)] w fun e w' => e = .returned (.bool b) ∧ w = w' := by
  have h := beginsTag_any (t.extract k t.size) w
  rw [Lib.extract_to_end, hb] at h
  exact h
theorem other_to (t : ByteArray) (k : Nat) (b : Bool) (w : World) (ht : t.size ≤ 1024) (hb : otherL (t.data.toList.drop k) = b) :
    Calls Tryd.prog 29 #[.string (t.extract k t.size)] w fun e w' => e = .returned (.bool b) ∧ w = w' := by
  have h := beginsOther_any (t.extract k t.size) w (by unfold maxLen; simp; omega)
  rw [Lib.extract_to_end, hb] at h
  exact h

set_option maxRecDepth 100000 in
set_option maxHeartbeats 4000000 in
theorem prescan_any (s : ByteArray) (m : Int) (w : World) (hs : s.size ≤ 4611686018427387904) (hg : 1 < w.heap.size) (hm : w.cell? ⟨1, 0, none⟩ = some (.int .i64 m)) :
    Calls Tryd.prog 13 #[.string s] w fun e w' => e = .returned (.tuple #[.string (prescanF s).1, .bool (prescanF s).2]) ∧ Below w.heap.size w w' := by
  unfold prescanF
  have ht0 : (pre1024 s).size ≤ 1024 := by unfold pre1024; simp; omega
  obtain ⟨t, htd⟩ : ∃ t, pre1024 s = t := ⟨_, rfl⟩
  rw [htd] at ht0 ⊢
  have HTD : Hid (s.extract 0 (min (s.size : Int) 1024).toNat = t) := by
    show _ = _
    rw [← htd, pre1024]
    congr 1
    omega
  clear htd
  generalize hV : prescanL t (t.size + 2) 0 = V
  have HV : Hid (prescanL t (t.size + 2) 0 = V) := hV
  clear hV
  have HM : Hid (w.cell? ⟨1, 0, none⟩ = some (.int .i64 m)) := hm
  clear hm
  have HL : Hid (t.data.toList.length = t.size) := by show _ = _; simp
  have htm : t.size ≤ maxLen := by unfold maxLen; omega
  go_enter Tryd.func13, Tryd.ntmps13
  go_wp2
  rw [HTD.out]
  go_loopw [4] (fun i wr => ∃ (p f : Nat), p ≤ t.size + 1 ∧ i = .int .i64 p ∧ t.size + 1 < p + f ∧ prescanL t f p = V ∧ Below w.heap.size w wr) (fun i _ => t.size + 1 - (intOf i).toNat)
  case atStart => exact ⟨0, t.size + 2, Nat.zero_le _, rfl, by omega, HV.out, Below.refl _ _⟩
  case round =>
    obtain ⟨p, f, hp, rfl, hf, hpr, hBr⟩ := hrel
    obtain ⟨f', rfl⟩ : ∃ f', f = f' + 1 := ⟨f - 1, by omega⟩
    have HP : Hid (prescanL t (f' + 1) p = V) := hpr
    clear hpr HV
    by_cases hpt : p < t.size
    rotate_left
    · have HE : Hid (V = (⟨#[]⟩, false)) := by
        show _ = _
        rw [← HP.out]
        simp [prescanL, hpt]
      have hpt' : ¬ (p : Int) < (t.size : Int) := by omega
      go_wp2
      go_ret2
      rw [HE.out]
      exact ⟨rfl, hBr⟩
    have HMr : Hid (wr.cell? ⟨1, 0, none⟩ = some (.int .i64 m)) := by
      show _ = _
      rw [hBr.cell (p := ⟨1, 0, none⟩) hg]
      exact HM.out
    have hgr : 1 < wr.heap.size := Nat.lt_of_lt_of_le hg hBr.size
    cases hh : Lib.hasPrefix (t.data.toList.drop p) [60, 33, 45, 45]
    rotate_left
    · have hroom := hp_room hh
      have hp2 : p + 4 ≤ t.size := by have := HL.out; simp at hroom; omega
      have HH : Hid (Lib.hasPrefix (t.data.toList.drop p) [60, 33, 45, 45] = true) := hh
      have hend := endC_le t p (by omega)
      have HE : Hid (prescanL t f' (endC t p + 1) = V) := by
        show _ = _
        rw [← HP.out]
        simp [prescanL, hpt, hh]
      clear hh hroom
      go_wp2_with fail
      refine (hasPrefix_to t _ p true _ (by exact HH.out)).mono ?_
      rintro e w1 ⟨rfl, rfl⟩
      go_wp2_with fail
      refine (commentEnd_any t p m _ ht0 (by omega) (by exact HMr.out)).mono ?_
      rintro e w1 ⟨rfl, rfl⟩
      go_wp2
      go_roundw
      case rel => exact ⟨endC t p + 1, f', by omega, by go_num, by omega, HE.out, hBr⟩
      case measure => simp [intOf]; omega
    have HH : Hid (Lib.hasPrefix (t.data.toList.drop p) [60, 33, 45, 45] = false) := hh
    cases hme : metaL (t.data.toList.drop p)
    rotate_left
    · have hroom := metaL_room hme
      have hp5 : p + 5 < t.size := by have := HL.out; simp at hroom; omega
      have HME : Hid (metaL (t.data.toList.drop p) = true) := hme
      obtain ⟨⟨st1, en⟩, hmd⟩ : ∃ R, mread t (t.size + 1) (p + 5) st0 = R := ⟨_, rfl⟩
      have hen : en ≤ t.size ∧ p + 5 ≤ en := by
        have h1 := mread_le t (t.size + 1) (p + 5) st0 (by omega)
        have h2 := mread_ge t (t.size + 1) (p + 5) st0 (by omega)
        rw [hmd] at h1 h2
        exact ⟨h1, h2⟩
      have hnz : st1.name.size ≤ t.size := by
        have h1 := mread_size t (t.size + 1) (p + 5) st0 (Nat.zero_le _)
        rw [hmd] at h1
        exact h1
      have HMD : Hid (mread t (t.size + 1) (p + 5) st0 = (st1, en)) := hmd
      have HE : Hid ((if tellsB st1 then (st1.name, true) else prescanL t f' (en + 1)) = V) := by
        show _ = _
        rw [← HP.out]
        simp [prescanL, hpt, hh, hme, hmd]
      clear hh hme hroom hmd
      go_wp2_with fail
      refine (hasPrefix_to t _ p false _ (by exact HH.out)).mono ?_
      rintro e w1 ⟨rfl, rfl⟩
      go_wp2_with fail
      refine (meta_to t p true _ ht0 (by exact HME.out)).mono ?_
      rintro e w1 ⟨rfl, hb1⟩
      have hB1 := hBr.trans (hb1.mono hBr.size)
      have HM1 : Hid (MetaAt (w1.alloc (.cells #[.slice none 0 0, .string ⟨#[]⟩, .bool false, .bool false] 59)) w1.heap.size (w1.heap.size + 1) (.slice none 0 0) st0) := by
        refine ⟨?_, ?_, ?_, ?_, ?_, ?_, ?_, ?_, World.ownsRow_nil _ _ _ _, Nat.lt_succ_self _, by simp⟩
        · exact World.cell?_alloc_at _ _ _ _ rfl
        · exact World.cell?_alloc_at _ _ _ _ rfl
        · exact World.cell?_alloc_at _ _ _ _ rfl
        · exact World.cell?_alloc_at _ _ _ _ rfl
        · exact World.frozen?_alloc_at _ _ _ _ rfl
        · exact World.frozen?_alloc_at _ _ _ _ rfl
        · exact World.frozen?_alloc_at _ _ _ _ rfl
        · exact World.frozen?_alloc_at _ _ _ _ rfl
      have hg1 : 1 < w1.heap.size := Nat.lt_of_lt_of_le hgr hb1.size
      have HC1 : Hid ((w1.alloc (.cells #[.slice none 0 0, .string ⟨#[]⟩, .bool false, .bool false] 59)).cell? ⟨1, 0, none⟩ = some (.int .i64 m)) := by
        show _ = _
        rw [World.cell?_alloc_past _ _ _ hg1, hb1.cell (p := ⟨1, 0, none⟩) hgr]
        exact HMr.out
      go_wp2_with fail
      rw [show ((p : Int) + 5) = ((p + 5 : Nat) : Int) by omega]
      refine (read_any t w1.heap.size (w1.heap.size + 1) (p + 5) (t.size + 1) en (.slice none 0 0) st0 st1 m _ ht0 (by omega) (by omega) (by exact HM1.out) (Nat.zero_le _) hg1 (by exact HC1.out) (by exact HMD.out)).mono ?_
      rintro e w2 ⟨rfl, hT⟩
      obtain ⟨v2, hM2, hB2⟩ := hT
      have HM2 : Hid (MetaAt w2 w1.heap.size (w1.heap.size + 1) v2 st1) := hM2
      have hB2' : Below w.heap.size w w2 := (hB1.alloc hB1.size _).trans (hB2.mono hB1.size)
      clear hM2 hB2 HM1 HC1
      go_wp2_with fail
      refine (tells_any w1.heap.size (w1.heap.size + 1) v2 st1 _ (by exact HM2.out) (by omega)).mono ?_
      rintro e w3 ⟨rfl, hb3⟩
      have hM3 := HM2.out.below hb3
      have k1 := hM3.c1
      have hB3 := hB2'.trans (hb3.mono hB2'.size)
      clear hM3 hb3 hB2' hB1 hb1 hBr
      cases hte : tellsB st1
      · have HX : Hid (prescanL t f' (en + 1) = V) := by
          have := HE.out
          rw [hte] at this
          exact this
        clear HE
        go_wp2
        go_roundw
        case rel => exact ⟨en + 1, f', by omega, by go_num, by omega, HX.out, hB3⟩
        case measure => simp [intOf]; omega
      · have HX : Hid (V = (st1.name, true)) := by
          have := HE.out
          rw [hte] at this
          exact this.symm
        clear HE
        go_wp2
        go_ret2
        rw [HX.out]
        exact ⟨rfl, hB3⟩
    have HME : Hid (metaL (t.data.toList.drop p) = false) := hme
    cases hta : tagL (t.data.toList.drop p)
    rotate_left
    · have HTA : Hid (tagL (t.data.toList.drop p) = true) := hta
      obtain ⟨q, hqd⟩ : ∃ q, scan pVal t.data.toList p = q := ⟨_, rfl⟩
      have hq0 : p ≤ q := by have := scan_ge pVal t.data.toList p; omega
      have hq1 : q ≤ t.size := by have := scan_le pVal t.data.toList p (by have := HL.out; omega); have := HL.out; omega
      obtain ⟨en, hed⟩ : ∃ en, behL t (t.size + 1) q = en := ⟨_, rfl⟩
      have hen : en ≤ t.size ∧ q ≤ en := by rw [← hed]; exact ⟨behL_le t _ q hq1, behL_ge t _ q hq1⟩
      have HQ : Hid (scan pVal t.data.toList p = q) := hqd
      have HEN : Hid (behL t (t.size + 1) q = en) := hed
      have HE : Hid (prescanL t f' (en + 1) = V) := by
        show _ = _
        rw [← HP.out]
        simp [prescanL, hpt, hh, hme, hta, hqd, hed]
      clear hh hme hta hqd hed
      go_wp2_with fail
      refine (hasPrefix_to t _ p false _ (by exact HH.out)).mono ?_
      rintro e w1 ⟨rfl, rfl⟩
      go_wp2_with fail
      refine (meta_to t p false _ ht0 (by exact HME.out)).mono ?_
      rintro e w1 ⟨rfl, hb1⟩
      have hB1 := hBr.trans (hb1.mono hBr.size)
      go_wp2_with fail
      refine (tag_to t p true _ (by exact HTA.out)).mono ?_
      rintro e w2 ⟨rfl, rfl⟩
      go_wp2_with fail
      refine (cs_upTo _ _ _ q _ htm (by omega) (by omega) (by exact HQ.out)).mono ?_
      rintro e w2 ⟨rfl, rfl⟩
      go_wp2_with fail
      refine (behind_any t q (t.size + 1) en _ ht0 hq1 (by omega) (by exact HEN.out)).mono ?_
      rintro e w3 ⟨rfl, hb3⟩
      have hB3 := hB1.trans (hb3.mono hB1.size)
      clear hb3 hB1 hb1 hBr
      go_wp2
      go_roundw
      case rel => exact ⟨en + 1, f', by omega, by go_num, by omega, HE.out, hB3⟩
      case measure => simp [intOf]; omega
    have HTA : Hid (tagL (t.data.toList.drop p) = false) := hta
    cases hot : otherL (t.data.toList.drop p)
    · have HOT : Hid (otherL (t.data.toList.drop p) = false) := hot
      have HE : Hid (prescanL t f' (p + 1) = V) := by
        show _ = _
        rw [← HP.out]
        simp [prescanL, hpt, hh, hme, hta, hot]
      clear hh hme hta hot
      go_wp2_with fail
      refine (hasPrefix_to t _ p false _ (by exact HH.out)).mono ?_
      rintro e w1 ⟨rfl, rfl⟩
      go_wp2_with fail
      refine (meta_to t p false _ ht0 (by exact HME.out)).mono ?_
      rintro e w1 ⟨rfl, hb1⟩
      have hB1 := hBr.trans (hb1.mono hBr.size)
      go_wp2_with fail
      refine (tag_to t p false _ (by exact HTA.out)).mono ?_
      rintro e w2 ⟨rfl, rfl⟩
      go_wp2_with fail
      refine (other_to t p false _ ht0 (by exact HOT.out)).mono ?_
      rintro e w2 ⟨rfl, rfl⟩
      clear hb1 hBr
      go_wp2
      go_roundw
      case rel => exact ⟨p + 1, f', by omega, by go_num, by omega, HE.out, hB1⟩
      case measure => simp [intOf]; omega
    · have HOT : Hid (otherL (t.data.toList.drop p) = true) := hot
      obtain ⟨q, hqd⟩ : ∃ q, scan (fun c => !inSet [62] c) t.data.toList p = q := ⟨_, rfl⟩
      have hq0 : p ≤ q := by have := scan_ge (fun c => !inSet [62] c) t.data.toList p; omega
      have hq1 : q ≤ t.size := by have := scan_le (fun c => !inSet [62] c) t.data.toList p (by have := HL.out; omega); have := HL.out; omega
      have HQ : Hid (scan (fun c => !inSet [62] c) t.data.toList p = q) := hqd
      have HE : Hid (prescanL t f' (q + 1) = V) := by
        show _ = _
        rw [← HP.out]
        simp [prescanL, hpt, hh, hme, hta, hot, hqd]
      clear hh hme hta hot hqd
      go_wp2_with fail
      refine (hasPrefix_to t _ p false _ (by exact HH.out)).mono ?_
      rintro e w1 ⟨rfl, rfl⟩
      go_wp2_with fail
      refine (meta_to t p false _ ht0 (by exact HME.out)).mono ?_
      rintro e w1 ⟨rfl, hb1⟩
      have hB1 := hBr.trans (hb1.mono hBr.size)
      go_wp2_with fail
      refine (tag_to t p false _ (by exact HTA.out)).mono ?_
      rintro e w2 ⟨rfl, rfl⟩
      go_wp2_with fail
      refine (other_to t p true _ ht0 (by exact HOT.out)).mono ?_
      rintro e w2 ⟨rfl, rfl⟩
      go_wp2_with fail
      refine (cs_upTo _ _ _ q _ htm (by omega) (by omega) (by exact HQ.out)).mono ?_
      rintro e w2 ⟨rfl, rfl⟩
      clear hb1 hBr
      go_wp2
      go_roundw
      case rel => exact ⟨q + 1, f', by omega, by go_num, by omega, HE.out, hB1⟩
      case measure => simp [intOf]; omega
end Go.Proofs.YtjfbogjpmieogacDoor.Sn
