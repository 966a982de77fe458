/-
  read and tells: all attributes of a meta element, and whether they tell a name; behindAttributes; commentEnd.
-/
import Derived.Test.YtjfbogjpmieogacDoorMetaTake
import Derived.Test.YtjfbogjpmieogacDoorAttr
namespace Go.Proofs.YtjfbogjpmieogacDoor.Sn
open Go.RowKit

def mread (t : ByteArray) : Nat → Nat → MSt → MSt × Nat
  | 0, k, st => (st, k)
  | n + 1, k, st => if (attrF t k).2.2.2 then mread t n (attrF t k).2.2.1 (mstep st (attrF t k).1 (attrF t k).2.1) else (st, (attrF t k).2.2.1)

theorem valF_size (s : ByteArray) (k : Nat) : (valF s k).1.size ≤ s.size := by
  unfold valF
  dsimp only
  split
  · split
    · split
      · show (lowS _).size ≤ _
        rw [lowS_size]
        simp
        omega
      · exact Nat.zero_le _
    · split
      · show (lowS _).size ≤ _
        rw [lowS_size]
        simp
        omega
      · exact Nat.zero_le _
  · exact Nat.zero_le _
theorem attrF_vsize (s : ByteArray) (k : Nat) : (attrF s k).2.1.size ≤ s.size := by
  unfold attrF
  dsimp only
  split
  · split
    · exact Nat.zero_le _
    · split
      · split
        · split
          · split
            · exact valF_size s _
            · exact Nat.zero_le _
          · exact Nat.zero_le _
        · exact Nat.zero_le _
      · exact Nat.zero_le _
  · exact Nat.zero_le _
theorem attrF_on (s : ByteArray) (k : Nat) (h : (attrF s k).2.2.2 = true) : k < (attrF s k).2.2.1 ∧ (attrF s k).2.2.1 ≤ s.size := by
  have h1 := scan_ge pBS s.data.toList k
  have h2 := scan_ge pName s.data.toList (scan pBS s.data.toList k + 1)
  have h3 := scan_ge pB s.data.toList (scan pName s.data.toList (scan pBS s.data.toList k + 1))
  revert h
  unfold attrF
  dsimp only
  split
  · split
    · simp
    · split
      · split
        · split
          · split
            · intro _
              have h4 := valF_ge s (scan pB s.data.toList (scan pName s.data.toList (scan pBS s.data.toList k + 1)) + 1) (by omega)
              have h5 := valF_le s (scan pB s.data.toList (scan pName s.data.toList (scan pBS s.data.toList k + 1)) + 1)
              exact ⟨by show k < (valF s _).2.1; omega, h5⟩
            · simp
          · intro _
            exact ⟨by show k < scan pB _ _; omega, by show scan pB _ _ ≤ _; omega⟩
        · intro _
          exact ⟨by show k < s.size; omega, Nat.le_refl _⟩
      · simp
  · simp
theorem attrF_le (s : ByteArray) (k : Nat) : (attrF s k).2.2.1 ≤ s.size := by
  unfold attrF
  dsimp only
  split
  · split
    · exact Nat.le_of_lt ‹_›
    · split
      · split
        · split
          · split
            · exact valF_le s _
            · exact valF_le s _
          · exact Nat.le_of_lt ‹_›
        · exact Nat.le_refl _
      · exact Nat.le_refl _
  · exact Nat.le_refl _

theorem mstep_len (st : MSt) (n v : ByteArray) : (mstep st n v).seen.length ≤ st.seen.length + 1 := by
  unfold mstep
  split
  · omega
  · split
    · simp
    · split
      · split
        · simp
        · simp
      · split
        · simp
        · simp

theorem at_to (s : ByteArray) (k : Nat) (n v : ByteArray) (m : Nat) (ok : Bool) (w : World) (hs : s.size ≤ 140737488351232) (hk : k ≤ s.size) (h : attrF s k = (n, v, m, ok)) :
    Calls Tryd.prog 44 #[.string s, .int .i64 k] w fun e w' => e = .returned (.tuple #[.agg #[.string n, .string v], .int .i64 m, .bool ok]) ∧ Below w.heap.size w w' := by
  have := attr_in s k w hs hk
  rw [h] at this
  exact this

theorem take_any (b base : Nat) (v : Value) (st st' : MSt) (n vv : ByteArray) (m : Int) (w : World) (hM : MetaAt w b base v st) (hlen : st.seen.length ≤ 2000) (hvs : vv.size < 4294967281)
    (hg : 1 < b) (hm : w.cell? ⟨1, 0, none⟩ = some (.int .i64 m)) (hst : mstep st n vv = st') :
    Calls Tryd.prog 45 #[.pointer (some ⟨b, 0, none⟩), .agg #[.string n, .string vv]] w fun e w' => e = .returned (.tuple #[]) ∧ Took w w' b base st' := by
  rw [← hst]
  cases hc : Lib.containsS st.seen n
  · exact take_new b base v st n vv m w hM hlen hvs hg hm hc
  · exact take_seen b base v st n vv w hM hlen hc

set_option maxRecDepth 100000 in
set_option maxHeartbeats 1000000 in
theorem read_any (t : ByteArray) (b base k0 f0 en : Nat) (v0 : Value) (st0 st1 : MSt) (m : Int) (w : World) (ht : t.size ≤ 1024) (hk0 : k0 ≤ t.size) (hf0 : t.size < k0 + f0) (hM : MetaAt w b base v0 st0) (hlen : st0.seen.length ≤ k0)
    (hg : 1 < b) (hm : w.cell? ⟨1, 0, none⟩ = some (.int .i64 m)) (hr : mread t f0 k0 st0 = (st1, en)) :
    Calls Tryd.prog 24 #[.pointer (some ⟨b, 0, none⟩), .string t, .int .i64 k0] w fun e w' => e = .returned (.int .i64 en) ∧ Took w w' b base st1 := by
  have HM : Hid (MetaAt w b base v0 st0) := hM
  have HC : Hid (w.cell? ⟨1, 0, none⟩ = some (.int .i64 m)) := hm
  have HR : Hid (mread t f0 k0 st0 = (st1, en)) := hr
  clear hM hm hr
  go_enter Tryd.func24, Tryd.ntmps24
  go_wp2
  go_loopw [2] (fun i wr => ∃ (k f : Nat) (st : MSt) (v : Value), k ≤ t.size ∧ i = .int .i64 k ∧ t.size < k + f ∧ mread t f k st = (st1, en) ∧ st.seen.length ≤ k ∧ MetaAt wr b base v st ∧ Below b w wr) (fun i _ => t.size - (intOf i).toNat)
  case atStart => exact ⟨k0, f0, st0, v0, hk0, rfl, hf0, HR.out, hlen, HM.out, Below.refl _ _⟩
  case round =>
    obtain ⟨k, f, st, v, hk, rfl, hf, hmr, hsl, hMr, hBr⟩ := hrel
    obtain ⟨f', rfl⟩ : ∃ f', f = f' + 1 := ⟨f - 1, by omega⟩
    obtain ⟨⟨n, vv, en', ok⟩, had⟩ : ∃ R, attrF t k = R := ⟨_, rfl⟩
    have hvz : vv.size ≤ t.size := by have := attrF_vsize t k; rw [had] at this; exact this
    have HAT : Hid (attrF t k = (n, vv, en', ok)) := had
    have HMR : Hid (mread t (f' + 1) k st = (st1, en)) := hmr
    have HMr : Hid (MetaAt wr b base v st) := hMr
    clear had hmr hMr
    go_wp2_with fail
    refine (at_to _ _ n vv en' ok _ (by omega) hk (by exact HAT.out)).mono ?_
    rintro e w3 ⟨rfl, hb3⟩
    have hbw : b ≤ wr.heap.size := Nat.le_of_lt (Nat.lt_of_lt_of_le HMr.out.lt HMr.out.le)
    have hB3 : Below b w w3 := hBr.trans (hb3.mono hbw)
    have hM3 := HMr.out.below hb3
    have HM3 : Hid (MetaAt w3 b base v st) := hM3
    have hb3w : b ≤ w3.heap.size := Nat.le_trans hbw hb3.size
    clear hM3 HMr hb3 hBr
    cases ok
    · have HE : Hid (st = st1 ∧ en' = en) := by
        show _ ∧ _
        have := HMR.out
        unfold mread at this
        rw [HAT.out] at this
        simpa using this
      go_wp2
      go_ret
      obtain ⟨h1, h2⟩ := HE.out
      subst h1 h2
      exact ⟨rfl, v, HM3.out.below ((Below.refl _ _).alloc (Nat.le_refl _) _), hB3.alloc hb3w _⟩
    · have HE : Hid (mread t f' en' (mstep st n vv) = (st1, en)) := by
        show _ = _
        have := HMR.out
        unfold mread at this
        rw [HAT.out] at this
        simpa using this
      have hon : k < en' ∧ en' ≤ t.size := by
        have := attrF_on t k (by rw [HAT.out])
        rw [HAT.out] at this
        exact this
      have hml := mstep_len st n vv
      obtain ⟨st', hst⟩ : ∃ st', mstep st n vv = st' := ⟨_, rfl⟩
      rw [hst] at hml
      have HST : Hid (mstep st n vv = st') := hst
      clear hst
      have HMA : Hid (MetaAt (w3.alloc (.cells #[.string n, .string vv] 88)) b base v st) := HM3.out.below ((Below.refl _ _).alloc (Nat.le_refl _) _)
      have HCA : Hid ((w3.alloc (.cells #[.string n, .string vv] 88)).cell? ⟨1, 0, none⟩ = some (.int .i64 m)) := by
        show _ = _
        rw [(hB3.alloc hb3w _).cell (p := ⟨1, 0, none⟩) hg]
        exact HC.out
      have HBA : Hid (Below b w (w3.alloc (.cells #[.string n, .string vv] 88))) := hB3.alloc hb3w _
      go_wp2_with fail
      refine (take_any b base v st st' n vv m _ (by exact HMA.out) (by omega) (by omega) hg (by exact HCA.out) (by exact HST.out)).mono ?_
      rintro e w4 ⟨rfl, hT⟩
      obtain ⟨v', hM4, hB4⟩ := hT
      have HM4 : Hid (MetaAt w4 b base v' st') := hM4
      have HB4 : Hid (Below b w w4) := HBA.out.trans hB4
      clear hM4 hB4
      go_wp2
      go_roundw
      case rel => exact ⟨en', f', st', v', hon.2, rfl, by omega, by rw [← HST.out]; exact HE.out, by omega, HM4.out, HB4.out⟩
      case measure => simp [intOf]; omega

def tellsB (st : MSt) : Bool := !(trimX st.name).toList.isEmpty && (st.pragma || !st.wanted)

set_option maxRecDepth 100000 in
set_option maxHeartbeats 1000000 in
theorem tells_any (b base : Nat) (v : Value) (st : MSt) (w : World) (hM : MetaAt w b base v st) (hs : st.name.size ≤ 140737488351232) :
    Calls Tryd.prog 25 #[.pointer (some ⟨b, 0, none⟩)] w fun e w' => e = .returned (.bool (tellsB st)) ∧ Below w.heap.size w w' := by
  have d1 := hM.c1
  have hbw : b < w.heap.size := Nat.lt_of_lt_of_le hM.lt hM.le
  have HM : Hid (MetaAt w b base v st) := hM
  clear hM
  obtain ⟨x, hx⟩ : ∃ x, trimX st.name = x := ⟨_, rfl⟩
  have HX : Hid (trimX st.name = x) := hx
  clear hx
  generalize hV : tellsB st = V
  have HV : Hid (tellsB st = V) := hV
  clear hV
  have hT : ∀ w, Calls Tryd.prog 31 #[.string st.name, .string ⟨#[9, 10, 12, 13, 32]⟩] w fun e w' => e = .returned (.string x) ∧ Below w.heap.size w w' := fun w => by
    have := Tryd.strings_Trim_laid st.name ⟨#[9, 10, 12, 13, 32]⟩ w (by omega) (by decide) cs_blanks
    rw [← HX.out]
    exact this
  have HT : Hid (∀ w, Calls Tryd.prog 31 #[.string st.name, .string ⟨#[9, 10, 12, 13, 32]⟩] w fun e w' => e = .returned (.string x) ∧ Below w.heap.size w w') := hT
  clear hT
  go_enter Tryd.func25, Tryd.ntmps25
  go_wp2_with fail
  refine (HT.out _).mono ?_
  rintro e w1 ⟨rfl, hb1⟩
  have hM1 := HM.out.below hb1
  have k2 := hM1.c2
  have k3 := hM1.c3
  clear hM1 d1
  cases hem : x.toList.isEmpty
  · cases hp : st.pragma
    · cases hw : st.wanted
      · have HE : Hid (V = true) := by
          show _ = _
          rw [← HV.out]
          simp [tellsB, HX.out, hem, hp, hw]
        rw [hp] at k2
        rw [hw] at k3
        go_wp2
        go_ret
        rw [HE.out]
        exact ⟨rfl, hb1⟩
      · have HE : Hid (V = false) := by
          show _ = _
          rw [← HV.out]
          simp [tellsB, hp, hw]
        rw [hp] at k2
        rw [hw] at k3
        go_wp2
        go_ret
        rw [HE.out]
        exact ⟨rfl, hb1⟩
    · have HE : Hid (V = true) := by
        show _ = _
        rw [← HV.out]
        simp [tellsB, HX.out, hem, hp]
      rw [hp] at k2
      go_wp2
      go_ret
      rw [HE.out]
      exact ⟨rfl, hb1⟩
  · have HE : Hid (V = false) := by
      show _ = _
      rw [← HV.out]
      simp [tellsB, HX.out, hem]
    go_wp2
    go_ret
    rw [HE.out]
    exact ⟨rfl, hb1⟩

def behL (t : ByteArray) : Nat → Nat → Nat
  | 0, k => k
  | n + 1, k => if (attrF t k).2.2.2 then behL t n (attrF t k).2.2.1 else (attrF t k).2.2.1

set_option maxRecDepth 100000 in
set_option maxHeartbeats 1000000 in
theorem behind_any (t : ByteArray) (k0 f0 en : Nat) (w : World) (ht : t.size ≤ 1024) (hk0 : k0 ≤ t.size) (hf0 : t.size < k0 + f0) (hr : behL t f0 k0 = en) :
    Calls Tryd.prog 27 #[.string t, .int .i64 k0] w fun e w' => e = .returned (.int .i64 en) ∧ Below w.heap.size w w' := by
  have HR : Hid (behL t f0 k0 = en) := hr
  clear hr
  go_enter Tryd.func27, Tryd.ntmps27
  go_wp2
  go_loopw [1] (fun i wr => ∃ (k f : Nat), k ≤ t.size ∧ i = .int .i64 k ∧ t.size < k + f ∧ behL t f k = en ∧ Below w.heap.size w wr) (fun i _ => t.size - (intOf i).toNat)
  case atStart => exact ⟨k0, f0, hk0, rfl, hf0, HR.out, Below.refl _ _⟩
  case round =>
    obtain ⟨k, f, hk, rfl, hf, hmr, hBr⟩ := hrel
    obtain ⟨f', rfl⟩ : ∃ f', f = f' + 1 := ⟨f - 1, by omega⟩
    obtain ⟨⟨n, vv, en', ok⟩, had⟩ : ∃ R, attrF t k = R := ⟨_, rfl⟩
    have HAT : Hid (attrF t k = (n, vv, en', ok)) := had
    have HMR : Hid (behL t (f' + 1) k = en) := hmr
    clear had hmr
    go_wp2_with fail
    refine (at_to _ _ n vv en' ok _ (by omega) hk (by exact HAT.out)).mono ?_
    rintro e w3 ⟨rfl, hb3⟩
    have hB3 : Below w.heap.size w w3 := hBr.trans (hb3.mono hBr.size)
    have hb3w : w.heap.size ≤ w3.heap.size := hB3.size
    clear hb3 hBr
    cases ok
    · have HE : Hid (en' = en) := by
        show _ = _
        have := HMR.out
        unfold behL at this
        rw [HAT.out] at this
        simpa using this
      go_wp2
      go_ret
      rw [HE.out]
      exact ⟨rfl, hB3.alloc hb3w _⟩
    · have HE : Hid (behL t f' en' = en) := by
        show _ = _
        have := HMR.out
        unfold behL at this
        rw [HAT.out] at this
        simpa using this
      have hon : k < en' ∧ en' ≤ t.size := by
        have := attrF_on t k (by rw [HAT.out])
        rw [HAT.out] at this
        exact this
      go_wp2
      go_roundw
      case rel => exact ⟨en', f', hon.2, rfl, by omega, HE.out, hB3.alloc hb3w _⟩
      case measure => simp [intOf]; omega

/-- Where a comment that begins at p ends: its last byte, or the end of all. -/
def endC (t : ByteArray) (p : Nat) : Nat := if Lib.index (t.data.toList.drop (p + 2)) [45, 45, 62] < 0 then t.size else p + 2 + (Lib.index (t.data.toList.drop (p + 2)) [45, 45, 62]).toNat + 2

theorem index_room (l : List UInt8) (i : Nat) (h : Lib.index l [45, 45, 62] = i) : i + 3 ≤ l.length := by
  have : ∀ (l : List UInt8) (i : Nat), Lib.index l [45, 45, 62] = (i : Int) → i + 3 ≤ l.length := by
    intro l
    induction l with
    | nil => intro i h; simp [Lib.index] at h
    | cons c l ih =>
      intro i h
      by_cases ho : Lib.occAt (c :: l) [45, 45, 62] 0 = true
      · have := Lib.index_hit (Lib.NoOcc.zero _ _) (Nat.zero_le _) ho
        rw [this] at h
        have hr := Lib.occAt_room ho
        simp at hr
        simp
        omega
      · have ho' : Lib.occAt (c :: l) [45, 45, 62] 0 = false := by simpa using ho
        have h1 := Lib.index_drop (i := 1) ((Lib.NoOcc.zero _ _).succ ho') (by simp)
        simp only [List.drop_succ_cons, List.drop_zero] at h1
        rw [h1] at h
        have hge := Lib.index_ge l [45, 45, 62]
        split at h
        · omega
        · rename_i hne
          have hne' : Lib.index l [45, 45, 62] ≠ -1 := fun e => hne (by rw [e]; rfl)
          obtain ⟨j, hj⟩ := Int.eq_ofNat_of_zero_le (show 0 ≤ Lib.index l [45, 45, 62] by omega)
          have := ih j hj
          simp
          omega
  exact this l i h

set_option maxRecDepth 100000 in
set_option maxHeartbeats 1000000 in
theorem commentEnd_any (t : ByteArray) (p : Nat) (m : Int) (w : World) (ht : t.size ≤ 1024) (hp : p + 2 ≤ t.size) (hm : w.cell? ⟨1, 0, none⟩ = some (.int .i64 m)) :
    Calls Tryd.prog 22 #[.string t, .int .i64 p] w fun e w' => e = .returned (.int .i64 (endC t p)) ∧ w = w' := by
  generalize hV : endC t p = V
  have HV : Hid (endC t p = V) := hV
  clear hV
  have HM : Hid (w.cell? ⟨1, 0, none⟩ = some (.int .i64 m)) := hm
  clear hm
  obtain ⟨r, hrd⟩ : ∃ r, Lib.index (t.data.toList.drop (p + 2)) [45, 45, 62] = r := ⟨_, rfl⟩
  have HI : Hid (∀ w : World, w.cell? ⟨1, 0, none⟩ = some (.int .i64 m) → Calls Tryd.prog 42 #[.string (t.extract (p + 2) t.size), .string ⟨#[45, 45, 62]⟩] w fun e w' => e = .returned (.int .i64 r) ∧ w = w') := fun w hm => by
    have h := Tryd.strings_Index (t.extract (p + 2) t.size) ⟨#[45, 45, 62]⟩ m w (by simp; omega) hm
    rw [Lib.extract_to_end] at h
    rw [← hrd]
    exact h.mono fun e w' h => ⟨h.1, h.2.symm⟩
  have HRD : Hid (Lib.index (t.data.toList.drop (p + 2)) [45, 45, 62] = r) := hrd
  clear hrd
  by_cases hr : r < 0
  · have HE : Hid (V = t.size) := by
      show _ = _
      rw [← HV.out]
      simp [endC, HRD.out, hr]
    go_enter Tryd.func22, Tryd.ntmps22
    go_wp2_with fail
    refine (HI.out _ (by exact HM.out)).mono ?_
    rintro e w1 ⟨rfl, rfl⟩
    go_wp2
    go_ret
    rw [HE.out]
    exact ⟨rfl, rfl⟩
  · obtain ⟨i, rfl⟩ := Int.eq_ofNat_of_zero_le (show 0 ≤ r by omega)
    have hroom := index_room _ i HRD.out
    have hi : i + 3 + p + 2 ≤ t.size := by simp at hroom; omega
    have HE : Hid (V = p + 2 + i + 2) := by
      show _ = _
      rw [← HV.out]
      simp only [endC, HRD.out]
      rw [if_neg hr]
      rfl
    clear hr hroom
    go_enter Tryd.func22, Tryd.ntmps22
    go_wp2_with fail
    refine (HI.out _ (by exact HM.out)).mono ?_
    rintro e w1 ⟨rfl, rfl⟩
    go_wp2
    go_ret
    rw [HE.out]
    exact ⟨ret_int (by omega), rfl⟩
end Go.Proofs.YtjfbogjpmieogacDoor.Sn
