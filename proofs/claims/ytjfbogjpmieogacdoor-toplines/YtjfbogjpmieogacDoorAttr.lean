/-
  Attribute: the next attribute from a place on.
-/
import Derived.Test.YtjfbogjpmieogacDoorValue
namespace Go.Proofs.YtjfbogjpmieogacDoor.Sn
open Go.RowKit

/-- The attribute from place k on: name, value, where it ends; whether there is one. -/
def attrF (s : ByteArray) (k : Nat) : ByteArray × ByteArray × Nat × Bool :=
  let p := scan pBS s.data.toList k
  if h : p < s.size then
    if s[p] == 62 then (⟨#[]⟩, ⟨#[]⟩, p, false)
    else
      let e := scan pName s.data.toList (p + 1)
      if e < s.size then
        let e2 := scan pB s.data.toList e
        if h2 : e2 < s.size then
          if s[e2] == 61 then
            if (valF s (e2 + 1)).2.2 then (lowS (s.extract p e), (valF s (e2 + 1)).1, (valF s (e2 + 1)).2.1, true) else (⟨#[]⟩, ⟨#[]⟩, (valF s (e2 + 1)).2.1, false)
          else (lowS (s.extract p e), ⟨#[]⟩, e2, true)
        else (lowS (s.extract p e), ⟨#[]⟩, s.size, true)
      else (⟨#[]⟩, ⟨#[]⟩, s.size, false)
  else (⟨#[]⟩, ⟨#[]⟩, s.size, false)

set_option maxHeartbeats 400000 in
theorem attr_out (s : ByteArray) (a : Int) (w : World) (h : a < 0 ∨ (s.size : Int) < a) :
    Calls Tryd.prog 44 #[.string s, .int .i64 a] w fun e w' => e = .returned (.tuple #[.agg #[.string ⟨#[]⟩, .string ⟨#[]⟩], .int .i64 0, .bool false]) ∧ Below w.heap.size w w' := by
  by_cases h0 : a < 0
  · go_enter Tryd.func44, Tryd.ntmps44
    go_wp2
    exact bodyPost_ret (v := .tuple #[.agg #[.string ⟨#[]⟩, .string ⟨#[]⟩], .int .i64 0, .bool false]) (by simp [results, Tryd.results44, go_sem]) rfl ⟨rfl, (Below.refl _ _).alloc (Nat.le_refl _) _⟩
  · have h1 : (s.size : Int) < a := by omega
    go_enter Tryd.func44, Tryd.ntmps44
    go_wp2
    exact bodyPost_ret (v := .tuple #[.agg #[.string ⟨#[]⟩, .string ⟨#[]⟩], .int .i64 0, .bool false]) (by simp [results, Tryd.results44, go_sem]) rfl ⟨rfl, (Below.refl _ _).alloc (Nat.le_refl _) _⟩

theorem bcell {W w1 : World} (hb : Below W.heap.size W w1) : (∀ b o, b < W.heap.size → w1.cell? ⟨b, o, none⟩ = W.cell? ⟨b, o, none⟩) ∧ (∀ b o, b < W.heap.size → w1.frozen? ⟨b, o, none⟩ = W.frozen? ⟨b, o, none⟩) :=
  ⟨fun b o h => hb.cell (p := ⟨b, o, none⟩) h, fun b o h => hb.frozen (p := ⟨b, o, none⟩) h⟩

set_option maxHeartbeats 400000 in
theorem attr_end (s : ByteArray) (k p : Nat) (w : World) (hs : s.size ≤ 140737488351232) (h1 : k ≤ s.size) (HP : Hid (scan pBS s.data.toList k = p)) (hp : p = s.size) :
    Calls Tryd.prog 44 #[.string s, .int .i64 k] w fun e w' => e = .returned (.tuple #[.agg #[.string ⟨#[]⟩, .string ⟨#[]⟩], .int .i64 s.size, .bool false]) ∧ Below w.heap.size w w' := by
  have hm : s.size ≤ maxLen := by unfold maxLen; omega
  subst hp
  have hpe : ((s.size : Int) == (s.size : Int)) = true := by simp
  go_enter Tryd.func44, Tryd.ntmps44
  go_wp2_with fail
  refine (passOver_to _ _ _ s.size _ hm (by omega) (by omega) (by exact HP.out)).mono ?_
  rintro e w' ⟨rfl, rfl⟩
  go_wp2
  exact bodyPost_ret (v := .tuple #[.agg #[.string ⟨#[]⟩, .string ⟨#[]⟩], .int .i64 s.size, .bool false]) (by simp [results, Tryd.results44, go_sem]) rfl ⟨rfl, (Below.refl _ _).alloc (Nat.le_refl _) _⟩

set_option maxHeartbeats 400000 in
theorem attr_gt (s : ByteArray) (k p : Nat) (w : World) (hs : s.size ≤ 140737488351232) (h1 : k ≤ s.size) (HP : Hid (scan pBS s.data.toList k = p)) (hp : p < s.size) (hg : ((s[p].toNat : Int) == 62) = true) :
    Calls Tryd.prog 44 #[.string s, .int .i64 k] w fun e w' => e = .returned (.tuple #[.agg #[.string ⟨#[]⟩, .string ⟨#[]⟩], .int .i64 p, .bool false]) ∧ Below w.heap.size w w' := by
  have hm : s.size ≤ maxLen := by unfold maxLen; omega
  have hpe : ((p : Int) == (s.size : Int)) = false := by simp; omega
  go_enter Tryd.func44, Tryd.ntmps44
  go_wp2_with fail
  refine (passOver_to _ _ _ p _ hm (by omega) (by omega) (by exact HP.out)).mono ?_
  rintro e w' ⟨rfl, rfl⟩
  go_wp2
  exact bodyPost_ret (v := .tuple #[.agg #[.string ⟨#[]⟩, .string ⟨#[]⟩], .int .i64 p, .bool false]) (by simp [results, Tryd.results44, go_sem]) rfl ⟨rfl, (Below.refl _ _).alloc (Nat.le_refl _) _⟩

set_option maxHeartbeats 400000 in
theorem attr_noname (s : ByteArray) (k p : Nat) (w : World) (hs : s.size ≤ 140737488351232) (h1 : k ≤ s.size) (HP : Hid (scan pBS s.data.toList k = p)) (hp : p < s.size) (hg : ((s[p].toNat : Int) == 62) = false) (HE : Hid (scan pName s.data.toList (p + 1) = s.size)) :
    Calls Tryd.prog 44 #[.string s, .int .i64 k] w fun e w' => e = .returned (.tuple #[.agg #[.string ⟨#[]⟩, .string ⟨#[]⟩], .int .i64 s.size, .bool false]) ∧ Below w.heap.size w w' := by
  have hm : s.size ≤ maxLen := by unfold maxLen; omega
  have hpe : ((p : Int) == (s.size : Int)) = false := by simp; omega
  have hee : ((s.size : Int) == (s.size : Int)) = true := by simp
  go_enter Tryd.func44, Tryd.ntmps44
  go_wp2_with fail
  refine (passOver_to _ _ _ p _ hm (by omega) (by omega) (by exact HP.out)).mono ?_
  rintro e w' ⟨rfl, rfl⟩
  go_wp2_with fail
  refine (upTo_to _ _ _ s.size _ hm (by omega) (by omega) (by exact HE.out)).mono ?_
  rintro e w' ⟨rfl, rfl⟩
  go_wp2
  exact bodyPost_ret (v := .tuple #[.agg #[.string ⟨#[]⟩, .string ⟨#[]⟩], .int .i64 s.size, .bool false]) (by simp [results, Tryd.results44, go_sem]) rfl ⟨rfl, (Below.refl _ _).alloc (Nat.le_refl _) _⟩

set_option maxHeartbeats 400000 in
theorem attr_bare (s : ByteArray) (k p : Nat) (w : World) (hs : s.size ≤ 140737488351232) (h1 : k ≤ s.size) (HP : Hid (scan pBS s.data.toList k = p)) (e1 e2 : Nat) (hp : p < s.size) (hg : ((s[p].toNat : Int) == 62) = false) (HE : Hid (scan pName s.data.toList (p + 1) = e1)) (he0 : p + 1 ≤ e1) (he : e1 < s.size)
    (HF : Hid (scan pB s.data.toList e1 = e2)) (hf : e2 ≤ s.size) (hn : ∀ h : e2 < s.size, ((s[e2].toNat : Int) == 61) = false) :
    Calls Tryd.prog 44 #[.string s, .int .i64 k] w fun e w' => e = .returned (.tuple #[.agg #[.string (lowS (s.extract p e1)), .string ⟨#[]⟩], .int .i64 e2, .bool true]) ∧ Below w.heap.size w w' := by
  have hm : s.size ≤ maxLen := by unfold maxLen; omega
  have hpe : ((p : Int) == (s.size : Int)) = false := by simp; omega
  have hee : ((e1 : Int) == (s.size : Int)) = false := by simp; omega
  have HN : Hid (∀ h : e2 < s.size, ((s[e2].toNat : Int) == 61) = false) := hn
  clear hn
  go_enter Tryd.func44, Tryd.ntmps44
  go_wp2_with fail
  refine (passOver_to _ _ _ p _ hm (by omega) (by omega) (by exact HP.out)).mono ?_
  rintro e w' ⟨rfl, rfl⟩
  go_wp2_with fail
  refine (upTo_to _ _ _ e1 _ hm (by omega) (by omega) (by exact HE.out)).mono ?_
  rintro e w' ⟨rfl, rfl⟩
  go_wp2_with fail
  refine (small_any _ _ (by unfold maxLen; simp; omega)).mono ?_
  rintro e w2 ⟨rfl, hb2⟩
  obtain ⟨hc, hz⟩ := bcell hb2
  go_wp2_with fail
  refine (passOver_to _ _ _ e2 _ hm (by omega) (by omega) (by exact HF.out)).mono ?_
  rintro e w' ⟨rfl, rfl⟩
  by_cases hlt : e2 < s.size
  · have h61 := HN.out hlt
    have hff : ((e2 : Int) == (s.size : Int)) = false := by simp; omega
    go_wp2
    exact bodyPost_ret (v := .tuple #[.agg #[.string (lowS (s.extract p e1)), .string ⟨#[]⟩], .int .i64 e2, .bool true]) (by simp [results, Tryd.results44, go_sem, hc]) rfl ⟨rfl, ((((Below.refl _ _).alloc (Nat.le_refl _) _).trans (hb2.mono (by simp))).setCell (Nat.le_refl _) _).setCell (Nat.le_refl _) _⟩
  · have hff : ((e2 : Int) == (s.size : Int)) = true := by simp; omega
    go_wp2
    exact bodyPost_ret (v := .tuple #[.agg #[.string (lowS (s.extract p e1)), .string ⟨#[]⟩], .int .i64 e2, .bool true]) (by simp [results, Tryd.results44, go_sem, hc]) rfl ⟨rfl, ((((Below.refl _ _).alloc (Nat.le_refl _) _).trans (hb2.mono (by simp))).setCell (Nat.le_refl _) _).setCell (Nat.le_refl _) _⟩

theorem value_to (s : ByteArray) (a : Int) (V : ByteArray × Nat × Bool) (w : World) (hs : s.size ≤ 140737488351232) (h0 : 0 ≤ a) (h1 : a ≤ s.size) (hV : valF s a.toNat = V) :
    Calls Tryd.prog 64 #[.string s, .int .i64 a] w fun e w' => e = .returned (.tuple #[.string V.1, .int .i64 V.2.1, .bool V.2.2]) ∧ Below w.heap.size w w' := by
  rw [← hV]
  exact value_any s a w hs h0 h1

set_option maxHeartbeats 400000 in
theorem attr_value (s : ByteArray) (k p : Nat) (w : World) (hs : s.size ≤ 140737488351232) (h1 : k ≤ s.size) (HP : Hid (scan pBS s.data.toList k = p)) (e1 e2 : Nat) (hp : p < s.size) (hg : ((s[p].toNat : Int) == 62) = false) (HE : Hid (scan pName s.data.toList (p + 1) = e1)) (he0 : p + 1 ≤ e1) (he : e1 < s.size)
    (HF : Hid (scan pB s.data.toList e1 = e2)) (hf : e2 < s.size) (h61 : ((s[e2].toNat : Int) == 61) = true) (V : ByteArray × Nat × Bool) (HV : Hid (valF s (e2 + 1) = V)) (hv : V.2.2 = true) :
    Calls Tryd.prog 44 #[.string s, .int .i64 k] w fun e w' => e = .returned (.tuple #[.agg #[.string (lowS (s.extract p e1)), .string V.1], .int .i64 V.2.1, .bool true]) ∧ Below w.heap.size w w' := by
  have hm : s.size ≤ maxLen := by unfold maxLen; omega
  have hpe : ((p : Int) == (s.size : Int)) = false := by simp; omega
  have hee : ((e1 : Int) == (s.size : Int)) = false := by simp; omega
  have hff : ((e2 : Int) == (s.size : Int)) = false := by simp; omega
  go_enter Tryd.func44, Tryd.ntmps44
  go_wp2_with fail
  refine (passOver_to _ _ _ p _ hm (by omega) (by omega) (by exact HP.out)).mono ?_
  rintro e w' ⟨rfl, rfl⟩
  go_wp2_with fail
  refine (upTo_to _ _ _ e1 _ hm (by omega) (by omega) (by exact HE.out)).mono ?_
  rintro e w' ⟨rfl, rfl⟩
  go_wp2_with fail
  refine (small_any _ _ (by unfold maxLen; simp; omega)).mono ?_
  rintro e w2 ⟨rfl, hb2⟩
  go_wp2_with fail
  refine (passOver_to _ _ _ e2 _ hm (by omega) (by omega) (by exact HF.out)).mono ?_
  rintro e w' ⟨rfl, rfl⟩
  go_wp2_with fail
  refine (value_to _ _ V _ hs (by omega) (by omega) (by exact HV.out)).mono ?_
  rintro e w3 ⟨rfl, hb3⟩
  have hb23 := hb2.trans (hb3.mono hb2.size)
  clear hb2 hb3
  obtain ⟨hc, hz⟩ := bcell hb23
  go_wp2
  exact bodyPost_ret (v := .tuple #[.agg #[.string (lowS (s.extract p e1)), .string V.1], .int .i64 V.2.1, .bool true]) (by simp [results, Tryd.results44, go_sem, hc]) rfl ⟨rfl, ((((Below.refl _ _).alloc (Nat.le_refl _) _).trans (hb23.mono (by simp))).setCell (Nat.le_refl _) _).setCell (Nat.le_refl _) _⟩

set_option maxHeartbeats 400000 in
theorem attr_novalue (s : ByteArray) (k p : Nat) (w : World) (hs : s.size ≤ 140737488351232) (h1 : k ≤ s.size) (HP : Hid (scan pBS s.data.toList k = p)) (e1 e2 : Nat) (hp : p < s.size) (hg : ((s[p].toNat : Int) == 62) = false) (HE : Hid (scan pName s.data.toList (p + 1) = e1)) (he0 : p + 1 ≤ e1) (he : e1 < s.size)
    (HF : Hid (scan pB s.data.toList e1 = e2)) (hf : e2 < s.size) (h61 : ((s[e2].toNat : Int) == 61) = true) (V : ByteArray × Nat × Bool) (HV : Hid (valF s (e2 + 1) = V)) (hv : V.2.2 = false) :
    Calls Tryd.prog 44 #[.string s, .int .i64 k] w fun e w' => e = .returned (.tuple #[.agg #[.string ⟨#[]⟩, .string ⟨#[]⟩], .int .i64 V.2.1, .bool false]) ∧ Below w.heap.size w w' := by
  have hm : s.size ≤ maxLen := by unfold maxLen; omega
  have hpe : ((p : Int) == (s.size : Int)) = false := by simp; omega
  have hee : ((e1 : Int) == (s.size : Int)) = false := by simp; omega
  have hff : ((e2 : Int) == (s.size : Int)) = false := by simp; omega
  go_enter Tryd.func44, Tryd.ntmps44
  go_wp2_with fail
  refine (passOver_to _ _ _ p _ hm (by omega) (by omega) (by exact HP.out)).mono ?_
  rintro e w' ⟨rfl, rfl⟩
  go_wp2_with fail
  refine (upTo_to _ _ _ e1 _ hm (by omega) (by omega) (by exact HE.out)).mono ?_
  rintro e w' ⟨rfl, rfl⟩
  go_wp2_with fail
  refine (small_any _ _ (by unfold maxLen; simp; omega)).mono ?_
  rintro e w2 ⟨rfl, hb2⟩
  go_wp2_with fail
  refine (passOver_to _ _ _ e2 _ hm (by omega) (by omega) (by exact HF.out)).mono ?_
  rintro e w' ⟨rfl, rfl⟩
  go_wp2_with fail
  refine (value_to _ _ V _ hs (by omega) (by omega) (by exact HV.out)).mono ?_
  rintro e w3 ⟨rfl, hb3⟩
  have hb23 := hb2.trans (hb3.mono hb2.size)
  clear hb2 hb3
  obtain ⟨hc, hz⟩ := bcell hb23
  go_wp2
  exact bodyPost_ret (v := .tuple #[.agg #[.string ⟨#[]⟩, .string ⟨#[]⟩], .int .i64 V.2.1, .bool false]) (by simp [results, Tryd.results44, go_sem, hc]) rfl ⟨rfl, ((((Below.refl _ _).alloc (Nat.le_refl _) _).trans (hb23.mono (by simp))).setCell (Nat.le_refl _) _).setCell (Nat.le_refl _) _⟩


theorem byte_eq (c : UInt8) (n : Nat) (hn : n < 256) : ((c.toNat : Int) == (n : Int)) = (c == UInt8.ofNat n) := by
  rw [Bool.eq_iff_iff]
  simp only [beq_iff_eq]
  constructor
  · intro h
    have : c.toNat = n := by omega
    rw [← this]
    simp
  · intro h
    rw [h]
    simp
    omega

theorem attr_in (s : ByteArray) (k : Nat) (w : World) (hs : s.size ≤ 140737488351232) (h1 : k ≤ s.size) :
    Calls Tryd.prog 44 #[.string s, .int .i64 k] w fun e w' => e = .returned (.tuple #[.agg #[.string (attrF s k).1, .string (attrF s k).2.1], .int .i64 (attrF s k).2.2.1, .bool (attrF s k).2.2.2]) ∧ Below w.heap.size w w' := by
  have hl : s.data.toList.length = s.size := by simp
  have hp1 := scan_le pBS s.data.toList k (by omega)
  unfold attrF
  dsimp only
  generalize hpd : scan pBS s.data.toList k = p at *
  by_cases hp : p < s.size
  · rw [dif_pos hp]
    cases hg : (s[p] == 62)
    · have hg' : ((s[p].toNat : Int) == 62) = false := (byte_eq s[p] 62 (by decide)).trans hg
      have he0 := scan_ge pName s.data.toList (p + 1)
      have he1 := scan_le pName s.data.toList (p + 1) (by omega)
      generalize hed : scan pName s.data.toList (p + 1) = e1 at *
      rw [if_neg (by simp)]
      by_cases he : e1 < s.size
      · rw [if_pos he]
        have hf1 := scan_le pB s.data.toList e1 (by omega)
        generalize hfd : scan pB s.data.toList e1 = e2 at *
        by_cases hf : e2 < s.size
        · rw [dif_pos hf]
          cases h61 : (s[e2] == 61)
          · rw [if_neg (by simp)]
            exact attr_bare s k p w hs h1 hpd e1 e2 hp hg' hed he0 he hfd (by omega) (fun _ => (byte_eq s[e2] 61 (by decide)).trans h61)
          · rw [if_pos rfl]
            have h61' : ((s[e2].toNat : Int) == 61) = true := (byte_eq s[e2] 61 (by decide)).trans h61
            cases hv : (valF s (e2 + 1)).2.2
            · rw [if_neg (by simp)]
              exact attr_novalue s k p w hs h1 hpd e1 e2 hp hg' hed he0 he hfd hf h61' (valF s (e2 + 1)) rfl hv
            · rw [if_pos rfl]
              exact attr_value s k p w hs h1 hpd e1 e2 hp hg' hed he0 he hfd hf h61' (valF s (e2 + 1)) rfl hv
        · rw [dif_neg hf]
          obtain rfl : e2 = s.size := by omega
          exact attr_bare s k p w hs h1 hpd e1 s.size hp hg' hed he0 he hfd (by omega) (fun h => absurd h (Nat.lt_irrefl _))
      · rw [if_neg he]
        exact attr_noname s k p w hs h1 hpd hp hg' (by show _ = _; omega)
    · rw [if_pos rfl]
      exact attr_gt s k p w hs h1 hpd hp ((byte_eq s[p] 62 (by decide)).trans hg)
  · rw [dif_neg hp]
    exact attr_end s k p w hs h1 hpd (by omega)
end Go.Proofs.YtjfbogjpmieogacDoor.Sn
