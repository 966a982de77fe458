/-
  Plain: what the walk of the reference's Attribute asks of a scan.
-/
import Derived.Test.YtddonipfpchabaaDoorAttr
import Derived.Test.YtddonipfpchabaaDoorRefLow
namespace Go.Proofs.YtddonipfpchabaaDoor
open Go.RowKit

theorem scan_next {P : UInt8 → Bool} {s : ByteArray} {j p : Nat} (h : scan P s.data.toList j = p) (hlt : j < p) (hp : p ≤ s.size) : scan P s.data.toList (j + 1) = p ∧ P (s[j]'(by omega)) = true := by
  have hl : j < s.data.toList.length := by simp; omega
  cases hP : P (s.data.toList[j]) with
  | false =>
    have := scan_stop P s.data.toList j hl hP
    omega
  | true => exact ⟨by rw [← scan_step P s.data.toList j hl hP]; exact h, hP⟩

theorem scan_here {P : UInt8 → Bool} {s : ByteArray} {p : Nat} (h : scan P s.data.toList p = p) (hp : p < s.size) : P s[p] = false := by
  have hl : p < s.data.toList.length := by simp; exact hp
  cases hP : P (s.data.toList[p]) with
  | false => exact hP
  | true =>
    have h1 := scan_step P s.data.toList p hl hP
    have h2 := scan_ge P s.data.toList (p + 1)
    omega

theorem byte_all {Q : UInt8 → Prop} (h : ∀ n : Fin 256, Q (UInt8.ofNat n.val)) (c : UInt8) : Q c := by
  have := h ⟨c.toNat, c.toNat_lt⟩
  simpa using this

theorem pBS_eq (c : UInt8) : pBS c = (blankB c || ((c.toNat : Int) == 47)) :=
  byte_all (Q := fun c => pBS c = (blankB c || ((c.toNat : Int) == 47))) (by decide +kernel) c
theorem pB_eq (c : UInt8) : pB c = blankB c := rfl
theorem pName_eq (c : UInt8) : pName c = !((((c.toNat : Int) == 61) || ((c.toNat : Int) == 47) || ((c.toNat : Int) == 62)) || blankB c) :=
  byte_all (Q := fun c => pName c = !((((c.toNat : Int) == 61) || ((c.toNat : Int) == 47) || ((c.toNat : Int) == 62)) || blankB c)) (by decide +kernel) c
theorem pVal_eq (c : UInt8) : pVal c = (!blankB c && ((c.toNat : Int) != 62)) :=
  byte_all (Q := fun c => pVal c = (!blankB c && ((c.toNat : Int) != 62))) (by decide +kernel) c
theorem quoteB_eq (c : UInt8) : quoteB c = (((c.toNat : Int) == 34) || ((c.toNat : Int) == 39)) :=
  byte_all (Q := fun c => quoteB c = (((c.toNat : Int) == 34) || ((c.toNat : Int) == 39))) (by decide +kernel) c

theorem pBS_no {c : UInt8} (h : pBS c = false) : blankB c = false ∧ ((c.toNat : Int) == 47) = false := by
  rw [pBS_eq, Bool.or_eq_false_iff] at h; exact h
theorem pBS_yes {c : UInt8} (h : pBS c = true) (hb : blankB c = false) : ((c.toNat : Int) == 47) = true := by
  rw [pBS_eq, hb] at h; simpa using h
theorem pName_yes {c : UInt8} (h : pName c = true) : ((c.toNat : Int) == 61) = false ∧ ((c.toNat : Int) == 47) = false ∧ ((c.toNat : Int) == 62) = false ∧ blankB c = false := by
  rw [pName_eq] at h
  simpa [and_assoc] using h
theorem pVal_yes {c : UInt8} (h : pVal c = true) : blankB c = false ∧ ((c.toNat : Int) != 62) = true := by
  rw [pVal_eq] at h
  simpa using h

/-! What attrF is, road by road. -/
section
variable {s : ByteArray} {k p e1 e2 p3 j : Nat}

theorem attrF_end (HP : scan pBS s.data.toList k = p) (hp : ¬ p < s.size) : attrF s k = (⟨#[]⟩, ⟨#[]⟩, s.size, false) := by
  subst HP
  simp [attrF, hp]
theorem attrF_gt (HP : scan pBS s.data.toList k = p) (hp : p < s.size) (hg : ((s[p].toNat : Int) == 62) = true) : attrF s k = (⟨#[]⟩, ⟨#[]⟩, p, false) := by
  subst HP
  have hg' : s[scan pBS s.data.toList k] = 62 := by simpa using (byte_eq _ 62 (by decide)).symm.trans hg
  simp [attrF, hp, hg']
theorem attrF_noname (HP : scan pBS s.data.toList k = p) (hp : p < s.size) (hg : ((s[p].toNat : Int) == 62) = false) (HE : scan pName s.data.toList (p + 1) = e1) (he : ¬ e1 < s.size) :
    attrF s k = (⟨#[]⟩, ⟨#[]⟩, s.size, false) := by
  subst HP HE
  have hg' : ¬ s[scan pBS s.data.toList k] = 62 := by simpa using (byte_eq _ 62 (by decide)).symm.trans hg
  simp [attrF, hp, hg', he]
theorem attrF_bare_end (HP : scan pBS s.data.toList k = p) (hp : p < s.size) (hg : ((s[p].toNat : Int) == 62) = false) (HE : scan pName s.data.toList (p + 1) = e1) (he : e1 < s.size) (HF : scan pB s.data.toList e1 = e2) (hf : ¬ e2 < s.size) :
    attrF s k = (lowS (s.extract p e1), ⟨#[]⟩, s.size, true) := by
  subst HP HE HF
  have hg' : ¬ s[scan pBS s.data.toList k] = 62 := by simpa using (byte_eq _ 62 (by decide)).symm.trans hg
  simp [attrF, hp, hg', he, hf]
theorem attrF_bare (HP : scan pBS s.data.toList k = p) (hp : p < s.size) (hg : ((s[p].toNat : Int) == 62) = false) (HE : scan pName s.data.toList (p + 1) = e1) (he : e1 < s.size) (HF : scan pB s.data.toList e1 = e2) (hf : e2 < s.size)
    (h61 : ((s[e2].toNat : Int) == 61) = false) : attrF s k = (lowS (s.extract p e1), ⟨#[]⟩, e2, true) := by
  subst HP HE HF
  have hg' : ¬ s[scan pBS s.data.toList k] = 62 := by simpa using (byte_eq _ 62 (by decide)).symm.trans hg
  have h61' : ¬ s[scan pB s.data.toList (scan pName s.data.toList (scan pBS s.data.toList k + 1))] = 61 := by simpa using (byte_eq _ 61 (by decide)).symm.trans h61
  simp [attrF, hp, hg', he, hf, h61']
theorem attrF_val (HP : scan pBS s.data.toList k = p) (hp : p < s.size) (hg : ((s[p].toNat : Int) == 62) = false) (HE : scan pName s.data.toList (p + 1) = e1) (he : e1 < s.size) (HF : scan pB s.data.toList e1 = e2) (hf : e2 < s.size)
    (h61 : ((s[e2].toNat : Int) == 61) = true) :
    attrF s k = if (valF s (e2 + 1)).2.2 then (lowS (s.extract p e1), (valF s (e2 + 1)).1, (valF s (e2 + 1)).2.1, true) else (⟨#[]⟩, ⟨#[]⟩, (valF s (e2 + 1)).2.1, false) := by
  subst HP HE HF
  have hg' : ¬ s[scan pBS s.data.toList k] = 62 := by simpa using (byte_eq _ 62 (by decide)).symm.trans hg
  have h61' : s[scan pB s.data.toList (scan pName s.data.toList (scan pBS s.data.toList k + 1))] = 61 := by simpa using (byte_eq _ 61 (by decide)).symm.trans h61
  simp [attrF, hp, hg', he, hf, h61']

theorem valF_end (H3 : scan pB s.data.toList k = p3) (h3 : ¬ p3 < s.size) : valF s k = (⟨#[]⟩, s.size, false) := by
  subst H3
  simp [valF, h3]
theorem valF_quote_no (H3 : scan pB s.data.toList k = p3) (h3 : p3 < s.size) (hq : quoteB s[p3] = true) (HJ : scan (fun x => x != s[p3]) s.data.toList (p3 + 1) = j) (hj : ¬ j < s.size) : valF s k = (⟨#[]⟩, s.size, false) := by
  subst H3 HJ
  simp [valF, h3, hq, hj]
theorem valF_quote (H3 : scan pB s.data.toList k = p3) (h3 : p3 < s.size) (hq : quoteB s[p3] = true) (HJ : scan (fun x => x != s[p3]) s.data.toList (p3 + 1) = j) (hj : j < s.size) : valF s k = (lowS (s.extract (p3 + 1) j), j + 1, true) := by
  subst H3 HJ
  simp [valF, h3, hq, hj]
theorem valF_plain_no (H3 : scan pB s.data.toList k = p3) (h3 : p3 < s.size) (hq : quoteB s[p3] = false) (HJ : scan pVal s.data.toList p3 = j) (hj : ¬ j < s.size) : valF s k = (⟨#[]⟩, s.size, false) := by
  subst H3 HJ
  simp [valF, h3, hq, hj]
theorem valF_plain (H3 : scan pB s.data.toList k = p3) (h3 : p3 < s.size) (hq : quoteB s[p3] = false) (HJ : scan pVal s.data.toList p3 = j) (hj : j < s.size) : valF s k = (lowS (s.extract p3 j), j, true) := by
  subst H3 HJ
  simp [valF, h3, hq, hj]
end

theorem lowS_none (s : ByteArray) (p : Nat) : lowS (s.extract p p) = ⟨#[]⟩ := by
  simp [lowS, low]
/-- A value that begins with the end of its tag is empty. -/
theorem valF_gt {s : ByteArray} {k p3 : Nat} (H3 : scan pB s.data.toList k = p3) (h3 : p3 < s.size) (h62 : ((s[p3].toNat : Int) == 62) = true) : valF s k = (⟨#[]⟩, p3, true) := by
  have e : s[p3] = 62 := by simpa using (byte_eq _ 62 (by decide)).symm.trans h62
  have hq : quoteB s[p3] = false := by rw [e]; decide
  have hst : scan pVal s.data.toList p3 = p3 := by
    refine scan_stop pVal s.data.toList p3 (by simpa using h3) ?_
    show pVal s[p3] = false
    rw [e]
    decide
  rw [valF_plain H3 h3 hq hst h3, lowS_none]
end Go.Proofs.YtddonipfpchabaaDoor
