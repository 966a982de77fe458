/-
  Of many that are alike the first one goes: how many stay (plain lists).
-/
import Derived.Test.YtalbiekleggkoaaMaMath
namespace Go.Proofs.Ytalbiekleggkoaa

/-- An entry: its node, its name, where its attributes lie, and they. -/
structure Enr where
  node : Int
  name : ByteArray
  a : Option Addr
  cap : Nat
  l : List Atr

/-- How many, from the head on, till a marker comes. -/
def runN (p : Enr → Bool) : List Enr → Nat
  | [] => 0
  | d :: r => if d.node == -1 then 0 else (p d).toNat + runN p r
/-- How many behind the last marker. -/
def runB (p : Enr → Bool) (l : List Enr) : Nat := runN p l.reverse

theorem runB_nil (p : Enr → Bool) : runB p [] = 0 := rfl
theorem runB_snoc (p : Enr → Bool) (l : List Enr) (x : Enr) : runB p (l ++ [x]) = if x.node == -1 then 0 else (p x).toNat + runB p l := by
  unfold runB
  rw [List.reverse_append]
  rfl
theorem runN_cut (p : Enr → Bool) (d : Enr) (A : List Enr) (hd : (d.node == -1) = false) : ∀ B : List Enr, runN p (B ++ A) ≤ runN p (B ++ d :: A)
  | [] => by simp [runN, hd]
  | b :: B => by
    have := runN_cut p d A hd B
    simp only [List.cons_append, runN]
    split <;> omega
theorem runN_one (p : Enr → Bool) (d : Enr) (A : List Enr) (hd : (d.node == -1) = false) (hp : p d = true) : ∀ B : List Enr, (∀ b ∈ B, (b.node == -1) = false) → runN p (B ++ d :: A) = runN p (B ++ A) + 1
  | [], _ => by simp [runN, hd, hp]; omega
  | b :: B, h => by
    have := runN_one p d A hd hp B (fun c hc => h c (by simp [hc]))
    simp only [List.cons_append, runN, h b (by simp)]
    simp
    omega
theorem runN_congr {p q : Enr → Bool} : ∀ (l : List Enr), (∀ d ∈ l, p d = q d) → runN p l = runN q l
  | [], _ => rfl
  | d :: l, h => by
    rw [runN, runN, h d (by simp), runN_congr l (fun c hc => h c (by simp [hc]))]
theorem runN_front (p : Enr → Bool) : ∀ (D R : List Enr), (∀ d ∈ D, (d.node == -1) = false) → runN p (D ++ R) = D.countP p + runN p R
  | [], R, _ => by simp
  | d :: D, R, h => by
    rw [List.cons_append, runN, h d (by simp), runN_front p D R (fun c hc => h c (by simp [hc])), List.countP_cons]
    cases p d <;> simp <;> omega

/-- No more than three that are alike, behind any marker, ahead of any place. -/
def FewR (U : Enr → Prop) (al : Enr → Enr → Bool) (cs : List Enr) : Prop := ∀ c, U c → ∀ j, runB (al c) (cs.take j) ≤ 3

theorem FewR.nil (U : Enr → Prop) (al : Enr → Enr → Bool) : FewR U al [] := fun c _ j => by simp [runB_nil]
theorem FewR.all {U : Enr → Prop} {al : Enr → Enr → Bool} {cs : List Enr} (h : FewR U al cs) (c : Enr) (hc : U c) : runB (al c) cs ≤ 3 := by
  have := h c hc cs.length
  rwa [List.take_length] at this
theorem FewR.snoc {U : Enr → Prop} {al : Enr → Enr → Bool} {cs : List Enr} {x : Enr} (h : FewR U al cs) (hx : ∀ c, U c → runB (al c) (cs ++ [x]) ≤ 3) : FewR U al (cs ++ [x]) := by
  intro c hc j
  by_cases hj : j ≤ cs.length
  · rw [List.take_append_of_le_length hj]
    exact h c hc j
  · rw [List.take_of_length_le (by simp; omega)]
    exact hx c hc
theorem FewR.mark {U : Enr → Prop} {al : Enr → Enr → Bool} {cs : List Enr} {x : Enr} (h : FewR U al cs) (hx : (x.node == -1) = true) : FewR U al (cs ++ [x]) :=
  h.snoc (fun c _ => by rw [runB_snoc, hx]; simp)
theorem FewR.cut {U : Enr → Prop} {al : Enr → Enr → Bool} {cs : List Enr} (h : FewR U al cs) {i : Nat} {d : Enr} (hi : cs[i]? = some d) (hd : (d.node == -1) = false) : FewR U al (cs.take i ++ cs.drop (i + 1)) := by
  intro c hc j
  have hlt := (List.getElem?_eq_some_iff.1 hi).1
  by_cases hj : j ≤ i
  · rw [List.take_append_of_le_length (by rw [List.length_take]; omega), List.take_take, Nat.min_eq_left hj]
    exact h c hc j
  · have h1 := h c hc (j + 1)
    have e : cs.take (j + 1) = cs.take i ++ d :: (cs.drop (i + 1)).take (j - i) := by
      have e0 : cs = cs.take i ++ d :: cs.drop (i + 1) := by
        have := List.getElem_eq_iff hlt |>.2 hi
        rw [← this, List.getElem_cons_drop, List.take_append_drop]
      conv => lhs; rw [e0]
      rw [List.take_append, List.length_take, Nat.min_eq_left (by omega), List.take_of_length_le (by rw [List.length_take]; omega), show j + 1 - i = (j - i) + 1 by omega, List.take_succ_cons]
    have e2 : (cs.take i ++ cs.drop (i + 1)).take j = cs.take i ++ (cs.drop (i + 1)).take (j - i) := by
      rw [List.take_append, List.length_take, Nat.min_eq_left (by omega), List.take_of_length_le (by rw [List.length_take]; omega)]
    rw [e] at h1
    rw [e2]
    unfold runB at h1 ⊢
    rw [List.reverse_append] at h1 ⊢
    rw [List.reverse_cons, List.append_assoc] at h1
    exact Nat.le_trans (runN_cut _ d _ hd _) h1
theorem FewR.front {U : Enr → Prop} {al : Enr → Enr → Bool} {cs : List Enr} (h : FewR U al cs) (c : Enr) (hc : U c) (i : Nat) : runN (al c) (cs.drop i) ≤ 3 := by
  obtain ⟨D, R, hDR, hD, hR⟩ : ∃ D R, cs.drop i = D ++ R ∧ (∀ d ∈ D, (d.node == -1) = false) ∧ runN (al c) R = 0 := by
    generalize cs.drop i = l
    induction l with
    | nil => exact ⟨[], [], rfl, fun d hd => (by cases hd), rfl⟩
    | cons d l ih =>
      cases hm : (d.node == -1)
      · obtain ⟨D, R, h1, h2, h3⟩ := ih
        refine ⟨d :: D, R, by rw [h1]; rfl, fun e he => ?_, h3⟩
        rcases List.mem_cons.1 he with rfl | he
        · exact hm
        · exact h2 e he
      · exact ⟨[], d :: l, rfl, fun d hd => (by cases hd), by simp [runN, hm]⟩
  by_cases hi : i ≤ cs.length
  · have h1 := h c hc (i + D.length)
    have e : cs.take (i + D.length) = cs.take i ++ D := by
      rw [List.take_add, hDR, List.take_left]
    rw [e] at h1
    unfold runB at h1
    rw [List.reverse_append, runN_front _ _ _ (fun d hd => hD d (List.mem_reverse.1 hd)), List.countP_reverse] at h1
    rw [hDR, runN_front _ _ _ hD, hR]
    omega
  · rw [List.drop_of_length_le (by omega)]
    simp [runN]

/-- Going back to the last marker: the first that is alike, and how many are. -/
def scanR (p : Enr → Bool) (cs : List Enr) : Nat → Int → Int → Int × Int
  | 0, f, n => (f, n)
  | k + 1, f, n => match cs[k]? with
    | some c => if c.node == -1 then (f, n) else if p c then scanR p cs k (k : Int) (n + 1) else scanR p cs k f n
    | none => (f, n)
theorem scanR_mark {p : Enr → Bool} {cs : List Enr} {k : Nat} {c : Enr} {f n : Int} (h : cs[k]? = some c) (hm : (c.node == -1) = true) : scanR p cs (k + 1) f n = (f, n) := by rw [scanR, h]; simp [hm]
theorem scanR_yes {p : Enr → Bool} {cs : List Enr} {k : Nat} {c : Enr} {f n : Int} (h : cs[k]? = some c) (hm : (c.node == -1) = false) (hp : p c = true) : scanR p cs (k + 1) f n = scanR p cs k (k : Int) (n + 1) := by rw [scanR, h]; simp [hm, hp]
theorem scanR_no {p : Enr → Bool} {cs : List Enr} {k : Nat} {c : Enr} {f n : Int} (h : cs[k]? = some c) (hm : (c.node == -1) = false) (hp : p c = false) : scanR p cs (k + 1) f n = scanR p cs k f n := by rw [scanR, h]; simp [hm, hp]
theorem take_next {cs : List Enr} {k : Nat} {c : Enr} (h : cs[k]? = some c) : cs.take (k + 1) = cs.take k ++ [c] := by
  rw [List.take_add_one, h]
  rfl
theorem scanR_spec (p : Enr → Bool) (cs : List Enr) : ∀ (k : Nat) (f n : Int), k ≤ cs.length → (scanR p cs k f n).2 = n + (runB p (cs.take k) : Int) ∧
    ((runB p (cs.take k) = 0 ∧ (scanR p cs k f n).1 = f) ∨ ∃ (i : Nat) (d : Enr), (scanR p cs k f n).1 = (i : Int) ∧ i < k ∧ cs[i]? = some d ∧ p d = true ∧ ∀ (j : Nat) (c : Enr), i ≤ j → j < k → cs[j]? = some c → (c.node == -1) = false)
  | 0, f, n, _ => by simp [scanR, runB_nil]
  | k + 1, f, n, hk => by
    obtain ⟨c, hc⟩ : ∃ c, cs[k]? = some c := ⟨_, List.getElem?_eq_getElem (by omega)⟩
    rw [take_next hc, runB_snoc]
    cases hm : (c.node == -1)
    · cases hp : p c
      · rw [scanR_no hc hm hp]
        obtain ⟨h1, h2⟩ := scanR_spec p cs k f n (by omega)
        refine ⟨by simpa using h1, ?_⟩
        rcases h2 with h2 | ⟨i, d, e1, e2, e3, e4, e5⟩
        · exact .inl ⟨by simpa using h2.1, h2.2⟩
        · refine .inr ⟨i, d, e1, by omega, e3, e4, fun j c' hj hj2 hc' => ?_⟩
          by_cases hjk : j = k
          · subst hjk
            rw [hc] at hc'
            injection hc' with e
            rw [← e]
            exact hm
          · exact e5 j c' hj (by omega) hc'
      · rw [scanR_yes hc hm hp]
        obtain ⟨h1, h2⟩ := scanR_spec p cs k (k : Int) (n + 1) (by omega)
        refine ⟨by rw [h1]; simp; omega, .inr ?_⟩
        rcases h2 with h2 | ⟨i, d, e1, e2, e3, e4, e5⟩
        · refine ⟨k, c, h2.2, by omega, hc, hp, fun j c' hj hj2 hc' => ?_⟩
          obtain rfl : j = k := by omega
          rw [hc] at hc'
          injection hc' with e
          rw [← e]
          exact hm
        · refine ⟨i, d, e1, by omega, e3, e4, fun j c' hj hj2 hc' => ?_⟩
          by_cases hjk : j = k
          · subst hjk
            rw [hc] at hc'
            injection hc' with e
            rw [← e]
            exact hm
          · exact e5 j c' hj (by omega) hc'
    · rw [scanR_mark hc hm]
      simp

def thinR (p : Enr → Bool) (cs : List Enr) : List Enr :=
  if 3 ≤ (scanR p cs cs.length 0 0).2 then cs.take (scanR p cs cs.length 0 0).1.toNat ++ cs.drop ((scanR p cs cs.length 0 0).1.toNat + 1) else cs
theorem thinR_len (p : Enr → Bool) (cs : List Enr) : (thinR p cs).length ≤ cs.length := by
  unfold thinR
  split
  · simp
    omega
  · exact Nat.le_refl _
theorem thinR_sub (p : Enr → Bool) (cs : List Enr) : ∀ c ∈ thinR p cs, c ∈ cs := by
  intro c hc
  unfold thinR at hc
  split at hc
  · rcases List.mem_append.1 hc with h | h
    · exact List.mem_of_mem_take h
    · exact List.mem_of_mem_drop h
  · exact hc
theorem thinR_few {U : Enr → Prop} {al : Enr → Enr → Bool} {cs : List Enr} {x : Enr} (h : FewR U al cs) (hx : U x) : FewR U al (thinR (al x) cs) ∧ runB (al x) (thinR (al x) cs) ≤ 2 := by
  obtain ⟨h1, h2⟩ := scanR_spec (al x) cs cs.length 0 0 (Nat.le_refl _)
  rw [List.take_length] at h1 h2
  have h3 := h.all x hx
  unfold thinR
  split
  · rename_i hn
    rcases h2 with h2 | ⟨i, d, e1, e2, e3, e4, e5⟩
    · omega
    · have hd := e5 i d (Nat.le_refl _) e2 e3
      rw [e1]
      rw [show ((i : Int)).toNat = i from rfl]
      refine ⟨h.cut e3 hd, ?_⟩
      have hlt := (List.getElem?_eq_some_iff.1 e3).1
      have e0 : cs = cs.take i ++ d :: cs.drop (i + 1) := by
        have := List.getElem_eq_iff hlt |>.2 e3
        rw [← this, List.getElem_cons_drop, List.take_append_drop]
      have h4 := h3
      rw [e0] at h4
      unfold runB at h4 ⊢
      rw [List.reverse_append] at h4 ⊢
      rw [List.reverse_cons, List.append_assoc, List.singleton_append, runN_one _ d _ hd e4] at h4
      · omega
      · intro b hb
        rw [List.mem_reverse] at hb
        obtain ⟨j, hj⟩ := List.getElem?_of_mem hb
        rw [List.getElem?_drop] at hj
        exact e5 (i + 1 + j) b (by omega) (List.getElem?_eq_some_iff.1 hj).1 hj
  · rename_i hn
    exact ⟨h, by omega⟩

/-- Alike, as entries. -/
def alR (c d : Enr) : Bool := likeB c.name d.name c.l d.l
theorem alR_eq {c d : Enr} (h : alR c d = true) : c.name.toList = d.name.toList ∧ d.l.length = c.l.length ∧ ∀ x ∈ d.l, x ∈ c.l := by
  unfold alR likeB at h
  simp only [Bool.and_eq_true, beq_iff_eq, List.all_eq_true] at h
  exact ⟨h.1.1.symm, h.1.2, fun x hx => (hasA_mem c.l x).1 (h.2 x hx)⟩
theorem alR_mk {c d : Enr} (h1 : c.name.toList = d.name.toList) (h2 : d.l.length = c.l.length) (h3 : ∀ x ∈ d.l, x ∈ c.l) : alR c d = true := by
  unfold alR likeB
  simp only [Bool.and_eq_true, beq_iff_eq, List.all_eq_true]
  exact ⟨⟨h1.symm, h2⟩, fun x hx => (hasA_mem c.l x).2 (h3 x hx)⟩
theorem alR_turn {c d : Enr} (hc : c.l.Nodup) (hd : d.l.Nodup) : alR c d = alR d c := like_turn _ _ _ _ hc hd
theorem alR_trans {c x d : Enr} (h1 : alR c x = true) (h2 : alR x d = true) : alR c d = true := by
  obtain ⟨a1, a2, a3⟩ := alR_eq h1
  obtain ⟨b1, b2, b3⟩ := alR_eq h2
  exact alR_mk (a1.trans b1) (b2.trans a2) (fun y hy => a3 y (b3 y hy))
theorem alR_same {c x d : Enr} (hc : c.l.Nodup) (hx : x.l.Nodup) (h : alR c x = true) : alR c d = alR x d := by
  rw [Bool.eq_iff_iff]
  refine ⟨fun h1 => alR_trans (by rw [alR_turn hx hc]; exact h) h1, fun h1 => alR_trans h h1⟩
/-- One more behind the thinned. -/
theorem FewR.add {cs : List Enr} {x : Enr} (h : FewR (fun c => c.l.Nodup) alR cs) (hx : x.l.Nodup) : FewR (fun c => c.l.Nodup) alR (thinR (alR x) cs ++ [x]) := by
  obtain ⟨h1, h2⟩ := thinR_few h hx
  refine h1.snoc (fun c hc => ?_)
  rw [runB_snoc]
  split
  · omega
  · have h3 := h1.all c hc
    cases hp : alR c x
    · simp
      exact h3
    · have e : runB (alR c) (thinR (alR x) cs) = runB (alR x) (thinR (alR x) cs) := runN_congr _ (fun d _ => alR_same hc hx hp)
      rw [e]
      simp
      omega
end Go.Proofs.Ytalbiekleggkoaa
