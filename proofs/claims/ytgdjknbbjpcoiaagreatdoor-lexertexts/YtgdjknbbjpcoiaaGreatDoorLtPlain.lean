/-
  Plain bytes: the scalars that they are, and what newlines make of them.
-/
import Derived.Test.YtgdjknbbjpcoiaaGreatDoorRowsS
import Derived.Test.YtgdjknbbjpcoiaaGreatDoorByteLowS
import Derived.Test.YtgdjknbbjpcoiaaGreatDoorLxWait
namespace Go.Proofs.YtgdjknbbjpcoiaaGreatDoor
open Go.RowKit

def atP (p : Int) : DSt := ⟨1, p, 0, 0, 0, 0, 0⟩
theorem step_ascii (p : Int) (b : UInt8) (h : b.toNat < 128) : nextD (atP p) b = atP (p + 1) ∧ nextR (atP p) b = [((b.toNat : Int), p)] := by
  have h1 : b < 194 := by rw [UInt8.lt_iff_toNat_lt]; show b.toNat < 194; omega
  have h2 : b < 128 := by rw [UInt8.lt_iff_toNat_lt]; exact h
  simp [nextD, nextR, takeD, takeR, beginD, beginR, atP, h1, h2]

/-- The scalars of plain bytes. -/
def rsOf : Int → List UInt8 → List (Int × Int)
  | _, [] => []
  | p, b :: l => ((b.toNat : Int), p) :: rsOf (p + 1) l
theorem rsOf_len : ∀ (l : List UInt8) (p : Int), (rsOf p l).length = l.length
  | [], _ => rfl
  | b :: l, p => by rw [rsOf, List.length_cons, List.length_cons, rsOf_len l]
theorem rsOf_at : ∀ (l : List UInt8) (p : Int) (i : Nat) (b : UInt8), l[i]? = some b → (rsOf p l)[i]? = some ((b.toNat : Int), p + (i : Int))
  | [], _, i, b, h => by simp at h
  | x :: l, p, 0, b, h => by
    simp at h
    subst h
    simp [rsOf]
  | x :: l, p, i + 1, b, h => by
    rw [rsOf, List.getElem?_cons_succ, rsOf_at l (p + 1) i b (by simpa using h)]
    rw [show p + 1 + (i : Int) = p + ((i + 1 : Nat) : Int) by omega]

theorem feed_plain : ∀ (l : List UInt8) (p : Int), (∀ b ∈ l, b.toNat < 128) → feedR (atP p) l = rsOf p l ∧ feedD (atP p) l = atP (p + (l.length : Int))
  | [], p, _ => by simp [feedR, feedD, rsOf]
  | b :: l, p, h => by
    obtain ⟨h1, h2⟩ := step_ascii p b (h b (by simp))
    obtain ⟨h3, h4⟩ := feed_plain l (p + 1) (fun x hx => h x (by simp [hx]))
    rw [feedR, feedD, h1, h2, h3, h4, rsOf]
    refine ⟨rfl, ?_⟩
    rw [show p + 1 + (l.length : Int) = p + ((b :: l).length : Int) by simp; omega]

theorem pass_plain : ∀ (rs : List (Int × Int)), (∀ r ∈ rs, ¬ r.1 = 13) → passR false rs = rs ∧ passB false rs = false
  | [], _ => ⟨rfl, rfl⟩
  | r :: rs, h => by
    have h1 := h r (by simp)
    obtain ⟨h2, h3⟩ := pass_plain rs (fun x hx => h x (by simp [hx]))
    have h4 : (r.1 == 13) = false := by simpa using h1
    rw [passR, passB, h4, h2, h3]
    refine ⟨?_, rfl⟩
    unfold passOne
    simp [h1]

/-- A scalar that begins nothing, and ends no line. -/
structure PlainC (c : Int) : Prop where
  h0 : ¬ c = 0
  h60 : ¬ c = 60
  h38 : ¬ c = 38

theorem rune_one (rs : List (Int × Int)) : ∀ u ∈ rs.flatMap runeC, u.oneCell' = true := by
  intro u hu
  simp only [List.mem_flatMap, runeC] at hu
  obtain ⟨r, _, hu⟩ := hu
  simp at hu
  rcases hu with rfl | rfl <;> rfl
theorem rune_len (rs : List (Int × Int)) : (rs.flatMap runeC).length = rs.length * 2 := by
  induction rs with
  | nil => rfl
  | cons r rs ih => rw [List.flatMap_cons, List.length_append, ih]; simp [runeC]; omega
theorem rune_cells {w : World} {base g cap : Nat} {rs : List (Int × Int)} (h : w.ownsRow base 121 2 (.slice (some ⟨g, 0, none⟩) rs.length cap) rs.length (rs.flatMap runeC)) (i : Nat) (c a : Int) (hi : rs[i]? = some (c, a)) : w.cell? ⟨g, i * 2, none⟩ = some (.int .i64 c) ∧ w.cell? ⟨g, i * 2 + 1, none⟩ = some (.int .i64 a) := by
  obtain ⟨hlt, he⟩ := List.getElem?_eq_some_iff.1 hi
  have hr := rune_at rs i hlt
  rw [he] at hr
  refine ⟨own_at h _ _ ?_, own_at h _ _ ?_⟩
  · rw [Nat.mul_comm]; exact hr.1
  · rw [Nat.mul_comm]; exact hr.2

/-- How far the lexer has told the scalars. -/
structure TxGo (l : Nat) (X : Lx) (rs : List (Int × Int)) (B k : Nat) (wr : World) : Prop where
  lex : ∃ ad cap, LexAt wr l { X with runes := .slice ad (rs.length - k) cap }.cells ∧ ((ad = none ∧ cap = 0 ∧ k = rs.length) ∨ ∃ g o, ad = some ⟨g, o, none⟩ ∧ rs.length - k ≤ cap ∧ l ≠ g ∧ g < B ∧ g < wr.heap.size ∧ (k < rs.length → o = k * 2) ∧ ∀ (i : Nat) (c a : Int), rs[i]? = some (c, a) → wr.cell? ⟨g, i * 2, none⟩ = some (.int .i64 c) ∧ wr.cell? ⟨g, i * 2 + 1, none⟩ = some (.int .i64 a))
  ah : Ahead X
  all : ∀ (i : Nat) (c a : Int), rs[i]? = some (c, a) → a = (i : Int) ∧ PlainC c
  few : rs.length ≤ 5000
  lB : l < B

theorem TxGo.other {wr w' : World} {l : Nat} {X : Lx} {rs : List (Int × Int)} {B k : Nat} (h : TxGo l X rs B k wr) (hs : wr.heap.size ≤ w'.heap.size) (hb : ∀ j, j < B → j < wr.heap.size → w'.heap[j]? = wr.heap[j]?) : TxGo l X rs B k w' := by
  obtain ⟨ad, cap, hL, hx⟩ := h.lex
  have hl := hL.ne_of
  have hlB := h.lB
  have hL' : LexAt w' l { X with runes := .slice ad (rs.length - k) cap }.cells := ⟨hL.len, fun j u hj => (World.cell?_of_block (a := ⟨l, j, none⟩) (hb l hlB hl)).trans (hL.c j u hj), fun j => by
    have := hL.fz j
    simp only [World.frozen?, hb l hlB hl] at this ⊢
    exact this⟩
  refine ⟨⟨ad, cap, hL', ?_⟩, h.ah, h.all, h.few, h.lB⟩
  rcases hx with hx | ⟨g, o, h1, h2, h3, h4, h5, h6, h7⟩
  · exact .inl hx
  · refine .inr ⟨g, o, h1, h2, h3, h4, by omega, h6, fun i c a hi => ?_⟩
    exact ⟨(World.cell?_of_block (a := ⟨g, i * 2, none⟩) (hb g h4 h5)).trans (h7 i c a hi).1, (World.cell?_of_block (a := ⟨g, i * 2 + 1, none⟩) (hb g h4 h5)).trans (h7 i c a hi).2⟩

theorem TxGo.next {wr : World} {l : Nat} {X : Lx} {rs : List (Int × Int)} {B k : Nat} {c a : Int} (h : TxGo l X rs B k wr) (hk : rs[k]? = some (c, a)) :
    Calls Tryz.prog 21 #[.pointer (some ⟨l, 0, none⟩)] wr fun e w' => e = .returned (.tuple #[tokV { tok0 with kind := 1, value := c, at' := (k : Int) }, .bool true]) ∧ Hid (TxGo l X rs B (k + 1) w') ∧ But l wr.heap.size wr w' := by
  obtain ⟨ad, cap, hL, hx⟩ := h.lex
  have hl := hL.ne_of
  have hkl := (List.getElem?_eq_some_iff.1 hk).1
  have hfew := h.few
  obtain ⟨hka, hpc⟩ := h.all k c a hk
  rcases hx with ⟨_, _, hx⟩ | ⟨g, o, rfl, h2, h3, h3b, h4, h5, h6⟩
  · omega
  · obtain rfl := h5 hkl
    have hlen : (rs.drop (k + 1)).length + 1 = rs.length - k := by rw [List.length_drop]; omega
    have hd : ∀ (i : Nat) (c' a' : Int), ((c, a) :: rs.drop (k + 1))[i]? = some (c', a') → rs[k + i]? = some (c', a') := by
      intro i c' a' hi
      match i, hi with
      | 0, hi =>
        rw [Nat.add_zero, hk]
        simpa using hi
      | i + 1, hi =>
        simp only [List.getElem?_cons_succ, List.getElem?_drop] at hi
        rw [← hi]
        congr 1
        omega
    have hah : Ahead { X with runes := .slice (some ⟨g, k * 2, none⟩) (rs.length - k) cap } := ⟨h.ah.pos, h.ah.ov, h.ah.st, h.ah.tok, h.ah.lo, h.ah.later, h.ah.met, h.ah.wrong⟩
    refine (next_plain l g (k * 2) cap c a (rs.drop (k + 1)) _ wr hL hah (by show Value.slice _ _ _ = _; rw [hlen]) hl h3 h4 (by omega) (fun i c' a' hi => ?_) (by omega) hpc.h0 hpc.h60 hpc.h38).mono ?_
    · have hh := h6 (k + i) c' a' (hd i c' a' hi)
      rw [show k * 2 + i * 2 = (k + i) * 2 by omega]
      exact hh
    · rintro e w' ⟨rfl, ⟨o', ho, hL'⟩, hb'⟩
      subst hka
      refine ⟨rfl, ?_, hb'⟩
      have kc : ∀ b j, b < wr.heap.size → b ≠ l → w'.cell? ⟨b, j, none⟩ = wr.cell? ⟨b, j, none⟩ := fun b j h1 h2 => World.cell?_of_block (a := ⟨b, j, none⟩) (hb'.block b h1 h2)
      have hdl : (rs.drop (k + 1)).length = rs.length - (k + 1) := List.length_drop ..
      rw [hdl] at hL'
      refine ⟨⟨_, _, hL', .inr ⟨g, o', rfl, by omega, h3, h3b, Nat.lt_of_lt_of_le h4 hb'.size, fun hlt => by have := ho (by omega); omega, fun i c' a' hi => ?_⟩⟩, h.ah, h.all, h.few, h.lB⟩
      have hh := h6 i c' a' hi
      exact ⟨(kc g _ h4 (fun e => h3 e.symm)).trans hh.1, (kc g _ h4 (fun e => h3 e.symm)).trans hh.2⟩

/-- The state waits behind all that was put. -/
structure WaitAt (l : Nat) (X : Lx) (w' : World) : Prop where
  out : ∃ ad cap, ((ad = none ∧ cap = 0) ∨ ∃ g o, ad = some ⟨g, o, none⟩) ∧ LexAt w' l { X with runes := .slice ad 0 cap, st := stF 39 }.cells
theorem TxGo.wait {wr : World} {l : Nat} {X : Lx} {rs : List (Int × Int)} {B : Nat} (h : TxGo l X rs B rs.length wr) (hcl : X.cl = false) :
    Calls Tryz.prog 21 #[.pointer (some ⟨l, 0, none⟩)] wr fun e w' => e = .returned (.tuple #[tokV tok0, .bool false]) ∧ Hid (WaitAt l X w') ∧ But l wr.heap.size wr w' := by
  obtain ⟨ad, cap, hL, hx⟩ := h.lex
  rw [Nat.sub_self] at hL
  refine (next_wait l ad cap _ wr hL ⟨h.ah.pos, h.ah.ov, h.ah.st, h.ah.tok, h.ah.lo, h.ah.later, h.ah.met, h.ah.wrong⟩ rfl hcl).mono ?_
  rintro e w' ⟨rfl, hL', hb⟩
  refine ⟨rfl, ⟨ad, cap, ?_, hL'⟩, hb⟩
  rcases hx with ⟨h1, h2, _⟩ | ⟨g, o, h1, _⟩
  · exact .inl ⟨h1, h2⟩
  · exact .inr ⟨g, o, h1⟩
end Go.Proofs.YtgdjknbbjpcoiaaGreatDoor
