/-
  What a run over a plain text keeps: the tokens so far, and what is put.
-/
import Derived.Test.YtgdjknbbjpcoiaaGreatDoorLtPlain
namespace Go.Proofs.YtgdjknbbjpcoiaaGreatDoor
open Go.RowKit

theorem Tryz.infoTok : (Tryz.prog.info? 41).map (fun i => (i.zero, i.size, i.bytes)) = some (some (.agg #[.int .i64 0, .int .i64 0, .int .i64 0, .string ⟨#[]⟩, .string ⟨#[]⟩, .slice none 0 0, .bool false, .bool false]), 8, 88) := by kernel_rfl
theorem Tryz.infoDiag2 : (Tryz.prog.info? 49).map (fun i => (i.zero, i.size, i.bytes)) = some (some (.agg #[.int .i64 0, .int .i64 0, .string ⟨#[]⟩]), 3, 32) := by kernel_rfl

/-- One scalar's token; the end's. -/
def txT (r : Int × Int) : Tok := { tok0 with kind := 1, value := r.1, at' := r.2 }
def txC (rs : List (Int × Int)) : List Value := rs.flatMap fun r => tokC (txT r)
def txE : List Value := tokC { tok0 with at' := 1073741824 }
theorem txC_snoc (rs : List (Int × Int)) (k : Nat) (r : Int × Int) (h : rs[k]? = some r) : txC (rs.take k) ++ tokC (txT r) = txC (rs.take (k + 1)) := by
  rw [List.take_add_one, h]
  simp [txC]
theorem tokC_one (t : Tok) : ∀ u ∈ tokC t, u.oneCell' = true := by
  intro u hu
  simp [tokC] at hu
  rcases hu with rfl | rfl | rfl | rfl | rfl | rfl | rfl | rfl <;> rfl
theorem txC_at (rs : List (Int × Int)) (rest : List Value) (i : Nat) (r : Int × Int) (h : rs[i]? = some r) : (txC rs ++ rest)[i * 8]? = some (.int .i64 1) ∧ (txC rs ++ rest)[i * 8 + 1]? = some (.int .i64 r.1) ∧ (txC rs ++ rest)[i * 8 + 2]? = some (.int .i64 r.2) := by
  induction rs generalizing i with
  | nil => simp at h
  | cons x rs ih =>
    match i, h with
    | 0, h =>
      simp only [List.getElem?_cons_zero, Option.some.injEq] at h
      subst h
      exact ⟨rfl, rfl, rfl⟩
    | i + 1, h =>
      have h2 := ih i (by simpa using h)
      have e : ∀ j, (txC (x :: rs) ++ rest)[(i + 1) * 8 + j]? = (txC rs ++ rest)[i * 8 + j]? := by
        intro j
        have e1 : txC (x :: rs) ++ rest = tokC (txT x) ++ (txC rs ++ rest) := by simp [txC]
        have e2 : (tokC (txT x)).length = 8 := rfl
        rw [e1, List.getElem?_append_right (by omega), e2]
        congr 1
        omega
      have e0 := e 0
      simp only [Nat.add_zero] at e0
      exact ⟨e0.trans h2.1, (e 1).trans h2.2.1, (e 2).trans h2.2.2⟩
theorem txC_len (rs : List (Int × Int)) : (txC rs).length = rs.length * 8 := by
  induction rs with
  | nil => rfl
  | cons x rs ih =>
    have e1 : txC (x :: rs) = tokC (txT x) ++ txC rs := by simp [txC]
    rw [e1, List.length_append, ih]
    simp [tokC]
    omega
theorem txC_end (rs : List (Int × Int)) : (txC rs ++ txE)[rs.length * 8]? = some (.int .i64 0) := by
  rw [← txC_len, List.getElem?_append_right (Nat.le_refl _), Nat.sub_self]
  rfl

/-- The tokens told so far, while the lexer goes on. -/
structure LtIn (w0 : World) (l B : Nat) (X : Lx) (rs : List (Int × Int)) (k : Nat) (v : Value) (wr : World) : Prop where
  own : wr.ownsRow B 41 8 v k (txC (rs.take k))
  go : TxGo l X rs B k wr
  but : But l B w0 wr
  BL : B ≤ wr.heap.size

/-- One token more. -/
structure LtMid (w0 : World) (l B : Nat) (X : Lx) (rs : List (Int × Int)) (k : Nat) (v : Value) (r : Int × Int) (wr : World) : Prop where
  own : wr.ownsRow B 41 8 v k (txC (rs.take k))
  go : TxGo l X rs B (k + 1) wr
  but : But l B w0 wr
  BL : B ≤ wr.heap.size
  at' : rs[k]? = some r

theorem LtMid.below {w0 wr w' : World} {l B k : Nat} {X : Lx} {rs : List (Int × Int)} {v : Value} {r : Int × Int} (h : LtMid w0 l B X rs k v r wr) (hb : Below wr.heap.size wr w') : LtMid w0 l B X rs k v r w' :=
  ⟨own_below h.own hb, h.go.other hb.size (fun j _ hj => hb.block j hj), h.but.trans (But.of (hb.mono h.BL)), Nat.le_trans h.BL hb.size, h.at'⟩

theorem LtIn.next {w0 wr : World} {l B k : Nat} {X : Lx} {rs : List (Int × Int)} {v : Value} {c a : Int} (h : LtIn w0 l B X rs k v wr) (hk : rs[k]? = some (c, a)) :
    Calls Tryz.prog 21 #[.pointer (some ⟨l, 0, none⟩)] wr fun e w' => e = .returned (.tuple #[tokV (txT (c, a)), .bool true]) ∧ Hid (LtMid w0 l B X rs k v (c, a) w') := by
  refine (h.go.next hk).mono ?_
  rintro e w' ⟨rfl, hg, hb⟩
  have ha := (h.go.all k c a hk).1
  have hlB := h.go.lB
  have hBL := h.BL
  subst ha
  refine ⟨rfl, ⟨own_but2 h.own hb (fun g hg => ?_), hg.out, h.but.trans (hb.mono h.BL), Nat.le_trans h.BL hb.size, hk⟩⟩
  have h1 := own_lt2 h.own g hg
  exact ⟨h1.2, by omega⟩

theorem LtMid.put {w0 wr w' : World} {l B k : Nat} {X : Lx} {rs : List (Int × Int)} {v v' : Value} {r : Int × Int} (h : LtMid w0 l B X rs k v r wr) (hown : w'.ownsRow B 41 8 v' (k + 1) (txC (rs.take k) ++ tokC (txT r))) (hgrow : wr.grownBy w' v.ownBlock) : LtIn w0 l B X rs (k + 1) v' w' := by
  have hlB := h.go.lB
  have hBL := h.BL
  have hne : ∀ j, j < B → some j ≠ v.ownBlock := fun j hj e => by
    have := own_block_ge h.own j e.symm
    omega
  rw [txC_snoc rs k r h.at'] at hown
  refine ⟨hown, h.go.other hgrow.size (fun j hj hj2 => hgrow.block j hj2 (hne j hj)), h.but.trans ⟨hgrow.os, hgrow.tape, hgrow.output, hgrow.size, fun j hj _ => hgrow.block j (by omega) (hne j hj)⟩, Nat.le_trans hBL hgrow.size⟩

/-- All scalars are told, the state waits. -/
structure LtWait (w0 : World) (l B : Nat) (X : Lx) (rs : List (Int × Int)) (v : Value) (wr : World) : Prop where
  own : wr.ownsRow B 41 8 v rs.length (txC rs)
  lex : WaitAt l X wr
  but : But l B w0 wr
  BL : B ≤ wr.heap.size
  lB : l < B

theorem LtWait.below {w0 wr w' : World} {l B : Nat} {X : Lx} {rs : List (Int × Int)} {v : Value} (h : LtWait w0 l B X rs v wr) (hb : Below wr.heap.size wr w') : LtWait w0 l B X rs v w' := by
  obtain ⟨ad, cap, h1, hL⟩ := h.lex.out
  have hlB := h.lB
  have hBL := h.BL
  exact ⟨own_below h.own hb, ⟨ad, cap, h1, hL.below hb hL.ne_of⟩, h.but.trans (But.of (hb.mono h.BL)), Nat.le_trans h.BL hb.size, h.lB⟩
theorem LtWait.lexer {w0 wr w' : World} {l B : Nat} {X : Lx} {rs : List (Int × Int)} {v : Value} (h : LtWait w0 l B X rs v wr) (hL : WaitAt l X w') (hb : But l wr.heap.size wr w') : LtWait w0 l B X rs v w' := by
  have hlB := h.lB
  have hBL := h.BL
  refine ⟨own_but2 h.own hb (fun g hg => ?_), hL, h.but.trans (hb.mono h.BL), Nat.le_trans h.BL hb.size, h.lB⟩
  have h1 := own_lt2 h.own g hg
  exact ⟨h1.2, by omega⟩

theorem LtIn.wait {w0 wr : World} {l B : Nat} {X : Lx} {rs : List (Int × Int)} {v : Value} (h : LtIn w0 l B X rs rs.length v wr) (hcl : X.cl = false) :
    Calls Tryz.prog 21 #[.pointer (some ⟨l, 0, none⟩)] wr fun e w' => e = .returned (.tuple #[tokV tok0, .bool false]) ∧ Hid (LtWait w0 l B X rs v w') := by
  refine (h.go.wait hcl).mono ?_
  rintro e w' ⟨rfl, hw, hb⟩
  have hown := h.own
  rw [List.take_length] at hown
  have hlB := h.go.lB
  have hBL := h.BL
  refine ⟨rfl, ⟨own_but2 hown hb (fun g hg => ?_), hw.out, h.but.trans (hb.mono h.BL), Nat.le_trans h.BL hb.size, hlB⟩⟩
  have h1 := own_lt2 hown g hg
  exact ⟨h1.2, by omega⟩

theorem LtWait.wrong {w0 wr : World} {l B : Nat} {X : Lx} {rs : List (Int × Int)} {v : Value} (h : LtWait w0 l B X rs v wr) (hw : X.wrong = .slice none 0 0) :
    Calls Tryz.prog 32 #[.pointer (some ⟨l, 0, none⟩)] wr fun e w' => e = .returned (.slice none 0 0) ∧ Hid (LtWait w0 l B X rs v w') := by
  obtain ⟨ad, cap, h1, hL⟩ := h.lex.out
  refine (wrong_any l _ wr hL hw).mono ?_
  rintro e w' ⟨rfl, hL', hb⟩
  exact ⟨rfl, h.lexer ⟨ad, cap, h1, hL'⟩ hb⟩

/-- Pass of a row without carriage returns. -/
theorem pass_txt (lb base : Nat) (v : Value) (rs : List (Int × Int)) (w : World) (hc0 : w.cell? ⟨lb, 0, none⟩ = some (.bool false)) (hf0 : w.frozen? ⟨lb, 0, none⟩ = false) (hlb : lb < w.heap.size) (hlen : rs.length ≤ 5000)
    (hown : w.ownsRow base 121 2 v rs.length (rs.flatMap runeC)) (hne : ∀ g, v.ownBlock = some g → g ≠ lb) (h13 : ∀ r ∈ rs, ¬ r.1 = 13) :
    Calls Tryz.prog 28 #[.pointer (some ⟨lb, 0, none⟩), v] w fun e w' => ∃ va vcap, e = .returned (.slice va rs.length vcap) ∧ w'.ownsRow w.heap.size 121 2 (.slice va rs.length vcap) rs.length (rs.flatMap runeC) ∧ w'.cell? ⟨lb, 0, none⟩ = some (.bool false) ∧ w'.frozen? ⟨lb, 0, none⟩ = false ∧ But lb w.heap.size w w' ∧ (rs = [] → Value.slice va rs.length vcap = .slice none 0 0) := by
  by_cases h0 : rs = []
  · subst h0
    obtain ⟨a, cap, rfl⟩ := own_head hown
    refine (pass_zero lb cap a w).mono ?_
    rintro e w' ⟨rfl, hb⟩
    exact ⟨none, 0, rfl, World.ownsRow_nil _ _ _ _, (hb.cell (p := ⟨lb, 0, none⟩) hlb).trans hc0, (hb.frozen (p := ⟨lb, 0, none⟩) hlb).trans hf0, But.of hb, fun _ => rfl⟩
  · obtain ⟨h1, h2⟩ := pass_plain rs h13
    refine (pass_any lb base v false rs w hc0 hf0 hlb (by omega) hown hne).mono ?_
    rintro e w' ⟨vo, rfl, hP⟩
    have ho := hP.own
    have hc := hP.c
    rw [h1] at ho
    rw [h2] at hc
    obtain ⟨va, vcap, rfl⟩ := own_head ho
    exact ⟨va, vcap, rfl, ho, hc, hP.f, hP.but, fun e => absurd e h0⟩

/-- Put of the first row. -/
theorem put_txt (l B vcap : Nat) (va : Option Addr) (rs : List (Int × Int)) (w : World) (hL : LexAt w l lx0.cells) (hO : w.ownsRow B 121 2 (.slice va rs.length vcap) rs.length (rs.flatMap runeC)) (hnil : rs = [] → Value.slice va rs.length vcap = .slice none 0 0) (hfew : rs.length ≤ 5000) (hall : ∀ (i : Nat) (c a : Int), rs[i]? = some (c, a) → a = (i : Int) ∧ PlainC c) :
    Calls Tryz.prog 20 #[.pointer (some ⟨l, 0, none⟩), .slice va rs.length vcap] w fun e w' => e = .returned (.tuple #[]) ∧ Hid (LtIn w' l w'.heap.size lx0 rs 0 (.slice none 0 0) w' ∧ But l w.heap.size w w') := by
  have hl := hL.ne_of
  have hah : Ahead lx0 := ⟨rfl, rfl, rfl, rfl, rfl, rfl, rfl, rfl⟩
  by_cases h0 : rs = []
  · subst h0
    rw [hnil rfl]
    refine (put_empty l lx0 w hL rfl rfl).mono ?_
    rintro e w' ⟨rfl, hL', hb'⟩
    have hs := hb'.size
    exact ⟨rfl, ⟨World.ownsRow_nil _ _ _ _, ⟨⟨none, 0, hL', .inl ⟨rfl, rfl, rfl⟩⟩, hah, hall, hfew, by omega⟩, But.refl _ _ _, Nat.le_refl _⟩, hb'⟩
  · have hpos : 0 < rs.length := List.length_pos_iff.2 h0
    obtain ⟨b, cap0, hv⟩ := Joins.ownsRow_form hO hpos
    injection hv with hv1 _ hv3
    subst hv1 hv3
    refine (put_first l lx0.cells b 0 rs.length vcap (rs.flatMap runeC) w hL hl rfl rfl hpos (by omega) (rune_len rs) (fun j u hj => hO.cells rfl j u hj) (rune_one rs)).mono ?_
    rintro e w' ⟨rfl, ⟨g, cap, hL', hO'⟩, hb'⟩
    have hg := hO'.lt g rfl
    have hs := hb'.size
    exact ⟨rfl, ⟨World.ownsRow_nil _ _ _ _, ⟨⟨some ⟨g, 0, none⟩, cap, hL', .inr ⟨g, 0, rfl, own_room hO', by omega, hg.2, hg.2, fun _ => rfl, fun i c a hi => rune_cells hO' i c a hi⟩⟩, hah, hall, hfew, by omega⟩, But.refl _ _ _, Nat.le_refl _⟩, hb'⟩
end Go.Proofs.YtgdjknbbjpcoiaaGreatDoor
