/-
  A text without the signs that begin something is told scalar by scalar, in each mode: the law's walk.
-/
import Derived.Test.YtbdfdipeefeajaaDoorLxPlain
namespace Go.Proofs.YtbdfdipeefeajaaDoor
open Go.RowKit

theorem u8_mask127 (x : Nat) (hx : x < 256) : bits .and .u8 (x : Int) 127 = ((x % 128 : Nat) : Int) := by
  have h : ∀ n : Fin 256, bits .and .u8 (n.val : Int) 127 = ((n.val % 128 : Nat) : Int) := by decide +kernel
  exact h ⟨x, hx⟩

theorem mode_four (mode : Int) : (wrap64 (mode.tmod 4 + 4)).tmod 4 = 0 ∨ (wrap64 (mode.tmod 4 + 4)).tmod 4 = 3 ∨ (wrap64 (mode.tmod 4 + 4)).tmod 4 = 1 ∨ (wrap64 (mode.tmod 4 + 4)).tmod 4 = 2 := by
  have h1 : mode.tmod 4 < 4 := Int.tmod_lt_of_pos mode (by decide)
  have h2 : -4 < mode.tmod 4 := Int.lt_tmod_of_pos mode (by decide)
  generalize mode.tmod 4 = t at h1 h2
  have e : wrap64 (t + 4) = t + 4 := by unfold wrap64; omega
  rw [e, Int.tmod_eq_emod_of_nonneg (by omega)]
  omega

/-- A lexer that was just made, in some mode. -/
structure Fresh (x : Lx) : Prop where
  ah : Ahead x
  rn : x.runes = .slice none 0 0
  cl : x.cl = false
theorem fresh_of (m : Int) (u : ByteArray) : Fresh { lx0 with md := m, un := u } := ⟨⟨rfl, rfl, rfl, rfl, rfl, rfl, rfl, rfl⟩, rfl, rfl⟩

def ModeOk (m : Int) (nm : ByteArray) : Prop := (m = 0 ∧ nm = ⟨#[]⟩) ∨ (m = 3 ∧ nm = ⟨#[]⟩) ∨ (m = 1 ∧ nm = ⟨#[116, 105, 116, 108, 101]⟩) ∨ (m = 2 ∧ nm = ⟨#[116, 105, 116, 108, 101]⟩)

/-- A scalar that begins nothing. -/
structure PlainC (c : Int) : Prop where
  h0 : ¬ c = 0
  h60 : ¬ c = 60
  h38 : ¬ c = 38

/-- The scalars so far. -/
structure PlRow (w wr : World) (B l k : Nat) (rs : List (Int × Int)) (v : Value) : Prop where
  own : wr.ownsRow B 27 2 v rs.length (rs.flatMap runeC)
  len : rs.length = k
  all : ∀ (i : Nat) (c a : Int), rs[i]? = some (c, a) → a = (i : Int) ∧ PlainC c
  lex : LexAt wr l lexNew
  bel : Below w.heap.size w wr
  wl : w.heap.size ≤ l
  lB : l < B
  BL : B ≤ wr.heap.size
  nil : rs = [] → v = .slice none 0 0

theorem PlRow.next {w wr w1 w' : World} {B l k : Nat} {rs : List (Int × Int)} {v v' : Value} {c : Int} (h : PlRow w wr B l k rs v) (h01 : Below wr.heap.size wr w1) (hc : PlainC c) (hown' : w'.ownsRow B 27 2 v' (rs.length + 1) (rs.flatMap runeC ++ runeC (c, (k : Int)))) (hgrow : w1.grownBy w' v.ownBlock) : PlRow w w' B l (k + 1) (rs ++ [(c, (k : Int))]) v' := by
  have hs := h.bel.size
  have hBL := h.BL
  have hlB := h.lB
  have hs1 := h01.size
  have hs2 := hgrow.size
  refine ⟨by simpa using hown', by simp [h.len], ?_, ?_, (h.bel.trans (h01.mono hs)).grown hgrow (by omega) (fun k e => by have := own_block_ge h.own k e; have := h.wl; omega), h.wl, h.lB, by omega, fun e => by simp at e⟩
  · intro i c' a' hi
    by_cases hlt : i < rs.length
    · rw [List.getElem?_append_left hlt] at hi
      exact h.all i c' a' hi
    · rw [List.getElem?_append_right (by omega)] at hi
      have hi2 := (List.getElem?_eq_some_iff.1 hi).1
      simp at hi2
      have e : i - rs.length = 0 := by omega
      rw [e] at hi
      simp at hi
      have hl := h.len
      exact ⟨by rw [← hi.2]; omega, hi.1 ▸ hc⟩
  · have h1 := h.lex.below (h01.mono (Nat.le_refl _)) (by omega)
    exact h1.grown hgrow (by omega) (by
      intro e
      have := own_block_ge h.own l e.symm
      omega)

/-- How far the lexer has told the scalars. -/
structure PlGo (w : World) (l : Nat) (X : Lx) (rs : List (Int × Int)) (va : Option Addr) (k : Nat) (wr : World) : Prop where
  lex : ∃ ad cap, LexAt wr l { X with runes := .slice ad (rs.length - k) cap }.cells ∧ ((ad = none ∧ cap = 0 ∧ k = rs.length) ∨ ∃ g o, ad = some ⟨g, o, none⟩ ∧ rs.length - k ≤ cap ∧ l ≠ g ∧ g < wr.heap.size ∧ (k < rs.length → o = k * 2) ∧ ∀ (i : Nat) (c a : Int), rs[i]? = some (c, a) → wr.cell? ⟨g, i * 2, none⟩ = some (.int .i64 c) ∧ wr.cell? ⟨g, i * 2 + 1, none⟩ = some (.int .i64 a))
  row : ∀ (i : Nat) (c a : Int), rs[i]? = some (c, a) → ∃ b, va = some ⟨b, 0, none⟩ ∧ wr.cell? ⟨b, i * 2, none⟩ = some (.int .i64 c) ∧ b ≠ l
  ah : Ahead X
  cl : X.cl = true
  all : ∀ (i : Nat) (c a : Int), rs[i]? = some (c, a) → a = (i : Int) ∧ PlainC c
  few : rs.length ≤ 500
  bel : Below w.heap.size w wr
  wl : w.heap.size ≤ l

theorem PlGo.below {w wr w' : World} {l : Nat} {X : Lx} {rs : List (Int × Int)} {va : Option Addr} {k : Nat} (h : PlGo w l X rs va k wr) (hb : Below wr.heap.size wr w') : PlGo w l X rs va k w' := by
  obtain ⟨ad, cap, hL, hx⟩ := h.lex
  have hl := hL.ne_of
  refine ⟨⟨ad, cap, hL.below hb hl, ?_⟩, ?_, h.ah, h.cl, h.all, h.few, h.bel.trans (hb.mono h.bel.size), h.wl⟩
  · rcases hx with hx | ⟨g, o, h1, h2, h3, h4, h5, h6⟩
    · exact .inl hx
    · refine .inr ⟨g, o, h1, h2, h3, Nat.lt_of_lt_of_le h4 hb.size, h5, fun i c a hi => ?_⟩
      exact ⟨(hb.cell (p := ⟨g, i * 2, none⟩) h4).trans (h6 i c a hi).1, (hb.cell (p := ⟨g, i * 2 + 1, none⟩) h4).trans (h6 i c a hi).2⟩
  · intro i c a hi
    obtain ⟨b, h1, h2, h3⟩ := h.row i c a hi
    exact ⟨b, h1, (hb.cell (p := ⟨b, i * 2, none⟩) (World.block_lt_of_cell? _ _ h2)).trans h2, h3⟩

theorem PlGo.next {w wr : World} {l : Nat} {X : Lx} {rs : List (Int × Int)} {va : Option Addr} {k : Nat} {c a : Int} (h : PlGo w l X rs va k wr) (hk : rs[k]? = some (c, a)) :
    Calls Tryd.prog 10 #[.pointer (some ⟨l, 0, none⟩)] wr fun e w' => e = .returned (.tuple #[tokV { tok0 with kind := 1, value := c, at' := (k : Int) }, .bool true]) ∧ Hid (PlGo w l X rs va (k + 1) w') := by
  obtain ⟨ad, cap, hL, hx⟩ := h.lex
  have hl := hL.ne_of
  have hkl := (List.getElem?_eq_some_iff.1 hk).1
  have hfew := h.few
  obtain ⟨hka, hpc⟩ := h.all k c a hk
  rcases hx with ⟨_, _, hx⟩ | ⟨g, o, rfl, h2, h3, h4, h5, h6⟩
  · omega
  · obtain rfl := h5 hkl
    have hlen : (rs.drop (k + 1)).length + 1 = rs.length - k := by rw [List.length_drop]; omega
    have hd : ∀ (i : Nat) (c' a' : Int), ((c, a) :: rs.drop (k + 1))[i]? = some (c', a') → rs[k + i]? = some (c', a') := by
      intro i c' a' hi
      match i, hi with
      | 0, hi =>
        rw [Nat.add_zero, hk]
        simpa using hi
      | i + 1, hi =>
        simp only [List.getElem?_cons_succ, List.getElem?_drop] at hi
        rw [← hi]
        congr 1
        omega
    have hah : Ahead { X with runes := .slice (some ⟨g, k * 2, none⟩) (rs.length - k) cap } := ⟨h.ah.pos, h.ah.ov, h.ah.st, h.ah.tok, h.ah.lo, h.ah.later, h.ah.met, h.ah.wrong⟩
    refine (next_plain l g (k * 2) cap c a (rs.drop (k + 1)) _ wr hL hah (by show Value.slice _ _ _ = _; rw [hlen]) hl h3 h4 (by omega) (fun i c' a' hi => ?_) (by omega) hpc.h0 hpc.h60 hpc.h38).mono ?_
    · have hh := h6 (k + i) c' a' (hd i c' a' hi)
      rw [show k * 2 + i * 2 = (k + i) * 2 by omega]
      exact hh
    · rintro e w' ⟨rfl, ⟨o', ho, hL'⟩, hb'⟩
      subst hka
      refine ⟨rfl, ?_⟩
      have kc : ∀ b j, b < wr.heap.size → b ≠ l → w'.cell? ⟨b, j, none⟩ = wr.cell? ⟨b, j, none⟩ := fun b j h1 h2 => World.cell?_of_block (a := ⟨b, j, none⟩) (hb'.block b h1 h2)
      have hdl : (rs.drop (k + 1)).length = rs.length - (k + 1) := List.length_drop ..
      rw [hdl] at hL'
      refine ⟨⟨_, _, hL', .inr ⟨g, o', rfl, by omega, h3, Nat.lt_of_lt_of_le h4 hb'.size, fun hlt => by have := ho (by omega); omega, fun i c' a' hi => ?_⟩⟩, fun i c' a' hi => ?_, h.ah, h.cl, h.all, h.few, ?_, h.wl⟩
      · have hh := h6 i c' a' hi
        exact ⟨(kc g _ h4 (fun e => h3 e.symm)).trans hh.1, (kc g _ h4 (fun e => h3 e.symm)).trans hh.2⟩
      · obtain ⟨b, e1, e2, e3⟩ := h.row i c' a' hi
        exact ⟨b, e1, (kc b _ (World.block_lt_of_cell? _ _ e2) e3).trans e2, e3⟩
      · exact h.bel.trans ((hb'.mono h.bel.size).below h.wl)

theorem PlGo.last {w wr : World} {l : Nat} {X : Lx} {rs : List (Int × Int)} {va : Option Addr} (h : PlGo w l X rs va rs.length wr) :
    Calls Tryd.prog 10 #[.pointer (some ⟨l, 0, none⟩)] wr fun e w' => e = .returned (.tuple #[tokV { tok0 with at' := X.en }, .bool true]) ∧ Hid (EndP l wr w' ∧ Below w.heap.size w w') := by
  obtain ⟨ad, cap, hL, hx⟩ := h.lex
  rw [Nat.sub_self] at hL
  refine (next_end l ad cap _ wr hL ⟨h.ah.pos, h.ah.ov, h.ah.st, h.ah.tok, h.ah.lo, h.ah.later, h.ah.met, h.ah.wrong⟩ rfl ?_ h.cl).mono ?_
  · rcases hx with ⟨h1, h2, _⟩ | ⟨g, o, h1, _⟩
    · exact .inl ⟨h1, h2⟩
    · exact .inr ⟨g, o, h1⟩
  · rintro e w' ⟨rfl, hE⟩
    exact ⟨rfl, hE, h.bel.trans ((hE.but.mono h.bel.size).below h.wl)⟩

theorem EndP.wrong {l : Nat} {wr w' w'' : World} (h : EndP l wr w') (hb : Below w'.heap.size w' w'') : Calls Tryd.prog 11 #[.pointer (some ⟨l, 0, none⟩)] w'' fun e w3 => e = .returned (.slice none 0 0) ∧ But l w''.heap.size w'' w3 := by
  obtain ⟨y, hy, hL⟩ := h.lex
  exact (wrong_any l y w'' (hL.below hb hL.ne_of) hy).mono fun e w3 ⟨h1, _, h3⟩ => ⟨h1, h3⟩

theorem rune_one (rs : List (Int × Int)) : ∀ u ∈ rs.flatMap runeC, u.oneCell' = true := by
  intro u hu
  simp only [List.mem_flatMap, runeC] at hu
  obtain ⟨r, _, hu⟩ := hu
  simp at hu
  rcases hu with rfl | rfl <;> rfl
theorem rune_len (rs : List (Int × Int)) : (rs.flatMap runeC).length = rs.length * 2 := by
  induction rs with
  | nil => rfl
  | cons r rs ih => rw [List.flatMap_cons, List.length_append, ih]; simp [runeC]; omega
theorem rune_cells {w : World} {base g cap : Nat} {rs : List (Int × Int)} (h : w.ownsRow base 27 2 (.slice (some ⟨g, 0, none⟩) rs.length cap) rs.length (rs.flatMap runeC)) (i : Nat) (c a : Int) (hi : rs[i]? = some (c, a)) : w.cell? ⟨g, i * 2, none⟩ = some (.int .i64 c) ∧ w.cell? ⟨g, i * 2 + 1, none⟩ = some (.int .i64 a) := by
  obtain ⟨hlt, he⟩ := List.getElem?_eq_some_iff.1 hi
  have hr := rune_at rs i hlt
  rw [he] at hr
  refine ⟨own_at h _ _ ?_, own_at h _ _ ?_⟩
  · rw [Nat.mul_comm]; exact hr.1
  · rw [Nat.mul_comm]; exact hr.2

/-- The scalars that were put. -/
structure PutS (l : Nat) (x : Lx) (rs : List (Int × Int)) (w w' : World) : Prop where
  lex : ∃ ad cap, LexAt w' l { x with runes := .slice ad rs.length cap }.cells ∧ ((ad = none ∧ cap = 0 ∧ rs.length = 0) ∨ ∃ g, ad = some ⟨g, 0, none⟩ ∧ rs.length ≤ cap ∧ l ≠ g ∧ g < w'.heap.size ∧ ∀ (i : Nat) (c a : Int), rs[i]? = some (c, a) → w'.cell? ⟨g, i * 2, none⟩ = some (.int .i64 c) ∧ w'.cell? ⟨g, i * 2 + 1, none⟩ = some (.int .i64 a))
  but : But l w.heap.size w w'

theorem put_any (B l vcap : Nat) (va : Option Addr) (x : Lx) (rs : List (Int × Int)) (w : World) (hF : Fresh x) (hL : LexAt w l x.cells) (hO : w.ownsRow B 27 2 (.slice va rs.length vcap) rs.length (rs.flatMap runeC)) (hnil : rs = [] → Value.slice va rs.length vcap = .slice none 0 0) (hfew : rs.length ≤ 500) :
    Calls Tryd.prog 8 #[.pointer (some ⟨l, 0, none⟩), .slice va rs.length vcap] w fun e w' => e = .returned (.tuple #[]) ∧ PutS l x rs w w' := by
  have hl := hL.ne_of
  by_cases h0 : rs = []
  · subst h0
    rw [hnil rfl]
    refine (put_empty l x w hL hF.rn hF.cl).mono ?_
    rintro e w' ⟨rfl, hL', hb'⟩
    refine ⟨rfl, ⟨none, 0, ?_, .inl ⟨rfl, rfl, rfl⟩⟩, hb'⟩
    have e : x = { x with runes := .slice none 0 ([] : List (Int × Int)).length } := by
      obtain ⟨runes, pos, cl, en, ov, md, un, st, tok, less, mat, word, aat, quo, val, nam, r23, r24, r25, r26, r27, r28, lo, l30, later, met, wrong⟩ := x
      have := hF.rn
      simp only at this
      subst this
      rfl
    rw [e] at hL'
    exact hL'
  · have hpos : 0 < rs.length := List.length_pos_iff.2 h0
    obtain ⟨b, cap0, hv⟩ := Joins.ownsRow_form hO hpos
    injection hv with hv1 _ hv3
    subst hv1 hv3
    refine (put_first l x.cells b 0 rs.length vcap (rs.flatMap runeC) w hL hl (by show some x.runes = _; rw [hF.rn]) (by show some (Value.bool x.cl) = _; rw [hF.cl]) hpos (by omega) (rune_len rs) (fun j u hj => hO.cells rfl j u hj) (rune_one rs)).mono ?_
    rintro e w' ⟨rfl, ⟨g, cap, hL', hO'⟩, hb'⟩
    have hg := hO'.lt g rfl
    exact ⟨rfl, ⟨⟨some ⟨g, 0, none⟩, cap, hL', .inr ⟨g, rfl, own_room hO', by omega, hg.2, fun i c a hi => rune_cells hO' i c a hi⟩⟩, hb'⟩⟩

theorem close_any (l : Nat) (x : Lx) (rs : List (Int × Int)) (va : Option Addr) (vcap : Nat) (wc w w0 w' : World) (hF : Fresh x) (hP : PutS l x rs w w') (hwl : w0.heap.size ≤ l) (hbel : Below w0.heap.size w0 wc) (hb : But l wc.heap.size wc w) (B : Nat) (hlB : l < B) (hO : wc.ownsRow B 27 2 (.slice va rs.length vcap) rs.length (rs.flatMap runeC)) (hall : ∀ (i : Nat) (c a : Int), rs[i]? = some (c, a) → a = (i : Int) ∧ PlainC c) (hfew : rs.length ≤ 500) :
    Calls Tryd.prog 9 #[.pointer (some ⟨l, 0, none⟩), .int .i64 (rs.length : Int)] w' fun e w'' => e = .returned (.tuple #[]) ∧ Hid (PlGo w0 l { x with cl := true, en := (rs.length : Int) } rs va 0 w'') := by
  obtain ⟨⟨ad, cap, hL, hx⟩, hbp⟩ := hP
  have hl := hL.ne_of
  refine (close_new l (rs.length : Int) _ w' hL hF.cl).mono ?_
  rintro e w2 ⟨rfl, hL2, hb2⟩
  have hs1 := hb.size
  have hs2 := hbp.size
  have hB2 : But l wc.heap.size wc w2 := (hb.trans (hbp.mono hs1)).trans (hb2.mono (by omega))
  refine ⟨rfl, ⟨⟨ad, cap, hL2, ?_⟩, ?_, ⟨hF.ah.pos, hF.ah.ov, hF.ah.st, hF.ah.tok, hF.ah.lo, hF.ah.later, hF.ah.met, hF.ah.wrong⟩, rfl, hall, hfew, hbel.trans ((hB2.mono hbel.size).below hwl), hwl⟩⟩
  · rcases hx with ⟨h1, h2, h3⟩ | ⟨g, h1, h2, h3, h4, h5⟩
    · exact .inl ⟨h1, h2, h3.symm⟩
    · have kc : ∀ j, w2.cell? ⟨g, j, none⟩ = w'.cell? ⟨g, j, none⟩ := fun j => World.cell?_of_block (a := ⟨g, j, none⟩) (hb2.block g h4 (fun e => h3 e.symm))
      exact .inr ⟨g, 0, h1, h2, h3, Nat.lt_of_lt_of_le h4 hb2.size, fun _ => rfl, fun i c a hi => ⟨(kc _).trans (h5 i c a hi).1, (kc _).trans (h5 i c a hi).2⟩⟩
  · intro i c a hi
    have hpos : 0 < rs.length := Nat.lt_of_le_of_lt (Nat.zero_le _) (List.getElem?_eq_some_iff.1 hi).1
    obtain ⟨b, cap0, hv⟩ := Joins.ownsRow_form hO hpos
    injection hv with hv1 _ hv3
    subst hv1 hv3
    have hbb := hO.lt b rfl
    refine ⟨b, rfl, (World.cell?_of_block (a := ⟨b, i * 2, none⟩) (hB2.block b hbb.2 (by omega))).trans (rune_cells hO i c a hi).1, by omega⟩

set_option maxRecDepth 100000 in
set_option maxHeartbeats 4000000 in
theorem plain_law (s : ByteArray) (mode : Int) (w : World) (hW : IsWin w) :
    Calls Tryd.prog 3 #[.string s, .int .i64 mode] w fun e w' => e = .returned (.bool true) ∧ Below w.heap.size w w' := by
  obtain ⟨i0, hi, hy0, hy1, hy2⟩ := info_parts Tryd.infoRune
  have HS : Hid _ := lxSpeaks w hW
  clear hW
  go_enter Tryd.func3, Tryd.ntmps3
  go_wp2_with fail
  refine Calls.mono HS.out ?_
  rintro e w1 ⟨rfl, hb1⟩
  have HB1 : Hid _ := hb1
  clear hb1 HS
  go_wp2_with fail
  refine Calls.mono (lexNew_any w1) ?_
  rintro e w2 ⟨rfl, hw2⟩
  have HR : Hid (PlRow w w2 w2.heap.size w1.heap.size 0 [] (.slice none 0 0)) := by
    have hs := HB1.out.size
    have h2 : w2.heap.size = w1.heap.size + 1 := by rw [hw2]; simp
    refine ⟨World.ownsRow_nil _ _ _ _, rfl, fun i c a h => by simp at h, by rw [hw2]; exact lexNew_at w1 _, ?_, hs, by omega, Nat.le_refl _, fun _ => rfl⟩
    rw [hw2]
    exact HB1.out.alloc hs _
  clear hw2 HB1
  generalize w1.heap.size = l at *
  generalize hB : w2.heap.size = B at HR
  clear hB
  go_wp2
  go_loopw [6, 7] (fun v i wr => ∃ (k : Nat) (rs : List (Int × Int)), k ≤ 500 ∧ k ≤ s.size ∧ i = .int .i64 k ∧ PlRow w wr B l k rs v) (fun _ i _ => 500 - (intOf i).toNat)
  case atStart => exact ⟨0, [], by omega, by omega, rfl, HR.out⟩
  case round =>
    clear HR
    obtain ⟨k, rs, hk, hks, rfl, hR⟩ := hrel
    have HR : Hid _ := hR
    by_cases hin : k < s.size ∧ k < 500
    · obtain ⟨hi1, hi2⟩ := hin
      have HLN : Hid (rs.length ≤ 500) := by show _ ≤ _; rw [hR.len]; omega
      have HBL : Hid (∀ o, Below wr.heap.size wr (wr.alloc o)) := fun o => (Below.refl _ _).alloc (Nat.le_refl _) o
      have hBL := hR.BL
      have hmask := u8_mask127 s[k].toNat s[k].toNat_lt
      have hy := Nat.mod_lt s[k].toNat (show 0 < 128 by decide)
      generalize s[k].toNat % 128 = y at hmask hy
      have hcy : wrap64 (y : Int) = (y : Int) := by unfold wrap64; omega
      clear hR
      by_cases h60 : y = 60
      · subst h60
        go_wp2_with (at_builtin; refine wpList_append_own _ rfl _ _ 25 rfl B 27 i0 (.agg #[.int .i64 0, .int .i64 0]) 2 16 Tryd.underlying25 hi hy0 hy1 hy2 rfl (by decide) _ _ _ rfl (own_below HR.out.own (HBL.out _)) ⟨wr.heap.size, 0, none⟩ 1 1 (runeC (120, (k : Int))) rfl rfl (news_cells _ #[.int .i64 120, .int .i64 (k : Int)] _ _ rfl) (by intro u hu; simp [runeC] at hu; rcases hu with rfl | rfl <;> rfl) (by have := HLN.out; unfold maxLen; omega) (by have := HLN.out; omega) (by simp; omega) ?_)
        intro v' w' hown' hgrow _
        have HN : Hid (PlRow w w' B l (k + 1) (rs ++ [(120, (k : Int))]) v') := HR.out.next (HBL.out _) ⟨by decide, by decide, by decide⟩ hown' hgrow
        clear hown' hgrow
        go_wp2
        go_roundw
        case rel => exact ⟨k + 1, _, by omega, by omega, by go_num, HN.out⟩
        case measure => simp only [intOf]; go_num
      by_cases h38 : y = 38
      · subst h38
        go_wp2_with (at_builtin; refine wpList_append_own _ rfl _ _ 25 rfl B 27 i0 (.agg #[.int .i64 0, .int .i64 0]) 2 16 Tryd.underlying25 hi hy0 hy1 hy2 rfl (by decide) _ _ _ rfl (own_below HR.out.own (HBL.out _)) ⟨wr.heap.size, 0, none⟩ 1 1 (runeC (120, (k : Int))) rfl rfl (news_cells _ #[.int .i64 120, .int .i64 (k : Int)] _ _ rfl) (by intro u hu; simp [runeC] at hu; rcases hu with rfl | rfl <;> rfl) (by have := HLN.out; unfold maxLen; omega) (by have := HLN.out; omega) (by simp; omega) ?_)
        intro v' w' hown' hgrow _
        have HN : Hid (PlRow w w' B l (k + 1) (rs ++ [(120, (k : Int))]) v') := HR.out.next (HBL.out _) ⟨by decide, by decide, by decide⟩ hown' hgrow
        clear hown' hgrow
        go_wp2
        go_roundw
        case rel => exact ⟨k + 1, _, by omega, by omega, by go_num, HN.out⟩
        case measure => simp only [intOf]; go_num
      by_cases h00 : y = 0
      · subst h00
        go_wp2_with (at_builtin; refine wpList_append_own _ rfl _ _ 25 rfl B 27 i0 (.agg #[.int .i64 0, .int .i64 0]) 2 16 Tryd.underlying25 hi hy0 hy1 hy2 rfl (by decide) _ _ _ rfl (own_below HR.out.own (HBL.out _)) ⟨wr.heap.size, 0, none⟩ 1 1 (runeC (120, (k : Int))) rfl rfl (news_cells _ #[.int .i64 120, .int .i64 (k : Int)] _ _ rfl) (by intro u hu; simp [runeC] at hu; rcases hu with rfl | rfl <;> rfl) (by have := HLN.out; unfold maxLen; omega) (by have := HLN.out; omega) (by simp; omega) ?_)
        intro v' w' hown' hgrow _
        have HN : Hid (PlRow w w' B l (k + 1) (rs ++ [(120, (k : Int))]) v') := HR.out.next (HBL.out _) ⟨by decide, by decide, by decide⟩ hown' hgrow
        clear hown' hgrow
        go_wp2
        go_roundw
        case rel => exact ⟨k + 1, _, by omega, by omega, by go_num, HN.out⟩
        case measure => simp only [intOf]; go_num
      · have b60 : ((y : Int) == 60) = false := by rw [beq_eq_false_iff_ne]; omega
        have b38 : ((y : Int) == 38) = false := by rw [beq_eq_false_iff_ne]; omega
        have b00 : ((y : Int) == 0) = false := by rw [beq_eq_false_iff_ne]; omega
        have HPC : Hid (PlainC (y : Int)) := ⟨by omega, by omega, by omega⟩
        clear h60 h38 h00
        go_wp2_with (at_builtin; refine wpList_append_own _ rfl _ _ 25 rfl B 27 i0 (.agg #[.int .i64 0, .int .i64 0]) 2 16 Tryd.underlying25 hi hy0 hy1 hy2 rfl (by decide) _ _ _ rfl (own_below HR.out.own (HBL.out _)) ⟨wr.heap.size, 0, none⟩ 1 1 (runeC ((y : Int), (k : Int))) rfl rfl (news_cells _ #[.int .i64 (y : Int), .int .i64 (k : Int)] _ _ rfl) (by intro u hu; simp [runeC] at hu; rcases hu with rfl | rfl <;> rfl) (by have := HLN.out; unfold maxLen; omega) (by have := HLN.out; omega) (by simp; omega) ?_)
        intro v' w' hown' hgrow _
        have HN : Hid (PlRow w w' B l (k + 1) (rs ++ [((y : Int), (k : Int))]) v') := HR.out.next (HBL.out _) HPC.out hown' hgrow
        clear hown' hgrow
        go_wp2
        go_roundw
        case rel => exact ⟨k + 1, _, by omega, by omega, by go_num, HN.out⟩
        case measure => simp only [intOf]; go_num
    · have hlen : rs.length ≤ 500 := by rw [hR.len]; omega
      obtain ⟨va, vcap, hve⟩ := own_head hR.own
      subst hve
      clear hi hy0 hy1 hy2 hR
      rcases (show ¬ k < s.size ∨ (k < s.size ∧ ¬ k < 500) by omega) with i1 | ⟨i1, i2⟩
      all_goals
        clear hin
        go_upto_region 14 with fail
        have hm4 := mode_four mode
        generalize (wrap64 (mode.tmod 4 + 4)).tmod 4 = m at *
        have hl : l < wr.heap.size := by have := HR.out.lB; have := HR.out.BL; omega
        have hL0 : LexAt wr l lx0.cells := HR.out.lex
        have HM0 : Hid (Calls Tryd.prog 7 #[.pointer (some ⟨l, 0, none⟩), .int .i64 0, .string ⟨#[]⟩] wr fun e w' => e = .returned (.tuple #[]) ∧ (∃ x, Fresh x ∧ LexAt w' l x.cells) ∧ But l wr.heap.size wr w') := by
          refine Calls.mono (mode_zero l lx0 wr hL0 rfl rfl) ?_
          rintro e w' ⟨rfl, q, rfl⟩
          exact ⟨rfl, ⟨lx0, fresh_of 0 _, hL0.draws q⟩, But.of (drewN_below (Below.refl _ _) q)⟩
        have HM3 : Hid (Calls Tryd.prog 7 #[.pointer (some ⟨l, 0, none⟩), .int .i64 3, .string ⟨#[]⟩] wr fun e w' => e = .returned (.tuple #[]) ∧ (∃ x, Fresh x ∧ LexAt w' l x.cells) ∧ But l wr.heap.size wr w') := by
          refine Calls.mono (mode_three l lx0 wr hL0 rfl rfl rfl) ?_
          rintro e w' ⟨rfl, h1, h2⟩
          exact ⟨rfl, ⟨_, fresh_of 3 _, h1⟩, h2⟩
        have HM1 : Hid (Calls Tryd.prog 7 #[.pointer (some ⟨l, 0, none⟩), .int .i64 1, .string ⟨#[116, 105, 116, 108, 101]⟩] wr fun e w' => e = .returned (.tuple #[]) ∧ (∃ x, Fresh x ∧ LexAt w' l x.cells) ∧ But l wr.heap.size wr w') := by
          refine Calls.mono (mode_title l 1 (.inl rfl) lx0 wr hL0 hl rfl rfl rfl) ?_
          rintro e w' ⟨rfl, h1, h2⟩
          exact ⟨rfl, ⟨_, fresh_of 1 _, h1⟩, h2⟩
        have HM2 : Hid (Calls Tryd.prog 7 #[.pointer (some ⟨l, 0, none⟩), .int .i64 2, .string ⟨#[116, 105, 116, 108, 101]⟩] wr fun e w' => e = .returned (.tuple #[]) ∧ (∃ x, Fresh x ∧ LexAt w' l x.cells) ∧ But l wr.heap.size wr w') := by
          refine Calls.mono (mode_title l 2 (.inr rfl) lx0 wr hL0 hl rfl rfl rfl) ?_
          rintro e w' ⟨rfl, h1, h2⟩
          exact ⟨rfl, ⟨_, fresh_of 2 _, h1⟩, h2⟩
        have HM : Hid (∀ (m : Int) (nm : ByteArray), ModeOk m nm → Calls Tryd.prog 7 #[.pointer (some ⟨l, 0, none⟩), .int .i64 m, .string nm] wr fun e w' => e = .returned (.tuple #[]) ∧ (∃ x, Fresh x ∧ LexAt w' l x.cells) ∧ But l wr.heap.size wr w') := by
          intro m nm h
          rcases h with ⟨rfl, rfl⟩ | ⟨rfl, rfl⟩ | ⟨rfl, rfl⟩ | ⟨rfl, rfl⟩
          · exact HM0.out
          · exact HM3.out
          · exact HM1.out
          · exact HM2.out
        clear hL0 HM0 HM1 HM2 HM3
        go_cut [9, 10, 59] (fun c d b wx => ∃ m, c = .int .i64 m ∧ d = .string ⟨#[]⟩ ∧ ((m = 0 ∧ b = .bool false) ∨ (m = 3 ∧ b = .bool false) ∨ (m = 1 ∧ b = .bool true) ∨ (m = 2 ∧ b = .bool true)) ∧ wx = wr)
        case first =>
          rcases hm4 with rfl | rfl | rfl | rfl
          · go_wp2
            go_meet
            exact ⟨0, rfl, rfl, .inl ⟨rfl, rfl⟩, rfl⟩
          · go_wp2
            go_meet
            exact ⟨3, rfl, rfl, .inr (.inl ⟨rfl, rfl⟩), rfl⟩
          · go_wp2
            go_meet
            exact ⟨1, rfl, rfl, .inr (.inr (.inl ⟨rfl, rfl⟩)), rfl⟩
          · go_wp2
            go_meet
            exact ⟨2, rfl, rfl, .inr (.inr (.inr ⟨rfl, rfl⟩)), rfl⟩
        case rest =>
          obtain ⟨m, rfl, rfl, hmb, rfl⟩ := hcut
          clear hm4
          go_upto_if 59 with fail
          go_cut [9, 10] (fun c d wx => ∃ m nm, c = .int .i64 m ∧ d = .string nm ∧ ModeOk m nm ∧ wx = wc)
          case first =>
            rcases hmb with ⟨rfl, rfl⟩ | ⟨rfl, rfl⟩ | ⟨rfl, rfl⟩ | ⟨rfl, rfl⟩
            · go_wp2
              go_meet
              exact ⟨0, _, rfl, rfl, .inl ⟨rfl, rfl⟩, rfl⟩
            · go_wp2
              go_meet
              exact ⟨3, _, rfl, rfl, .inr (.inl ⟨rfl, rfl⟩), rfl⟩
            · go_wp2
              go_meet
              exact ⟨1, _, rfl, rfl, .inr (.inr (.inl ⟨rfl, rfl⟩)), rfl⟩
            · go_wp2
              go_meet
              exact ⟨2, _, rfl, rfl, .inr (.inr (.inr ⟨rfl, rfl⟩)), rfl⟩
          case rest =>
            obtain ⟨m2, nm, rfl, rfl, hmn, rfl⟩ := hcut
            clear hmb
            go_wp2_with fail
            refine Calls.mono (HM.out m2 nm hmn) ?_
            rintro e w3 ⟨rfl, ⟨x, hF, hL3⟩, hb3⟩
            have hO3 : w3.ownsRow B 27 2 (.slice va rs.length vcap) rs.length (rs.flatMap runeC) := owns_but' HR.out.own hb3 (Nat.le_refl _) HR.out.lB
            have HP : Hid _ := put_any B l vcap va x rs w3 hF hL3 hO3 HR.out.nil hlen
            have HC : Hid (∀ w4, PutS l x rs w3 w4 → _) := fun w4 h4 => close_any l x rs va vcap wc w3 w w4 hF h4 HR.out.wl HR.out.bel hb3 B HR.out.lB HR.out.own HR.out.all hlen
            clear HM hF hL3 hb3 hO3
            go_wp2_with fail
            refine Calls.mono HP.out ?_
            rintro e w4 ⟨rfl, hP4⟩
            have HC4 : Hid _ := HC.out w4 hP4
            clear HP HC hP4
            go_wp2_with fail
            refine Calls.mono HC4.out ?_
            rintro e w5 ⟨rfl, hG5⟩
            have hwl := HR.out.wl
            clear HC4 HR
            generalize ({ x with cl := true, en := (rs.length : Int) } : Lx) = X at hG5
            go_wp2
            go_loopw [11] (fun i wr => ∃ j : Nat, j ≤ rs.length ∧ i = .int .i64 j ∧ PlGo w l X rs va j wr) (fun i _ => rs.length - (intOf i).toNat)
            case atStart => exact ⟨0, by omega, rfl, hG5.out⟩
            case round =>
              clear hG5
              obtain ⟨j, hj, rfl, hG⟩ := hrel
              by_cases hlt : j < rs.length
              · obtain ⟨⟨c, a⟩, hca⟩ : ∃ r, rs[j]? = some r := ⟨rs[j], List.getElem?_eq_getElem hlt⟩
                have HN : Hid _ := hG.next hca
                clear hG
                go_wp2_with fail
                refine Calls.mono HN.out ?_
                rintro e w6 ⟨rfl, hG6⟩
                clear HN
                unfold tokV tok0
                obtain ⟨b, rfl, hc6, _⟩ := hG6.out.row j c a hca
                have HG7 : Hid (∀ o, PlGo w l X rs (some ⟨b, 0, none⟩) (j + 1) (w6.alloc o)) := fun o => hG6.out.below ((Below.refl _ _).alloc (Nat.le_refl _) o)
                have hc7 : ∀ o, (w6.alloc o).cell? ⟨b, j * 2, none⟩ = some (.int .i64 c) := fun o => ((Below.refl _ _).alloc (Nat.le_refl _) o : Below w6.heap.size w6 (w6.alloc o)).cell (p := ⟨b, j * 2, none⟩) (World.block_lt_of_cell? _ _ hc6) |>.trans hc6
                clear hG6 hc6 hca
                go_upto_region 23 with fail
                have t0 : (w6.alloc (.cells #[.int .i64 1, .int .i64 c, .int .i64 (j : Int), .string ⟨#[]⟩, .string ⟨#[]⟩, .slice none 0 0, .bool false, .bool false] 33)).cell? ⟨w6.heap.size, 0, none⟩ = some (.int .i64 1) := World.cell?_alloc_at _ _ _ 0 rfl
                have t1 : (w6.alloc (.cells #[.int .i64 1, .int .i64 c, .int .i64 (j : Int), .string ⟨#[]⟩, .string ⟨#[]⟩, .slice none 0 0, .bool false, .bool false] 33)).cell? ⟨w6.heap.size, 1, none⟩ = some (.int .i64 c) := World.cell?_alloc_at _ _ _ 1 rfl
                have t2 : (w6.alloc (.cells #[.int .i64 1, .int .i64 c, .int .i64 (j : Int), .string ⟨#[]⟩, .string ⟨#[]⟩, .slice none 0 0, .bool false, .bool false] 33)).cell? ⟨w6.heap.size, 2, none⟩ = some (.int .i64 (j : Int)) := World.cell?_alloc_at _ _ _ 2 rfl
                have t3 := hc7 (.cells #[.int .i64 1, .int .i64 c, .int .i64 (j : Int), .string ⟨#[]⟩, .string ⟨#[]⟩, .slice none 0 0, .bool false, .bool false] 33)
                have HG8 : Hid _ := HG7.out (.cells #[.int .i64 1, .int .i64 c, .int .i64 (j : Int), .string ⟨#[]⟩, .string ⟨#[]⟩, .slice none 0 0, .bool false, .bool false] 33)
                clear hc7 HG7
                generalize w6.alloc (.cells #[.int .i64 1, .int .i64 c, .int .i64 (j : Int), .string ⟨#[]⟩, .string ⟨#[]⟩, .slice none 0 0, .bool false, .bool false] 33) = w7 at *
                have hjI : (j : Int) < (rs.length : Int) := by omega
                go_quiet (fail)
                go_wp2
                go_roundw
                case rel => exact ⟨j + 1, by omega, by go_num, HG8.out.below (drewN_below (Below.refl _ _) _)⟩
                case measure => simp only [intOf]; go_num
              · obtain rfl : j = rs.length := by omega
                have HE : Hid _ := hG.last
                clear hG
                go_wp2_with fail
                refine Calls.mono HE.out ?_
                rintro e w6 ⟨rfl, hE6⟩
                clear HE
                have HW : Hid (∀ o, _) := fun o => hE6.out.1.wrong (w'' := w6.alloc o) ((Below.refl _ _).alloc (Nat.le_refl _) o)
                have HB6 : Hid (∀ o, Below w.heap.size w (w6.alloc o)) := fun o => hE6.out.2.alloc hE6.out.2.size o
                have HWL : Hid (w.heap.size ≤ l) := hwl
                clear hE6
                unfold tokV tok0
                go_wp2_with fail
                refine Calls.mono (HW.out _) ?_
                rintro e w7 ⟨rfl, hb7⟩
                have HB7 : Hid (Below w.heap.size w w7) := (HB6.out _).trans ((hb7.mono (HB6.out _).size).below HWL.out)
                clear hb7 HB6 HW
                go_wp2
                go_ret
                exact ⟨rfl, HB7.out⟩
end Go.Proofs.YtbdfdipeefeajaaDoor
