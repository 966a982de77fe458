/-
  A value is the same between quotes of either kind, and without any: the law's walk.
-/
import Derived.Test.YtbdfdipeefeajaaDoorLxQNext
import Derived.Test.YtbdfdipeefeajaaDoorPlLaw
namespace Go.Proofs.YtbdfdipeefeajaaDoor
open Go.RowKit

def vB (V : List UInt8) : ByteArray := ⟨V.toArray⟩
theorem vB_snoc (V : List UInt8) (c : UInt8) : vB V ++ ⟨#[c]⟩ = vB (V ++ [c]) := by
  apply ByteArray.ext
  apply Array.ext'
  rw [ByteArray.data_append, Array.toList_append]
  simp [vB]
theorem vB_size (V : List UInt8) : (vB V).size = V.length := by simp [vB, ByteArray.size]
theorem vB_list (V : List UInt8) : (vB V).toList = V := by rw [ByteArray.toList_eq]; rfl

theorem byte_own (w : World) (c : UInt8) : (w.alloc (.cells #[.int .u8 (c.toNat : Int)] 5)).ownsRow w.heap.size 5 1 (.slice (some ⟨w.heap.size, 0, none⟩) 1 1) [c].length (lxCells [c]) :=
  ⟨rfl, .inr ⟨w.heap.size, 1, #[.int .u8 (c.toNat : Int)], rfl, Nat.le_refl _, heap_alloc_new w _, Nat.le_refl _, by unfold maxLen; omega, rfl, rfl⟩⟩

theorem byte_of (tb : ByteArray) (T : List UInt8) (h : tb.data.toList = T) (m : Nat) (h1 : m < tb.size) (h2 : m < T.length) : tb[m] = T[m] := by subst h; rfl

/-- A value so far. -/
structure ValR (k : Nat) (V : List UInt8) : Prop where
  len : V.length ≤ k
  all : ∀ c ∈ V, ValC c
theorem ValR.skip {k : Nat} {V : List UInt8} (h : ValR k V) : ValR (k + 1) V := ⟨by have := h.len; omega, h.all⟩
theorem ValR.next {k : Nat} {V : List UInt8} {c : UInt8} (h : ValR k V) (hc : ValC c) : ValR (k + 1) (V ++ [c]) :=
  ⟨by have := h.len; simp; omega, fun d hd => by
    rcases List.mem_append.1 hd with hd | hd
    · exact h.all d hd
    · rw [List.mem_singleton.1 hd]; exact hc⟩

theorem cat_q (q : UInt8) (V : List UInt8) : (⟨#[60, 112, 32, 97, 61, q]⟩ : ByteArray) ++ vB V ++ ⟨#[q, 62]⟩ = vB (qText q V) := by
  apply ByteArray.ext
  apply Array.ext'
  rw [ByteArray.data_append, ByteArray.data_append, Array.toList_append, Array.toList_append]
  simp [vB, qText]
theorem cat_u (V : List UInt8) : (⟨#[60, 112, 32, 97, 61]⟩ : ByteArray) ++ vB V ++ ⟨#[62]⟩ = vB (uText V) := by
  apply ByteArray.ext
  apply Array.ext'
  rw [ByteArray.data_append, ByteArray.data_append, Array.toList_append, Array.toList_append]
  simp [vB, uText]

def textsOf (V : List UInt8) : List (List UInt8) := [qText 34 V, qText 39 V, uText V]

/-- The three texts stand. -/
structure QSt (w : World) (b : Nat) (V : List UInt8) (wr : World) : Prop where
  bel : Below w.heap.size w wr
  tx : ∀ (j : Nat) (T : List UInt8), (textsOf V)[j]? = some T → wr.cell? ⟨b, j, none⟩ = some (.string (vB T))
theorem QSt.below {w wr w' : World} {b : Nat} {V : List UInt8} (h : QSt w b V wr) (hb : Below wr.heap.size wr w') : QSt w b V w' :=
  ⟨h.bel.trans (hb.mono h.bel.size), fun j T hT => by
    have := h.tx j T hT
    exact (hb.cell (p := ⟨b, j, none⟩) (World.block_lt_of_cell? _ _ this)).trans this⟩

/-- The scalars of a text so far. -/
structure QRow (w0 wr : World) (B l k : Nat) (T : List UInt8) (v : Value) : Prop where
  own : wr.ownsRow B 27 2 v (rsOf (T.take k)).length ((rsOf (T.take k)).flatMap runeC)
  lex : LexAt wr l lexNew
  bel : Below w0.heap.size w0 wr
  wl : w0.heap.size ≤ l
  lB : l < B
  BL : B ≤ wr.heap.size
theorem QRow.next {w0 wr w1 w' : World} {B l k : Nat} {T : List UInt8} {v v' : Value} (h : QRow w0 wr B l k T v) (h01 : Below wr.heap.size wr w1) (hk : k < T.length) (hown' : w'.ownsRow B 27 2 v' ((rsOf (T.take k)).length + 1) ((rsOf (T.take k)).flatMap runeC ++ runeC ((T[k].toNat : Int), (k : Int)))) (hgrow : w1.grownBy w' v.ownBlock) : QRow w0 w' B l (k + 1) T v' := by
  have hs := h.bel.size
  have hBL := h.BL
  have hlB := h.lB
  have hs1 := h01.size
  have hs2 := hgrow.size
  have e : rsOf (T.take (k + 1)) = rsOf (T.take k) ++ [((T[k].toNat : Int), (k : Int))] := by
    rw [List.take_succ_eq_append_getElem hk, rsOf_snoc, List.length_take, Nat.min_eq_left (by omega)]
  refine ⟨by rw [e]; simpa using hown', ?_, (h.bel.trans (h01.mono hs)).grown hgrow (by omega) (fun k e => by have := own_block_ge h.own k e; have := h.wl; omega), h.wl, h.lB, by omega⟩
  have h1 := h.lex.below (h01.mono (Nat.le_refl _)) (by omega)
  exact h1.grown hgrow (by omega) (by
    intro e
    have := own_block_ge h.own l e.symm
    omega)

theorem QuoteP.wrong {l : Nat} {V : List UInt8} {w w' w'' : World} {t : Tok} (h : QuoteP l V w t w') (hb : Below w'.heap.size w' w'') : Calls Tryd.prog 11 #[.pointer (some ⟨l, 0, none⟩)] w'' fun e w3 => e = .returned (.slice none 0 0) ∧ But l w''.heap.size w'' w3 := by
  obtain ⟨y, hy, hL⟩ := h.lex
  exact (wrong_any l y w'' (hL.below hb hL.ne_of) hy).mono fun e w3 ⟨h1, _, h3⟩ => ⟨h1, h3⟩

/-- Put, Close, ready for Next. -/
structure QReady (l : Nat) (T : List UInt8) (w w' : World) : Prop where
  lex : ∃ g cap, LexAt w' l (qX (rsOf T).length g cap 0 .nilFunc tok0 (.slice none 0 0) 0 0 (.slice none 0 0) (.map none)).cells ∧ l ≠ g ∧ g < w'.heap.size ∧ (rsOf T).length ≤ cap ∧ ∀ (i : Nat) (c a : Int), (rsOf T)[i]? = some (c, a) → w'.cell? ⟨g, i * 2, none⟩ = some (.int .i64 c) ∧ w'.cell? ⟨g, i * 2 + 1, none⟩ = some (.int .i64 a)
  but : But l w.heap.size w w'
theorem ready_of (l : Nat) (T : List UInt8) (w w' : World) (hT : T ≠ []) (hP : PutS l lx0 (rsOf T) w w') :
    Calls Tryd.prog 9 #[.pointer (some ⟨l, 0, none⟩), .int .i64 (T.length : Int)] w' fun e w'' => e = .returned (.tuple #[]) ∧ Hid (QReady l T w w'') := by
  obtain ⟨⟨ad, cap, hL, hx⟩, hbp⟩ := hP
  refine (close_new l (T.length : Int) _ w' hL rfl).mono ?_
  rintro e w2 ⟨rfl, hL2, hb2⟩
  have hs2 := hbp.size
  have hpos : 0 < T.length := List.length_pos_iff.2 hT
  refine ⟨rfl, ?_, hbp.trans (hb2.mono hs2)⟩
  rcases hx with ⟨_, _, h3⟩ | ⟨g, rfl, h2, h3, h4, h5⟩
  · rw [rsOf_len] at h3
    omega
  · have kc : ∀ j, w2.cell? ⟨g, j, none⟩ = w'.cell? ⟨g, j, none⟩ := fun j => World.cell?_of_block (a := ⟨g, j, none⟩) (hb2.block g h4 (fun e => h3 e.symm))
    refine ⟨g, cap, ?_, h3, Nat.lt_of_lt_of_le h4 hb2.size, h2, fun i c a hi => ⟨(kc _).trans (h5 i c a hi).1, (kc _).trans (h5 i c a hi).2⟩⟩
    rw [← rsOf_len T] at hL2
    exact hL2

set_option maxRecDepth 100000 in
set_option maxHeartbeats 4000000 in
theorem quotes_law (s : ByteArray) (w : World) (hW : IsWin w) :
    Calls Tryd.prog 4 #[.string s] w fun e w' => e = .returned (.bool true) ∧ Below w.heap.size w w' := by
  obtain ⟨i0, hi, hy0, hy1, hy2⟩ := info_parts Tryd.infoRune
  have HS : Hid _ := lxSpeaks w hW
  clear hW
  go_enter Tryd.func4, Tryd.ntmps4
  go_wp2_with fail
  refine Calls.mono HS.out ?_
  rintro e w1 ⟨rfl, hb1⟩
  have HB1 : Hid _ := hb1
  clear hb1 HS
  go_wp2
  go_loopw [3, 4] (fun v i wr => ∃ (k : Nat) (V : List UInt8), k ≤ 60 ∧ k ≤ s.size ∧ v = .string (vB V) ∧ i = .int .i64 k ∧ ValR k V ∧ Below w.heap.size w wr) (fun _ i _ => 60 - (intOf i).toNat)
  case atStart => exact ⟨0, [], by omega, by omega, rfl, rfl, ⟨by simp, fun c h => by cases h⟩, HB1.out⟩
  case round =>
    clear HB1
    obtain ⟨k, V, hk, hks, rfl, rfl, hR, hbel⟩ := hrel
    have HR : Hid _ := hR
    have HBL : Hid _ := hbel
    have hlen := hR.len
    by_cases hin : k < s.size ∧ k < 60
    · obtain ⟨hi1, hi2⟩ := hin
      have hmask := u8_mask127 s[k].toNat s[k].toNat_lt
      have hy := Nat.mod_lt s[k].toNat (show 0 < 128 by decide)
      generalize s[k].toNat % 128 = y at hmask hy
      obtain ⟨c, hcy⟩ : ∃ c : UInt8, c.toNat = y := ⟨UInt8.ofNat y, by simp; omega⟩
      subst hcy
      clear hR hbel
      by_cases hok : 32 < c.toNat ∧ c.toNat ≠ 34 ∧ c.toNat ≠ 39 ∧ c.toNat ≠ 38 ∧ c.toNat ≠ 60 ∧ c.toNat ≠ 62 ∧ c.toNat ≠ 61 ∧ c.toNat ≠ 96 ∧ c.toNat ≠ 127
      · obtain ⟨g1, g2, g3, g4, g5, g6, g7, g8, g9⟩ := hok
        have HN : Hid (ValR (k + 1) (V ++ [c])) := HR.out.next ⟨g1, by omega, by omega, by omega, by omega, by omega, by omega, by omega, by omega⟩
        have HBN : Hid (∀ o, Below w.heap.size w (wr.alloc o)) := fun o => HBL.out.alloc HBL.out.size o
        have i1 : (32 : Int) < (c.toNat : Int) := by omega
        have n34 : ((c.toNat : Int) != 34) = true := by rw [bne_iff_ne]; omega
        have n39 : ((c.toNat : Int) != 39) = true := by rw [bne_iff_ne]; omega
        have n38 : ((c.toNat : Int) != 38) = true := by rw [bne_iff_ne]; omega
        have n60 : ((c.toNat : Int) != 60) = true := by rw [bne_iff_ne]; omega
        have n62 : ((c.toNat : Int) != 62) = true := by rw [bne_iff_ne]; omega
        have n61 : ((c.toNat : Int) != 61) = true := by rw [bne_iff_ne]; omega
        have n96 : ((c.toNat : Int) != 96) = true := by rw [bne_iff_ne]; omega
        have n127 : ((c.toNat : Int) != 127) = true := by rw [bne_iff_ne]; omega
        have hback : (convert 39 9 (.slice (some ⟨wr.heap.size, 0, none⟩) 1 1)).run Tryd.prog (wr.alloc (.cells #[.int .u8 (c.toNat : Int)] 5)) = .ok (.string ⟨#[c]⟩) (wr.alloc (.cells #[.int .u8 (c.toNat : Int)] 5)) := lxBack (byte_own wr c)
        have hsn := vB_snoc V c
        have hsz := vB_size V
        clear g1 g2 g3 g4 g5 g6 g7 g8 g9 HR HBL
        go_wp2
        go_roundw
        case rel => exact ⟨k + 1, V ++ [c], by omega, by omega, rfl, by go_num, HN.out, HBN.out _⟩
        case measure => simp only [intOf]; go_num
      · have HN : Hid (ValR (k + 1) V) := HR.out.skip
        have hbad : ¬ 32 < c.toNat ∨ c.toNat = 34 ∨ c.toNat = 39 ∨ c.toNat = 38 ∨ c.toNat = 60 ∨ c.toNat = 62 ∨ c.toNat = 61 ∨ c.toNat = 96 ∨ c.toNat = 127 := by omega
        clear hok HR
        rcases hbad with hx | hx | hx | hx | hx | hx | hx | hx | hx
        · have i1 : ¬ (32 : Int) < (c.toNat : Int) := by omega
          clear hx
          go_wp2
          go_roundw
          case rel => exact ⟨k + 1, V, by omega, by omega, rfl, by go_num, HN.out, HBL.out⟩
          case measure => simp only [intOf]; go_num
        · have hm2 : bits .and .u8 (s[k].toNat : Int) 127 = 34 := by rw [hmask, hx]; rfl
          clear hmask hx
          go_wp2
          go_roundw
          case rel => exact ⟨k + 1, V, by omega, by omega, rfl, by go_num, HN.out, HBL.out⟩
          case measure => simp only [intOf]; go_num
        · have hm2 : bits .and .u8 (s[k].toNat : Int) 127 = 39 := by rw [hmask, hx]; rfl
          clear hmask hx
          go_wp2
          go_roundw
          case rel => exact ⟨k + 1, V, by omega, by omega, rfl, by go_num, HN.out, HBL.out⟩
          case measure => simp only [intOf]; go_num
        · have hm2 : bits .and .u8 (s[k].toNat : Int) 127 = 38 := by rw [hmask, hx]; rfl
          clear hmask hx
          go_wp2
          go_roundw
          case rel => exact ⟨k + 1, V, by omega, by omega, rfl, by go_num, HN.out, HBL.out⟩
          case measure => simp only [intOf]; go_num
        · have hm2 : bits .and .u8 (s[k].toNat : Int) 127 = 60 := by rw [hmask, hx]; rfl
          clear hmask hx
          go_wp2
          go_roundw
          case rel => exact ⟨k + 1, V, by omega, by omega, rfl, by go_num, HN.out, HBL.out⟩
          case measure => simp only [intOf]; go_num
        · have hm2 : bits .and .u8 (s[k].toNat : Int) 127 = 62 := by rw [hmask, hx]; rfl
          clear hmask hx
          go_wp2
          go_roundw
          case rel => exact ⟨k + 1, V, by omega, by omega, rfl, by go_num, HN.out, HBL.out⟩
          case measure => simp only [intOf]; go_num
        · have hm2 : bits .and .u8 (s[k].toNat : Int) 127 = 61 := by rw [hmask, hx]; rfl
          clear hmask hx
          go_wp2
          go_roundw
          case rel => exact ⟨k + 1, V, by omega, by omega, rfl, by go_num, HN.out, HBL.out⟩
          case measure => simp only [intOf]; go_num
        · have hm2 : bits .and .u8 (s[k].toNat : Int) 127 = 96 := by rw [hmask, hx]; rfl
          clear hmask hx
          go_wp2
          go_roundw
          case rel => exact ⟨k + 1, V, by omega, by omega, rfl, by go_num, HN.out, HBL.out⟩
          case measure => simp only [intOf]; go_num
        · have hm2 : bits .and .u8 (s[k].toNat : Int) 127 = 127 := by rw [hmask, hx]; rfl
          clear hmask hx
          go_wp2
          go_roundw
          case rel => exact ⟨k + 1, V, by omega, by omega, rfl, by go_num, HN.out, HBL.out⟩
          case measure => simp only [intOf]; go_num
    · have hV60 : V.length ≤ 60 := by omega
      have e1 := cat_q 34 V
      have e2 := cat_q 39 V
      have e3 := cat_u V
      have hsz := vB_size V
      clear hR hbel hlen
      rcases (show ¬ k < s.size ∨ (k < s.size ∧ ¬ k < 60) by omega) with i1 | ⟨i1, i2⟩
      all_goals
        clear hin
        try have id1 : decide ((k : Int) < 60) = false := by simp; omega
        try have id2 : decide (k < 60) = false := by simp; omega
        go_wp2
        have HQ : Hid (QSt w wr.heap.size V (wr.alloc (.cells #[.string (vB (qText 34 V)), .string (vB (qText 39 V)), .string (vB (uText V))] 9))) := by
          refine ⟨HBL.out.alloc HBL.out.size _, fun j T hT => ?_⟩
          match j, hT with
          | 0, hT => obtain rfl := Option.some.inj hT; exact World.cell?_alloc_at _ _ _ 0 rfl
          | 1, hT => obtain rfl := Option.some.inj hT; exact World.cell?_alloc_at _ _ _ 1 rfl
          | 2, hT => obtain rfl := Option.some.inj hT; exact World.cell?_alloc_at _ _ _ 2 rfl
        have hVC : ∀ c ∈ V, ValC c := HR.out.all
        have HVC : Hid _ := hVC
        clear HBL HR e1 e2 e3 hVC
        generalize wr.heap.size = b3 at *
        generalize wr.alloc (.cells #[.string (vB (qText 34 V)), .string (vB (qText 39 V)), .string (vB (uText V))] 9) = wz at *
        go_loopw [79] (fun i wq => ∃ j : Nat, j ≤ 3 ∧ i = .int .i64 j ∧ QSt w b3 V wq) (fun i _ => 3 - (intOf i).toNat)
        case atStart => exact ⟨0, by omega, rfl, HQ.out⟩
        case round =>
          clear HQ
          obtain ⟨j, hj, rfl, hQ⟩ := hrel
          by_cases hlt : j < 3
          · obtain ⟨T, hT⟩ : ∃ T, (textsOf V)[j]? = some T := ⟨(textsOf V)[j], List.getElem?_eq_getElem (by show j < 3; exact hlt)⟩
            have cT := hQ.tx j T hT
            have hjI : (j : Int) < 3 := by omega
            by_cases hskip : V = [] ∧ j = 2
            · obtain ⟨rfl, rfl⟩ := hskip
              obtain rfl := Option.some.inj hT
              have q1 : ((vB []).toList == []) = true := by rw [vB_list]; rfl
              have q2 : ((vB (uText [])).toList == [60, 112, 32, 97, 61, 62]) = true := by rw [vB_list]; rfl
              have HQ : Hid _ := hQ
              clear hQ hT
              go_wp2
              go_roundw
              case rel => exact ⟨3, by omega, rfl, HQ.out⟩
              case measure => simp only [intOf]; go_num
            · have hIs : IsText T V := by
                rcases (show j = 0 ∨ j = 1 ∨ j = 2 by omega) with rfl | rfl | rfl
                · exact .inl (Option.some.inj hT).symm
                · exact .inr (.inl (Option.some.inj hT).symm)
                · exact .inr (.inr ⟨(Option.some.inj hT).symm, fun e => hskip ⟨e, rfl⟩⟩)
              have hTl : T.length ≤ 68 ∧ T ≠ [] := by
                rcases hIs with rfl | rfl | ⟨rfl, _⟩
                · exact ⟨by rw [qText_len]; omega, fun e => by simp [qText] at e⟩
                · exact ⟨by rw [qText_len]; omega, fun e => by simp [qText] at e⟩
                · exact ⟨by rw [uText_len]; omega, fun e => by simp [uText] at e⟩
              have hcond : (((vB V).toList == []) = true ∧ ((vB T).toList == [60, 112, 32, 97, 61, 62]) = false) ∨ ((vB V).toList == []) = false := by
                rw [vB_list, vB_list]
                by_cases hV0 : V = []
                · subst hV0
                  refine .inl ⟨rfl, ?_⟩
                  rcases hIs with rfl | rfl | ⟨_, h⟩
                  · rfl
                  · rfl
                  · exact absurd rfl h
                · refine .inr ?_
                  simpa using hV0
              obtain ⟨hT68, hT0⟩ := hTl
              have hTs := vB_size T
              have HIS : Hid _ := hIs
              have HT0 : Hid _ := hT0
              have HQ : Hid _ := hQ
              clear hQ hT hIs hskip hT0
              generalize wr = wq at *
              have HVB : Hid ((vB T).data.toList = T) := by show _ = _; simp [vB]
              generalize vB T = tb at *
              rcases hcond with ⟨q1, q2⟩ | q1
              all_goals
                go_wp2_with fail
                refine Calls.mono (lexNew_any wq) ?_
                rintro e w4 ⟨rfl, hw4⟩
                have HQ4 : Hid (QRow wq w4 w4.heap.size wq.heap.size 0 T (.slice none 0 0)) := by
                  have h2 : w4.heap.size = wq.heap.size + 1 := by rw [hw4]; simp
                  refine ⟨World.ownsRow_nil _ _ _ _, by rw [hw4]; exact lexNew_at wq _, by rw [hw4]; exact (Below.refl _ _).alloc (Nat.le_refl _) _, Nat.le_refl _, by omega, Nat.le_refl _⟩
                clear hw4 cT
                generalize w4.heap.size = B at HQ4
                generalize hll : wq.heap.size = l at *
                go_wp2
                go_loopw [9, 10] (fun v i wx => ∃ m : Nat, m ≤ T.length ∧ i = .int .i64 m ∧ QRow wq wx B l m T v) (fun _ i _ => T.length - (intOf i).toNat)
                case atStart => exact ⟨0, by omega, rfl, HQ4.out⟩
                case round =>
                  clear HQ4
                  obtain ⟨m, hm, rfl, hR⟩ := hrel
                  have HRW : Hid _ := hR
                  by_cases hmt : m < T.length
                  · have hmt2 : m < tb.size := by rw [hTs]; exact hmt
                    have HGM : Hid (tb[m] = T[m]) := byte_of tb T HVB.out m hmt2 hmt
                    have hwr : wrap64 (tb[m].toNat : Int) = (tb[m].toNat : Int) := by have := tb[m].toNat_lt; unfold wrap64; omega
                    have HLN : Hid ((rsOf (T.take m)).length ≤ 500) := by show _ ≤ _; rw [rsOf_len, List.length_take]; omega
                    have HBW : Hid (∀ o, Below wr.heap.size wr (wr.alloc o)) := fun o => (Below.refl _ _).alloc (Nat.le_refl _) o
                    have hBL := hR.BL
                    clear hR
                    go_wp2_with (at_builtin; refine wpList_append_own _ rfl _ _ 25 rfl B 27 i0 (.agg #[.int .i64 0, .int .i64 0]) 2 16 Tryd.underlying25 hi hy0 hy1 hy2 rfl (by decide) _ _ _ rfl (own_below HRW.out.own (HBW.out _)) ⟨wr.heap.size, 0, none⟩ 1 1 (runeC ((tb[m].toNat : Int), (m : Int))) rfl rfl (news_cells _ #[.int .i64 (tb[m].toNat : Int), .int .i64 (m : Int)] _ _ rfl) (by intro u hu; simp [runeC] at hu; rcases hu with rfl | rfl <;> rfl) (by have := HLN.out; unfold maxLen; omega) (by have := HLN.out; omega) (by simp; omega) ?_)
                    intro v' w' hown' hgrow _
                    rw [HGM.out] at hown'
                    have HN : Hid (QRow wq w' B l (m + 1) T v') := HRW.out.next (HBW.out _) hmt hown' hgrow
                    clear hown' hgrow
                    go_wp2
                    go_roundw
                    case rel => exact ⟨m + 1, by omega, by go_num, HN.out⟩
                    case measure => simp only [intOf]; go_num
                  · obtain rfl : m = T.length := by omega
                    obtain ⟨va, vcap, hve⟩ := own_head hR.own
                    subst hve
                    have hO := hR.own
                    rw [List.take_length] at hO
                    have hnil : rsOf T = [] → Value.slice va (rsOf T).length vcap = .slice none 0 0 := fun e => by
                      have h2 : T.length = 0 := by rw [← rsOf_len, e]; rfl
                      exact absurd (List.length_eq_zero_iff.1 h2) HT0.out
                    have hPA := put_any B l vcap va lx0 (rsOf T) wr (fresh_of 0 _) hR.lex hO hnil (by rw [rsOf_len]; omega)
                    have HRD : Hid (∀ w5, PutS l lx0 (rsOf T) wr w5 → _) := fun w5 h5 => ready_of l T wr w5 HT0.out h5
                    rw [List.take_length] at *
                    have HPA : Hid _ := hPA
                    have HBQ : Hid (Below wq.heap.size wq wr ∧ wq.heap.size ≤ l) := ⟨hR.bel, hR.wl⟩
                    clear hPA hO hR HRW hnil
                    go_wp2_with fail
                    refine Calls.mono HPA.out ?_
                    rintro e w5 ⟨rfl, hP5⟩
                    have HC5 : Hid _ := HRD.out w5 hP5
                    clear HPA HRD hP5
                    go_wp2_with fail
                    refine Calls.mono HC5.out ?_
                    rintro e w6 ⟨rfl, hR6⟩
                    obtain ⟨⟨g, cap, hL6, hlg, hg6, hcap, hsc⟩, hb6⟩ := hR6.out
                    have HN6 : Hid _ := text_next l g cap T V HIS.out HVC.out hV60 w6 hL6 hlg hg6 hcap hsc
                    have HB6 : Hid (Below wq.heap.size wq w6) := HBQ.out.1.trans ((hb6.mono HBQ.out.1.size).below HBQ.out.2)
                    clear HC5 hR6 hL6 hsc hb6 hlg hg6 hcap
                    go_wp2_with fail
                    refine Calls.mono HN6.out ?_
                    rintro e w7 ⟨t, rfl, hP7⟩
                    obtain ⟨b, cp, rfl, h71⟩ := hP7.tok
                    have HW7 : Hid (∀ o, _) := fun o => hP7.wrong (w'' := w7.alloc o) ((Below.refl _ _).alloc (Nat.le_refl _) o)
                    have HB7 : Hid (∀ o, Below wq.heap.size wq (w7.alloc o)) := fun o => by
                      have h := HB6.out.trans ((hP7.but.mono HB6.out.size).below HBQ.out.2)
                      exact h.alloc h.size o
                    have d71 : ∀ o, (w7.alloc o).cell? ⟨b, 1, none⟩ = some (.string (vB V)) := fun o => (World.cell?_of_block (a := ⟨b, 1, none⟩) (heap_alloc_old w7 o (World.block_lt_of_cell? w7 _ h71))).trans h71
                    clear HN6 HB6 hP7 h71
                    unfold tokV pTok tok0
                    go_wp2_with fail
                    refine Calls.mono (HW7.out _) ?_
                    rintro e w8 ⟨rfl, hb8⟩
                    have HQ8 : Hid (QSt w b3 V w8) := HQ.out.below ((HB7.out _).trans ((hb8.mono (HB7.out _).size).below HBQ.out.2))
                    clear hb8 HB7 HW7 d71
                    go_wp2
                    go_roundw
                    case rel => exact ⟨j + 1, by omega, by go_num, HQ8.out⟩
                    case measure => simp only [intOf]; go_num
          · obtain rfl : j = 3 := by omega
            have HB : Hid _ := hQ.bel
            clear hQ
            go_wp2
            go_ret
            exact ⟨rfl, HB.out⟩
end Go.Proofs.YtbdfdipeefeajaaDoor
