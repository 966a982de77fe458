/-
  The run over a plain text: two rounds.
-/
import Derived.Test.YtgdjknbbjpcoiaaGreatDoorLtState
import Derived.Deep.LoopGhost
namespace Go.Proofs.YtgdjknbbjpcoiaaGreatDoor
open Go.RowKit

/-- Ahead of the first round. -/
structure Lt0 (w : World) (d lb l : Nat) (wr : World) : Prop where
  dec : DecAt wr d (atP 0)
  c : wr.cell? ⟨lb, 0, none⟩ = some (.bool false)
  f : wr.frozen? ⟨lb, 0, none⟩ = false
  lex : LexAt wr l lx0.cells
  win : IsWin wr
  size : wr.heap.size = l + 1
  bel : Below w.heap.size w wr

/-- Ahead of the second round. -/
structure Lt1 (w : World) (d l : Nat) (rs : List (Int × Int)) (v : Value) (wr : World) : Prop where
  dec : ∃ p, DecAt wr d (atP p)
  lex : WaitAt l lx0 wr
  own : ∃ B, l < B ∧ B ≤ wr.heap.size ∧ wr.ownsRow B 41 8 v rs.length (txC rs)
  bel : Below w.heap.size w wr

/-- The tokens' row in the second round. -/
structure LtC (w : World) (l B n : Nat) (xs : List Value) (v : Value) (wr : World) : Prop where
  own : wr.ownsRow B 41 8 v n xs
  lB : l < B
  BL : B ≤ wr.heap.size
  wl : w.heap.size ≤ l
  bel : Below w.heap.size w wr
theorem LtC.but {w wr w' : World} {l B n : Nat} {xs : List Value} {v : Value} (h : LtC w l B n xs v wr) (hb : But l wr.heap.size wr w') : LtC w l B n xs v w' := by
  have hlB := h.lB
  refine ⟨own_but2 h.own hb (fun g hg => ?_), h.lB, Nat.le_trans h.BL hb.size, h.wl, h.bel.trans ((hb.mono h.bel.size).below h.wl)⟩
  have h1 := own_lt2 h.own g hg
  exact ⟨h1.2, by omega⟩
theorem LtC.below {w wr w' : World} {l B n : Nat} {xs : List Value} {v : Value} (h : LtC w l B n xs v wr) (hb : Below wr.heap.size wr w') : LtC w l B n xs v w' := h.but (But.of hb)
theorem LtC.put {w wr w' : World} {l B n : Nat} {xs ys : List Value} {v v' : Value} (h : LtC w l B n xs v wr) (hown : w'.ownsRow B 41 8 v' (n + 1) (xs ++ ys)) (hgrow : wr.grownBy w' v.ownBlock) : LtC w l B (n + 1) (xs ++ ys) v' w' := by
  have hlB := h.lB
  have hwl := h.wl
  have hBL := h.BL
  exact ⟨hown, h.lB, Nat.le_trans h.BL hgrow.size, h.wl, h.bel.grown hgrow h.bel.size (fun k e => by have := own_block_ge h.own k e; omega)⟩
theorem LtC.lex {w wr w' : World} {l B n : Nat} {xs : List Value} {v : Value} {cs : List Value} (h : LtC w l B n xs v wr) (hL : LexAt wr l cs) (hgrow : wr.grownBy w' v.ownBlock) : LexAt w' l cs := by
  have hlB := h.lB
  have hBL := h.BL
  exact hL.grown hgrow hL.ne_of (fun e => by have := own_block_ge h.own l e.symm; omega)
/-- The lexer that told the end. -/
structure OverAt (l : Nat) (wr : World) : Prop where
  out : ∃ y : Lx, y.wrong = .slice none 0 0 ∧ y.ov = true ∧ LexAt wr l y.cells
/-- The lexer that waits, and is closed. -/
structure ShutAt (l : Nat) (wr : World) : Prop where
  out : ∃ ad cap, ((ad = none ∧ cap = 0) ∨ ∃ g o, ad = some ⟨g, o, none⟩) ∧ LexAt wr l (enX (.slice ad 0 cap) false (stF 39) tok0 { lx0 with en := 1073741824 }).cells

/-- Behind both. -/
structure Lt2 (w : World) (rs : List (Int × Int)) (v : Value) (wr : World) : Prop where
  own : wr.ownsRow w.heap.size 41 8 v (rs.length + 1) (txC rs ++ txE)
  bel : Below w.heap.size w wr

/-- The bytes that begin nothing. -/
structure PlainB (b : UInt8) : Prop where
  lt : b.toNat < 128
  h0 : ¬ b.toNat = 0
  h60 : ¬ b.toNat = 60
  h38 : ¬ b.toNat = 38
  h13 : ¬ b.toNat = 13

theorem rs_all (l : List UInt8) (h : ∀ b ∈ l, PlainB b) : (∀ (i : Nat) (c a : Int), (rsOf 0 l)[i]? = some (c, a) → a = (i : Int) ∧ PlainC c) ∧ ∀ r ∈ rsOf 0 l, ¬ r.1 = 13 := by
  have key : ∀ (i : Nat) (c a : Int), (rsOf 0 l)[i]? = some (c, a) → ∃ b, b ∈ l ∧ c = (b.toNat : Int) ∧ a = (i : Int) := by
    intro i c a hi
    have hlt := (List.getElem?_eq_some_iff.1 hi).1
    rw [rsOf_len] at hlt
    have hb : l[i]? = some l[i] := List.getElem?_eq_getElem hlt
    have h2 := rsOf_at l 0 i l[i] hb
    rw [hi] at h2
    simp only [Option.some.injEq, Prod.mk.injEq] at h2
    exact ⟨l[i], List.getElem_mem hlt, h2.1, by rw [h2.2]; omega⟩
  refine ⟨fun i c a hi => ?_, fun r hr => ?_⟩
  · obtain ⟨b, hb, rfl, rfl⟩ := key i c a hi
    have hp := h b hb
    have h1 := hp.h0
    have h2 := hp.h60
    have h3 := hp.h38
    exact ⟨rfl, ⟨by omega, by omega, by omega⟩⟩
  · obtain ⟨i, hi⟩ := List.mem_iff_getElem?.1 hr
    obtain ⟨c, a⟩ := r
    obtain ⟨b, hb, rfl, rfl⟩ := key i c a hi
    have h4 := (h b hb).h13
    show ¬ (b.toNat : Int) = 13
    omega

theorem DecAt.but {w w' : World} {d e B : Nat} {D : DSt} (h : DecAt w d D) (hb : But e B w w') (hd : d < B) (hne : d ≠ e) : DecAt w' d D := by
  have key := hb.block d hd hne
  have kc : ∀ j, w'.cell? ⟨d, j, none⟩ = w.cell? ⟨d, j, none⟩ := fun j => World.cell?_of_block (a := ⟨d, j, none⟩) key
  exact ⟨(kc 0).trans h.c0, (kc 1).trans h.c1, (kc 2).trans h.c2, (kc 3).trans h.c3, (kc 4).trans h.c4, (kc 5).trans h.c5, (kc 6).trans h.c6, fun j => (World.frozen?_of_block (a := ⟨d, j, none⟩) key).trans (h.f j)⟩

set_option maxRecDepth 100000 in
set_option maxHeartbeats 4000000 in
theorem lexed_plain (s : ByteArray) (w : World) (hW : IsWin w) (hs : s.size ≤ 5000) (hall : ∀ b ∈ s.data.toList, PlainB b) :
    Calls Tryz.prog 11 #[.string s, .slice none 0 0] w fun e w' => ∃ v, e = .returned (.tuple #[v, .slice none 0 0]) ∧ Hid (Lt2 w (rsOf 0 s.data.toList) v w') := by
  obtain ⟨i0, hi, hy0, hy1, hy2⟩ := info_parts Tryz.infoTok
  obtain ⟨i1, hi1, hz0, hz1, hz2⟩ := info_parts Tryz.infoDiag2
  have HALL : Hid _ := rs_all s.data.toList hall
  have HPL : Hid _ := feed_plain s.data.toList 0 (fun b hb => (hall b hb).lt)
  have HLEN : Hid ((rsOf 0 s.data.toList).length = s.size) := by
    show _ = _
    rw [rsOf_len]
    simp
  have HW : Hid _ := hW
  have HWL : Hid _ := iswin_lt hW
  clear hW hall
  generalize rsOf 0 s.data.toList = rs at *
  go_enter Tryz.func11, Tryz.ntmps11
  go_wp2_with fail
  refine Calls.mono (new_any 1 0 w) ?_
  rintro e w1 ⟨rfl, hD1, hb1, hz⟩
  have HD1 : Hid _ := hD1
  have HB1 : Hid _ := hb1
  have HZ1 : Hid (w1.heap.size = w.heap.size + 1) := hz
  clear hD1 hb1 hz
  go_wp2_with fail
  refine Calls.mono (lexNew_any _) ?_
  rintro e w2 ⟨rfl, hw2⟩
  have HS0 : Hid (Lt0 w w.heap.size w1.heap.size (w1.heap.size + 1) w2) := by
    have hz := HZ1.out
    have hzz : (w1.alloc (.cells #[.bool false] 77)).heap.size = w1.heap.size + 1 := by simp
    have hB2 : Below w1.heap.size w1 (w1.alloc (.cells #[.bool false] 77)) := (Below.refl _ _).alloc (Nat.le_refl _) _
    have hB3 : Below (w1.heap.size + 1) (w1.alloc (.cells #[.bool false] 77)) w2 := by
      rw [hw2]
      exact (Below.refl _ _).alloc (by omega) _
    have hbel : Below w.heap.size w w2 := (HB1.out.trans (hB2.mono (by omega))).trans (hB3.mono (by omega))
    refine ⟨(HD1.out.below hB2 (by omega)).below hB3 (by omega), ?_, ?_, ?_, iswin_below HW.out hbel (Nat.le_refl _), ?_, hbel⟩
    · exact (hB3.cell (p := ⟨w1.heap.size, 0, none⟩) (Nat.lt_succ_self _)).trans (World.cell?_alloc_at _ _ _ 0 rfl)
    · exact (hB3.frozen (p := ⟨w1.heap.size, 0, none⟩) (Nat.lt_succ_self _)).trans (World.frozen?_alloc_at _ _ _ 0 rfl)
    · have h := lexNew_at (w1.alloc (.cells #[.bool false] 77)) 100
      rw [hzz, ← hw2] at h
      exact h
    · rw [hw2]; simp
  have hdl : w.heap.size < w1.heap.size := by have := HZ1.out; omega
  have hll : w1.heap.size < w1.heap.size + 1 := Nat.lt_succ_self _
  have HZL : Hid (w1.heap.size + 1 = w.heap.size + 2) := by show _ = _; have := HZ1.out; omega
  clear HW HB1 HD1 hw2 HZ1
  go_wp2
  generalize w1.heap.size + 1 = l at *
  generalize w1.heap.size = lb at *
  go_loopg [0, 9, 10, 11] 2 (fun k s' v b i wr => b = .slice none 0 0 ∧ ((k = 2 ∧ s' = .string s ∧ v = .slice none 0 0 ∧ i = .int .i64 0 ∧ Hid (Lt0 w w.heap.size lb l wr)) ∨ (k = 1 ∧ (∃ s2, s' = .string s2) ∧ i = .int .i64 1 ∧ Hid (Lt1 w w.heap.size l rs v wr)) ∨ (k = 0 ∧ (∃ s2, s' = .string s2) ∧ i = .int .i64 2 ∧ Hid (Lt2 w rs v wr))))
  case atStart => exact ⟨rfl, .inl ⟨rfl, rfl, rfl, rfl, HS0⟩⟩
  case round =>
    clear HS0
    obtain ⟨rfl, hrel⟩ := hrel
    rcases hrel with ⟨rfl, rfl, rfl, rfl, hS⟩ | ⟨rfl, ⟨s2, rfl⟩, rfl, hS⟩ | ⟨rfl, ⟨s2, rfl⟩, rfl, hS⟩
    · have HF : Hid _ := feed_any w.heap.size (atP 0) s wr hS.out.dec (by have := hS.out.size; omega) hS.out.win (by have := HWL.out; omega) (.inl rfl) (by omega) (by decide) (by decide)
      have HSL : Hid (∀ {W : World}, wr.heap.size = l + 1) := fun {_} => hS.out.size
      have HD : Hid _ := hS.out
      go_wp2_with fail
      refine Calls.mono HF.out ?_
      rintro e wf ⟨vr, vw, rfl, hGr, _, hGd, hGb⟩
      rw [HPL.out.1] at hGr
      rw [HPL.out.2] at hGd
      have HP : Hid _ := pass_txt lb (wr.heap.size + 1) vr rs wf ((World.cell?_of_block (a := ⟨lb, 0, none⟩) (hGb.block lb (by have := HD.out.size; omega) (by omega))).trans HD.out.c) ((World.frozen?_of_block (a := ⟨lb, 0, none⟩) (hGb.block lb (by have := HD.out.size; omega) (by omega))).trans HD.out.f) (by have := HD.out.size; have := hGb.size; omega) (by have := HLEN.out; omega) hGr (fun g hg => by have := own_block_ge hGr g hg; have := HD.out.size; omega) HALL.out.2
      have HDF : Hid (DecAt wf w.heap.size (atP (0 + (s.data.toList.length : Int))) ∧ LexAt wf l lx0.cells ∧ Below w.heap.size w wf ∧ l < wf.heap.size) := by
        have h1 := HD.out.size
        have h2 := hGb.size
        exact ⟨hGd, HD.out.lex.but hGb (by omega) (by omega), HD.out.bel.trans ((hGb.mono (by omega)).below (Nat.le_refl _)), by omega⟩
      clear hGr hGd hGb HF HD hS
      go_wp2_with fail
      refine Calls.mono HP.out ?_
      rintro e wp ⟨va, vcap, rfl, hPo, _, _, hPb, hPn⟩
      have HQ : Hid _ := put_txt l wf.heap.size vcap va rs wp (HDF.out.2.1.but hPb HDF.out.2.2.2 (by omega)) hPo hPn (by have := HLEN.out; omega) HALL.out.1
      have HDP : Hid (DecAt wp w.heap.size (atP (0 + (s.data.toList.length : Int))) ∧ Below w.heap.size w wp ∧ l < wp.heap.size) := by
        have h1 := HDF.out.2.2.2
        have h2 := hPb.size
        exact ⟨HDF.out.1.but hPb (by omega) (by omega), HDF.out.2.2.1.trans ((hPb.mono (by omega)).below (by omega)), by omega⟩
      clear hPo hPb hPn HP HDF
      go_wp2_with fail
      refine Calls.mono HQ.out ?_
      rintro e wq ⟨rfl, hQ⟩
      have HIN : Hid _ := hQ.out.1
      have HDQ : Hid (DecAt wq w.heap.size (atP (0 + (s.data.toList.length : Int))) ∧ Below w.heap.size w wq ∧ l < wq.heap.size) := by
        have h0 := HDP.out.2.2
        have hb := hQ.out.2
        have h2 := hb.size
        exact ⟨HDP.out.1.but hb (by omega) (by omega), HDP.out.2.1.trans ((hb.mono (by omega)).below (by omega)), by omega⟩
      clear hQ HQ HDP
      go_wp2
      go_loopg [9] rs.length (fun r v wi => ∃ k, k + r = rs.length ∧ Hid (LtIn wq l wq.heap.size lx0 rs k v wi))
      case atStart => exact ⟨0, by omega, HIN⟩
      case round =>
        clear HIN
        obtain ⟨k, hkr, hI⟩ := hrel
        cases gk with
        | zero =>
          obtain rfl : k = rs.length := by omega
          have HN : Hid _ := hI.out.wait rfl
          clear hI
          go_wp2_with fail
          refine Calls.mono HN.out ?_
          rintro e w6 ⟨rfl, hw6⟩
          have HWW : Hid (∀ o, _) := fun o => (hw6.out.below ((Below.refl w6.heap.size w6).alloc (Nat.le_refl _) o)).wrong rfl
          clear HN hw6
          unfold tokV tok0
          go_wp2_with fail
          refine Calls.mono (HWW.out _) ?_
          rintro e w7 ⟨rfl, hw7⟩
          have HS1 : Hid (Lt1 w w.heap.size l rs u9 w7) := by
            have h := hw7.out
            have h1 := HDQ.out
            exact ⟨⟨_, h1.1.but h.but (by omega) (by omega)⟩, h.lex, ⟨wq.heap.size, h.lB, h.BL, h.own⟩, h1.2.1.trans ((h.but.mono (by omega)).below (by omega))⟩
          clear hw7 HWW HDQ
          go_wp2_with (at_builtin; refine wpList_append_own_none rfl _ _ 30 rfl w.heap.size 49 i1 3 Tryz.underlying30 hi1 (.slice none 0 0) 0 [] rfl (World.ownsRow_nil _ _ _ _) rfl ?_)
          go_wp2
          go_roundg 1
          case measure => omega
          case rel => exact ⟨rfl, .inr (.inl ⟨rfl, ⟨_, rfl⟩, rfl, HS1⟩)⟩
        | succ r =>
          obtain ⟨⟨c, a⟩, hca⟩ : ∃ r, rs[k]? = some r := ⟨rs[k]'(by omega), List.getElem?_eq_getElem _⟩
          have HN : Hid _ := hI.out.next hca
          clear hI
          go_wp2_with fail
          refine Calls.mono HN.out ?_
          rintro e w6 ⟨rfl, hM⟩
          clear HN hca
          have HM2 : Hid (∀ o o2, LtMid wq l wq.heap.size lx0 rs k u9 (c, a) ((w6.alloc o).alloc o2)) := fun o o2 => (hM.out.below ((Below.refl w6.heap.size w6).alloc (Nat.le_refl _) o)).below ((Below.refl _ _).alloc (Nat.le_refl _) o2)
          have hob : ∀ g, u9.ownBlock = some g → g < w6.heap.size := fun g hg => (own_lt2 hM.out.own g hg).2
          have hkl : k ≤ 5000 := by have := HLEN.out; omega
          have hql : wq.heap.size ≤ w6.heap.size := hM.out.BL
          clear hM
          unfold txT tokV tok0
          go_wp2_with (at_builtin; refine wpList_append_own _ rfl _ _ 29 rfl wq.heap.size 41 i0 (.agg #[.int .i64 0, .int .i64 0, .int .i64 0, .string ⟨#[]⟩, .string ⟨#[]⟩, .slice none 0 0, .bool false, .bool false]) 8 88 Tryz.underlying29 hi hy0 hy1 hy2 rfl (by decide) _ _ _ rfl (HM2.out _ _).own ⟨w6.heap.size + 1, 0, none⟩ 1 1 (tokC (txT (c, a))) rfl rfl (news_cells _ #[.int .i64 1, .int .i64 c, .int .i64 a, .string ⟨#[]⟩, .string ⟨#[]⟩, .slice none 0 0, .bool false, .bool false] _ _ (by simp)) (tokC_one _) (by unfold maxLen; omega) (by omega) (by simp; omega) ?_)
          intro v' w' hown' hgrow _
          have HI2 : Hid (LtIn wq l wq.heap.size lx0 rs (k + 1) v' w') := (HM2.out _ _).put hown' hgrow
          have ct : w'.cell? ⟨w6.heap.size, 0, none⟩ = some (.int .i64 1) := by
            refine (World.cell?_of_block (a := ⟨w6.heap.size, 0, none⟩) (hgrow.block _ (by simp; omega) (fun e => absurd (hob w6.heap.size e.symm) (Nat.lt_irrefl _)))).trans ?_
            have hz6 : ∀ o, w6.heap.size < (w6.alloc o).heap.size := fun o => by simp
            exact (((Below.refl _ _).alloc (Nat.le_refl _) _ : Below (w6.alloc _).heap.size (w6.alloc _) _).cell (p := ⟨w6.heap.size, 0, none⟩) (hz6 _)).trans (World.cell?_alloc_at _ _ _ 0 rfl)
          clear hown' hgrow HM2 hob
          go_wp2
          go_roundg r
          case measure => omega
          case rel => exact ⟨k + 1, by omega, HI2⟩
    · obtain ⟨p, hdec⟩ := hS.out.dec
      obtain ⟨ad, cap, had, hlx⟩ := hS.out.lex.out
      obtain ⟨B, hlB, hBL, hown⟩ := hS.out.own
      have hl := hlx.ne_of
      have HC : Hid (LtC w l B rs.length (txC rs) u9 wr ∧ LexAt wr l { lx0 with runes := .slice ad 0 cap, st := stF 39 }.cells) := ⟨⟨hown, hlB, hBL, by omega, hS.out.bel⟩, hlx⟩
      have HE : Hid _ := end_none w.heap.size (atP p) wr hdec (by omega) rfl
      clear hS hdec hlx hown hBL
      go_wp2_with fail
      refine Calls.mono HE.out ?_
      rintro e we ⟨rfl, hbe⟩
      have HC2 : Hid (LtC w l B rs.length (txC rs) u9 we ∧ LexAt we l { lx0 with runes := .slice ad 0 cap, st := stF 39 }.cells) := ⟨HC.out.1.below hbe, HC.out.2.below hbe HC.out.2.ne_of⟩
      clear HC HE hbe
      go_wp2_with fail
      refine Calls.mono (pass_zero lb 0 none we) ?_
      rintro e wp ⟨rfl, hbp⟩
      have HC3 : Hid (LtC w l B rs.length (txC rs) u9 wp ∧ LexAt wp l { lx0 with runes := .slice ad 0 cap, st := stF 39 }.cells) := ⟨HC2.out.1.below hbp, HC2.out.2.below hbp HC2.out.2.ne_of⟩
      clear HC2 hbp
      go_wp2_with fail
      refine Calls.mono (put_zero l ad cap _ wp HC3.out.2 rfl had rfl) ?_
      rintro e wq ⟨rfl, hLq, hbq⟩
      have HC4 : Hid (LtC w l B rs.length (txC rs) u9 wq) := HC3.out.1.but hbq
      have HCL : Hid _ := close_new l 1073741824 _ wq hLq rfl
      clear HC3 hLq hbq
      go_wp2_with fail
      refine Calls.mono HCL.out ?_
      rintro e wc ⟨rfl, hLc, hbc⟩
      have HC5 : Hid (LtC w l B rs.length (txC rs) u9 wc) := HC4.out.but hbc
      have HSH : Hid (ShutAt l wc) := ⟨ad, cap, had, hLc⟩
      have hlen : rs.length ≤ 5000 := by have := HLEN.out; omega
      clear HC4 HCL hLc hbc had
      go_wp2
      go_loopg [9] 1 (fun k v wi => (k = 1 ∧ Hid (LtC w l B rs.length (txC rs) v wi) ∧ Hid (ShutAt l wi)) ∨ (k = 0 ∧ Hid (LtC w l B (rs.length + 1) (txC rs ++ txE) v wi) ∧ Hid (OverAt l wi)))
      case atStart => exact .inl ⟨rfl, HC5, HSH⟩
      case round =>
        clear HC5 HSH
        rcases hrel with ⟨rfl, hC, hSH⟩ | ⟨rfl, hC, hOV⟩
        · have HN : Hid (Calls Tryz.prog 21 #[.pointer (some ⟨l, 0, none⟩)] wr fun e w' => e = .returned (.tuple #[tokV { tok0 with at' := 1073741824 }, .bool true]) ∧ EndP2 l wr w') := by
            obtain ⟨ad, cap, had, hL⟩ := hSH.out.out
            exact next_endT l ad cap { lx0 with en := 1073741824 } wr hL had
          clear hSH
          go_wp2_with fail
          refine Calls.mono HN.out ?_
          rintro e w6 ⟨rfl, hE⟩
          have hC6 := hC.out.but hE.but
          have HM2 : Hid (∀ o o2, LtC w l B rs.length (txC rs) u9 ((w6.alloc o).alloc o2) ∧ OverAt l ((w6.alloc o).alloc o2)) := fun o o2 => by
            obtain ⟨y, h1, h2, h3⟩ := hE.lex
            have hb1 : Below w6.heap.size w6 (w6.alloc o) := (Below.refl _ _).alloc (Nat.le_refl _) o
            have hb2 : Below (w6.alloc o).heap.size (w6.alloc o) ((w6.alloc o).alloc o2) := (Below.refl _ _).alloc (Nat.le_refl _) o2
            have h4 := h3.below hb1 h3.ne_of
            exact ⟨(hC6.below hb1).below hb2, ⟨y, h1, h2, h4.below hb2 h4.ne_of⟩⟩
          have hob : ∀ g, u9.ownBlock = some g → g < w6.heap.size := fun g hg => (own_lt2 hC6.own g hg).2
          have hql : B ≤ w6.heap.size := hC6.BL
          clear HN hE hC6 hC
          unfold tokV tok0
          go_wp2_with (at_builtin; refine wpList_append_own _ rfl _ _ 29 rfl B 41 i0 (.agg #[.int .i64 0, .int .i64 0, .int .i64 0, .string ⟨#[]⟩, .string ⟨#[]⟩, .slice none 0 0, .bool false, .bool false]) 8 88 Tryz.underlying29 hi hy0 hy1 hy2 rfl (by decide) _ _ _ rfl (HM2.out _ _).1.own ⟨w6.heap.size + 1, 0, none⟩ 1 1 txE rfl rfl (news_cells _ #[.int .i64 0, .int .i64 0, .int .i64 1073741824, .string ⟨#[]⟩, .string ⟨#[]⟩, .slice none 0 0, .bool false, .bool false] _ _ (by simp)) (tokC_one _) (by unfold maxLen; omega) (by omega) (by simp; omega) ?_)
          intro v' w' hown' hgrow _
          have HC7 : Hid (LtC w l B (rs.length + 1) (txC rs ++ txE) v' w') := (HM2.out _ _).1.put hown' hgrow
          have HO7 : Hid (OverAt l w') := by
            obtain ⟨y, h1, h2, h3⟩ := (HM2.out _ _).2.out
            exact ⟨y, h1, h2, (HM2.out _ _).1.lex h3 hgrow⟩
          have ct : w'.cell? ⟨w6.heap.size, 0, none⟩ = some (.int .i64 0) := by
            refine (World.cell?_of_block (a := ⟨w6.heap.size, 0, none⟩) (hgrow.block _ (by simp; omega) (fun e => absurd (hob w6.heap.size e.symm) (Nat.lt_irrefl _)))).trans ?_
            have hz6 : ∀ o, w6.heap.size < (w6.alloc o).heap.size := fun o => by simp
            exact (((Below.refl _ _).alloc (Nat.le_refl _) _ : Below (w6.alloc _).heap.size (w6.alloc _) _).cell (p := ⟨w6.heap.size, 0, none⟩) (hz6 _)).trans (World.cell?_alloc_at _ _ _ 0 rfl)
          clear hown' hgrow HM2 hob
          go_wp2
          go_roundg 0
          case measure => omega
          case rel => exact .inr ⟨rfl, HC7, HO7⟩
        · have HN : Hid (Calls Tryz.prog 21 #[.pointer (some ⟨l, 0, none⟩)] wr fun e w' => e = .returned (.tuple #[tokV tok0, .bool false]) ∧ Below wr.heap.size wr w') := by
            obtain ⟨y, _, h2, h3⟩ := hOV.out.out
            exact next_over l y wr h3 h2
          go_wp2_with fail
          refine Calls.mono HN.out ?_
          rintro e w6 ⟨rfl, hb6⟩
          have HWW : Hid (∀ o, Calls Tryz.prog 32 #[.pointer (some ⟨l, 0, none⟩)] (w6.alloc o) fun e w' => e = .returned (.slice none 0 0) ∧ Hid (Lt2 w rs u9 w')) := fun o => by
            obtain ⟨y, h1, _, h3⟩ := hOV.out.out
            have hb7 : Below w6.heap.size w6 (w6.alloc o) := (Below.refl _ _).alloc (Nat.le_refl _) o
            have h4 := h3.below hb6 h3.ne_of
            refine (wrong_any l y (w6.alloc o) (h4.below hb7 h4.ne_of) h1).mono ?_
            rintro e w' ⟨rfl, _, hb8⟩
            have hC8 := ((hC.out.below hb6).below hb7).but hb8
            have h5 := hC8.wl
            have h6 := hC8.lB
            exact ⟨rfl, ⟨own_mono hC8.own (by omega), hC8.bel⟩⟩
          clear HN hb6 hC hOV
          unfold tokV tok0
          go_wp2_with fail
          refine Calls.mono (HWW.out _) ?_
          rintro e w7 ⟨rfl, hw7⟩
          clear HWW
          go_wp2_with (at_builtin; refine wpList_append_own_none rfl _ _ 30 rfl w.heap.size 49 i1 3 Tryz.underlying30 hi1 (.slice none 0 0) 0 [] rfl (World.ownsRow_nil _ _ _ _) rfl ?_)
          go_wp2
          go_roundg 0
          case measure => omega
          case rel => exact ⟨rfl, .inr (.inr ⟨rfl, ⟨_, rfl⟩, rfl, hw7⟩)⟩
    · go_wp2
      go_ret2
      exact ⟨_, rfl, hS⟩
end Go.Proofs.YtgdjknbbjpcoiaaGreatDoor
