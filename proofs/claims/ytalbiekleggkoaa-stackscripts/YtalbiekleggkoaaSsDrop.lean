/-
  A stack: all from a place on taken away and told, the last one first.
-/
import Derived.Test.YtalbiekleggkoaaSsRev
namespace Go.Proofs.Ytalbiekleggkoaa
open Go.RowKit

set_option maxRecDepth 100000 in
theorem reverse_nil (w : World) : Calls Try.prog 70 #[.slice none 0 0] w fun e w' => e = .returned (.tuple #[]) ∧ w' = w := by
  go_enter Try.func70, Try.ntmps70
  go_wp2
  go_loop [2, 3] (fun i j => i = .int .i64 0 ∧ j = .int .i64 (-1)) (fun _ _ => 0)
  case atStart => exact ⟨rfl, rfl⟩
  case round =>
    obtain ⟨rfl, rfl⟩ := hrel
    go_wp2
    go_end0
    exact ⟨rfl, rfl⟩

/-- A row, wherever it lies, turned round. -/
theorem reverse_row (B : Nat) (a : Option Addr) (n cap : Nat) (l : List Itm) (w : World) (hO : w.ownsRow B 31 2 (.slice a n cap) l.length (l.flatMap itmC)) (hn : n = l.length) (hl : n ≤ 1000000) :
    Calls Try.prog 70 #[.slice a n cap] w fun e w' => e = .returned (.tuple #[]) ∧ Hid (w'.ownsRow B 31 2 (.slice a n cap) l.length (l.reverse.flatMap itmC) ∧ Kept (fun k => (Value.slice a n cap).ownBlock = some k) w w') := by
  subst hn
  rcases hO.2 with ⟨hv, h0⟩ | ⟨g, cp, cur, hv, _⟩
  · injection hv with e1 e2 e3
    obtain rfl : l = [] := List.length_eq_zero_iff.1 h0
    subst e1 e3
    refine (reverse_nil w).mono ?_
    rintro e w' ⟨he, rfl⟩
    exact ⟨he, ⟨hO, Kept.refl _ _⟩⟩
  · injection hv with e1 e2 e3
    subst e1 e3
    refine (reverse_any B g l.length cap l w hO rfl hl).mono ?_
    rintro e w' ⟨he, hp⟩
    exact ⟨he, ⟨hp.out.1, hp.out.2.mono (fun k _ e => by rw [e]; rfl)⟩⟩

set_option maxRecDepth 100000 in
set_option maxHeartbeats 2000000 in
theorem del_same (a : Option Addr) (n cap : Nat) (w : World) (hn : n ≤ cap) (hc : cap ≤ maxLen) (h0 : a = none → n = 0 ∧ cap = 0) :
    Calls Try.prog 43 #[.slice a n cap, .int .i64 (n : Int), .int .i64 (n : Int)] w fun e w' => e = .returned (.slice a n cap) ∧ w' = w := by
  have h1 : (n : Int) ≤ (cap : Int) := by omega
  unfold maxLen at hc
  cases a with
  | none =>
    obtain ⟨rfl, rfl⟩ := h0 rfl
    go_enter Try.func43, Try.ntmps43
    go_wp2
    go_ret
    exact ⟨rfl, rfl⟩
  | some a =>
    go_enter Try.func43, Try.ntmps43
    go_wp2
    all_goals
      go_ret
      exact ⟨rfl, rfl⟩

theorem enters_del : ∀ args w, (callFunc 43 args).run Try.prog w = .ok (.enter 43 args) w := enters_of Try.func43 (by kernel_rfl) rfl

/-- The row behind slices.Delete of all from a place on. -/
theorem del_tail (s B i : Nat) (v : Value) (cs : List Itm) (w : World) (h : StackAt w s B v cs) (hi : i ≤ cs.length) (hl : cs.length ≤ 100000) :
    Calls Try.prog 43 #[v, .int .i64 (i : Int), .int .i64 (cs.length : Int)] w fun e w1 => ∃ a' c', e = .returned (.slice a' i c') ∧ Hid (w1.ownsRow B 31 2 (.slice a' i c') i ((cs.take i).flatMap itmC) ∧ Kept (fun k => v.ownBlock = some k) w w1 ∧ (Value.slice a' i c').ownBlock = v.ownBlock) := by
  by_cases hlt : i < cs.length
  · rcases h.form2 with ⟨rfl, rfl⟩ | ⟨g, cp, rfl, hcap⟩
    · exact absurd hlt (by simp)
    refine (stDel_any B g cs.length cp i cs.length (cs.flatMap itmC) w h.own (itm_one cs) hlt (Nat.le_refl _) (by omega)).mono ?_
    rintro e w1 ⟨he, hp⟩
    have e1 : i + (cs.length - cs.length) = i := by omega
    have e2 : (cs.flatMap itmC).drop (cs.length * 2) = [] := List.drop_eq_nil_of_le (by rw [iflat_len]; omega)
    have h1 := hp.out.1
    rw [e1, e2, List.append_nil, iflat_take] at h1
    rw [e1] at he
    exact ⟨_, _, he, h1, hp.out.2.mono (fun k _ e => by rw [e]; rfl), rfl⟩
  · obtain rfl : i = cs.length := by omega
    rcases h.form2 with ⟨rfl, rfl⟩ | ⟨g, cp, rfl, hcap⟩
    · refine (del_same none 0 0 w (Nat.le_refl _) (by unfold maxLen; omega) (fun _ => ⟨rfl, rfl⟩)).mono ?_
      rintro e w1 ⟨he, rfl⟩
      exact ⟨_, _, he, World.ownsRow_nil _ _ _ _, Kept.refl _ _, rfl⟩
    · refine (del_same (some ⟨g, 0, none⟩) cs.length cp w hcap (owns_capm h.own) (fun e => by cases e)).mono ?_
      rintro e w1 ⟨he, rfl⟩
      refine ⟨_, _, he, ?_, Kept.refl _ _, rfl⟩
      rw [List.take_length]
      exact h.own

/-- What is handed back, and what stays. -/
structure DropP (w : World) (s B : Nat) (v : Value) (cs : List Itm) (i : Nat) (u : Value) (w' : World) : Prop where
  row : w'.ownsRow w.heap.size 31 2 u (cs.drop i).length ((cs.drop i).reverse.flatMap itmC)
  turn : TurnP w s B v (cs.take i) w'

theorem drop_src {w : World} {s B i g n cp : Nat} {cs : List Itm} (h : StackAt w s B (.slice (some ⟨g, 0, none⟩) n cp) cs) : ∀ j u, ((cs.drop i).flatMap itmC)[j]? = some u → ∃ a0, (some (⟨g, i * 2, none⟩ : Addr)) = some a0 ∧ w.cell? (a0.add j) = some u := by
  intro j u hj
  refine ⟨_, rfl, ?_⟩
  rw [Addr.add_lit]
  rw [← iflat_drop, List.getElem?_drop] at hj
  obtain ⟨a, c, e⟩ := h.form
  injection e with _ e2
  have ho := h.own
  rw [← e2] at ho
  exact owns_at ho _ _ hj

/-- From the row that was cloned and turned to the end. -/
theorem drop_fin {w w1 w2 w3 : World} {s B i c : Nat} {a : Option Addr} {v : Value} {cs : List Itm} {u : Value} (h : StackAt w s B v cs) (hb : Below w.heap.size w w1) (hk2 : Kept (fun k => u.ownBlock = some k) w1 w2) (hu : w2.ownsRow w.heap.size 31 2 u (cs.drop i).length ((cs.drop i).reverse.flatMap itmC))
    (hk3 : Kept (fun k => v.ownBlock = some k) w2 w3) (hi : i ≤ cs.length) (hown : w3.ownsRow B 31 2 (.slice a i c) i ((cs.take i).flatMap itmC)) (hlies : (Value.slice a i c).ownBlock = v.ownBlock) :
    w3.cell? ⟨s, 0, none⟩ = some v ∧ w3.frozen? ⟨s, 0, none⟩ = false ∧ Hid (DropP w s B v cs i u (w3.setCell ⟨s, 0, none⟩ (.slice a i c))) := by
  have hku : ∀ k, u.ownBlock = some k → w.heap.size ≤ k := fun k e => (owns_lt hu k e).1
  have hvk : ∀ k, v.ownBlock = some k → k < w.heap.size := fun k e => (owns_lt h.own k e).2
  have hb2 : Below w.heap.size w w2 := hb.trans ⟨hk2.os, hk2.tape, hk2.output, hk2.size, fun j hj => hk2.block j (Nat.lt_of_lt_of_le hj hb.size) (fun e => by have := hku j e; omega)⟩
  have hk : Kept (fun k => v.ownBlock = some k) w w3 := (Kept.below hb2).trans hk3
  have hblk := (hk.block s h.slt h.off).trans h.blk
  have hlt := (Array.getElem?_eq_some_iff.1 hblk).1
  have hst : Kept (fun k => k = s) w3 (w3.setCell ⟨s, 0, none⟩ (.slice a i c)) := Kept.store (out := fun k => k = s) (Kept.refl _ _) ⟨s, 0, none⟩ rfl _
  have hl : (cs.take i).length = i := by rw [List.length_take]; omega
  have hss := h.slt
  refine ⟨by simp [World.cell?, hblk], by simp [World.frozen?, hblk], ⟨?_, ⟨⟨.slice a i c, ⟨?_, ?_, h.sB⟩, .inl hlies⟩, ?_⟩⟩⟩
  · exact owns_kept (owns_kept hu hk3 (fun k e e2 => by have := hku k e; have := hvk k e2; omega)) hst (fun k e e2 => by have := hku k e; omega)
  · simp only [World.setCell, Array.getElem?_modify, hblk]
    simp
  · rw [hl]
    exact owns_kept hown hst (fun k e e2 => h.off (by rw [← hlies, e, e2]))
  · exact (hk.mono (fun k _ e => .inr e)).store ⟨s, 0, none⟩ (.inl rfl) _

set_option maxRecDepth 100000 in
set_option maxHeartbeats 4000000 in
theorem drop_any (s B i : Nat) (v : Value) (cs : List Itm) (w : World) (h : StackAt w s B v cs) (hi : i ≤ cs.length) (hl : cs.length ≤ 100000) :
    Calls Try.prog 47 #[.pointer (some ⟨s, 0, none⟩), .int .i64 (i : Int)] w fun e w' => ∃ a' c', e = .returned (.slice a' (cs.length - i) c') ∧ Hid (DropP w s B v cs i (.slice a' (cs.length - i) c') w') := by
  have hdl : cs.length - i = (cs.drop i).length := by rw [List.length_drop]
  have HS : Hid _ := h
  have heg := enters_del
  have hiI : (i : Int) ≤ (cs.length : Int) := by omega
  have HCL : Hid (∀ (a : Option Addr) (cap : Nat), (∀ j u, ((cs.drop i).flatMap itmC)[j]? = some u → ∃ a0, a = some a0 ∧ w.cell? (a0.add j) = some u) → cs.length - i ≤ cap → _) := fun a cap hs hc => cloneI_any a (cs.length - i) cap (cs.drop i) w hdl hs (by rw [List.length_drop]; omega) hc
  have HFIN : Hid (∀ w1 a' c', w1.ownsRow w.heap.size 31 2 (.slice a' (cs.length - i) c') (cs.drop i).length ((cs.drop i).flatMap itmC) ∧ Below w.heap.size w w1 → Calls Try.prog 70 #[.slice a' (cs.length - i) c'] w1 fun e w2 => e = .returned (.tuple #[]) ∧ Hid (StackAt w2 s B v cs ∧ ∀ w3 a c, w3.ownsRow B 31 2 (.slice a i c) i ((cs.take i).flatMap itmC) → Kept (fun k => v.ownBlock = some k) w2 w3 → (Value.slice a i c).ownBlock = v.ownBlock → w3.cell? ⟨s, 0, none⟩ = some v ∧ w3.frozen? ⟨s, 0, none⟩ = false ∧ Hid (DropP w s B v cs i (.slice a' (cs.length - i) c') (w3.setCell ⟨s, 0, none⟩ (.slice a i c))))) := by
    intro w1 a' c' ⟨ho, hb⟩
    refine (reverse_row w.heap.size a' (cs.length - i) c' (cs.drop i) w1 ho hdl (by omega)).mono ?_
    rintro e w2 ⟨he, hp⟩
    refine ⟨he, ⟨(HS.out.below hb).kept hp.out.2 (fun e => ?_) (fun k e e2 => ?_), fun w3 a c h1 h2 h3 => drop_fin HS.out hb hp.out.2 hp.out.1 h2 hi h1 h3⟩⟩
    · have := (owns_lt ho _ e).1
      have := HS.out.slt
      omega
    · have := (owns_lt ho _ e2).1
      have := (owns_lt HS.out.own _ e).2
      omega
  have c0 := h.c0
  rcases h.form2 with ⟨rfl, rfl⟩ | ⟨g, cp, rfl, hcap⟩
  · obtain rfl : i = 0 := by simpa using hi
    have HC : Hid _ := HCL.out none 0 (fun j u hj => by simp at hj) (Nat.le_refl _)
    clear h HCL hdl hi hl hiI
    simp only [List.length_nil, Nat.sub_self] at HC HFIN ⊢
    go_enter Try.func47, Try.ntmps47
    go_wp2_with fail
    refine Calls.mono HC.out ?_
    rintro e w1 ⟨a', c', rfl, hp⟩
    have HR : Hid _ := HFIN.out w1 a' c' hp.out
    clear HC hp c0 HFIN
    go_wp2_with fail
    refine Calls.mono HR.out ?_
    rintro e w2 ⟨rfl, hq⟩
    have c0 := hq.out.1.c0
    have HD : Hid _ := del_tail s B 0 _ [] w2.drew (hq.out.1.draws 1) (Nat.le_refl _) (by simp)
    have HF : Hid _ := hq.out.2
    clear HR hq HS
    go_upto_region 5 with fail
    go_region_law (refine step_call rfl 43 #[.tmp 21, .tmp 22, .tmp 27] #[24, 3, 3] rfl #[.slice none 0 0, .int .i64 0, .int .i64 0] (by simp [Act.eval, Act.put]) (heg _) HD.out ?_; rintro e w3 ⟨a3, c3, rfl, hr⟩; refine ⟨_, rfl, ?_⟩; obtain ⟨q0, g0, KR⟩ := HF.out w3 a3 c3 hr.out.1 (Kept.from_draws (q := 1) hr.out.2.1) hr.out.2.2; clear hr)
    all_goals
      go_wp2
      go_ret
      exact ⟨a', c', rfl, KR⟩
  · by_cases hci : cp = i
    · have hil : cs.drop i = [] := List.drop_eq_nil_of_le (by omega)
      have HC : Hid _ := HCL.out (some ⟨g, 0, none⟩) 0 (fun j u hj => by rw [hil] at hj; simp at hj) (by omega)
      subst hci
      have hi0 : (0 : Int) ≤ (cp : Int) := by omega
      have hnc : (cs.length : Int) ≤ (cp : Int) := by omega
      have ez : cs.length - cp = 0 := by omega
      clear h HCL hdl hil
      simp only [ez] at HC HFIN ⊢
      clear ez
      go_enter Try.func47, Try.ntmps47
      go_wp2_with fail
      refine Calls.mono HC.out ?_
      rintro e w1 ⟨a', c', rfl, hp⟩
      have HR : Hid _ := HFIN.out w1 a' c' hp.out
      clear HC hp c0 HFIN
      go_wp2_with fail
      refine Calls.mono HR.out ?_
      rintro e w2 ⟨rfl, hq⟩
      have c0 := hq.out.1.c0
      have HD : Hid _ := del_tail s B cp _ cs w2.drew (hq.out.1.draws 1) hi hl
      have HF : Hid _ := hq.out.2
      clear HR hq HS
      go_upto_region 5 with fail
      go_region_law (refine step_call rfl 43 #[.tmp 21, .tmp 22, .tmp 27] #[24, 3, 3] rfl #[.slice (some ⟨g, 0, none⟩) cs.length cp, .int .i64 (cp : Int), .int .i64 (cs.length : Int)] (by simp [Act.eval, Act.put]) (heg _) HD.out ?_; rintro e w3 ⟨a3, c3, rfl, hr⟩; refine ⟨_, rfl, ?_⟩; obtain ⟨q0, g0, KR⟩ := HF.out w3 a3 c3 hr.out.1 (Kept.from_draws (q := 1) hr.out.2.1) hr.out.2.2; clear hr)
      all_goals
        go_wp2
        go_ret
        exact ⟨a', c', rfl, KR⟩
    · have HC : Hid _ := HCL.out (some ⟨g, i * 2, none⟩) (cp - i) (drop_src h) (by omega)
      have hnci : ¬ cp = i := hci
      have hic : (i : Int) ≤ (cp : Int) := by omega
      have hnc : (cs.length : Int) ≤ (cp : Int) := by omega
      have hi0 : (0 : Int) ≤ (i : Int) := by omega
      clear h HCL hdl
      go_enter Try.func47, Try.ntmps47
      go_wp2_with fail
      refine Calls.mono HC.out ?_
      rintro e w1 ⟨a', c', rfl, hp⟩
      have HR : Hid _ := HFIN.out w1 a' c' hp.out
      clear HC hp c0 HFIN
      go_wp2_with fail
      refine Calls.mono HR.out ?_
      rintro e w2 ⟨rfl, hq⟩
      have c0 := hq.out.1.c0
      have HD : Hid _ := del_tail s B i _ cs w2.drew (hq.out.1.draws 1) hi hl
      have HF : Hid _ := hq.out.2
      clear HR hq HS
      go_upto_region 5 with fail
      go_region_law (refine step_call rfl 43 #[.tmp 21, .tmp 22, .tmp 27] #[24, 3, 3] rfl #[.slice (some ⟨g, 0, none⟩) cs.length cp, .int .i64 (i : Int), .int .i64 (cs.length : Int)] (by simp [Act.eval, Act.put]) (heg _) HD.out ?_; rintro e w3 ⟨a3, c3, rfl, hr⟩; refine ⟨_, rfl, ?_⟩; obtain ⟨q0, g0, KR⟩ := HF.out w3 a3 c3 hr.out.1 (Kept.from_draws (q := 1) hr.out.2.1) hr.out.2.2; clear hr)
      all_goals
        go_wp2
        go_ret
        exact ⟨a', c', rfl, KR⟩
end Go.Proofs.Ytalbiekleggkoaa
