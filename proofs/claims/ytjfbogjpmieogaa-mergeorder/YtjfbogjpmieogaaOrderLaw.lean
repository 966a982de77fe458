/-
  The order of two that are wrong: the program's Less, the reference's Ahead, and the law.
-/
import Derived.Test.YtjfbogjpmieogaaRows
import Derived.Below
import Derived.Carry
import Derived.OwnWalk
import Derived.WalkKit
import Derived.WalkSpells
import Derived.WalkLawsBesides
import Derived.Deep.RegionLaw
import Derived.Deep.QuietTactic
import Derived.BigQuiet
import Derived.RegionTactic
import Derived.Deep.RegionHeld3
import Derived.Deep.AppendLies
import Derived.Deep.DeepCutAuto
import Derived.Test.YtjfbogjpmieogaaDiagPlain
namespace Go.Proofs.Ytjfbogjpmieogaa
open Go.RowKit

def dob (x : Dg) (t : TypeId) : Obj := .cells #[.int .i64 x.c, .int .i64 x.a, .string x.n] t
def dv (x : Dg) : Value := .agg #[.int .i64 x.c, .int .i64 x.a, .string x.n]

set_option maxRecDepth 100000 in
set_option maxHeartbeats 2000000 in
theorem less_any (x y : Dg) (w : World) : Calls Try.prog 9 #[dv x, dv y] w fun e w' => e = .returned (.bool (dl x y)) ∧ w' = (w.alloc (dob x 33)).alloc (dob y 33) := by
  obtain ⟨c1, a1, n1⟩ := x
  obtain ⟨c2, a2, n2⟩ := y
  simp only [dv, dob, dl, less]
  by_cases ha : a1 = a2
  · by_cases hc : c1 = c2
    · subst ha hc
      rw [if_pos rfl, if_pos rfl]
      go_enter Try.func9, Try.ntmps9
      go_wp2
      go_ret
      exact ⟨rfl, rfl⟩
    · subst ha
      rw [if_pos rfl, if_neg hc]
      go_enter Try.func9, Try.ntmps9
      go_wp2
      go_ret
      exact ⟨rfl, rfl⟩
  · rw [if_neg ha]
    go_enter Try.func9, Try.ntmps9
    go_wp2
    go_ret
    exact ⟨rfl, rfl⟩

set_option maxRecDepth 100000 in
set_option maxHeartbeats 2000000 in
theorem ahead_any (x y : Dg) (w : World) : Calls Try.prog 10 #[dv x, dv y] w fun e w' => e = .returned (.bool (dl x y)) ∧ w' = (w.alloc (dob x 35)).alloc (dob y 35) := by
  obtain ⟨c1, a1, n1⟩ := x
  obtain ⟨c2, a2, n2⟩ := y
  simp only [dv, dob, dl, less]
  by_cases ha : a1 = a2
  · by_cases hc : c1 = c2
    · subst ha hc
      rw [if_pos rfl, if_pos rfl]
      go_enter Try.func10, Try.ntmps10
      go_wp2
      go_ret
      exact ⟨rfl, rfl⟩
    · subst ha
      rw [if_pos rfl, if_neg hc]
      go_enter Try.func10, Try.ntmps10
      go_wp2
      go_ret
      exact ⟨rfl, rfl⟩
  · rw [if_neg ha]
    go_enter Try.func10, Try.ntmps10
    go_wp2
    go_ret
    exact ⟨rfl, rfl⟩

theorem keepc {W W' : World} {p : Addr} {v : Value} (h : Below W.heap.size W W') (hc : W.cell? p = some v) : W'.cell? p = some v :=
  (h.cell (World.block_lt_of_cell? W _ hc)).trans hc
theorem two_below (w : World) (o o' : Obj) : Below w.heap.size w ((w.alloc o).alloc o') := ((Below.refl _ _).alloc (Nat.le_refl _) _).alloc (by simp) _

/-- The world behind the first two boxes, the first call's two, and the two that are compared. -/
def ow (w : World) (c1 a1 : Int) (n1 : ByteArray) (c2 a2 : Int) (n2 : ByteArray) : World :=
  (((((w.alloc (.cells #[.int .i64 c1, .int .i64 a1, .string n1] 30)).alloc (.cells #[.int .i64 c2, .int .i64 a2, .string n2] 30)).alloc (.cells #[.int .i64 0, .int .i64 1, .string ByteArray.empty] 33)).alloc (.cells #[.int .i64 0, .int .i64 2, .string ByteArray.empty] 33)).alloc (.cells #[.int .i64 c1, .int .i64 a1, .string n1] 33)).alloc (.cells #[.int .i64 c2, .int .i64 a2, .string n2] 33)
structure Ow (w wr : World) (c1 a1 : Int) (n1 : ByteArray) (c2 a2 : Int) (n2 : ByteArray) : Prop where
  x0 : wr.cell? ⟨w.heap.size, 0, none⟩ = some (.int .i64 c1)
  x1 : wr.cell? ⟨w.heap.size, 1, none⟩ = some (.int .i64 a1)
  x2 : wr.cell? ⟨w.heap.size, 2, none⟩ = some (.string n1)
  y0 : wr.cell? ⟨w.heap.size + 1, 0, none⟩ = some (.int .i64 c2)
  y1 : wr.cell? ⟨w.heap.size + 1, 1, none⟩ = some (.int .i64 a2)
  y2 : wr.cell? ⟨w.heap.size + 1, 2, none⟩ = some (.string n2)
  u0 : wr.cell? ⟨w.heap.size + 1 + 1 + 1 + 1, 0, none⟩ = some (.int .i64 c1)
  u1 : wr.cell? ⟨w.heap.size + 1 + 1 + 1 + 1, 1, none⟩ = some (.int .i64 a1)
  u2 : wr.cell? ⟨w.heap.size + 1 + 1 + 1 + 1, 2, none⟩ = some (.string n1)
  v0 : wr.cell? ⟨w.heap.size + 1 + 1 + 1 + 1 + 1, 0, none⟩ = some (.int .i64 c2)
  v1 : wr.cell? ⟨w.heap.size + 1 + 1 + 1 + 1 + 1, 1, none⟩ = some (.int .i64 a2)
  v2 : wr.cell? ⟨w.heap.size + 1 + 1 + 1 + 1 + 1, 2, none⟩ = some (.string n2)
  lt : w.heap.size ≤ wr.heap.size
  below : Below w.heap.size w wr

theorem al_keep {w : World} {p : Addr} {v : Value} (h : w.cell? p = some v) (o : Obj) : (w.alloc o).cell? p = some v := keepc ((Below.refl _ _).alloc (Nat.le_refl _) _) h
theorem ow_ok (w : World) (c1 a1 : Int) (n1 : ByteArray) (c2 a2 : Int) (n2 : ByteArray) : Ow w (ow w c1 a1 n1 c2 a2 n2) c1 a1 n1 c2 a2 n2 := by
  unfold ow
  refine ⟨(al_keep (al_keep (al_keep (al_keep (al_keep (World.cell?_alloc_at _ _ _ 0 (by simp)) _) _) _) _) _), (al_keep (al_keep (al_keep (al_keep (al_keep (World.cell?_alloc_at _ _ _ 1 (by simp)) _) _) _) _) _), (al_keep (al_keep (al_keep (al_keep (al_keep (World.cell?_alloc_at _ _ _ 2 (by simp)) _) _) _) _) _), (al_keep (al_keep (al_keep (al_keep (World.cell?_alloc_at _ _ _ 0 (by simp)) _) _) _) _), (al_keep (al_keep (al_keep (al_keep (World.cell?_alloc_at _ _ _ 1 (by simp)) _) _) _) _), (al_keep (al_keep (al_keep (al_keep (World.cell?_alloc_at _ _ _ 2 (by simp)) _) _) _) _), (al_keep (World.cell?_alloc_at _ _ _ 0 (by simp)) _), (al_keep (World.cell?_alloc_at _ _ _ 1 (by simp)) _), (al_keep (World.cell?_alloc_at _ _ _ 2 (by simp)) _), (World.cell?_alloc_at _ _ _ 0 (by simp)), (World.cell?_alloc_at _ _ _ 1 (by simp)), (World.cell?_alloc_at _ _ _ 2 (by simp)), ?_, ?_⟩
  · simp only [World.size_alloc]
    omega
  · exact ((((((Below.refl _ _).alloc (Nat.le_refl _) _).alloc (by simp) _).alloc (by simp <;> omega) _).alloc (by simp <;> omega) _).alloc (by simp <;> omega) _).alloc (by simp <;> omega) _

theorem Ow.keep {w wr w' : World} {c1 a1 : Int} {n1 : ByteArray} {c2 a2 : Int} {n2 : ByteArray} (h : Ow w wr c1 a1 n1 c2 a2 n2) (hb : Below wr.heap.size wr w') : Ow w w' c1 a1 n1 c2 a2 n2 :=
  ⟨keepc hb h.x0, keepc hb h.x1, keepc hb h.x2, keepc hb h.y0, keepc hb h.y1, keepc hb h.y2, keepc hb h.u0, keepc hb h.u1, keepc hb h.u2, keepc hb h.v0, keepc hb h.v1, keepc hb h.v2, Nat.le_trans h.lt hb.size, h.below.trans (hb.mono h.lt)⟩
theorem Ow.drew {w wr : World} {c1 a1 : Int} {n1 : ByteArray} {c2 a2 : Int} {n2 : ByteArray} (h : Ow w wr c1 a1 n1 c2 a2 n2) : Ow w wr.drew c1 a1 n1 c2 a2 n2 :=
  h.keep (Below.refl _ _).drew

theorem seventh {a b c d e f g : Prop} (h : a ∧ b ∧ c ∧ d ∧ e ∧ f ∧ g) : g := h.2.2.2.2.2.2
theorem K7 {wr W W' : World} {b d : Nat} {c1 a1 : Int} {n1 : ByteArray} {c2 a2 : Int} {n2 : ByteArray} (hlb : Below W.heap.size W W') (h : W.cell? ⟨b, 0, none⟩ = some (.int .i64 c1) ∧ W.cell? ⟨b, 1, none⟩ = some (.int .i64 a1) ∧ W.cell? ⟨b, 2, none⟩ = some (.string n1) ∧ W.cell? ⟨d, 0, none⟩ = some (.int .i64 c2) ∧ W.cell? ⟨d, 1, none⟩ = some (.int .i64 a2) ∧ W.cell? ⟨d, 2, none⟩ = some (.string n2) ∧ Hid (Below wr.heap.size wr W)) :
    W'.cell? ⟨b, 0, none⟩ = some (.int .i64 c1) ∧ W'.cell? ⟨b, 1, none⟩ = some (.int .i64 a1) ∧ W'.cell? ⟨b, 2, none⟩ = some (.string n1) ∧ W'.cell? ⟨d, 0, none⟩ = some (.int .i64 c2) ∧ W'.cell? ⟨d, 1, none⟩ = some (.int .i64 a2) ∧ W'.cell? ⟨d, 2, none⟩ = some (.string n2) ∧ Hid (Below wr.heap.size wr W') := by
  obtain ⟨h0, h1, h2, h3, h4, h5, h6⟩ := h
  exact ⟨keepc hlb h0, keepc hlb h1, keepc hlb h2, keepc hlb h3, keepc hlb h4, keepc hlb h5, h6.out.trans (hlb.mono h6.out.size)⟩

def dz (k : Int) : Dg := ⟨0, k, ByteArray.empty⟩

set_option maxRecDepth 100000 in
set_option maxHeartbeats 2000000 in
theorem order_law (x y : Dg) (w : World) : Calls Try.prog 4 #[dv x, dv y] w fun e w' => e = .returned (.bool true) ∧ Below w.heap.size w w' := by
  have H0 : Hid (∀ w, Calls Try.prog 9 #[.agg #[.int .i64 0, .int .i64 1, .string ByteArray.empty], .agg #[.int .i64 0, .int .i64 2, .string ByteArray.empty]] w fun e w' => e = .returned (.bool true) ∧ w' = (w.alloc (dob (dz 1) 33)).alloc (dob (dz 2) 33)) := fun w => less_any (dz 1) (dz 2) w
  have HL : Hid (∀ c a n c' a' n' w, Calls Try.prog 9 #[.agg #[.int .i64 c, .int .i64 a, .string n], .agg #[.int .i64 c', .int .i64 a', .string n']] w fun e w' => e = .returned (.bool (dl ⟨c, a, n⟩ ⟨c', a', n'⟩)) ∧ Below w.heap.size w w') := fun c a n c' a' n' w => (less_any ⟨c, a, n⟩ ⟨c', a', n'⟩ w).mono fun e w' ⟨h1, h2⟩ => ⟨h1, h2 ▸ two_below _ _ _⟩
  have H3 : Hid (∀ w, Calls Try.prog 10 #[dv x, dv y] w fun e w' => e = .returned (.bool (dl x y)) ∧ Below w.heap.size w w') := fun w => (ahead_any x y w).mono fun e w' ⟨h1, h2⟩ => ⟨h1, h2 ▸ two_below _ _ _⟩
  have ht := dl_tri x y
  have has := dl_asymm x y
  have has' := dl_asymm y x
  obtain ⟨c1, a1, n1⟩ := x
  obtain ⟨c2, a2, n2⟩ := y
  simp only [dv, dob, dz] at *
  have HT : Hid _ := ht
  have HA : Hid _ := has
  have HB : Hid _ := has'
  clear ht has has'
  go_enter Try.func4, Try.ntmps4
  go_wp2_with fail
  refine Calls.mono (H0.out _) ?_
  rintro e w1 ⟨rfl, rfl⟩
  go_wp2_with fail
  obtain ⟨wr, hwr⟩ : ∃ wr, wr = ow w c1 a1 n1 c2 a2 n2 := ⟨_, rfl⟩
  have hO : Ow w wr c1 a1 n1 c2 a2 n2 := hwr ▸ ow_ok w c1 a1 n1 c2 a2 n2
  unfold ow at hwr
  rw [← hwr]
  clear hwr
  obtain ⟨u0, u1, u2, v0, v1, v2⟩ : wr.cell? ⟨w.heap.size + 1 + 1 + 1 + 1, 0, none⟩ = some (.int .i64 c1) ∧ wr.cell? ⟨w.heap.size + 1 + 1 + 1 + 1, 1, none⟩ = some (.int .i64 a1) ∧ wr.cell? ⟨w.heap.size + 1 + 1 + 1 + 1, 2, none⟩ = some (.string n1) ∧ wr.cell? ⟨w.heap.size + 1 + 1 + 1 + 1 + 1, 0, none⟩ = some (.int .i64 c2) ∧ wr.cell? ⟨w.heap.size + 1 + 1 + 1 + 1 + 1, 1, none⟩ = some (.int .i64 a2) ∧ wr.cell? ⟨w.heap.size + 1 + 1 + 1 + 1 + 1, 2, none⟩ = some (.string n2) := ⟨hO.u0, hO.u1, hO.u2, hO.v0, hO.v1, hO.v2⟩
  have HO : Hid (Ow w wr c1 a1 n1 c2 a2 n2) := hO
  clear hO
  have HR : Hid (Below wr.heap.size wr wr) := Below.refl _ _
  have HX : Hid (wr.cell? ⟨w.heap.size, 0, none⟩ = some (.int .i64 c1) ∧ wr.cell? ⟨w.heap.size, 1, none⟩ = some (.int .i64 a1) ∧ wr.cell? ⟨w.heap.size, 2, none⟩ = some (.string n1) ∧ wr.cell? ⟨w.heap.size + 1, 0, none⟩ = some (.int .i64 c2) ∧ wr.cell? ⟨w.heap.size + 1, 1, none⟩ = some (.int .i64 a2) ∧ wr.cell? ⟨w.heap.size + 1, 2, none⟩ = some (.string n2)) := ⟨HO.out.x0, HO.out.x1, HO.out.x2, HO.out.y0, HO.out.y1, HO.out.y2⟩
  have HBw : Hid (w.heap.size ≤ wr.heap.size ∧ Below w.heap.size w wr) := ⟨HO.out.lt, HO.out.below⟩
  clear HO H0
  generalize w.heap.size + 1 + 1 + 1 + 1 + 1 = b6 at *
  generalize w.heap.size + 1 + 1 + 1 + 1 = b5 at *
  generalize w.heap.size + 1 = b1 at *
  go_cut [7, 8] (fun v7 v8 wy => v7 = .bool (dl ⟨c1, a1, n1⟩ ⟨c2, a2, n2⟩) ∧ v8 = .bool (dl ⟨c2, a2, n2⟩ ⟨c1, a1, n1⟩) ∧ Hid (Below wr.heap.size wr wy))
  case first =>
    go_region_held3 (fun w' => w'.cell? ⟨b5, 0, none⟩ = some (.int .i64 c1) ∧ w'.cell? ⟨b5, 1, none⟩ = some (.int .i64 a1) ∧ w'.cell? ⟨b5, 2, none⟩ = some (.string n1) ∧ w'.cell? ⟨b6, 0, none⟩ = some (.int .i64 c2) ∧ w'.cell? ⟨b6, 1, none⟩ = some (.int .i64 a2) ∧ w'.cell? ⟨b6, 2, none⟩ = some (.string n2) ∧ Hid (Below wr.heap.size wr w')) ((first | (exact K7 ((Below.refl _ _).drew) ⟨u0, u1, u2, v0, v1, v2, HR⟩) | (exact K7 (((Below.refl wr.heap.size wr).drew).trans hlb) ⟨u0, u1, u2, v0, v1, v2, HR⟩) | (exact K7 hlb (by assumption)))) ((go_at_call 9; refine Calls.mono (HL.out _ _ _ _ _ _ _) ?_; rintro e w' ⟨rfl, hlb⟩))
    all_goals go_wp2
    all_goals go_meet
    all_goals exact ⟨rfl, rfl, seventh (by assumption)⟩
  case rest =>
    obtain ⟨rfl, rfl, hbc⟩ := hcut
    obtain ⟨x0, x1, x2, y0, y1, y2⟩ := HX.out
    replace x0 := keepc hbc.out x0
    replace x1 := keepc hbc.out x1
    replace x2 := keepc hbc.out x2
    replace y0 := keepc hbc.out y0
    replace y1 := keepc hbc.out y1
    replace y2 := keepc hbc.out y2
    have HB1 : Hid (Below w.heap.size w wc) := HBw.out.2.trans (hbc.out.mono HBw.out.1)
    clear u0 u1 u2 v0 v1 v2 HR HX HBw hbc HL
    obtain ⟨p, hp⟩ : ∃ p, dl ⟨c1, a1, n1⟩ ⟨c2, a2, n2⟩ = p := ⟨_, rfl⟩
    obtain ⟨q, hq⟩ : ∃ q, dl ⟨c2, a2, n2⟩ ⟨c1, a1, n1⟩ = q := ⟨_, rfl⟩
    rw [hp] at H3 HT HA HB ⊢
    rw [hq] at HT HA HB ⊢
    have HQ : Hid (dl ⟨c1, a1, n1⟩ ⟨c2, a2, n2⟩ = p ∧ dl ⟨c2, a2, n2⟩ ⟨c1, a1, n1⟩ = q) := ⟨hp, hq⟩
    clear hp hq
    go_wp2_with fail
    refine Calls.mono (H3.out _) ?_
    rintro e w2 ⟨rfl, hb2⟩
    replace x0 := keepc hb2 x0
    replace x1 := keepc hb2 x1
    replace x2 := keepc hb2 x2
    replace y0 := keepc hb2 y0
    replace y1 := keepc hb2 y1
    replace y2 := keepc hb2 y2
    have HB2 : Hid (Below w.heap.size w w2) := HB1.out.trans (hb2.mono HB1.out.size)
    clear hb2 HB1 H3
    rcases HT.out with h | h | h
    · have hq := HA.out h
      subst h
      rw [hq]
      clear hq HA HB HT
      cases hn : (n1.toList == n2.toList)
      · go_wp2
        all_goals go_ret
        all_goals exact ⟨by first | rfl | simp [hn], HB2.out⟩
      · have hnn : n1 = n2 := bytes_ext (by simpa using hn)
        subst hnn
        go_wp2
        all_goals go_ret
        all_goals refine ⟨?_, HB2.out⟩
        all_goals first
          | rfl
          | (exfalso
             have hx := HQ.out.1
             rename_i h1 h2
             rw [h1, h2, dl_irrefl] at hx
             cases hx)
          | (exfalso
             have hx := HQ.out.1
             rename_i h1 h2
             rw [h1, dl_irrefl] at hx
             cases hx)
    · cases h
      have hpq : p = false ∧ q = false := ⟨HQ.out.1.symm.trans (dl_irrefl _), HQ.out.2.symm.trans (dl_irrefl _)⟩
      rw [hpq.1, hpq.2]
      clear hpq HA HB HT
      go_wp2
      all_goals go_ret
      all_goals exact ⟨by first | rfl | simp, HB2.out⟩
    · have hp := HB.out h
      subst h
      rw [hp]
      clear hp HA HB HT
      cases hn : (n1.toList == n2.toList)
      · go_wp2
        all_goals go_ret
        all_goals exact ⟨by first | rfl | simp [hn], HB2.out⟩
      · have hnn : n1 = n2 := bytes_ext (by simpa using hn)
        subst hnn
        go_wp2
        all_goals go_ret
        all_goals refine ⟨?_, HB2.out⟩
        all_goals first
          | rfl
          | (exfalso
             have hx := HQ.out.2
             rename_i h1 h2
             rw [h1, h2, dl_irrefl] at hx
             cases hx)
          | (exfalso
             have hx := HQ.out.2
             rename_i h1 h2
             rw [h1, dl_irrefl] at hx
             cases hx)
end Go.Proofs.Ytjfbogjpmieogaa
