/-
  The tree's functions by plain data: nodes told, kids, parents, a node put behind all kids or refused.
-/
import Derived.Test.YtjbfgiicaaljjaaTfBase
namespace Go.Proofs.Ytjbfgiicaaljjaa
open Go.RowKit

section
variable (t B g cap : Nat) (cs : List Cel) (w : World)

set_option linter.unusedSimpArgs false in
set_option maxRecDepth 100000 in
set_option maxHeartbeats 1000000 in
theorem mayHave_not (n : Nat) (c : Cel) (hT : TreeAt w t B g cap cs) (hn : cs[n]? = some c) (hk : c.kind ≠ 0) (hk2 : c.kind ≠ 2) :
    Calls Try.prog 83 #[.pointer (some ⟨t, 0, none⟩), .int .i64 (n : Int)] w fun e w' => e = .returned (.bool false) ∧ w' = w := by
  have hlt := (List.getElem?_eq_some_iff.1 hn).1
  have HH : Hid _ := has_in t B g cap cs w n hT hlt
  have c0 := hT.c0
  have ck : w.cell? ⟨g, n * 10 + 0, none⟩ = some (.int .i64 c.kind) := hT.at hn rfl
  rw [Nat.add_zero] at ck
  have hI : (n : Int) < (cs.length : Int) := by omega
  have b0 : (c.kind == 0) = false := by rw [beq_eq_false_iff_ne]; exact hk
  have b2 : (c.kind == 2) = false := by rw [beq_eq_false_iff_ne]; exact hk2
  clear hT hn hlt
  go_enter Try.func83, Try.ntmps83
  go_wp2_with fail
  refine Calls.mono HH.out ?_
  rintro e w1 ⟨rfl, rfl⟩
  go_wp2
  go_ret
  exact ⟨by simp [b0, b2], rfl⟩

set_option maxRecDepth 100000 in
set_option maxHeartbeats 1000000 in
theorem isPlace_not (n : Nat) (c : Cel) (hT : TreeAt w t B g cap cs) (hn : cs[n]? = some c) (hk : c.kind ≠ 0) (hk2 : c.kind ≠ 2) :
    Calls Try.prog 65 #[.pointer (some ⟨t, 0, none⟩), .int .i64 (n : Int), .int .i64 (-1)] w fun e w' => e = .returned (.bool false) ∧ w' = w := by
  have HH : Hid _ := mayHave_not t B g cap cs w n c hT hn hk hk2
  clear hT hn hk hk2
  go_enter Try.func65, Try.ntmps65
  go_wp2_with fail
  refine Calls.mono HH.out ?_
  rintro e w1 ⟨rfl, rfl⟩
  go_wp2
  go_ret
  exact ⟨rfl, rfl⟩

set_option maxRecDepth 100000 in
set_option maxHeartbeats 1000000 in
theorem put_not (n p : Nat) (cp : Cel) (hT : TreeAt w t B g cap cs) (hn : n < cs.length) (hn0 : 0 < n) (hp : cs[p]? = some cp) (hk : cp.kind ≠ 0) (hk2 : cp.kind ≠ 2) :
    Calls Try.prog 31 #[.pointer (some ⟨t, 0, none⟩), .int .i64 (n : Int), .int .i64 (p : Int), .int .i64 (-1)] w fun e w' => e = .returned (.int .i64 1) ∧ w' = w := by
  have H1 : Hid _ := movable_in t B g cap cs w n hT hn hn0
  have H2 : Hid _ := isPlace_not t B g cap cs w p cp hT hp hk hk2
  have bm : ((-1 : Int) == (n : Int)) = false := by rw [beq_eq_false_iff_ne]; omega
  clear hT hn hn0 hp hk hk2
  go_enter Try.func31, Try.ntmps31
  go_wp2_with fail
  refine Calls.mono H1.out ?_
  rintro e w1 ⟨rfl, hw1⟩
  subst hw1
  go_wp2_with fail
  refine Calls.mono H2.out ?_
  rintro e w2 ⟨rfl, hw2⟩
  subst hw2
  go_wp2
  go_ret
  exact ⟨rfl, rfl⟩

set_option maxRecDepth 100000 in
set_option maxHeartbeats 1000000 in
theorem has_out (n : Int) (hT : TreeAt w t B g cap cs) (hn : n < 0 ∨ (cs.length : Int) ≤ n) :
    Calls Try.prog 47 #[.pointer (some ⟨t, 0, none⟩), .int .i64 n] w fun e w' => e = .returned (.bool false) ∧ w' = w := by
  have c0 := hT.c0
  clear hT
  rcases hn with hn | hn
  · have h0 : ¬ (0 : Int) ≤ n := by omega
    go_enter Try.func47, Try.ntmps47
    go_wp2
    go_ret
    exact ⟨rfl, rfl⟩
  · have h0 : (0 : Int) ≤ n := by omega
    have hI : ¬ n < (cs.length : Int) := by omega
    go_enter Try.func47, Try.ntmps47
    go_wp2
    go_ret
    exact ⟨rfl, rfl⟩

set_option maxRecDepth 100000 in
set_option maxHeartbeats 1000000 in
theorem parent_in (n : Nat) (c : Cel) (hT : TreeAt w t B g cap cs) (hn : cs[n]? = some c) :
    Calls Try.prog 28 #[.pointer (some ⟨t, 0, none⟩), .int .i64 (n : Int)] w fun e w' => e = .returned (.int .i64 c.parent) ∧ w' = w := by
  have hlt := (List.getElem?_eq_some_iff.1 hn).1
  have HH : Hid _ := has_in t B g cap cs w n hT hlt
  have c0 := hT.c0
  have ck : w.cell? ⟨g, n * 10 + 7, none⟩ = some (.int .i64 c.parent) := hT.at hn rfl
  have hI : (n : Int) < (cs.length : Int) := by omega
  clear hT hn hlt
  go_enter Try.func28, Try.ntmps28
  go_wp2_with fail
  refine Calls.mono HH.out ?_
  rintro e w1 ⟨rfl, rfl⟩
  go_wp2
  go_ret
  exact ⟨rfl, rfl⟩
end

/-- A node by its number, told by plain data. -/
theorem fam_get {w : World} {t B g cap : Nat} {ns : List Nd} {cs : List Cel} (h : FamAt w t B g cap ns cs) {n : Nat} {x : Nd} (hx : ns[n]? = some x) (hd : x.data.size ≤ 9223372036854775807) (ha : x.atts.length ≤ 1000000) :
    Calls Try.prog 20 #[.pointer (some ⟨t, 0, none⟩), .int .i64 (n : Int)] w fun e w' => ∃ a2 c2, e = .returned (.tuple #[.agg #[.int .i64 x.kind, .int .i64 x.at', .string x.name, .string x.data, .slice a2 x.atts.length c2], .bool true]) ∧ Hid (FreshA w a2 x.atts.length c2 x.atts w') := by
  obtain ⟨c, hc, hc1⟩ := h.cell hx
  have H := get_att t B g cap B x.atts.length cs n c [] x.atts w h.tree hc (by rw [hc1.data]; exact hd) (by rw [hc1.more]; exact World.ownsRow_nil _ _ _ _) (h.atts n c x hc hx) ha
  rw [hc1.kind, hc1.at', hc1.name, hc1.data, show x.data ++ (⟨([] : List UInt8).toArray⟩ : ByteArray) = x.data by apply ByteArray.ext; simp] at H
  exact H
theorem fam_kids {w : World} {t B g cap : Nat} {ns : List Nd} {cs : List Cel} (h : FamAt w t B g cap ns cs) {n : Nat} {x : Nd} (hx : ns[n]? = some x) (hk : x.kids.length ≤ 1000000) :
    Calls Try.prog 22 #[.pointer (some ⟨t, 0, none⟩), .int .i64 (n : Int)] w fun e w' => ∃ v', e = .returned v' ∧ w'.ownsRow w.heap.size 3 1 v' x.kids.length (intC x.kids) ∧ Below w.heap.size w w' := by
  obtain ⟨c, hc, hc1⟩ := h.cell hx
  exact kids_in t B g cap cs n c x.kids w h.tree hc (h.kids n c x hc hx) hk
theorem fam_parent {w : World} {t B g cap : Nat} {ns : List Nd} {cs : List Cel} (h : FamAt w t B g cap ns cs) {n : Nat} {x : Nd} (hx : ns[n]? = some x) :
    Calls Try.prog 28 #[.pointer (some ⟨t, 0, none⟩), .int .i64 (n : Int)] w fun e w' => e = .returned (.int .i64 x.parent) ∧ w' = w := by
  obtain ⟨c, hc, hc1⟩ := h.cell hx
  rw [← hc1.parent]
  exact parent_in t B g cap cs w n c h.tree hc

/-- The blocks of the rows of kids. -/
def KidB (cs : List Cel) (k : Nat) : Prop := ∃ (i : Nat) (c : Cel), cs[i]? = some c ∧ c.kids.ownBlock = some k

/-- What the tree is behind a Put of a new node. -/
def holdsN (x : Nd) : Bool := x.kind == 0 || x.kind == 2
def putN (ns : List Nd) (n p : Nat) : List Nd := match ns[n]?, ns[p]? with
  | some x, some xp => if holdsN xp then putNd ns n p x xp else ns
  | _, _ => ns
theorem fam_putC {w : World} {t B g cap : Nat} {ns : List Nd} {cs : List Cel} {c : Cel} (h : FamAt w t B g cap ns cs) {n p : Nat} {x xp : Nd} (hc : cs[n]? = some c) (hx : ns[n]? = some x) (hxp : ns[p]? = some xp) (hne : n ≠ p) (hn0 : 0 < n) (hpar : x.parent = -1) (hxk : x.kids = []) (hck : c.kids = .slice none 0 0) (hkl : xp.kids.length ≤ 1000000) :
    Calls Try.prog 31 #[.pointer (some ⟨t, 0, none⟩), .int .i64 (n : Int), .int .i64 (p : Int), .int .i64 (-1)] w fun e w' => ∃ r, e = .returned (.int .i64 r) ∧ ∃ cs', FamAt w' t B g cap (putN ns n p) cs' ∧ Kept (fun k => k = g ∨ KidB cs k) w w' ∧ ∀ k, KidB cs' k → KidB cs k ∨ w.heap.size ≤ k := by
  obtain ⟨cp, hcp, hcp1⟩ := h.cell hxp
  have hc1 := h.cel n c x hc hx
  have e0 : putN ns n p = if holdsN xp then putNd ns n p x xp else ns := by unfold putN; rw [hx, hxp]
  cases hh : holdsN xp
  · have hk : cp.kind ≠ 0 ∧ cp.kind ≠ 2 := by
      unfold holdsN at hh
      simp only [Bool.or_eq_false_iff, beq_eq_false_iff_ne] at hh
      rw [hcp1.kind]
      exact hh
    refine (put_not t B g cap cs w n p cp h.tree (List.getElem?_eq_some_iff.1 hc).1 hn0 hcp hk.1 hk.2).mono ?_
    rintro e w' ⟨he, rfl⟩
    refine ⟨1, he, cs, ?_, Kept.refl _ _, fun k hk => .inl hk⟩
    rw [e0, hh]
    exact h
  · have hk : cp.kind = 0 ∨ cp.kind = 2 := by
      unfold holdsN at hh
      simp only [Bool.or_eq_true, beq_iff_eq] at hh
      rw [hcp1.kind]
      exact hh
    refine (put_new t B g cap cs n p c cp xp.kids w h.tree hc hcp hne hn0 (by rw [hc1.parent]; exact hpar) hck hk (h.kids p cp xp hcp hxp) hkl).mono ?_
    rintro e w' ⟨he, hP⟩
    obtain ⟨cs', hF, hK, hL⟩ := fam_put h hc hcp hx hxp hne hxk hck hP
    refine ⟨0, he, cs', ?_, hK.mono (fun k _ e => ?_), fun k hk2 => ?_⟩
    · rw [e0, hh]
      exact hF
    · rcases e with e | e
      · exact .inl e
      · exact .inr ⟨p, cp, hcp, e⟩
    · obtain ⟨i, ci, hi, hb⟩ := hk2
      rcases hL i ci k hi hb with ⟨j, cj, hj, hb2⟩ | h2
      · exact .inl ⟨j, cj, hj, hb2⟩
      · exact .inr h2
end Go.Proofs.Ytjbfgiicaaljjaa
