/-
  Two trees in one memory: made and put.
-/
import Derived.Test.YtjbfgiicaaljjaaTmMath
namespace Go.Proofs.Ytjbfgiicaaljjaa
open Go.RowKit

/-- The program's tree and the reference's, apart. -/
structure TwoAt (B t u : Nat) (ns ns' : List Nd) (w : World) : Prop where
  ex : ∃ g cap cs gu capu rs, FamAt w t B g cap ns cs ∧ RFamAt w u B gu capu ns' rs ∧ ∀ k, KidB cs k → ¬ RKidB rs k

/-- What else lies in memory stays. -/
def Others (w w' : World) : Prop := ∀ k e, OfTy w k e → e ≠ 104 → e ≠ 101 → e ≠ 35 → e ≠ 80 → e ≠ 3 → w'.heap[k]? = w.heap[k]?

theorem OfTy.lt {w : World} {k : Nat} {e : TypeId} (h : OfTy w k e) : k < w.heap.size := by
  obtain ⟨c, f, h⟩ := h
  exact (Array.getElem?_eq_some_iff.1 h).1
theorem OfTy.below {w w' : World} {k : Nat} {e : TypeId} (h : OfTy w k e) (hb : Below w.heap.size w w') : OfTy w' k e := by
  have hl := h.lt
  obtain ⟨c, f, h⟩ := h
  exact ⟨c, f, (hb.block k hl).trans h⟩

theorem others_of {w w' : World} {out : Nat → Prop} (hk : Kept out w w') (ho : ∀ k, out k → OfTy w k 104 ∨ OfTy w k 101 ∨ OfTy w k 35 ∨ OfTy w k 80 ∨ OfTy w k 3) : Others w w' := by
  intro k e he n1 n2 n3 n4 n5
  refine hk.block k he.lt (fun e2 => ?_)
  rcases ho k e2 with h | h | h | h | h
  · exact n1 (he.uniq h)
  · exact n2 (he.uniq h)
  · exact n3 (he.uniq h)
  · exact n4 (he.uniq h)
  · exact n5 (he.uniq h)

theorem TwoAt.below {B t u : Nat} {ns ns' : List Nd} {w w' : World} (h : TwoAt B t u ns ns' w) (hb : Below w.heap.size w w') : TwoAt B t u ns ns' w' := by
  obtain ⟨g, cap, cs, gu, capu, rs, h1, h2, h3⟩ := h.ex
  exact ⟨g, cap, cs, gu, capu, rs, h1.below hb, h2.below hb, h3⟩
theorem TwoAt.le {B t u : Nat} {ns ns' : List Nd} {w : World} (h : TwoAt B t u ns ns' w) : B ≤ w.heap.size := by
  obtain ⟨g, cap, cs, gu, capu, rs, h1, h2, h3⟩ := h.ex
  exact h1.tree.le

theorem toBelow {out : Nat → Prop} {w w' : World} {B : Nat} (h : Kept out w w') (hB : B ≤ w.heap.size) (ho : ∀ k, out k → B ≤ k) : Below B w w' :=
  ⟨h.os, h.tape, h.output, h.size, fun k hk => h.block k (by omega) (fun e => by have := ho k e; omega)⟩

theorem not_ty {w : World} {k : Nat} {e : TypeId} (h : OfTy w k e) {e' : TypeId} (hne : e ≠ e') : ¬ OfTy w k e' := fun h' => hne (h.uniq h')

theorem two_make {B t u BA na ca : Nat} {ns ns' : List Nd} {aa : Option Addr} {al : List Att} {kind at' : Int} {name data : ByteArray} {w : World} (h : TwoAt B t u ns ns' w) (hA : w.ownsRow BA 67 2 (.slice aa na ca) na (al.flatMap attC)) (hal : al.length ≤ 1000000) (hk1 : 1 ≤ kind) (hk4 : kind ≤ 4) (hfew : ns.length + 1 ≤ 1000000) :
    Calls Try.prog 32 #[.pointer (some ⟨t, 0, none⟩), .agg #[.int .i64 kind, .int .i64 at', .string name, .string data, .slice aa na ca]] w fun e w' => e = .returned (.int .i64 (ns.length : Int)) ∧ TwoAt B t u (ns ++ [newNd kind at' name data al]) ns' w' ∧ Below B w w' ∧ Others w w' := by
  obtain ⟨g, cap, cs, gu, capu, rs, h1, h2, h3⟩ := h.ex
  have hlen := h1.len
  refine (make_att t B g cap BA cs kind at' name data aa na ca al w h1.tree hA hal hk1 hk4 (by omega)).mono ?_
  rintro e w' ⟨he, a2, c2, hm⟩
  rw [hlen] at he
  obtain ⟨g', cap', hF⟩ := fam_make h1 hm
  have hty : ∀ k, (k = t ∨ k = g) → OfTy w k 104 ∨ OfTy w k 101 := fun k e => by
    rcases e with rfl | rfl
    · exact .inl ⟨_, _, h1.tree.blk⟩
    · exact .inr (row_ty h1.tree.own rfl)
  have hR := h2.keepT hm.made.kept (fun k e => by
    rcases hty k e with h | h
    · exact ⟨⟨not_ty h (by decide), not_ty h (by decide), not_ty h (by decide)⟩, fun hk => absurd ((h2.kidTy hk).1.uniq h) (by decide)⟩
    · exact ⟨⟨not_ty h (by decide), not_ty h (by decide), not_ty h (by decide)⟩, fun hk => absurd ((h2.kidTy hk).1.uniq h) (by decide)⟩)
  refine ⟨he, ⟨_, _, _, _, _, _, hF, hR, fun k hk => ?_⟩, toBelow hm.made.kept h1.tree.le (fun k e => by
    rcases e with rfl | rfl
    · exact h1.tree.tB
    · exact h1.tree.gB.1), others_of hm.made.kept (fun k e => by
    rcases hty k e with h | h
    · exact .inl h
    · exact .inr (.inl h))⟩
  obtain ⟨i, c, hc, hb⟩ := hk
  rcases get_snoc hc with ⟨_, hc'⟩ | ⟨_, rfl⟩
  · exact h3 k ⟨i, c, hc', hb⟩
  · cases hb

theorem two_rmake {B t u na ca : Nat} {ns ns' : List Nd} {aa : Option Addr} {al : List Att} {kind at' pa : Int} {name data : ByteArray} {w : World} (h : TwoAt B t u ns ns' w) (hA : w.ownsRow B 77 2 (.slice aa na ca) na (al.flatMap attC)) (hk1 : 1 ≤ kind) (hk4 : kind ≤ 4) (hfew : ns'.length + 1 ≤ 1000000) :
    Calls Try.prog 34 #[.pointer (some ⟨u, 0, none⟩), .agg #[.int .i64 kind, .int .i64 at', .string name, .string data, .slice aa na ca, .int .i64 pa, .slice none 0 0]] w fun e w' => e = .returned (.int .i64 (ns'.length : Int)) ∧ TwoAt B t u ns (ns' ++ [newNd kind at' name data al]) w' ∧ Below B w w' ∧ Others w w' := by
  obtain ⟨g, cap, cs, gu, capu, rs, h1, h2, h3⟩ := h.ex
  have hlen := h2.len
  refine (rMake_any u B gu capu rs kind at' pa name data aa na ca w h2.tree hk1 hk4 (by omega)).mono ?_
  rintro e w' ⟨he, hm⟩
  have hm := hm.out
  rw [hlen] at he
  obtain ⟨g', cap', hF⟩ := rfam_make h2 hA hm
  have hty : ∀ k, (k = u ∨ k = gu) → OfTy w k 35 ∨ OfTy w k 80 := fun k e => by
    rcases e with rfl | rfl
    · exact .inl ⟨_, _, h2.tree.blk⟩
    · exact .inr (row_ty h2.tree.own rfl)
  have hR := h1.keepT hm.kept (fun k e => by
    rcases hty k e with h | h
    · exact ⟨⟨not_ty h (by decide), not_ty h (by decide), not_ty h (by decide)⟩, fun hk => absurd ((h1.kidTy hk).1.uniq h) (by decide)⟩
    · exact ⟨⟨not_ty h (by decide), not_ty h (by decide), not_ty h (by decide)⟩, fun hk => absurd ((h1.kidTy hk).1.uniq h) (by decide)⟩)
  refine ⟨he, ⟨_, _, _, _, _, _, hR, hF, fun k hk hk2 => ?_⟩, toBelow hm.kept h2.tree.le (fun k e => by
    rcases e with rfl | rfl
    · exact h2.tree.tB
    · exact h2.tree.gB.1), others_of hm.kept (fun k e => by
    rcases hty k e with h | h
    · exact .inr (.inr (.inl h))
    · exact .inr (.inr (.inr (.inl h))))⟩
  obtain ⟨i, c, hc, hb⟩ := hk2
  rcases get_snoc hc with ⟨_, hc'⟩ | ⟨_, rfl⟩
  · exact h3 k hk ⟨i, c, hc', hb⟩
  · cases hb

theorem two_put {B t u n p : Nat} {ns ns' : List Nd} {x xp : Nd} {w : World} (h : TwoAt B t u ns ns' w) (hx : ns[n]? = some x) (hxp : ns[p]? = some xp) (hne : n ≠ p) (hn0 : 0 < n) (hpar : x.parent = -1) (hxk : x.kids = []) (hkl : xp.kids.length ≤ 1000000) :
    Calls Try.prog 31 #[.pointer (some ⟨t, 0, none⟩), .int .i64 (n : Int), .int .i64 (p : Int), .int .i64 (-1)] w fun e w' => ∃ r, e = .returned (.int .i64 r) ∧ TwoAt B t u (putN ns n p) ns' w' ∧ Below B w w' ∧ Others w w' := by
  obtain ⟨g, cap, cs, gu, capu, rs, h1, h2, h3⟩ := h.ex
  obtain ⟨c, hc, hc1⟩ := h1.cell hx
  refine (fam_putC h1 hc hx hxp hne hn0 hpar hxk (h1.bare n c x hc hx hxk) hkl).mono ?_
  rintro e w' ⟨r, he, cs', hF, hK, hN⟩
  have hty : ∀ k, (k = g ∨ KidB cs k) → OfTy w k 101 ∨ (OfTy w k 3 ∧ KidB cs k) := fun k e => by
    rcases e with rfl | e
    · exact .inl (row_ty h1.tree.own rfl)
    · exact .inr ⟨(h1.kidTy e).1, e⟩
  have hR := h2.keepT hK (fun k e => by
    rcases hty k e with h | ⟨h, hk⟩
    · exact ⟨⟨not_ty h (by decide), not_ty h (by decide), not_ty h (by decide)⟩, fun hk => absurd ((h2.kidTy hk).1.uniq h) (by decide)⟩
    · exact ⟨⟨not_ty h (by decide), not_ty h (by decide), not_ty h (by decide)⟩, h3 k hk⟩)
  refine ⟨r, he, ⟨_, _, _, _, _, _, hF, hR, fun k hk hk2 => ?_⟩, toBelow hK h1.tree.le (fun k e => by
    rcases e with rfl | e
    · exact h1.tree.gB.1
    · exact (h1.kidTy e).2.1), others_of hK (fun k e => by
    rcases hty k e with h | ⟨h, _⟩
    · exact .inr (.inl h)
    · exact .inr (.inr (.inr (.inr h))))⟩
  rcases hN k hk with h | h
  · exact h3 k h hk2
  · have := (h2.kidTy hk2).2.2
    omega

theorem two_rput {B t u n p : Nat} {ns ns' : List Nd} {x xp : Nd} {w : World} (h : TwoAt B t u ns ns' w) (hok : NsTree ns') (hx : ns'[n]? = some x) (hxp : ns'[p]? = some xp) (hpn : p < n) (hpar : x.parent = -1) (hkl : xp.kids.length ≤ 1000000) :
    Calls Try.prog 35 #[.pointer (some ⟨u, 0, none⟩), .int .i64 (n : Int), .int .i64 (p : Int), .int .i64 (-1)] w fun e w' => ∃ r, e = .returned (.bool r) ∧ TwoAt B t u ns (putN ns' n p) w' ∧ Below B w w' ∧ Others w w' := by
  obtain ⟨g, cap, cs, gu, capu, rs, h1, h2, h3⟩ := h.ex
  obtain ⟨c, hc, hc1⟩ := h2.cell hx
  obtain ⟨cp, hcp, hcp1⟩ := h2.cell hxp
  have hnl := (List.getElem?_eq_some_iff.1 hc).1
  have e0 : putN ns' n p = if holdsN xp then putNd ns' n p x xp else ns' := by unfold putN; rw [hx, hxp]
  have hkk : (cp.kind == 0 || cp.kind == 2) = holdsN xp := by unfold holdsN; rw [hcp1.kind]
  cases hh : holdsN xp
  · refine (rPut_not u B gu capu rs n p cp w h2.tree hnl (by omega) hcp (by rw [hkk, hh])).mono ?_
    rintro e w' ⟨he, rfl⟩
    refine ⟨false, he, ?_, Below.refl _ _, fun _ _ _ _ _ _ _ _ => rfl⟩
    rw [e0, hh]
    exact h
  · have hU : UpOk rs := fun k c hc => by
      have hlt := (List.getElem?_eq_some_iff.1 hc).1
      have hy : ns'[k]? = some (ns'[k]'(by rw [← h2.len]; exact hlt)) := List.getElem?_eq_getElem _
      have hcy := h2.cel k c _ hc hy
      rcases hok.back k _ hy with e | ⟨q, z, e1, e2, e3⟩
      · exact .inl (by rw [hcy.parent]; exact e)
      · exact .inr ⟨q, by rw [hcy.parent]; exact e1, (hok.up q z e2 k e3).1⟩
    refine (rPut_end u B gu capu rs n p c cp xp.kids w h2.tree hc hcp hpn hU (by rw [hc1.parent]; exact hpar) (by rw [hkk, hh]) (h2.kids p cp xp hcp hxp) (h2.bare p cp xp hcp hxp) hkl).mono ?_
    rintro e w' ⟨he, hP⟩
    have hP := hP.out
    obtain ⟨rs', hF, hN⟩ := rfam_put h2 hc hcp hx hxp (by omega) hP
    have hty : ∀ k, k = gu → OfTy w k 80 := fun k e => by subst e; exact row_ty h2.tree.own rfl
    have hR := h1.keepT hP.kept (fun k e => by
      have h := hty k e
      exact ⟨⟨not_ty h (by decide), not_ty h (by decide), not_ty h (by decide)⟩, fun hk => absurd ((h1.kidTy hk).1.uniq h) (by decide)⟩)
    refine ⟨true, he, ?_, toBelow hP.kept h2.tree.le (fun k e => by subst e; exact h2.tree.gB.1), others_of hP.kept (fun k e => .inr (.inr (.inr (.inl (hty k e)))))⟩
    rw [e0, hh]
    refine ⟨_, _, _, _, _, _, hR, hF, fun k hk hk2 => ?_⟩
    rcases hN k hk2 with h | h
    · exact h3 k hk h
    · have := (h1.kidTy hk).2.2
      omega
end Go.Proofs.Ytjbfgiicaaljjaa
