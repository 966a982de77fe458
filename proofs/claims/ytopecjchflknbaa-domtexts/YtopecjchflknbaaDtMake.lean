/-
  The comment between the texts; what the tree holds in the end.
-/
import Derived.Test.YtopecjchflknbaaDtPhase
namespace Go.Proofs.Ytopecjchflknbaa
open Go.RowKit

theorem note_at (B t g cap : Nat) (l1 : List UInt8) (cs : List Cel) (cp : Cel) (w : World) (hT : TreeAt w t B g cap cs) (hcl : cs.length = oneIf l1 + 1) (hp : cs[0]? = some cp) (hkd : cp.kind = 0) (hO : w.ownsRow B 3 1 cp.kids (noteKids l1).length (intC (noteKids l1))) (ho : OldText w B cs l1) :
    Calls Try.prog 20 #[.pointer (some ⟨t, 0, none⟩), .agg #[.int .i64 4, .int .i64 0, .string ⟨#[]⟩, .string ⟨#[]⟩, .slice none 0 0]] w fun e w1 => ∃ n : Int, e = .returned (.int .i64 n) ∧ Hid (Calls Try.prog 15 #[.pointer (some ⟨t, 0, none⟩), .int .i64 n, .int .i64 0, .int .i64 (-1)] w1 fun e w2 => e = .returned (.int .i64 0) ∧ StageB B t l1 [] w2 ∧ RestP B w w2) := by
  have hf : oneIf l1 ≤ 1 := by unfold oneIf; split <;> omega
  have hkl : (noteKids l1).length ≤ 1000000 := by unfold noteKids; split <;> simp
  refine (make_any t B g cap cs 4 0 ⟨#[]⟩ ⟨#[]⟩ w hT (by decide) (by decide) (by omega)).mono ?_
  rintro e w1 ⟨rfl, h1⟩
  refine ⟨_, rfl, ?_⟩
  obtain ⟨g1, cap1, hT1, _⟩ := h1.tree
  have hO1 := kids_made hT hO h1
  have hz := (List.getElem?_eq_some_iff.1 hp).1
  show Calls _ _ _ _ _
  refine (put_new t B g1 cap1 (cs ++ [newCel 4 0 ⟨#[]⟩ ⟨#[]⟩]) cs.length 0 (newCel 4 0 ⟨#[]⟩ ⟨#[]⟩) cp (noteKids l1) w1 hT1 (by simp) (by rw [List.getElem?_append_left hz]; exact hp) (by omega) (by omega) rfl rfl (.inl hkd) hO1 hkl).mono ?_
  rintro e w2 ⟨rfl, h2⟩
  obtain ⟨hb, hr⟩ := bare_of hT hp hkd hO h1 hT1 h2
  obtain ⟨g2, cap2, cs2, cp2, cm, hT2, hp2, hkd2, hj, hO2, hm, hmk, hmd, hma, hmm, hl2⟩ := hb.tree
  refine ⟨rfl, .inl ⟨rfl, g2, cap2, cs2, cp2, cm, hT2, by omega, hp2, hkd2, ?_, ?_, ⟨hmk, hmd, hma, hmm⟩, ⟨fun hl => ?_⟩⟩, hr⟩
  · rw [← hcl]
    exact hO2
  · rw [← hcl]
    exact hm
  · obtain ⟨ct, h3, h4, h5⟩ := ho.out hl
    have h6 := (List.getElem?_eq_some_iff.1 h3).1
    exact ⟨ct, (hj 1 (by omega) h6).trans h3, h4, hb.old _ _ _ _ h5⟩

theorem note_any (B t : Nat) (l1 : List UInt8) (w : World) (h : StageA B t l1 w) :
    Calls Try.prog 20 #[.pointer (some ⟨t, 0, none⟩), .agg #[.int .i64 4, .int .i64 0, .string ⟨#[]⟩, .string ⟨#[]⟩, .slice none 0 0]] w fun e w1 => ∃ n : Int, e = .returned (.int .i64 n) ∧ Hid (Calls Try.prog 15 #[.pointer (some ⟨t, 0, none⟩), .int .i64 n, .int .i64 0, .int .i64 (-1)] w1 fun e w2 => e = .returned (.int .i64 0) ∧ StageB B t l1 [] w2 ∧ RestP B w w2) := by
  rcases h with ⟨rfl, g, cap, hT⟩ | ⟨hl, w0, hT⟩
  · exact note_at B t g cap [] [docCel] docCel w hT rfl rfl rfl (World.ownsRow_nil _ _ _ _) ⟨fun h => absurd rfl h⟩
  · obtain ⟨g, cap, cs, cp, cm, hT', hp, hkd, hj, hO, hm, hx, hM, hln⟩ := hT.tree
    refine note_at B t g cap l1 cs cp w hT' (by rw [hln]; simp [oneIf, hl]) hp hkd (by simpa [noteKids, hl] using hO) ⟨fun _ => ⟨cm, hm, hx, hM⟩⟩

/-- A node in the end. -/
structure NodeAt (w : World) (B : Nat) (cs : List Cel) (n : Nat) (kind : Int) (l : List UInt8) : Prop where
  out : ∃ c, cs[n]? = some c ∧ c.kind = kind ∧ c.data = ⟨#[]⟩ ∧ c.attrs = .slice none 0 0 ∧ w.ownsRow B 5 1 c.more l.length (byteC l)

def numKids (l1 l2 : List UInt8) : Nat := oneIf l1 + 1 + oneIf l2
/-- What the tree holds in the end. -/
structure DoneAt (B t : Nat) (l1 l2 : List UInt8) (w : World) : Prop where
  out : ∃ g cap cs cp, TreeAt w t B g cap cs ∧ cs[0]? = some cp ∧ w.ownsRow B 3 1 cp.kids ((List.range (numKids l1 l2)).map (· + 1)).length (intC ((List.range (numKids l1 l2)).map (· + 1))) ∧ (l1 ≠ [] → NodeAt w B cs 1 3 l1) ∧ NodeAt w B cs (oneIf l1 + 1) 4 [] ∧ (l2 ≠ [] → NodeAt w B cs (oneIf l1 + 2) 3 l2)

theorem kids_row (l1 : List UInt8) : noteKids l1 ++ [oneIf l1 + 1] = (List.range (oneIf l1 + 1)).map (· + 1) := by
  unfold noteKids oneIf
  split <;> rfl
theorem kids_row2 (l1 : List UInt8) : noteKids l1 ++ [oneIf l1 + 1] ++ [oneIf l1 + 2] = (List.range (oneIf l1 + 2)).map (· + 1) := by
  unfold noteKids oneIf
  split <;> rfl

theorem done_of (B t : Nat) (l1 l2 : List UInt8) (w : World) (h : StageB B t l1 l2 w) : DoneAt B t l1 l2 w := by
  rcases h with ⟨rfl, g, cap, cs, cp, cm, hT, hcl, hp, hkd, hO, hm, hn, ho⟩ | ⟨hl, w0, D, cs0, cm, hT, hBD, hD, hcl, hm, hn, ho⟩
  · refine ⟨g, cap, cs, cp, hT, hp, ?_, fun hl => ?_, ⟨cm, hm, hn.kind, hn.data, hn.attrs, ?_⟩, fun h => absurd rfl h⟩
    · rw [kids_row] at hO
      exact hO
    · obtain ⟨ct, h1, h2, h3⟩ := ho.out hl
      exact ⟨ct, h1, h2.kind, h2.data, h2.attrs, h3⟩
    · rw [hn.more]
      exact World.ownsRow_nil _ _ _ _
  · obtain ⟨g, cap, cs, cp, cx, hT', hp, hkd, hj, hO, hm', hx, hM, hln⟩ := hT.tree
    refine ⟨g, cap, cs, cp, hT', hp, ?_, fun hl1 => ?_, ⟨cm, (hj _ (by omega) (by omega)).trans hm, hn.kind, hn.data, hn.attrs, ?_⟩, fun _ => ⟨cx, ?_, hx.kind, hx.data, hx.attrs, owns_base hM hBD⟩⟩
    · rw [hcl, kids_row2] at hO
      have : numKids l1 l2 = oneIf l1 + 2 := by simp [numKids, oneIf, hl]
      rw [this]
      exact hO
    · obtain ⟨ct, h1, h2, h3⟩ := ho.out hl1
      have h6 := (List.getElem?_eq_some_iff.1 h1).1
      exact ⟨ct, (hj 1 (by omega) h6).trans h1, h2.kind, h2.data, h2.attrs, hT.old _ _ _ _ h3 (fun k hk => by rw [hD]; exact (owns_lt h3 k hk).2)⟩
    · rw [hn.more]
      exact World.ownsRow_nil _ _ _ _
    · rw [hcl] at hm'
      exact hm'

theorem DoneAt.below {B t : Nat} {l1 l2 : List UInt8} {w w' : World} (h : DoneAt B t l1 l2 w) (hb : Below w.heap.size w w') : DoneAt B t l1 l2 w' := by
  obtain ⟨g, cap, cs, cp, hT, hp, hO, h1, ⟨cm, h2, h3, h4, h5, h6⟩, h7⟩ := h.out
  have kp : Kept (fun _ => False) w w' := Kept.below hb
  refine ⟨g, cap, cs, cp, hT.below hb, hp, owns_kept hO kp (fun _ _ e => e), fun hl => ?_, ⟨cm, h2, h3, h4, h5, owns_kept h6 kp (fun _ _ e => e)⟩, fun hl => ?_⟩
  · obtain ⟨c, a1, a2, a3, a4, a5⟩ := (h1 hl).out
    exact ⟨c, a1, a2, a3, a4, owns_kept a5 kp (fun _ _ e => e)⟩
  · obtain ⟨c, a1, a2, a3, a4, a5⟩ := (h7 hl).out
    exact ⟨c, a1, a2, a3, a4, owns_kept a5 kp (fun _ _ e => e)⟩
end Go.Proofs.Ytopecjchflknbaa
