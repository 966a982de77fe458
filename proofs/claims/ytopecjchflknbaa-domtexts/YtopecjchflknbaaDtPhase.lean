/-
  What the tree holds while texts are written: two stages, one face.
-/
import Derived.Test.YtopecjchflknbaaDtNote2
import Derived.Test.YtopecjchflknbaaDmGet
import Derived.Test.YtopecjchflknbaaDmKids
namespace Go.Proofs.Ytopecjchflknbaa
open Go.RowKit

theorem u8_of (n : Nat) : n.toUInt8 = UInt8.ofNat n := rfl

/-- A scalar's octets, as the model and as the library has them. -/
theorem enc_eq (v : Int) (h : scalarI v = true) : Utf8.encode v = ⟨(Lib.encodeRune v).toArray⟩ := by
  unfold scalarI at h
  simp only [Bool.and_eq_true, Bool.or_eq_true, decide_eq_true_eq] at h
  obtain ⟨⟨h0, h1⟩, h2⟩ := h
  obtain ⟨c, rfl⟩ := Int.eq_ofNat_of_zero_le h0
  have hv : Utf8.valid (c : Int) = true := by unfold Utf8.valid; simp; omega
  unfold Utf8.encode
  simp only [hv, if_true, Int.toNat_natCast]
  unfold Lib.encodeRune
  by_cases c1 : c < 128
  · rw [if_pos c1, Lib.encodeRuneZ_one (by omega) (by omega)]
    simp
  · rw [if_neg c1]
    by_cases c2 : c < 2048
    · rw [if_pos c2, Lib.encodeRuneZ_two (by omega) (by omega)]
      simp only [List.map_cons, List.map_nil, u8_of]
      rw [show ((192 : Int) + (c : Int) / 64).toNat = 192 + c / 64 by omega, show ((128 : Int) + (c : Int) % 64).toNat = 128 + c % 64 by omega]
    · rw [if_neg c2]
      by_cases c3 : c < 65536
      · rw [if_pos c3, Lib.encodeRuneZ_three (by omega)]
        simp only [List.map_cons, List.map_nil, u8_of]
        rw [show ((224 : Int) + (c : Int) / 4096).toNat = 224 + c / 4096 by omega, show ((128 : Int) + (c : Int) / 64 % 64).toNat = 128 + c / 64 % 64 by omega, show ((128 : Int) + (c : Int) % 64).toNat = 128 + c % 64 by omega]
      · rw [if_neg c3, Lib.encodeRuneZ_four (by omega) (by omega)]
        simp only [List.map_cons, List.map_nil, u8_of]
        rw [show ((240 : Int) + (c : Int) / 262144).toNat = 240 + c / 262144 by omega, show ((128 : Int) + (c : Int) / 4096 % 64).toNat = 128 + c / 4096 % 64 by omega, show ((128 : Int) + (c : Int) / 64 % 64).toNat = 128 + c / 64 % 64 by omega, show ((128 : Int) + (c : Int) % 64).toNat = 128 + c % 64 by omega]

theorem enc_len (v : Int) : 1 ≤ (Lib.encodeRune v).length ∧ (Lib.encodeRune v).length ≤ 4 := by
  have := Lib.runeCells_le v
  rw [Lib.runeCells_length] at this
  exact this
theorem enc_some (l : List UInt8) (v : Int) : l ++ Lib.encodeRune v ≠ [] := by
  intro h
  have := enc_len v
  have e := congrArg List.length h
  rw [List.length_append, List.length_nil] at e
  omega

def maskI (z : Int) : Int := bits .and .i64 z 2097151
/-- The octets of the first n numbers of a list, as far as they are scalars. -/
def encOf (Z : List Int) : Nat → List UInt8
  | 0 => []
  | n + 1 => encOf Z n ++ (match Z[n]? with
    | some z => if scalarI (maskI z) then Lib.encodeRune (maskI z) else []
    | none => [])
theorem encOf_yes {Z : List Int} {n : Nat} {z : Int} (h : Z[n]? = some z) (hs : scalarI (maskI z) = true) : encOf Z (n + 1) = encOf Z n ++ Lib.encodeRune (maskI z) := by rw [encOf, h]; simp [hs]
theorem encOf_no {Z : List Int} {n : Nat} {z : Int} (h : Z[n]? = some z) (hs : scalarI (maskI z) = false) : encOf Z (n + 1) = encOf Z n := by rw [encOf, h]; simp [hs]
theorem encOf_len (Z : List Int) : ∀ n, (encOf Z n).length ≤ 4 * n := by
  intro n
  induction n with
  | zero => simp [encOf]
  | succ n ih =>
    rw [encOf, List.length_append]
    split
    · split
      · have := (enc_len (maskI ‹_›)).2
        omega
      · simp
        omega
    · simp
      omega

/-- A row doesn't lie in a block of another kind. -/
theorem owns_off {w : World} {B : Nat} {e T : TypeId} {sz n : Nat} {v : Value} {xs : List Value} {wb : Nat} {c : Array Value} {f : Nat × Nat} (h : w.ownsRow B e sz v n xs) (hw : w.heap[wb]? = some (Obj.cells c T f)) (hne : T ≠ e) : ∀ k, v.ownBlock = some k → ¬ k = wb := by
  intro k hk e1
  subst e1
  obtain ⟨_, c', f', h2⟩ := owns_cells h hk
  rw [hw] at h2
  simp only [Option.some.injEq, Obj.cells.injEq] at h2
  exact hne h2.2.1
theorem owns_base {w : World} {B B' : Nat} {e : TypeId} {sz n : Nat} {v : Value} {xs : List Value} (h : w.ownsRow B e sz v n xs) (hB : B' ≤ B) : w.ownsRow B' e sz v n xs := by
  refine ⟨h.1, ?_⟩
  rcases h.2 with h1 | ⟨g, cap, cur, hv, hg, rest⟩
  · exact .inl h1
  · exact .inr ⟨g, cap, cur, hv, Nat.le_trans hB hg, rest⟩
theorem TreeAt.stay {w w' : World} {t B g cap : Nat} {cs : List Cel} {wb : Nat} {c : Array Value} {f : Nat × Nat} (h : TreeAt w t B g cap cs) (hk : Kept (fun k => k = wb) w w') (hw : w.heap[wb]? = some (Obj.cells c 60 f)) : TreeAt w' t B g cap cs := by
  refine h.kept hk ?_ (owns_off h.own hw (by decide) g rfl)
  intro e
  have e1 := h.blk
  rw [e, hw] at e1
  simp only [Option.some.injEq, Obj.cells.injEq] at e1
  exact absurd e1.2.1 (by decide)
theorem TextAt.stay {w0 w w' : World} {D t B : Nat} {cs0 : List Cel} {ks0 : List Nat} {l : List UInt8} {wb : Nat} {c : Array Value} {f : Nat × Nat} (h : TextAt w0 w D t B cs0 ks0 l) (hk : Kept (fun k => k = wb) w w') (hw : w.heap[wb]? = some (Obj.cells c 60 f)) : TextAt w0 w' D t B cs0 ks0 l := by
  obtain ⟨g, cap, cs, cp, cm, hT, hp, hkd, hj, hO, hm, hx, hM, hln⟩ := h.tree
  refine ⟨⟨g, cap, cs, cp, cm, hT.stay hk hw, hp, hkd, hj, owns_kept hO hk (owns_off hO hw (by decide)), hm, hx, owns_kept hM hk (owns_off hM hw (by decide)), hln⟩, ?_, Nat.le_trans h.size hk.size, h.zero⟩
  intro b v n xs h1 h2
  have h3 := h.old b v n xs h1 h2
  exact owns_kept h3 hk (owns_off h3 hw (by decide))

/-- The face of a stage: what may be done with its text. -/
structure Face (B t wb : Nat) (P : List UInt8 → World → Prop) : Prop where
  write : ∀ l w v at', P l w → scalarI v = true → l.length ≤ 1000 → Calls Try.prog 23 #[.pointer (some ⟨t, 0, none⟩), .int .i64 v, .int .i64 at', .int .i64 0, .int .i64 (-1)] w fun e w' => e = .returned (.int .i64 0) ∧ P (l ++ Lib.encodeRune v) w' ∧ RestP B w w'
  bad : ∀ l w v at', P l w → scalarI v = false → Calls Try.prog 23 #[.pointer (some ⟨t, 0, none⟩), .int .i64 v, .int .i64 at', .int .i64 0, .int .i64 (-1)] w fun e w' => e = .returned (.int .i64 1) ∧ w' = w
  stay : ∀ l w w' c f, P l w → Kept (fun k => k = wb) w w' → w.heap[wb]? = some (Obj.cells c 60 f) → P l w'

/-- The first stage: a text alone, or none yet. -/
def StageA (B t : Nat) (l : List UInt8) (w : World) : Prop :=
  (l = [] ∧ ∃ g cap, TreeAt w t B g cap [docCel]) ∨ (l ≠ [] ∧ ∃ w0, TextAt w0 w B t B [docCel] [] l)

theorem stageA_face (B t wb : Nat) : Face B t wb (StageA B t) := by
  refine ⟨?_, ?_, ?_⟩
  · intro l w v at' h hv hl
    rcases h with ⟨rfl, g, cap, hT⟩ | ⟨_, w0, hT⟩
    · refine (text_first t B g cap [docCel] docCel v at' w hT rfl rfl rfl hv (by decide)).mono ?_
      rintro e w' ⟨he, h1, h2⟩
      exact ⟨he, .inr ⟨enc_some _ _, w, h1⟩, h2⟩
    · refine (text_more w0 w B t B [docCel] [] l v at' hT hv (by omega) (by decide) (Nat.le_refl _)).mono ?_
      rintro e w' ⟨he, h1, h2⟩
      exact ⟨he, .inr ⟨enc_some _ _, w0, h1⟩, h2⟩
  · intro l w v at' h hv
    rcases h with ⟨rfl, g, cap, hT⟩ | ⟨_, w0, hT⟩
    · exact write_bad t B g cap [docCel] 0 docCel v at' w hT rfl (.inl rfl) hv
    · obtain ⟨g, cap, cs, cp, cm, hT', hp, hkd, _⟩ := hT.tree
      exact write_bad t B g cap cs 0 cp v at' w hT' hp (.inl hkd) hv
  · intro l w w' c f h hk hw
    rcases h with ⟨rfl, g, cap, hT⟩ | ⟨hl, w0, hT⟩
    · exact .inl ⟨rfl, g, cap, hT.stay hk hw⟩
    · exact .inr ⟨hl, w0, hT.stay hk hw⟩

/-- How many nodes the first text makes. -/
def oneIf (l : List UInt8) : Nat := if l = [] then 0 else 1
/-- The first text stands among the nodes. -/
structure OldText (w : World) (B : Nat) (cs : List Cel) (l1 : List UInt8) : Prop where
  out : l1 ≠ [] → ∃ ct, cs[1]? = some ct ∧ TextCel ct ∧ w.ownsRow B 5 1 ct.more l1.length (byteC l1)
/-- A comment. -/
structure NoteCel (c : Cel) : Prop where
  kind : c.kind = 4
  data : c.data = ⟨#[]⟩
  attrs : c.attrs = .slice none 0 0
  more : c.more = .slice none 0 0

def noteKids (l1 : List UInt8) : List Nat := if l1 = [] then [] else [1]

/-- The second stage: behind a comment. -/
def StageB (B t : Nat) (l1 l : List UInt8) (w : World) : Prop :=
  (l = [] ∧ ∃ g cap cs cp cm, TreeAt w t B g cap cs ∧ cs.length = oneIf l1 + 2 ∧ cs[0]? = some cp ∧ cp.kind = 0 ∧ w.ownsRow B 3 1 cp.kids (noteKids l1 ++ [oneIf l1 + 1]).length (intC (noteKids l1 ++ [oneIf l1 + 1])) ∧ cs[oneIf l1 + 1]? = some cm ∧ NoteCel cm ∧ OldText w B cs l1) ∨
  (l ≠ [] ∧ ∃ w0 D cs cm, TextAt w0 w D t B cs (noteKids l1 ++ [oneIf l1 + 1]) l ∧ B ≤ D ∧ D = w0.heap.size ∧ cs.length = oneIf l1 + 2 ∧ cs[oneIf l1 + 1]? = some cm ∧ NoteCel cm ∧ OldText w0 B cs l1)

theorem OldText.stay {w w' : World} {B wb : Nat} {cs : List Cel} {l1 : List UInt8} {c : Array Value} {f : Nat × Nat} (h : OldText w B cs l1) (hk : Kept (fun k => k = wb) w w') (hw : w.heap[wb]? = some (Obj.cells c 60 f)) : OldText w' B cs l1 :=
  ⟨fun hl => by
    obtain ⟨ct, h1, h2, h3⟩ := h.out hl
    exact ⟨ct, h1, h2, owns_kept h3 hk (owns_off h3 hw (by decide))⟩⟩

theorem stageB_face (B t wb : Nat) (l1 : List UInt8) : Face B t wb (StageB B t l1) := by
  refine ⟨?_, ?_, ?_⟩
  · intro l w v at' h hv hl
    rcases h with ⟨rfl, g, cap, cs, cp, cm, hT, hcl, hp, hkd, hO, hm, hn, ho⟩ | ⟨_, w0, D, cs, cm, hT, hBD, hD, hcl, hm, hn, ho⟩
    · refine (text_behind w.heap.size t B g cap cs (oneIf l1 + 1) cp cm (noteKids l1) v at' w (Nat.le_refl _) hT hp hm hkd (by rw [hn.kind]; decide) hO (by unfold noteKids; split <;> decide) hv (by rw [hcl]; unfold oneIf; split <;> decide)).mono ?_
      rintro e w' ⟨he, h1, h2⟩
      exact ⟨he, .inr ⟨enc_some _ _, w, w.heap.size, cs, cm, h1, hT.le, rfl, hcl, hm, hn, ho⟩, h2⟩
    · refine (text_more w0 w D t B cs _ l v at' hT hv (by omega) (by unfold noteKids; split <;> simp) hBD).mono ?_
      rintro e w' ⟨he, h1, h2⟩
      exact ⟨he, .inr ⟨enc_some _ _, w0, D, cs, cm, h1, hBD, hD, hcl, hm, hn, ho⟩, h2⟩
  · intro l w v at' h hv
    rcases h with ⟨rfl, g, cap, cs, cp, cm, hT, hcl, hp, hkd, _⟩ | ⟨_, w0, D, cs, cm, hT, _⟩
    · exact write_bad t B g cap cs 0 cp v at' w hT hp (.inl hkd) hv
    · obtain ⟨g, cap, cs, cp, cm, hT', hp, hkd, _⟩ := hT.tree
      exact write_bad t B g cap cs 0 cp v at' w hT' hp (.inl hkd) hv
  · intro l w w' c f h hk hw
    rcases h with ⟨rfl, g, cap, cs, cp, cm, hT, hcl, hp, hkd, hO, hm, hn, ho⟩ | ⟨hl, w0, D, cs, cm, hT, hBD, hD, hcl, hm, hn, ho⟩
    · exact .inl ⟨rfl, g, cap, cs, cp, cm, hT.stay hk hw, hcl, hp, hkd, owns_kept hO hk (owns_off hO hw (by decide)), hm, hn, ho.stay hk hw⟩
    · exact .inr ⟨hl, w0, D, cs, cm, hT.stay hk hw, hBD, hD, hcl, hm, hn, ho⟩
end Go.Proofs.Ytopecjchflknbaa
