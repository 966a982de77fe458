/-
  The elements of a document with one leaf; the statements' own trial; no tree.
-/
import Derived.Test.YtjbfgiicaaljjaaQuUnd
import Derived.Test.YtjbfgiicaaljjaaQwParts
namespace Go.Proofs.Ytjbfgiicaaljjaa
open Go.RowKit

/-- What is asked of a document with one leaf. -/
structure LeafAt (w : World) (t B g cap BA : Nat) (c0 c1 : Cel) (al : List Att) : Prop where
  tree : TreeAt w t B g cap [c0, c1]
  kids : w.ownsRow B 3 1 c0.kids 1 (intC [1])
  bare : c1.kids = .slice none 0 0
  kind : c1.kind = 2
  data : c1.data = ⟨#[]⟩
  more : c1.more = .slice none 0 0
  atts : w.ownsRow BA 67 2 c1.attrs al.length (al.flatMap attC)
  few : al.length ≤ 1000000

theorem LeafAt.below {w w' : World} {t B g cap BA : Nat} {c0 c1 : Cel} {al : List Att} (h : LeafAt w t B g cap BA c0 c1 al) (hb : Below w.heap.size w w') : LeafAt w' t B g cap BA c0 c1 al :=
  ⟨h.tree.below hb, owns_kept (out := fun _ => False) h.kids (Kept.below hb) (fun _ _ e => e), h.bare, h.kind, h.data, h.more, owns_kept (out := fun _ => False) h.atts (Kept.below hb) (fun _ _ e => e), h.few⟩

theorem empty_bytes (w : World) (B : Nat) : w.ownsRow B 5 1 (.slice none 0 0) ([] : List UInt8).length (byteC []) := World.ownsRow_nil _ _ _ _
theorem no_data (b : ByteArray) (h : b = ⟨#[]⟩) : b ++ (⟨([] : List UInt8).toArray⟩ : ByteArray) = ⟨#[]⟩ := by subst h; rfl

theorem LeafAt.get {w : World} {t B g cap BA : Nat} {c0 c1 : Cel} {al : List Att} (h : LeafAt w t B g cap BA c0 c1 al) :
    Calls Try.prog 20 #[.pointer (some ⟨t, 0, none⟩), .int .i64 1] w fun e w' => ∃ a2 c2, e = .returned (.tuple #[.agg #[.int .i64 2, .int .i64 c1.at', .string c1.name, .string ⟨#[]⟩, .slice a2 al.length c2], .bool true]) ∧ Hid (FreshA w a2 al.length c2 al w') := by
  have H := get_att t B g cap BA al.length [c0, c1] 1 c1 [] al w h.tree rfl (by rw [h.data]; exact Nat.zero_le _) (by rw [h.more]; exact empty_bytes _ _) h.atts h.few
  rw [h.kind, no_data _ h.data] at H
  exact H

theorem OutAt.below {R ob : Nat} {ks : List Nat} {w w' : World} (h : OutAt R ob ks w) (hb : Below w.heap.size w w') : OutAt R ob ks w' := by
  obtain ⟨⟨a, c, h1, h2⟩, h3⟩ := h
  exact ⟨⟨a, c, (hb.block ob (Array.getElem?_eq_some_iff.1 h1).1).trans h1, owns_kept (out := fun _ => False) h2 (Kept.below hb) (fun _ _ e => e)⟩, h3⟩
theorem OutAt.lt {R ob : Nat} {ks : List Nat} {w : World} (h : OutAt R ob ks w) : ob < w.heap.size := by
  obtain ⟨⟨a, c, h1, h2⟩, h3⟩ := h
  exact (Array.getElem?_eq_some_iff.1 h1).1

set_option maxRecDepth 100000 in
set_option maxHeartbeats 4000000 in
theorem each_one (t B g cap BA nb ob : Nat) (c0 c1 : Cel) (al : List Att) (w0 w : World) (h : LeafAt w0 t B g cap BA c0 c1 al) (hb : Below w0.heap.size w0 w) (hnb : w.cell? ⟨nb, 0, none⟩ = some (.slice none 0 0)) (hO : OutAt w0.heap.size ob [] w) :
    Calls Try.prog 43 #[.pointer (some ⟨t, 0, none⟩), .int .i64 0, undV nb ob] w fun e w' => e = .returned (.tuple #[]) ∧ Hid (OutAt w0.heap.size ob [1] w' ∧ Below w0.heap.size w0 w') := by
  have HK : Hid _ := kids_in t B g cap [c0, c1] 0 c0 [1] w (h.below hb).tree rfl (h.below hb).kids (by decide)
  have heg := enters_und
  have HL : Hid (∀ w', Below w0.heap.size w0 w' → LeafAt w' t B g cap BA c0 c1 al) := fun w' hb' => h.below hb'
  have HB : Hid _ := hb
  have HO : Hid _ := hO
  have HNB : Hid _ := hnb
  clear h hb hO hnb
  unfold undV
  go_enter Try.func43, Try.ntmps43
  go_wp2_with fail
  refine Calls.mono HK.out ?_
  rintro e w1 ⟨v, rfl, h1, h2⟩
  obtain ⟨gv, cv, rfl⟩ := Joins.ownsRow_form h1 (by decide)
  have hc : w1.cell? ⟨gv, 0, none⟩ = some (.int .i64 1) := owns_at h1 0 _ rfl
  have HB1 : Hid (Below w0.heap.size w0 w1) := HB.out.trans (h2.mono HB.out.size)
  have HO1 : Hid _ := HO.out.below h2
  have HNB1 : Hid (w1.cell? ⟨nb, 0, none⟩ = some (.slice none 0 0)) := (h2.cell (p := ⟨nb, 0, none⟩) (World.block_lt_of_cell? _ _ HNB.out)).trans HNB.out
  have HG : Hid _ := (HL.out w1 HB1.out).get
  clear h1 h2 HK HO HNB HB
  go_wp2
  go_loopg [14] 1 (fun k i wi => (k = 1 ∧ i = .int .i64 0 ∧ wi = w1) ∨ (k = 0 ∧ i = .int .i64 1 ∧ Hid (OutAt w0.heap.size ob [1] wi ∧ Below w0.heap.size w0 wi)))
  case atStart => exact .inl ⟨rfl, rfl, rfl⟩
  case round =>
    rcases hrel with ⟨rfl, rfl, hw⟩ | ⟨rfl, rfl, hI⟩
    · subst hw
      go_wp2_with fail
      refine Calls.mono HG.out ?_
      rintro e w2 ⟨a2, c2, rfl, h2⟩
      have hb2 := h2.out.2
      have HB2 : Hid _ := hb2
      have HX : Hid (∀ o : Obj, _) := fun o => und_el w0.heap.size nb ob 1 [] c1.at' c1.name ⟨#[]⟩ (.slice a2 al.length c2) (w2.alloc o) (Nat.zero_le _)
        (by rw [World.cell?_alloc_old _ _ _ (Nat.ne_of_lt (World.block_lt_of_cell? _ _ ((hb2.cell (p := ⟨nb, 0, none⟩) (World.block_lt_of_cell? _ _ HNB1.out)).trans HNB1.out)))]; exact (hb2.cell (p := ⟨nb, 0, none⟩) (World.block_lt_of_cell? _ _ HNB1.out)).trans HNB1.out)
        ((HO1.out.below hb2).below ((Below.refl _ _).alloc (Nat.le_refl _) o))
      have HBO : Hid (∀ o : Obj, Below w0.heap.size w0 (w2.alloc o)) := fun o => (HB1.out.trans (hb2.mono HB1.out.size)).alloc (Nat.le_trans HB1.out.size hb2.size) o
      clear h2 hb2 HG HB2 HO1 HNB1
      go_wp2_with fail
      refine Calls.mono (HX.out _) ?_
      rintro e w3 ⟨rfl, h3⟩
      have HB3 : Hid (Below w0.heap.size w0 w3) := (HBO.out _).trans h3.out.2
      have HO3 : Hid _ := h3.out.1
      have h4 := HL.out w3 HB3.out
      have HE : Hid (∀ f, _) := fun f => each_leaf t B g cap [c0, c1] 1 c1 f w3 h4.tree rfl (by rw [h4.bare]; exact World.ownsRow_nil _ _ _ _)
      clear h3 h4 HX HBO HL HB1
      go_wp2_with fail
      refine Calls.mono (HE.out _) ?_
      rintro e w4 ⟨rfl, h5⟩
      have HF : Hid (OutAt w0.heap.size ob [1] w4 ∧ Below w0.heap.size w0 w4) := ⟨HO3.out.below h5, HB3.out.trans (h5.mono HB3.out.size)⟩
      clear h5 HE HO3 HB3
      go_wp2
      go_roundg 0
      case rel => exact .inr ⟨rfl, rfl, HF⟩
      case measure => omega
    · clear HG HB1 HO1 HNB1 HL
      go_wp2
      go_end0
      exact ⟨rfl, hI⟩

set_option maxRecDepth 100000 in
set_option maxHeartbeats 4000000 in
theorem elements_one (t B g cap BA : Nat) (c0 c1 : Cel) (al : List Att) (w : World) (h : LeafAt w t B g cap BA c0 c1 al) :
    Calls Try.prog 11 #[.pointer (some ⟨t, 0, none⟩)] w fun e w' => ∃ a c, e = .returned (.slice a 1 c) ∧ Below w.heap.size w w' := by
  have HU : Hid (Calls Try.prog 19 #[.pointer (some ⟨t, 0, none⟩), .int .i64 0, .slice none 0 0] w fun e w' => ∃ a c, e = .returned (.slice a 1 c) ∧ Below w.heap.size w w') := by
    have heg := enters_und
    have HE : Hid _ := fun (w1 : World) (hb : Below w.heap.size w w1) hnb hO => each_one t B g cap BA w.heap.size (w.heap.size + 1) c0 c1 al w w1 h hb hnb hO
    have HB0 : Hid (Below w.heap.size w ((w.alloc (.cells #[.slice none 0 0] 23)).alloc (.cells #[.slice none 0 0] 30))) := ((Below.refl _ _).alloc (Nat.le_refl _) _).alloc (by simp) _
    have HO0 : Hid (OutAt w.heap.size (w.heap.size + 1) [] ((w.alloc (.cells #[.slice none 0 0] 23)).alloc (.cells #[.slice none 0 0] 30))) := ⟨⟨none, 0, by
      have h := heap_alloc_new (w.alloc (.cells #[.slice none 0 0] 23)) (.cells #[.slice none 0 0] 30)
      rw [World.size_alloc] at h
      exact h, World.ownsRow_nil _ _ _ _⟩, by omega⟩
    have HN0 : Hid (((w.alloc (.cells #[.slice none 0 0] 23)).alloc (.cells #[.slice none 0 0] 30)).cell? ⟨w.heap.size, 0, none⟩ = some (.slice none 0 0)) := by
      rw [World.cell?_alloc_old _ _ _ (by simp)]
      exact World.cell?_alloc_at _ _ _ 0 rfl
    clear h
    unfold undV at HE
    go_enter Try.func19, Try.ntmps19
    go_wp2_with fail
    refine Calls.mono (HE.out _ HB0.out HN0.out HO0.out) ?_
    rintro e w1 ⟨rfl, h1⟩
    obtain ⟨⟨a, c, hblk, _⟩, _⟩ := h1.out.1
    have hc : w1.cell? ⟨w.heap.size + 1, 0, none⟩ = some (.slice a 1 c) := by simp [World.cell?, hblk]
    have HB : Hid _ := h1.out.2
    clear h1 hblk HE HB0 HO0 HN0
    go_wp2
    go_ret
    exact ⟨_, _, rfl, HB.out⟩
  clear h
  go_enter Try.func11, Try.ntmps11
  go_wp2_with fail
  refine Calls.mono HU.out ?_
  rintro e w1 ⟨a, c, rfl, h1⟩
  have HB : Hid _ := h1
  clear h1 HU
  go_wp2
  go_ret
  exact ⟨_, _, rfl, HB.out⟩
end Go.Proofs.Ytjbfgiicaaljjaa
