/-
  The reference: is one of a name in a scope?
-/
import Derived.Test.YtalbiekleggkoaaSsTurn
import Derived.Test.YtalbiekleggkoaaScMath
import Derived.Deep.CutBlock
namespace Go.Proofs.Ytalbiekleggkoaa
open Go.RowKit

def nineEnds : List ByteArray := endsA ++ endsB
def refEnds (sc : Int) : List ByteArray := if sc = 1 then nineEnds ++ endsC else if sc = 2 then nineEnds ++ endsD else if sc = 3 then endsA else nineEnds
theorem isAm_app (a b : List ByteArray) (s : ByteArray) : isAm (a ++ b) s = (isAm a s || isAm b s) := by simp [isAm]
theorem endsCD (s : ByteArray) (h : isAm endsC s = true) : isAm endsD s = false := by
  simp only [isAm, endsC, endsD, List.any_cons, List.any_nil, Bool.or_false, Bool.or_eq_true, beq_iff_eq] at h ⊢
  rcases h with h | h
  · rw [h]; decide +kernel
  · rw [h]; decide +kernel
theorem refEnds_eq (sc : Int) (s : ByteArray) : isAm (refEnds sc) s = endsOf sc s := by
  have hcd := endsCD s
  unfold refEnds endsOf nineEnds
  by_cases h1 : sc = 1
  · subst h1
    rw [if_pos rfl, isAm_app, isAm_app]
    cases isAm endsA s <;> cases isAm endsB s <;> cases isAm endsC s <;> cases isAm endsD s <;> rfl
  · rw [if_neg h1]
    by_cases h2 : sc = 2
    · subst h2
      rw [if_pos rfl, isAm_app, isAm_app]
      cases isAm endsA s <;> cases isAm endsB s <;> cases hc : isAm endsC s <;> cases hd : isAm endsD s <;> first | rfl | (rw [hcd hc] at hd; cases hd)
    · rw [if_neg h2]
      have b1 : (sc == 1) = false := by simp [h1]
      have b2 : (sc == 2) = false := by simp [h2]
      by_cases h3 : sc = 3
      · subst h3
        rw [if_pos rfl]
        cases isAm endsA s <;> cases isAm endsB s <;> cases isAm endsC s <;> cases isAm endsD s <;> rfl
      · rw [if_neg h3, isAm_app]
        have b3 : (sc != 3) = true := by simp [h3]
        rw [b1, b2, b3]
        cases isAm endsA s <;> cases isAm endsB s <;> cases isAm endsC s <;> cases isAm endsD s <;> rfl

/-- The names that end a scope. -/
structure EndsAt (w wx : World) (sc : Int) (g n : Nat) (ls : List ByteArray) : Prop where
  at' : TextsAt wx g ls
  len : n = ls.length
  few : ls.length ≤ 20
  bel : Below w.heap.size w wx
  is : ls = refEnds sc

theorem texts_app (W : World) (g : Nat) (hg : g = W.heap.size) (ls : List ByteArray) (X Y Z : Array Value) (h : X ++ Y = (ls.map fun b => Value.string b).toArray) : TextsAt (W.alloc (.cells (X ++ (Y ++ Z)) 9)).drew g ls := by
  subst hg
  refine ⟨fun i hi => ?_, ?_⟩
  · show (W.alloc _).cell? _ = _
    rw [World.cell?_alloc_at _ _ _ _ rfl, ← Array.append_assoc, h, Array.getElem?_append_left (by simpa using hi)]
    simp [hi]
  · show _ < (W.alloc _).heap.size
    simp

theorem texts_app1 (W : World) (g : Nat) (hg : g = W.heap.size) (ls : List ByteArray) (X Z : Array Value) (h : X = (ls.map fun b => Value.string b).toArray) : TextsAt (W.alloc (.cells (X ++ Z) 9)).drew g ls := by
  subst hg
  refine ⟨fun i hi => ?_, ?_⟩
  · show (W.alloc _).cell? _ = _
    rw [World.cell?_alloc_at _ _ _ _ rfl, h, Array.getElem?_append_left (by simpa using hi)]
    simp [hi]
  · show _ < (W.alloc _).heap.size
    simp

theorem texts_pre (W : World) (ls ms : List ByteArray) : TextsAt (W.alloc (.cells ((ls ++ ms).map fun b => Value.string b).toArray 9)) W.heap.size ls := by
  refine ⟨fun i hi => ?_, by simp⟩
  rw [World.cell?_alloc_at _ _ _ _ rfl]
  simp only [List.map_append, List.getElem?_toArray]
  rw [List.getElem?_append_left (by simpa using hi)]
  simp
theorem nine_at (W : World) (ls ms : List ByteArray) (h : ls ++ ms = nineEnds) : TextsAt (W.alloc (.cells #[.string ⟨#[104, 116, 109, 108]⟩, .string ⟨#[116, 97, 98, 108, 101]⟩, .string ⟨#[116, 101, 109, 112, 108, 97, 116, 101]⟩, .string ⟨#[116, 100]⟩, .string ⟨#[116, 104]⟩, .string ⟨#[99, 97, 112, 116, 105, 111, 110]⟩, .string ⟨#[109, 97, 114, 113, 117, 101, 101]⟩, .string ⟨#[111, 98, 106, 101, 99, 116]⟩, .string ⟨#[97, 112, 112, 108, 101, 116]⟩] 9)) W.heap.size ls := by
  have := texts_pre W ls ms
  rw [h] at this
  exact this

set_option maxRecDepth 100000 in
set_option maxHeartbeats 4000000 in
theorem refIn (a : Option Addr) (cap : Nat) (sc : Int) (nm : ByteArray) (l : List Itm) (w : World) (h : RcAt w a l) (hl : l.length ≤ 100000) :
    Calls Try.prog 19 #[.slice a l.length cap, .int .i64 sc, .string nm] w fun e w' => e = .returned (.bool (inOf sc nm l)) ∧ Below w.heap.size w w' := by
  rw [inOf_eq]
  have HS : Hid _ := h
  clear h
  go_enter Try.func19, Try.ntmps19
  go_upto_block 0 with fail
  go_cut [7] (fun v wx => ∃ g cap n ls, v = .slice (some ⟨g, 0, none⟩) n cap ∧ Hid (EndsAt w wx sc g n ls))
  case first =>
    have HB : Hid (∀ o, Below w.heap.size w (w.alloc o)) := fun o => (Below.refl _ _).alloc (Nat.le_refl _) o
    have HB3 : Hid (∀ o o' o'', Below w.heap.size w (((w.alloc o).alloc o').alloc o'').drew) := fun o o' o'' => have b1 := HB.out o; have b2 := b1.alloc b1.size o'; (b2.alloc b2.size o'').drew
    by_cases h1 : sc = 1
    · subst h1
      go_wp2
      go_meet
      case rel => exact ⟨w.heap.size + 1 + 1, _, _, refEnds 1, rfl, ⟨texts_app ((w.alloc _).alloc _) _ (by simp) _ _ _ _ rfl, rfl, by decide, HB3.out _ _ _, rfl⟩⟩
    · by_cases h2 : sc = 2
      · subst h2
        go_wp2
        go_meet
        case rel =>
          refine ⟨w.heap.size + 1 + 1, _, _, refEnds 2, rfl, ?_⟩
          refine ⟨?_, rfl, by decide, HB3.out _ _ _, rfl⟩
          exact texts_app1 ((w.alloc _).alloc _) (w.heap.size + 1 + 1) (by simp) _ _ _ rfl
      · by_cases h3 : sc = 3
        · subst h3
          go_wp2
          go_meet
          case rel => exact ⟨_, _, _, refEnds 3, rfl, ⟨nine_at w endsA endsB rfl, rfl, by decide, HB.out _, rfl⟩⟩
        · have e1 : refEnds sc = nineEnds := by simp [refEnds, h1, h2, h3]
          have HE : Hid _ := e1
          have b1 : (sc == 1) = false := by simp [h1]
          have b2 : (sc == 2) = false := by simp [h2]
          have b3 : (sc == 3) = false := by simp [h3]
          clear e1 h1 h2 h3
          go_wp2
          go_meet
          case rel => exact ⟨_, _, _, refEnds sc, rfl, ⟨by rw [HE.out]; exact nine_at w nineEnds [] rfl, by rw [HE.out]; rfl, by rw [HE.out]; decide, HB.out _, rfl⟩⟩
  case rest =>
    obtain ⟨g, ec, n, ls, hv, HE⟩ := hcut
    subst hv
    obtain rfl := HE.out.len
    have HF := HE.out.few
    have HA : Hid (∀ s, Calls Try.prog 48 #[.slice (some ⟨g, 0, none⟩) ls.length ec, .string s] wc fun e w' => e = .returned (.bool (endsOf sc s)) ∧ w' = wc) := fun s => by
      have := among_any g ec ls s wc HE.out.at' (by omega)
      rw [HE.out.is, refEnds_eq] at this
      rw [HE.out.is]
      exact this
    have HB : Hid _ := HE.out.bel
    have HS1 : Hid _ := HS.out.below HE.out.bel
    clear HE HF HS
    go_wp2
    go_loop [8] (fun n => ∃ k : Nat, k ≤ l.length ∧ n = .int .i64 ((k : Int) - 1) ∧ Hid (inRec sc nm l l.length = inRec sc nm l k)) (fun n => (intOf n + 1).toNat)
    case atStart => exact ⟨l.length, Nat.le_refl _, by go_num, rfl⟩
    case round =>
      obtain ⟨k, hk, rfl, HR⟩ := hrel
      match k, hk, HR with
      | 0, _, HR =>
        have HR2 : Hid (inRec sc nm l l.length = false) := HR.out
        clear HR HA HS1
        go_wp2
        go_ret
        exact ⟨by rw [HR2.out]; rfl, HB.out⟩
      | m + 1, hk, HR =>
        have hm1 : ((m + 1 : Nat) : Int) - 1 = (m : Int) := by omega
        simp only [hm1]
        obtain ⟨c, hc⟩ : ∃ c, l[m]? = some c := ⟨_, List.getElem?_eq_getElem (by omega)⟩
        obtain ⟨g, rfl, c0, c1⟩ := HS1.out.at' m c hc
        have hml : (m : Int) < (l.length : Int) := by omega
        have hm0 : (0 : Int) ≤ (m : Int) := by omega
        have hs : inRec sc nm l (m + 1) = if c.name.toList == nm.toList then true else if endsOf sc c.name then false else inRec sc nm l m := by
          rw [inRec, hc]
        have HX : Hid _ := hs
        clear hs hc c0
        cases hn : (c.name.toList == nm.toList)
        · have HC : Hid _ := HA.out c.name
          cases he : endsOf sc c.name
          · have HR2 : Hid (inRec sc nm l l.length = inRec sc nm l m) := by
              show _ = _
              rw [HR.out, HX.out, hn, he]
              rfl
            rw [he] at HC
            clear HR HX he
            go_wp2_with fail
            refine Calls.mono HC.out ?_
            rintro e w1 ⟨rfl, rfl⟩
            go_wp2
            go_round
            case rel => exact ⟨m, by omega, by go_num, HR2⟩
            case measure => simp only [intOf]; go_num
          · have HR2 : Hid (inRec sc nm l l.length = false) := by
              show _ = _
              rw [HR.out, HX.out, hn, he]
              rfl
            rw [he] at HC
            clear HR HX he
            go_wp2_with fail
            refine Calls.mono HC.out ?_
            rintro e w1 ⟨rfl, rfl⟩
            go_wp2
            go_ret
            exact ⟨by rw [HR2.out]; rfl, HB.out⟩
        · have HR2 : Hid (inRec sc nm l l.length = true) := by
            show _ = _
            rw [HR.out, HX.out, hn]
            rfl
          clear HR HX
          go_wp2
          go_ret
          exact ⟨by rw [HR2.out]; rfl, HB.out⟩
end Go.Proofs.Ytalbiekleggkoaa
