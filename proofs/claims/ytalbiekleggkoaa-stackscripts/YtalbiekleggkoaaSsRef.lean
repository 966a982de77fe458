/-
  The reference's rows: how many stay; the same as; turned round.
-/
import Derived.Test.YtalbiekleggkoaaSsUntil
namespace Go.Proofs.Ytalbiekleggkoaa
open Go.RowKit

/-- Items at the head of a block. -/
structure RcAt (w : World) (a : Option Addr) (l : List Itm) : Prop where
  at' : ∀ (i : Nat) (c : Itm), l[i]? = some c → ∃ g, a = some ⟨g, 0, none⟩ ∧ w.cell? ⟨g, i * 2, none⟩ = some (.int .i64 c.node) ∧ w.cell? ⟨g, i * 2 + 1, none⟩ = some (.string c.name)
theorem RcAt.below {w w' : World} {a : Option Addr} {l : List Itm} (h : RcAt w a l) (hb : Below w.heap.size w w') : RcAt w' a l := by
  refine ⟨fun i p hi => ?_⟩
  obtain ⟨g, h1, h2, h3⟩ := h.at' i p hi
  exact ⟨g, h1, (hb.cell (p := ⟨g, i * 2, none⟩) (World.block_lt_of_cell? _ _ h2)).trans h2, (hb.cell (p := ⟨g, i * 2 + 1, none⟩) (World.block_lt_of_cell? _ _ h3)).trans h3⟩
theorem RcAt.of_owns {w : World} {B n cap : Nat} {e : TypeId} {a : Option Addr} {l : List Itm} (h : w.ownsRow B e 2 (.slice a n cap) l.length (l.flatMap itmC)) : RcAt w a l := by
  refine ⟨fun i c hi => ?_⟩
  have hlt := (List.getElem?_eq_some_iff.1 hi).1
  rcases h.2 with ⟨hv, h0⟩ | ⟨g, cp, cur, hv, _⟩
  · omega
  · injection hv with e1 e2 e3
    subst e1 e2 e3
    have h0 := iflat_at l i 0 c _ hi rfl
    rw [Nat.add_zero] at h0
    exact ⟨g, rfl, owns_at h _ _ h0, owns_at h _ _ (iflat_at l i 1 c _ hi rfl)⟩

set_option maxRecDepth 100000 in
set_option maxHeartbeats 2000000 in
theorem refUntil (a : Option Addr) (cap : Nat) (l : List Itm) (nm : ByteArray) (w : World) (h : RcAt w a l) (hl : l.length ≤ 100000) :
    Calls Try.prog 12 #[.slice a l.length cap, .string nm] w fun e w' => e = .returned (.int .i64 (untilOf nm l : Int)) ∧ w' = w := by
  have HS : Hid _ := h
  have HU : Hid (untilOf nm l = (lastOf (nameP nm) l l.length).toNat) := rfl
  generalize untilOf nm l = u at *
  clear h
  go_enter Try.func12, Try.ntmps12
  go_wp2
  go_loop [5] (fun n => ∃ k : Nat, k ≤ l.length ∧ n = .int .i64 k ∧ Hid (lastOf (nameP nm) l l.length = lastOf (nameP nm) l k)) (fun n => (intOf n).toNat)
  case atStart => exact ⟨l.length, Nat.le_refl _, rfl, rfl⟩
  case round =>
    obtain ⟨k, hk, rfl, HE⟩ := hrel
    match k, hk, HE with
    | 0, _, HE =>
      have hu : u = 0 := by rw [HU.out, HE.out]; rfl
      subst hu
      clear HU HE HS
      go_wp2
      go_ret
      exact ⟨rfl, rfl⟩
    | k + 1, hk, HE =>
      obtain ⟨c, hc⟩ : ∃ c, l[k]? = some c := ⟨_, List.getElem?_eq_getElem (by omega)⟩
      obtain ⟨g, rfl, c0, c1⟩ := HS.out.at' k c hc
      have HL : Hid _ := lastOf_at (p := nameP nm) hc
      have hkI : (k : Int) < (l.length : Int) := by omega
      have hw1 : IntKind.i64.wrap (((k + 1 : Nat) : Int) - 1) = (k : Int) := by rw [IntKind.wrap_i64]; omega
      have hpos : (0 : Int) < ((k + 1 : Nat) : Int) := by omega
      clear hc c0
      cases hp : (c.name.toList == nm.toList)
      · have HR : Hid (lastOf (nameP nm) l l.length = lastOf (nameP nm) l k) := by
          rw [HE.out, HL.out, show nameP nm c = false from hp]
          rfl
        clear HE HL
        go_wp2
        go_round
        case rel => exact ⟨k, by omega, by go_num, HR⟩
        case measure => simp only [intOf]; go_num
      · have HR : Hid (u = k) := by
          rw [HU.out, HE.out, HL.out, show nameP nm c = true from hp]
          rfl
        clear HE HL HU
        go_wp2
        go_ret
        exact ⟨by rw [HR.out]; go_num, rfl⟩

set_option maxRecDepth 100000 in
set_option maxHeartbeats 4000000 in
theorem same_any (a1 a2 : Option Addr) (c1 c2 : Nat) (l : List Itm) (w : World) (h1 : RcAt w a1 l) (h2 : RcAt w a2 l) (hl : l.length ≤ 100000) :
    Calls Try.prog 13 #[.slice a1 l.length c1, .slice a2 l.length c2] w fun e w' => e = .returned (.bool true) ∧ Below w.heap.size w w' := by
  have H1 : Hid _ := h1
  have H2 : Hid _ := h2
  clear h1 h2
  go_enter Try.func13, Try.ntmps13
  go_wp2
  go_loopw [5] (fun i wr => ∃ k : Nat, k ≤ l.length ∧ i = .int .i64 k ∧ Hid (Below w.heap.size w wr)) (fun i _ => l.length - (intOf i).toNat)
  case atStart => exact ⟨0, Nat.zero_le _, rfl, Below.refl _ _⟩
  case round =>
    obtain ⟨k, hk, rfl, HB⟩ := hrel
    by_cases hlt : k < l.length
    · obtain ⟨c, hc⟩ : ∃ c, l[k]? = some c := ⟨_, List.getElem?_eq_getElem hlt⟩
      obtain ⟨g1, rfl, p0, p1⟩ := (H1.out.below HB.out).at' k c hc
      obtain ⟨g2, rfl, q0, q1⟩ := (H2.out.below HB.out).at' k c hc
      have hkI : (k : Int) < (l.length : Int) := by omega
      have hnn : (c.node != c.node) = false := by simp
      clear hc
      go_wp2_with fail
      go_quiet (fail)
      go_wp2
      go_roundw
      case rel => exact ⟨k + 1, by omega, by go_num, below_drawn HB.out _⟩
      case measure => simp only [intOf]; go_num
    · go_wp2
      go_ret
      exact ⟨rfl, HB.out⟩
end Go.Proofs.Ytalbiekleggkoaa
