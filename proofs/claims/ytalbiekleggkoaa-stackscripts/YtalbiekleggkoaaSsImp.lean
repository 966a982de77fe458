/-
  The reference: how many stay when those that end by themselves go.
-/
import Derived.Test.YtalbiekleggkoaaSsAmong
namespace Go.Proofs.Ytalbiekleggkoaa
open Go.RowKit

def impCells : List Value := impNames.map fun b => .string b
theorem impNames_at (w : World) : TextsAt (w.alloc (.cells impCells.toArray 9)) w.heap.size impNames := by
  refine ⟨fun i hi => ?_, by simp⟩
  rw [World.cell?_alloc_at _ _ _ _ rfl]
  simp [impCells, hi]
theorem impAmong (s : ByteArray) (w : World) : Calls Try.prog 48 #[.slice (some ⟨w.heap.size, 0, none⟩) 10 10, .string s] (w.alloc (.cells impCells.toArray 9)) fun e w' => e = .returned (.bool (isAm impNames s)) ∧ w' = w.alloc (.cells impCells.toArray 9) :=
  among_any w.heap.size 10 impNames s _ (impNames_at w) (by decide)

set_option maxRecDepth 100000 in
set_option maxHeartbeats 2000000 in
theorem refImplied (a : Option Addr) (cap : Nat) (l : List Itm) (nm : ByteArray) (w : World) (h : RcAt w a l) (hl : l.length ≤ 100000) :
    Calls Try.prog 16 #[.slice a l.length cap, .string nm] w fun e w' => e = .returned (.int .i64 (impOf nm l : Int)) ∧ Below w.heap.size w w' := by
  have HS : Hid _ := h
  have HU : Hid (impOf nm l = (lastOf (stayP nm) l l.length + 1).toNat) := rfl
  generalize impOf nm l = u at *
  clear h
  go_enter Try.func16, Try.ntmps16
  go_wp2
  go_loopw [5] (fun n wr => ∃ k : Nat, k ≤ l.length ∧ n = .int .i64 k ∧ Hid (Below w.heap.size w wr) ∧ Hid (lastOf (stayP nm) l l.length = lastOf (stayP nm) l k)) (fun n _ => (intOf n).toNat)
  case atStart => exact ⟨l.length, Nat.le_refl _, rfl, Below.refl _ _, rfl⟩
  case round =>
    obtain ⟨k, hk, rfl, HB, HE⟩ := hrel
    match k, hk, HE with
    | 0, _, HE =>
      have hu : u = 0 := by rw [HU.out, HE.out]; rfl
      subst hu
      clear HU HE HS
      go_wp2
      go_ret
      exact ⟨rfl, HB.out⟩
    | k + 1, hk, HE =>
      obtain ⟨c, hc⟩ : ∃ c, l[k]? = some c := ⟨_, List.getElem?_eq_getElem (by omega)⟩
      obtain ⟨g, rfl, c0, c1⟩ := (HS.out.below HB.out).at' k c hc
      have HL : Hid _ := lastOf_at (p := stayP nm) hc
      have hkI : (k : Int) < (l.length : Int) := by omega
      have hw1 : IntKind.i64.wrap (((k + 1 : Nat) : Int) - 1) = (k : Int) := by rw [IntKind.wrap_i64]; omega
      have hpos : (0 : Int) < ((k + 1 : Nat) : Int) := by omega
      clear hc c0
      cases hp : (c.name.toList == nm.toList)
      · have HA : Hid (∀ w, _) := fun w => impAmong c.name w
        have hs1 : stayP nm c = !isAm impNames c.name := by simp [stayP, hp]
        have HS1 : Hid _ := hs1
        clear hs1
        have HW : Hid (∀ o, Below w.heap.size w (wr.alloc o)) := fun o => HB.out.alloc HB.out.size o
        have k1 : ∀ o, (wr.alloc o).cell? ⟨g, k * 2 + 1, none⟩ = some (.string c.name) := fun o => (((Below.refl wr.heap.size wr).alloc (Nat.le_refl _) o).cell (p := ⟨g, k * 2 + 1, none⟩) (World.block_lt_of_cell? _ _ c1)).trans c1
        generalize isAm impNames c.name = r at *
        go_wp2_with fail
        refine Calls.mono (HA.out _) ?_
        rintro e w1 ⟨rfl, rfl⟩
        cases r
        · have HR : Hid (u = k + 1) := by
            rw [HU.out, HE.out, HL.out, HS1.out]
            show ((k : Int) + 1).toNat = k + 1
            omega
          clear HE HL HU HS1 HA k1
          go_wp2
          go_ret
          exact ⟨by rw [HR.out]; rfl, HW.out _⟩
        · have HR : Hid (lastOf (stayP nm) l l.length = lastOf (stayP nm) l k) := by
            rw [HE.out, HL.out, HS1.out]
            rfl
          clear HE HL HS1 HA k1
          go_wp2
          go_roundw
          case rel => exact ⟨k, by omega, by go_num, HW.out _, HR⟩
          case measure => simp only [intOf]; go_num
      · have HR : Hid (u = k + 1) := by
          rw [HU.out, HE.out, HL.out, show stayP nm c = true from by simp [stayP, hp]]
          show ((k : Int) + 1).toNat = k + 1
          omega
        clear HE HL HU
        go_wp2
        go_ret
        exact ⟨by rw [HR.out]; rfl, HB.out⟩
end Go.Proofs.Ytalbiekleggkoaa
