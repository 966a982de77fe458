/-
  A mode is told; the end is told; what was wrong is asked.
-/
import Derived.Test.YtgdjknbbjpcoiaaGreatDoorLxSpeaks
import Derived.Laws.BytesArg
namespace Go.Proofs.YtgdjknbbjpcoiaaGreatDoor
open Go.RowKit

def titleL : List UInt8 := [116, 105, 116, 108, 101]

/-- The bytes of a block, none of them frozen. -/
structure LxRow (w : World) (b : Nat) (l : List UInt8) : Prop where
  cell : ∀ j c, l[j]? = some c → w.cell? ⟨b, j, none⟩ = some (.int .u8 (c.toNat : Int))
  frozen : ∀ j, j < l.length → w.frozen? ⟨b, j, none⟩ = false

theorem LxRow.same {w : World} {b : Nat} {l : List UInt8} (h : LxRow w b l) (k : Nat) (c : UInt8) (hk : l[k]? = some c) (u : Int) (hu : u = (c.toNat : Int)) : LxRow (w.setCell ⟨b, k, none⟩ (.int .u8 u)) b l := by
  subst hu
  refine ⟨fun j d hj => ?_, fun j hj => by rw [World.frozen?_setCell]; exact h.frozen j hj⟩
  by_cases e : j = k
  · subst e
    rw [hk] at hj
    obtain rfl := Option.some.inj hj
    exact World.cell?_setCell_same _ _ _ (h.cell j c hk)
  · rw [World.cell?_setCell_other _ _ _ _ (by intro x; injection x with _ x _; exact e x.symm)]
    exact h.cell j d hj

theorem lxRow_new (w : World) (s : ByteArray) (cap : Nat) : LxRow ((w.alloc (.cells (bytesRow s cap) 5 ((bytesRow s cap).size, (bytesRow s cap).size + 1))).drew) w.heap.size s.data.toList := by
  refine ⟨fun j c hj => ?_, fun j hj => ?_⟩
  · obtain ⟨hl, e⟩ := List.getElem?_eq_some_iff.1 hj
    have hl' : j < s.data.size := by simpa using hl
    rw [World.cell?_drew, World.cell?_alloc_mark, bytesRow_at s cap j hl']
    subst e
    simp
  · rw [World.frozen?_drew, World.frozen?_alloc_mark]
    have : s.data.size ≤ (bytesRow s cap).size := by simp [bytesRow]
    have hj' : j < s.data.size := by simpa using hj
    have : ¬ (bytesRow s cap).size ≤ j := by omega
    simp [this]

theorem LxRow.back {w : World} {b : Nat} {l : List UInt8} (h : LxRow w b l) (cap : Nat) : (convert 87 9 (.slice (some ⟨b, 0, none⟩) l.length cap)).run Tryz.prog w = .ok (.string ⟨l.toArray⟩) w :=
  run_convert_bytes_back w 87 9 5 ⟨b, 0, none⟩ cap l Tryz.underlying87 Tryz.underlying5 Tryz.underlying9 (fun j hj => by
    rw [addr_at]
    exact h.cell j l[j] (List.getElem?_eq_getElem hj))

set_option maxRecDepth 100000 in
set_option maxHeartbeats 1000000 in
theorem smallText_title (w : World) : Calls Tryz.prog 46 #[.string ⟨#[116, 105, 116, 108, 101]⟩] w fun e w' => e = .returned (.string ⟨#[116, 105, 116, 108, 101]⟩) ∧ Below w.heap.size w w' := by
  have hconv := run_bytes_of_string (P := Tryz.prog) w 9 87 5 ⟨#[116, 105, 116, 108, 101]⟩ Tryz.underlying9 Tryz.underlying87 Tryz.underlying5
  have hR := lxRow_new w ⟨#[116, 105, 116, 108, 101]⟩ (grownCap w (ByteArray.size ⟨#[116, 105, 116, 108, 101]⟩) 0 5)
  rw [show ByteArray.size ⟨#[116, 105, 116, 108, 101]⟩ = 5 from rfl] at hconv hR
  generalize grownCap w 5 0 5 = cap at hconv hR
  generalize bytesRow ⟨#[116, 105, 116, 108, 101]⟩ cap = C at hconv hR
  have HR : Hid (LxRow ((w.alloc (.cells C 5 (C.size, C.size + 1))).drew) w.heap.size titleL) := hR
  clear hR
  have HS : Hid (∀ c w, _) := fun c w => small_any c w
  go_enter Tryz.func46, Tryz.ntmps46
  go_wp2
  go_loopw [9] (fun i wr => ∃ k : Nat, k ≤ 5 ∧ i = .int .i64 k ∧ LxRow wr w.heap.size titleL ∧ Below w.heap.size w wr) (fun i _ => 5 - (intOf i).toNat)
  case atStart => exact ⟨0, by omega, rfl, HR.out, ((Below.refl _ _).alloc (Nat.le_refl _) _).drew⟩
  case round =>
    obtain ⟨k, hk, rfl, hrow, hbel⟩ := hrel
    clear hconv HR
    by_cases hlt : k < 5
    · have hat : ∃ c, titleL[k]? = some c ∧ smallI (c.toNat : Int) = (c.toNat : Int) ∧ (c.toNat : Int) < 256 := by
        rcases (show k = 0 ∨ k = 1 ∨ k = 2 ∨ k = 3 ∨ k = 4 by omega) with rfl | rfl | rfl | rfl | rfl
        all_goals exact ⟨_, rfl, by decide, by decide⟩
      obtain ⟨c, hc, hsm, hc256⟩ := hat
      have hcell := hrow.cell k c hc
      have hfroz := hrow.frozen k hlt
      have HROW : Hid (LxRow wr w.heap.size titleL) := hrow
      have HC : Hid _ := hc
      have HSC : Hid _ := HS.out (c.toNat : Int) wr (by omega)
      rw [hsm] at HSC
      have hwr : IntKind.u8.wrap (c.toNat : Int) = (c.toNat : Int) := by
        simp [IntKind.wrap, IntKind.signed, IntKind.bits]; omega
      clear hrow HS hc hsm
      go_wp2_with fail
      refine Calls.mono HSC.out ?_
      rintro e w2 ⟨rfl, rfl⟩
      go_wp2
      go_roundw
      case rel => exact ⟨k + 1, by omega, by go_num, HROW.out.same k c HC.out _ (by go_num), hbel.setCell (Nat.le_refl _) _⟩
      case measure => simp [intOf]; omega
    · have hback := hrow.back cap
      have e5 : titleL.length = 5 := rfl
      rw [e5] at hback
      obtain rfl : k = 5 := by omega
      have hb2 : (convert 87 9 (.slice (some ⟨w.heap.size, 0, none⟩) 5 cap)).run Tryz.prog wr = .ok (.string ⟨#[116, 105, 116, 108, 101]⟩) wr := hback
      clear hrow HS hback
      go_wp2
      go_ret
      exact ⟨rfl, hbel⟩

set_option maxRecDepth 100000 in
theorem restart_off (l : Nat) (x : Lx) (w : World) (hL : LexAt w l x.cells) (hp : x.pos = 0) :
    Calls Tryz.prog 47 #[.pointer (some ⟨l, 0, none⟩)] w fun e w' => e = .returned (.tuple #[]) ∧ w' = w := by
  have c1 : w.cell? ⟨l, 1, none⟩ = some (.int .i64 0) := hL.c 1 _ (by show some (Value.int .i64 (x.pos : Int)) = _; rw [hp]; rfl)
  clear hL
  go_enter Tryz.func47, Tryz.ntmps47
  go_wp2
  exact bodyPost_ret (v := .tuple #[]) (by simp [results, Tryz.results47, go_sem]) rfl ⟨rfl, rfl⟩

set_option maxRecDepth 100000 in
set_option maxHeartbeats 1000000 in
theorem mode_zero (l : Nat) (x : Lx) (w : World) (hL : LexAt w l x.cells) (hm : x.md = 0) (hu : x.un = ⟨#[]⟩) :
    Calls Tryz.prog 30 #[.pointer (some ⟨l, 0, none⟩), .int .i64 0, .string ⟨#[]⟩] w fun e w' => e = .returned (.tuple #[]) ∧ ∃ q, w' = w.drewN q := by
  have c5 : w.cell? ⟨l, 5, none⟩ = some (.int .i64 0) := hL.c 5 _ (by show some (Value.int .i64 x.md) = _; rw [hm])
  have c6 : w.cell? ⟨l, 6, none⟩ = some (.string ⟨#[]⟩) := hL.c 6 _ (by show some (Value.string x.un) = _; rw [hu])
  clear hL
  go_enter Tryz.func30, Tryz.ntmps30
  go_wp2
  exact bodyPost_ret (v := .tuple #[]) (by simp [results, Tryz.results30, go_sem]) rfl ⟨rfl, 0, rfl⟩

set_option maxRecDepth 100000 in
set_option maxHeartbeats 1000000 in
theorem mode_three (l : Nat) (x : Lx) (w : World) (hL : LexAt w l x.cells) (hm : x.md = 0) (hu : x.un = ⟨#[]⟩) (hp : x.pos = 0) :
    Calls Tryz.prog 30 #[.pointer (some ⟨l, 0, none⟩), .int .i64 3, .string ⟨#[]⟩] w fun e w' => e = .returned (.tuple #[]) ∧ LexAt w' l { x with md := 3 }.cells ∧ But l w.heap.size w w' := by
  have c5 : w.cell? ⟨l, 5, none⟩ = some (.int .i64 0) := hL.c 5 _ (by show some (Value.int .i64 x.md) = _; rw [hm])
  have c6 : w.cell? ⟨l, 6, none⟩ = some (.string ⟨#[]⟩) := hL.c 6 _ (by show some (Value.string x.un) = _; rw [hu])
  have f5 := hL.fz 5
  have f6 := hL.fz 6
  have hL1 : LexAt ((w.setCell ⟨l, 5, none⟩ (.int .i64 3)).setCell ⟨l, 6, none⟩ (.string ⟨#[]⟩)) l { x with md := 3 }.cells := by
    have h := (hL.set 5 (by omega) (.int .i64 3)).set 6 (by omega) (.string ⟨#[]⟩)
    rw [show (.string ⟨#[]⟩ : Value) = .string x.un by rw [hu]] at h ⊢
    exact h
  have HR : Hid _ := restart_off l _ _ hL1 hp
  have HE : Hid (LexAt ((w.setCell ⟨l, 5, none⟩ (.int .i64 3)).setCell ⟨l, 6, none⟩ (.string ⟨#[]⟩)) l { x with md := 3 }.cells ∧ But l w.heap.size w ((w.setCell ⟨l, 5, none⟩ (.int .i64 3)).setCell ⟨l, 6, none⟩ (.string ⟨#[]⟩))) := ⟨hL1, ((But.refl _ _ _).store 5 _).store 6 _⟩
  clear hL hL1
  go_enter Tryz.func30, Tryz.ntmps30
  go_wp2_with fail
  refine Calls.mono HR.out ?_
  rintro e w2 ⟨rfl, rfl⟩
  go_wp2
  go_end0
  exact ⟨rfl, HE.out⟩

set_option maxRecDepth 100000 in
set_option maxHeartbeats 1000000 in
theorem mode_title (l : Nat) (m : Int) (hmm : m = 1 ∨ m = 2) (x : Lx) (w : World) (hL : LexAt w l x.cells) (hl : l < w.heap.size) (hm : x.md = 0) (hu : x.un = ⟨#[]⟩) (hp : x.pos = 0) :
    Calls Tryz.prog 30 #[.pointer (some ⟨l, 0, none⟩), .int .i64 m, .string ⟨#[116, 105, 116, 108, 101]⟩] w fun e w' => e = .returned (.tuple #[]) ∧ LexAt w' l { x with md := m, un := ⟨#[116, 105, 116, 108, 101]⟩ }.cells ∧ But l w.heap.size w w' := by
  have HS : Hid _ := smallText_title w
  have HL : Hid _ := hL
  clear hL
  rcases hmm with rfl | rfl
  all_goals
    go_enter Tryz.func30, Tryz.ntmps30
    go_wp2_with fail
    refine Calls.mono HS.out ?_
    rintro e w1 ⟨rfl, hb1⟩
    have hL := HL.out.below hb1 hl
    have c5 : w1.cell? ⟨l, 5, none⟩ = some (.int .i64 0) := hL.c 5 _ (by show some (Value.int .i64 x.md) = _; rw [hm])
    have c6 : w1.cell? ⟨l, 6, none⟩ = some (.string ⟨#[]⟩) := hL.c 6 _ (by show some (Value.string x.un) = _; rw [hu])
    have f5 := hL.fz 5
    have f6 := hL.fz 6
    have HR : Hid (∀ m : Int, _) := fun m => restart_off l { x with md := m, un := ⟨#[116, 105, 116, 108, 101]⟩ } ((w1.setCell ⟨l, 5, none⟩ (.int .i64 m)).setCell ⟨l, 6, none⟩ (.string ⟨#[116, 105, 116, 108, 101]⟩)) ((hL.set 5 (by omega) (.int .i64 m)).set 6 (by omega) (.string ⟨#[116, 105, 116, 108, 101]⟩)) hp
    have HB : Hid (∀ m : Int, LexAt ((w1.setCell ⟨l, 5, none⟩ (.int .i64 m)).setCell ⟨l, 6, none⟩ (.string ⟨#[116, 105, 116, 108, 101]⟩)) l { x with md := m, un := ⟨#[116, 105, 116, 108, 101]⟩ }.cells ∧ But l w.heap.size w ((w1.setCell ⟨l, 5, none⟩ (.int .i64 m)).setCell ⟨l, 6, none⟩ (.string ⟨#[116, 105, 116, 108, 101]⟩))) := fun m => ⟨(hL.set 5 (by omega) (.int .i64 m)).set 6 (by omega) (.string ⟨#[116, 105, 116, 108, 101]⟩), ((But.of hb1).store 5 _).store 6 _⟩
    clear hL hb1 HS
    go_wp2_with fail
    refine Calls.mono (HR.out _) ?_
    rintro e w2 ⟨rfl, rfl⟩
    go_wp2
    go_end0
    exact ⟨rfl, HB.out _⟩

set_option maxRecDepth 100000 in
theorem close_new (l : Nat) (a : Int) (x : Lx) (w : World) (hL : LexAt w l x.cells) (hc : x.cl = false) :
    Calls Tryz.prog 29 #[.pointer (some ⟨l, 0, none⟩), .int .i64 a] w fun e w' => e = .returned (.tuple #[]) ∧ LexAt w' l { x with cl := true, en := a }.cells ∧ But l w.heap.size w w' := by
  have c2 : w.cell? ⟨l, 2, none⟩ = some (.bool false) := hL.c 2 _ (by show some (Value.bool x.cl) = _; rw [hc])
  have c3 : w.cell? ⟨l, 3, none⟩ = some (.int .i64 x.en) := hL.c 3 _ rfl
  have f2 := hL.fz 2
  have f3 := hL.fz 3
  have HE : Hid (LexAt ((w.setCell ⟨l, 2, none⟩ (.bool true)).setCell ⟨l, 3, none⟩ (.int .i64 a)) l { x with cl := true, en := a }.cells ∧ But l w.heap.size w ((w.setCell ⟨l, 2, none⟩ (.bool true)).setCell ⟨l, 3, none⟩ (.int .i64 a))) := ⟨(hL.set 2 (by omega) _).set 3 (by omega) _, ((But.refl _ _ _).store 2 _).store 3 _⟩
  clear hL
  go_enter Tryz.func29, Tryz.ntmps29
  go_wp2
  go_end0
  exact ⟨rfl, HE.out⟩

set_option maxRecDepth 100000 in
theorem wrong_any (l : Nat) (x : Lx) (w : World) (hL : LexAt w l x.cells) (hw : x.wrong = .slice none 0 0) :
    Calls Tryz.prog 32 #[.pointer (some ⟨l, 0, none⟩)] w fun e w' => e = .returned (.slice none 0 0) ∧ LexAt w' l x.cells ∧ But l w.heap.size w w' := by
  have c33 : w.cell? ⟨l, 33, none⟩ = some (.slice none 0 0) := hL.c 33 _ (by show some x.wrong = _; rw [hw])
  have f33 := hL.fz 33
  have HE : Hid (LexAt (w.setCell ⟨l, 33, none⟩ (.slice none 0 0)) l x.cells ∧ But l w.heap.size w (w.setCell ⟨l, 33, none⟩ (.slice none 0 0))) := by
    refine ⟨?_, (But.refl _ _ _).store 33 _⟩
    have h := hL.set 33 (by omega) (.slice none 0 0)
    rw [show (.slice none 0 0 : Value) = x.wrong by rw [hw]] at h ⊢
    exact h
  clear hL
  go_enter Tryz.func32, Tryz.ntmps32
  go_wp2
  go_ret
  exact ⟨rfl, HE.out⟩

set_option maxRecDepth 100000 in
theorem put_empty (l : Nat) (x : Lx) (w : World) (hL : LexAt w l x.cells) (hr : x.runes = .slice none 0 0) (hc : x.cl = false) :
    Calls Tryz.prog 20 #[.pointer (some ⟨l, 0, none⟩), .slice none 0 0] w fun e w' => e = .returned (.tuple #[]) ∧ LexAt w' l x.cells ∧ But l w.heap.size w w' := by
  have c0 : w.cell? ⟨l, 0, none⟩ = some (.slice none 0 0) := hL.c 0 _ (by show some x.runes = _; rw [hr])
  have c2 : w.cell? ⟨l, 2, none⟩ = some (.bool false) := hL.c 2 _ (by show some (Value.bool x.cl) = _; rw [hc])
  have f0 := hL.fz 0
  have HE : Hid (LexAt (w.setCell ⟨l, 0, none⟩ (.slice none 0 0)) l x.cells ∧ But l w.heap.size w (w.setCell ⟨l, 0, none⟩ (.slice none 0 0))) := by
    refine ⟨?_, (But.refl _ _ _).store 0 _⟩
    have h := hL.set 0 (by omega) (.slice none 0 0)
    rw [show (.slice none 0 0 : Value) = x.runes by rw [hr]] at h ⊢
    exact h
  clear hL
  go_enter Tryz.func20, Tryz.ntmps20
  go_wp2
  go_end0
  exact ⟨rfl, HE.out⟩
end Go.Proofs.YtgdjknbbjpcoiaaGreatDoor
