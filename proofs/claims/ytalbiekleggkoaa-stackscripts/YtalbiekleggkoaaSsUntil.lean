/-
  A stack: all up to the last one of a name away; those that end by themselves away; all of them.
-/
import Derived.Test.YtalbiekleggkoaaSsDrop
namespace Go.Proofs.Ytalbiekleggkoaa
open Go.RowKit

def impNames : List ByteArray := [⟨#[100, 100]⟩, ⟨#[100, 116]⟩, ⟨#[108, 105]⟩, ⟨#[111, 112, 116, 105, 111, 110]⟩, ⟨#[111, 112, 116, 103, 114, 111, 117, 112]⟩, ⟨#[112]⟩, ⟨#[114, 98]⟩, ⟨#[114, 112]⟩, ⟨#[114, 116]⟩, ⟨#[114, 116, 99]⟩]

set_option maxRecDepth 100000 in
set_option maxHeartbeats 4000000 in
theorem implied_any (y : ByteArray) (w : World) : Calls Try.prog 50 #[.string y] w fun e w' => e = .returned (.bool (isAm impNames y)) ∧ w' = w := by
  go_enter Try.func50, Try.ntmps50
  refine wp_seq ?_
  refine wp_region_lit (wpList_value rfl rfl (wpList_nil ?_))
  show Code.wp _ _ _ _ w
  refine wp_seq ?_
  refine wp_seq ?_
  refine wp_region_lit (wpList_value rfl rfl (wpList_nil ?_))
  show Code.wp _ _ _ _ w
  refine wp_block ?_
  refine wp_seq ?_
  refine tests_wp 15 3 4 [3] (by decide) _ impNames (by kernel_rfl) _ _ w y rfl rfl ?_
  intro a' ha
  show Code.wp _ _ _ a' w
  have hs := ha.said
  have hz := ha.size
  have hd := ha.defers
  change a'.eval (.tmp 4) = .bool (isAm impNames y) at hs
  refine wp_cond hs ?_
  generalize isAm impNames y = r at *
  cases r
  · simp only [Bool.false_eq_true, if_false]
    refine wp_skip ?_
    show Code.wp _ _ _ a' w
    refine wp_seq ?_
    refine wp_region_lit (wpList_value rfl rfl (wpList_nil ?_))
    show Code.wp _ _ _ _ w
    refine wp_ret ?_
    refine bodyPost_ret (v := .bool false) ?_ ?_ ?_
    · simp [results, Try.results50, go_sem, Act.put, hz]
    · exact hd
    · exact ⟨rfl, rfl⟩
  · simp only [if_true]
    refine wp_seq ?_
    refine wp_region_lit (wpList_value rfl rfl (wpList_nil ?_))
    show Code.wp _ _ _ _ w
    refine wp_ret ?_
    simp only [Exit.inBlock, Exit.then]
    refine bodyPost_ret (v := .bool true) ?_ ?_ ?_
    · simp [results, Try.results50, go_sem, Act.put, hz]
    · exact hd
    · exact ⟨rfl, rfl⟩

theorem enters_until1 : ∀ args w, (callFunc 46 args).run Try.prog w = .ok (.enter 46 args) w := enters_of Try.func46 (by kernel_rfl) rfl
theorem enters_implied1 : ∀ args w, (callFunc 49 args).run Try.prog w = .ok (.enter 49 args) w := enters_of Try.func49 (by kernel_rfl) rfl

def nameP (nm : ByteArray) (i : Itm) : Bool := i.name.toList == nm.toList
def stayP (nm : ByteArray) (i : Itm) : Bool := i.name.toList == nm.toList || !isAm impNames i.name

set_option maxRecDepth 100000 in
set_option maxHeartbeats 2000000 in
theorem until1_any (b1 : Nat) (nm : ByteArray) (i : Itm) (w : World) (h1 : w.cell? ⟨b1, 0, none⟩ = some (.string nm)) :
    Calls Try.prog 46 (#[.agg #[.int .i64 i.node, .string i.name]] ++ #[.pointer (some ⟨b1, 0, none⟩)]) w fun e w' => e = .returned (.bool (nameP nm i)) ∧ Below w.heap.size w w' := by
  have HB : Hid (∀ o, Below w.heap.size w (w.alloc o)) := fun o => (Below.refl _ _).alloc (Nat.le_refl _) o
  have k1 : ∀ o, (w.alloc o).cell? ⟨b1, 0, none⟩ = some (.string nm) := fun o => ((HB.out o).cell (p := ⟨b1, 0, none⟩) (World.block_lt_of_cell? _ _ h1)).trans h1
  clear h1
  unfold nameP
  go_enter Try.func46, Try.ntmps46
  go_wp2
  go_ret
  exact ⟨rfl, HB.out _⟩

set_option maxRecDepth 100000 in
set_option maxHeartbeats 2000000 in
theorem implied1_any (b1 : Nat) (nm : ByteArray) (i : Itm) (w : World) (h1 : w.cell? ⟨b1, 0, none⟩ = some (.string nm)) :
    Calls Try.prog 49 (#[.agg #[.int .i64 i.node, .string i.name]] ++ #[.pointer (some ⟨b1, 0, none⟩)]) w fun e w' => e = .returned (.bool (stayP nm i)) ∧ Below w.heap.size w w' := by
  have HB : Hid (∀ o, Below w.heap.size w (w.alloc o)) := fun o => (Below.refl _ _).alloc (Nat.le_refl _) o
  have HE : Hid (∀ w, _) := fun w => implied_any i.name w
  have k1 : ∀ o, (w.alloc o).cell? ⟨b1, 0, none⟩ = some (.string nm) := fun o => ((HB.out o).cell (p := ⟨b1, 0, none⟩) (World.block_lt_of_cell? _ _ h1)).trans h1
  clear h1
  cases he : (i.name.toList == nm.toList)
  · have hr : stayP nm i = !isAm impNames i.name := by simp [stayP, he]
    rw [hr]
    generalize isAm impNames i.name = r at *
    clear hr
    go_enter Try.func49, Try.ntmps49
    go_wp2_with fail
    refine Calls.mono (HE.out _) ?_
    rintro e w1 ⟨rfl, rfl⟩
    go_wp2
    go_ret
    exact ⟨rfl, HB.out _⟩
  · have hr : stayP nm i = true := by simp [stayP, he]
    rw [hr]
    clear hr
    go_enter Try.func49, Try.ntmps49
    go_wp2
    go_ret
    exact ⟨rfl, HB.out _⟩

theorem owns_base {w : World} {B B' : Nat} {e : TypeId} {sz n : Nat} {v : Value} {xs : List Value} (h : w.ownsRow B e sz v n xs) (hb : B' ≤ B) : w.ownsRow B' e sz v n xs := by
  refine ⟨h.1, ?_⟩
  rcases h.2 with h2 | ⟨g, cap, cur, hv, hg, hr⟩
  · exact .inl h2
  · exact .inr ⟨g, cap, cur, hv, Nat.le_trans hb hg, hr⟩
theorem TurnP.from {w w1 w' : World} {s B : Nat} {v : Value} {cs : List Itm} (hb : Below w.heap.size w w1) (h : TurnP w1 s B v cs w') : TurnP w s B v cs w' := by
  obtain ⟨v', h1, h2⟩ := h.at'
  exact ⟨⟨v', h1, h2.imp id (fun e k ek => Nat.le_trans hb.size (e k ek))⟩, (Kept.below hb).trans h.kept⟩
theorem DropP.from {w w1 w' : World} {s B i : Nat} {v u : Value} {cs : List Itm} (hb : Below w.heap.size w w1) (h : DropP w1 s B v cs i u w') : DropP w s B v cs i u w' :=
  ⟨owns_base h.row hb.size, h.turn.from hb⟩

/-- How many stay. -/
def untilOf (nm : ByteArray) (cs : List Itm) : Nat := (lastOf (nameP nm) cs cs.length).toNat
def impOf (nm : ByteArray) (cs : List Itm) : Nat := (lastOf (stayP nm) cs cs.length + 1).toNat
theorem untilOf_le (nm : ByteArray) (cs : List Itm) : untilOf nm cs ≤ cs.length := by
  have := lastOf_lt (nameP nm) cs cs.length
  unfold untilOf
  omega
theorem impOf_le (nm : ByteArray) (cs : List Itm) : impOf nm cs ≤ cs.length := by
  have := lastOf_lt (stayP nm) cs cs.length
  unfold impOf
  omega

set_option maxRecDepth 100000 in
set_option maxHeartbeats 2000000 in
theorem until_in (s B : Nat) (v : Value) (cs : List Itm) (nm : ByteArray) (w : World) (h : StackAt w s B v cs) (hl : cs.length ≤ 100000) :
    Calls Try.prog 14 #[.pointer (some ⟨s, 0, none⟩), .string nm] w fun e w' => ∃ a' c', e = .returned (.slice a' (cs.length - untilOf nm cs) c') ∧ Hid (DropP w s B v cs (untilOf nm cs) (.slice a' (cs.length - untilOf nm cs) c') w') := by
  have hb : Below w.heap.size w (w.alloc (.cells #[.string nm] 9)) := (Below.refl _ _).alloc (Nat.le_refl _) _
  have k1 : (w.alloc (.cells #[.string nm] 9)).cell? ⟨w.heap.size, 0, none⟩ = some (.string nm) := World.cell?_alloc_at _ _ _ 0 rfl
  have HL : Hid _ := last_any s B 46 #[.pointer (some ⟨w.heap.size, 0, none⟩)] v cs (nameP nm) (w.alloc (.cells #[.string nm] 9)) (h.below hb) (by omega) enters_until1 (fun i _ w' hb' => (until1_any w.heap.size nm i w' ((hb'.cell (p := ⟨w.heap.size, 0, none⟩) (World.block_lt_of_cell? _ _ k1)).trans k1)).mono (fun e w2 ⟨he, h2⟩ => ⟨he, hb'.trans (h2.mono hb'.size)⟩))
  have HB : Hid _ := hb
  have hlt := lastOf_lt (nameP nm) cs cs.length
  have HU : Hid (untilOf nm cs = (lastOf (nameP nm) cs cs.length).toNat) := rfl
  have HS : Hid _ := h
  have hul := untilOf_le nm cs
  generalize untilOf nm cs = i at *
  generalize lastOf (nameP nm) cs cs.length = r at *
  have HM : Hid (max r 0 = (i : Int)) := by
    show _ = _
    rw [HU.out]
    omega
  clear hb k1 h HU
  go_enter Try.func14, Try.ntmps14
  go_wp2_with fail
  refine Calls.mono HL.out ?_
  rintro e w1 ⟨rfl, hb1⟩
  have HB1 : Hid (Below w.heap.size w w1) := HB.out.trans (hb1.mono HB.out.size)
  have HD : Hid _ := drop_any s B i v cs w1 (HS.out.below HB1.out) hul hl
  clear HL HB hb1 HS
  by_cases hr : r < 0
  · obtain rfl : r = -1 := by omega
    obtain rfl : i = 0 := by have := HM.out; omega
    clear HM
    go_wp2_with fail
    refine Calls.mono HD.out ?_
    rintro e w2 ⟨a', c', rfl, hd⟩
    have HF : Hid _ := hd.out.from HB1.out
    clear HD hd
    go_wp2
    go_ret
    exact ⟨a', c', rfl, HF⟩
  · obtain rfl : r = (i : Int) := by have := HM.out; omega
    have hi0 : (0 : Int) ≤ (i : Int) := by omega
    clear HM hr
    go_wp2_with fail
    refine Calls.mono HD.out ?_
    rintro e w2 ⟨a', c', rfl, hd⟩
    have HF : Hid _ := hd.out.from HB1.out
    clear HD hd
    go_wp2
    go_ret
    exact ⟨a', c', rfl, HF⟩

set_option maxRecDepth 100000 in
set_option maxHeartbeats 2000000 in
theorem implied_in (s B : Nat) (v : Value) (cs : List Itm) (nm : ByteArray) (w : World) (h : StackAt w s B v cs) (hl : cs.length ≤ 100000) :
    Calls Try.prog 17 #[.pointer (some ⟨s, 0, none⟩), .string nm] w fun e w' => ∃ a' c', e = .returned (.slice a' (cs.length - impOf nm cs) c') ∧ Hid (DropP w s B v cs (impOf nm cs) (.slice a' (cs.length - impOf nm cs) c') w') := by
  have hb : Below w.heap.size w (w.alloc (.cells #[.string nm] 9)) := (Below.refl _ _).alloc (Nat.le_refl _) _
  have k1 : (w.alloc (.cells #[.string nm] 9)).cell? ⟨w.heap.size, 0, none⟩ = some (.string nm) := World.cell?_alloc_at _ _ _ 0 rfl
  have HL : Hid _ := last_any s B 49 #[.pointer (some ⟨w.heap.size, 0, none⟩)] v cs (stayP nm) (w.alloc (.cells #[.string nm] 9)) (h.below hb) (by omega) enters_implied1 (fun i _ w' hb' => (implied1_any w.heap.size nm i w' ((hb'.cell (p := ⟨w.heap.size, 0, none⟩) (World.block_lt_of_cell? _ _ k1)).trans k1)).mono (fun e w2 ⟨he, h2⟩ => ⟨he, hb'.trans (h2.mono hb'.size)⟩))
  have HB : Hid _ := hb
  have hlt := lastOf_lt (stayP nm) cs cs.length
  have HU : Hid (impOf nm cs = (lastOf (stayP nm) cs cs.length + 1).toNat) := rfl
  have HS : Hid _ := h
  have hul := impOf_le nm cs
  generalize impOf nm cs = i at *
  generalize lastOf (stayP nm) cs cs.length = r at *
  have hri : r + 1 = (i : Int) := by have := HU.out; omega
  obtain rfl : r = (i : Int) - 1 := by omega
  clear hb k1 h HU hri hlt
  go_enter Try.func17, Try.ntmps17
  go_wp2_with fail
  refine Calls.mono HL.out ?_
  rintro e w1 ⟨rfl, hb1⟩
  have HB1 : Hid (Below w.heap.size w w1) := HB.out.trans (hb1.mono HB.out.size)
  have HD : Hid _ := drop_any s B i v cs w1 (HS.out.below HB1.out) hul hl
  clear HL HB hb1 HS
  have hw1 : IntKind.i64.wrap ((i : Int) - 1 + 1) = (i : Int) := by rw [IntKind.wrap_i64]; omega
  have hi2 : (i : Int) ≤ 100000 := by omega
  go_wp2_with fail
  refine Calls.mono HD.out ?_
  rintro e w2 ⟨a', c', rfl, hd⟩
  have HF : Hid _ := hd.out.from HB1.out
  clear HD hd
  go_wp2
  go_ret
  exact ⟨a', c', rfl, HF⟩

set_option maxRecDepth 100000 in
set_option maxHeartbeats 2000000 in
theorem items_in (s B : Nat) (v : Value) (cs : List Itm) (w : World) (h : StackAt w s B v cs) (hl : cs.length ≤ 100000) :
    Calls Try.prog 21 #[.pointer (some ⟨s, 0, none⟩)] w fun e w' => ∃ a' c', e = .returned (.slice a' cs.length c') ∧ Hid (w'.ownsRow w.heap.size 31 2 (.slice a' cs.length c') cs.length (cs.flatMap itmC) ∧ Below w.heap.size w w') := by
  have c0 := h.c0
  have HC : Hid (∃ a c, v = .slice a cs.length c ∧ Calls Try.prog 53 #[.slice a cs.length c] w fun e w' => ∃ a' c', e = .returned (.slice a' cs.length c') ∧ Hid (w'.ownsRow w.heap.size 31 2 (.slice a' cs.length c') cs.length (cs.flatMap itmC) ∧ Below w.heap.size w w')) := by
    rcases h.form2 with ⟨rfl, rfl⟩ | ⟨g, cp, rfl, hcap⟩
    · exact ⟨none, 0, rfl, cloneI_any none 0 0 [] w rfl (fun j u hj => by simp at hj) (by simp) (Nat.le_refl _)⟩
    · refine ⟨_, _, rfl, cloneI_any (some ⟨g, 0, none⟩) cs.length cp cs w rfl (fun j u hj => ⟨_, rfl, ?_⟩) (by omega) hcap⟩
      rw [addr_at]
      exact owns_at h.own _ _ hj
  obtain ⟨a, c, rfl, hc⟩ := HC.out
  have HCC : Hid _ := hc
  clear h HC hc
  go_enter Try.func21, Try.ntmps21
  go_wp2_with fail
  refine Calls.mono HCC.out ?_
  rintro e w1 ⟨a', c', rfl, hp⟩
  clear HCC c0
  go_wp2
  go_ret
  exact ⟨a', c', rfl, hp⟩
end Go.Proofs.Ytalbiekleggkoaa
