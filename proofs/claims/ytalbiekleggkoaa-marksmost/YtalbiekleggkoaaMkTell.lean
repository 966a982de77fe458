/-
  All entries; the place of a node; the last of a name.
-/
import Derived.Test.YtalbiekleggkoaaMkAdd
namespace Go.Proofs.Ytalbiekleggkoaa
open Go.RowKit

theorem ents_lit (w : World) : (w.alloc (.cells #[] 58)).ownsRow w.heap.size 58 3 (.slice (some ⟨w.heap.size, 0, none⟩) 0 0) 0 [] :=
  ⟨rfl, .inr ⟨w.heap.size, 0, #[], rfl, Nat.le_refl _, heap_alloc_new w _, Nat.le_refl _, by unfold maxLen; omega, rfl, rfl⟩⟩

set_option maxRecDepth 100000 in
set_option maxHeartbeats 4000000 in
theorem cloneE_any (B : Nat) (v : Value) (cs : List Ent) (w : World) (h : w.ownsRow B 58 3 v cs.length (cs.flatMap entC)) (hlen : cs.length ≤ 1000000) :
    Calls Try.prog 62 #[v] w fun e w' => ∃ v', e = .returned v' ∧ w'.ownsRow w.heap.size 58 3 v' cs.length (cs.flatMap entC) ∧ Below w.heap.size w w' := by
  obtain ⟨i0, hi, hz0, hz1, hz2⟩ := info_parts mkDelInfo
  have hq : ∀ (a : Option Addr) (n c : Nat) (w : World), (binOp .eql 49 (.slice a n c) (.slice none 0 0)).run Try.prog w = .ok (.bool a.isNone) w := fun a n c w => Lib.run_eql_slice_nil w _ _ a n c 0 0 Try.underlying49
  have hform : (v = .slice none 0 0 ∧ cs.length = 0) ∨ ∃ g cap, v = .slice (some ⟨g, 0, none⟩) cs.length cap ∧ cs.length ≤ cap := by
    rcases h.2 with ⟨h1, h2⟩ | ⟨g, cap, cur, h1, _, _, h2, _⟩
    · exact .inl ⟨h1, h2⟩
    · exact .inr ⟨g, cap, h1, h2⟩
  rcases hform with ⟨rfl, h0⟩ | ⟨g, cap, rfl, hcap⟩
  · obtain rfl : cs = [] := List.length_eq_zero_iff.1 h0
    clear h0 h
    go_enter Try.func62, Try.ntmps62
    go_wp2
    go_ret
    exact ⟨_, rfl, World.ownsRow_nil _ _ _ _, Below.refl _ _⟩
  · have HB : Hid (Below w.heap.size w (w.alloc (.cells #[] 58))) := (Below.refl _ _).alloc (Nat.le_refl _) _
    have HC : Hid (∀ j u, (cs.flatMap entC)[j]? = some u → (w.alloc (.cells #[] 58)).cell? ((⟨g, 0, none⟩ : Addr).add j) = some u) := fun j u hj => (owns_kept (out := fun _ => False) h (Kept.below HB.out) (fun _ _ e => e)).cells rfl j u hj
    have hI : (cs.length : Int) ≤ (cap : Int) := by omega
    have HL : Hid ((cs.flatMap entC).length = cs.length * 3) := eflat_len cs
    have HO : Hid _ := ent_one cs
    clear h hcap
    go_enter Try.func62, Try.ntmps62
    go_wp2_with (at_builtin; refine wpList_append_own _ rfl _ _ 49 rfl w.heap.size 58 i0 (.agg #[.int .i64 0, .string ⟨#[]⟩, .slice none 0 0]) 3 48 Try.underlying49 hi hz0 hz1 hz2 rfl (by decide) _ 0 _ rfl (ents_lit w) ⟨g, 0, none⟩ cs.length cap (cs.flatMap entC) rfl HL.out HC.out HO.out (by unfold maxLen; omega) (by omega) (by simp) ?_)
    intro v' w' hown' hgrow _
    have hX : w'.ownsRow w.heap.size 58 3 v' cs.length (cs.flatMap entC) := by simpa using hown'
    have HW : Hid _ := hX
    have HG : Hid (Below w.heap.size w w') := HB.out.grown hgrow (by simp) (fun k hk => by simp [Value.ownBlock] at hk; omega)
    have hf : ∃ a' c', v' = .slice a' cs.length c' := by
      rcases hX.2 with ⟨h1, h2⟩ | ⟨g', cap', cur, h1, _⟩
      · exact ⟨none, 0, by rw [h1, h2]⟩
      · exact ⟨_, _, h1⟩
    obtain ⟨a', c', rfl⟩ := hf
    clear hown' hgrow hX
    go_wp2
    go_ret
    exact ⟨_, rfl, HW.out, HG.out⟩

theorem set_at (xs : List Value) (j : Nat) (u : Value) (h : xs[j]? = some u) : xs.set j u = xs := by
  obtain ⟨hlt, he⟩ := List.getElem?_eq_some_iff.1 h
  rw [← he]
  exact List.set_getElem_self hlt

set_option maxRecDepth 100000 in
set_option maxHeartbeats 4000000 in
theorem entries_in (s B : Nat) (v : Value) (cs : List Ent) (w : World) (h : ListAt w s B v cs) (hl : cs.length ≤ 100000) :
    Calls Try.prog 36 #[.pointer (some ⟨s, 0, none⟩)] w fun e w' => ∃ v', e = .returned v' ∧ w'.ownsRow w.heap.size 58 3 v' cs.length (cs.flatMap entC) ∧ Below w.heap.size w w' := by
  have HC : Hid _ := cloneE_any B v cs w h.own (by omega)
  have c0 := h.c0
  have HO : Hid (∀ x w, _) := fun x w => own_bare x w
  unfold entV at HO
  clear h
  go_enter Try.func36, Try.ntmps36
  go_wp2_with fail
  refine Calls.mono HC.out ?_
  rintro e w1 ⟨v', rfl, ho1, hb1⟩
  have hform : (v' = .slice none 0 0 ∧ cs.length = 0) ∨ ∃ g cap, v' = .slice (some ⟨g, 0, none⟩) cs.length cap ∧ cs.length ≤ cap := by
    rcases ho1.2 with ⟨h1, h2⟩ | ⟨g, cap, cur, h1, _, _, h2, _⟩
    · exact .inl ⟨h1, h2⟩
    · exact .inr ⟨g, cap, h1, h2⟩
  have HO1 : Hid _ := ho1
  have HB1 : Hid _ := hb1
  clear c0 hb1 HC
  rcases hform with ⟨rfl, h0⟩ | ⟨g, cap, rfl, hcap⟩
  · obtain rfl : cs = [] := List.length_eq_zero_iff.1 h0
    clear ho1 h0 HO1
    go_wp2
    go_loop [15] (fun i => i = .int .i64 0) (fun _ => 0)
    case atStart => rfl
    case round =>
      subst hrel
      go_wp2
      go_ret
      exact ⟨_, rfl, World.ownsRow_nil _ _ _ _, HB1.out⟩
  · clear ho1
    go_wp2
    go_loopw [15] (fun i wr => ∃ k : Nat, k ≤ cs.length ∧ i = .int .i64 k ∧ Hid (wr.ownsRow w.heap.size 58 3 (.slice (some ⟨g, 0, none⟩) cs.length cap) cs.length (cs.flatMap entC) ∧ Below w.heap.size w wr)) (fun i _ => cs.length - (intOf i).toNat)
    case atStart => exact ⟨0, Nat.zero_le _, rfl, HO1.out, HB1.out⟩
    case round =>
      clear HO1 HB1
      obtain ⟨k, hk, rfl, HI⟩ := hrel
      by_cases hlt : k < cs.length
      · obtain ⟨c, hc⟩ : ∃ c, cs[k]? = some c := ⟨_, List.getElem?_eq_getElem hlt⟩
        have a0 : wr.cell? ⟨g, k * 3 + 0, none⟩ = some (.int .i64 c.node) := owns_at HI.out.1 _ _ (eflat_at cs k 0 c _ hc rfl)
        have a1 : wr.cell? ⟨g, k * 3 + 1, none⟩ = some (.string c.name) := owns_at HI.out.1 _ _ (eflat_at cs k 1 c _ hc rfl)
        have a2 : wr.cell? ⟨g, k * 3 + 2, none⟩ = some (.slice none 0 0) := owns_at HI.out.1 _ _ (eflat_at cs k 2 c _ hc rfl)
        rw [Nat.add_zero] at a0
        have hI : (k : Int) < (cs.length : Int) := by omega
        have HN : Hid (∀ wy, Below wr.heap.size wr wy → wy.cell? ⟨g, k * 3, none⟩ = some (.int .i64 c.node) ∧ wy.cell? ⟨g, k * 3 + 1, none⟩ = some (.string c.name) ∧ wy.cell? ⟨g, k * 3 + 2, none⟩ = some (.slice none 0 0) ∧ (∀ j, wy.frozen? ⟨g, j, none⟩ = false) ∧ Hid ((((wy.setCell ⟨g, k * 3, none⟩ (.int .i64 c.node)).setCell ⟨g, k * 3 + 1, none⟩ (.string c.name)).setCell ⟨g, k * 3 + 2, none⟩ (.slice none 0 0)).ownsRow w.heap.size 58 3 (.slice (some ⟨g, 0, none⟩) cs.length cap) cs.length (cs.flatMap entC) ∧ Below w.heap.size w (((wy.setCell ⟨g, k * 3, none⟩ (.int .i64 c.node)).setCell ⟨g, k * 3 + 1, none⟩ (.string c.name)).setCell ⟨g, k * 3 + 2, none⟩ (.slice none 0 0)))) := by
          intro wy hb
          have ho := owns_kept (out := fun _ => False) HI.out.1 (Kept.below hb) (fun _ _ e => e)
          have hg := (owns_lt ho g rfl).1
          have e0 := eflat_at cs k 0 c _ hc rfl
          rw [Nat.add_zero] at e0
          have e1 := eflat_at cs k 1 c _ hc rfl
          have e2 := eflat_at cs k 2 c _ hc rfl
          refine ⟨owns_at ho _ _ e0, owns_at ho _ _ e1, owns_at ho _ _ e2, fun j => owns_fz ho j, ?_, ?_⟩
          · have s0 := owns_set ho (k * 3) (.int .i64 c.node)
            rw [set_at _ _ _ e0] at s0
            have s1 := owns_set s0 (k * 3 + 1) (.string c.name)
            rw [set_at _ _ _ e1] at s1
            have s2 := owns_set s1 (k * 3 + 2) (.slice none 0 0)
            rw [set_at _ _ _ e2] at s2
            exact s2
          · exact (((HI.out.2.trans (hb.mono HI.out.2.size)).setCell (p := ⟨g, k * 3, none⟩) hg _).setCell (p := ⟨g, k * 3 + 1, none⟩) hg _).setCell (p := ⟨g, k * 3 + 2, none⟩) hg _
        have hal : ∀ o, Below wr.heap.size wr (wr.alloc o) := fun o => (Below.refl _ _).alloc (Nat.le_refl _) o
        have HAL : Hid _ := hal
        clear hc hal
        go_wp2_with fail
        refine Calls.mono (HO.out c _) ?_
        rintro e wy ⟨rfl, hby⟩
        obtain ⟨n0, n1, n2, nf, HX⟩ := HN.out wy ((HAL.out _).trans (hby.mono (HAL.out _).size))
        clear a0 a1 a2 HN hby HI
        go_wp2
        go_roundw
        case rel => exact ⟨k + 1, by omega, by go_num, HX⟩
        case measure => simp only [intOf]; go_num
      · go_wp2
        go_ret
        exact ⟨_, rfl, HI.out.1, HI.out.2⟩

theorem enters_mfind1 : ∀ args w, (callFunc 64 args).run Try.prog w = .ok (.enter 64 args) w := enters_of Try.func64 (by kernel_rfl) rfl
theorem enters_mlast1 : ∀ args w, (callFunc 63 args).run Try.prog w = .ok (.enter 63 args) w := enters_of Try.func63 (by kernel_rfl) rfl

set_option maxRecDepth 100000 in
set_option maxHeartbeats 2000000 in
theorem mfind1_any (b1 : Nat) (n : Int) (i : Ent) (w : World) (h1 : w.cell? ⟨b1, 0, none⟩ = some (.int .i64 n)) :
    Calls Try.prog 64 (#[.agg #[.int .i64 i.node, .string i.name, .slice none 0 0]] ++ #[.pointer (some ⟨b1, 0, none⟩)]) w fun e w' => e = .returned (.bool (i.node == n)) ∧ Below w.heap.size w w' := by
  have HB : Hid (∀ o, Below w.heap.size w (w.alloc o)) := fun o => (Below.refl _ _).alloc (Nat.le_refl _) o
  have k1 : ∀ o, (w.alloc o).cell? ⟨b1, 0, none⟩ = some (.int .i64 n) := fun o => ((HB.out o).cell (p := ⟨b1, 0, none⟩) (World.block_lt_of_cell? _ _ h1)).trans h1
  clear h1
  go_enter Try.func64, Try.ntmps64
  go_wp2
  go_ret
  exact ⟨rfl, HB.out _⟩

set_option maxRecDepth 100000 in
set_option maxHeartbeats 2000000 in
theorem mfind_in (s B : Nat) (v : Value) (cs : List Ent) (n : Int) (hn : n ≠ -1) (w : World) (h : ListAt w s B v cs) (hl : cs.length ≤ 1000000) :
    Calls Try.prog 38 #[.pointer (some ⟨s, 0, none⟩), .int .i64 n] w fun e w' => e = .returned (.int .i64 (lastOf (fun i => i.node == n) cs cs.length)) ∧ Below w.heap.size w w' := by
  have hb : Below w.heap.size w (w.alloc (.cells #[.int .i64 n] 3)) := (Below.refl _ _).alloc (Nat.le_refl _) _
  have k1 : (w.alloc (.cells #[.int .i64 n] 3)).cell? ⟨w.heap.size, 0, none⟩ = some (.int .i64 n) := World.cell?_alloc_at _ _ _ 0 rfl
  have HL : Hid _ := last_any s B 64 #[.pointer (some ⟨w.heap.size, 0, none⟩)] v cs (fun i => i.node == n) (w.alloc (.cells #[.int .i64 n] 3)) (h.below hb) hl enters_mfind1 (fun i _ w' hb' => (mfind1_any w.heap.size n i w' ((hb'.cell (p := ⟨w.heap.size, 0, none⟩) (World.block_lt_of_cell? _ _ k1)).trans k1)).mono (fun e w2 ⟨he, h2⟩ => ⟨he, hb'.trans (h2.mono hb'.size)⟩))
  have HB : Hid _ := hb
  have hne : (n == -1) = false := by simpa using hn
  obtain ⟨r, hr⟩ : ∃ r, lastOf (fun i => i.node == n) cs cs.length = r := ⟨_, rfl⟩
  rw [hr] at HL ⊢
  clear hb k1 hr h
  go_enter Try.func38, Try.ntmps38
  go_wp2_with fail
  refine Calls.mono HL.out ?_
  rintro e w1 ⟨rfl, hb1⟩
  have HB1 : Hid (Below w.heap.size w w1) := HB.out.trans (hb1.mono HB.out.size)
  clear hb1
  go_wp2
  go_ret
  exact ⟨rfl, HB1.out⟩

def lastP (nm : ByteArray) (i : Ent) : Bool := i.node == -1 || i.name.toList == nm.toList
set_option maxRecDepth 100000 in
set_option maxHeartbeats 2000000 in
theorem mlast1_any (b1 : Nat) (nm : ByteArray) (i : Ent) (w : World) (h1 : w.cell? ⟨b1, 0, none⟩ = some (.string nm)) :
    Calls Try.prog 63 (#[.agg #[.int .i64 i.node, .string i.name, .slice none 0 0]] ++ #[.pointer (some ⟨b1, 0, none⟩)]) w fun e w' => e = .returned (.bool (lastP nm i)) ∧ Below w.heap.size w w' := by
  have hb : ∀ o, Below w.heap.size w (w.alloc o) := fun o => (Below.refl _ _).alloc (Nat.le_refl _) o
  have HM : Hid (∀ w', _) := fun w' => marker_any i w'
  have HK : Hid (∀ o w', Below (w.alloc o).heap.size (w.alloc o) w' → w'.cell? ⟨b1, 0, none⟩ = some (.string nm) ∧ Below w.heap.size w w') := fun o w' hb' => by
    have hb2 := (hb o).trans (hb'.mono (hb o).size)
    exact ⟨(hb2.cell (p := ⟨b1, 0, none⟩) (World.block_lt_of_cell? _ _ h1)).trans h1, hb2⟩
  have HX : Hid (∀ w', Below (w.alloc (.cells #[.int .i64 i.node, .string i.name, .slice none 0 0] 58)).heap.size (w.alloc (.cells #[.int .i64 i.node, .string i.name, .slice none 0 0] 58)) w' → w'.cell? ⟨w.heap.size, 1, none⟩ = some (.string i.name)) := fun w' hb' => (hb'.cell (p := ⟨w.heap.size, 1, none⟩) (by show w.heap.size < _; simp)).trans (World.cell?_alloc_at _ _ _ 1 rfl)
  clear h1 hb
  unfold entV at HM
  cases hm : (i.node == -1)
  · have hr : lastP nm i = (i.name.toList == nm.toList) := by simp [lastP, hm]
    rw [hr]
    rw [hm] at HM
    clear hr
    go_enter Try.func63, Try.ntmps63
    go_wp2_with fail
    refine Calls.mono (HM.out _) ?_
    rintro e w1 ⟨rfl, hb1⟩
    obtain ⟨k1, hb2⟩ := HK.out _ w1 hb1
    have x1 := HX.out w1 hb1
    have HB2 : Hid _ := hb2
    clear hb1 hb2 HK HX HM
    go_wp2
    go_ret
    exact ⟨rfl, HB2.out⟩
  · have hr : lastP nm i = true := by simp [lastP, hm]
    rw [hr]
    rw [hm] at HM
    clear hr
    go_enter Try.func63, Try.ntmps63
    go_wp2_with fail
    refine Calls.mono (HM.out _) ?_
    rintro e w1 ⟨rfl, hb1⟩
    have HB2 : Hid _ := (HK.out _ w1 hb1).2
    clear hb1 HK HX HM
    go_wp2
    go_ret
    exact ⟨rfl, HB2.out⟩

/-- The place of the last one of a name, behind the last marker. -/
def mlastOf (nm : ByteArray) (cs : List Ent) : Int := match cs[(lastOf (lastP nm) cs cs.length).toNat]? with
  | some c => if 0 ≤ lastOf (lastP nm) cs cs.length ∧ (c.node == -1) = true then -1 else lastOf (lastP nm) cs cs.length
  | none => -1

set_option maxRecDepth 100000 in
set_option maxHeartbeats 2000000 in
theorem mlast_in (s B : Nat) (v : Value) (cs : List Ent) (nm : ByteArray) (w : World) (h : ListAt w s B v cs) (hl : cs.length ≤ 1000000) :
    Calls Try.prog 37 #[.pointer (some ⟨s, 0, none⟩), .string nm] w fun e w' => e = .returned (.int .i64 (mlastOf nm cs)) ∧ Below w.heap.size w w' := by
  have hb : Below w.heap.size w (w.alloc (.cells #[.string nm] 9)) := (Below.refl _ _).alloc (Nat.le_refl _) _
  have k1 : (w.alloc (.cells #[.string nm] 9)).cell? ⟨w.heap.size, 0, none⟩ = some (.string nm) := World.cell?_alloc_at _ _ _ 0 rfl
  have HL : Hid _ := last_any s B 63 #[.pointer (some ⟨w.heap.size, 0, none⟩)] v cs (lastP nm) (w.alloc (.cells #[.string nm] 9)) (h.below hb) hl enters_mlast1 (fun i _ w' hb' => (mlast1_any w.heap.size nm i w' ((hb'.cell (p := ⟨w.heap.size, 0, none⟩) (World.block_lt_of_cell? _ _ k1)).trans k1)).mono (fun e w2 ⟨he, h2⟩ => ⟨he, hb'.trans (h2.mono hb'.size)⟩))
  have HB : Hid _ := hb
  have HS : Hid _ := h.below hb
  have hlt := lastOf_lt (lastP nm) cs cs.length
  have HR : Hid (mlastOf nm cs = match cs[(lastOf (lastP nm) cs cs.length).toNat]? with
    | some c => if 0 ≤ lastOf (lastP nm) cs cs.length ∧ (c.node == -1) = true then -1 else lastOf (lastP nm) cs cs.length
    | none => -1) := rfl
  generalize lastOf (lastP nm) cs cs.length = r at HL hlt HR
  obtain ⟨z, hz⟩ : ∃ z, mlastOf nm cs = z := ⟨_, rfl⟩
  rw [hz]
  have HZ : Hid (mlastOf nm cs = z) := hz
  clear hb k1 hz h
  go_enter Try.func37, Try.ntmps37
  go_wp2_with fail
  refine Calls.mono HL.out ?_
  rintro e w1 ⟨rfl, hb1⟩
  have hS1 := HS.out.below hb1
  have HB1 : Hid (Below w.heap.size w w1) := HB.out.trans (hb1.mono HB.out.size)
  clear hb1 HL HS HB
  by_cases h0 : r < 0
  · obtain rfl : r = -1 := by omega
    have hr : mlastOf nm cs = -1 := by
      rw [HR.out]
      split
      · rfl
      · rfl
    obtain rfl : z = -1 := HZ.out.symm.trans hr
    clear hr HR hS1 hlt h0 HZ
    go_wp2
    go_ret
    exact ⟨rfl, HB1.out⟩
  · obtain ⟨k, rfl⟩ := Int.eq_ofNat_of_zero_le (show 0 ≤ r by omega)
    have hk : k < cs.length := by omega
    obtain ⟨c, hc⟩ : ∃ c, cs[k]? = some c := ⟨_, List.getElem?_eq_getElem hk⟩
    have hr : mlastOf nm cs = if (c.node == -1) = true then -1 else (k : Int) := by
      rw [HR.out]
      simp [hc]
    rcases hS1.form2 with ⟨rfl, rfl⟩ | ⟨g, cp, rfl, hcap⟩
    · cases hc
    have c0 := hS1.c0
    have a0 : w1.cell? ⟨g, k * 3 + 0, none⟩ = some (.int .i64 c.node) := hS1.at hc rfl
    have a1 : w1.cell? ⟨g, k * 3 + 1, none⟩ = some (.string c.name) := hS1.at hc rfl
    have a2 : w1.cell? ⟨g, k * 3 + 2, none⟩ = some (.slice none 0 0) := hS1.at hc rfl
    rw [Nat.add_zero] at a0
    have hI : (k : Int) < (cs.length : Int) := by omega
    have HM : Hid _ := marker_any c w1
    unfold entV at HM
    cases hm : (c.node == -1)
    · rw [hm] at HM hr
      obtain rfl : z = (k : Int) := HZ.out.symm.trans (by simpa using hr)
      clear hr HR hS1 hlt h0 hc HZ hm
      go_wp2_with fail
      refine Calls.mono HM.out ?_
      rintro e w2 ⟨rfl, hb2⟩
      have HB2 : Hid (Below w.heap.size w w2) := HB1.out.trans (hb2.mono HB1.out.size)
      clear hb2 c0 a0 a1 a2
      go_wp2
      go_ret
      exact ⟨rfl, HB2.out⟩
    · rw [hm] at HM hr
      obtain rfl : z = -1 := HZ.out.symm.trans (by simpa using hr)
      clear hr HR hS1 hlt h0 hc HZ hm
      go_wp2_with fail
      refine Calls.mono HM.out ?_
      rintro e w2 ⟨rfl, hb2⟩
      have HB2 : Hid (Below w.heap.size w w2) := HB1.out.trans (hb2.mono HB1.out.size)
      clear hb2 c0 a0 a1 a2
      go_wp2
      go_ret
      exact ⟨rfl, HB2.out⟩
end Go.Proofs.Ytalbiekleggkoaa
