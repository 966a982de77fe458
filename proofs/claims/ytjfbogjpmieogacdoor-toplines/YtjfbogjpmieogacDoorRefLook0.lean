/-
  Looking a name up in the table of references.
-/
import Derived.Test.YtjfbogjpmieogacDoorRefTab
import Derived.Test.YtjfbogjpmieogacDoorSearch
import Derived.Test.YtjfbogjpmieogacDoorShelf
import Derived.Shelf.SlSorted.Search
import Derived.RegionTactic
import Derived.Deep.RegionHeld3
namespace Go.Proofs.YtjfbogjpmieogacDoor.Ch
open Go.RowKit Go.Lib Go.Sort

def refNames : List (List UInt8) := refRow.map (·.1)
def nmB (k : Nat) : ByteArray := ⟨(refNames.getD k []).toArray⟩
def refF (k : Nat) : Int := (refRow.getD k ([], 0, 0)).2.1
def refS (k : Nat) : Int := (refRow.getD k ([], 0, 0)).2.2
def refScal (k : Nat) : List Int := if refS k = 0 then [refF k] else [refF k, refS k]

theorem refNames_len : refNames.length = 109 := by decide +kernel
theorem refNames_rise : refNames.Pairwise (fun a b => less a b = true) := by decide +kernel

theorem nmB_list (k : Nat) : (nmB k).toList = refNames.getD k [] := by
  unfold nmB
  exact ByteArray.toList_mk _
theorem nmB_data (k : Nat) : (nmB k).data.toList = refNames.getD k [] := by
  unfold nmB
  rfl

theorem cells_at (rs : List (List UInt8 × Int × Int)) (k : Nat) (hk : k < rs.length) :
    (rs.flatMap (fun r => [Value.string ⟨r.1.toArray⟩, .int .i64 r.2.1, .int .i64 r.2.2]))[k * 3]? = some (.string ⟨rs[k].1.toArray⟩) ∧
    (rs.flatMap (fun r => [Value.string ⟨r.1.toArray⟩, .int .i64 r.2.1, .int .i64 r.2.2]))[k * 3 + 1]? = some (.int .i64 rs[k].2.1) ∧
    (rs.flatMap (fun r => [Value.string ⟨r.1.toArray⟩, .int .i64 r.2.1, .int .i64 r.2.2]))[k * 3 + 2]? = some (.int .i64 rs[k].2.2) := by
  induction rs generalizing k with
  | nil => simp at hk
  | cons r rs ih =>
    match k, hk with
    | 0, _ => simp
    | k + 1, hk =>
      have := ih k (by simpa using hk)
      simp only [List.flatMap_cons]
      rw [show (k + 1) * 3 = k * 3 + 3 by omega, show k * 3 + 3 + 1 = k * 3 + 1 + 3 by omega, show k * 3 + 3 + 2 = k * 3 + 2 + 3 by omega]
      simpa using this

/-- The table lies in block b. -/
structure RefAt (w : World) (b : Nat) : Prop where
  nm : ∀ k, k < 109 → w.cell? ⟨b, k * 3, none⟩ = some (.string (nmB k))
  f : ∀ k, k < 109 → w.cell? ⟨b, k * 3 + 1, none⟩ = some (.int .i64 (refF k))
  s : ∀ k, k < 109 → w.cell? ⟨b, k * 3 + 2, none⟩ = some (.int .i64 (refS k))
  lt : b < w.heap.size

theorem refAt_of {w : World} {b : Nat} (h : w.rangeAt b 0 refCells) (hb : b < w.heap.size) : RefAt w b := by
  have hl : refRow.length = 109 := by decide +kernel
  refine ⟨fun k hk => ?_, fun k hk => ?_, fun k hk => ?_, hb⟩
  · have := h _ _ (cells_at refRow k (by omega)).1
    rw [Nat.zero_add] at this
    rw [this]
    simp [nmB, refNames, List.getD, show k < refRow.length by omega]
  · have := h _ _ (cells_at refRow k (by omega)).2.1
    rw [Nat.zero_add] at this
    rw [this]
    simp [refF, List.getD, show k < refRow.length by omega]
  · have := h _ _ (cells_at refRow k (by omega)).2.2
    rw [Nat.zero_add] at this
    rw [this]
    simp [refS, List.getD, show k < refRow.length by omega]

theorem RefAt.later {w w' : World} {b : Nat} (h : RefAt w b) (hb : Below w.heap.size w w') : RefAt w' b :=
  ⟨fun k hk => (hb.cell (p := ⟨b, k * 3, none⟩) h.lt).trans (h.nm k hk), fun k hk => (hb.cell (p := ⟨b, k * 3 + 1, none⟩) h.lt).trans (h.f k hk), fun k hk => (hb.cell (p := ⟨b, k * 3 + 2, none⟩) h.lt).trans (h.s k hk), Nat.lt_of_lt_of_le h.lt hb.size⟩

/-- Is the name at a place above a text? -/
def abv (t : ByteArray) (i : Nat) : Bool := !(Op.bytesLess (nmB i).toList t.toList || (nmB i).toList == t.toList)
theorem abv_eq (t : ByteArray) (i : Nat) : abv t i = less t.data.toList (refNames.getD i []) := by
  unfold abv
  rw [above_eq, nmB_list, Lib.toList_data]

theorem abv_count (t : ByteArray) : (List.range 109).countP (fun i => !abv t i) = belowN refNames t.data.toList := by
  have e : refNames = (List.range 109).map (fun i => refNames.getD i []) := by
    apply List.ext_getElem
    · simp [refNames_len]
    · intro i h1 h2
      simp [List.getD, h1]
  unfold belowN
  conv => rhs; rw [e, List.countP_map]
  congr 1
  funext i
  simp only [abv_eq, Function.comp]

theorem abv_mono (t : ByteArray) (a b : Nat) (hab : a ≤ b) (hb : b < 109) (h : abv t a = true) : abv t b = true := by
  rw [abv_eq] at h ⊢
  have hl := refNames_len
  rw [getD_at _ _ _ (by omega)] at h
  rw [getD_at _ _ _ (by omega)]
  rcases Nat.lt_or_ge a b with h1 | h1
  · exact less_trans _ _ _ h (List.pairwise_iff_getElem.1 refNames_rise a b (by omega) (by omega) h1)
  · obtain rfl : a = b := by omega
    exact h

set_option maxHeartbeats 2000000 in
theorem aboveCl_any (ba bx b : Nat) (t : ByteArray) (i : Nat) (W : World) (hi : i < 109)
    (ha : W.cell? ⟨ba, 0, none⟩ = some (.slice (some ⟨b, 0, none⟩) 109 109)) (hx : W.cell? ⟨bx, 0, none⟩ = some (.string t)) (hc : W.cell? ⟨b, i * 3, none⟩ = some (.string (nmB i))) :
    Calls Tryd.prog 60 (#[.int .i64 i] ++ #[.pointer (some ⟨ba, 0, none⟩), .pointer (some ⟨bx, 0, none⟩)]) W fun e w' => e = .returned (.bool (abv t i)) ∧ ∃ q, w' = W.drewN q := by
  unfold abv
  generalize nmB i = y at hc ⊢
  have hiz : (i : Int) < 109 := by omega
  go_enter Tryd.func60, Tryd.ntmps60
  go_wp2
  go_region
  all_goals go_wp2
  all_goals go_ret
  all_goals exact ⟨by first | rfl | simp, 1, rfl⟩

set_option maxHeartbeats 2000000 in
theorem above_any (b : Nat) (t : ByteArray) (w : World) (hR : RefAt w b) :
    Calls Tryd.prog 38 #[.slice (some ⟨b, 0, none⟩) 109 109, .string t] w fun e w' => e = .returned (.int .i64 (belowN refNames t.data.toList : Nat)) ∧ Below w.heap.size w w' := by
  obtain ⟨W0, hW0⟩ : ∃ W0, W0 = (w.alloc (.cells #[.slice (some ⟨b, 0, none⟩) 109 109] 80)).alloc (.cells #[.string t] 9) := ⟨_, rfl⟩
  have hsize : W0.heap.size = w.heap.size + 1 + 1 := by rw [hW0]; simp
  have hblk := hR.lt
  have ca : W0.cell? ⟨w.heap.size, 0, none⟩ = some (.slice (some ⟨b, 0, none⟩) 109 109) := by rw [hW0]; exact cell_alloc_sl _ (cell_new_sl w _ _)
  have cx : W0.cell? ⟨w.heap.size + 1, 0, none⟩ = some (.string t) := by rw [hW0]; have := cell_new_sl (w.alloc (.cells #[.slice (some ⟨b, 0, none⟩) 109 109] 80)) (.string t) 9; rwa [World.size_alloc] at this
  have cc : ∀ i, i < 109 → W0.cell? ⟨b, i * 3, none⟩ = some (.string (nmB i)) := fun i hi => by rw [hW0]; exact cell_alloc_sl _ (cell_alloc_sl _ (hR.nm i hi))
  have eg : ∀ args w, (callFunc 60 args).run Tryd.prog w = .ok (.enter 60 args) w := enters_of Tryd.func60 (by kernel_rfl) rfl
  have hS := Any.sort_Search Tryd.search 60 #[.pointer (some ⟨w.heap.size, 0, none⟩), .pointer (some ⟨w.heap.size + 1, 0, none⟩)] 109 (abv t) W0 eg (by omega)
    (fun m os i hi => (aboveCl_any w.heap.size (w.heap.size + 1) b t i _ hi (cell_grown (by simp [hsize]; omega) ca m os) (cell_grown (by simp [hsize]) cx m os) (cell_grown (by simp [hsize]; omega) (cc i hi) m os)).mono
      fun _ _ ⟨he, q, hq⟩ => ⟨he, q, #[], by rw [hq, grow_empty]⟩) (fun x y hxy hy h => abv_mono t x y hxy hy h)
  rw [abv_count] at hS
  change Calls Tryd.prog 40 _ _ _ at hS
  clear ca cx cc hR
  generalize belowN refNames t.data.toList = r at hS ⊢
  go_enter Tryd.func38, Tryd.ntmps38
  go_wp2_with (go_at_call 40; rw [← hW0]; refine hS.mono ?_; rintro e w' ⟨rfl, q, os, rfl⟩)
  go_ret
  refine ⟨rfl, ?_⟩
  rw [← hW0]
  have hB0 : Below w.heap.size w W0 := by rw [hW0]; exact ((Below.refl _ w).alloc (Nat.le_refl _) _).alloc (by simp) _
  exact hB0.trans (below_grown_sl w.heap.size W0 q os (by omega))

/-- Some whole numbers lie in block g, which is new. -/
structure Scal (w w' : World) (L : List Int) (g : Nat) : Prop where
  cell : ∀ j, (h : j < L.length) → w'.cell? ⟨g, j, none⟩ = some (.int .i64 L[j])
  lt : g < w'.heap.size
  ge : w.heap.size ≤ g
  below : Below w.heap.size w w'

set_option maxHeartbeats 1000000 in
theorem scal_any (nm : ByteArray) (k : Nat) (w : World) :
    Calls Tryd.prog 39 #[.agg #[.string nm, .int .i64 (refF k), .int .i64 (refS k)]] w fun e w' => e = .returned (.slice (some ⟨w.heap.size + 1, 0, none⟩) (refScal k).length (refScal k).length) ∧ Scal w w' (refScal k) (w.heap.size + 1) := by
  unfold refScal
  generalize refF k = f
  generalize refS k = s
  have HB : Hid (∀ o1 o2, Below w.heap.size w ((w.alloc o1).alloc o2)) := fun o1 o2 => ((Below.refl _ _).alloc (Nat.le_refl _) o1).alloc (by simp) o2
  by_cases h0 : s = 0
  · have hb : (s == 0) = true := by simpa using h0
    rw [if_pos h0]
    clear h0
    go_enter Tryd.func39, Tryd.ntmps39
    go_wp2
    go_ret
    refine ⟨rfl, fun j hj => ?_, by simp, by omega, HB.out _ _⟩
    obtain rfl : j = 0 := by simp at hj; omega
    exact World.cell?_alloc_at _ _ _ _ (by simp)
  · have hb : (s == 0) = false := beq_false_of_ne h0
    rw [if_neg h0]
    clear h0
    go_enter Tryd.func39, Tryd.ntmps39
    go_wp2
    go_ret
    refine ⟨rfl, fun j hj => ?_, by simp, by omega, HB.out _ _⟩
    match j, hj with
    | 0, _ => exact World.cell?_alloc_at _ _ _ _ (by simp)
    | 1, _ => exact World.cell?_alloc_at _ _ _ _ (by simp)
    | j + 2, hj => exact absurd hj (by simp)

/-- The table is laid into a variable of the caller's. -/
theorem ref_store (w : World) (b : Nat) (hb : b = w.heap.size) : RefAt ((w.alloc (.cells refZero 77)).setCells b 0 refCells.toArray.toList) b ∧ Below w.heap.size w ((w.alloc (.cells refZero 77)).setCells b 0 refCells.toArray.toList) ∧ (w.alloc (.cells refZero 77)).there b 0 refCells.toArray.size := by
  subst hb
  have hth : (w.alloc (.cells refZero 77)).there w.heap.size 0 refCells.toArray.size := fun j hj => by
    have hs : refCells.toArray.size = refZero.size := by kernel_rfl
    rw [hs] at hj
    constructor
    · rw [Nat.zero_add, World.cell?_alloc_at _ _ _ _ rfl, Array.getElem?_eq_getElem hj]
      rfl
    · exact World.frozen?_alloc_at _ _ _ _ rfl
  have hB2 := below_setCells w.heap.size w.heap.size (Nat.le_refl _) refCells.toArray.toList 0 (w.alloc (.cells refZero 77))
  refine ⟨refAt_of (World.rangeAt_setCells_same _ _ _ refCells (by simpa using hth)) ?_, ((Below.refl _ _).alloc (Nat.le_refl _) _).trans hB2, hth⟩
  have hs := hB2.size
  rw [World.size_alloc] at hs
  omega

/-- The place of the longest name with which a text begins. -/
def longK (t : ByteArray) : Option Nat := downPre refNames t.data.toList 109

theorem longK_eq (t : ByteArray) : longK t = downPre refNames t.data.toList (belowN refNames t.data.toList) := by
  have h := downPre_below refNames refNames_rise t.data.toList 109 (by have := belowN_le refNames t.data.toList; rw [refNames_len] at this; exact this)
  exact h

/-- What Longest tells. -/
def LongIs (t : ByteArray) (w w' : World) (e : Ending) : Prop :=
  (longK t = none ∧ e = .returned (.tuple #[.string ByteArray.empty, .slice none 0 0]) ∧ Below w.heap.size w w') ∨
  ∃ k g, longK t = some k ∧ e = .returned (.tuple #[.string (nmB k), .slice (some ⟨g, 0, none⟩) (refScal k).length (refScal k).length]) ∧ Scal w w' (refScal k) g

set_option maxRecDepth 100000 in
set_option maxHeartbeats 2000000 in
theorem longest_any (t : ByteArray) (w : World) :
    Calls Tryd.prog 19 #[.string t] w fun e w' => LongIs t w w' e := by
  have hz := zero_refs
  have hn := belowN_le refNames t.data.toList
  rw [refNames_len] at hn
  have HK : Hid _ := longK_eq t
  go_enter Tryd.func19, Tryd.ntmps19
  go_upto_region 2 with (first | (go_at_call 37; refine (refs_any _).mono ?_; rintro e w1 ⟨rfl, hb1⟩) | (refine wpList_store_mid rfl 77 (.tmp 4) (.tmp 6) rfl _ 0 refCells.toArray rfl rfl (ref_store _ _ rfl).2.2 (by kernel_rfl) (by kernel_rfl) ?_))
  have hw1 : Below w.heap.size w w1 := by assumption
  obtain ⟨hR, hB2, _⟩ := ref_store w1 _ rfl
  have HB : Hid _ := hw1.trans (hB2.mono hw1.size)
  clear hw1 hB2 hz
  revert hR HB
  generalize (w1.alloc (.cells refZero 77)).setCells w1.heap.size 0 refCells.toArray.toList = w2
  intro hR HB
  have HR : Hid _ := hR
  have HA : Hid _ := above_any w1.heap.size t w2 hR
  clear hR
  go_wp2_with fail
  refine Calls.mono HA.out ?_
  rintro e w3 ⟨rfl, hb3⟩
  have HR3 : Hid _ := HR.out.later hb3
  have HB3 : Hid _ := HB.out.trans (hb3.mono HB.out.size)
  generalize belowN refNames t.data.toList = n at HK hn ⊢
  generalize w1.heap.size = b at HR3 HA ⊢
  clear HR HB hb3 HA
  go_wp2
  go_loopw [5] (fun i wr => ∃ k : Nat, k ≤ n ∧ i = .int .i64 ((k : Int) - 1) ∧ longK t = downPre refNames t.data.toList k ∧ wr = w3) (fun i _ => (intOf i + 1).toNat)
  case atStart => exact ⟨n, Nat.le_refl _, rfl, HK.out, rfl⟩
  case round =>
    clear HK
    obtain ⟨k, hk, rfl, hlk, rfl⟩ := hrel
    have HK : Hid _ := hlk
    clear hlk
    cases k with
    | zero =>
      go_wp2
      go_ret2
      exact Or.inl ⟨HK.out, rfl, HB3.out⟩
    | succ k =>
      have hk9 : k < 109 := by omega
      have c0 := HR3.out.nm k hk9
      have c1 := HR3.out.f k hk9
      have c2 := HR3.out.s k hk9
      have e1 : ((k + 1 : Nat) : Int) - 1 = (k : Int) := by omega
      rw [e1]
      have k0 : (0 : Int) ≤ (k : Int) := by omega
      have k9 : (k : Int) < 109 := by omega
      have HP : Hid _ := Tryd.strings_HasPrefix t (nmB k) wr
      rw [nmB_data] at HP
      have HD : Hid (longK t = if Lib.hasPrefix t.data.toList (refNames.getD k []) = true then some k else downPre refNames t.data.toList k) := by
        show _ = _
        rw [HK.out, downPre, refNames_len]
        simp [Lib.hasPrefix, hk9]
      cases hp : Lib.hasPrefix t.data.toList (refNames.getD k [])
      · rw [hp] at HP HD
        have HD2 : Hid (longK t = downPre refNames t.data.toList k) := HD.out
        clear hp HD HK c1 c2
        go_wp2_with fail
        refine Calls.mono HP.out ?_
        rintro e w4 ⟨rfl, hw4⟩
        subst w4
        go_wp2
        go_roundw
        case rel => exact ⟨k, by omega, by go_num, HD2.out, by simp⟩
        case measure => simp [intOf]
      · rw [hp] at HP HD
        have HD2 : Hid (longK t = some k) := HD.out
        clear hp HD HK
        go_wp2_with fail
        refine Calls.mono HP.out ?_
        rintro e w4 ⟨rfl, hw4⟩
        subst w4
        have HS : Hid (∀ W, Calls Tryd.prog 39 #[.agg #[.string (nmB k), .int .i64 (refF k), .int .i64 (refS k)]] W fun e w' => e = .returned (.slice (some ⟨W.heap.size + 1, 0, none⟩) (refScal k).length (refScal k).length) ∧ Scal W w' (refScal k) (W.heap.size + 1)) := fun W => scal_any (nmB k) k W
        have hblt := HR3.out.lt
        clear HP HR3
        obtain ⟨nm, hnm⟩ : ∃ nm, nmB k = nm := ⟨_, rfl⟩
        rw [hnm] at c0 HS ⊢
        have HNM : Hid (nmB k = nm) := hnm
        clear hnm
        generalize refF k = f at c1 HS ⊢
        generalize refS k = s at c2 HS ⊢
        go_upto_region 6 with fail
        go_region_held3 (fun w' => w'.cell? ⟨b, k * 3, none⟩ = some (.string nm) ∧ w'.cell? ⟨b, k * 3 + 1, none⟩ = some (.int .i64 f) ∧ w'.cell? ⟨b, k * 3 + 2, none⟩ = some (.int .i64 s)) ((first | go_keep | (refine ⟨?_, ?_, ?_⟩ <;> ((rw [hsc.below.cell hblt]; assumption))))) ((go_at_call 39; refine Calls.mono (HS.out _) ?_; rintro e w' ⟨rfl, hsc⟩))
        all_goals
          go_wp2
          go_ret2
          rw [← HNM.out]
          have hs3 := HB3.out.size
          exact Or.inr ⟨k, _, HD2.out, rfl, ⟨hsc.cell, hsc.lt, Nat.le_trans hs3 (Nat.le_succ _), HB3.out.drew.trans (hsc.below.mono hs3)⟩⟩
end Go.Proofs.YtjfbogjpmieogacDoor.Ch
