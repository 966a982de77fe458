/-
  The document's answer on names: its table, the longest one, its scalars.
-/
import Derived.Test.YtcndjfpcddidhabRefMore
namespace Go.Proofs.Ytcndjfpcddidhab
open Go.RowKit

/-- The names lie in block g. -/
structure NmAt (w : World) (g : Nat) : Prop where
  cell : ∀ i, i < 109 → w.cell? ⟨g, i, none⟩ = some (.string (nmB i))
  lt : g < w.heap.size

theorem NmAt.later {w w' : World} {g : Nat} (h : NmAt w g) (hb : Below w.heap.size w w') : NmAt w' g :=
  ⟨fun i hi => (hb.cell (p := ⟨g, i, none⟩) h.lt).trans (h.cell i hi), Nat.lt_of_lt_of_le h.lt hb.size⟩

def nmCells : List Value := refNames.map (fun l => .string ⟨l.toArray⟩)

set_option maxRecDepth 1000000 in
set_option maxHeartbeats 2000000 in
theorem rNames_any (w : World) :
    Calls Try.prog 12 #[] w fun e w' => e = .returned (.slice (some ⟨w.heap.size, 0, none⟩) 109 109) ∧ NmAt w' w.heap.size ∧ Below w.heap.size w w' := by
  go_enter Try.func12, Try.ntmps12
  go_upto_region 1 with fail
  refine wp_region_lit ?_
  refine wpList_run (v := .slice (some ⟨w.heap.size, 0, none⟩) 109 109) (w' := w.alloc (.cells nmCells.toArray 9)) rfl (by kernel_rfl) ?_
  have hN : NmAt (w.alloc (.cells nmCells.toArray 9)) w.heap.size := by
    refine ⟨fun i hi => ?_, by simp⟩
    rw [World.cell?_alloc_at _ _ _ _ rfl]
    have hl := refNames_len
    simp [nmCells, nmB, List.getD, show i < refNames.length by omega]
  have HN : Hid _ := hN
  have HB : Hid (Below w.heap.size w (w.alloc (.cells nmCells.toArray 9))) := (Below.refl _ _).alloc (Nat.le_refl _) _
  clear hN
  generalize w.alloc (.cells nmCells.toArray 9) = w2 at HN HB ⊢
  go_wp2
  go_ret
  exact ⟨rfl, HN.out, HB.out⟩

/-- Blocks laid one behind the other. -/
def allocAll (t : TypeId) : World → List (Array Value) → World
  | w, [] => w
  | w, c :: cs => allocAll t (w.alloc (.cells c t)) cs
def slicesOf : Nat → List (Array Value) → List Value
  | _, [] => []
  | s, c :: cs => .slice (some ⟨s, 0, none⟩) c.size c.size :: slicesOf (s + 1) cs

theorem allocAll_size (t : TypeId) (cs : List (Array Value)) : ∀ w, (allocAll t w cs).heap.size = w.heap.size + cs.length := by
  induction cs with
  | nil => intro w; rfl
  | cons c cs ih => intro w; rw [allocAll, ih]; simp; omega

theorem allocAll_below (t : TypeId) (B : Nat) (cs : List (Array Value)) : ∀ w : World, B ≤ w.heap.size → Below B w (allocAll t w cs) := by
  induction cs with
  | nil => intro w _; exact Below.refl _ _
  | cons c cs ih => intro w hB; exact ((Below.refl _ _).alloc hB _).trans (ih _ (by simp; omega))

theorem allocAll_cell (t : TypeId) (cs : List (Array Value)) : ∀ (w : World) (k : Nat) (hk : k < cs.length) (j : Nat), (allocAll t w cs).cell? ⟨w.heap.size + k, j, none⟩ = cs[k][j]? := by
  induction cs with
  | nil => intro w k hk; simp at hk
  | cons c cs ih =>
    intro w k hk j
    match k, hk with
    | 0, _ =>
      have hB := allocAll_below t (w.heap.size + 1) cs (w.alloc (.cells c t)) (by simp)
      rw [allocAll, hB.cell (p := ⟨w.heap.size + 0, j, none⟩) (by show w.heap.size + 0 < w.heap.size + 1; omega)]
      exact World.cell?_alloc_at _ _ _ _ rfl
    | k + 1, hk =>
      have := ih (w.alloc (.cells c t)) k (by simpa using hk) j
      rw [World.size_alloc] at this
      rw [allocAll, show w.heap.size + (k + 1) = w.heap.size + 1 + k by omega, this]
      rfl

theorem slicesOf_at (cs : List (Array Value)) : ∀ (s k : Nat) (hk : k < cs.length), (slicesOf s cs)[k]? = some (.slice (some ⟨s + k, 0, none⟩) cs[k].size cs[k].size) := by
  induction cs with
  | nil => intro s k hk; simp at hk
  | cons c cs ih =>
    intro s k hk
    match k, hk with
    | 0, _ => rfl
    | k + 1, hk =>
      rw [slicesOf, List.getElem?_cons_succ, ih (s + 1) k (by simpa using hk)]
      simp [show s + 1 + k = s + (k + 1) by omega]

theorem wpList_builds {P : Program} {ops : Array Oper} {Q : Exit → Act → World → Prop} (t : TypeId) (pre : List Oper) : ∀ (cs : List (Array Value)) (rest l : List Oper) (a : Act) (w : World), l = pre ++ rest → pre.length = cs.length → pre.all (fun o => o.guard.isNone) = true →
    (∀ (a : Act) (w : World), pre.map (fun o => (execOp a.eval o).run P w) = cs.map (fun c => .ok (.value (.slice (some ⟨w.heap.size, 0, none⟩) c.size c.size)) (w.alloc (.cells c t)))) →
    wpList P ops Q rest (putAll pre (slicesOf w.heap.size cs) a) (allocAll t w cs) → wpList P ops Q l a w := by
  induction pre with
  | nil =>
    intro cs rest l a w hl hn _ _ k
    subst hl
    cases cs with
    | nil => exact k
    | cons c cs => cases hn
  | cons o pre ih =>
    intro cs rest l a w hl hn hg hr k
    subst hl
    cases cs with
    | nil => cases hn
    | cons c cs =>
      have hr0 := hr a w
      simp only [List.map_cons, List.cons.injEq] at hr0
      simp only [List.all_cons, Bool.and_eq_true, Option.isNone_iff_eq_none] at hg
      refine wpList_run hg.1 hr0.1 (ih cs rest _ _ _ rfl (by simpa using hn) hg.2 (fun a' w' => ?_) ?_)
      · have := hr a' w'
        simp only [List.map_cons, List.cons.injEq] at this
        exact this.2
      · rw [World.size_alloc]
        exact k

def refCs : List (Array Value) := refRow.map (fun r => if r.2.2 = 0 then #[.int .i64 r.2.1] else #[.int .i64 r.2.1, .int .i64 r.2.2])
noncomputable def scalOps : List Oper := (Try.f15.body.map opsOf).getD []

theorem refCs_at (k : Nat) (hk : k < 109) : ∃ h : k < refCs.length, refCs[k].size = (refScal k).length ∧ ∀ j, (hj : j < (refScal k).length) → refCs[k][j]? = some (.int .i64 (refScal k)[j]) := by
  have hl : refRow.length = 109 := by decide +kernel
  have hc : refCs.length = 109 := by simp [refCs, hl]
  refine ⟨by omega, ?_⟩
  have e : refCs[k]'(by omega) = if refS k = 0 then #[.int .i64 (refF k)] else #[.int .i64 (refF k), .int .i64 (refS k)] := by
    simp [refCs, refS, refF, List.getD, show k < refRow.length by omega]
  rw [e]
  unfold refScal
  by_cases h0 : refS k = 0
  · simp only [h0, if_true]
    refine ⟨rfl, fun j hj => ?_⟩
    obtain rfl : j = 0 := by simp at hj; omega
    rfl
  · simp only [h0, if_false]
    refine ⟨rfl, fun j hj => ?_⟩
    match j, hj with
    | 0, _ => rfl
    | 1, _ => rfl
    | j + 2, hj => exact absurd hj (by simp)

theorem wpList_at {P : Program} {ops : Array Oper} {Q : Exit → Act → World → Prop} {l : List Oper} {a b : Act} {w w' : World} (o : Oper) (rest : List Oper) (v : Value) (hl : l = o :: rest) (hg : o.guard = none) (h : (execOp a.eval o).run P w = .ok (.value v) w') (hb : a.put o.dst v = b)
    (k : wpList P ops Q rest b w') : wpList P ops Q l a w := by
  subst hl hb
  exact wpList_run hg h k

/-- The frame behind the rows. -/
def scFrame (k : Nat) (s : Nat) (x y : Value) : Act := ⟨#[.int .i64 (k : Int), undef, .slice none 0 0, x, .slice (some ⟨s, 0, none⟩) 1 1, .slice (some ⟨s + 1, 0, none⟩) 1 1, .slice (some ⟨s + 2, 0, none⟩) 1 1, .slice (some ⟨s + 3, 0, none⟩) 1 1, .slice (some ⟨s + 4, 0, none⟩) 1 1, .slice (some ⟨s + 5, 0, none⟩) 1 1, .slice (some ⟨s + 6, 0, none⟩) 1 1, .slice (some ⟨s + 7, 0, none⟩) 1 1, .slice (some ⟨s + 8, 0, none⟩) 1 1, .slice (some ⟨s + 9, 0, none⟩) 1 1, .slice (some ⟨s + 10, 0, none⟩) 2 2, .slice (some ⟨s + 11, 0, none⟩) 1 1, .slice (some ⟨s + 12, 0, none⟩) 1 1, .slice (some ⟨s + 13, 0, none⟩) 1 1, .slice (some ⟨s + 14, 0, none⟩) 1 1, .slice (some ⟨s + 15, 0, none⟩) 1 1, .slice (some ⟨s + 16, 0, none⟩) 1 1, .slice (some ⟨s + 17, 0, none⟩) 1 1, .slice (some ⟨s + 18, 0, none⟩) 1 1, .slice (some ⟨s + 19, 0, none⟩) 1 1, .slice (some ⟨s + 20, 0, none⟩) 1 1, .slice (some ⟨s + 21, 0, none⟩) 2 2, .slice (some ⟨s + 22, 0, none⟩) 1 1, .slice (some ⟨s + 23, 0, none⟩) 1 1, .slice (some ⟨s + 24, 0, none⟩) 1 1, .slice (some ⟨s + 25, 0, none⟩) 1 1, .slice (some ⟨s + 26, 0, none⟩) 1 1, .slice (some ⟨s + 27, 0, none⟩) 1 1, .slice (some ⟨s + 28, 0, none⟩) 1 1, .slice (some ⟨s + 29, 0, none⟩) 1 1, .slice (some ⟨s + 30, 0, none⟩) 1 1, .slice (some ⟨s + 31, 0, none⟩) 1 1, .slice (some ⟨s + 32, 0, none⟩) 1 1, .slice (some ⟨s + 33, 0, none⟩) 1 1, .slice (some ⟨s + 34, 0, none⟩) 1 1, .slice (some ⟨s + 35, 0, none⟩) 1 1, .slice (some ⟨s + 36, 0, none⟩) 1 1, .slice (some ⟨s + 37, 0, none⟩) 1 1, .slice (some ⟨s + 38, 0, none⟩) 1 1, .slice (some ⟨s + 39, 0, none⟩) 1 1, .slice (some ⟨s + 40, 0, none⟩) 1 1, .slice (some ⟨s + 41, 0, none⟩) 1 1, .slice (some ⟨s + 42, 0, none⟩) 1 1, .slice (some ⟨s + 43, 0, none⟩) 1 1, .slice (some ⟨s + 44, 0, none⟩) 1 1, .slice (some ⟨s + 45, 0, none⟩) 1 1, .slice (some ⟨s + 46, 0, none⟩) 1 1, .slice (some ⟨s + 47, 0, none⟩) 1 1, .slice (some ⟨s + 48, 0, none⟩) 1 1, .slice (some ⟨s + 49, 0, none⟩) 1 1, .slice (some ⟨s + 50, 0, none⟩) 1 1, .slice (some ⟨s + 51, 0, none⟩) 1 1, .slice (some ⟨s + 52, 0, none⟩) 1 1, .slice (some ⟨s + 53, 0, none⟩) 1 1, .slice (some ⟨s + 54, 0, none⟩) 1 1, .slice (some ⟨s + 55, 0, none⟩) 1 1, .slice (some ⟨s + 56, 0, none⟩) 1 1, .slice (some ⟨s + 57, 0, none⟩) 1 1, .slice (some ⟨s + 58, 0, none⟩) 1 1, .slice (some ⟨s + 59, 0, none⟩) 1 1, .slice (some ⟨s + 60, 0, none⟩) 1 1, .slice (some ⟨s + 61, 0, none⟩) 1 1, .slice (some ⟨s + 62, 0, none⟩) 1 1, .slice (some ⟨s + 63, 0, none⟩) 1 1, .slice (some ⟨s + 64, 0, none⟩) 1 1, .slice (some ⟨s + 65, 0, none⟩) 1 1, .slice (some ⟨s + 66, 0, none⟩) 1 1, .slice (some ⟨s + 67, 0, none⟩) 1 1, .slice (some ⟨s + 68, 0, none⟩) 1 1, .slice (some ⟨s + 69, 0, none⟩) 1 1, .slice (some ⟨s + 70, 0, none⟩) 1 1, .slice (some ⟨s + 71, 0, none⟩) 1 1, .slice (some ⟨s + 72, 0, none⟩) 1 1, .slice (some ⟨s + 73, 0, none⟩) 2 2, .slice (some ⟨s + 74, 0, none⟩) 1 1, .slice (some ⟨s + 75, 0, none⟩) 1 1, .slice (some ⟨s + 76, 0, none⟩) 1 1, .slice (some ⟨s + 77, 0, none⟩) 1 1, .slice (some ⟨s + 78, 0, none⟩) 1 1, .slice (some ⟨s + 79, 0, none⟩) 1 1, .slice (some ⟨s + 80, 0, none⟩) 1 1, .slice (some ⟨s + 81, 0, none⟩) 1 1, .slice (some ⟨s + 82, 0, none⟩) 1 1, .slice (some ⟨s + 83, 0, none⟩) 1 1, .slice (some ⟨s + 84, 0, none⟩) 1 1, .slice (some ⟨s + 85, 0, none⟩) 1 1, .slice (some ⟨s + 86, 0, none⟩) 1 1, .slice (some ⟨s + 87, 0, none⟩) 1 1, .slice (some ⟨s + 88, 0, none⟩) 1 1, .slice (some ⟨s + 89, 0, none⟩) 1 1, .slice (some ⟨s + 90, 0, none⟩) 1 1, .slice (some ⟨s + 91, 0, none⟩) 1 1, .slice (some ⟨s + 92, 0, none⟩) 1 1, .slice (some ⟨s + 93, 0, none⟩) 1 1, .slice (some ⟨s + 94, 0, none⟩) 1 1, .slice (some ⟨s + 95, 0, none⟩) 1 1, .slice (some ⟨s + 96, 0, none⟩) 1 1, .slice (some ⟨s + 97, 0, none⟩) 1 1, .slice (some ⟨s + 98, 0, none⟩) 1 1, .slice (some ⟨s + 99, 0, none⟩) 1 1, .slice (some ⟨s + 100, 0, none⟩) 1 1, .slice (some ⟨s + 101, 0, none⟩) 1 1, .slice (some ⟨s + 102, 0, none⟩) 1 1, .slice (some ⟨s + 103, 0, none⟩) 1 1, .slice (some ⟨s + 104, 0, none⟩) 1 1, .slice (some ⟨s + 105, 0, none⟩) 1 1, .slice (some ⟨s + 106, 0, none⟩) 1 1, .slice (some ⟨s + 107, 0, none⟩) 1 1, .slice (some ⟨s + 108, 0, none⟩) 1 1, y, undef, undef, undef, undef], []⟩

theorem sc_put (k s : Nat) : putAll (scalOps.take 109) (slicesOf s refCs) ⟨#[.int .i64 (k : Int), undef, .slice none 0 0, undef, undef, undef, undef, undef, undef, undef, undef, undef, undef, undef, undef, undef, undef, undef, undef, undef, undef, undef, undef, undef, undef, undef, undef, undef, undef, undef, undef, undef, undef, undef, undef, undef, undef, undef, undef, undef, undef, undef, undef, undef, undef, undef, undef, undef, undef, undef, undef, undef, undef, undef, undef, undef, undef, undef, undef, undef, undef, undef, undef, undef, undef, undef, undef, undef, undef, undef, undef, undef, undef, undef, undef, undef, undef, undef, undef, undef, undef, undef, undef, undef, undef, undef, undef, undef, undef, undef, undef, undef, undef, undef, undef, undef, undef, undef, undef, undef, undef, undef, undef, undef, undef, undef, undef, undef, undef, undef, undef, undef, undef, undef, undef, undef, undef, undef], []⟩ = scFrame k s undef undef := by kernel_rfl

set_option maxRecDepth 1000000 in
set_option maxHeartbeats 4000000 in
theorem rScal_any (k : Nat) (hk : k < 109) (w : World) :
    Calls Try.prog 15 #[.int .i64 (k : Int)] w fun e w' => ∃ g, e = .returned (.slice (some ⟨g, 0, none⟩) (refScal k).length (refScal k).length) ∧ Scal w w' (refScal k) g := by
  go_enter Try.func15, Try.ntmps15
  go_upto_region 1 with fail
  refine wp_region_lit ?_
  refine wpList_builds 3 (scalOps.take 109) refCs (scalOps.drop 109) _ _ _ (by kernel_rfl) (by kernel_rfl) (by kernel_rfl) (fun _ _ => by kernel_rfl) ?_
  rw [sc_put]
  obtain ⟨hkc, hks, hkj⟩ := refCs_at k hk
  have hc1 : ∀ j, (allocAll 3 w refCs).cell? ⟨w.heap.size + k, j, none⟩ = refCs[k][j]? := allocAll_cell 3 refCs w k hkc
  have hsz := allocAll_size 3 refCs w
  have hB := allocAll_below 3 w.heap.size refCs w (Nat.le_refl _)
  have hat := slicesOf_at refCs w.heap.size k hkc
  have hlen : refCs.length = 109 := by decide +kernel
  rw [hlen] at hsz
  generalize allocAll 3 w refCs = W at hc1 hsz hB ⊢
  have HCS : Hid _ := hat
  clear hat
  refine wpList_at ((scalOps.drop 109).headD default) (scalOps.drop 110) (.slice (some ⟨W.heap.size, 0, none⟩) 109 109) (w' := W.alloc (.cells (slicesOf w.heap.size refCs).toArray 22)) (b := scFrame k w.heap.size undef (.slice (some ⟨W.heap.size, 0, none⟩) 109 109)) (by kernel_rfl) (by kernel_rfl) (by kernel_rfl) (by kernel_rfl) ?_
  refine wpList_at ((scalOps.drop 110).headD default) [] (.slice (some ⟨W.heap.size, 0, none⟩) 109 109) (w' := W.alloc (.cells (slicesOf w.heap.size refCs).toArray 22)) (b := scFrame k w.heap.size (.slice (some ⟨W.heap.size, 0, none⟩) 109 109) (.slice (some ⟨W.heap.size, 0, none⟩) 109 109)) (by kernel_rfl) (by kernel_rfl) (by kernel_rfl) (by kernel_rfl) ?_
  refine wpList_nil ?_
  have d0 : (W.alloc (.cells (slicesOf w.heap.size refCs).toArray 22)).cell? ⟨W.heap.size, k, none⟩ = some (.slice (some ⟨w.heap.size + k, 0, none⟩) (refScal k).length (refScal k).length) := by
    rw [World.cell?_alloc_at _ _ _ _ rfl, ← hks]
    simpa using HCS.out
  have hS : Scal w (W.alloc (.cells (slicesOf w.heap.size refCs).toArray 22)) (refScal k) (w.heap.size + k) := by
    have hB2 : Below W.heap.size W (W.alloc (.cells (slicesOf w.heap.size refCs).toArray 22)) := (Below.refl _ _).alloc (Nat.le_refl _) _
    refine ⟨fun j hj => ?_, by simp; omega, by omega, hB.trans (hB2.mono hB.size)⟩
    rw [hB2.cell (p := ⟨w.heap.size + k, j, none⟩) (by show w.heap.size + k < W.heap.size; omega), hc1]
    exact hkj j hj
  have HS : Hid _ := hS
  clear hS HCS hc1 hsz hB
  generalize W.alloc (.cells (slicesOf w.heap.size refCs).toArray 22) = w2 at d0 HS ⊢
  rename_i K hK
  show K _ _
  refine hK _ _ ?_
  clear hK K
  have hk9 : (k : Int) < 109 := by omega
  have hk0 : (0 : Int) ≤ (k : Int) := by omega
  unfold scFrame
  go_wp2
  go_ret
  exact ⟨_, rfl, HS.out⟩

def bestI : Option Nat → Int
  | none => -1
  | some b => (b : Int)

theorem fit_pre (t : ByteArray) (k : Nat) (h : (refNames.getD k []).isPrefixOf t.data.toList = true) : (nmB k).size ≤ t.size ∧ t.extract 0 (nmB k).size = nmB k := by
  rw [List.isPrefixOf_iff_prefix] at h
  have hl : (refNames.getD k []).length ≤ t.size := by have := h.length_le; simpa using this
  refine ⟨by rw [nmB_size]; exact hl, ?_⟩
  apply ByteArray.ext
  apply Array.toList_inj.1
  rw [cut_take, nmB_size, nmB_data]
  exact (List.prefix_iff_eq_take.1 h).symm

theorem fit_not (t : ByteArray) (k : Nat) (h : (refNames.getD k []).isPrefixOf t.data.toList = false) : ((t.extract 0 (nmB k).size).toList == (nmB k).toList) = false := by
  rw [Lib.toList_data, Lib.toList_data, cut_take, nmB_data, nmB_size]
  apply beq_false_of_ne
  intro e
  have : (refNames.getD k []).isPrefixOf t.data.toList = true := by
    rw [List.isPrefixOf_iff_prefix, ← e]
    exact List.take_prefix _ _
  rw [h] at this
  cases this

theorem down_next (t : List UInt8) (k : Nat) (hk : k < 109) : downPre refNames t (k + 1) = if (refNames.getD k []).isPrefixOf t = true then some k else downPre refNames t k := by
  rw [downPre, refNames_len]
  simp [hk]

set_option maxRecDepth 100000 in
set_option maxHeartbeats 2000000 in
theorem rLongest_any (t : ByteArray) (w : World) :
    Calls Try.prog 13 #[.string t] w fun e w' => e = .returned (.int .i64 (bestI (longK t))) ∧ Below w.heap.size w w' := by
  have HN : Hid _ := rNames_any w
  go_enter Try.func13, Try.ntmps13
  go_wp2_with fail
  refine Calls.mono HN.out ?_
  rintro e w1 ⟨rfl, hN, hB⟩
  have HNM : Hid _ := hN
  have HB : Hid _ := hB
  generalize w.heap.size = g at HNM ⊢
  clear hN hB HN
  go_wp2
  go_loopw [4, 5] (fun b i wr => ∃ k : Nat, k ≤ 109 ∧ i = .int .i64 k ∧ b = .int .i64 (bestI (downPre refNames t.data.toList k)) ∧ wr = w1) (fun _ i _ => 109 - (intOf i).toNat)
  case atStart => exact ⟨0, by omega, rfl, rfl, rfl⟩
  case round =>
    obtain ⟨k, hk, rfl, rfl, rfl⟩ := hrel
    by_cases hlt : k < 109
    · have ck := HNM.out.cell k hlt
      have hk9 : (k : Int) < 109 := by omega
      have HD : Hid _ := down_next t.data.toList k hlt
      cases hp : (refNames.getD k []).isPrefixOf t.data.toList with
      | false =>
        rw [hp] at HD
        have HD2 : Hid (downPre refNames t.data.toList (k + 1) = downPre refNames t.data.toList k) := HD.out
        have hf := fit_not t k hp
        obtain ⟨bi, hbi⟩ : ∃ bi, bestI (downPre refNames t.data.toList k) = bi := ⟨_, rfl⟩
        have HBI : Hid (bestI (downPre refNames t.data.toList (k + 1)) = bi) := by show _ = _; rw [HD2.out, hbi]
        rw [hbi]
        clear hbi hp HD HD2
        by_cases hl : (nmB k).size ≤ t.size
        · have hlI : ((nmB k).size : Int) ≤ (t.size : Int) := by omega
          clear hl
          generalize nmB k = nm at *
          go_wp2
          go_roundw
          case rel => exact ⟨k + 1, by omega, by go_num, by rw [HBI.out], by simp⟩
          case measure => simp [intOf]; omega
        · have hlI : ¬ ((nmB k).size : Int) ≤ (t.size : Int) := by omega
          clear hl hf
          generalize nmB k = nm at *
          go_wp2
          go_roundw
          case rel => exact ⟨k + 1, by omega, by go_num, by rw [HBI.out], by simp⟩
          case measure => simp [intOf]; omega
      | true =>
        rw [hp] at HD
        obtain ⟨hl, hf⟩ := fit_pre t k hp
        have hlI : ((nmB k).size : Int) ≤ (t.size : Int) := by omega
        have HBI : Hid (bestI (downPre refNames t.data.toList (k + 1)) = (k : Int)) := by show _ = _; rw [HD.out]; rfl
        clear hl
        cases hd : downPre refNames t.data.toList k with
        | none =>
          clear hd hp HD
          generalize nmB k = nm at *
          rw [show bestI none = -1 from rfl]
          go_wp2
          go_roundw
          case rel => exact ⟨k + 1, by omega, by go_num, by rw [HBI.out], by simp⟩
          case measure => simp [intOf]; omega
        | some b =>
          have hlong := downPre_longer refNames refNames_rise t.data.toList k b (by rw [refNames_len]; exact hlt) hp hd
          have hb := (downPre_some refNames t.data.toList k b hd).1
          have cb := HNM.out.cell b (by omega)
          rw [← nmB_size, ← nmB_size] at hlong
          have hb0 : ¬ (b : Int) < 0 := by omega
          have hb9 : (b : Int) < 109 := by omega
          have hlo : ((nmB b).size : Int) < ((nmB k).size : Int) := by omega
          clear hd hp HD hlong hb
          generalize nmB k = nm at *
          generalize nmB b = nb at *
          rw [show bestI (some b) = (b : Int) from rfl]
          go_wp2
          go_roundw
          case rel => exact ⟨k + 1, by omega, by go_num, by rw [HBI.out], by simp⟩
          case measure => simp [intOf]; omega
    · obtain rfl : k = 109 := by omega
      have HL : Hid (longK t = downPre refNames t.data.toList 109) := rfl
      rw [← HL.out]
      go_wp2
      go_ret
      exact ⟨rfl, HB.out⟩
end Go.Proofs.Ytcndjfpcddidhab
