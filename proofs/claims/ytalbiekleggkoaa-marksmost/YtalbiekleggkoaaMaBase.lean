/-
  Attributes, one after the other: which are the same, and where one stands.
-/
import Derived.Test.YtalbiekleggkoaaMkSpeaks
import Derived.Laws.StructEq
namespace Go.Proofs.Ytalbiekleggkoaa
open Go.RowKit

/-- An attribute: a name and a value. -/
abbrev Atr := ByteArray × ByteArray
def atrV (p : Atr) : Value := .agg #[.string p.1, .string p.2]
def atrC (p : Atr) : List Value := [.string p.1, .string p.2]
def atrEq (p q : Atr) : Bool := p.1.toList == q.1.toList && p.2.toList == q.2.toList

theorem attr_eql (t : TypeId) (ht : t = 93) (p q : Atr) (w : World) : (binOp .eql t (.agg #[.string p.1, .string p.2]) (.agg #[.string q.1, .string q.2])).run Try.prog w = .ok (.bool (atrEq p q)) w := by
  subst ht
  rw [run_eql_struct, run_equalIn_agg w 9999 93 _ _ (by kernel_rfl) (by kernel_rfl)]
  have hf : (Try.prog.fieldsOf 93).toList.map (fun f => (f.name == "_", f.type, f.offset)) = [(false, 9, 0), (false, 9, 1)] := by kernel_rfl
  have h9 : ∀ (a b : ByteArray) w, (Op.equalIn 9999 9 (.string a) (.string b)).run Try.prog w = .ok (a.toList == b.toList) w := fun a b w => run_equalIn_string w 9998 9 a b Try.underlying9
  have hp0 : ∀ (x y : ByteArray) w, (part 9 #[.string x, .string y] 0).run Try.prog w = .ok (.string x) w := fun x y w => by kernel_rfl
  have hp1 : ∀ (x y : ByteArray) w, (part 9 #[.string x, .string y] 1).run Try.prog w = .ok (.string y) w := fun x y w => by kernel_rfl
  generalize (Try.prog.fieldsOf 93).toList = fs at hf ⊢
  obtain ⟨f0, fs, rfl⟩ : ∃ f0 r, fs = f0 :: r := by
    cases fs with
    | nil => simp at hf
    | cons a r => exact ⟨a, r, rfl⟩
  obtain ⟨f1, fs, rfl⟩ : ∃ f1 r, fs = f1 :: r := by
    cases fs with
    | nil => simp at hf
    | cons a r => exact ⟨a, r, rfl⟩
  obtain rfl : fs = [] := by
    cases fs with
    | nil => rfl
    | cons a r => simp at hf
  simp only [List.map_cons, List.map_nil, List.cons.injEq, Prod.mk.injEq, and_true] at hf
  obtain ⟨⟨n0, t0, o0⟩, n1, t1, o1⟩ := hf
  have m0 : f0.name ≠ "_" := by simpa using n0
  have m1 : f1.name ≠ "_" := by simpa using n1
  unfold atrEq
  have h90 := h9 p.1 q.1
  have h91 := h9 p.2 q.2
  clear h9
  generalize (p.1.toList == q.1.toList) = b1 at *
  generalize (p.2.toList == q.2.toList) = b2 at *
  simp only [Op.eqFields, if_pos m0, if_pos m1, t0, o0, t1, o1, Sem.run_bind, hp0, h90, Result.andThen_ok]
  cases b1
  · simp [Result.andThen]
  · cases b2 <;> simp [Result.andThen, hp1, h91]

/-- Where attributes lie: a row at the head of its block. -/
structure AtrsAt (w : World) (a : Option Addr) (l : List Atr) : Prop where
  at' : ∀ (i : Nat) (p : Atr), l[i]? = some p → ∃ g, a = some ⟨g, 0, none⟩ ∧ w.cell? ⟨g, i * 2, none⟩ = some (.string p.1) ∧ w.cell? ⟨g, i * 2 + 1, none⟩ = some (.string p.2)

theorem AtrsAt.below {w w' : World} {a : Option Addr} {l : List Atr} (h : AtrsAt w a l) (hb : Below w.heap.size w w') : AtrsAt w' a l := by
  refine ⟨fun i p hi => ?_⟩
  obtain ⟨g, h1, h2, h3⟩ := h.at' i p hi
  exact ⟨g, h1, (hb.cell (p := ⟨g, i * 2, none⟩) (World.block_lt_of_cell? _ _ h2)).trans h2, (hb.cell (p := ⟨g, i * 2 + 1, none⟩) (World.block_lt_of_cell? _ _ h3)).trans h3⟩

/-- Does one stand among them? -/
def hasA (l : List Atr) (p : Atr) : Bool := l.any (fun q => atrEq p q)

/-- The boxed attribute. -/
structure BoxAt (w : World) (p : Atr) (wr : World) : Prop where
  bel : Below w.heap.size w wr
  c0 : wr.cell? ⟨w.heap.size, 0, none⟩ = some (.string p.1)
  c1 : wr.cell? ⟨w.heap.size, 1, none⟩ = some (.string p.2)
theorem BoxAt.draws {w wr : World} {p : Atr} (h : BoxAt w p wr) (q : Nat) : BoxAt w p (wr.drewN q) := ⟨mk_drawn h.bel q, h.c0, h.c1⟩
theorem box_new (w : World) (p : Atr) : BoxAt w p (w.alloc (.cells #[.string p.1, .string p.2] 93)) := ⟨(Below.refl _ _).alloc (Nat.le_refl _) _, World.cell?_alloc_at _ _ _ 0 rfl, World.cell?_alloc_at _ _ _ 1 rfl⟩

set_option maxRecDepth 100000 in
set_option maxHeartbeats 4000000 in
theorem indexA_any (a : Option Addr) (cap : Nat) (l : List Atr) (p : Atr) (w : World) (h : AtrsAt w a l) (hl : l.length ≤ 1000) :
    Calls Try.prog 86 #[.slice a l.length cap, .agg #[.string p.1, .string p.2]] w fun e w' => ∃ n : Int, e = .returned (.int .i64 n) ∧ decide (0 ≤ n) = hasA l p ∧ Below w.heap.size w w' := by
  have q1 := fun (q : Atr) (w : World) => attr_eql 93 rfl p q w
  have HH : Hid _ := h
  clear h
  go_enter Try.func86, Try.ntmps86
  go_wp2
  go_loopw [8] (fun i wr => ∃ k : Nat, k ≤ l.length ∧ i = .int .i64 k ∧ Hid (BoxAt w p wr) ∧ Hid (hasA (l.take k) p = false)) (fun i _ => l.length - (intOf i).toNat)
  case atStart => exact ⟨0, by omega, rfl, box_new w p, rfl⟩
  case round =>
    obtain ⟨k, hk, rfl, hX, hP⟩ := hrel
    have b0 := hX.out.c0
    have b1 := hX.out.c1
    by_cases hlt : k < l.length
    · have hkI : (k : Int) < (l.length : Int) := by omega
      obtain ⟨g, rfl, c0, c1⟩ := (HH.out.below hX.out.bel).at' k l[k] (List.getElem?_eq_getElem hlt)
      have HTK : Hid (l.take (k + 1) = l.take k ++ [l[k]]) := by
        show _ = _
        rw [List.take_add_one, List.getElem?_eq_getElem hlt]
        rfl
      have HMEM : Hid (atrEq p l[k] = true → hasA l p = true) := fun h => List.any_eq_true.2 ⟨l[k], List.getElem_mem hlt, h⟩
      have q2 := q1 l[k]
      clear q1
      generalize l[k] = r at *
      cases he : atrEq p r
      · rw [he] at q2
        have HP2 : Hid (hasA (l.take (k + 1)) p = false) := by
          show _ = _
          rw [HTK.out]
          have := hP.out
          unfold hasA at this ⊢
          rw [List.any_append, this]
          simp [he]
        go_wp2_with fail
        go_quiet (fail)
        go_wp2
        go_roundw
        case rel => exact ⟨k + 1, by omega, by go_num, hX.out.draws _, HP2⟩
        case measure => simp only [intOf]; go_num
      · rw [he] at q2
        have HP2 := HMEM.out he
        go_wp2_with fail
        go_quiet (fail)
        go_wp2
        go_ret
        exact ⟨(k : Int), rfl, by rw [HP2]; simp, (hX.out.draws _).bel⟩
    · obtain rfl : k = l.length := by omega
      have HP2 : Hid (hasA l p = false) := by
        have := hP.out
        rwa [List.take_length] at this
      go_wp2
      go_ret
      exact ⟨-1, rfl, by rw [HP2.out]; rfl, hX.out.bel⟩
end Go.Proofs.Ytalbiekleggkoaa
