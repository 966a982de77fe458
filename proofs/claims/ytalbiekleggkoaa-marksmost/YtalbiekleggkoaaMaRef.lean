/-
  Are two entries alike? The document's answer.
-/
import Derived.Test.YtalbiekleggkoaaMaAlike
namespace Go.Proofs.Ytalbiekleggkoaa
open Go.RowKit Go.Maps

theorem attr5_eql (t : TypeId) (ht : t = 91) (p q : Atr) (w : World) : (binOp .eql t (.agg #[.string p.1, .string p.2]) (.agg #[.string q.1, .string q.2])).run Try.prog w = .ok (.bool (atrEq p q)) w := by
  subst ht
  rw [run_eql_struct, run_equalIn_agg w 9999 91 _ _ (by kernel_rfl) (by kernel_rfl)]
  have hf : (Try.prog.fieldsOf 91).toList.map (fun f => (f.name == "_", f.type, f.offset)) = [(false, 9, 0), (false, 9, 1)] := by kernel_rfl
  have h9 : ∀ (a b : ByteArray) w, (Op.equalIn 9999 9 (.string a) (.string b)).run Try.prog w = .ok (a.toList == b.toList) w := fun a b w => run_equalIn_string w 9998 9 a b Try.underlying9
  have hp0 : ∀ (x y : ByteArray) w, (part 9 #[.string x, .string y] 0).run Try.prog w = .ok (.string x) w := fun x y w => by kernel_rfl
  have hp1 : ∀ (x y : ByteArray) w, (part 9 #[.string x, .string y] 1).run Try.prog w = .ok (.string y) w := fun x y w => by kernel_rfl
  generalize (Try.prog.fieldsOf 91).toList = fs at hf ⊢
  obtain ⟨f0, fs, rfl⟩ : ∃ f0 r, fs = f0 :: r := by
    cases fs with
    | nil => simp at hf
    | cons a r => exact ⟨a, r, rfl⟩
  obtain ⟨f1, fs, rfl⟩ : ∃ f1 r, fs = f1 :: r := by
    cases fs with
    | nil => simp at hf
    | cons a r => exact ⟨a, r, rfl⟩
  obtain rfl : fs = [] := by
    cases fs with
    | nil => rfl
    | cons a r => simp at hf
  simp only [List.map_cons, List.map_nil, List.cons.injEq, Prod.mk.injEq, and_true] at hf
  obtain ⟨⟨n0, t0, o0⟩, n1, t1, o1⟩ := hf
  have m0 : f0.name ≠ "_" := by simpa using n0
  have m1 : f1.name ≠ "_" := by simpa using n1
  unfold atrEq
  have h90 := h9 p.1 q.1
  have h91 := h9 p.2 q.2
  clear h9
  generalize (p.1.toList == q.1.toList) = b1 at *
  generalize (p.2.toList == q.2.toList) = b2 at *
  simp only [Op.eqFields, if_pos m0, if_pos m1, t0, o0, t1, o1, Sem.run_bind, hp0, h90, Result.andThen_ok]
  cases b1
  · simp [Result.andThen]
  · cases b2 <;> simp [Result.andThen, hp1, h91]

/-- How many have their like? -/
def cntA (l l1 : List Atr) : Nat := l1.countP (hasA l)
def refB (name name1 : ByteArray) (l l1 : List Atr) : Bool := (name1.toList == name.toList) && (cntA l l1 == l1.length) && (cntA l l1 == l.length)
theorem cnt_next (l l1 : List Atr) (k : Nat) (p : Atr) (h : l1[k]? = some p) : cntA l (l1.take (k + 1)) = cntA l (l1.take k) + (hasA l p).toNat := by
  unfold cntA
  rw [List.take_add_one, h]
  simp [List.countP_append, List.countP_cons]
  cases hasA l p <;> rfl

structure RfAt (w : World) (name : ByteArray) (a : Option Addr) (cap : Nat) (l : List Atr) (name1 : ByteArray) (a1 : Option Addr) (cap1 : Nat) (l1 : List Atr) (wr : World) : Prop where
  bel : Below w.heap.size w wr
  x1 : wr.cell? ⟨w.heap.size, 1, none⟩ = some (.string name1)
  x2 : wr.cell? ⟨w.heap.size, 2, none⟩ = some (.slice a1 l1.length cap1)
  y1 : wr.cell? ⟨w.heap.size + 1, 1, none⟩ = some (.string name)
  y2 : wr.cell? ⟨w.heap.size + 1, 2, none⟩ = some (.slice a l.length cap)
  r1 : AtrsAt wr a1 l1
  r : AtrsAt wr a l
theorem RfAt.draws {w wr : World} {name name1 : ByteArray} {a a1 : Option Addr} {cap cap1 : Nat} {l l1 : List Atr} (h : RfAt w name a cap l name1 a1 cap1 l1 wr) (q : Nat) : RfAt w name a cap l name1 a1 cap1 l1 (wr.drewN q) := ⟨mk_drawn h.bel q, h.x1, h.x2, h.y1, h.y2, ⟨h.r1.at'⟩, ⟨h.r.at'⟩⟩

set_option maxRecDepth 100000 in
set_option maxHeartbeats 4000000 in
theorem refAlike_any (node : Int) (name : ByteArray) (a : Option Addr) (cap : Nat) (l : List Atr) (node1 : Int) (name1 : ByteArray) (a1 : Option Addr) (cap1 : Nat) (l1 : List Atr) (w : World) (hR : AtrsAt w a l) (hR1 : AtrsAt w a1 l1)
    (hl : l.length ≤ 1000) (hl1 : l1.length ≤ 1000) :
    Calls Try.prog 42 #[.agg #[.int .i64 node1, .string name1, .slice a1 l1.length cap1], .agg #[.int .i64 node, .string name, .slice a l.length cap]] w fun e w' => e = .returned (.bool (refB name name1 l l1)) ∧ Below w.heap.size w w' := by
  have HX : Hid (RfAt w name a cap l name1 a1 cap1 l1 ((w.alloc (.cells #[.int .i64 node1, .string name1, .slice a1 l1.length cap1] 61)).alloc (.cells #[.int .i64 node, .string name, .slice a l.length cap] 61))) := by
    have hz : (w.alloc (.cells #[.int .i64 node1, .string name1, .slice a1 l1.length cap1] 61)).heap.size = w.heap.size + 1 := by simp
    have hba : Below w.heap.size w (w.alloc (.cells #[.int .i64 node1, .string name1, .slice a1 l1.length cap1] 61)) := (Below.refl _ _).alloc (Nat.le_refl _) _
    have hA1 : (w.alloc (.cells #[.int .i64 node1, .string name1, .slice a1 l1.length cap1] 61)).cell? ⟨w.heap.size, 1, none⟩ = some (.string name1) := World.cell?_alloc_at _ _ _ 1 rfl
    have hA2 : (w.alloc (.cells #[.int .i64 node1, .string name1, .slice a1 l1.length cap1] 61)).cell? ⟨w.heap.size, 2, none⟩ = some (.slice a1 l1.length cap1) := World.cell?_alloc_at _ _ _ 2 rfl
    generalize w.alloc (.cells #[.int .i64 node1, .string name1, .slice a1 l1.length cap1] 61) = wA at *
    have hBo : Below wA.heap.size wA (wA.alloc (.cells #[.int .i64 node, .string name, .slice a l.length cap] 61)) := (Below.refl _ _).alloc (Nat.le_refl _) _
    have hlt : w.heap.size < wA.heap.size := by omega
    exact ⟨hba.trans (hBo.mono (by omega)), (hBo.cell (p := ⟨w.heap.size, 1, none⟩) hlt).trans hA1, (hBo.cell (p := ⟨w.heap.size, 2, none⟩) hlt).trans hA2, World.cell?_alloc_at _ _ _ 1 hz.symm, World.cell?_alloc_at _ _ _ 2 hz.symm, (hR1.below hba).below hBo, (hR.below hba).below hBo⟩
  have q1 := fun (p q : Atr) (w : World) => attr5_eql 91 rfl p q w
  clear hR hR1
  go_enter Try.func42, Try.ntmps42
  go_wp2
  go_loopw [5, 6] (fun n i wr => ∃ k : Nat, k ≤ l1.length ∧ i = .int .i64 k ∧ n = .int .i64 (cntA l (l1.take k) : Nat) ∧ Hid (RfAt w name a cap l name1 a1 cap1 l1 wr)) (fun _ i _ => l1.length - (intOf i).toNat)
  case atStart => exact ⟨0, by omega, rfl, rfl, HX⟩
  case round =>
    clear HX
    obtain ⟨k, hk, rfl, rfl, hX⟩ := hrel
    have hcl : cntA l (l1.take k) ≤ l1.length := by
      have h1 : cntA l (l1.take k) ≤ (l1.take k).length := List.countP_le_length
      have h2 : (l1.take k).length ≤ l1.length := by rw [List.length_take]; omega
      omega
    have c2 := hX.out.x2
    by_cases hlt : k < l1.length
    · have hkI : (k : Int) < (l1.length : Int) := by omega
      have HN : Hid _ := cnt_next l l1 k l1[k] (List.getElem?_eq_getElem hlt)
      have HP : Hid (l1[k]? = some l1[k]) := List.getElem?_eq_getElem hlt
      generalize l1[k] = p at HN HP
      generalize cntA l (l1.take k) = n at HN hcl ⊢
      generalize hE : cntA l (l1.take (k + 1)) = n2 at HN
      have HE : Hid (cntA l (l1.take (k + 1)) = n2) := hE
      clear hE
      go_wp2
      go_loopw [5, 7] (fun m j wx => ∃ i : Nat, i ≤ l.length ∧ j = .int .i64 i ∧ m = .int .i64 n ∧ Hid (RfAt w name a cap l name1 a1 cap1 l1 wx) ∧ Hid (hasA (l.take i) p = false)) (fun _ j _ => l.length - (intOf j).toNat)
      case atStart => exact ⟨0, by omega, rfl, rfl, hX, rfl⟩
      case round =>
        clear hX c2
        obtain ⟨i, hi, rfl, rfl, hX, hH⟩ := hrel
        have c2 := hX.out.x2
        have d2 := hX.out.y2
        by_cases hlt2 : i < l.length
        · have hiI : (i : Int) < (l.length : Int) := by omega
          obtain ⟨g1, rfl, s0, s1⟩ := hX.out.r1.at' k p HP.out
          obtain ⟨g, rfl, t0, t1⟩ := hX.out.r.at' i l[i] (List.getElem?_eq_getElem hlt2)
          have HTK : Hid (l.take (i + 1) = l.take i ++ [l[i]]) := by
            show _ = _
            rw [List.take_add_one, List.getElem?_eq_getElem hlt2]
            rfl
          have HMEM : Hid (atrEq p l[i] = true → hasA l p = true) := fun h => List.any_eq_true.2 ⟨l[i], List.getElem_mem hlt2, h⟩
          generalize l[i] = r at *
          have q2 := q1 p r
          cases he : atrEq p r
          · rw [he] at q2
            have HP2 : Hid (hasA (l.take (i + 1)) p = false) := by
              show _ = _
              rw [HTK.out]
              have := hH.out
              unfold hasA at this ⊢
              rw [List.any_append, this]
              simp [he]
            go_wp2_with fail
            go_quiet (fail)
            go_wp2
            go_roundw
            case rel => exact ⟨i + 1, by omega, by go_num, rfl, hX.out.draws _, HP2⟩
            case measure => simp only [intOf]; go_num
          · rw [he] at q2
            have hn2 : n2 = n + 1 := by
              have := HN.out
              rw [HMEM.out he] at this
              exact this
            subst hn2
            go_wp2_with fail
            go_quiet (fail)
            go_wp2
            go_roundw
            case rel => exact ⟨k + 1, by omega, by go_num, (by rw [HE.out]; go_num), hX.out.draws _⟩
            case measure => simp only [intOf]; go_num
        · obtain rfl : i = l.length := by omega
          have hn2 : n2 = n := by
            have := HN.out
            have h2 := hH.out
            rw [List.take_length] at h2
            rw [h2] at this
            exact this
          subst hn2
          go_wp2
          go_roundw
          case rel => exact ⟨k + 1, by omega, by go_num, (by rw [HE.out]), hX⟩
          case measure => simp only [intOf]; go_num
    · obtain rfl : k = l1.length := by omega
      rw [List.take_length] at hcl ⊢
      have d2 := hX.out.y2
      have e1 := hX.out.x1
      have e2 := hX.out.y1
      have HRB : Hid (refB name name1 l l1 = ((name1.toList == name.toList) && (cntA l l1 == l1.length) && (cntA l l1 == l.length))) := rfl
      generalize cntA l l1 = n at hcl HRB ⊢
      cases hn : (name1.toList == name.toList)
      · go_wp2
        go_ret
        exact ⟨by rw [HRB.out, hn]; simp, hX.out.bel⟩
      · by_cases h1 : n = l1.length
        · subst h1
          by_cases h2 : l1.length = l.length
          · have b2 : ((l1.length : Int) == (l.length : Int)) = true := by simp; omega
            have b3 : (l1.length == l.length) = true := by simpa using h2
            have HB : Hid ((l1.length == l.length) = true) := b3
            clear h2 b3
            go_wp2
            go_ret
            exact ⟨by rw [HRB.out, hn, HB.out]; simp, hX.out.bel⟩
          · have b2 : ((l1.length : Int) == (l.length : Int)) = false := by rw [beq_eq_false_iff_ne]; omega
            have b3 : (l1.length == l.length) = false := by rw [beq_eq_false_iff_ne]; omega
            have HB : Hid ((l1.length == l.length) = false) := b3
            clear h2 b3
            go_wp2
            go_ret
            exact ⟨by rw [HRB.out, hn, HB.out]; simp, hX.out.bel⟩
        · have b2 : ((n : Int) == (l1.length : Int)) = false := by rw [beq_eq_false_iff_ne]; omega
          have b3 : (n == l1.length) = false := by rw [beq_eq_false_iff_ne]; omega
          have HB : Hid ((n == l1.length) = false) := b3
          clear h1 b3
          go_wp2
          go_ret
          exact ⟨by rw [HRB.out, hn, HB.out]; simp, hX.out.bel⟩
end Go.Proofs.Ytalbiekleggkoaa
