/-
  A text in quotes: the program's way.
-/
import Derived.Test.YtpmjmkabchflpabDqMeant
import Derived.Laws.BytesArg
import Derived.Maps.AppendAt
namespace Go.Proofs.Ytpmjmkabchflpab
open Go.RowKit Go.Maps

def quoteC (c : UInt8) : List UInt8 := if c = 34 then [92, 34] else if c = 92 then [92, 92] else if c = 10 then [92, 110] else [c]
def quoteP (l : List UInt8) : List UInt8 := 34 :: l.flatMap quoteC
def quoteB (l : List UInt8) : List UInt8 := quoteP l ++ [34]

def cellsOf (l : List UInt8) : List Value := l.map fun c => Value.int .u8 (c.toNat : Int)
theorem cellsOf_app (l m : List UInt8) : cellsOf (l ++ m) = cellsOf l ++ cellsOf m := by simp [cellsOf]
theorem cellsOf_len (l : List UInt8) : (cellsOf l).length = l.length := by simp [cellsOf]

theorem quoteC_len (c : UInt8) : (quoteC c).length ≤ 2 := by
  unfold quoteC
  repeat' split
  all_goals simp
theorem quoteP_len (l : List UInt8) : (quoteP l).length ≤ 2 * l.length + 1 := by
  unfold quoteP
  induction l with
  | nil => simp
  | cons c l ih =>
    have := quoteC_len c
    simp only [List.flatMap_cons, List.length_cons, List.length_append] at ih ⊢
    omega
theorem quoteP_snoc (l : List UInt8) (c : UInt8) : quoteP (l ++ [c]) = quoteP l ++ quoteC c := by simp [quoteP]

theorem own_block_ge {w : World} {base : Nat} {e : TypeId} {size : Nat} {v : Value} {n : Nat} {xs : List Value} (h : w.ownsRow base e size v n xs) : ∀ k, v.ownBlock = some k → base ≤ k := by
  intro k hk
  rcases h.2 with ⟨rfl, _⟩ | ⟨g, cap, cur, rfl, hg, _⟩
  · cases hk
  · simp only [Value.ownBlock] at hk
    obtain rfl := Option.some.inj hk
    exact hg
theorem own_not_map {w : World} {base : Nat} {e : TypeId} {size : Nat} {v : Value} {n m b : Nat} {xs : List Value} {R : Value → Option (DataW Unit × List MemPlace)} {D : DataW Unit} {k : TypeId} (h : w.ownsRow base e size v n xs) (hm : w.ownsMap Try.prog k R b m D) : some b ≠ v.ownBlock := by
  intro e1
  obtain ⟨es, clock, hb, _⟩ := hm
  rcases h.2 with ⟨rfl, _⟩ | ⟨g, cap, cur, rfl, hg, hh, _⟩
  · cases e1
  · simp only [Value.ownBlock, Option.some.injEq] at e1
    subst e1
    rw [hh] at hb
    cases hb
theorem own_back {w : World} {base : Nat} {v : Value} {l : List UInt8} (h : w.ownsRow base 5 1 v l.length (cellsOf l)) : (convert 30 9 v).run Try.prog w = .ok (.string ⟨l.toArray⟩) w := by
  rcases h.2 with ⟨rfl, hn⟩ | ⟨g, cap, cur, rfl, _, hg, _, _, hs, htk⟩
  · have : l = [] := List.length_eq_zero_iff.1 hn
    subst this
    exact run_convert_bytes_nil (P := Try.prog) w 30 5 Try.underlying30 Try.underlying5 0 0 9 Try.underlying9
  · refine run_convert_bytes_back w 30 9 5 ⟨g, 0, none⟩ cap l Try.underlying30 Try.underlying5 Try.underlying9 (fun j hj => ?_)
    exact h.cells rfl j _ (by simp [cellsOf, List.getElem?_eq_getElem hj])
theorem own_new (w : World) (cs : Array Value) (base : Nat) (hb : base ≤ w.heap.size) (hs : cs.size ≤ 1000) : (w.alloc (.cells cs 5)).ownsRow base 5 1 (.slice (some ⟨w.heap.size, 0, none⟩) cs.size cs.size) cs.size cs.toList := by
  refine ⟨by simp, .inr ⟨w.heap.size, cs.size, cs, rfl, hb, ?_, Nat.le_refl _, by unfold maxLen; omega, by simp, by rw [List.take_of_length_le (by simp)]⟩⟩
  exact heap_alloc_new w _
theorem Try.info5 : (Try.prog.info? 5).map (fun i => (i.zero, i.size, i.bytes)) = some (some (.int .u8 0), 1, 1) := by kernel_rfl
theorem news_cells (w : World) (cs : Array Value) (e : TypeId) (k : Nat) (hk : k = w.heap.size) : ∀ j u, cs.toList[j]? = some u → (w.alloc (.cells cs e)).cell? ((⟨k, 0, none⟩ : Addr).add j) = some u := by
  intro j u hj
  subst hk
  have e0 : (⟨w.heap.size, 0, none⟩ : Addr).add j = ⟨w.heap.size, j, none⟩ := by
    cases j <;> simp [Addr.add]
  rw [e0]
  have hj2 : cs[j]? = some u := by simpa using hj
  exact (World.cell?_alloc_at cs e _ j rfl).trans hj2

/-- How far a loop has come that puts bytes together, beside a map. -/
structure OutAt (w wr : World) (l : List UInt8) (v : Value) : Prop where
  own : wr.ownsRow w.heap.size 5 1 v l.length (cellsOf l)
  bel : Below w.heap.size w wr
theorem OutAt.next {w wr w1 : World} {l m : List UInt8} {v v' : Value} {o : Obj} (h : OutAt w wr l v) (hown' : w1.ownsRow w.heap.size 5 1 v' (l.length + m.length) (cellsOf l ++ cellsOf m)) (hgrow : (wr.alloc o).grownBy w1 v.ownBlock) : OutAt w w1 (l ++ m) v' := by
  have hs := h.bel.size
  exact ⟨by rw [List.length_append, cellsOf_app]; exact hown', (h.bel.alloc hs o).grown hgrow (by simp; omega) (own_block_ge h.own)⟩
theorem SignsAt.next {w wr w1 : World} {l : List UInt8} {v : Value} {o : Obj} {b : Nat} (h : SignsAt wr b) (ho : OutAt w wr l v) (hgrow : (wr.alloc o).grownBy w1 v.ownBlock) : SignsAt w1 b :=
  ⟨World.ownsMap.kept (World.ownsMap.alloc h.own o) hgrow (own_not_map ho.own h.own)⟩

theorem sign_has (c : Int) : has signD (u8L c) = (c == 10 || c == 92 || c == 34) := by
  by_cases h1 : c = 10
  · subst h1; rfl
  · by_cases h2 : c = 92
    · subst h2; rfl
    · by_cases h3 : c = 34
      · subst h3; rfl
      · rw [has_false_of_atKey (fun z => by rw [sign_at, if_neg h1, if_neg h2, if_neg h3])]
        simp [h1, h2, h3]

def signI (c : Int) : Int := if c = 10 then 110 else if c = 92 then 92 else if c = 34 then 34 else 0
theorem sign_val {c d : Int} (h : signD.atKey (u8L c) (.lit (u8L 0)) = .lit (.int .u8 d)) : d = signI c := by
  rw [sign_at] at h
  unfold signI
  by_cases e1 : c = 10
  · rw [if_pos e1] at h ⊢
    injection h with h
    injection h with _ h
    exact h.symm
  · rw [if_neg e1] at h ⊢
    by_cases e2 : c = 92
    · rw [if_pos e2] at h ⊢
      injection h with h
      injection h with _ h
      exact h.symm
    · rw [if_neg e2] at h ⊢
      by_cases e3 : c = 34
      · rw [if_pos e3] at h ⊢
        injection h with h
        injection h with _ h
        exact h.symm
      · rw [if_neg e3] at h ⊢
        injection h with h
        injection h with _ h
        exact h.symm

theorem bytes_one (l : List UInt8) : ∀ u ∈ cellsOf l, u.oneCell' = true := by
  intro u hu
  simp only [cellsOf, List.mem_map] at hu
  obtain ⟨c, _, rfl⟩ := hu
  rfl

set_option maxRecDepth 100000 in
set_option maxHeartbeats 2000000 in
theorem quote_any (s : ByteArray) (w : World) (hs : s.size ≤ 4194304) : Calls Try.prog 4 #[.string s] w fun e w' => e = .returned (.string ⟨(quoteB s.data.toList).toArray⟩) ∧ Below w.heap.size w w' := by
  obtain ⟨i0, hi, hz0, hz1, hz2⟩ := info_parts Try.info5
  have hL : s.data.toList.length = s.size := by simp
  go_enter Try.func4, Try.ntmps4
  go_wp2_with fail
  refine Calls.mono (signs_any w) ?_
  rintro e w1 ⟨rfl, hS1, hb1⟩
  have HO : Hid (OutAt w (w1.alloc (.cells #[.int .u8 34] 5)) (quoteP []) (.slice (some ⟨w1.heap.size, 0, none⟩) 1 1)) := ⟨own_new w1 #[.int .u8 34] _ hb1.size (by decide), hb1.alloc hb1.size _⟩
  have HS : Hid (SignsAt (w1.alloc (.cells #[.int .u8 34] 5)) w.heap.size) := ⟨World.ownsMap.alloc hS1.own _⟩
  clear hS1 hb1
  go_wp2
  go_loopw [4, 12] (fun v i wr => ∃ k : Nat, k ≤ s.size ∧ i = .int .i64 k ∧ OutAt w wr (quoteP (s.data.toList.take k)) v ∧ SignsAt wr w.heap.size) (fun _ i _ => s.size - (intOf i).toNat)
  case atStart => exact ⟨0, by omega, rfl, HO.out, HS.out⟩
  case round =>
    obtain ⟨k, hk, rfl, hO, hS⟩ := hrel
    clear HO HS
    have hbs := hO.bel.size
    have hql := quoteP_len (s.data.toList.take k)
    rw [List.length_take] at hql
    by_cases hlt : k < s.size
    · have hlt' : k < s.data.toList.length := by simpa using hlt
      have h256 : (s[k].toNat : Int) < 256 := by have := s[k].toNat_lt; omega
      have h0 : 0 ≤ (s[k].toNat : Int) := by omega
      have hkey := u8Key _ h0 h256
      have hhas := sign_has (s[k].toNat : Int)
      have HT : Hid (quoteP (s.data.toList.take (k + 1)) = quoteP (s.data.toList.take k) ++ quoteC s[k]) := by
        show _ = _
        rw [List.take_succ_eq_append_getElem hlt', quoteP_snoc]
        rfl
      by_cases hq : s[k] = 34 ∨ s[k] = 92 ∨ s[k] = 10
      · have hh : has signD (u8L (s[k].toNat : Int)) = true := by
          rw [hhas]
          rcases hq with h | h | h <;> rw [h] <;> rfl
        have HC : Hid (cellsOf (quoteC s[k]) = [.int .u8 92, .int .u8 (signI (s[k].toNat : Int))]) := by
          rcases hq with h | h | h <;> rw [h] <;> rfl
        clear hhas hq
        go_wp2_with (first
          | (at_lookup; refine wpList_lookup_own_ok_int _ rfl _ _ 28 rfl 5 5 .u8 u8K Try.underlying28 Try.underlying5 (u8Zero _) w.heap.size 3 signD rfl hS.own _ _ rfl hkey ?_; intro c hat hwc; have hcs := sign_val hat; clear hat hwc; subst hcs; rw [hh])
          | (at_builtin; refine wpList_append_own _ rfl _ _ 30 rfl w.heap.size 5 i0 (.int .u8 0) 1 1 Try.underlying30 hi hz0 hz1 hz2 rfl (by decide) _ _ _ rfl (hO.own.alloc _) ⟨wr.heap.size, 0, none⟩ 2 2 [.int .u8 92, .int .u8 (signI (s[k].toNat : Int))] rfl rfl (news_cells _ #[.int .u8 92, .int .u8 (signI (s[k].toNat : Int))] _ _ rfl) (by rw [← HC.out]; exact bytes_one _) (by unfold maxLen; omega) (by omega) (by simp; omega) ?_))
        intro v' w2 hown' hgrow _
        have HN : Hid (OutAt w w2 (quoteP (s.data.toList.take (k + 1))) v' ∧ SignsAt w2 w.heap.size) := by
          rw [HT.out]
          refine ⟨hO.next (by rw [HC.out]; have h2 : (quoteC s[k]).length = 2 := by rw [← cellsOf_len, HC.out]; rfl
                              rw [h2]; exact hown') hgrow, hS.next hO hgrow⟩
        clear hown' hgrow hO hS HT HC
        go_wp2
        go_roundw
        case rel => exact ⟨k + 1, by omega, by go_num, HN.out.1, HN.out.2⟩
        case measure => simp [intOf]; omega
      · have hh : has signD (u8L (s[k].toNat : Int)) = false := by
          rw [hhas]
          simp only [Bool.or_eq_false_iff, beq_eq_false_iff_ne]
          refine ⟨⟨?_, ?_⟩, ?_⟩ <;> intro e <;> apply hq
          · exact .inr (.inr (UInt8.toNat_inj.1 (Int.ofNat.inj e)))
          · exact .inr (.inl (UInt8.toNat_inj.1 (Int.ofNat.inj e)))
          · exact .inl (UInt8.toNat_inj.1 (Int.ofNat.inj e))
        have HC : Hid (cellsOf (quoteC s[k]) = [.int .u8 (s[k].toNat : Int)]) := by
          have hn : quoteC s[k] = [s[k]] := by unfold quoteC; simp only [not_or] at hq; simp [hq]
          show _ = _
          rw [hn]
          rfl
        clear hhas hq
        go_wp2_with (first
          | (at_lookup; refine wpList_lookup_own_ok_int _ rfl _ _ 28 rfl 5 5 .u8 u8K Try.underlying28 Try.underlying5 (u8Zero _) w.heap.size 3 signD rfl hS.own _ _ rfl hkey ?_; intro c hat hwc; have hcs := sign_val hat; clear hat hwc; subst hcs; rw [hh])
          | (at_builtin; refine wpList_append_own _ rfl _ _ 30 rfl w.heap.size 5 i0 (.int .u8 0) 1 1 Try.underlying30 hi hz0 hz1 hz2 rfl (by decide) _ _ _ rfl (hO.own.alloc _) ⟨wr.heap.size, 0, none⟩ 1 1 [.int .u8 (s[k].toNat : Int)] rfl rfl (news_cells _ #[.int .u8 (s[k].toNat : Int)] _ _ rfl) (by rw [← HC.out]; exact bytes_one _) (by unfold maxLen; omega) (by omega) (by simp; omega) ?_))
        intro v' w2 hown' hgrow _
        have HN : Hid (OutAt w w2 (quoteP (s.data.toList.take (k + 1))) v' ∧ SignsAt w2 w.heap.size) := by
          rw [HT.out]
          refine ⟨hO.next (by rw [HC.out]; have h2 : (quoteC s[k]).length = 1 := by rw [← cellsOf_len, HC.out]; rfl
                              rw [h2]; exact hown') hgrow, hS.next hO hgrow⟩
        clear hown' hgrow hO hS HT HC
        go_wp2
        go_roundw
        case rel => exact ⟨k + 1, by omega, by go_num, HN.out.1, HN.out.2⟩
        case measure => simp [intOf]; omega
    · obtain rfl : k = s.size := by omega
      rw [List.take_of_length_le (by omega)] at hO hql
      clear hS
      go_wp2_with (at_builtin; refine wpList_append_own _ rfl _ _ 30 rfl w.heap.size 5 i0 (.int .u8 0) 1 1 Try.underlying30 hi hz0 hz1 hz2 rfl (by decide) _ _ _ rfl (hO.own.alloc _) ⟨wr.heap.size, 0, none⟩ 1 1 [.int .u8 34] rfl rfl (news_cells _ #[.int .u8 34] _ _ rfl) (bytes_one [34]) (by unfold maxLen; omega) (by omega) (by simp; omega) ?_)
      intro v' w2 hown' hgrow _
      have hN := hO.next (m := [34]) hown' hgrow
      have hback := own_back hN.own
      have HB : Hid _ := hN.bel
      clear hown' hgrow hO hN
      go_wp2
      go_ret
      exact ⟨rfl, HB.out⟩
end Go.Proofs.Ytpmjmkabchflpab
