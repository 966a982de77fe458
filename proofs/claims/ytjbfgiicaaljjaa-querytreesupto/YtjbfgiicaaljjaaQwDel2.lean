/-
  slices.DeleteFunc of what was met, whole.
-/
import Derived.Test.YtjbfgiicaaljjaaQwDel
import Derived.Deep.DeepCutAuto
namespace Go.Proofs.Ytjbfgiicaaljjaa
open Go.RowKit Go.Maps

/-- Behind j words. -/
structure DelAt (w : World) (ws : List (List UInt8)) (sb m B A n j : Nat) (wr : World) : Prop where
  seen : SeenAt wr sb m j (ws.take j).reverse
  row : ∃ zs : List (List UInt8), wr.ownsRow B 9 1 (.slice (some ⟨A, 0, none⟩) n n) n (zs.map strV) ∧ zs.length = n ∧ zs.take (once (ws.take j)).length = once (ws.take j) ∧ zs.drop j = ws.drop j
  kept : Kept (fun b => b = m ∨ b = A) w wr
  less : (once (ws.take j)).length < j

/-- What is left. -/
def LeftP (w : World) (ws : List (List UInt8)) (m B A : Nat) (r c : Nat) (w' : World) : Prop := w'.ownsRow B 9 1 (.slice (some ⟨A, 0, none⟩) r c) r ((once ws).map strV) ∧ Kept (fun b => b = m ∨ b = A) w w'

theorem DelAt.start {w w' : World} {ws : List (List UInt8)} {sb m B A n i : Nat} (hn : n = ws.length) (hO : w.ownsRow B 9 1 (.slice (some ⟨A, 0, none⟩) n n) n (ws.map strV)) (hoff : A ≠ m) (hk : Kept (fun b => b = m) w w') (h1 : once (ws.take (i + 1)) = ws.take i) (hi : i < ws.length) (hs : SeenAt w' sb m (i + 1) (ws.take (i + 1)).reverse) : DelAt w ws sb m B A n (i + 1) w' ∧ (once (ws.take (i + 1))).length = i := by
  have hl : (once (ws.take (i + 1))).length = i := by rw [h1, List.length_take]; omega
  refine ⟨⟨hs, ⟨ws, owns_kept hO hk (fun b e e2 => by simp only [Value.ownBlock, Option.some.injEq] at e; omega), hn.symm, ?_, rfl⟩, hk.mono (fun b _ e => .inl e), by omega⟩, hl⟩
  rw [hl, h1]

theorem DelAt.at' {w wr : World} {ws : List (List UInt8)} {sb m B A n j : Nat} {x : List UInt8} (h : DelAt w ws sb m B A n j wr) (hx : ws[j]? = some x) : wr.cell? ⟨A, j, none⟩ = some (strV x) := by
  obtain ⟨zs, ho, _, _, hd⟩ := h.row
  refine owns_at ho j _ ?_
  have : zs[j]? = some x := by
    have e : (zs.drop j)[0]? = (ws.drop j)[0]? := by rw [hd]
    rw [List.getElem?_drop, List.getElem?_drop, Nat.add_zero] at e
    rw [e, hx]
  rw [List.getElem?_map, this]; rfl

theorem DelAt.next {w wr w1 : World} {ws : List (List UInt8)} {sb m B A n j : Nat} {x : List UInt8} (h : DelAt w ws sb m B A n j wr) (hx : ws[j]? = some x) (hjn : j < n) (h1 : SeenAt w1 sb m (j + 1) (x :: (ws.take j).reverse) ∧ Kept (fun b => b = m) wr w1) :
    ((ws.take j).contains x = true → (once (ws.take (j + 1))).length = (once (ws.take j)).length ∧ DelAt w ws sb m B A n (j + 1) w1) ∧
    ((ws.take j).contains x = false → (w1.cell? ⟨A, (once (ws.take j)).length, none⟩).isSome = true ∧ w1.frozen? ⟨A, (once (ws.take j)).length, none⟩ = false ∧ (once (ws.take (j + 1))).length = (once (ws.take j)).length + 1 ∧ DelAt w ws sb m B A n (j + 1) (w1.setCell ⟨A, (once (ws.take j)).length, none⟩ (strV x))) := by
  have ht := take_snoc ws j x hx
  have ho := once_snoc (ws.take j) x
  rw [← ht] at ho
  have hs : SeenAt w1 sb m (j + 1) (ws.take (j + 1)).reverse := by
    rw [ht, List.reverse_append]
    exact h1.1
  obtain ⟨zs, hO, hzl, hzt, hzd⟩ := h.row
  have hAm : A ≠ m := fun e => h.seen.off hO (by rw [e]; rfl)
  have hO1 : w1.ownsRow B 9 1 (.slice (some ⟨A, 0, none⟩) n n) n (zs.map strV) := owns_kept hO h1.2 (fun b e e2 => by simp only [Value.ownBlock, Option.some.injEq] at e; omega)
  have hk1 : Kept (fun b => b = m ∨ b = A) w w1 := h.kept.trans (h1.2.mono (fun b _ e => .inl e))
  have hless := h.less
  have hd1 : zs.drop (j + 1) = ws.drop (j + 1) := by
    have := congrArg (List.drop 1) hzd
    rwa [List.drop_drop, List.drop_drop] at this
  refine ⟨fun e => ?_, fun e => ?_⟩
  · rw [e] at ho
    simp only [if_true, List.append_nil] at ho
    refine ⟨by rw [ho], ⟨hs, ⟨zs, hO1, hzl, by rw [ho]; exact hzt, hd1⟩, hk1, by rw [ho]; omega⟩⟩
  · rw [e] at ho
    simp only [Bool.false_eq_true, if_false] at ho
    have hlen : (once (ws.take (j + 1))).length = (once (ws.take j)).length + 1 := by rw [ho]; simp
    have hAs : sb ≠ A := by
      intro e2
      have hb := h1.1.blk
      rcases hO1.2 with ⟨hv, _⟩ | ⟨g, cap, cur, hv, _, hg, _⟩
      · cases hv
      · injection hv with hv1 _ _
        injection hv1 with hv1
        injection hv1 with hv1 _ _
        subst hv1
        rw [← e2, hb] at hg
        simp only [Option.some.injEq, Obj.cells.injEq] at hg
        exact absurd hg.2.1 (by decide)
    refine ⟨owns_there hO1 _ (by omega), owns_fz hO1 _, hlen, ⟨?_, ⟨zs.set (once (ws.take j)).length x, ?_, by simpa using hzl, ?_, ?_⟩, hk1.store ⟨A, _, none⟩ (.inr rfl) _, by omega⟩⟩
    · exact hs.kept (out := fun b => b = A) (Kept.store (out := fun b => b = A) (Kept.refl _ _) ⟨A, _, none⟩ rfl _) hAs hAm.symm
    · have := owns_set hO1 (once (ws.take j)).length (strV x)
      rw [List.map_set]
      exact this
    · rw [hlen, ho, List.take_succ_eq_append_getElem (by simp; omega)]
      simp only [List.getElem_set_self, List.take_set_of_le (Nat.le_refl _), hzt]
    · rw [List.drop_set_of_lt (by omega)]
      exact hd1

theorem DelAt.fin {w wr : World} {ws : List (List UInt8)} {sb m B A n : Nat} (h : DelAt w ws sb m B A n n wr) (hn : n = ws.length) (us : List Value) (hu : us.length = n - (once ws).length) : LeftP w ws m B A (once ws).length n (wr.setCells A (once ws).length us) := by
  obtain ⟨zs, hO, hzl, hzt, hzd⟩ := h.row
  have hless := h.less
  have hT : ws.take n = ws := by rw [hn, List.take_length]
  rw [hT] at hzt hless
  refine ⟨?_, kept_setCells (out := fun b => b = m ∨ b = A) A (.inr rfl) _ _ _ h.kept⟩
  have h2 := owns_shorter (owns_setCells us (once ws).length _ _ hO) (n' := (once ws).length) (by omega)
  rw [setL_in _ _ _ (by simp; omega), Nat.mul_one] at h2
  rw [List.append_assoc, List.take_append_of_le_length (by simp; omega), List.take_take, Nat.min_self, ← List.map_take, hzt] at h2
  exact h2

theorem enters_idx : ∀ args w, (callFunc 93 args).run Try.prog w = .ok (.enter 93 args) w := enters_of Try.func93 (by kernel_rfl) rfl
theorem qwStrZero : ∀ w, (zeroValue 9).run Try.prog w = .ok (.string ⟨#[]⟩) w := fun w => by kernel_rfl

set_option maxRecDepth 100000 in
set_option maxHeartbeats 4000000 in
theorem delFunc_any (B A n sb m : Nat) (ws : List (List UInt8)) (w : World) (hn : n = ws.length) (hO : w.ownsRow B 9 1 (.slice (some ⟨A, 0, none⟩) n n) n (ws.map strV)) (hS : SeenAt w sb m 0 []) (hl : ∀ x ∈ ws, x.length ≤ 10000) (hfew : n ≤ 10000) :
    Calls Try.prog 71 #[.slice (some ⟨A, 0, none⟩) n n, .func (.func 73) #[] #[.pointer (some ⟨sb, 0, none⟩)]] w fun e w' => ∃ r c, e = .returned (.slice (some ⟨A, 0, none⟩) r c) ∧ Hid (LeftP w ws m B A r c w') := by
  have HO : Hid _ := hO
  have hoff : A ≠ m := fun e => hS.off hO (by rw [e]; rfl)
  have HX : Hid _ := idx_any B A n sb m ws w hn hO hS hl hfew
  have HL : Hid _ := hl
  have HN : Hid _ := hn
  have heg := enters_seen
  have heg2 := enters_idx
  clear hO hS hl hn
  go_enter Try.func71, Try.ntmps71
  go_wp2_with fail
  refine Calls.mono HX.out ?_
  rintro e w1 ⟨r, rfl, hx⟩
  rcases hx.out.or with ⟨rfl, ho⟩ | ⟨i, rfl, hi, ho, hs⟩
  · have HF : Hid (LeftP w ws m B A n n w1) := by
      refine ⟨?_, hx.out.kept.mono (fun b _ e => .inl e)⟩
      rw [ho]
      exact owns_kept HO.out hx.out.kept (fun b e e2 => by simp only [Value.ownBlock, Option.some.injEq] at e; omega)
    clear HX hx ho
    go_wp2
    go_ret
    exact ⟨_, _, rfl, HF⟩
  · obtain ⟨hD, hlen⟩ := DelAt.start HN.out HO.out hoff hx.out.kept ho hi hs
    have H0 : Hid _ := hD
    have HLN : Hid _ := hlen
    have hne : ((i : Int) == -1) = false := by rw [beq_eq_false_iff_ne]; omega
    have hin : i < n := by rw [HN.out]; exact hi
    have hinI : (i : Int) < (n : Int) := by omega
    clear HX hx ho hs hD hlen hi
    go_wp2
    go_loopw [5, 6] (fun a b wr => ∃ i' j : Nat, j ≤ n ∧ i' < j ∧ a = .int .i64 i' ∧ b = .int .i64 j ∧ Hid ((once (ws.take j)).length = i' ∧ DelAt w ws sb m B A n j wr)) (fun _ b _ => n - (intOf b).toNat)
    case atStart => exact ⟨i, i + 1, by omega, by omega, rfl, by go_num, ⟨HLN.out, H0.out⟩⟩
    case round =>
      clear H0 HLN
      obtain ⟨i', j, hj, hij, rfl, rfl, hI⟩ := hrel
      by_cases hlt : j < n
      · have hq : ws[j]? = some (ws[j]'(by rw [← HN.out]; exact hlt)) := List.getElem?_eq_getElem _
        generalize ws[j]'(by rw [← HN.out]; exact hlt) = x at hq
        have hx : x.length ≤ 10000 := HL.out x (List.mem_of_getElem? hq)
        have hjI : (j : Int) < (n : Int) := by omega
        have hiI : (i' : Int) < (n : Int) := by omega
        have hc : wr.cell? ⟨A, j, none⟩ = some (strV x) := hI.out.2.at' hq
        have HC : Hid _ := seen_any sb m j (ws.take j).reverse x wr hI.out.2.seen (by omega) (by omega)
        have HT : Hid (∀ w1, _ → _) := fun w1 h1 => DelAt.next (w1 := w1) hI.out.2 hq hlt h1
        rw [rev_has] at HC
        have HI1 : Hid _ := hI.out.1
        rw [hI.out.1] at HT
        generalize (ws.take j).contains x = b at *
        clear hI hq hx
        go_wp2_with fail
        refine Calls.mono HC.out ?_
        rintro e w2 ⟨rfl, h1⟩
        obtain ⟨t1, t0⟩ := HT.out w2 h1.out
        cases b with
        | true =>
          have HF : Hid _ := t1 rfl
          clear t0 t1 HT HC h1
          go_wp2
          go_roundw
          case rel => exact ⟨i', j + 1, by omega, by omega, rfl, by go_num, HF⟩
          case measure => simp only [intOf]; go_num
        | false =>
          obtain ⟨q1, q2, q3, q4⟩ := t0 rfl
          have HF : Hid _ := q4
          have HQ3 : Hid _ := q3
          obtain ⟨u, hu⟩ := Option.isSome_iff_exists.1 q1
          clear t0 t1 HT HC h1 q1 q3 q4 hc
          unfold strV at HF ⊢
          go_wp2
          go_roundw
          case rel => exact ⟨i' + 1, j + 1, by omega, by omega, by go_num, by go_num, HQ3.out, HF.out⟩
          case measure => simp only [intOf]; go_num
      · obtain rfl : j = n := by omega
        have hT : ws.take j = ws := by rw [HN.out, List.take_length]
        have hI1 := hI.out.1
        have hD := hI.out.2
        rw [hT] at hI1
        obtain ⟨zs, hO2, hzl, _, _⟩ := hD.row
        have hcl : ∀ ty, (Builtin.clear_ #[23] ty #[.slice (some ⟨A, i', none⟩) (j - i') (j - i')]).run Try.prog wr = .ok (.tuple #[]) (wr.setCells A i' (Builtin.zeroCells (.string ⟨#[]⟩ : Value).cells (j - i')).toList) := fun ty =>
          run_clear_cells wr 23 9 ty _ Try.underlying23 qwStrZero (by intro u hu; simp [Value.cells] at hu; subst hu; rfl) (by decide) A _ _ _ (by omega) (fun t ht => by
            have ht' : t < (j - i') * 1 := ht
            exact owns_there hO2 _ (by omega)) (fun t _ => owns_fz hO2 _)
        have HFIN : Hid (LeftP w ws m B A i' j (wr.setCells A i' (Builtin.zeroCells (.string ⟨#[]⟩ : Value).cells (j - i')).toList)) := by
          rw [← hI1]
          exact hD.fin HN.out _ (by simp [Builtin.zeroCells, Value.cells])
        generalize (Builtin.zeroCells (.string ⟨#[]⟩ : Value).cells (j - i')).toList = Zs at hcl HFIN
        have hijI : (i' : Int) ≤ (j : Int) := by omega
        have hnecap : ¬ j = i' := by omega
        clear hI hI1 hD hO2 hzl hT
        go_wp2
        go_ret
        exact ⟨_, _, rfl, HFIN⟩
end Go.Proofs.Ytjbfgiicaaljjaa
