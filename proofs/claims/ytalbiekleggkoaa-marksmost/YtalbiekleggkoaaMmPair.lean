/-
  An entry, twice: the walk.
-/
import Derived.Test.YtalbiekleggkoaaMmPr
import Derived.Deep.CutBlock
namespace Go.Proofs.Ytalbiekleggkoaa
open Go.RowKit Go.Maps

set_option maxRecDepth 100000 in
set_option maxHeartbeats 4000000 in
theorem pair_any (wh at' nd : Int) (nm : ByteArray) (ia : Option Addr) (icap : Nat) (L : List Atr) (w : World) (hI : InAt w ia L) :
    Calls Try.prog 24 #[.agg #[.int .i64 wh, .int .i64 at', .int .i64 nd, .string nm, .slice ia L.length icap]] w fun e w' => ∃ va ca vb cb, e = .returned (.tuple #[.agg #[.int .i64 nd, .string nm, .slice va (ddA [] (L.take 20)).length ca], .agg #[.int .i64 nd, .string nm, .slice vb (ddA [] (L.take 20)).length cb]]) ∧ AtrRow w' va ca (ddA [] (L.take 20)) ∧ AtrsAt w' vb (ddA [] (L.take 20)) ∧ Below w.heap.size w w' := by
  have HI : Hid _ := hI
  clear hI
  go_enter Try.func24, Try.ntmps24
  go_upto_region 1 with fail
  go_cut [4, 5] (fun p q wr => ∃ bx ey, p = .pointer (some ⟨bx, 0, none⟩) ∧ q = .pointer (some ⟨ey, 0, none⟩) ∧ Hid (PrAt w ia icap L nd nm bx ey wr.heap.size [] [] (.slice none 0 0) (.slice none 0 0) wr))
  case first =>
    go_region
    · go_wp2
      go_meet
      obtain ⟨hz, hb, c0, c1, c2, c3, c4⟩ := chain5 w (.cells #[.int .i64 wh, .int .i64 at', .int .i64 nd, .string nm, .slice ia L.length icap] 55) (.cells #[.int .i64 0, .string ⟨#[]⟩, .slice none 0 0] 58) (.cells #[.int .i64 0, .string ⟨#[]⟩, .slice none 0 0] 61) (.cells #[.int .i64 nd, .string nm, .slice none 0 0] 58) (.cells #[.int .i64 nd, .string nm, .slice none 0 0] 61)
      refine ⟨_, _, rfl, rfl, PrAt.drew (wr := _) ⟨hb, by simp only [World.cell?, c0]; rfl, c3, c4, c1, c2, World.ownsRow_nil _ _ _ _, World.ownsRow_nil _ _ _ _, by omega, by omega, ?_, ?_, by omega, Nat.le_refl _⟩⟩
      all_goals
        refine Nat.lt_of_lt_of_eq ?_ hz.symm
        omega
    · go_wp2
      go_meet
      obtain ⟨hz, hb, c0, c1, c2, c3, c4⟩ := chain5 w (.cells #[.int .i64 wh, .int .i64 at', .int .i64 nd, .string nm, .slice ia L.length icap] 55) (.cells #[.int .i64 0, .string ⟨#[]⟩, .slice none 0 0] 58) (.cells #[.int .i64 0, .string ⟨#[]⟩, .slice none 0 0] 61) (.cells #[.int .i64 nd, .string nm, .slice none 0 0] 61) (.cells #[.int .i64 nd, .string nm, .slice none 0 0] 58)
      refine ⟨_, _, rfl, rfl, PrAt.drew (wr := _) ⟨hb, by simp only [World.cell?, c0]; rfl, c4, c3, c1, c2, World.ownsRow_nil _ _ _ _, World.ownsRow_nil _ _ _ _, by omega, by omega, ?_, ?_, by omega, Nat.le_refl _⟩⟩
      all_goals
        refine Nat.lt_of_lt_of_eq ?_ hz.symm
        omega
  case rest =>
    obtain ⟨bx, ey, rfl, rfl, hS⟩ := hcut
    generalize hB : wc.heap.size = B at hS
    clear hB
    go_step
    go_step
    go_cut [] (fun wd => ∃ vx vy, Hid (PrAt w ia icap L nd nm bx ey B (ddA [] (L.take 20)) (ddA [] (L.take 20)) vx vy wd))
    case first =>
      go_wp2
      go_loopw [6] (fun i wr => ∃ (k : Nat) (vx vy : Value), k ≤ L.length ∧ k ≤ 20 ∧ i = .int .i64 k ∧ Hid (PrAt w ia icap L nd nm bx ey B (ddA [] (L.take k)) (ddA [] (L.take k)) vx vy wr)) (fun i _ => 20 - (intOf i).toNat)
      case atStart => exact ⟨0, _, _, by omega, by omega, rfl, hS⟩
      case round =>
        clear hS
        obtain ⟨k, vx, vy, hk, hk20, rfl, hP⟩ := hrel
        have a4 := hP.out.a4
        by_cases hin : k < L.length ∧ k < 20
        · obtain ⟨hlt, hlt20⟩ := hin
          have hkI : (k : Int) < (L.length : Int) := by omega
          have hkI2 : (k : Int) < 20 := by omega
          have HQ : Hid (L[k]? = some L[k]) := List.getElem?_eq_getElem hlt
          have HNX : Hid (ddA [] (L.take (k + 1)) = if nameIn (ddA [] (L.take k)) L[k].1 then ddA [] (L.take k) else ddA [] (L.take k) ++ [L[k]]) := by
            show _ = _
            rw [List.take_add_one, List.getElem?_eq_getElem hlt]
            exact ddA_snoc _ _ _
          have hDl : (ddA [] (L.take k)).length ≤ 20 := by
            have := ddA_len (L.take k) []
            have h2 : (L.take k).length ≤ 20 := by rw [List.length_take]; omega
            simp at this
            omega
          generalize ddA [] (L.take k) = D at *
          generalize L[k] = p at *
          go_wp2
          go_loopw [7, 8] (fun t j wx => ∃ m : Nat, m ≤ D.length ∧ j = .int .i64 m ∧ t = .bool (nameIn (D.take m) p.1) ∧ Hid (PrAt w ia icap L nd nm bx ey B D D vx vy wx)) (fun _ j _ => D.length - (intOf j).toNat)
          case atStart => exact ⟨0, by omega, rfl, rfl, hP⟩
          case round =>
            clear hP a4
            obtain ⟨m, hm, rfl, rfl, hP⟩ := hrel
            have a4 := hP.out.a4
            obtain ⟨av, ac, rfl⟩ := row_head hP.out.oy
            have y2 : wr.cell? ⟨ey, 2, none⟩ = some (.slice av D.length ac) := by simp only [World.cell?, hP.out.y]; rfl
            by_cases hlt2 : m < D.length
            · obtain ⟨g, c, hv⟩ := Joins.ownsRow_form hP.out.oy (by omega)
              injection hv with hv _ hv3
              subst hv hv3
              obtain ⟨a0, rfl, s0, s1⟩ := (HI.out.below hP.out.bel).at' k p HQ.out
              have hd := aflat_at D m D[m] (List.getElem?_eq_getElem hlt2)
              have t0 := owns_at hP.out.oy (m * 2) _ hd.1
              have HTK : Hid (nameIn (D.take (m + 1)) p.1 = (nameIn (D.take m) p.1 || (D[m].1.toList == p.1.toList))) := by
                show _ = _
                unfold nameIn
                rw [List.take_add_one, List.getElem?_eq_getElem hlt2, List.any_append]
                simp
              have hmI : (m : Int) < (D.length : Int) := by omega
              clear hd
              generalize D[m] = q at *
              cases hT : nameIn (D.take m) p.1
              · cases hE : (q.1.toList == p.1.toList)
                all_goals
                  have HT2 : Hid (nameIn (D.take (m + 1)) p.1 = (q.1.toList == p.1.toList)) := by
                    have := HTK.out
                    rwa [hT, Bool.false_or] at this
                  go_wp2_with fail
                  go_quiet (fail)
                  go_wp2
                  go_roundw
                  case rel => exact ⟨m + 1, by omega, by go_num, by rw [HT2.out, hE], hP.out.draws _⟩
                  case measure => simp only [intOf]; go_num
              · have HT2 : Hid (nameIn (D.take (m + 1)) p.1 = true) := by
                  have := HTK.out
                  rwa [hT, Bool.true_or] at this
                go_wp2_with fail
                go_quiet (fail)
                go_wp2
                go_roundw
                case rel => exact ⟨m + 1, by omega, by go_num, by rw [HT2.out], hP.out.draws _⟩
                case measure => simp only [intOf]; go_num
            · obtain rfl : m = D.length := by omega
              rw [List.take_length]
              cases hT : nameIn D p.1
              · have HD2 : Hid (ddA [] (L.take (k + 1)) = D ++ [p]) := by
                  have := HNX.out
                  rwa [if_neg (by rw [hT]; decide)] at this
                obtain ⟨ax, cx, rfl⟩ := row_head hP.out.ox
                obtain ⟨a0, rfl, s0, s1⟩ := (HI.out.below hP.out.bel).at' k p HQ.out
                rw [add_one] at s1
                have x2 : wr.cell? ⟨bx, 2, none⟩ = some (.slice ax D.length cx) := by simp only [World.cell?, hP.out.x]; rfl
                clear HNX hkI2
                go_upto_region 11 with fail
                go_cut [] (fun wc => ∃ vx', Hid (PrAt w (some a0) icap L nd nm bx ey B (D ++ [p]) D vx' (.slice av D.length ac) wc))
                case first =>
                  clear HD2 y2
                  have HP : Hid _ := hP.out
                  have l6 := hP.out.l6
                  have x2d : ∀ o, (wr.alloc o).cell? ⟨bx, 2, none⟩ = some (.slice ax D.length cx) := fun o => (((Below.refl _ _).alloc (Nat.le_refl _) o : Below wr.heap.size wr (wr.alloc o)).cell (p := ⟨bx, 2, none⟩) (by have := HP.out.l3; have := HP.out.l4; show bx < wr.heap.size; omega)).trans x2
                  have hown : ∀ o, (wr.alloc o).drew.ownsRow B 93 2 (.slice ax D.length cx) D.length (D.flatMap atrC) := fun o => World.ownsRow.drew (World.ownsRow.alloc hP.out.ox o)
                  have HF : Hid (∀ o g cap w3, w3.ownsRow B 93 2 (.slice (some ⟨g, 0, none⟩) (D.length + 1) cap) (D.length + 1) (D.flatMap atrC ++ atrC p) → (wr.alloc o).drew.grownBy w3 (Value.ownBlock (.slice ax D.length cx)) → _) := fun o g cap w3 h1 h2 => HP.out.addx h1 h2
                  have HSA : Hid (∀ o, PrS w.heap.size a0 L.length icap k p (wr.alloc o).drew) := fun o => PrS.of HI.out HQ.out (HP.out.bel.trans (((Below.refl wr.heap.size wr).alloc (Nat.le_refl _) o).drew.mono HP.out.bel.size)) ((((Below.refl _ _).alloc (Nat.le_refl _) o : Below wr.heap.size wr (wr.alloc o)).cell (p := ⟨w.heap.size, 4, none⟩) (by have := HP.out.l1; have := HP.out.l3; show w.heap.size < wr.heap.size; omega)).trans HP.out.a4)
                  have HSI : Hid (∀ W, Below w.heap.size w W → W.cell? ⟨w.heap.size, 4, none⟩ = some (.slice (some a0) L.length icap) → PrS w.heap.size a0 L.length icap k p W) := fun W h1 h2 => PrS.of HI.out HQ.out h1 h2
                  obtain ⟨i0, hi, hz0, hz1, hz2⟩ := info_parts (show (Try.prog.info? 93).map (fun i => (i.zero, i.size, i.bytes)) = some (some (.agg #[.string ⟨#[]⟩, .string ⟨#[]⟩]), 2, 32) by kernel_rfl)
                  refine wp_region_held_drew (S := PrS w.heap.size a0 L.length icap k p) (by kernel_rfl) ⟨a4, s0, s1⟩ (fun hHeld => ?_)
                  clear hP HP HI HQ hm a4 s0 s1
                  refine wpAnyH_take (i := 0) (oi := { dst := some 55, op := Op.fieldAddr 58 (Operand.tmp 4) 2, type := 0, pos := "law.go:39", after := #[], guard := none }) (v := ?_) rfl (by kernel_rfl) (by kernel_rfl) (by kernel_rfl) (fun _ _ _ h => h) (Or.inl ⟨by rfl, ?_⟩) (by assumption) ?_
                  rotate_left
                  · (intro w hSw; obtain ⟨⟩ := hSw; go_simp)
                    all_goals with_reducible rfl
                  try simp only [Act.put, List.setIfInBounds_toArray, List.set_cons_zero, List.set_cons_succ]
                  refine wpAnyH_take (i := 2) (oi := { dst := some 57, op := Op.fieldAddr 55 (Operand.tmp 1) 4, type := 0, pos := "law.go:39", after := #[], guard := none }) (v := ?_) rfl (by kernel_rfl) (by kernel_rfl) (by kernel_rfl) (fun _ _ _ h => h) (Or.inl ⟨by rfl, ?_⟩) (by assumption) ?_
                  rotate_left
                  · (intro w hSw; obtain ⟨⟩ := hSw; go_simp)
                    all_goals with_reducible rfl
                  try simp only [Act.put, List.setIfInBounds_toArray, List.set_cons_zero, List.set_cons_succ]
                  refine wpAnyH_take (i := 3) (oi := { dst := some 58, op := Op.load 53 (Operand.tmp 57), type := 53, pos := "law.go:39", after := #[{ on := 2, ground := Ground.data }], guard := none }) (v := ?_) rfl (by kernel_rfl) (by kernel_rfl) (by kernel_rfl) (fun _ _ _ h => h) (Or.inl ⟨by rfl, ?_⟩) (by assumption) ?_
                  rotate_left
                  · (intro w hSw; obtain ⟨⟩ := hSw; go_simp)
                    all_goals with_reducible rfl
                  try simp only [Act.put, List.setIfInBounds_toArray, List.set_cons_zero, List.set_cons_succ]
                  refine wpAnyH_take (i := 4) (oi := { dst := some 59, op := Op.move (Operand.tmp 6), type := 3, pos := "law.go:39", after := #[], guard := none }) (v := ?_) rfl (by kernel_rfl) (by kernel_rfl) (by kernel_rfl) (fun _ _ _ h => h) (Or.inl ⟨by rfl, ?_⟩) (by assumption) ?_
                  rotate_left
                  · (intro w hSw; obtain ⟨⟩ := hSw; go_simp)
                    all_goals with_reducible rfl
                  try simp only [Act.put, List.setIfInBounds_toArray, List.set_cons_zero, List.set_cons_succ]
                  refine wpAnyH_take (i := 5) (oi := { dst := some 60, op := Op.indexAddr 53 (Operand.tmp 58) (Operand.tmp 59), type := 0, pos := "law.go:39", after := #[{ on := 3, ground := Ground.data }, { on := 4, ground := Ground.data }], guard := none }) (v := ?_) rfl (by kernel_rfl) (by kernel_rfl) (by kernel_rfl) (fun _ _ _ h => h) (Or.inl ⟨by rfl, ?_⟩) (by assumption) ?_
                  rotate_left
                  · (intro w hSw; obtain ⟨⟩ := hSw; go_simp)
                    all_goals with_reducible rfl
                  try simp only [Act.put, List.setIfInBounds_toArray, List.set_cons_zero, List.set_cons_succ]
                  refine wpAnyH_take (i := 6) (oi := { dst := some 61, op := Op.fieldAddr 92 (Operand.tmp 60) 0, type := 0, pos := "law.go:39", after := #[{ on := 5, ground := Ground.data }], guard := none }) (v := ?_) rfl (by kernel_rfl) (by kernel_rfl) (by kernel_rfl) (fun _ _ _ h => h) (Or.inl ⟨by rfl, ?_⟩) (by assumption) ?_
                  rotate_left
                  · (intro w hSw; obtain ⟨⟩ := hSw; go_simp)
                    all_goals with_reducible rfl
                  try simp only [Act.put, List.setIfInBounds_toArray, List.set_cons_zero, List.set_cons_succ]
                  refine wpAnyH_take (i := 7) (oi := { dst := some 62, op := Op.load 9 (Operand.tmp 61), type := 9, pos := "law.go:39", after := #[{ on := 6, ground := Ground.data }], guard := none }) (v := ?_) rfl (by kernel_rfl) (by kernel_rfl) (by kernel_rfl) (fun _ _ _ h => h) (Or.inl ⟨by rfl, ?_⟩) (by assumption) ?_
                  rotate_left
                  · (intro w hSw; obtain ⟨⟩ := hSw; go_simp)
                    all_goals with_reducible rfl
                  try simp only [Act.put, List.setIfInBounds_toArray, List.set_cons_zero, List.set_cons_succ]
                  refine wpAnyH_take (i := 8) (oi := { dst := some 63, op := Op.fieldAddr 55 (Operand.tmp 1) 4, type := 0, pos := "law.go:39", after := #[], guard := none }) (v := ?_) rfl (by kernel_rfl) (by kernel_rfl) (by kernel_rfl) (fun _ _ _ h => h) (Or.inl ⟨by rfl, ?_⟩) (by assumption) ?_
                  rotate_left
                  · (intro w hSw; obtain ⟨⟩ := hSw; go_simp)
                    all_goals with_reducible rfl
                  try simp only [Act.put, List.setIfInBounds_toArray, List.set_cons_zero, List.set_cons_succ]
                  refine wpAnyH_take (i := 9) (oi := { dst := some 64, op := Op.load 53 (Operand.tmp 63), type := 53, pos := "law.go:39", after := #[{ on := 8, ground := Ground.data }], guard := none }) (v := ?_) rfl (by kernel_rfl) (by kernel_rfl) (by kernel_rfl) (fun _ _ _ h => h) (Or.inl ⟨by rfl, ?_⟩) (by assumption) ?_
                  rotate_left
                  · (intro w hSw; obtain ⟨⟩ := hSw; go_simp)
                    all_goals with_reducible rfl
                  try simp only [Act.put, List.setIfInBounds_toArray, List.set_cons_zero, List.set_cons_succ]
                  refine wpAnyH_take (i := 10) (oi := { dst := some 65, op := Op.move (Operand.tmp 6), type := 3, pos := "law.go:39", after := #[], guard := none }) (v := ?_) rfl (by kernel_rfl) (by kernel_rfl) (by kernel_rfl) (fun _ _ _ h => h) (Or.inl ⟨by rfl, ?_⟩) (by assumption) ?_
                  rotate_left
                  · (intro w hSw; obtain ⟨⟩ := hSw; go_simp)
                    all_goals with_reducible rfl
                  try simp only [Act.put, List.setIfInBounds_toArray, List.set_cons_zero, List.set_cons_succ]
                  refine wpAnyH_take (i := 11) (oi := { dst := some 66, op := Op.indexAddr 53 (Operand.tmp 64) (Operand.tmp 65), type := 0, pos := "law.go:39", after := #[{ on := 9, ground := Ground.data }, { on := 10, ground := Ground.data }], guard := none }) (v := ?_) rfl (by kernel_rfl) (by kernel_rfl) (by kernel_rfl) (fun _ _ _ h => h) (Or.inl ⟨by rfl, ?_⟩) (by assumption) ?_
                  rotate_left
                  · (intro w hSw; obtain ⟨⟩ := hSw; go_simp)
                    all_goals with_reducible rfl
                  try simp only [Act.put, List.setIfInBounds_toArray, List.set_cons_zero, List.set_cons_succ]
                  refine wpAnyH_take (i := 12) (oi := { dst := some 67, op := Op.fieldAddr 92 (Operand.tmp 66) 1, type := 0, pos := "law.go:39", after := #[{ on := 11, ground := Ground.data }], guard := none }) (v := ?_) rfl (by kernel_rfl) (by kernel_rfl) (by kernel_rfl) (fun _ _ _ h => h) (Or.inl ⟨by rfl, ?_⟩) (by assumption) ?_
                  rotate_left
                  · (intro w hSw; obtain ⟨⟩ := hSw; go_simp)
                    all_goals with_reducible rfl
                  try simp only [Act.put, List.setIfInBounds_toArray, List.set_cons_zero, List.set_cons_succ]
                  refine wpAnyH_take (i := 13) (oi := { dst := some 68, op := Op.load 9 (Operand.tmp 67), type := 9, pos := "law.go:39", after := #[{ on := 12, ground := Ground.data }], guard := none }) (v := ?_) rfl (by kernel_rfl) (by kernel_rfl) (by kernel_rfl) (fun _ _ _ h => h) (Or.inl ⟨by rfl, ?_⟩) (by assumption) ?_
                  rotate_left
                  · (intro w hSw; obtain ⟨⟩ := hSw; go_simp)
                    all_goals with_reducible rfl
                  try simp only [Act.put, List.setIfInBounds_toArray, List.set_cons_zero, List.set_cons_succ]
                  refine wpAnyH_take (i := 14) (oi := { dst := some 69, op := Op.build 93 #[(0, Operand.tmp 62), (1, Operand.tmp 68)], type := 93, pos := "law.go:39", after := #[{ on := 7, ground := Ground.data }, { on := 13, ground := Ground.data }], guard := none }) (v := ?_) rfl (by kernel_rfl) (by kernel_rfl) (by kernel_rfl) (fun _ _ _ h => h) (Or.inl ⟨by rfl, ?_⟩) (by assumption) ?_
                  rotate_left
                  · (intro w hSw; obtain ⟨⟩ := hSw; go_simp)
                    all_goals with_reducible rfl
                  try simp only [Act.put, List.setIfInBounds_toArray, List.set_cons_zero, List.set_cons_succ]
                  refine wpAnyH_ready (rs := [1, 15]) (by kernel_rfl) (by simp) ?_
                  refine AllReadyH.cons (o := { dst := some 56, op := Op.load 56 (Operand.tmp 55), type := 56, pos := "law.go:39", after := #[{ on := 0, ground := Ground.data }], guard := none }) rfl (fun K hK => ?_) ?_
                  · skip
                    go_simp
                    refine hK.out _ _ hHeld (fun hHeld => ?_)
                    clear hK K
                    try simp only [Act.put, List.setIfInBounds_toArray, List.set_cons_zero, List.set_cons_succ]
                    refine wpAnyH_ready (rs := [15]) (by kernel_rfl) (by simp) ?_
                    refine AllReadyH.cons (o := { dst := some 70, op := Op.buildSlice 56 1 #[(0, Operand.tmp 69)], type := 56, pos := "law.go:39", after := #[{ on := 14, ground := Ground.data }], guard := none }) rfl (fun K hK => ?_) AllReadyH.nil
                    go_simp
                    refine hK.out _ _ (HSA.out _) (fun hHeld => ?_)
                    clear hK K
                    try simp only [Act.put, List.setIfInBounds_toArray, List.set_cons_zero, List.set_cons_succ]
                    refine wpAnyH_ready (rs := [16]) (by kernel_rfl) (by simp) ?_
                    refine AllReadyH.cons (o := { dst := some 71, op := Op.call { callee := Callee.builtin Builtin.append, args := #[Operand.tmp 56, Operand.tmp 70], argTypes := #[56, 56] }, type := 56, pos := "law.go:39", after := #[{ on := 1, ground := Ground.data }, { on := 15, ground := Ground.data }], guard := none }) rfl (fun K hK => ?_) AllReadyH.nil
                    refine step_append_lies _ rfl (.tmp 56) (.tmp 70) 56 rfl B 93 i0 (.agg #[.string ⟨#[]⟩, .string ⟨#[]⟩]) 2 32 Try.underlying56 hi hz0 hz1 hz2 rfl (by decide) (.slice ax D.length cx) D.length (D.flatMap atrC) (by simp [Act.eval]) (hown _) ⟨wr.heap.size, 0, none⟩ 1 1 [.string p.1, .string p.2] (by simp [Act.eval]) rfl (inews wr _ _ _) (by intro u hu; simp at hu; rcases hu with rfl | rfl <;> rfl) (by omega) (by unfold maxLen; omega) (by omega) (by show B ≤ (wr.alloc _).heap.size; simp; omega) _ rfl (fun g cap w' hown' hgrow hat hlt => ?_)
                    obtain ⟨q0, g0, KB, K4, KR⟩ := HF.out _ g cap w' hown' hgrow
                    clear hown' hgrow hat hlt
                    refine hK.out _ _ (HSI.out _ KB.out K4.out) (fun hHeld => ?_)
                    clear hK K
                    try simp only [Act.put, List.setIfInBounds_toArray, List.set_cons_zero, List.set_cons_succ]
                    refine wpAnyH_take (i := 17) (oi := { dst := some 72, op := Op.fieldAddr 58 (Operand.tmp 4) 2, type := 0, pos := "law.go:39", after := #[{ on := 0, ground := Ground.phase }, { on := 1, ground := Ground.phase }, { on := 2, ground := Ground.phase }, { on := 3, ground := Ground.phase }, { on := 4, ground := Ground.phase }, { on := 5, ground := Ground.phase }, { on := 6, ground := Ground.phase }, { on := 7, ground := Ground.phase }, { on := 8, ground := Ground.phase }, { on := 9, ground := Ground.phase }, { on := 10, ground := Ground.phase }, { on := 11, ground := Ground.phase }, { on := 12, ground := Ground.phase }, { on := 13, ground := Ground.phase }, { on := 14, ground := Ground.phase }, { on := 15, ground := Ground.phase }, { on := 16, ground := Ground.phase }], guard := none }) (v := ?_) rfl (by kernel_rfl) (by kernel_rfl) (by kernel_rfl) (fun _ _ _ h => h) (Or.inl ⟨by rfl, ?_⟩) (by assumption) ?_
                    rotate_left
                    · (intro w hSw; obtain ⟨⟩ := hSw; go_simp)
                      all_goals with_reducible rfl
                    try simp only [Act.put, List.setIfInBounds_toArray, List.set_cons_zero, List.set_cons_succ]
                    refine wpAnyH_ready (rs := [18]) (by kernel_rfl) (by simp) ?_
                    refine AllReadyH.cons (o := { dst := none, op := Op.store 56 (Operand.tmp 72) (Operand.tmp 71), type := 0, pos := "law.go:39", after := #[{ on := 17, ground := Ground.data }, { on := 16, ground := Ground.data }, { on := 16, ground := Ground.chain }, { on := 0, ground := Ground.phase }, { on := 1, ground := Ground.phase }, { on := 2, ground := Ground.phase }, { on := 3, ground := Ground.phase }, { on := 4, ground := Ground.phase }, { on := 5, ground := Ground.phase }, { on := 6, ground := Ground.phase }, { on := 7, ground := Ground.phase }, { on := 8, ground := Ground.phase }, { on := 9, ground := Ground.phase }, { on := 10, ground := Ground.phase }, { on := 11, ground := Ground.phase }, { on := 12, ground := Ground.phase }, { on := 13, ground := Ground.phase }, { on := 14, ground := Ground.phase }, { on := 15, ground := Ground.phase }, { on := 16, ground := Ground.phase }], guard := none }) rfl (fun K hK => ?_) AllReadyH.nil
                    go_simp
                    refine hK.out _ _ (HSI.out _ KR.out.bel KR.out.a4) (fun hHeld => ?_)
                    clear hK K
                    try simp only [Act.put, List.setIfInBounds_toArray, List.set_cons_zero, List.set_cons_succ]
                    refine wpAnyH_done (by kernel_rfl) ?_ _
                    clear hHeld x2d hown q0 g0
                    go_wp2
                    go_meet
                    exact ⟨_, KR⟩
                  refine AllReadyH.cons (o := { dst := some 70, op := Op.buildSlice 56 1 #[(0, Operand.tmp 69)], type := 56, pos := "law.go:39", after := #[{ on := 14, ground := Ground.data }], guard := none }) rfl (fun K hK => ?_) AllReadyH.nil
                  go_simp
                  refine hK.out _ _ (HSA.out _) (fun hHeld => ?_)
                  clear hK K
                  try simp only [Act.put, List.setIfInBounds_toArray, List.set_cons_zero, List.set_cons_succ]
                  refine wpAnyH_ready (rs := [1]) (by kernel_rfl) (by simp) ?_
                  refine AllReadyH.cons (o := { dst := some 56, op := Op.load 56 (Operand.tmp 55), type := 56, pos := "law.go:39", after := #[{ on := 0, ground := Ground.data }], guard := none }) rfl (fun K hK => ?_) AllReadyH.nil
                  go_simp
                  refine hK.out _ _ hHeld (fun hHeld => ?_)
                  clear hK K
                  try simp only [Act.put, List.setIfInBounds_toArray, List.set_cons_zero, List.set_cons_succ]
                  refine wpAnyH_ready (rs := [16]) (by kernel_rfl) (by simp) ?_
                  refine AllReadyH.cons (o := { dst := some 71, op := Op.call { callee := Callee.builtin Builtin.append, args := #[Operand.tmp 56, Operand.tmp 70], argTypes := #[56, 56] }, type := 56, pos := "law.go:39", after := #[{ on := 1, ground := Ground.data }, { on := 15, ground := Ground.data }], guard := none }) rfl (fun K hK => ?_) AllReadyH.nil
                  refine step_append_lies _ rfl (.tmp 56) (.tmp 70) 56 rfl B 93 i0 (.agg #[.string ⟨#[]⟩, .string ⟨#[]⟩]) 2 32 Try.underlying56 hi hz0 hz1 hz2 rfl (by decide) (.slice ax D.length cx) D.length (D.flatMap atrC) (by simp [Act.eval]) (hown _) ⟨wr.heap.size, 0, none⟩ 1 1 [.string p.1, .string p.2] (by simp [Act.eval]) rfl (inews wr _ _ _) (by intro u hu; simp at hu; rcases hu with rfl | rfl <;> rfl) (by omega) (by unfold maxLen; omega) (by omega) (by show B ≤ (wr.alloc _).heap.size; simp; omega) _ rfl (fun g cap w' hown' hgrow hat hlt => ?_)
                  obtain ⟨q0, g0, KB, K4, KR⟩ := HF.out _ g cap w' hown' hgrow
                  clear hown' hgrow hat hlt
                  refine hK.out _ _ (HSI.out _ KB.out K4.out) (fun hHeld => ?_)
                  clear hK K
                  try simp only [Act.put, List.setIfInBounds_toArray, List.set_cons_zero, List.set_cons_succ]
                  refine wpAnyH_take (i := 17) (oi := { dst := some 72, op := Op.fieldAddr 58 (Operand.tmp 4) 2, type := 0, pos := "law.go:39", after := #[{ on := 0, ground := Ground.phase }, { on := 1, ground := Ground.phase }, { on := 2, ground := Ground.phase }, { on := 3, ground := Ground.phase }, { on := 4, ground := Ground.phase }, { on := 5, ground := Ground.phase }, { on := 6, ground := Ground.phase }, { on := 7, ground := Ground.phase }, { on := 8, ground := Ground.phase }, { on := 9, ground := Ground.phase }, { on := 10, ground := Ground.phase }, { on := 11, ground := Ground.phase }, { on := 12, ground := Ground.phase }, { on := 13, ground := Ground.phase }, { on := 14, ground := Ground.phase }, { on := 15, ground := Ground.phase }, { on := 16, ground := Ground.phase }], guard := none }) (v := ?_) rfl (by kernel_rfl) (by kernel_rfl) (by kernel_rfl) (fun _ _ _ h => h) (Or.inl ⟨by rfl, ?_⟩) (by assumption) ?_
                  rotate_left
                  · (intro w hSw; obtain ⟨⟩ := hSw; go_simp)
                    all_goals with_reducible rfl
                  try simp only [Act.put, List.setIfInBounds_toArray, List.set_cons_zero, List.set_cons_succ]
                  refine wpAnyH_ready (rs := [18]) (by kernel_rfl) (by simp) ?_
                  refine AllReadyH.cons (o := { dst := none, op := Op.store 56 (Operand.tmp 72) (Operand.tmp 71), type := 0, pos := "law.go:39", after := #[{ on := 17, ground := Ground.data }, { on := 16, ground := Ground.data }, { on := 16, ground := Ground.chain }, { on := 0, ground := Ground.phase }, { on := 1, ground := Ground.phase }, { on := 2, ground := Ground.phase }, { on := 3, ground := Ground.phase }, { on := 4, ground := Ground.phase }, { on := 5, ground := Ground.phase }, { on := 6, ground := Ground.phase }, { on := 7, ground := Ground.phase }, { on := 8, ground := Ground.phase }, { on := 9, ground := Ground.phase }, { on := 10, ground := Ground.phase }, { on := 11, ground := Ground.phase }, { on := 12, ground := Ground.phase }, { on := 13, ground := Ground.phase }, { on := 14, ground := Ground.phase }, { on := 15, ground := Ground.phase }, { on := 16, ground := Ground.phase }], guard := none }) rfl (fun K hK => ?_) AllReadyH.nil
                  go_simp
                  refine hK.out _ _ (HSI.out _ KR.out.bel KR.out.a4) (fun hHeld => ?_)
                  clear hK K
                  try simp only [Act.put, List.setIfInBounds_toArray, List.set_cons_zero, List.set_cons_succ]
                  refine wpAnyH_done (by kernel_rfl) ?_ _
                  clear hHeld x2d hown q0 g0
                  go_wp2
                  go_meet
                  exact ⟨_, KR⟩
                case rest =>
                  obtain ⟨vx', hP2⟩ := hcut
                  clear hP a4 s0 s1 x2 y2
                  have a4 := hP2.out.a4
                  obtain ⟨_, ea, s0, s1⟩ := (HI.out.below hP2.out.bel).at' k p HQ.out
                  cases ea
                  rw [add_one] at s1
                  have y2 : wc.cell? ⟨ey, 2, none⟩ = some (.slice av D.length ac) := by simp only [World.cell?, hP2.out.y]; rfl
                  go_upto_region 12 with fail
                  have HP : Hid _ := hP2.out
                  have l6 := hP2.out.l6
                  have x2d : ∀ o, (wc.alloc o).cell? ⟨ey, 2, none⟩ = some (.slice av D.length ac) := fun o => (((Below.refl _ _).alloc (Nat.le_refl _) o : Below wc.heap.size wc (wc.alloc o)).cell (p := ⟨ey, 2, none⟩) (by have := HP.out.l3; have := HP.out.l4; show ey < wc.heap.size; omega)).trans y2
                  have hown : ∀ o, (wc.alloc o).drew.ownsRow B 91 2 (.slice av D.length ac) D.length (D.flatMap atrC) := fun o => World.ownsRow.drew (World.ownsRow.alloc hP2.out.oy o)
                  have HF : Hid (∀ o g cap w3, w3.ownsRow B 91 2 (.slice (some ⟨g, 0, none⟩) (D.length + 1) cap) (D.length + 1) (D.flatMap atrC ++ atrC p) → (wc.alloc o).drew.grownBy w3 (Value.ownBlock (.slice av D.length ac)) → _) := fun o g cap w3 h1 h2 => HP.out.addy h1 h2
                  have HSA : Hid (∀ o, PrS w.heap.size a0 L.length icap k p (wc.alloc o).drew) := fun o => PrS.of HI.out HQ.out (HP.out.bel.trans (((Below.refl wc.heap.size wc).alloc (Nat.le_refl _) o).drew.mono HP.out.bel.size)) ((((Below.refl _ _).alloc (Nat.le_refl _) o : Below wc.heap.size wc (wc.alloc o)).cell (p := ⟨w.heap.size, 4, none⟩) (by have := HP.out.l1; have := HP.out.l3; show w.heap.size < wc.heap.size; omega)).trans HP.out.a4)
                  have HSI : Hid (∀ W, Below w.heap.size w W → W.cell? ⟨w.heap.size, 4, none⟩ = some (.slice (some a0) L.length icap) → PrS w.heap.size a0 L.length icap k p W) := fun W h1 h2 => PrS.of HI.out HQ.out h1 h2
                  obtain ⟨i0, hi, hz0, hz1, hz2⟩ := info_parts (show (Try.prog.info? 91).map (fun i => (i.zero, i.size, i.bytes)) = some (some (.agg #[.string ⟨#[]⟩, .string ⟨#[]⟩]), 2, 32) by kernel_rfl)
                  refine wp_region_held_drew (S := PrS w.heap.size a0 L.length icap k p) (by kernel_rfl) ⟨a4, s0, s1⟩ (fun hHeld => ?_)
                  clear hP2 HP HI HQ hm a4 s0 s1
                  refine wpAnyH_take (i := 0) (oi := { dst := some 73, op := Op.fieldAddr 61 (Operand.tmp 5) 2, type := 0, pos := "law.go:40", after := #[], guard := none }) (v := ?_) rfl (by kernel_rfl) (by kernel_rfl) (by kernel_rfl) (fun _ _ _ h => h) (Or.inl ⟨by rfl, ?_⟩) (by assumption) ?_
                  rotate_left
                  · (intro w hSw; obtain ⟨⟩ := hSw; go_simp)
                    all_goals with_reducible rfl
                  try simp only [Act.put, List.setIfInBounds_toArray, List.set_cons_zero, List.set_cons_succ]
                  refine wpAnyH_take (i := 2) (oi := { dst := some 75, op := Op.fieldAddr 55 (Operand.tmp 1) 4, type := 0, pos := "law.go:40", after := #[], guard := none }) (v := ?_) rfl (by kernel_rfl) (by kernel_rfl) (by kernel_rfl) (fun _ _ _ h => h) (Or.inl ⟨by rfl, ?_⟩) (by assumption) ?_
                  rotate_left
                  · (intro w hSw; obtain ⟨⟩ := hSw; go_simp)
                    all_goals with_reducible rfl
                  try simp only [Act.put, List.setIfInBounds_toArray, List.set_cons_zero, List.set_cons_succ]
                  refine wpAnyH_take (i := 3) (oi := { dst := some 76, op := Op.load 53 (Operand.tmp 75), type := 53, pos := "law.go:40", after := #[{ on := 2, ground := Ground.data }], guard := none }) (v := ?_) rfl (by kernel_rfl) (by kernel_rfl) (by kernel_rfl) (fun _ _ _ h => h) (Or.inl ⟨by rfl, ?_⟩) (by assumption) ?_
                  rotate_left
                  · (intro w hSw; obtain ⟨⟩ := hSw; go_simp)
                    all_goals with_reducible rfl
                  try simp only [Act.put, List.setIfInBounds_toArray, List.set_cons_zero, List.set_cons_succ]
                  refine wpAnyH_take (i := 4) (oi := { dst := some 77, op := Op.move (Operand.tmp 6), type := 3, pos := "law.go:40", after := #[], guard := none }) (v := ?_) rfl (by kernel_rfl) (by kernel_rfl) (by kernel_rfl) (fun _ _ _ h => h) (Or.inl ⟨by rfl, ?_⟩) (by assumption) ?_
                  rotate_left
                  · (intro w hSw; obtain ⟨⟩ := hSw; go_simp)
                    all_goals with_reducible rfl
                  try simp only [Act.put, List.setIfInBounds_toArray, List.set_cons_zero, List.set_cons_succ]
                  refine wpAnyH_take (i := 5) (oi := { dst := some 78, op := Op.indexAddr 53 (Operand.tmp 76) (Operand.tmp 77), type := 0, pos := "law.go:40", after := #[{ on := 3, ground := Ground.data }, { on := 4, ground := Ground.data }], guard := none }) (v := ?_) rfl (by kernel_rfl) (by kernel_rfl) (by kernel_rfl) (fun _ _ _ h => h) (Or.inl ⟨by rfl, ?_⟩) (by assumption) ?_
                  rotate_left
                  · (intro w hSw; obtain ⟨⟩ := hSw; go_simp)
                    all_goals with_reducible rfl
                  try simp only [Act.put, List.setIfInBounds_toArray, List.set_cons_zero, List.set_cons_succ]
                  refine wpAnyH_take (i := 6) (oi := { dst := some 79, op := Op.fieldAddr 92 (Operand.tmp 78) 0, type := 0, pos := "law.go:40", after := #[{ on := 5, ground := Ground.data }], guard := none }) (v := ?_) rfl (by kernel_rfl) (by kernel_rfl) (by kernel_rfl) (fun _ _ _ h => h) (Or.inl ⟨by rfl, ?_⟩) (by assumption) ?_
                  rotate_left
                  · (intro w hSw; obtain ⟨⟩ := hSw; go_simp)
                    all_goals with_reducible rfl
                  try simp only [Act.put, List.setIfInBounds_toArray, List.set_cons_zero, List.set_cons_succ]
                  refine wpAnyH_take (i := 7) (oi := { dst := some 80, op := Op.load 9 (Operand.tmp 79), type := 9, pos := "law.go:40", after := #[{ on := 6, ground := Ground.data }], guard := none }) (v := ?_) rfl (by kernel_rfl) (by kernel_rfl) (by kernel_rfl) (fun _ _ _ h => h) (Or.inl ⟨by rfl, ?_⟩) (by assumption) ?_
                  rotate_left
                  · (intro w hSw; obtain ⟨⟩ := hSw; go_simp)
                    all_goals with_reducible rfl
                  try simp only [Act.put, List.setIfInBounds_toArray, List.set_cons_zero, List.set_cons_succ]
                  refine wpAnyH_take (i := 8) (oi := { dst := some 81, op := Op.fieldAddr 55 (Operand.tmp 1) 4, type := 0, pos := "law.go:40", after := #[], guard := none }) (v := ?_) rfl (by kernel_rfl) (by kernel_rfl) (by kernel_rfl) (fun _ _ _ h => h) (Or.inl ⟨by rfl, ?_⟩) (by assumption) ?_
                  rotate_left
                  · (intro w hSw; obtain ⟨⟩ := hSw; go_simp)
                    all_goals with_reducible rfl
                  try simp only [Act.put, List.setIfInBounds_toArray, List.set_cons_zero, List.set_cons_succ]
                  refine wpAnyH_take (i := 9) (oi := { dst := some 82, op := Op.load 53 (Operand.tmp 81), type := 53, pos := "law.go:40", after := #[{ on := 8, ground := Ground.data }], guard := none }) (v := ?_) rfl (by kernel_rfl) (by kernel_rfl) (by kernel_rfl) (fun _ _ _ h => h) (Or.inl ⟨by rfl, ?_⟩) (by assumption) ?_
                  rotate_left
                  · (intro w hSw; obtain ⟨⟩ := hSw; go_simp)
                    all_goals with_reducible rfl
                  try simp only [Act.put, List.setIfInBounds_toArray, List.set_cons_zero, List.set_cons_succ]
                  refine wpAnyH_take (i := 10) (oi := { dst := some 83, op := Op.move (Operand.tmp 6), type := 3, pos := "law.go:40", after := #[], guard := none }) (v := ?_) rfl (by kernel_rfl) (by kernel_rfl) (by kernel_rfl) (fun _ _ _ h => h) (Or.inl ⟨by rfl, ?_⟩) (by assumption) ?_
                  rotate_left
                  · (intro w hSw; obtain ⟨⟩ := hSw; go_simp)
                    all_goals with_reducible rfl
                  try simp only [Act.put, List.setIfInBounds_toArray, List.set_cons_zero, List.set_cons_succ]
                  refine wpAnyH_take (i := 11) (oi := { dst := some 84, op := Op.indexAddr 53 (Operand.tmp 82) (Operand.tmp 83), type := 0, pos := "law.go:40", after := #[{ on := 9, ground := Ground.data }, { on := 10, ground := Ground.data }], guard := none }) (v := ?_) rfl (by kernel_rfl) (by kernel_rfl) (by kernel_rfl) (fun _ _ _ h => h) (Or.inl ⟨by rfl, ?_⟩) (by assumption) ?_
                  rotate_left
                  · (intro w hSw; obtain ⟨⟩ := hSw; go_simp)
                    all_goals with_reducible rfl
                  try simp only [Act.put, List.setIfInBounds_toArray, List.set_cons_zero, List.set_cons_succ]
                  refine wpAnyH_take (i := 12) (oi := { dst := some 85, op := Op.fieldAddr 92 (Operand.tmp 84) 1, type := 0, pos := "law.go:40", after := #[{ on := 11, ground := Ground.data }], guard := none }) (v := ?_) rfl (by kernel_rfl) (by kernel_rfl) (by kernel_rfl) (fun _ _ _ h => h) (Or.inl ⟨by rfl, ?_⟩) (by assumption) ?_
                  rotate_left
                  · (intro w hSw; obtain ⟨⟩ := hSw; go_simp)
                    all_goals with_reducible rfl
                  try simp only [Act.put, List.setIfInBounds_toArray, List.set_cons_zero, List.set_cons_succ]
                  refine wpAnyH_take (i := 13) (oi := { dst := some 86, op := Op.load 9 (Operand.tmp 85), type := 9, pos := "law.go:40", after := #[{ on := 12, ground := Ground.data }], guard := none }) (v := ?_) rfl (by kernel_rfl) (by kernel_rfl) (by kernel_rfl) (fun _ _ _ h => h) (Or.inl ⟨by rfl, ?_⟩) (by assumption) ?_
                  rotate_left
                  · (intro w hSw; obtain ⟨⟩ := hSw; go_simp)
                    all_goals with_reducible rfl
                  try simp only [Act.put, List.setIfInBounds_toArray, List.set_cons_zero, List.set_cons_succ]
                  refine wpAnyH_take (i := 14) (oi := { dst := some 87, op := Op.build 91 #[(0, Operand.tmp 80), (1, Operand.tmp 86)], type := 91, pos := "law.go:40", after := #[{ on := 7, ground := Ground.data }, { on := 13, ground := Ground.data }], guard := none }) (v := ?_) rfl (by kernel_rfl) (by kernel_rfl) (by kernel_rfl) (fun _ _ _ h => h) (Or.inl ⟨by rfl, ?_⟩) (by assumption) ?_
                  rotate_left
                  · (intro w hSw; obtain ⟨⟩ := hSw; go_simp)
                    all_goals with_reducible rfl
                  try simp only [Act.put, List.setIfInBounds_toArray, List.set_cons_zero, List.set_cons_succ]
                  refine wpAnyH_ready (rs := [1, 15]) (by kernel_rfl) (by simp) ?_
                  refine AllReadyH.cons (o := { dst := some 74, op := Op.load 59 (Operand.tmp 73), type := 59, pos := "law.go:40", after := #[{ on := 0, ground := Ground.data }], guard := none }) rfl (fun K hK => ?_) ?_
                  · skip
                    go_simp
                    refine hK.out _ _ hHeld (fun hHeld => ?_)
                    clear hK K
                    try simp only [Act.put, List.setIfInBounds_toArray, List.set_cons_zero, List.set_cons_succ]
                    refine wpAnyH_ready (rs := [15]) (by kernel_rfl) (by simp) ?_
                    refine AllReadyH.cons (o := { dst := some 88, op := Op.buildSlice 59 1 #[(0, Operand.tmp 87)], type := 59, pos := "law.go:40", after := #[{ on := 14, ground := Ground.data }], guard := none }) rfl (fun K hK => ?_) AllReadyH.nil
                    go_simp
                    refine hK.out _ _ (HSA.out _) (fun hHeld => ?_)
                    clear hK K
                    try simp only [Act.put, List.setIfInBounds_toArray, List.set_cons_zero, List.set_cons_succ]
                    refine wpAnyH_ready (rs := [16]) (by kernel_rfl) (by simp) ?_
                    refine AllReadyH.cons (o := { dst := some 89, op := Op.call { callee := Callee.builtin Builtin.append, args := #[Operand.tmp 74, Operand.tmp 88], argTypes := #[59, 59] }, type := 59, pos := "law.go:40", after := #[{ on := 1, ground := Ground.data }, { on := 15, ground := Ground.data }], guard := none }) rfl (fun K hK => ?_) AllReadyH.nil
                    refine step_append_lies _ rfl (.tmp 74) (.tmp 88) 59 rfl B 91 i0 (.agg #[.string ⟨#[]⟩, .string ⟨#[]⟩]) 2 32 Try.underlying59 hi hz0 hz1 hz2 rfl (by decide) (.slice av D.length ac) D.length (D.flatMap atrC) (by simp [Act.eval]) (hown _) ⟨wc.heap.size, 0, none⟩ 1 1 [.string p.1, .string p.2] (by simp [Act.eval]) rfl (inews wc _ _ _) (by intro u hu; simp at hu; rcases hu with rfl | rfl <;> rfl) (by omega) (by unfold maxLen; omega) (by omega) (by show B ≤ (wc.alloc _).heap.size; simp; omega) _ rfl (fun g cap w' hown' hgrow hat hlt => ?_)
                    obtain ⟨q0, g0, KB, K4, KR⟩ := HF.out _ g cap w' hown' hgrow
                    clear hown' hgrow hat hlt
                    refine hK.out _ _ (HSI.out _ KB.out K4.out) (fun hHeld => ?_)
                    clear hK K
                    try simp only [Act.put, List.setIfInBounds_toArray, List.set_cons_zero, List.set_cons_succ]
                    refine wpAnyH_take (i := 17) (oi := { dst := some 90, op := Op.fieldAddr 61 (Operand.tmp 5) 2, type := 0, pos := "law.go:40", after := #[{ on := 0, ground := Ground.phase }, { on := 1, ground := Ground.phase }, { on := 2, ground := Ground.phase }, { on := 3, ground := Ground.phase }, { on := 4, ground := Ground.phase }, { on := 5, ground := Ground.phase }, { on := 6, ground := Ground.phase }, { on := 7, ground := Ground.phase }, { on := 8, ground := Ground.phase }, { on := 9, ground := Ground.phase }, { on := 10, ground := Ground.phase }, { on := 11, ground := Ground.phase }, { on := 12, ground := Ground.phase }, { on := 13, ground := Ground.phase }, { on := 14, ground := Ground.phase }, { on := 15, ground := Ground.phase }, { on := 16, ground := Ground.phase }], guard := none }) (v := ?_) rfl (by kernel_rfl) (by kernel_rfl) (by kernel_rfl) (fun _ _ _ h => h) (Or.inl ⟨by rfl, ?_⟩) (by assumption) ?_
                    rotate_left
                    · (intro w hSw; obtain ⟨⟩ := hSw; go_simp)
                      all_goals with_reducible rfl
                    try simp only [Act.put, List.setIfInBounds_toArray, List.set_cons_zero, List.set_cons_succ]
                    refine wpAnyH_ready (rs := [18]) (by kernel_rfl) (by simp) ?_
                    refine AllReadyH.cons (o := { dst := none, op := Op.store 59 (Operand.tmp 90) (Operand.tmp 89), type := 0, pos := "law.go:40", after := #[{ on := 17, ground := Ground.data }, { on := 16, ground := Ground.data }, { on := 16, ground := Ground.chain }, { on := 0, ground := Ground.phase }, { on := 1, ground := Ground.phase }, { on := 2, ground := Ground.phase }, { on := 3, ground := Ground.phase }, { on := 4, ground := Ground.phase }, { on := 5, ground := Ground.phase }, { on := 6, ground := Ground.phase }, { on := 7, ground := Ground.phase }, { on := 8, ground := Ground.phase }, { on := 9, ground := Ground.phase }, { on := 10, ground := Ground.phase }, { on := 11, ground := Ground.phase }, { on := 12, ground := Ground.phase }, { on := 13, ground := Ground.phase }, { on := 14, ground := Ground.phase }, { on := 15, ground := Ground.phase }, { on := 16, ground := Ground.phase }], guard := none }) rfl (fun K hK => ?_) AllReadyH.nil
                    go_simp
                    refine hK.out _ _ (HSI.out _ KR.out.bel KR.out.a4) (fun hHeld => ?_)
                    clear hK K
                    try simp only [Act.put, List.setIfInBounds_toArray, List.set_cons_zero, List.set_cons_succ]
                    refine wpAnyH_done (by kernel_rfl) ?_ _
                    clear hHeld x2d hown q0 g0
                    go_wp2
                    go_roundw
                    case rel => exact ⟨k + 1, vx', _, by omega, by omega, by go_num, by rw [HD2.out]; exact KR⟩
                    case measure => simp only [intOf]; go_num
                  refine AllReadyH.cons (o := { dst := some 88, op := Op.buildSlice 59 1 #[(0, Operand.tmp 87)], type := 59, pos := "law.go:40", after := #[{ on := 14, ground := Ground.data }], guard := none }) rfl (fun K hK => ?_) AllReadyH.nil
                  go_simp
                  refine hK.out _ _ (HSA.out _) (fun hHeld => ?_)
                  clear hK K
                  try simp only [Act.put, List.setIfInBounds_toArray, List.set_cons_zero, List.set_cons_succ]
                  refine wpAnyH_ready (rs := [1]) (by kernel_rfl) (by simp) ?_
                  refine AllReadyH.cons (o := { dst := some 74, op := Op.load 59 (Operand.tmp 73), type := 59, pos := "law.go:40", after := #[{ on := 0, ground := Ground.data }], guard := none }) rfl (fun K hK => ?_) AllReadyH.nil
                  go_simp
                  refine hK.out _ _ hHeld (fun hHeld => ?_)
                  clear hK K
                  try simp only [Act.put, List.setIfInBounds_toArray, List.set_cons_zero, List.set_cons_succ]
                  refine wpAnyH_ready (rs := [16]) (by kernel_rfl) (by simp) ?_
                  refine AllReadyH.cons (o := { dst := some 89, op := Op.call { callee := Callee.builtin Builtin.append, args := #[Operand.tmp 74, Operand.tmp 88], argTypes := #[59, 59] }, type := 59, pos := "law.go:40", after := #[{ on := 1, ground := Ground.data }, { on := 15, ground := Ground.data }], guard := none }) rfl (fun K hK => ?_) AllReadyH.nil
                  refine step_append_lies _ rfl (.tmp 74) (.tmp 88) 59 rfl B 91 i0 (.agg #[.string ⟨#[]⟩, .string ⟨#[]⟩]) 2 32 Try.underlying59 hi hz0 hz1 hz2 rfl (by decide) (.slice av D.length ac) D.length (D.flatMap atrC) (by simp [Act.eval]) (hown _) ⟨wc.heap.size, 0, none⟩ 1 1 [.string p.1, .string p.2] (by simp [Act.eval]) rfl (inews wc _ _ _) (by intro u hu; simp at hu; rcases hu with rfl | rfl <;> rfl) (by omega) (by unfold maxLen; omega) (by omega) (by show B ≤ (wc.alloc _).heap.size; simp; omega) _ rfl (fun g cap w' hown' hgrow hat hlt => ?_)
                  obtain ⟨q0, g0, KB, K4, KR⟩ := HF.out _ g cap w' hown' hgrow
                  clear hown' hgrow hat hlt
                  refine hK.out _ _ (HSI.out _ KB.out K4.out) (fun hHeld => ?_)
                  clear hK K
                  try simp only [Act.put, List.setIfInBounds_toArray, List.set_cons_zero, List.set_cons_succ]
                  refine wpAnyH_take (i := 17) (oi := { dst := some 90, op := Op.fieldAddr 61 (Operand.tmp 5) 2, type := 0, pos := "law.go:40", after := #[{ on := 0, ground := Ground.phase }, { on := 1, ground := Ground.phase }, { on := 2, ground := Ground.phase }, { on := 3, ground := Ground.phase }, { on := 4, ground := Ground.phase }, { on := 5, ground := Ground.phase }, { on := 6, ground := Ground.phase }, { on := 7, ground := Ground.phase }, { on := 8, ground := Ground.phase }, { on := 9, ground := Ground.phase }, { on := 10, ground := Ground.phase }, { on := 11, ground := Ground.phase }, { on := 12, ground := Ground.phase }, { on := 13, ground := Ground.phase }, { on := 14, ground := Ground.phase }, { on := 15, ground := Ground.phase }, { on := 16, ground := Ground.phase }], guard := none }) (v := ?_) rfl (by kernel_rfl) (by kernel_rfl) (by kernel_rfl) (fun _ _ _ h => h) (Or.inl ⟨by rfl, ?_⟩) (by assumption) ?_
                  rotate_left
                  · (intro w hSw; obtain ⟨⟩ := hSw; go_simp)
                    all_goals with_reducible rfl
                  try simp only [Act.put, List.setIfInBounds_toArray, List.set_cons_zero, List.set_cons_succ]
                  refine wpAnyH_ready (rs := [18]) (by kernel_rfl) (by simp) ?_
                  refine AllReadyH.cons (o := { dst := none, op := Op.store 59 (Operand.tmp 90) (Operand.tmp 89), type := 0, pos := "law.go:40", after := #[{ on := 17, ground := Ground.data }, { on := 16, ground := Ground.data }, { on := 16, ground := Ground.chain }, { on := 0, ground := Ground.phase }, { on := 1, ground := Ground.phase }, { on := 2, ground := Ground.phase }, { on := 3, ground := Ground.phase }, { on := 4, ground := Ground.phase }, { on := 5, ground := Ground.phase }, { on := 6, ground := Ground.phase }, { on := 7, ground := Ground.phase }, { on := 8, ground := Ground.phase }, { on := 9, ground := Ground.phase }, { on := 10, ground := Ground.phase }, { on := 11, ground := Ground.phase }, { on := 12, ground := Ground.phase }, { on := 13, ground := Ground.phase }, { on := 14, ground := Ground.phase }, { on := 15, ground := Ground.phase }, { on := 16, ground := Ground.phase }], guard := none }) rfl (fun K hK => ?_) AllReadyH.nil
                  go_simp
                  refine hK.out _ _ (HSI.out _ KR.out.bel KR.out.a4) (fun hHeld => ?_)
                  clear hK K
                  try simp only [Act.put, List.setIfInBounds_toArray, List.set_cons_zero, List.set_cons_succ]
                  refine wpAnyH_done (by kernel_rfl) ?_ _
                  clear hHeld x2d hown q0 g0
                  go_wp2
                  go_roundw
                  case rel => exact ⟨k + 1, vx', _, by omega, by omega, by go_num, by rw [HD2.out]; exact KR⟩
                  case measure => simp only [intOf]; go_num
              · have HD2 : Hid (ddA [] (L.take (k + 1)) = D) := by
                  have := HNX.out
                  rwa [if_pos hT] at this
                go_wp2
                go_roundw
                case rel => exact ⟨k + 1, vx, _, by omega, by omega, by go_num, by rw [HD2.out]; exact hP⟩
                case measure => simp only [intOf]; go_num
        · have HEND : Hid (ddA [] (L.take k) = ddA [] (L.take 20)) := by
            show _ = _
            rcases (show k = 20 ∨ (k = L.length ∧ k ≤ 20) by omega) with e | ⟨e, h⟩
            · rw [e]
            · rw [e, List.take_length, List.take_of_length_le (by omega)]
          rw [HEND.out] at hP
          rcases (show ¬ k < L.length ∨ (k < L.length ∧ ¬ k < 20) by omega) with h1 | ⟨h1, h2⟩
          all_goals
            clear hin
            go_wp2
            go_meet
            exact ⟨_, _, hP⟩
    case rest =>
      obtain ⟨vx, vy, hP⟩ := hcut
      clear hS
      obtain ⟨va, ca, rfl⟩ := row_head hP.out.ox
      obtain ⟨vb, cb, rfl⟩ := row_head hP.out.oy
      obtain ⟨e1, e2, e3, e4⟩ := hP.out.ends
      have HS2 : Hid _ := e2.drew
      have HS3 : Hid _ := e3.drew
      have HS4 : Hid _ := e4.drew
      unfold set3 at HS2 HS3 HS4
      have p0 : wc.cell? ⟨w.heap.size + 1, 0, none⟩ = some (.int .i64 0) := by simp only [World.cell?, hP.out.r1]; rfl
      have p1 : wc.cell? ⟨w.heap.size + 1, 1, none⟩ = some (.string ⟨#[]⟩) := by simp only [World.cell?, hP.out.r1]; rfl
      have p2 : wc.cell? ⟨w.heap.size + 1, 2, none⟩ = some (.slice none 0 0) := by simp only [World.cell?, hP.out.r1]; rfl
      have q0 : wc.cell? ⟨w.heap.size + 1 + 1, 0, none⟩ = some (.int .i64 0) := by simp only [World.cell?, hP.out.r2]; rfl
      have q1 : wc.cell? ⟨w.heap.size + 1 + 1, 1, none⟩ = some (.string ⟨#[]⟩) := by simp only [World.cell?, hP.out.r2]; rfl
      have q2 : wc.cell? ⟨w.heap.size + 1 + 1, 2, none⟩ = some (.slice none 0 0) := by simp only [World.cell?, hP.out.r2]; rfl
      have fp : ∀ j, wc.frozen? ⟨w.heap.size + 1, j, none⟩ = false := fun j => by simp only [World.frozen?, hP.out.r1]; simp
      have fq : ∀ j, wc.frozen? ⟨w.heap.size + 1 + 1, j, none⟩ = false := fun j => by simp only [World.frozen?, hP.out.r2]; simp
      go_upto_region 13 with fail
      refine wp_region_held_drew (S := PrE bx ey nd nm (.slice va (ddA [] (L.take 20)).length ca) (.slice vb (ddA [] (L.take 20)).length cb)) (by kernel_rfl) e1.drew (fun hHeld => ?_)
      clear e1 e2 e3 e4 HI hP
      refine wpAnyH_take (i := 0) (oi := { dst := some 91, op := Op.load 58 (Operand.tmp 4), type := 58, pos := "law.go:43", after := #[], guard := none }) (v := ?_) rfl (by kernel_rfl) (by kernel_rfl) (by kernel_rfl) (fun _ _ _ h => h) (Or.inl ⟨by rfl, ?_⟩) (by assumption) ?_
      rotate_left
      · (intro w hSw; obtain ⟨⟩ := hSw; go_simp)
        all_goals with_reducible rfl
      try simp only [Act.put, List.setIfInBounds_toArray, List.set_cons_zero, List.set_cons_succ]
      refine wpAnyH_take (i := 1) (oi := { dst := some 92, op := Op.load 61 (Operand.tmp 5), type := 61, pos := "law.go:43", after := #[{ on := 2, ground := Ground.gcOnly Departure.lateStores }], guard := none }) (v := ?_) rfl (by kernel_rfl) (by kernel_rfl) (by kernel_rfl) (fun _ _ _ h => h) (Or.inl ⟨by rfl, ?_⟩) (by assumption) ?_
      rotate_left
      · (intro w hSw; obtain ⟨⟩ := hSw; go_simp)
        all_goals with_reducible rfl
      try simp only [Act.put, List.setIfInBounds_toArray, List.set_cons_zero, List.set_cons_succ]
      refine wpAnyH_ready (rs := [2]) (by kernel_rfl) (by simp) ?_
      refine AllReadyH.cons (o := { dst := none, op := Op.store 58 (Operand.tmp 2) (Operand.tmp 91), type := 0, pos := "law.go:43", after := #[{ on := 0, ground := Ground.data }, { on := 0, ground := Ground.phase }, { on := 1, ground := Ground.textOnly Departure.lateStores }], guard := none }) rfl (fun K hK => ?_) AllReadyH.nil
      go_simp
      refine hK.out _ _ (HS2.out) (fun hHeld => ?_)
      clear hK K
      try simp only [Act.put, List.setIfInBounds_toArray, List.set_cons_zero, List.set_cons_succ]
      refine wpAnyH_ready (rs := [3]) (by kernel_rfl) (by simp) ?_
      refine AllReadyH.cons (o := { dst := none, op := Op.store 61 (Operand.tmp 3) (Operand.tmp 92), type := 0, pos := "law.go:43", after := #[{ on := 1, ground := Ground.data }, { on := 2, ground := Ground.chain }, { on := 0, ground := Ground.phase }, { on := 1, ground := Ground.phase }, { on := 2, ground := Ground.phase }], guard := none }) rfl (fun K hK => ?_) AllReadyH.nil
      go_simp
      refine hK.out _ _ (HS3.out) (fun hHeld => ?_)
      clear hK K
      try simp only [Act.put, List.setIfInBounds_toArray, List.set_cons_zero, List.set_cons_succ]
      refine wpAnyH_done (by kernel_rfl) ?_ _
      refine gen_world (C := FinP w nd nm va ca vb cb (ddA [] (L.take 20))) HS4.out ?_
      clear hHeld HS2 HS3 HS4 p0 p1 p2 q0 q1 q2 fp fq
      intro W' hF
      obtain ⟨p0, p1, p2, q0, q1, q2, ra, rb, bel⟩ := hF
      have RA : Hid _ := ra
      have RB : Hid _ := rb
      have BE : Hid _ := bel
      clear ra rb bel
      go_wp2
      exact bodyPost_ret (v := .tuple #[.agg #[.int .i64 nd, .string nm, .slice va (ddA [] (L.take 20)).length ca], .agg #[.int .i64 nd, .string nm, .slice vb (ddA [] (L.take 20)).length cb]]) (by simp [results, Try.results24, go_sem, p0, p1, p2, q0, q1, q2]) rfl ⟨va, ca, vb, cb, rfl, RA.out, RB.out, BE.out⟩
end Go.Proofs.Ytalbiekleggkoaa
