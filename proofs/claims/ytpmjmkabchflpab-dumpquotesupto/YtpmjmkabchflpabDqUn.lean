/-
  What stands in quotes ahead: the program's way.
-/
import Derived.Test.YtpmjmkabchflpabDqQuote
namespace Go.Proofs.Ytpmjmkabchflpab
open Go.RowKit Go.Maps

def signB (d : UInt8) : Bool := d == 34 || d == 92 || d == 110
def meantB (d : UInt8) : UInt8 := if d = 110 then 10 else d
def unq : List UInt8 → List UInt8 → Option (List UInt8 × List UInt8)
  | _, [] => none
  | acc, [c] => if c = 34 then some (acc, []) else none
  | acc, c :: d :: r => if c = 34 then some (acc, d :: r) else if c = 10 then none else if c = 92 then (if signB d then unq (acc ++ [meantB d]) r else none) else unq (acc ++ [c]) (d :: r)

theorem unq_end (acc r : List UInt8) : unq acc (34 :: r) = some (acc, r) := by
  cases r <;> simp [unq]
theorem unq_line (acc r : List UInt8) : unq acc (10 :: r) = none := by
  cases r <;> simp [unq]
theorem unq_last (acc : List UInt8) : unq acc [92] = none := by simp [unq]
theorem unq_sign (acc r : List UInt8) (d : UInt8) (h : signB d = true) : unq acc (92 :: d :: r) = unq (acc ++ [meantB d]) r := by simp [unq, h]
theorem unq_bad (acc r : List UInt8) (d : UInt8) (h : signB d = false) : unq acc (92 :: d :: r) = none := by simp [unq, h]
theorem unq_plain (acc r : List UInt8) (c : UInt8) (h1 : ¬ c = 34) (h2 : ¬ c = 10) (h3 : ¬ c = 92) : unq acc (c :: r) = unq (acc ++ [c]) r := by
  cases r <;> simp [unq, h1, h2, h3]

theorem unq_quote (l acc more : List UInt8) : unq acc (l.flatMap quoteC ++ 34 :: more) = some (acc ++ l, more) := by
  induction l generalizing acc with
  | nil => simp [unq_end]
  | cons c l ih =>
    rw [List.flatMap_cons]
    unfold quoteC
    by_cases h1 : c = 34
    · subst h1
      rw [if_pos rfl]
      show unq acc (92 :: 34 :: (l.flatMap quoteC ++ 34 :: more)) = _
      rw [unq_sign _ _ _ (by rfl), show meantB 34 = 34 by rfl, ih]
      simp
    · rw [if_neg h1]
      by_cases h2 : c = 92
      · subst h2
        rw [if_pos rfl]
        show unq acc (92 :: 92 :: (l.flatMap quoteC ++ 34 :: more)) = _
        rw [unq_sign _ _ _ (by rfl), show meantB 92 = 92 by rfl, ih]
        simp
      · rw [if_neg h2]
        by_cases h3 : c = 10
        · subst h3
          rw [if_pos rfl]
          show unq acc (92 :: 110 :: (l.flatMap quoteC ++ 34 :: more)) = _
          rw [unq_sign _ _ _ (by rfl), show meantB 110 = 10 by rfl, ih]
          simp
        · rw [if_neg h3]
          show unq acc (c :: (l.flatMap quoteC ++ 34 :: more)) = _
          rw [unq_plain _ _ _ h1 h3 h2, ih]
          simp

/-- What stands in quotes ahead, and what is behind. -/
def unquoteL : List UInt8 → Option (List UInt8 × List UInt8)
  | [] => none
  | c :: r => if c = 34 then unq [] r else none
theorem unquote_quote (l more : List UInt8) : unquoteL (quoteB l ++ more) = some (l, more) := by
  show unquoteL (34 :: (l.flatMap quoteC ++ [34]) ++ more) = _
  have e : 34 :: (l.flatMap quoteC ++ [34]) ++ more = 34 :: (l.flatMap quoteC ++ 34 :: more) := by simp
  rw [e]
  show (if (34 : UInt8) = 34 then unq [] (l.flatMap quoteC ++ 34 :: more) else none) = _
  rw [if_pos rfl, unq_quote]
  simp

theorem MeantAt.next {w wr w1 : World} {l : List UInt8} {v : Value} {o : Obj} {b : Nat} (h : MeantAt wr b) (ho : OutAt w wr l v) (hgrow : (wr.alloc o).grownBy w1 v.ownBlock) : MeantAt w1 b := by
  obtain ⟨D, hD, hat⟩ := h.own
  exact ⟨D, World.ownsMap.kept (World.ownsMap.alloc hD o) hgrow (own_not_map ho.own hD), hat⟩

/-- The answer as it is told. -/
def unqV : Option (List UInt8 × List UInt8) → Value
  | none => .tuple #[.string ⟨#[]⟩, .string ⟨#[]⟩, .bool false]
  | some (x, r) => .tuple #[.string ⟨x.toArray⟩, .string ⟨r.toArray⟩, .bool true]

theorem one_of (s : ByteArray) (h : 0 < s.size) : s.extract 0 1 = ⟨#[s[0]]⟩ := by
  apply ByteArray.ext
  apply Array.ext'
  have hl : 0 < s.data.toList.length := by simpa using h
  rw [ByteArray.data_extract, Array.toList_extract, List.extract_eq_take_drop, List.drop_eq_getElem_cons hl]
  simp
  rfl
theorem one_list (c : UInt8) : ByteArray.toList ⟨#[c]⟩ = [c] := by
  simp [ByteArray.toList, ByteArray.toList.loop, ByteArray.size, ByteArray.get!]

def headQ (s : ByteArray) : Bool := s.data.toList.head? == some 34
set_option maxRecDepth 100000 in
set_option maxHeartbeats 1000000 in
theorem hasPrefix_quote (s : ByteArray) (w : World) : Calls Try.prog 9 #[.string s, .string ⟨#[34]⟩] w fun e w' => e = .returned (.bool (headQ s)) ∧ w' = w := by
  by_cases h : (s.size : Int) < 1
  · go_enter Try.func9, Try.ntmps9
    go_wp2
    go_ret
    refine ⟨?_, rfl⟩
    have : s.data.toList = [] := List.length_eq_zero_iff.1 (by rw [show s.data.toList.length = s.size by simp]; omega)
    simp [headQ, this]
  · have h1 : (1 : Int) ≤ (s.size : Int) := by omega
    have h0 : 0 < s.size := by omega
    clear h
    go_enter Try.func9, Try.ntmps9
    go_wp2
    rw [one_of s h0, one_list]
    go_ret
    refine ⟨?_, rfl⟩
    have hl : 0 < s.data.toList.length := by simpa using h0
    have e : s.data.toList.head? = some s[0] := by
      rw [List.head?_eq_getElem?, List.getElem?_eq_getElem hl]
      rfl
    simp [headQ, e]

theorem u8_all (P : UInt8 → Prop) (h : ∀ n : Fin 256, P (UInt8.ofFin n)) (d : UInt8) : P d := h d.toFin
theorem meantI_none (d : UInt8) : signB d = false → meantI (d.toNat : Int) = 0 := by
  revert d
  exact u8_all _ (by decide +kernel)
theorem meantI_some (d : UInt8) : signB d = true → meantI (d.toNat : Int) = ((meantB d).toNat : Int) := by
  revert d
  exact u8_all _ (by decide +kernel)
theorem meantB_pos (d : UInt8) : signB d = true → (((meantB d).toNat : Int) == 0) = false := by
  revert d
  exact u8_all _ (by decide +kernel)

set_option maxRecDepth 100000 in
set_option maxHeartbeats 2000000 in
theorem unquote_any (s : ByteArray) (w : World) (hs : s.size ≤ 4194304) : Calls Try.prog 5 #[.string s] w fun e w' => e = .returned (unqV (unquoteL s.data.toList)) ∧ Below w.heap.size w w' := by
  obtain ⟨i0, hi, hz0, hz1, hz2⟩ := info_parts Try.info5
  have hL : s.data.toList.length = s.size := by simp
  have HP : Hid _ := hasPrefix_quote s w
  cases hq : headQ s
  · have hU : unquoteL s.data.toList = none := by
      unfold headQ at hq
      cases hl : s.data.toList with
      | nil => rfl
      | cons c r =>
        rw [hl] at hq
        have hc : ¬ c = 34 := by simpa using hq
        simp [unquoteL, hc]
    rw [hU]
    rw [hq] at HP
    clear hU
    go_enter Try.func5, Try.ntmps5
    go_wp2_with fail
    refine Calls.mono HP.out ?_
    rintro e w1 ⟨rfl, rfl⟩
    go_wp2
    exact bodyPost_ret (v := .tuple #[.string ⟨#[]⟩, .string ⟨#[]⟩, .bool false]) (by simp [results, Try.results5, go_sem]) rfl ⟨rfl, Below.refl _ _⟩
  · have hU : 0 < s.size ∧ unquoteL s.data.toList = unq [] (s.data.toList.drop 1) := by
      unfold headQ at hq
      cases hl : s.data.toList with
      | nil => rw [hl] at hq; simp at hq
      | cons c r =>
        rw [hl] at hq hL
        have hc : c = 34 := by simpa using hq
        refine ⟨by rw [← hL]; simp, by simp [unquoteL, hc]⟩
    rw [hU.2]
    have hs0 := hU.1
    rw [hq] at HP
    clear hU hq
    go_enter Try.func5, Try.ntmps5
    go_wp2_with fail
    refine Calls.mono HP.out ?_
    rintro e w1 ⟨rfl, rfl⟩
    go_wp2_with fail
    refine Calls.mono (meant_any w1) ?_
    rintro e w2 ⟨rfl, hM2, hb2⟩
    have HO : Hid (OutAt w1 w2 [] (.slice none 0 0)) := ⟨World.ownsRow_nil _ _ _ _, hb2⟩
    have HM : Hid _ := hM2
    clear HP hM2 hb2
    go_wp2
    go_loopw [6, 7] (fun v i wr => ∃ (k : Nat) (acc : List UInt8), 1 ≤ k ∧ k ≤ s.size ∧ i = .int .i64 k ∧ acc.length ≤ k ∧ OutAt w1 wr acc v ∧ MeantAt wr w1.heap.size ∧ unq [] (s.data.toList.drop 1) = unq acc (s.data.toList.drop k)) (fun _ i _ => s.size - (intOf i).toNat)
    case atStart => exact ⟨1, [], by omega, by omega, rfl, by simp, HO.out, HM.out, rfl⟩
    case round =>
      obtain ⟨k, acc, hk1, hk, rfl, hacc, hO, hM, hU⟩ := hrel
      clear HO HM
      have hbs := hO.bel.size
      by_cases hlt : k < s.size
      · have hlt' : k < s.data.toList.length := by simpa using hlt
        have hd : s.data.toList.drop k = s[k] :: s.data.toList.drop (k + 1) := List.drop_eq_getElem_cons hlt'
        rw [hd] at hU
        have hbf : ∀ x : UInt8, ¬ s[k] = x → ((s[k].toNat : Int) == (x.toNat : Int)) = false := fun x hx => by
          rw [beq_eq_false_iff_ne]
          intro e
          exact hx (UInt8.toNat_inj.1 (Int.ofNat.inj e))
        by_cases h34 : s[k] = 34
        · have e34 : (s[k].toNat : Int) = 34 := by rw [h34]; rfl
          rw [h34, unq_end] at hU
          have hback := own_back (World.ownsRow.drew hO.own)
          have HB : Hid _ := hO.bel
          have HU : Hid _ := hU
          have hI : (k : Int) + 1 ≤ (s.size : Int) := by omega
          have HX : Hid (s.extract (k + 1) s.size = ⟨(s.data.toList.drop (k + 1)).toArray⟩) := by
            apply ByteArray.ext
            apply Array.ext'
            rw [ByteArray.data_extract, Array.toList_extract, List.extract_eq_take_drop, List.take_of_length_le (by simp)]
          clear hO hM hU hd hbf h34
          go_wp2_with fail
          go_region
          all_goals
            go_wp2
            exact bodyPost_ret (v := .tuple #[.string ⟨acc.toArray⟩, .string (s.extract (k + 1) s.size), .bool true]) (by simp [results, Try.results5, go_sem]) rfl ⟨by rw [HU.out, HX.out]; rfl, HB.out.drew⟩
        · have b34 : ((s[k].toNat : Int) == 34) = false := hbf 34 h34
          by_cases h10 : s[k] = 10
          · have e10 : (s[k].toNat : Int) = 10 := by rw [h10]; rfl
            rw [h10, unq_line] at hU
            have HB : Hid _ := hO.bel
            have HU : Hid _ := hU
            clear hO hM hU hd hbf h34 h10
            go_wp2
            exact bodyPost_ret (v := .tuple #[.string ⟨#[]⟩, .string ⟨#[]⟩, .bool false]) (by simp [results, Try.results5, go_sem]) rfl ⟨by rw [HU.out]; rfl, HB.out⟩
          · have b10 : ((s[k].toNat : Int) == 10) = false := hbf 10 h10
            by_cases h92 : s[k] = 92
            · have e92 : (s[k].toNat : Int) = 92 := by rw [h92]; rfl
              rw [h92] at hU
              clear hbf h34 h10 h92 hd
              by_cases hlast : k + 1 = s.size
              · have hdn : s.data.toList.drop (k + 1) = [] := List.drop_of_length_le (by omega)
                rw [hdn, unq_last] at hU
                have HB : Hid _ := hO.bel
                have HU : Hid _ := hU
                have hI : (k : Int) + 1 = (s.size : Int) := by omega
                clear hO hM hU hdn
                go_wp2
                exact bodyPost_ret (v := .tuple #[.string ⟨#[]⟩, .string ⟨#[]⟩, .bool false]) (by simp [results, Try.results5, go_sem]) rfl ⟨by rw [HU.out]; rfl, HB.out⟩
              · have hlt2 : k + 1 < s.size := by omega
                have hlt2' : k + 1 < s.data.toList.length := by simpa using hlt2
                have hd2 : s.data.toList.drop (k + 1) = s[k + 1] :: s.data.toList.drop (k + 2) := List.drop_eq_getElem_cons hlt2'
                rw [hd2] at hU
                have hI : ((k : Int) + 1 == (s.size : Int)) = false := by rw [beq_eq_false_iff_ne]; omega
                have hI2 : (k : Int) + 1 < (s.size : Int) := by omega
                have h256 : (s[k + 1].toNat : Int) < 256 := by have := s[k + 1].toNat_lt; omega
                have hkey := u8Key (s[k + 1].toNat : Int) (by omega) h256
                obtain ⟨D, hD, hat⟩ := hM.own
                have hat1 := hat (s[k + 1].toNat : Int)
                clear hd2 hlast
                cases hsg : signB s[k + 1]
                · rw [unq_bad _ _ _ hsg] at hU
                  have hm0 : meantI (s[k + 1].toNat : Int) = 0 := meantI_none _ hsg
                  have HB : Hid _ := hO.bel
                  have HU : Hid _ := hU
                  clear hO hU hM hat hsg
                  obtain ⟨c, hrun, hc, hwc⟩ := World.ownsMap.lookup_int hD u8K Try.underlying28 Try.underlying5 (u8Zero _) hkey
                  have hcs : c = 0 := by
                    rw [hat1, hm0] at hc
                    injection hc with hc
                    injection hc with _ hc
                    exact hc.symm
                  subst hcs
                  clear hc hwc hat1 hm0 hD hkey
                  go_wp2
                  exact bodyPost_ret (v := .tuple #[.string ⟨#[]⟩, .string ⟨#[]⟩, .bool false]) (by simp [results, Try.results5, go_sem]) rfl ⟨by rw [HU.out]; rfl, HB.out⟩
                · rw [unq_sign _ _ _ hsg] at hU
                  have hm0 : meantI (s[k + 1].toNat : Int) = ((meantB s[k + 1]).toNat : Int) := meantI_some _ hsg
                  have hmz : (((meantB s[k + 1]).toNat : Int) == 0) = false := meantB_pos _ hsg
                  have HU : Hid _ := hU
                  clear hU hat hsg
                  obtain ⟨c, hrun, hc, hwc⟩ := World.ownsMap.lookup_int hD u8K Try.underlying28 Try.underlying5 (u8Zero _) hkey
                  have hcs : c = ((meantB s[k + 1]).toNat : Int) := by
                    rw [hat1, hm0] at hc
                    injection hc with hc
                    injection hc with _ hc
                    exact hc.symm
                  subst hcs
                  clear hc hwc hat1 hm0 hD hkey
                  go_wp2_with ((at_builtin; refine wpList_append_own _ rfl _ _ 30 rfl w1.heap.size 5 i0 (.int .u8 0) 1 1 Try.underlying30 hi hz0 hz1 hz2 rfl (by decide) _ _ _ rfl (hO.own.alloc _) ⟨wr.heap.size, 0, none⟩ 1 1 [.int .u8 ((meantB s[k + 1]).toNat : Int)] rfl rfl (news_cells _ #[.int .u8 ((meantB s[k + 1]).toNat : Int)] _ _ rfl) (bytes_one [meantB s[k + 1]]) (by unfold maxLen; omega) (by omega) (by simp; omega) ?_))
                  intro v' w2 hown' hgrow _
                  have HN : Hid (OutAt w1 w2 (acc ++ [meantB s[k + 1]]) v' ∧ MeantAt w2 w1.heap.size) := ⟨hO.next (m := [meantB s[k + 1]]) hown' hgrow, hM.next hO hgrow⟩
                  clear hown' hgrow hO hM
                  go_wp2
                  go_roundw
                  case rel => exact ⟨k + 2, _, by omega, by omega, by go_num, by simp; omega, HN.out.1, HN.out.2, HU.out⟩
                  case measure => simp [intOf]; omega
            · have b92 : ((s[k].toNat : Int) == 92) = false := hbf 92 h92
              rw [unq_plain _ _ _ h34 h10 h92] at hU
              have HU : Hid _ := hU
              clear hbf h34 h10 h92 hd hU
              go_wp2_with (at_builtin; refine wpList_append_own _ rfl _ _ 30 rfl w1.heap.size 5 i0 (.int .u8 0) 1 1 Try.underlying30 hi hz0 hz1 hz2 rfl (by decide) _ _ _ rfl (hO.own.alloc _) ⟨wr.heap.size, 0, none⟩ 1 1 [.int .u8 (s[k].toNat : Int)] rfl rfl (news_cells _ #[.int .u8 (s[k].toNat : Int)] _ _ rfl) (bytes_one [s[k]]) (by unfold maxLen; omega) (by omega) (by simp; omega) ?_)
              intro v' w2 hown' hgrow _
              have HN : Hid (OutAt w1 w2 (acc ++ [s[k]]) v' ∧ MeantAt w2 w1.heap.size) := ⟨hO.next (m := [s[k]]) hown' hgrow, hM.next hO hgrow⟩
              clear hown' hgrow hO hM
              go_wp2
              go_roundw
              case rel => exact ⟨k + 1, _, by omega, by omega, by go_num, by simp; omega, HN.out.1, HN.out.2, HU.out⟩
              case measure => simp [intOf]; omega
      · obtain rfl : k = s.size := by omega
        have hdn : s.data.toList.drop s.size = [] := List.drop_of_length_le (by omega)
        rw [hdn] at hU
        have HB : Hid _ := hO.bel
        have HU : Hid _ := hU
        clear hO hM hU
        go_wp2
        exact bodyPost_ret (v := .tuple #[.string ⟨#[]⟩, .string ⟨#[]⟩, .bool false]) (by simp [results, Try.results5, go_sem]) rfl ⟨by rw [HU.out]; rfl, HB.out⟩
end Go.Proofs.Ytpmjmkabchflpab
