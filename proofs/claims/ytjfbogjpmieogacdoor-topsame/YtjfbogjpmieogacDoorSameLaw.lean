/-
  TopSame: bytes below 80 are the same in both codings; of all others both tell each byte: the law's walk.
-/
import Derived.Test.YtjfbogjpmieogacDoorWakes
import Derived.Test.YtjfbogjpmieogacDoorSamePlain
namespace Go.Proofs.YtjfbogjpmieogacDoor
open Go.RowKit

theorem chain_cons {i n n' : Int} {r : Int × Int} {l : List (Int × Int)} (h : chain i n (r :: l) = some n') : n ≤ r.2 ∧ r.2 ≤ i ∧ chain i (r.2 + 1) l = some n' := by
  unfold chain at h
  split at h
  · rename_i h1
    exact ⟨h1.1, h1.2, h⟩
  · cases h

def plB (l : List UInt8) (k : Nat) : Bool := (l.take k).all (fun b => decide (b < 128))
theorem plB_step (l : List UInt8) (k : Nat) (h : k < l.length) : plB l (k + 1) = (plB l k && decide (l[k] < 128)) := by
  unfold plB
  rw [List.take_succ_eq_append_getElem h, List.all_append]
  simp
theorem plB_end (l : List UInt8) (h : plB l l.length = true) : ∀ b ∈ l, b < 128 := by
  unfold plB at h
  rw [List.take_length, List.all_eq_true] at h
  intro b hb
  simpa using h b hb

/-- Where the rows of both readings stand. -/
structure RowsAt (w : World) (a : Option Addr) (rs : List (Int × Int)) : Prop where
  out : ∀ p, (hp : p < rs.length) → ∃ g, a = some ⟨g, 0, none⟩ ∧ w.cell? ⟨g, p * 2, none⟩ = some (.int .i64 rs[p].1) ∧ w.cell? ⟨g, p * 2 + 1, none⟩ = some (.int .i64 rs[p].2)

theorem rows_at {w : World} {base : Nat} {e : TypeId} {v : Value} {rs : List (Int × Int)} (h : w.ownsRow base e 2 v rs.length (rs.flatMap runeC)) : ∃ a cap, v = .slice a rs.length cap ∧ rs.length ≤ cap ∧ RowsAt w a rs := by
  rcases Nat.eq_zero_or_pos rs.length with h0 | hpos
  · obtain ⟨a, cap, rfl⟩ := own_head h
    exact ⟨a, cap, rfl, by omega, ⟨fun p hp => by omega⟩⟩
  · obtain ⟨g, cap, rfl, hcap, hg, hgl, hc⟩ := own_runes h hpos
    refine ⟨_, cap, rfl, hcap, ⟨fun p hp => ⟨g, rfl, ?_⟩⟩⟩
    have := hc p hp
    rwa [Nat.mul_comm] at this

set_option maxRecDepth 100000 in
set_option maxHeartbeats 4000000 in
theorem same_law (s : ByteArray) (m : Int) (w : World) (hW : IsWin w) (hg : 1 < w.heap.size) (hm : w.cell? ⟨1, 0, none⟩ = some (.int .i64 m)) (hs : s.size ≤ 140737488351232) :
    Calls Tryd.prog 4 #[.string s] w fun e w' => e = .returned (.bool true) ∧ Below w.heap.size w w' := by
  have HK : Hid _ := wakes_any m w hW hg hm
  have HW : Hid _ := hW
  have hsl : s.data.toList.length = s.size := by simp
  clear hW hg hm
  by_cases hbig : 5000 < s.size
  · have hbi : (5000 : Int) < (s.size : Int) := by omega
    clear HW
    go_enter Tryd.func4, Tryd.ntmps4
    go_wp2_with fail
    refine Calls.mono HK.out ?_
    rintro e w1 ⟨rfl, hb1⟩
    go_wp2
    go_ret
    exact ⟨rfl, hb1⟩
  have hbi : ¬ (5000 : Int) < (s.size : Int) := by omega
  have hsi : (s.size : Int) ≤ 5000 := by omega
  clear hs
  go_enter Tryd.func4, Tryd.ntmps4
  go_wp2_with fail
  refine Calls.mono HK.out ?_
  rintro e w1 ⟨rfl, hb1⟩
  have HR1 : Hid _ := read_any s 1 0 w1 (iswin_below HW.out hb1 (Nat.le_refl _)) (by omega) (by decide) (by decide)
  have HB1 : Hid _ := hb1
  clear hb1 HK
  go_wp2_with fail
  refine Calls.mono HR1.out ?_
  rintro e w2 ⟨va, rfl, hoa, hb2⟩
  have HR2 : Hid _ := read_any s 2 0 w2 (iswin_below (iswin_below HW.out HB1.out (Nat.le_refl _)) hb2 (Nat.le_refl _)) (by omega) (by decide) (by decide)
  have HB2 : Hid (Below w.heap.size w w2) := HB1.out.trans (hb2.mono HB1.out.size)
  have HOA : Hid _ := hoa
  obtain ⟨aa, capa, rfl⟩ := own_head hoa
  clear hb2 HR1 HB1 hoa
  go_wp2_with fail
  refine Calls.mono HR2.out ?_
  rintro e w3 ⟨vb, rfl, hob, hb3⟩
  have HB3 : Hid (Below w.heap.size w w3) := HB2.out.trans (hb3.mono HB2.out.size)
  obtain ⟨ab, capb, rfl, hcapb, hRB⟩ := rows_at hob
  obtain ⟨aa', capa', hva, hcapa, hRA⟩ := rows_at (own_below HOA.out hb3)
  injection hva with h1 _ h3
  subst h1 h3
  obtain ⟨N, hch, hN⟩ := read_chain 1 s.data.toList
  have HPS : Hid (plB s.data.toList s.data.toList.length = true → readR 1 0 s.data.toList = readR 2 0 s.data.toList ∧ readN 1 0 s.data.toList = 0) := fun h => plain_same _ (plB_end _ h)
  have HLA : Hid ((readR 1 0 s.data.toList).length ≤ 10001) := by show _ ≤ _; have := read_len 1 s.data.toList; omega
  rw [read_none]
  generalize readR 1 0 s.data.toList = A at *
  generalize readR 2 0 s.data.toList = B at *
  generalize readN 1 0 s.data.toList = na at *
  have HRA : Hid _ := hRA
  have HRB : Hid _ := hRB
  have HCH : Hid _ := hch
  have HN : Hid (N ≤ (s.size : Int)) := by show _ ≤ _; omega
  have HCA : Hid (A.length ≤ capa ∧ B.length ≤ capb) := ⟨hcapa, hcapb⟩
  rw [hsl] at HPS HCH
  have HSL : Hid _ := hsl
  clear hb3 HB2 hob HR2 HOA hcapa hcapb hRA hRB hch hN HW hbi hsl
  go_wp2
  go_loopw [7, 8] (fun p i wr => ∃ k : Nat, k ≤ s.size ∧ i = .int .i64 k ∧ p = .bool (plB s.data.toList k) ∧ wr = w3) (fun _ i _ => s.size - (intOf i).toNat)
  case atStart => exact ⟨0, Nat.zero_le _, rfl, rfl, rfl⟩
  case round =>
    obtain ⟨k, hk, rfl, rfl, rfl⟩ := hrel
    by_cases hlt : k < s.size
    · have hst := plB_step s.data.toList k (by rw [HSL.out]; exact hlt)
      have hge : s.data.toList[k]'(by rw [HSL.out]; exact hlt) = s[k] := by simp [ByteArray.getElem_eq_getElem_data]
      rw [hge] at hst
      have hcmp : decide (s[k] < 128) = decide ((s[k].toNat : Int) < 128) := by
        rw [Bool.eq_iff_iff]; simp [UInt8.lt_iff_toNat_lt]; omega
      rw [hcmp] at hst
      have HST : Hid _ := hst
      clear hst hge hcmp
      cases hp : plB s.data.toList k
      · have HE : Hid (plB s.data.toList (k + 1) = false) := by show _ = _; rw [HST.out, hp]; rfl
        clear hp HST
        go_wp2
        go_roundw
        case rel => exact ⟨k + 1, by omega, by go_num, by rw [HE.out], by simp⟩
        case measure => simp [intOf]; omega
      · have HE : Hid (plB s.data.toList (k + 1) = decide ((s[k].toNat : Int) < 128)) := by show _ = _; rw [HST.out, hp]; simp
        clear hp HST
        go_wp2
        go_roundw
        case rel => exact ⟨k + 1, by omega, by go_num, by rw [HE.out], by simp⟩
        case measure => simp [intOf]; omega
    · have hks : k = s.size := by omega
      subst hks
      clear hlt hk
      have HLS : Hid (s.size ≤ 5000) := by show _ ≤ _; omega
      cases hp : plB s.data.toList s.size
      · clear HPS hbig
        go_wp2
        go_loopw [9, 10] (fun a i wx => ∃ (j q : Nat) (at' : Int), j ≤ A.length ∧ i = .int .i64 j ∧ a = .int .i64 at' ∧ chain (s.size - 1) at' (A.drop j) = some N ∧ 0 ≤ at' ∧ wx = wr.drewN q) (fun _ i _ => A.length - (intOf i).toNat)
        case atStart => exact ⟨0, 0, 0, Nat.zero_le _, rfl, rfl, HCH.out, Int.le_refl _, rfl⟩
        case round =>
          obtain ⟨j, q, at', hj, rfl, rfl, hcj, h0, rfl⟩ := hrel
          have HCJ : Hid _ := hcj
          have H0 : Hid (0 ≤ at') := h0
          clear hcj h0
          by_cases hjl : j < A.length
          · obtain ⟨g, rfl, y0, y1⟩ := HRA.out.out j hjl
            have hx := HCJ.out
            rw [List.drop_eq_getElem_cons hjl] at hx
            obtain ⟨x1, x2, x3⟩ := chain_cons hx
            have HX : Hid _ := x3
            have hjI : (j : Int) < (A.length : Int) := by omega
            have hal : (A.length : Int) ≤ 10001 := by have := HLA.out; omega
            generalize A[j].2 = v1 at x1 x2 HX y1
            generalize A[j].1 = v0 at y0
            have z1 : decide (v1 < at') = false := by simpa using x1
            have z2 : -1 ≤ v1 := by have := H0.out; omega
            have z3 : v1 ≤ 5000 := by have := HLS.out; omega
            clear x1 x2 x3 hx
            go_wp2_with fail
            go_quiet (fail)
            go_wp2
            go_roundw
            case rel => exact ⟨j + 1, q + nq, v1 + 1, by omega, by go_num, rfl, HX.out, by omega, by simp⟩
            case measure => simp [intOf]; omega
          · have HE : Hid (at' = N) := by
              have h := HCJ.out
              rw [List.drop_eq_nil_of_le (by omega)] at h
              exact Option.some.inj h
            have hle : at' ≤ (s.size : Int) := by have := HE.out; have := HN.out; omega
            go_wp2
            go_ret
            exact ⟨rfl, drewN_below HB3.out _⟩
      · obtain ⟨rfl, rfl⟩ := HPS.out hp
        clear HPS hbig
        go_wp2
        go_loopw [9, 10] (fun a i wx => ∃ (j q : Nat) (at' : Int), j ≤ A.length ∧ i = .int .i64 j ∧ a = .int .i64 at' ∧ chain (s.size - 1) at' (A.drop j) = some N ∧ 0 ≤ at' ∧ wx = wr.drewN q) (fun _ i _ => A.length - (intOf i).toNat)
        case atStart => exact ⟨0, 0, 0, Nat.zero_le _, rfl, rfl, HCH.out, Int.le_refl _, rfl⟩
        case round =>
          obtain ⟨j, q, at', hj, rfl, rfl, hcj, h0, rfl⟩ := hrel
          have HCJ : Hid _ := hcj
          have H0 : Hid (0 ≤ at') := h0
          clear hcj h0
          by_cases hjl : j < A.length
          · obtain ⟨g, rfl, y0, y1⟩ := HRA.out.out j hjl
            obtain ⟨g', rfl, y0', y1'⟩ := HRB.out.out j hjl
            have hx := HCJ.out
            rw [List.drop_eq_getElem_cons hjl] at hx
            obtain ⟨x1, x2, x3⟩ := chain_cons hx
            have HX : Hid _ := x3
            have hjI : (j : Int) < (A.length : Int) := by omega
            have hjd : decide ((A.length : Int) ≤ (j : Int)) = false := by simp; omega
            have hal : (A.length : Int) ≤ 10001 := by have := HLA.out; omega
            generalize A[j].2 = v1 at x1 x2 HX y1 y1'
            generalize A[j].1 = v0 at y0 y0'
            have z1 : decide (v1 < at') = false := by simpa using x1
            have z2 : -1 ≤ v1 := by have := H0.out; omega
            have z3 : v1 ≤ 5000 := by have := HLS.out; omega
            clear x1 x2 x3 hx
            go_wp2_with fail
            go_quiet (fail)
            go_wp2
            go_roundw
            case rel => first | exact ⟨j + 1, q + nq, v1 + 1, by omega, by go_num, rfl, HX.out, by omega, by simp⟩ | ((repeat apply Exists.intro); exact ⟨⟨j + 1, q + nq, v1 + 1, by omega, by go_num, rfl, HX.out, by omega, by simp⟩, rfl⟩)
            case measure => simp [intOf]; omega
          · have HE : Hid (at' = N) := by
              have h := HCJ.out
              rw [List.drop_eq_nil_of_le (by omega)] at h
              exact Option.some.inj h
            have hle : at' ≤ (s.size : Int) := by have := HE.out; have := HN.out; omega
            go_wp2
            go_ret
            exact ⟨rfl, drewN_below HB3.out _⟩

theorem top_same (s : ByteArray) (w : World) (hs : s.size ≤ 140737488351232) (hsh : w.ShapedOpen Tryd.prog) (hW : IsWin w) :
    Calls Tryd.prog 4 #[.string s] w fun e w' => e = .returned (.bool true) ∧ Below w.heap.size w w' := by
  obtain ⟨m, hm⟩ := Tryd.maxlen w hsh
  exact same_law s m w hW (World.block_lt_of_cell? w _ hm) hm hs
end Go.Proofs.YtjfbogjpmieogacDoor
