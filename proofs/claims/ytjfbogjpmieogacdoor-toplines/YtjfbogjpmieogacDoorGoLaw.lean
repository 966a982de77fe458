/-
  TopLines: going through a document scalar by scalar lines and columns go on by one, or begin anew behind a newline: the law's walk.
-/
import Derived.Test.YtjfbogjpmieogacDoorGoPlain
import Derived.Test.YtjfbogjpmieogacDoorStirs
namespace Go.Proofs.YtjfbogjpmieogacDoor
open Go.RowKit

/-- Where a row of scalars stands. -/
structure RunesAt (w : World) (a : Option Addr) (rs : List (Int × Int)) : Prop where
  out : ∀ p, (hp : p < rs.length) → ∃ g, a = some ⟨g, 0, none⟩ ∧ w.cell? ⟨g, p * 2, none⟩ = some (.int .i64 rs[p].1) ∧ w.cell? ⟨g, p * 2 + 1, none⟩ = some (.int .i64 rs[p].2)
theorem RunesAt.later {w w' : World} {a : Option Addr} {rs : List (Int × Int)} (h : RunesAt w a rs) (hb : Below w.heap.size w w') : RunesAt w' a rs := ⟨fun p hp => by
  obtain ⟨g, e, h1, h2⟩ := h.out p hp
  exact ⟨g, e, cell_later h1 hb, cell_later h2 hb⟩⟩
theorem runes_at {w : World} {base : Nat} {e : TypeId} {v : Value} {rs : List (Int × Int)} (h : w.ownsRow base e 2 v rs.length (rs.flatMap runeC)) : ∃ a cap, v = .slice a rs.length cap ∧ RunesAt w a rs := by
  rcases Nat.eq_zero_or_pos rs.length with h0 | hpos
  · obtain ⟨a, cap, rfl⟩ := own_head h
    exact ⟨a, cap, rfl, ⟨fun p hp => by omega⟩⟩
  · obtain ⟨g, cap, rfl, hcap, hg, hgl, hc⟩ := own_runes h hpos
    refine ⟨_, cap, rfl, ⟨fun p hp => ⟨g, rfl, ?_⟩⟩⟩
    have := hc p hp
    rwa [Nat.mul_comm] at this

set_option maxRecDepth 100000 in
set_option maxHeartbeats 4000000 in
theorem lines_law (s : ByteArray) (c m : Int) (w : World) (hW : IsWin w) (hg : 1 < w.heap.size) (hm : w.cell? ⟨1, 0, none⟩ = some (.int .i64 m)) (hs : s.size ≤ 140737488351232) :
    Calls Tryd.prog 5 #[.string s, .int .i64 c] w fun e w' => e = .returned (.bool true) ∧ Below w.heap.size w w' := by
  have HK : Hid _ := stirs_any m w hW hg hm
  have HW : Hid _ := hW
  have hsl : s.data.toList.length = s.size := by simp
  clear hW hg hm
  by_cases hbig : 2000 < s.size
  · have hbi : (2000 : Int) < (s.size : Int) := by omega
    clear HW
    go_enter Tryd.func5, Tryd.ntmps5
    go_wp2_with fail
    refine Calls.mono HK.out ?_
    rintro e w1 ⟨rfl, hb1⟩
    go_wp2
    go_ret
    exact ⟨rfl, hb1⟩
  have hbi : ¬ (2000 : Int) < (s.size : Int) := by omega
  have hsi : (s.size : Int) ≤ 2000 := by omega
  have HLI : Hid _ := read_lined c s.data.toList
  have hrl := read_len c s.data.toList
  rw [hsl] at HLI hrl
  clear hs
  go_enter Tryd.func5, Tryd.ntmps5
  go_wp2_with fail
  refine Calls.mono HK.out ?_
  rintro e w1 ⟨rfl, hb1⟩
  have HR1 : Hid _ := read_any s c 0 w1 (iswin_below HW.out hb1 (Nat.le_refl _)) (by omega) (by decide) (by decide)
  have HB1 : Hid _ := hb1
  clear hb1 HK
  go_wp2_with fail
  refine Calls.mono HR1.out ?_
  rintro e w2 ⟨va, rfl, hoa, hb2⟩
  have HB2 : Hid (Below w.heap.size w w2) := HB1.out.trans (hb2.mono HB1.out.size)
  generalize readR c 0 s.data.toList = R at *
  generalize readN c 0 s.data.toList = na at *
  have HLR : Hid (R.length ≤ 4001) := by show _ ≤ _; omega
  have HN : Hid _ := Pl.new_row _ _ R w2 hoa (by omega)
  obtain ⟨aa, capa, rfl, hRA⟩ := runes_at hoa
  have HRA : Hid _ := hRA
  clear hb2 HR1 HB1 hoa hRA HW hsl hbi hbig hrl
  go_wp2_with fail
  refine Calls.mono HN.out ?_
  rintro e w3 ⟨rfl, hb3, vb, hT⟩
  have HRA3 : Hid _ := HRA.out.later hb3
  have HT : Hid _ := hT
  have HB3 : Hid (Below w.heap.size w w3) := HB2.out.trans (hb3.mono HB2.out.size)
  obtain ⟨t, ht⟩ : ∃ t, w2.heap.size = t := ⟨_, rfl⟩
  rw [ht] at HT ⊢
  clear hb3 hT HRA HB2 HN ht
  go_wp2
  go_loopw [8, 9, 10, 11, 12] (fun ln cl i _ _ wr => ∃ k : Nat, k ≤ R.length ∧ i = .int .i64 k ∧ ln = .int .i64 (Pl.lineCol ((R.map (·.1)).take k)).1 ∧ cl = .int .i64 (Pl.lineCol ((R.map (·.1)).take k)).2 ∧ Below w3.heap.size w3 wr) (fun _ _ i _ _ _ => R.length - (intOf i).toNat)
  case atStart => exact ⟨0, Nat.zero_le _, rfl, rfl, rfl, Below.refl _ _⟩
  case round =>
    obtain ⟨k, hk, rfl, rfl, rfl, hbr⟩ := hrel
    have HBR : Hid _ := hbr
    clear hbr
    have hal : (R.length : Int) ≤ 4001 := by have := HLR.out; omega
    obtain ⟨b1, b2, b3, b4⟩ := line_bd ((R.map (·.1)).take k)
    have hlk : ((R.map (·.1)).take k).length = k := by simp; omega
    rw [hlk] at b3 b4
    clear hlk
    by_cases hlt : k < R.length
    · obtain ⟨g, rfl, y0, y1⟩ := (HRA3.out.later HBR.out).out k hlt
      have hA := Pl.at_any _ _ _ _ _ R[k].2 wr (HT.out.later HBR.out) HLI.out.rise (by have := HLR.out; omega)
      rw [HLI.out.at' k hlt] at hA
      have hnx := line_next R k hlt
      have hno := HLI.out.no k hlt
      have hkI : (k : Int) < (R.length : Int) := by omega
      generalize R[k].1 = v0 at y0 hnx hno
      generalize R[k].2 = v1 at y1 hA
      have HNX : Hid _ := hnx
      have HA : Hid _ := hA
      have HY : Hid _ := y0
      have h13 : (v0 == 13) = false := by simpa using hno
      generalize (Pl.lineCol ((R.map (·.1)).take k)) = LC at *
      obtain ⟨ln, cl⟩ := LC
      simp only at b1 b2 b3 b4 HA HNX
      clear hA hnx hno y0
      go_wp2_with fail
      refine Calls.mono HA.out ?_
      rintro e w4 ⟨rfl, hb4⟩
      have HB4 : Hid (Below w3.heap.size w3 w4) := HBR.out.trans (hb4.mono HBR.out.size)
      have y4 := cell_later HY.out hb4
      clear hb4 HA HY y1 HBR
      by_cases hv : v0 = 10
      · subst hv
        have hE : Pl.lineCol ((R.map (·.1)).take (k + 1)) = (ln + 1, 1) := by rw [HNX.out]; simp [Pl.stepLC]
        have HE : Hid _ := hE
        clear hE HNX
        go_wp2
        go_roundw
        case rel => exact ⟨k + 1, by omega, by go_num, by rw [HE.out], by rw [HE.out], HB4.out⟩
        case measure => simp [intOf]; omega
      · have hv10 : (v0 == 10) = false := by simpa using hv
        have hE : Pl.lineCol ((R.map (·.1)).take (k + 1)) = (ln, cl + 1) := by rw [HNX.out]; simp [Pl.stepLC, hv]
        have HE : Hid _ := hE
        clear hE HNX hv
        go_wp2
        go_roundw
        case rel => exact ⟨k + 1, by omega, by go_num, by rw [HE.out], by rw [HE.out], HB4.out⟩
        case measure => simp [intOf]; omega
    · have hkR : k = R.length := by omega
      subst hkR
      have hA := Pl.at_any _ _ _ _ _ ((s.size : Int) + 1) wr (HT.out.later HBR.out) HLI.out.rise (by have := HLR.out; omega)
      rw [HLI.out.all] at hA
      have HA : Hid _ := hA
      generalize (Pl.lineCol ((R.map (·.1)).take R.length)) = LC at *
      obtain ⟨ln, cl⟩ := LC
      simp only at HA
      clear hA hlt hk
      go_wp2_with fail
      refine Calls.mono HA.out ?_
      rintro e w4 ⟨rfl, hb4⟩
      have HB4 : Hid (Below w.heap.size w w4) := HB3.out.trans ((HBR.out.trans (hb4.mono HBR.out.size)).mono HB3.out.size)
      clear hb4 HA HBR
      go_wp2
      go_ret
      exact ⟨rfl, HB4.out⟩

theorem top_lines (s : ByteArray) (c : Int) (w : World) (hs : s.size ≤ 140737488351232) (hsh : w.ShapedOpen Tryd.prog) (hW : IsWin w) :
    Calls Tryd.prog 5 #[.string s, .int .i64 c] w fun e w' => e = .returned (.bool true) ∧ Below w.heap.size w w' := by
  obtain ⟨m, hm⟩ := Tryd.maxlen w hsh
  exact lines_law s c m w hW (World.block_lt_of_cell? w _ hm) hm hs
end Go.Proofs.YtjfbogjpmieogacDoor
