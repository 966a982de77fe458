/-
  The text of steps: the reference's answer.
-/
import Derived.Test.YtjfbogjpmieogaaDoorPathProg
import Derived.Laws.BytesArg
namespace Go.Proofs.YtjfbogjpmieogaaDoor
open Go.RowKit

/-- What the digits ahead of those that are written are. -/
def aheadD (m : Nat) : List UInt8 := if m < 10 then [] else Lib.decDigits (m / 10)
theorem dec_last (m : Nat) : Lib.decDigits m = aheadD m ++ [UInt8.ofNat (48 + m % 10)] := by
  unfold aheadD
  split
  · rename_i h
    rw [dec_small m h, Nat.mod_eq_of_lt h]
    rfl
  · rename_i h
    exact dec_step m h

/-- A digit's sign. -/
def digB (d : Int) : UInt8 := UInt8.ofNat (48 + d.toNat)
theorem conv_dig (d : Int) (h0 : 0 ≤ d) (h9 : d < 10) (wx : World) :
    (convert 69 9 (.slice (some ⟨wx.heap.size, 0, none⟩) 1 1)).run Tryd.prog (wx.alloc (.cells #[.int .u8 (48 + d)] 5)) = .ok (.string ⟨#[digB d]⟩) (wx.alloc (.cells #[.int .u8 (48 + d)] 5)) := by
  have e : ((UInt8.ofNat (48 + d.toNat)).toNat : Int) = 48 + d := by
    have : (UInt8.ofNat (48 + d.toNat)).toNat = 48 + d.toNat := by
      rw [UInt8.toNat_ofNat']
      omega
    rw [this]
    omega
  have h := run_convert_bytes_back (P := Tryd.prog) (wx.alloc (.cells #[.int .u8 (48 + d)] 5)) 69 9 5 ⟨wx.heap.size, 0, none⟩ 1 [UInt8.ofNat (48 + d.toNat)] Tryd.underlying69 Tryd.underlying5 Tryd.underlying9 (fun j hj => by
    have hj0 : j = 0 := by simp at hj; omega
    subst hj0
    rw [show (⟨wx.heap.size, 0, none⟩ : Addr).add 0 = ⟨wx.heap.size, 0, none⟩ from rfl, World.cell?_alloc_at _ _ _ 0 rfl]
    rw [List.getElem_singleton, e]
    rfl)
  exact h

set_option maxRecDepth 100000 in
set_option maxHeartbeats 2000000 in
theorem digits_any (N : Nat) (hN : N < 9223372036854775808) (w : World) :
    Calls Tryd.prog 40 #[.int .i64 (N : Int)] w fun e w' => e = .returned (.string ⟨(Lib.decDigits N).toArray⟩) ∧ Below w.heap.size w w' := by
  have hNi : (N : Int) ≤ 9223372036854775807 := by omega
  have hc := conv_dig ((N : Int) % 10) (by omega) (by omega) w
  have HB : Hid (∀ o, Below w.heap.size w (w.alloc o)) := fun o => (Below.refl _ _).alloc (Nat.le_refl _) o
  have HST : Hid (Lib.decDigits N = aheadD N ++ [digB ((N : Int) % 10)]) := by
    show _ = _
    rw [dec_last N]
    rfl
  go_enter Tryd.func40, Tryd.ntmps40
  go_wp2
  clear hc
  go_loopw [0, 3] (fun n s wr => ∃ (m : Nat) (S : ByteArray), m ≤ N ∧ n = .int .i64 (m : Int) ∧ s = .string S ∧ Lib.decDigits N = aheadD m ++ S.data.toList ∧ Below w.heap.size w wr) (fun n _ _ => (intOf n).toNat)
  case atStart => exact ⟨N, _, Nat.le_refl _, rfl, rfl, HST.out, HB.out _⟩
  case round =>
    clear HST HB
    obtain ⟨m, S, hm, rfl, rfl, hL, hbr⟩ := hrel
    have HL : Hid _ := hL
    have HBR : Hid _ := hbr
    have hS : S.size ≤ 19 := by
      have h1 := dec_len 18 N (by simp; omega)
      rw [hL, List.length_append] at h1
      have h2 : S.data.toList.length = S.size := by simp
      omega
    clear hL hbr
    by_cases h9 : 9 < m
    · have h9i : (9 : Int) < (m : Int) := by omega
      have hc := conv_dig ((m : Int) / 10 % 10) (by omega) (by omega) wr
      have HN : Hid (Lib.decDigits N = aheadD (m / 10) ++ ((⟨#[digB ((m : Int) / 10 % 10)]⟩ : ByteArray) ++ S).data.toList ∧ m / 10 ≤ N ∧ m / 10 < m) := by
        refine ⟨?_, by omega, by omega⟩
        rw [HL.out]
        have e : aheadD m = Lib.decDigits (m / 10) := by unfold aheadD; rw [if_neg (by omega)]
        have e2 : digB ((m : Int) / 10 % 10) = UInt8.ofNat (48 + m / 10 % 10) := by
          unfold digB
          congr 1
        rw [e, dec_last (m / 10), e2]
        simp
      have HBN : Hid (∀ o, Below w.heap.size w (wr.alloc o)) := fun o => HBR.out.alloc HBR.out.size o
      clear HL HBR
      go_wp2
      go_roundw
      case rel => exact ⟨m / 10, _, HN.out.2.1, by go_num, rfl, HN.out.1, HBN.out _⟩
      case measure => simp [intOf]; omega
    · have h9i : ¬ (9 : Int) < (m : Int) := by omega
      have HE : Hid (⟨(Lib.decDigits N).toArray⟩ = S) := by
        show _ = _
        rw [HL.out]
        unfold aheadD
        rw [if_pos (by omega)]
        rfl
      clear HL
      go_wp2
      go_ret
      rw [HE.out]
      exact ⟨rfl, HBR.out⟩

/-- How far the reference has come. -/
structure RPathAt (w wr : World) (k : Nat) (Z : List Int) (S : ByteArray) : Prop where
  txt : S.data.toList = catL ((Z.take k).map Int.toNat)
  pos : ∀ z ∈ Z.take k, 0 ≤ z
  below : Below w.heap.size w wr

set_option maxRecDepth 100000 in
set_option maxHeartbeats 2000000 in
theorem rPath_any (za : Option Addr) (zcap : Nat) (Z : List Int) (w : World) (hZ : IntsAt w za Z) (hn : Z.length ≤ 1048576) (hwf : ∀ z ∈ Z, -9223372036854775808 ≤ z ∧ z < 9223372036854775808) :
    Calls Tryd.prog 22 #[.slice za Z.length zcap] w fun e w' => e = .returned (.string ⟨(pathS Z).toArray⟩) ∧ Below w.heap.size w w' := by
  have HZ : Hid _ := hZ
  have HWF : Hid _ := hwf
  have hni : (Z.length : Int) ≤ 1048576 := by omega
  clear hZ hwf
  go_enter Tryd.func22, Tryd.ntmps22
  go_wp2
  go_loopw [3, 4] (fun s i wr => ∃ (k : Nat) (S : ByteArray), k ≤ Z.length ∧ i = .int .i64 k ∧ s = .string S ∧ RPathAt w wr k Z S) (fun _ i _ => Z.length - (intOf i).toNat)
  case atStart => exact ⟨0, _, Nat.zero_le _, rfl, rfl, ⟨rfl, by simp, Below.refl _ _⟩⟩
  case round =>
    obtain ⟨k, S, hk, rfl, rfl, hA⟩ := hrel
    have HA : Hid _ := hA
    have hcl := cat_len ((Z.take k).map Int.toNat) (wf_nat Z (fun z hz => (HWF.out z hz).2) k)
    have hS : S.size ≤ 20971520 := by
      have h2 : S.data.toList.length = S.size := by simp
      rw [hA.txt] at h2
      have : ((Z.take k).map Int.toNat).length ≤ k := by simp; omega
      omega
    clear hA hcl
    by_cases hlt : k < Z.length
    · obtain ⟨ad, rfl, cz⟩ := (HZ.out.later HA.out.below).out k hlt
      have hzb := HWF.out Z[k] (List.getElem_mem hlt)
      obtain ⟨z, hz⟩ : ∃ z, Z[k] = z := ⟨_, rfl⟩
      rw [hz] at cz hzb
      have HZE : Hid (Z[k] = z) := hz
      clear hz
      by_cases hneg : z < 0
      · have HE : Hid (pathS Z = []) := by
          show _ = _
          unfold pathS
          rw [if_neg (fun h => by rw [h] at hlt; exact absurd hlt (by simp)), if_neg]
          intro h
          rw [List.all_eq_true] at h
          have := h Z[k] (List.getElem_mem hlt)
          rw [HZE.out] at this
          simp at this
          omega
        go_wp2
        go_ret
        rw [HE.out]
        exact ⟨rfl, HA.out.below⟩
      · obtain ⟨n, rfl⟩ : ∃ n : Nat, z = (n : Int) := ⟨z.toNat, by omega⟩
        have HD : Hid _ := digits_any n (by omega) wr
        have hdl := dec_len 18 n (by simp; omega)
        have hD : (⟨(Lib.decDigits n).toArray⟩ : ByteArray).size ≤ 19 := by rw [text_toArray]; exact hdl
        obtain ⟨D, hDe⟩ : ∃ D : ByteArray, ⟨(Lib.decDigits n).toArray⟩ = D := ⟨_, rfl⟩
        rw [hDe] at HD hD
        have HDE : Hid (D.data.toList = Lib.decDigits n) := by show _ = _; rw [← hDe]
        have HN : Hid (∀ wx, Below wr.heap.size wr wx → RPathAt w wx (k + 1) Z (S ++ ((⟨#[47]⟩ : ByteArray) ++ D))) := fun wx hb => by
          refine ⟨?_, ?_, HA.out.below.trans (hb.mono HA.out.below.size)⟩
          · rw [take_next Z k hlt, List.map_append, HZE.out, List.map_singleton, cat_snoc, ← HA.out.txt]
            simp [HDE.out]
          · intro y hy
            rw [take_next Z k hlt, List.mem_append, HZE.out] at hy
            rcases hy with hy | hy
            · exact HA.out.pos y hy
            · rw [List.mem_singleton] at hy
              omega
        have h47 : (⟨#[47]⟩ : ByteArray).size = 1 := rfl
        clear hdl hDe HDE
        go_wp2_with fail
        refine Calls.mono HD.out ?_
        rintro e w1 ⟨rfl, hb1⟩
        have HN1 : Hid _ := HN.out w1 hb1
        clear hb1 HN HD HA
        go_wp2
        go_roundw
        case rel => exact ⟨k + 1, _, by omega, by go_num, rfl, HN1.out⟩
        case measure => simp [intOf]; omega
    · have hkz : k = Z.length := by omega
      subst hkz
      have hall : ∀ z ∈ Z, 0 ≤ z := fun z hz => HA.out.pos z (by rw [List.take_length]; exact hz)
      have htx := HA.out.txt
      rw [List.take_length] at htx
      clear hlt hk
      by_cases h0 : Z = []
      · subst h0
        obtain rfl : S = ⟨#[]⟩ := by
          apply ByteArray.ext
          apply Array.toList_inj.1
          rw [htx]
          rfl
        clear htx hall
        go_wp2
        go_ret
        exact ⟨rfl, HA.out.below⟩
      · have hem : S.toList.isEmpty = false := by
          have e : S.toList = S.data.toList := by simp [ByteArray.toList_eq]
          rw [e, htx]
          cases hc : catL (Z.map Int.toNat) with
          | nil => rw [cat_nil] at hc; simp at hc; exact absurd hc h0
          | cons a l => rfl
        have HE : Hid (⟨(pathS Z).toArray⟩ = S) := by
          show _ = _
          unfold pathS
          rw [if_neg h0, if_pos (by rw [List.all_eq_true]; intro z hz; simpa using hall z hz), ← htx]
        clear htx hall h0
        go_wp2
        go_ret
        rw [HE.out]
        exact ⟨rfl, HA.out.below⟩
end Go.Proofs.YtjfbogjpmieogaaDoor
