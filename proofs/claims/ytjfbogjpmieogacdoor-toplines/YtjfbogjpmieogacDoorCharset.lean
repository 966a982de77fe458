/-
  charsetValue and Charset of the program.
-/
import Derived.Test.YtjfbogjpmieogacDoorCharPlain
import Derived.Test.YtjfbogjpmieogacDoorScan
import Derived.Test.YtjfbogjpmieogacDoorShelf
namespace Go.Proofs.YtjfbogjpmieogacDoor.Sn
open Go.RowKit

theorem cs_blanks : ∀ (j : Nat) b, (⟨#[9, 10, 12, 13, 32]⟩ : ByteArray).data.toList[j]? = some b → b.toNat < 128 := by
  intro j b hb
  have hm := List.mem_of_getElem? hb
  have h : ∀ x ∈ (⟨#[9, 10, 12, 13, 32]⟩ : ByteArray).data.toList, x.toNat < 128 := by decide
  exact h b hm

theorem cs_upTo (s set : ByteArray) (a : Int) (r : Nat) (w : World) (hs : s.size ≤ maxLen) (h0 : 0 ≤ a) (h1 : a ≤ s.size) (hr : scan (fun c => !inSet set.data.toList c) s.data.toList a.toNat = r) :
    Calls Tryd.prog 28 #[.string s, .int .i64 a, .string set] w fun e w' => e = .returned (.int .i64 r) ∧ w = w' := by
  obtain ⟨k, rfl⟩ := Int.eq_ofNat_of_zero_le h0
  rw [← hr]
  exact (upTo_any s set k w hs (by omega)).mono fun e w' h => ⟨h.1, h.2.symm⟩
theorem cs_passOver (s set : ByteArray) (a : Int) (r : Nat) (w : World) (hs : s.size ≤ maxLen) (h0 : 0 ≤ a) (h1 : a ≤ s.size) (hr : scan (inSet set.data.toList) s.data.toList a.toNat = r) :
    Calls Tryd.prog 63 #[.string s, .int .i64 a, .string set] w fun e w' => e = .returned (.int .i64 r) ∧ w = w' := by
  obtain ⟨k, rfl⟩ := Int.eq_ofNat_of_zero_le h0
  rw [← hr]
  exact (passOver_any s set k w hs (by omega)).mono fun e w' h => ⟨h.1, h.2.symm⟩

/-- The trimmed text. -/
theorem trimLeft_to (t q : ByteArray) (w : World) (hq : (⟨(Lib.trimLeftS t.data.toList [9, 10, 12, 13, 32]).toArray⟩ : ByteArray) = q) :
    Calls Tryd.prog 87 #[.string t, .string ⟨#[9, 10, 12, 13, 32]⟩] w fun e w' => e = .returned (.string q) ∧ Below w.heap.size w w' := by
  rw [← hq]
  exact Tryd.strings_TrimLeft_laid t ⟨#[9, 10, 12, 13, 32]⟩ w (by decide) cs_blanks

set_option maxRecDepth 100000 in
set_option maxHeartbeats 1000000 in
theorem charsetValue_q (t q : ByteArray) (w : World) (hq : (⟨(Lib.trimLeftS t.data.toList [9, 10, 12, 13, 32]).toArray⟩ : ByteArray) = q) (hs : q.size ≤ maxLen) :
    Calls Tryd.prog 81 #[.string t] w fun e w' => e = .returned (.tuple #[.string (valQ q).1, .bool (valQ q).2]) ∧ Below w.heap.size w w' := by
  have HQ : Hid ((⟨(Lib.trimLeftS t.data.toList [9, 10, 12, 13, 32]).toArray⟩ : ByteArray) = q) := hq
  clear hq
  generalize hV : valQ q = V
  have HV : Hid (valQ q = V) := hV
  clear hV
  by_cases h0 : 0 < q.size
  · have hem : q.toList.isEmpty = false := by
      rw [Lib.toList_data]
      cases h : q.data.toList with
      | nil => have : q.data.toList.length = q.size := by simp
               rw [h] at this
               simp at this
               omega
      | cons => rfl
    go_enter Tryd.func81, Tryd.ntmps81
    go_wp2_with fail
    refine (trimLeft_to _ q _ (by exact HQ.out)).mono ?_
    rintro e w1 ⟨rfl, hb1⟩
    go_wp2_with fail
    refine (isQuote_any q[0] _).mono ?_
    rintro e w2 ⟨rfl, rfl⟩
    cases hqu : quoteB q[0]
    · obtain ⟨r, hrd⟩ : ∃ r, scan pSemi q.data.toList 0 = r := ⟨_, rfl⟩
      have HR : Hid (scan pSemi q.data.toList 0 = r) := hrd
      have hrs : r ≤ q.size := by have := scan_le pSemi q.data.toList 0 (Nat.zero_le _); have h : q.data.toList.length = q.size := by simp
                                  omega
      clear hrd
      have HE : Hid (V = (q.extract 0 r, true)) := by
        show _ = _
        rw [← HV.out]
        simp [valQ, h0, hqu, HR.out]
      go_wp2_with fail
      refine (cs_upTo _ _ _ r _ hs (by omega) (by omega) (by exact HR.out)).mono ?_
      rintro e w3 ⟨rfl, rfl⟩
      go_wp2
      go_ret2
      rw [HE.out]
      exact ⟨rfl, hb1⟩
    · by_cases hi : qIdx q h0 < 0
      · have HE : Hid (V = (⟨#[]⟩, false)) := by
          show _ = _
          rw [← HV.out]
          simp [valQ, h0, hqu, hi]
        have HI : Hid (qIdx q h0 < 0) := hi
        clear hi
        go_wp2_with fail
        refine (quoted_no q _ h0 hs HI.out).mono ?_
        rintro e w3 ⟨rfl, hb3⟩
        go_wp2
        go_ret2
        rw [HE.out]
        exact ⟨rfl, hb1.trans (hb3.mono hb1.size)⟩
      · obtain ⟨i, hid⟩ : ∃ i : Nat, qIdx q h0 = i := Int.eq_ofNat_of_zero_le (by omega)
        have HE : Hid (V = (q.extract 1 (1 + i), true)) := by
          show _ = _
          rw [← HV.out]
          simp [valQ, h0, hqu, hid]
        have HI : Hid (qIdx q h0 = (i : Int)) := hid
        have hil : i + 1 < q.size := by
          unfold qIdx at hid
          have := (List.getElem?_eq_some_iff.1 (Lib.indexByte_some hid).1).1
          simp at this
          omega
        clear hid hi
        go_wp2_with fail
        refine (quoted_yes q i _ h0 hs HI.out hil).mono ?_
        rintro e w3 ⟨rfl, hb3⟩
        go_wp2
        go_ret2
        rw [HE.out]
        exact ⟨rfl, hb1.trans (hb3.mono hb1.size)⟩
  · have hem : q.toList.isEmpty = true := by
      rw [Lib.toList_data]
      have : q.data.toList.length = q.size := by simp
      rw [List.isEmpty_iff, ← List.length_eq_zero_iff]
      omega
    have HE : Hid (V = (⟨#[]⟩, false)) := by
      show _ = _
      rw [← HV.out]
      simp [valQ, h0]
    go_enter Tryd.func81, Tryd.ntmps81
    go_wp2_with fail
    refine (trimLeft_to _ q _ (by exact HQ.out)).mono ?_
    rintro e w1 ⟨rfl, hb1⟩
    go_wp2
    go_ret2
    rw [HE.out]
    exact ⟨rfl, hb1⟩

theorem valQ_trim (s : ByteArray) (k : Nat) : (⟨(Lib.trimLeftS (s.extract k s.size).data.toList [9, 10, 12, 13, 32]).toArray⟩ : ByteArray) = s.extract (scan pB s.data.toList k) s.size := by
  rw [trimLeft_scan, Lib.extract_to_end]
  have e := scan_drop pB s.data.toList k 0
  rw [Nat.add_zero] at e
  apply ByteArray.ext
  apply Array.toList_inj.1
  rw [Lib.extract_to_end, List.drop_drop, ← e, Nat.add_comm]

theorem charsetValue_to (s : ByteArray) (k : Nat) (V : ByteArray × Bool) (w : World) (hs : s.size ≤ maxLen) (hk : k ≤ s.size) (hV : valC s k = V) :
    Calls Tryd.prog 81 #[.string (s.extract k s.size)] w fun e w' => e = .returned (.tuple #[.string V.1, .bool V.2]) ∧ Below w.heap.size w w' := by
  have hp := scan_le pB s.data.toList k (by simp; exact hk)
  have hl : s.data.toList.length = s.size := by simp
  have hfix : scan pB s.data.toList (scan pB s.data.toList k) = scan pB s.data.toList k := by
    by_cases h : scan pB s.data.toList k < s.data.toList.length
    · exact scan_stop _ _ _ h (scan_at _ _ _ h)
    · exact scan_end _ _ _ (by omega)
  have := charsetValue_q (s.extract k s.size) _ w (valQ_trim s k) (by simp; omega)
  rw [valQ_eq s _ (by omega) hfix, valC_scan, hV] at this
  exact this

theorem lowS_drop (s : ByteArray) (k : Nat) : ((lowS s).extract k (lowS s).size).data.toList = (low s.data.toList).drop k := by
  rw [Lib.extract_to_end]
  rfl

theorem index_to (s : ByteArray) (k : Nat) (m r : Int) (w : World) (hs : s.size < 4294967281) (hm : w.cell? ⟨1, 0, none⟩ = some (.int .i64 m)) (hr : Lib.index ((low s.data.toList).drop k) wordC = r) :
    Calls Tryd.prog 42 #[.string ((lowS s).extract k (lowS s).size), .string ⟨#[99, 104, 97, 114, 115, 101, 116]⟩] w fun e w' => e = .returned (.int .i64 r) ∧ w = w' := by
  have h := Tryd.strings_Index ((lowS s).extract k (lowS s).size) ⟨#[99, 104, 97, 114, 115, 101, 116]⟩ m w (by have := lowS_size s; simp; omega) hm
  rw [lowS_drop] at h
  rw [← hr]
  exact h.mono fun e w' h => ⟨h.1, h.2.symm⟩

theorem charL_succ (s : ByteArray) (n k : Nat) : charL s (n + 1) k =
    (if findC s (s.size - k) k < s.size then
      (if h : scan pB s.data.toList (findC s (s.size - k) k + 7) < s.size then (if s[scan pB s.data.toList (findC s (s.size - k) k + 7)] == 61 then valC s (scan pB s.data.toList (findC s (s.size - k) k + 7) + 1) else charL s n (scan pB s.data.toList (findC s (s.size - k) k + 7)))
       else charL s n (scan pB s.data.toList (findC s (s.size - k) k + 7)))
    else (⟨#[]⟩, false)) := rfl

theorem byteI (c : UInt8) (n : Nat) (hn : n < 256) : ((c.toNat : Int) == (n : Int)) = (c == UInt8.ofNat n) := by
  rw [Bool.eq_iff_iff]
  simp only [beq_iff_eq]
  constructor
  · intro h
    have : c.toNat = n := by omega
    rw [← this]
    simp
  · intro h
    rw [h]
    simp
    omega

set_option maxRecDepth 100000 in
set_option maxHeartbeats 1000000 in
theorem charset_any (s : ByteArray) (m : Int) (w : World) (hs : s.size < 4294967281) (hg : 1 < w.heap.size) (hm : w.cell? ⟨1, 0, none⟩ = some (.int .i64 m)) :
    Calls Tryd.prog 66 #[.string s] w fun e w' => e = .returned (.tuple #[.string (charF s).1, .bool (charF s).2]) ∧ Below w.heap.size w w' := by
  have hmx : s.size ≤ maxLen := by unfold maxLen; omega
  generalize hV : charF s = V
  have HV : Hid (charL s (s.size + 1) 0 = V) := hV
  clear hV
  have hls := lowS_size s
  have HLS : Hid ((lowS s).size = s.size) := hls
  have hl1 : (lowS s).size ≤ s.size := by omega
  have hl2 : s.size ≤ (lowS s).size := by omega
  clear hls
  have HL : Hid (s.data.toList.length = s.size) := by show _ = _; simp
  go_enter Tryd.func66, Tryd.ntmps66
  go_wp2_with fail
  refine (small_any _ _ hmx).mono ?_
  rintro e w1 ⟨rfl, hb1⟩
  have HM : Hid (w1.cell? ⟨1, 0, none⟩ = some (.int .i64 m)) := by
    show _ = _
    rw [hb1.cell (p := ⟨1, 0, none⟩) hg]
    exact hm
  clear hm
  go_wp2
  go_loop [5] (fun i => ∃ k n : Nat, k ≤ s.size ∧ i = .int .i64 k ∧ s.size < k + n ∧ charL s n k = V) (fun i => s.size - (intOf i).toNat)
  case atStart => exact ⟨0, s.size + 1, Nat.zero_le _, rfl, by omega, HV.out⟩
  case round =>
    obtain ⟨k, n, hk, rfl, hn, hch⟩ := hrel
    obtain ⟨n', rfl⟩ : ∃ n', n = n' + 1 := ⟨n - 1, by omega⟩
    have HC : Hid (charL s (n' + 1) k = V) := hch
    clear hch
    obtain ⟨j, hjd⟩ : ∃ j, findC s (s.size - k) k = j := ⟨_, rfl⟩
    have HI := findC_index s (s.size - k) k rfl hk
    rw [hjd] at HI
    have HI' : Hid (Lib.index ((low s.data.toList).drop k) wordC = if j < s.size then ((j - k : Nat) : Int) else -1) := HI
    have hjk : k ≤ j := by rw [← hjd]; exact findC_ge s _ k hk
    have HJ : Hid (findC s (s.size - k) k = j) := hjd
    clear HI hjd
    by_cases hj : j < s.size
    · have hroom : j + 7 ≤ s.size := occC_room (by rw [← HJ.out]; exact findC_occ s _ k (by rw [HJ.out]; exact hj))
      have HR : Hid (Lib.index ((low s.data.toList).drop k) wordC = ((j - k : Nat) : Int)) := by
        have := HI'.out
        rw [if_pos hj] at this
        exact this
      obtain ⟨p, hpd⟩ : ∃ p, scan pB s.data.toList (j + 7) = p := ⟨_, rfl⟩
      have hp0 : j + 7 ≤ p := by have := scan_ge pB s.data.toList (j + 7); omega
      have hp1 : p ≤ s.size := by have := scan_le pB s.data.toList (j + 7) (by have := HL.out; omega); have := HL.out; omega
      have HP : Hid (scan pB s.data.toList (j + 7) = p) := hpd
      clear hpd HI'
      have hneg : ¬ ((j - k : Nat) : Int) < 0 := by omega
      go_wp2_with fail
      refine (index_to _ _ m ((j - k : Nat) : Int) _ hs (by exact HM.out) (by exact HR.out)).mono ?_
      rintro e w' ⟨rfl, rfl⟩
      go_wp2_with fail
      refine (cs_passOver _ _ _ p _ hmx (by omega) (by omega) (by rw [show ((k : Int) + ((j - k : Nat) : Int) + 7).toNat = j + 7 by omega]; exact HP.out)).mono ?_
      rintro e w' ⟨rfl, rfl⟩
      have HS := charL_succ s n' k
      have HS' : Hid (charL s (n' + 1) k = (if h : p < s.size then (if s[p] == 61 then valC s (p + 1) else charL s n' p) else charL s n' p)) := by
        rw [HJ.out, if_pos hj] at HS
        simp only [HP.out] at HS
        exact HS
      clear HS
      by_cases hps : p < s.size
      · cases h61 : (s[p] == 61)
        · have h61' : ((s[p].toNat : Int) == 61) = false := (byteI s[p] 61 (by decide)).trans h61
          have HX : Hid (charL s n' p = V) := by
            show _ = _
            rw [← HC.out, HS'.out, dif_pos hps, h61]
            rfl
          go_wp2
          go_round
          case rel => exact ⟨p, n', hp1, by go_num, by omega, HX.out⟩
          case measure => simp [intOf]; omega
        · have h61' : ((s[p].toNat : Int) == 61) = true := (byteI s[p] 61 (by decide)).trans h61
          have HX : Hid (valC s (p + 1) = V) := by
            show _ = _
            rw [← HC.out, HS'.out, dif_pos hps, h61]
            rfl
          go_wp2_with fail
          refine (charsetValue_to _ (p + 1) V _ hmx (by omega) (by exact HX.out)).mono ?_
          rintro e w2 ⟨rfl, hb2⟩
          go_wp2
          go_ret2
          exact ⟨rfl, hb1.trans (hb2.mono hb1.size)⟩
      · have HX : Hid (charL s n' p = V) := by
          show _ = _
          rw [← HC.out, HS'.out, dif_neg hps]
        go_wp2
        go_round
        case rel => exact ⟨p, n', hp1, by go_num, by omega, HX.out⟩
        case measure => simp [intOf]; omega
    · have HR : Hid (Lib.index ((low s.data.toList).drop k) wordC = -1) := by
        have := HI'.out
        rw [if_neg hj] at this
        exact this
      have HX : Hid (V = (⟨#[]⟩, false)) := by
        show _ = _
        rw [← HC.out, charL_succ, HJ.out, if_neg hj]
      go_wp2_with fail
      refine (index_to _ _ m (-1) _ hs (by exact HM.out) (by exact HR.out)).mono ?_
      rintro e w' ⟨rfl, rfl⟩
      go_wp2
      go_ret2
      rw [HX.out]
      exact ⟨rfl, hb1⟩
end Go.Proofs.YtjfbogjpmieogacDoor.Sn
