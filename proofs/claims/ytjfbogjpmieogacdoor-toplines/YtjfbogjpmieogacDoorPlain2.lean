/-
  Plain: what the value of an attribute, and an attribute, are.
-/
import Derived.Test.YtjfbogjpmieogacDoorQuote
import Derived.Lib.IndexBytes
namespace Go.Proofs.YtjfbogjpmieogacDoor.Sn

def BL : List UInt8 := [9, 10, 12, 13, 32]
def pB (c : UInt8) : Bool := inSet [9, 10, 12, 13, 32] c
def pBS (c : UInt8) : Bool := inSet [9, 10, 12, 13, 32, 47] c
def pName (c : UInt8) : Bool := !inSet [9, 10, 12, 13, 32, 61, 47, 62] c
def pVal (c : UInt8) : Bool := !inSet [9, 10, 12, 13, 32, 62] c

/-- The value from place k on: its bytes made small, where it ends; whether there is one. -/
def valF (s : ByteArray) (k : Nat) : ByteArray × Nat × Bool :=
  let p := scan pB s.data.toList k
  if h : p < s.size then
    if quoteB s[p] then
      let j := scan (fun x => x != s[p]) s.data.toList (p + 1)
      if j < s.size then (lowS (s.extract (p + 1) j), j + 1, true) else (⟨#[]⟩, s.size, false)
    else
      let e := scan pVal s.data.toList p
      if e < s.size then (lowS (s.extract p e), e, true) else (⟨#[]⟩, s.size, false)
  else (⟨#[]⟩, s.size, false)

theorem idx_take (c : UInt8) : ∀ m : List UInt8, Lib.indexByte m c = if (m.takeWhile (fun x => x != c)).length = m.length then -1 else ((m.takeWhile (fun x => x != c)).length : Int)
  | [] => by simp [Lib.indexByte]
  | b :: m => by
    unfold Lib.indexByte
    rw [idx_take c m, List.takeWhile_cons]
    by_cases hb : b = c
    · subst hb; simp
    · have h1 : (b == c) = false := by simp [hb]
      have h2 : (b != c) = true := by simp [hb]
      rw [if_neg (by simp [h1]), h2]
      simp only [if_true, List.length_cons]
      by_cases ht : (m.takeWhile (fun x => x != c)).length = m.length
      · simp [ht]
      · rw [if_neg ht]
        rw [if_neg (by simp), if_neg (by omega)]
        omega

theorem at_extract (s : ByteArray) (p : Nat) (hp : p < s.size) (h : 0 < (s.extract p s.size).size) : (s.extract p s.size)[0] = s[p] := by
  simp [ByteArray.getElem_extract]

theorem qIdx_eq (s : ByteArray) (p : Nat) (hp : p < s.size) (h : 0 < (s.extract p s.size).size) : qIdx (s.extract p s.size) h = Lib.indexByte (s.data.toList.drop (p + 1)) s[p] := by
  unfold qIdx
  rw [at_extract s p hp h]
  congr 1
  rw [Lib.extract_to_end, List.tail_drop]
  apply List.take_of_length_le
  simp
  omega

theorem qIdx_scan (s : ByteArray) (p : Nat) (hp : p < s.size) (h : 0 < (s.extract p s.size).size) :
    qIdx (s.extract p s.size) h = if scan (fun x => x != s[p]) s.data.toList (p + 1) < s.size then ((scan (fun x => x != s[p]) s.data.toList (p + 1) - (p + 1) : Nat) : Int) else -1 := by
  rw [qIdx_eq s p hp h, idx_take]
  have hle := scan_le (fun x => x != s[p]) s.data.toList (p + 1) (by simp; omega)
  unfold scan at hle ⊢
  simp only [List.length_drop, Array.length_toList] at hle ⊢
  have : s.data.size = s.size := rfl
  by_cases e : (List.takeWhile (fun x => x != s[p]) (List.drop (p + 1) s.data.toList)).length = s.data.size - (p + 1)
  · rw [if_pos e, if_neg (by omega)]
  · rw [if_neg e, if_pos (by omega)]
    congr 1
    omega

theorem extract_twice (s : ByteArray) (p i : Nat) (h : p + 1 + i ≤ s.size) : (s.extract p s.size).extract 1 (1 + i) = s.extract (p + 1) (p + 1 + i) := by
  apply ByteArray.ext
  simp only [ByteArray.data_extract, Array.extract_extract]
  congr 1
  have : s.data.size = s.size := rfl
  omega
end Go.Proofs.YtjfbogjpmieogacDoor.Sn
