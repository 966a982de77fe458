/-
  Plain facts on lists of bytes: no program stands in it.
-/
import Derived.Lib.IndexLaws
import Derived.Below
namespace Go.Proofs.YtjfbogjpmieogacDoor.Sn

/-- Is the byte one of the set? -/
def inSet (set : List UInt8) (c : UInt8) : Bool := set.contains c

/-- The first place from k on whose byte doesn't answer p, or the end. -/
def scan (p : UInt8 → Bool) (l : List UInt8) (k : Nat) : Nat := k + ((l.drop k).takeWhile p).length

theorem scan_ge (p : UInt8 → Bool) (l : List UInt8) (k : Nat) : k ≤ scan p l k := by unfold scan; omega

theorem scan_le (p : UInt8 → Bool) (l : List UInt8) (k : Nat) (h : k ≤ l.length) : scan p l k ≤ l.length := by
  unfold scan
  have := (List.takeWhile_prefix (l := l.drop k) p).length_le
  rw [List.length_drop] at this
  omega

theorem scan_end (p : UInt8 → Bool) (l : List UInt8) (k : Nat) (h : l.length ≤ k) : scan p l k = k := by
  unfold scan
  rw [List.drop_eq_nil_of_le h]
  rfl

theorem scan_stop (p : UInt8 → Bool) (l : List UInt8) (k : Nat) (h : k < l.length) (hp : p l[k] = false) : scan p l k = k := by
  unfold scan
  rw [List.drop_eq_getElem_cons h, List.takeWhile_cons]
  simp [hp]

theorem scan_step (p : UInt8 → Bool) (l : List UInt8) (k : Nat) (h : k < l.length) (hp : p l[k] = true) : scan p l k = scan p l (k + 1) := by
  unfold scan
  rw [List.drop_eq_getElem_cons h, List.takeWhile_cons]
  simp [hp]
  omega

theorem scan_congr (p q : UInt8 → Bool) (l : List UInt8) (k : Nat) (h : ∀ c, p c = q c) : scan p l k = scan q l k := by
  have : p = q := funext h
  rw [this]

/-- Behind the scan p answers no. -/
theorem scan_at_aux (p : UInt8 → Bool) (l : List UInt8) : ∀ (n k : Nat), l.length - k = n → ∀ (h : scan p l k < l.length), p l[scan p l k] = false := by
  intro n
  induction n with
  | zero =>
    intro k hn h
    have := scan_ge p l k
    omega
  | succ n ih =>
    intro k hn h
    have hk : k < l.length := by omega
    by_cases hp : p l[k] = true
    · have e := scan_step p l k hk hp
      have := ih (k + 1) (by omega) (by omega)
      simpa [e] using this
    · have hp' : p l[k] = false := by simpa using hp
      have e := scan_stop p l k hk hp'
      simpa [e] using hp'

theorem scan_at (p : UInt8 → Bool) (l : List UInt8) (k : Nat) (h : scan p l k < l.length) : p l[scan p l k] = false :=
  scan_at_aux p l _ k rfl h

theorem mem_index (l : List UInt8) (c : UInt8) : (0 ≤ Lib.indexByte l c) ↔ inSet l c = true := by
  unfold inSet
  have hge := Lib.indexByte_ge l c
  constructor
  · intro h
    obtain ⟨o, ho⟩ := Int.eq_ofNat_of_zero_le h
    have := (Lib.indexByte_some (l := l) (c := c) (o := o) ho).1
    simpa using List.mem_of_getElem? this
  · intro h
    have hm : c ∈ l := by simpa using h
    rcases Int.lt_or_le (Lib.indexByte l c) 0 with hlt | hle
    · exfalso
      have e : Lib.indexByte l c = -1 := by omega
      obtain ⟨n, hn⟩ := List.getElem?_of_mem hm
      exact Lib.indexByte_none e n hn
    · exact hle

theorem mem_index_no (l : List UInt8) (c : UInt8) : (Lib.indexByte l c < 0) ↔ inSet l c = false := by
  rw [← Bool.not_eq_true, ← mem_index]
  omega

end Go.Proofs.YtjfbogjpmieogacDoor.Sn
