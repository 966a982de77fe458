/-
  Plain facts on what bytes are read as: places rise; bytes below 80 are the same in both codings. No program stands in it.
-/
import Derived.Test.YtjfbogjpmieogacDoorReadP
import Derived.Test.YtjfbogjpmieogacDoorSoonPlain
namespace Go.Proofs.YtjfbogjpmieogacDoor
open Go.RowKit

theorem chain_up (i j : Int) (hij : i ≤ j) : ∀ (R : List (Int × Int)) (n N : Int), chain i n R = some N → chain j n R = some N
  | [], _, _, h => h
  | r :: R, n, N, h => by
    simp only [chain] at h ⊢
    split at h
    · rename_i hc
      rw [if_pos ⟨hc.1, by omega⟩]
      exact chain_up i j hij R _ _ h
    · cases h

theorem chain_app (i : Int) (b : List (Int × Int)) : ∀ (a : List (Int × Int)) (n M : Int), chain i n a = some M → chain i n (a ++ b) = chain i M b
  | [], _, _, h => by cases h; rfl
  | r :: a, n, M, h => by
    simp only [chain, List.cons_append] at h ⊢
    split at h
    · rename_i hc
      rw [if_pos hc]
      exact chain_app i b a _ _ h
    · cases h

theorem chain_low (i : Int) : ∀ (R : List (Int × Int)) (n n' N : Int), n' ≤ n → chain i n R = some N → ∃ N', chain i n' R = some N' ∧ N' ≤ N
  | [], _, n', _, hn, h => by cases h; exact ⟨n', rfl, hn⟩
  | r :: R, n, n', N, hn, h => by
    simp only [chain] at h ⊢
    split at h
    · rename_i hc
      rw [if_pos ⟨by omega, hc.2⟩]
      exact ⟨N, h, Int.le_refl _⟩
    · cases h

theorem chain_pass (i : Int) : ∀ (R : List (Int × Int)) (b : Bool) (n N : Int), chain i n R = some N → ∃ N', chain i n (passR b R) = some N' ∧ N' ≤ N
  | [], _, n, N, h => ⟨N, h, Int.le_refl _⟩
  | r :: R, b, n, N, h => by
    simp only [chain] at h
    split at h
    · rename_i hc
      simp only [passR, passOne]
      split
      · obtain ⟨N1, h1, h2⟩ := chain_low i R (r.2 + 1) n N (by omega) h
        obtain ⟨N2, h3, h4⟩ := chain_pass i R (r.1 == 13) n N1 h1
        exact ⟨N2, by simpa using h3, by omega⟩
      · obtain ⟨N2, h3, h4⟩ := chain_pass i R (r.1 == 13) (r.2 + 1) N h
        refine ⟨N2, ?_, h4⟩
        simp only [List.cons_append, List.nil_append, chain]
        rw [if_pos hc]
        exact h3
    · cases h

theorem chain_raw : ∀ (l : List UInt8) (D : DSt) (n q i : Int), Soon D n q i → ∃ N, chain (i + l.length - 1) n (feedR D l ++ endR (feedD D l)) = some N ∧ N ≤ i + l.length
  | [], D, n, q, i, h => by
    show ∃ N, chain (i + ((0 : Nat) : Int) - 1) n (endR D) = some N ∧ N ≤ i + ((0 : Nat) : Int)
    by_cases hw : 0 < D.want
    · have he : endR D = [(65533, D.sat)] := by simp [endR, hw]
      rw [he]
      obtain ⟨s1, s2, _⟩ := h.some hw
      refine ⟨D.sat + 1, ?_, by simp; omega⟩
      simp only [chain]
      rw [if_pos ⟨s1, by simp; omega⟩]
    · have he : endR D = [] := by simp [endR, hw]
      rw [he]
      obtain ⟨s1, _⟩ := h.none (by omega)
      exact ⟨n, rfl, by simp; omega⟩
  | b :: l, D, n, q, i, h => by
    obtain ⟨n', h1, h2, _, _⟩ := soon_step D n q i b h
    obtain ⟨N, h3, h4⟩ := chain_raw l (nextD D b) n' _ (i + 1) h2
    simp only [feedR, feedD, List.append_assoc, List.length_cons]
    refine ⟨N, ?_, by omega⟩
    have e : i + ((l.length + 1 : Nat) : Int) - 1 = i + 1 + l.length - 1 := by omega
    rw [e, chain_app _ _ _ _ _ (chain_up i _ (by omega) _ _ _ h1)]
    exact h3

theorem soon_start (c p : Int) (hp : 0 ≤ p) : Soon (dst c p) p 0 p := ⟨rfl, .inl rfl, fun _ => ⟨Int.le_refl _, rfl⟩, fun h => absurd h (by simp [dst]), fun _ => rfl, hp, Int.le_refl _⟩

/-- The places of what is read rise, and lie within the bytes. -/
theorem read_chain (c : Int) (l : List UInt8) : ∃ N, chain (l.length - 1) 0 (readR c 0 l) = some N ∧ N ≤ l.length := by
  obtain ⟨N, h1, h2⟩ := chain_raw l (dst c 0) 0 0 0 (soon_start c 0 (Int.le_refl _))
  obtain ⟨N', h3, h4⟩ := chain_pass _ _ false _ _ h1
  refine ⟨N', ?_, by omega⟩
  rw [Int.zero_add] at h3
  exact h3

theorem feed_win : ∀ (l : List UInt8) (D : DSt), ¬ D.coding = 1 → D.want = 0 → feedW D l = [] ∧ (feedD D l).want = 0
  | [], _, _, h => ⟨rfl, h⟩
  | b :: l, D, hc, hw => by
    have hco := (nextD_coding D b).1
    have hD := nextD_win b hc
    have h := feed_win l (nextD D b) (by rw [hco]; exact hc) (by rw [← hD]; exact hw)
    simp only [feedW, feedD, (nextR_win b hc).2, List.nil_append]
    exact h

theorem read_none (l : List UInt8) : readN 2 0 l = 0 := by
  have h := feed_win l (dst 2 0) (by decide) rfl
  unfold readN endW
  rw [h.1, h.2]
  rfl

theorem plain_next (D E : DSt) (b : UInt8) (hb : b < 128) (hc : D.coding = 1) (hw : D.want = 0) (hE : ¬ E.coding = 1) (hp : D.place = E.place) :
    nextR D b = nextR E b ∧ nextW D b = [] ∧ (nextD D b).want = 0 := by
  have g : b < 194 := by rw [UInt8.lt_iff_toNat_lt] at *; simp at *; omega
  have hT : takeR D b = [((b.toNat : Int), D.place)] := by simp [takeR, hw, beginR, hb]
  have hTW : takeW D b = [] := by simp [takeW, hw, beginW, hb]
  have hTD : (takeD D b).want = 0 := by simp [takeD, hw, beginD, g]
  have hv : winV b = (b.toNat : Int) := by
    unfold winV
    rw [if_neg]
    intro h
    have := h.1
    rw [UInt8.le_iff_toNat_le] at this
    rw [UInt8.lt_iff_toNat_lt] at hb
    simp at this hb
    omega
  refine ⟨?_, ?_, ?_⟩
  · rw [(nextR_utf b hc).1, (nextR_win b hE).1, hT, hv, hp]
  · rw [(nextR_utf b hc).2, hTW]
  · rw [← nextD_utf b hc]
    exact hTD

theorem plain_feed : ∀ (l : List UInt8) (D E : DSt), (∀ b ∈ l, b < 128) → D.coding = 1 → D.want = 0 → ¬ E.coding = 1 → D.place = E.place → feedR D l = feedR E l ∧ feedW D l = [] ∧ (feedD D l).want = 0
  | [], _, _, _, _, hw, _, _ => ⟨rfl, rfl, hw⟩
  | b :: l, D, E, hl, hc, hw, hE, hp => by
    obtain ⟨h1, h2, h3⟩ := plain_next D E b (hl b (by simp)) hc hw hE hp
    have c1 := nextD_coding D b
    have c2 := nextD_coding E b
    obtain ⟨k1, k2, k3⟩ := plain_feed l (nextD D b) (nextD E b) (fun x hx => hl x (by simp [hx])) (by rw [c1.1, hc]) h3 (by rw [c2.1]; exact hE) (by rw [c1.2, c2.2, hp])
    simp only [feedR, feedW, feedD]
    exact ⟨by rw [h1, k1], by rw [h2, k2]; rfl, k3⟩

/-- Bytes below 80 are the same in both codings. -/
theorem plain_same (l : List UInt8) (hl : ∀ b ∈ l, b < 128) : readR 1 0 l = readR 2 0 l ∧ readN 1 0 l = 0 := by
  obtain ⟨h1, h2, h3⟩ := plain_feed l (dst 1 0) (dst 2 0) hl rfl rfl (by decide) rfl
  have hw := (feed_win l (dst 2 0) (by decide) rfl).2
  constructor
  · unfold readR rawR endR
    rw [h1, h3, hw, if_neg (by omega), if_neg (by omega)]
  · unfold readN endW
    rw [h2, h3]
    rfl

theorem read_len (c : Int) (l : List UInt8) : (readR c 0 l).length ≤ 2 * l.length + 1 := by
  have h1 := passR_len false (rawR c 0 l)
  have h2 := raw_len c 0 l
  unfold readR
  omega
end Go.Proofs.YtjfbogjpmieogacDoor
