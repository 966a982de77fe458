/-
  Plain: what the reference makes of bytes in UTF-8, by the rows of the grammar, and what the decoder does: the same. No program stands in it.
-/
import Derived.Test.YtjfbogjpmieogaaDoorFeed
namespace Go.Proofs.YtjfbogjpmieogaaDoor
open Go.RowKit

/-- How many bytes a row of ranges takes. -/
def fitK : List (Int × Int) → List UInt8 → Nat
  | (lo, hi) :: r, b :: l => if lo ≤ (b.toNat : Int) ∧ (b.toNat : Int) ≤ hi then fitK r l + 1 else 0
  | _, _ => 0
theorem fitK_le : ∀ (r : List (Int × Int)) (l : List UInt8), fitK r l ≤ r.length ∧ fitK r l ≤ l.length
  | [], l => by simp [fitK]
  | _ :: _, [] => by simp [fitK]
  | (lo, hi) :: r, b :: l => by
    have := fitK_le r l
    simp only [fitK]
    split
    · simp only [List.length_cons]; omega
    · simp

def rowsT : List (List (Int × Int)) := [[(0, 127)], [(194, 223), (128, 191)], [(224, 224), (160, 191), (128, 191)], [(225, 236), (128, 191), (128, 191)], [(237, 237), (128, 159), (128, 191)], [(238, 239), (128, 191), (128, 191)], [(240, 240), (144, 191), (128, 191), (128, 191)], [(241, 243), (128, 191), (128, 191), (128, 191)], [(244, 244), (128, 143), (128, 191), (128, 191)]]

def leadOf (n : Nat) : Int := if n = 1 then 0 else if n = 2 then 192 else if n = 3 then 224 else 240
/-- The value of whole bytes. -/
def valV (l : List UInt8) : Int := match l with
  | [] => 0
  | b :: r => r.foldl (fun v c => v * 64 + (c.toNat : Int) - 128) ((b.toNat : Int) - leadOf (r.length + 1))

def oneGo : List (List (Int × Int)) → Nat → List UInt8 → Int × Nat
  | [], far, _ => (-1, far)
  | r :: rs, far, l => if fitK r l = r.length then (valV (l.take r.length), r.length) else oneGo rs (if far < fitK r l then fitK r l else far) l
def oneF (l : List UInt8) : Int × Nat := oneGo rowsT 1 l

theorem skip_row (lo hi : Int) (r : List (Int × Int)) (rs : List (List (Int × Int))) (far : Nat) (b : UInt8) (l : List UInt8) (h : ¬ (lo ≤ (b.toNat : Int) ∧ (b.toNat : Int) ≤ hi)) : oneGo (((lo, hi) :: r) :: rs) far (b :: l) = oneGo rs far (b :: l) := by
  have e : fitK ((lo, hi) :: r) (b :: l) = 0 := by simp only [fitK]; rw [if_neg h]
  simp only [oneGo, e]
  rw [if_neg (by simp), if_neg (by omega)]

theorem hit_row (lo hi : Int) (r : List (Int × Int)) (rs : List (List (Int × Int))) (b : UInt8) (l : List UInt8) (h : lo ≤ (b.toNat : Int) ∧ (b.toNat : Int) ≤ hi) : oneGo (((lo, hi) :: r) :: rs) 1 (b :: l) = if fitK r l = r.length then (valV ((b :: l).take (r.length + 1)), r.length + 1) else oneGo rs (fitK r l + 1) (b :: l) := by
  have e : fitK ((lo, hi) :: r) (b :: l) = fitK r l + 1 := by simp only [fitK]; rw [if_pos h]
  simp only [oneGo, e, List.length_cons]
  by_cases hf : fitK r l = r.length
  · rw [if_pos (by omega), if_pos hf]
  · rw [if_neg (by omega), if_neg hf]
    by_cases h1 : 1 < fitK r l + 1
    · rw [if_pos h1]
    · rw [if_neg h1]
      congr 1
      omega

/-- The ranges behind a byte that opens. -/
def tailR (b : UInt8) : List (Int × Int) := (((secLo b).toNat : Int), ((secHi b).toNat : Int)) :: List.replicate (opWant b - 1) (128, 191)

theorem one_ascii (b : UInt8) (l : List UInt8) (h : b.toNat < 128) : oneF (b :: l) = ((b.toNat : Int), 1) := by
  unfold oneF rowsT
  rw [hit_row _ _ _ _ _ _ (by omega)]
  simp [fitK, valV, leadOf]

theorem one_bad (b : UInt8) (l : List UInt8) (h : 128 ≤ b.toNat ∧ b.toNat < 194 ∨ 244 < b.toNat) : oneF (b :: l) = (-1, 1) := by
  unfold oneF rowsT
  repeat rw [skip_row _ _ _ _ _ _ _ (by omega)]
  rfl

theorem sec_of (b : UInt8) : ∀ n, b.toNat = n → secLo b = (if n = 224 then 160 else if n = 240 then 144 else 128) ∧ secHi b = (if n = 237 then 159 else if n = 244 then 143 else 191) ∧ opWant b = (if n < 224 then 1 else if n < 240 then 2 else 3) := by
  intro n hn
  have k : ∀ m : UInt8, b = m ↔ n = m.toNat := fun m => by rw [← hn]; exact ⟨fun h => by rw [h], fun h => UInt8.toNat_inj.1 h⟩
  have k2 : ∀ m : UInt8, b < m ↔ n < m.toNat := fun m => by rw [← hn]; exact UInt8.lt_iff_toNat_lt
  unfold secLo secHi opWant
  simp only [k, k2]
  exact ⟨rfl, rfl, rfl⟩

theorem one_open (b : UInt8) (l : List UInt8) (h : 194 ≤ b.toNat ∧ b.toNat ≤ 244) : oneF (b :: l) = if fitK (tailR b) l = opWant b then (valV ((b :: l).take (opWant b + 1)), opWant b + 1) else (-1, fitK (tailR b) l + 1) := by
  obtain ⟨n, hn⟩ : ∃ n, b.toNat = n := ⟨_, rfl⟩
  obtain ⟨s1, s2, s3⟩ := sec_of b n hn
  rw [hn] at h
  have hc : n ≤ 223 ∨ n = 224 ∨ (225 ≤ n ∧ n ≤ 236) ∨ n = 237 ∨ (238 ≤ n ∧ n ≤ 239) ∨ n = 240 ∨ (241 ≤ n ∧ n ≤ 243) ∨ n = 244 := by omega
  rcases hc with c | c | c | c | c | c | c | c
  · have e1 : secLo b = 128 := by rw [s1, if_neg (by omega), if_neg (by omega)]
    have e2 : secHi b = 191 := by rw [s2, if_neg (by omega), if_neg (by omega)]
    have e3 : opWant b = 1 := by rw [s3, if_pos (by omega)]
    rw [tailR, e1, e2, e3]
    unfold oneF rowsT
    iterate 1 rw [skip_row _ _ _ _ _ _ _ (by omega)]
    rw [hit_row _ _ _ _ _ _ (by omega)]
    iterate 7 rw [skip_row _ _ _ _ _ _ _ (by omega)]
    rfl
  · have e1 : secLo b = 160 := by rw [s1, if_pos (by omega)]
    have e2 : secHi b = 191 := by rw [s2, if_neg (by omega), if_neg (by omega)]
    have e3 : opWant b = 2 := by rw [s3, if_neg (by omega), if_pos (by omega)]
    rw [tailR, e1, e2, e3]
    unfold oneF rowsT
    iterate 2 rw [skip_row _ _ _ _ _ _ _ (by omega)]
    rw [hit_row _ _ _ _ _ _ (by omega)]
    iterate 6 rw [skip_row _ _ _ _ _ _ _ (by omega)]
    rfl
  · have e1 : secLo b = 128 := by rw [s1, if_neg (by omega), if_neg (by omega)]
    have e2 : secHi b = 191 := by rw [s2, if_neg (by omega), if_neg (by omega)]
    have e3 : opWant b = 2 := by rw [s3, if_neg (by omega), if_pos (by omega)]
    rw [tailR, e1, e2, e3]
    unfold oneF rowsT
    iterate 3 rw [skip_row _ _ _ _ _ _ _ (by omega)]
    rw [hit_row _ _ _ _ _ _ (by omega)]
    iterate 5 rw [skip_row _ _ _ _ _ _ _ (by omega)]
    rfl
  · have e1 : secLo b = 128 := by rw [s1, if_neg (by omega), if_neg (by omega)]
    have e2 : secHi b = 159 := by rw [s2, if_pos (by omega)]
    have e3 : opWant b = 2 := by rw [s3, if_neg (by omega), if_pos (by omega)]
    rw [tailR, e1, e2, e3]
    unfold oneF rowsT
    iterate 4 rw [skip_row _ _ _ _ _ _ _ (by omega)]
    rw [hit_row _ _ _ _ _ _ (by omega)]
    iterate 4 rw [skip_row _ _ _ _ _ _ _ (by omega)]
    rfl
  · have e1 : secLo b = 128 := by rw [s1, if_neg (by omega), if_neg (by omega)]
    have e2 : secHi b = 191 := by rw [s2, if_neg (by omega), if_neg (by omega)]
    have e3 : opWant b = 2 := by rw [s3, if_neg (by omega), if_pos (by omega)]
    rw [tailR, e1, e2, e3]
    unfold oneF rowsT
    iterate 5 rw [skip_row _ _ _ _ _ _ _ (by omega)]
    rw [hit_row _ _ _ _ _ _ (by omega)]
    iterate 3 rw [skip_row _ _ _ _ _ _ _ (by omega)]
    rfl
  · have e1 : secLo b = 144 := by rw [s1, if_neg (by omega), if_pos (by omega)]
    have e2 : secHi b = 191 := by rw [s2, if_neg (by omega), if_neg (by omega)]
    have e3 : opWant b = 3 := by rw [s3, if_neg (by omega), if_neg (by omega)]
    rw [tailR, e1, e2, e3]
    unfold oneF rowsT
    iterate 6 rw [skip_row _ _ _ _ _ _ _ (by omega)]
    rw [hit_row _ _ _ _ _ _ (by omega)]
    iterate 2 rw [skip_row _ _ _ _ _ _ _ (by omega)]
    rfl
  · have e1 : secLo b = 128 := by rw [s1, if_neg (by omega), if_neg (by omega)]
    have e2 : secHi b = 191 := by rw [s2, if_neg (by omega), if_neg (by omega)]
    have e3 : opWant b = 3 := by rw [s3, if_neg (by omega), if_neg (by omega)]
    rw [tailR, e1, e2, e3]
    unfold oneF rowsT
    iterate 7 rw [skip_row _ _ _ _ _ _ _ (by omega)]
    rw [hit_row _ _ _ _ _ _ (by omega)]
    iterate 1 rw [skip_row _ _ _ _ _ _ _ (by omega)]
    rfl
  · have e1 : secLo b = 128 := by rw [s1, if_neg (by omega), if_neg (by omega)]
    have e2 : secHi b = 143 := by rw [s2, if_neg (by omega), if_pos (by omega)]
    have e3 : opWant b = 3 := by rw [s3, if_neg (by omega), if_neg (by omega)]
    rw [tailR, e1, e2, e3]
    unfold oneF rowsT
    iterate 8 rw [skip_row _ _ _ _ _ _ _ (by omega)]
    rw [hit_row _ _ _ _ _ _ (by omega)]
    rfl

/-- All that the decoder tells of bytes, up to their end. -/
def rawB (D : DSt) (l : List UInt8) : List (Int × Int) := feedR D l ++ endR (feedD D l)
def rawW (D : DSt) (l : List UInt8) : List Int := feedW D l ++ endW (feedD D l)

theorem raw_cons (D : DSt) (b : UInt8) (l : List UInt8) : rawB D (b :: l) = nextR D b ++ rawB (nextD D b) l ∧ rawW D (b :: l) = nextW D b ++ rawW (nextD D b) l := by
  simp [rawB, rawW, feedR, feedW, feedD]

/-- Where nothing fits a sequence that is open, it is bad, and what follows is looked at anew. -/
theorem raw_shut (D : DSt) (l : List UInt8) (hc : D.coding = 1) (hw : 0 < D.want) (h : ∀ c r, l = c :: r → fitsB D.lo D.hi c = false) : rawB D l = (65533, D.sat) :: rawB D.shut l ∧ rawW D l = D.sat :: rawW D.shut l := by
  cases l with
  | nil => simp [rawB, rawW, feedR, feedW, feedD, endR, endW, hw, DSt.shut]
  | cons c l =>
    have hf := h c l rfl
    have hs : D.shut.coding = 1 := hc
    have e1 : takeR D c = (65533, D.sat) :: takeR D.shut c := by simp [takeR, hw, hf, DSt.shut]
    have e2 : takeW D c = D.sat :: takeW D.shut c := by simp [takeW, hw, hf, DSt.shut]
    have e3 : nextD D c = nextD D.shut c := by
      rw [← nextD_utf c hc, ← nextD_utf c hs]
      have : takeD D c = takeD D.shut c := by simp [takeD, hw, hf, DSt.shut]
      rw [this]
      rfl
    rw [(raw_cons D c l).1, (raw_cons D c l).2, (raw_cons D.shut c l).1, (raw_cons D.shut c l).2, (nextR_utf c hc).1, (nextR_utf c hc).2, (nextR_utf c hs).1, (nextR_utf c hs).2, e1, e2, e3]
    exact ⟨rfl, rfl⟩

theorem raw_last (D : DSt) (c : UInt8) (l : List UInt8) (hc : D.coding = 1) (hw : D.want = 1) (hf : fitsB D.lo D.hi c = true) : rawB D (c :: l) = (((D.sval * 64 + c.toNat % 64 : Nat) : Int), D.sat) :: rawB { D.shut with place := D.place + 1 } l ∧ rawW D (c :: l) = rawW { D.shut with place := D.place + 1 } l := by
  have e3 : nextD D c = { D.shut with place := D.place + 1 } := by rw [← nextD_utf c hc]; simp [takeD, hw, hf, goOnD]
  rw [(raw_cons D c l).1, (raw_cons D c l).2, (nextR_utf c hc).1, (nextR_utf c hc).2, e3]
  simp [takeR, takeW, hw, hf, goOnR]

theorem raw_more (D : DSt) (c : UInt8) (l : List UInt8) (hc : D.coding = 1) (hw : 1 < D.want) (hf : fitsB D.lo D.hi c = true) : rawB D (c :: l) = rawB { D with sval := D.sval * 64 + c.toNat % 64, want := D.want - 1, lo := 128, hi := 191, place := D.place + 1 } l ∧ rawW D (c :: l) = rawW { D with sval := D.sval * 64 + c.toNat % 64, want := D.want - 1, lo := 128, hi := 191, place := D.place + 1 } l := by
  have h0 : 0 < D.want := by omega
  have h1 : ¬ D.want = 1 := by omega
  have e3 : nextD D c = { D with sval := D.sval * 64 + c.toNat % 64, want := D.want - 1, lo := 128, hi := 191, place := D.place + 1 } := by rw [← nextD_utf c hc]; simp [takeD, h0, hf, goOnD, h1]
  rw [(raw_cons D c l).1, (raw_cons D c l).2, (nextR_utf c hc).1, (nextR_utf c hc).2, e3]
  simp [takeR, takeW, h0, hf, goOnR, h1]

theorem fits_iff (lo hi b : UInt8) : fitsB lo hi b = decide ((lo.toNat : Int) ≤ (b.toNat : Int) ∧ (b.toNat : Int) ≤ (hi.toNat : Int)) := by
  unfold fitsB
  rw [Bool.eq_iff_iff]
  simp

/-- A sequence that is open: so many bytes fit, and it is whole, or it is bad. -/
theorem raw_tail : ∀ (m : Nat) (D : DSt) (l : List UInt8), D.coding = 1 → D.want = m + 1 → (∀ r : List (Int × Int), r = ((D.lo.toNat : Int), (D.hi.toNat : Int)) :: List.replicate m (128, 191) →
    ((fitK r l = m + 1 → rawB D l = ((((l.take (m + 1)).foldl (fun v c => v * 64 + c.toNat % 64) D.sval : Nat) : Int), D.sat) :: rawB { D.shut with place := D.place + (m + 1) } (l.drop (m + 1)) ∧ rawW D l = rawW { D.shut with place := D.place + (m + 1) } (l.drop (m + 1))) ∧
     (¬ fitK r l = m + 1 → rawB D l = (65533, D.sat) :: rawB { D.shut with place := D.place + (fitK r l : Nat) } (l.drop (fitK r l)) ∧ rawW D l = D.sat :: rawW { D.shut with place := D.place + (fitK r l : Nat) } (l.drop (fitK r l)))))
  | m, D, [], hc, hw, r, hr => by
    subst hr
    refine ⟨fun h => by simp [fitK] at h, fun _ => ?_⟩
    have h := raw_shut D [] hc (by omega) (fun c r h => by cases h)
    simp only [fitK, List.drop_nil]
    have e : ({ D.shut with place := D.place + ((0 : Nat) : Int) } : DSt) = D.shut := by simp [DSt.shut]
    rw [e]
    exact h
  | m, D, c :: l, hc, hw, r, hr => by
    subst hr
    by_cases hf : ((D.lo.toNat : Int) ≤ (c.toNat : Int) ∧ (c.toNat : Int) ≤ (D.hi.toNat : Int))
    · have hfb : fitsB D.lo D.hi c = true := by rw [fits_iff]; simpa using hf
      have ek : fitK (((D.lo.toNat : Int), (D.hi.toNat : Int)) :: List.replicate m (128, 191)) (c :: l) = fitK (List.replicate m (128, 191)) l + 1 := by simp only [fitK]; rw [if_pos hf]
      rw [ek]
      cases m with
      | zero =>
        obtain ⟨h1, h2⟩ := raw_last D c l hc hw hfb
        refine ⟨fun _ => ?_, fun h => absurd (by simp [fitK]) h⟩
        rw [h1, h2]
        simp
      | succ m =>
        obtain ⟨h1, h2⟩ := raw_more D c l hc (by omega) hfb
        have ih := raw_tail m { D with sval := D.sval * 64 + c.toNat % 64, want := D.want - 1, lo := 128, hi := 191, place := D.place + 1 } l hc (by show D.want - 1 = m + 1; omega) (List.replicate (m + 1) (128, 191)) rfl
        have ep : ∀ k : Nat, ({ D.shut with place := D.place + 1 + (k : Int) } : DSt) = { D.shut with place := D.place + ((k + 1 : Nat) : Int) } := fun k => by
          have : D.place + 1 + (k : Int) = D.place + ((k + 1 : Nat) : Int) := by omega
          rw [this]
        refine ⟨fun h => ?_, fun h => ?_⟩
        · have := ih.1 (by omega)
          rw [h1, h2, this.1, this.2]
          have e2 : D.place + 1 + ((m : Int) + 1) = D.place + (((m + 1 : Nat) : Int) + 1) := by omega
          simp only [DSt.shut]
          simp only [List.take_succ_cons, List.foldl_cons, List.drop_succ_cons]
          rw [e2]
          exact ⟨rfl, rfl⟩
        · have := ih.2 (by omega)
          rw [h1, h2, this.1, this.2]
          have e2 := ep (fitK (List.replicate (m + 1) (128, 191)) l)
          simp only [DSt.shut] at e2 ⊢
          simp only [List.drop_succ_cons]
          exact ⟨by rw [← e2], by rw [← e2]⟩
    · have hfb : fitsB D.lo D.hi c = false := by rw [fits_iff]; simpa using hf
      have ek : fitK (((D.lo.toNat : Int), (D.hi.toNat : Int)) :: List.replicate m (128, 191)) (c :: l) = 0 := by simp only [fitK]; rw [if_neg hf]
      rw [ek]
      refine ⟨fun h => by omega, fun _ => ?_⟩
      have h := raw_shut D (c :: l) hc (by omega) (fun c' r h => by injection h with h1 _; subst h1; exact hfb)
      have e : ({ D.shut with place := D.place + ((0 : Nat) : Int) } : DSt) = D.shut := by simp [DSt.shut]
      rw [e]
      exact h

/-- The value of bytes, as the decoder puts it together. -/
theorem val_eq : ∀ (r : List UInt8) (v : Int) (u : Nat), v = (u : Int) → (∀ c ∈ r, 128 ≤ c.toNat ∧ c.toNat ≤ 191) → r.foldl (fun v c => v * 64 + (c.toNat : Int) - 128) v = ((r.foldl (fun v c => v * 64 + c.toNat % 64) u : Nat) : Int)
  | [], v, u, h, _ => h
  | c :: r, v, u, h, hr => by
    rw [List.foldl_cons, List.foldl_cons]
    refine val_eq r _ _ ?_ (fun x hx => hr x (by simp [hx]))
    have := hr c (by simp)
    rw [h]
    omega

theorem fit_range : ∀ (r : List (Int × Int)) (l : List UInt8), (∀ x ∈ r, 128 ≤ x.1 ∧ x.2 ≤ 191) → ∀ c ∈ l.take (fitK r l), 128 ≤ c.toNat ∧ c.toNat ≤ 191
  | [], l, _, c, hc => by simp [fitK] at hc
  | _ :: _, [], _, c, hc => by simp at hc
  | (lo, hi) :: r, b :: l, h, c, hc => by
    simp only [fitK] at hc
    split at hc
    · rename_i hb
      rw [List.take_succ_cons, List.mem_cons] at hc
      rcases hc with rfl | hc
      · have := h (lo, hi) (by simp)
        simp only at this
        omega
      · exact fit_range r l (fun x hx => h x (by simp [hx])) c hc
    · simp at hc

theorem sec_range (b : UInt8) : 128 ≤ ((secLo b).toNat : Int) ∧ ((secHi b).toNat : Int) ≤ 191 :=
  byte_all (Q := fun b => 128 ≤ ((secLo b).toNat : Int) ∧ ((secHi b).toNat : Int) ≤ 191) (by decide +kernel) b
theorem op_lead (b : UInt8) : 194 ≤ b.toNat → b.toNat ≤ 244 → ((b.toNat : Int) - leadOf (opWant b + 1)) = (opVal b : Int) ∧ 1 ≤ opWant b ∧ opWant b ≤ 3 :=
  byte_all (Q := fun b => 194 ≤ b.toNat → b.toNat ≤ 244 → ((b.toNat : Int) - leadOf (opWant b + 1)) = (opVal b : Int) ∧ 1 ≤ opWant b ∧ opWant b ≤ 3) (by decide +kernel) b

/-- What the reference tells of bytes in UTF-8. -/
def decF : Nat → Int → List UInt8 → List (Int × Int × Bool)
  | 0, _, _ => []
  | _ + 1, _, [] => []
  | n + 1, p, b :: l => (if (oneF (b :: l)).1 < 0 then (65533, p, true) else ((oneF (b :: l)).1, p, false)) :: decF n (p + (oneF (b :: l)).2) ((b :: l).drop (oneF (b :: l)).2)

def runes3 (l : List (Int × Int × Bool)) : List (Int × Int) := l.map (fun r => (r.1, r.2.1))
def bads3 (l : List (Int × Int × Bool)) : List Int := (l.filter (fun r => r.2.2)).map (fun r => r.2.1)

theorem dec_same : ∀ (n : Nat) (l : List UInt8) (D : DSt), l.length ≤ n → D.coding = 1 → D.want = 0 → runes3 (decF n D.place l) = rawB D l ∧ bads3 (decF n D.place l) = rawW D l
  | 0, l, D, hl, _, hw => by
    obtain rfl : l = [] := List.length_eq_zero_iff.1 (by omega)
    simp [decF, runes3, bads3, rawB, rawW, feedR, feedW, feedD, endR, endW, hw]
  | n + 1, [], D, _, _, hw => by simp [decF, runes3, bads3, rawB, rawW, feedR, feedW, feedD, endR, endW, hw]
  | n + 1, b :: l, D, hl, hc, hw => by
    have hl' : l.length ≤ n := by simpa using hl
    have hlt : ∀ m : UInt8, b < m ↔ b.toNat < m.toNat := fun m => UInt8.lt_iff_toNat_lt
    have hgt : (b > 244) ↔ 244 < b.toNat := UInt8.lt_iff_toNat_lt
    have hT : takeR D b = beginR D b ∧ takeW D b = beginW D b ∧ takeD D b = beginD D b := by simp [takeR, takeW, takeD, hw]
    rw [(raw_cons D b l).1, (raw_cons D b l).2, (nextR_utf b hc).1, (nextR_utf b hc).2, ← nextD_utf b hc, hT.1, hT.2.1, hT.2.2]
    by_cases ha : b.toNat < 128
    · have h1 : b < 128 := (hlt 128).2 ha
      have h2 : b < 194 := (hlt 194).2 (by show _ < 194; omega)
      have eb : beginD D b = D := by simp [beginD, h2]
      rw [show decF (n + 1) D.place (b :: l) = ((b.toNat : Int), D.place, false) :: decF n (D.place + 1) l by
        simp only [decF, one_ascii b l ha]
        rw [if_neg (by omega)]
        rfl]
      have ih := dec_same n l { D with place := D.place + 1 } hl' hc hw
      simp only [eb, beginR, beginW, h1, if_true]
      simp only [runes3, bads3, List.map_cons, List.filter_cons] at ih ⊢
      exact ⟨by rw [ih.1]; rfl, by simpa using ih.2⟩
    · have h1 : ¬ b < 128 := fun h => ha ((hlt 128).1 h)
      by_cases hb : b.toNat < 194 ∨ 244 < b.toNat
      · have hbb : (decide (b < 194) || decide (b > 244)) = true := by
          rcases hb with h | h
          · simp [(hlt 194).2 h]
          · simp [hgt.2 h]
        have eb : beginD D b = D := by simp only [beginD]; rw [if_pos hbb]
        rw [show decF (n + 1) D.place (b :: l) = (65533, D.place, true) :: decF n (D.place + 1) l by
          simp only [decF, one_bad b l (by omega)]
          rw [if_pos (by omega)]
          rfl]
        have ih := dec_same n l { D with place := D.place + 1 } hl' hc hw
        have er : beginR D b = [(65533, D.place)] := by simp only [beginR]; rw [if_neg h1, if_pos hbb]
        have ew : beginW D b = [D.place] := by simp only [beginW]; rw [if_neg h1, if_pos hbb]
        simp only [eb, er, ew]
        simp only [runes3, bads3, List.map_cons, List.filter_cons] at ih ⊢
        exact ⟨by rw [ih.1]; rfl, by simpa using ih.2⟩
      · have hbb : ¬ (decide (b < 194) || decide (b > 244)) = true := by
          intro h
          rcases Bool.or_eq_true _ _ ▸ h with h | h
          · exact hb (.inl ((hlt 194).1 (of_decide_eq_true h)))
          · exact hb (.inr (hgt.1 (of_decide_eq_true h)))
        have hr : 194 ≤ b.toNat ∧ b.toNat ≤ 244 := by omega
        obtain ⟨hv, hw1, hw3⟩ := op_lead b hr.1 hr.2
        obtain ⟨m, hm⟩ : ∃ m, opWant b = m + 1 := ⟨opWant b - 1, by omega⟩
        have eb : beginD D b = { D with sat := D.place, sval := opVal b, want := opWant b, lo := secLo b, hi := secHi b } := by simp only [beginD]; rw [if_neg hbb]
        have er : beginR D b = [] := by simp only [beginR]; rw [if_neg h1, if_neg hbb]
        have ew : beginW D b = [] := by simp only [beginW]; rw [if_neg h1, if_neg hbb]
        have et : tailR b = (((secLo b).toNat : Int), ((secHi b).toNat : Int)) :: List.replicate m (128, 191) := by
          unfold tailR
          rw [hm]
          rfl
        have ho := one_open b l hr
        have hrt := raw_tail m { D with sat := D.place, sval := opVal b, want := opWant b, lo := secLo b, hi := secHi b, place := D.place + 1 } l hc hm (tailR b) et
        have hk := fitK_le (tailR b) l
        rw [eb, er, ew, List.nil_append, List.nil_append]
        by_cases hf : fitK (tailR b) l = opWant b
        · rw [if_pos hf] at ho
          have hfr := fit_range (tailR b) l (fun x hx => by
            rw [et] at hx
            rcases List.mem_cons.1 hx with rfl | hx
            · exact sec_range b
            · obtain rfl := List.eq_of_mem_replicate hx
              decide)
          rw [hf] at hfr
          have hval : valV ((b :: l).take (opWant b + 1)) = (((l.take (m + 1)).foldl (fun v c => v * 64 + c.toNat % 64) (opVal b) : Nat) : Int) := by
            rw [List.take_succ_cons]
            show (l.take (opWant b)).foldl _ ((b.toNat : Int) - leadOf ((l.take (opWant b)).length + 1)) = _
            have hlen : (l.take (opWant b)).length = opWant b := by simp; omega
            rw [hlen, hv, val_eq _ _ (opVal b) rfl hfr, hm]
          have hrt1 := hrt.1 (by omega)
          rw [show decF (n + 1) D.place (b :: l) = ((((l.take (m + 1)).foldl (fun v c => v * 64 + c.toNat % 64) (opVal b) : Nat) : Int), D.place, false) :: decF n (D.place + ((m + 2 : Nat) : Int)) (l.drop (m + 1)) by
            simp only [decF, ho, hval]
            rw [if_neg (by omega), hm]
            rfl]
          have ih := dec_same n (l.drop (m + 1)) { D.shut with place := D.place + ((m + 2 : Nat) : Int) } (by simp; omega) hc rfl
          have ep : D.place + 1 + ((m : Int) + 1) = D.place + ((m + 2 : Nat) : Int) := by omega
          rw [hrt1.1, hrt1.2]
          simp only [DSt.shut] at ih ⊢
          rw [ep]
          simp only [runes3, bads3, List.map_cons, List.filter_cons] at ih ⊢
          exact ⟨by rw [ih.1], by simpa using ih.2⟩
        · rw [if_neg hf] at ho
          have hrt2 := hrt.2 (by omega)
          rw [show decF (n + 1) D.place (b :: l) = (65533, D.place, true) :: decF n (D.place + ((fitK (tailR b) l + 1 : Nat) : Int)) (l.drop (fitK (tailR b) l)) by
            simp only [decF, ho]
            rw [if_pos (by omega)]
            rfl]
          have ih := dec_same n (l.drop (fitK (tailR b) l)) { D.shut with place := D.place + ((fitK (tailR b) l + 1 : Nat) : Int) } (by simp; omega) hc rfl
          have ep : D.place + 1 + (fitK (tailR b) l : Int) = D.place + ((fitK (tailR b) l + 1 : Nat) : Int) := by omega
          rw [hrt2.1, hrt2.2]
          simp only [DSt.shut] at ih ⊢
          rw [ep]
          simp only [runes3, bads3, List.map_cons, List.filter_cons] at ih ⊢
          exact ⟨by rw [ih.1], by simpa using ih.2⟩
end Go.Proofs.YtjfbogjpmieogaaDoor
