/-
  Texts that are written scalar by scalar: the law's walk.
-/
import Derived.Test.YtopecjchflknbaaDtMake
namespace Go.Proofs.Ytopecjchflknbaa
open Go.RowKit

/-- An argument: whole numbers, where they lie. -/
structure IntsAt (w : World) (a : Option Addr) (Z : List Int) : Prop where
  out : ∀ t, (h : t < Z.length) → ∃ ad, a = some ad ∧ w.cell? (ad.add t) = some (.int .i64 Z[t])
theorem cell_later {w w' : World} {a : Addr} {v : Value} (h : w.cell? a = some v) (hb : Below w.heap.size w w') : w'.cell? a = some v :=
  (hb.cell (p := a) (World.block_lt_of_cell? w _ h)).trans h
theorem IntsAt.later {w w' : World} {a : Option Addr} {Z : List Int} (h : IntsAt w a Z) (hb : Below w.heap.size w w') : IntsAt w' a Z := ⟨fun t ht => by
  obtain ⟨ad, e, hc⟩ := h.out t ht
  exact ⟨ad, e, cell_later hc hb⟩⟩

theorem ofInt_u64 (k : Nat) (hk : k < 18446744073709551616) : (BitVec.ofInt 64 (k : Int)).toNat = k := by
  rw [BitVec.toNat_ofInt]
  omega
theorem i64_mask21 (n : Int) : ∃ y : Nat, y < 2097152 ∧ bits .and .i64 n 2097151 = (y : Int) := by
  have e : bits .and .i64 n 2097151 = IntKind.i64.wrap ((BitVec.ofInt 64 n &&& BitVec.ofInt 64 ((2097151 : Nat) : Int)).toNat : Int) := rfl
  rw [e, BitVec.toNat_and, ofInt_u64 2097151 (by omega)]
  have h := Nat.and_two_pow_sub_one_eq_mod (BitVec.ofInt 64 n).toNat 21
  have h2 : (BitVec.ofInt 64 n).toNat &&& 2097151 = (BitVec.ofInt 64 n).toNat % 2097152 := h
  rw [h2]
  generalize (BitVec.ofInt 64 n).toNat = m
  refine ⟨m % 2097152, Nat.mod_lt _ (by decide), ?_⟩
  simp only [IntKind.wrap, IntKind.bits, IntKind.signed]
  simp
  omega

def txt (l : List UInt8) : ByteArray := ⟨l.toArray⟩
theorem txt_app (l m : List UInt8) : txt l ++ txt m = txt (l ++ m) := by
  simp [txt, ByteArray.ext_iff]
theorem txt_size (l : List UInt8) : (txt l).size = l.length := by simp [txt, ByteArray.size]

/-- Two texts in a block of their own. -/
def PairAt (w : World) (b : Nat) (x y : ByteArray) : Prop := w.heap[b]? = some (Obj.cells #[.string x, .string y] 60 (0, 0))
theorem PairAt.c0 {w : World} {b : Nat} {x y : ByteArray} (h : PairAt w b x y) : w.cell? ⟨b, 0, none⟩ = some (.string x) := by
  unfold PairAt at h
  simp [World.cell?, h]
theorem PairAt.c1 {w : World} {b : Nat} {x y : ByteArray} (h : PairAt w b x y) : w.cell? ⟨b, 1, none⟩ = some (.string y) := by
  unfold PairAt at h
  simp [World.cell?, h]
theorem PairAt.fz {w : World} {b : Nat} {x y : ByteArray} (h : PairAt w b x y) (j : Nat) : w.frozen? ⟨b, j, none⟩ = false := by
  unfold PairAt at h
  simp [World.frozen?, h]
theorem PairAt.lt {w : World} {b : Nat} {x y : ByteArray} (h : PairAt w b x y) : b < w.heap.size := (Array.getElem?_eq_some_iff.1 h).1
theorem PairAt.set0 {w : World} {b : Nat} {x y : ByteArray} (h : PairAt w b x y) (z : ByteArray) : PairAt (w.setCell ⟨b, 0, none⟩ (.string z)) b z y := by
  unfold PairAt at h ⊢
  have hlt := (Array.getElem?_eq_some_iff.1 h).1
  simp only [World.setCell, Array.getElem?_modify, h]
  simp
theorem PairAt.set1 {w : World} {b : Nat} {x y : ByteArray} (h : PairAt w b x y) (z : ByteArray) : PairAt (w.setCell ⟨b, 1, none⟩ (.string z)) b x z := by
  unfold PairAt at h ⊢
  have hlt := (Array.getElem?_eq_some_iff.1 h).1
  simp only [World.setCell, Array.getElem?_modify, h]
  simp
theorem PairAt.rest {w w' : World} {B b : Nat} {x y : ByteArray} (h : PairAt w b x y) (hr : RestP B w w') : PairAt w' b x y :=
  (hr.other b _ _ _ h (by decide) (by decide) (by decide) (by decide)).trans h
theorem PairAt.below {w w' : World} {b : Nat} {x y : ByteArray} (h : PairAt w b x y) (hb : Below w.heap.size w w') : PairAt w' b x y := (hb.block b h.lt).trans h

/-- Between two scalars. -/
structure InnerA (w : World) (P : List UInt8 → World → Prop) (wb : Nat) (l : List UInt8) (wr : World) : Prop where
  below : Below w.heap.size w wr
  tree : P l wr
  pair : PairAt wr wb (txt l) (txt [])
structure InnerB (w : World) (P : List UInt8 → World → Prop) (wb : Nat) (l0 l : List UInt8) (wr : World) : Prop where
  below : Below w.heap.size w wr
  tree : P l wr
  pair : PairAt wr wb (txt l0) (txt l)

theorem InnerA.next {w w1 w3 : World} {B t wb : Nat} {P : List UInt8 → World → Prop} {l m : List UInt8} (h : InnerA w P wb l w1) (hF : Face B t wb P) (hB : w.heap.size ≤ B) (hwb : B ≤ wb) (h2 : P (l ++ m) w3) (hr : RestP B w1 w3) :
    PairAt w3 wb (txt l) (txt []) ∧ Hid (InnerA w P wb (l ++ m) (w3.setCell ⟨wb, 0, none⟩ (.string (txt l ++ txt m)))) := by
  have hp := h.pair.rest hr
  refine ⟨hp, ⟨?_, ?_, ?_⟩⟩
  · exact (h.below.trans (hr.below.mono hB)).setCell (p := ⟨wb, 0, none⟩) (by show _ ≤ wb; omega) _
  · exact hF.stay _ _ _ _ _ h2 ((Kept.refl (fun k => k = wb) w3).store ⟨wb, 0, none⟩ rfl _) hp
  · rw [txt_app]
    exact hp.set0 _
theorem InnerB.next {w w1 w3 : World} {B t wb : Nat} {P : List UInt8 → World → Prop} {l0 l m : List UInt8} (h : InnerB w P wb l0 l w1) (hF : Face B t wb P) (hB : w.heap.size ≤ B) (hwb : B ≤ wb) (h2 : P (l ++ m) w3) (hr : RestP B w1 w3) :
    PairAt w3 wb (txt l0) (txt l) ∧ Hid (InnerB w P wb l0 (l ++ m) (w3.setCell ⟨wb, 1, none⟩ (.string (txt l ++ txt m)))) := by
  have hp := h.pair.rest hr
  refine ⟨hp, ⟨?_, ?_, ?_⟩⟩
  · exact (h.below.trans (hr.below.mono hB)).setCell (p := ⟨wb, 1, none⟩) (by show _ ≤ wb; omega) _
  · exact hF.stay _ _ _ _ _ h2 ((Kept.refl (fun k => k = wb) w3).store ⟨wb, 1, none⟩ rfl _) hp
  · rw [txt_app]
    exact hp.set1 _

/-- All that counts of a list. -/
def encAll (Z : List Int) : List UInt8 := encOf Z (min Z.length 100)

/-- Between the texts. -/
structure OuterAt (w : World) (B t wb : Nat) (eA eB : List UInt8) (j : Nat) (wr : World) : Prop where
  below : Below w.heap.size w wr
  stage : (j = 0 ∧ StageA B t [] wr ∧ PairAt wr wb (txt []) (txt [])) ∨ (j = 1 ∧ StageA B t eA wr ∧ PairAt wr wb (txt eA) (txt [])) ∨ (j = 2 ∧ StageB B t eA eB wr ∧ PairAt wr wb (txt eA) (txt eB))

theorem DoneAt.stay {B t : Nat} {l1 l2 : List UInt8} {w w' : World} {wb : Nat} {c : Array Value} {f : Nat × Nat} (h : DoneAt B t l1 l2 w) (hk : Kept (fun k => k = wb) w w') (hw : w.heap[wb]? = some (Obj.cells c 60 f)) : DoneAt B t l1 l2 w' := by
  obtain ⟨g, cap, cs, cp, hT, hp, hO, h1, ⟨cm, h2, h3, h4, h5, h6⟩, h7⟩ := h.out
  refine ⟨g, cap, cs, cp, hT.stay hk hw, hp, owns_kept hO hk (owns_off hO hw (by decide)), fun hl => ?_, ⟨cm, h2, h3, h4, h5, owns_kept h6 hk (owns_off h6 hw (by decide))⟩, fun hl => ?_⟩
  · obtain ⟨c, a1, a2, a3, a4, a5⟩ := (h1 hl).out
    exact ⟨c, a1, a2, a3, a4, owns_kept a5 hk (owns_off a5 hw (by decide))⟩
  · obtain ⟨c, a1, a2, a3, a4, a5⟩ := (h7 hl).out
    exact ⟨c, a1, a2, a3, a4, owns_kept a5 hk (owns_off a5 hw (by decide))⟩

/-- Going through the document's kids. -/
structure ThirdAt (w : World) (B t gb kg kc wb : Nat) (l1 l2 : List UInt8) (m : Nat) (wx : World) : Prop where
  below : Below w.heap.size w wx
  done : DoneAt B t l1 l2 wx
  got : PairAt wx gb (txt (if m = 0 then [] else l1)) (txt (if m ≤ oneIf l1 + 1 then [] else l2))
  want : PairAt wx wb (txt l1) (txt l2)
  kids : wx.ownsRow B 3 1 (.slice (some ⟨kg, 0, none⟩) (numKids l1 l2) kc) (numKids l1 l2) (intC ((List.range (numKids l1 l2)).map (· + 1)))
theorem ThirdAt.later {w wx wy : World} {B t gb kg kc wb : Nat} {l1 l2 : List UInt8} {m : Nat} (h : ThirdAt w B t gb kg kc wb l1 l2 m wx) (hb : Below wx.heap.size wx wy) : ThirdAt w B t gb kg kc wb l1 l2 m wy :=
  ⟨h.below.trans (hb.mono h.below.size), h.done.below hb, h.got.below hb, h.want.below hb, owns_kept (out := fun _ => False) h.kids (Kept.below hb) (fun _ _ e => e)⟩
theorem oneIf_nil {l : List UInt8} (h : oneIf l = 0) : l = [] := by
  unfold oneIf at h
  split at h
  · assumption
  · omega
theorem third_note {w wx : World} {B t gb kg kc wb : Nat} {l1 l2 : List UInt8} (h : ThirdAt w B t gb kg kc wb l1 l2 (oneIf l1) wx) : ThirdAt w B t gb kg kc wb l1 l2 (oneIf l1 + 1) wx := by
  refine ⟨h.below, h.done, ?_, h.want, h.kids⟩
  have hg := h.got
  rw [if_pos (by omega : oneIf l1 ≤ oneIf l1 + 1)] at hg
  rw [if_neg (by omega : ¬ oneIf l1 + 1 = 0), if_pos (by omega : oneIf l1 + 1 ≤ oneIf l1 + 1)]
  by_cases h0 : oneIf l1 = 0
  · rw [if_pos h0] at hg
    rw [oneIf_nil h0]
    exact hg
  · rw [if_neg h0] at hg
    exact hg
theorem third_put {w wx : World} {B t gb kg kc wb : Nat} {l1 l2 : List UInt8} {m j : Nat} (hB : w.heap.size ≤ gb) (hne : wb ≠ gb) (x y : ByteArray) (h : ThirdAt w B t gb kg kc wb l1 l2 m wx) (u : Value) (hg : PairAt (wx.setCell ⟨gb, j, none⟩ u) gb (txt (if m + 1 = 0 then [] else l1)) (txt (if m + 1 ≤ oneIf l1 + 1 then [] else l2))) (hp : PairAt wx gb x y) : ThirdAt w B t gb kg kc wb l1 l2 (m + 1) (wx.setCell ⟨gb, j, none⟩ u) := by
  have hk : Kept (fun k => k = gb) wx (wx.setCell ⟨gb, j, none⟩ u) := (Kept.refl (fun k => k = gb) wx).store ⟨gb, j, none⟩ rfl _
  refine ⟨h.below.setCell (p := ⟨gb, j, none⟩) hB _, h.done.stay hk hp, hg, ?_, owns_kept h.kids hk (owns_off h.kids hp (by decide))⟩
  exact (hk.block wb h.want.lt hne).trans h.want

theorem third_first {w wx : World} {B t gb kg kc wb : Nat} {l1 l2 : List UInt8} (hB : w.heap.size ≤ gb) (hne : wb ≠ gb) (h1 : oneIf l1 = 1) (h : ThirdAt w B t gb kg kc wb l1 l2 0 wx) : PairAt wx gb ⟨#[]⟩ ⟨#[]⟩ ∧ Hid (ThirdAt w B t gb kg kc wb l1 l2 1 (wx.setCell ⟨gb, 0, none⟩ (.string (txt l1)))) := by
  have hg := h.got
  rw [if_pos rfl, if_pos (by omega)] at hg
  have hg2 := hg.set0 (txt l1)
  refine ⟨hg, third_put hB hne _ _ h _ ?_ hg⟩
  rw [if_neg (by omega), if_pos (by omega)]
  exact hg2
theorem third_last {w wx : World} {B t gb kg kc wb : Nat} {l1 l2 : List UInt8} (hB : w.heap.size ≤ gb) (hne : wb ≠ gb) (h : ThirdAt w B t gb kg kc wb l1 l2 (oneIf l1 + 1) wx) : PairAt wx gb (txt l1) ⟨#[]⟩ ∧ Hid (ThirdAt w B t gb kg kc wb l1 l2 (oneIf l1 + 1 + 1) (wx.setCell ⟨gb, 1, none⟩ (.string (txt l2)))) := by
  have hg := h.got
  rw [if_neg (by omega), if_pos (by omega)] at hg
  have hg2 := hg.set1 (txt l2)
  refine ⟨hg, third_put hB hne _ _ h _ ?_ hg⟩
  rw [if_neg (by omega), if_neg (by omega)]
  exact hg2
theorem third_end {w wx : World} {B t gb kg kc wb : Nat} {l1 l2 : List UInt8} (h : ThirdAt w B t gb kg kc wb l1 l2 (numKids l1 l2) wx) : PairAt wx gb (txt l1) (txt l2) := by
  have hg := h.got
  unfold numKids at hg
  rw [if_neg (by omega)] at hg
  by_cases h0 : oneIf l2 = 0
  · rw [if_pos (by omega)] at hg
    rw [oneIf_nil h0]
    exact hg
  · rw [if_neg (by omega)] at hg
    exact hg
theorem third_kid {w wx : World} {B t gb kg kc wb : Nat} {l1 l2 : List UInt8} {m m' : Nat} (h : ThirdAt w B t gb kg kc wb l1 l2 m' wx) (hm : m < numKids l1 l2) : wx.cell? ⟨kg, m, none⟩ = some (.int .i64 ((m + 1 : Nat) : Int)) :=
  owns_at h.kids m _ (by simp [intC, hm])
theorem third_get {w wx : World} {B t gb kg kc wb : Nat} {l1 l2 : List UInt8} {m : Nat} (h : ThirdAt w B t gb kg kc wb l1 l2 m wx) (n : Nat) (kind : Int) (l : List UInt8) (hl : l.length ≤ 1000000) (hn : ∀ cs, (l1 ≠ [] → NodeAt wx B cs 1 3 l1) ∧ NodeAt wx B cs (oneIf l1 + 1) 4 [] ∧ (l2 ≠ [] → NodeAt wx B cs (oneIf l1 + 2) 3 l2) → NodeAt wx B cs n kind l) :
    Calls Try.prog 13 #[.pointer (some ⟨t, 0, none⟩), .int .i64 (n : Int)] wx fun e w' => ∃ (at' : Int) (nm : ByteArray), e = .returned (.tuple #[.agg #[.int .i64 kind, .int .i64 at', .string nm, .string (txt l), .slice none 0 0], .bool true]) ∧ Below wx.heap.size wx w' := by
  obtain ⟨g, cap, cs, cp, hT, hp, hO, h1⟩ := h.done.out
  obtain ⟨c, a1, a2, a3, a4, a5⟩ := (hn cs h1).out
  refine (get_in t B g cap cs n c l wx hT a1 a3 a4 a5 hl).mono ?_
  rintro e w' ⟨rfl, hb⟩
  rw [a2]
  exact ⟨_, _, rfl, hb⟩

theorem pair_in (x y : ByteArray) (w : World) (d : Nat) : (Op.equalIn (d + 1 + 1) 60 (.agg #[.string x, .string y]) (.agg #[.string x, .string y])).run Try.prog w = .ok true w := by
  have h9 : ∀ a w, (Op.equalIn (d + 1) 9 (.string a) (.string a)).run Try.prog w = .ok true w := fun a w => by
    rw [run_equalIn_string w d 9 a a Try.underlying9]
    simp
  have hp0 : ∀ w, (part 9 #[.string x, .string y] 0).run Try.prog w = .ok (.string x) w := fun w => by kernel_rfl
  have hp1 : ∀ w, (part 9 #[.string x, .string y] 1).run Try.prog w = .ok (.string y) w := fun w => by kernel_rfl
  have hs : ∀ w, (sizeOf 9).run Try.prog w = .ok 1 w := fun w => by kernel_rfl
  rw [Op.equalIn]
  generalize Op.equalIn (d + 1) = E at *
  simp only [Sem.run_bind, run_underlying Try.underlying60, Result.andThen_ok, hs]
  simp [Std.Legacy.Range.forIn_eq_forIn_range', List.range', Std.Legacy.Range.size, hp0, hp1, h9]
theorem pair_eql (x y : ByteArray) (w : World) : (binOp .eql 60 (.agg #[.string x, .string y]) (.agg #[.string x, .string y])).run Try.prog w = .ok (.bool true) w := by
  rw [run_eql_struct, pair_in x y w 9998]
  rfl

theorem innerA_eq {w wr : World} {P : List UInt8 → World → Prop} {wb : Nat} {l l' : List UInt8} (e : l' = l) (h : Hid (InnerA w P wb l wr)) : Hid (InnerA w P wb l' wr) := by
  subst e
  exact h
theorem innerB_eq {w wr : World} {P : List UInt8 → World → Prop} {wb : Nat} {l0 l l' : List UInt8} (e : l' = l) (h : Hid (InnerB w P wb l0 l wr)) : Hid (InnerB w P wb l0 l' wr) := by
  subst e
  exact h
theorem outer_one {w wr : World} {B wb n : Nat} {A : List Int} {eB : List UInt8} {P : List UInt8 → World → Prop} (hP : Hid (StageA B (B + 1) = P)) (hn : n = min A.length 100) (h : Hid (InnerA w P wb (encOf A n) wr)) : Hid (OuterAt w B (B + 1) wb (encAll A) eB 1 wr) := by
  have h1 := h.out
  rw [hn, ← hP.out] at h1
  exact ⟨h1.below, .inr (.inl ⟨rfl, h1.tree, h1.pair⟩)⟩
theorem outer_two {w wr : World} {B wb n : Nat} {Z : List Int} {eA : List UInt8} {P : List UInt8 → World → Prop} (hP : Hid (StageB B (B + 1) eA = P)) (hn : n = min Z.length 100) (h : Hid (InnerB w P wb eA (encOf Z n) wr)) : Hid (OuterAt w B (B + 1) wb eA (encAll Z) 2 wr) := by
  have h1 := h.out
  rw [hn, ← hP.out] at h1
  exact ⟨h1.below, .inr (.inr ⟨rfl, h1.tree, h1.pair⟩)⟩

set_option maxRecDepth 100000 in
set_option maxHeartbeats 8000000 in
theorem dtexts_law (a : Option Addr) (ca : Nat) (A : List Int) (b : Option Addr) (cb : Nat) (Z : List Int) (w : World) (hA : IntsAt w a A) (hZ : IntsAt w b Z) :
    Calls Try.prog 7 #[.slice a A.length ca, .slice b Z.length cb] w fun e w' => e = .returned (.bool true) ∧ Below w.heap.size w w' := by
  have HA : Hid _ := hA
  have HZ : Hid _ := hZ
  clear hA hZ
  go_enter Try.func7, Try.ntmps7
  go_wp2_with fail
  refine Calls.mono (domSpeaks w) ?_
  rintro e w1 ⟨rfl, hb1⟩
  have HB1 : Hid (Below w.heap.size w w1) := hb1
  clear hb1
  go_wp2_with fail
  refine Calls.mono (domNew_any w1) ?_
  rintro e w2 ⟨rfl, hT2, hb2⟩
  have HS2 : Hid (StageA w1.heap.size (w1.heap.size + 1) [] w2) := .inl ⟨rfl, _, _, hT2⟩
  have HB2 : Hid (Below w.heap.size w w2) := HB1.out.trans (hb2.mono HB1.out.size)
  have hlt := hT2.tlt
  have hle : w.heap.size ≤ w1.heap.size := HB1.out.size
  clear hb2 hT2 HB1
  go_upto_region 5 with fail
  have HO : Hid (OuterAt w w1.heap.size (w1.heap.size + 1) w2.heap.size (encAll A) (encAll Z) 0 (w2.alloc (.cells #[.string ⟨#[]⟩, .string ⟨#[]⟩] 60))) := by
    refine ⟨HB2.out.alloc HB2.out.size _, .inl ⟨rfl, ?_, heap_alloc_new w2 _⟩⟩
    rcases HS2.out with ⟨_, g, cap, h⟩ | ⟨h, _⟩
    · exact .inl ⟨rfl, g, cap, h.below ((Below.refl _ _).alloc (Nat.le_refl _) _)⟩
    · exact absurd rfl h
  clear HS2 HB2
  have HG : Hid (w.heap.size ≤ w1.heap.size ∧ w1.heap.size ≤ w2.heap.size) := ⟨hle, by omega⟩
  generalize w2.alloc (.cells #[.string ⟨#[]⟩, .string ⟨#[]⟩] 60) = w3 at *
  clear hlt hle
  generalize w2.heap.size = wb at *
  generalize w1.heap.size = B at *
  go_wp2
  go_loopw [7] (fun k wr => ∃ j : Nat, j ≤ 2 ∧ k = .int .i64 j ∧ Hid (OuterAt w B (B + 1) wb (encAll A) (encAll Z) j wr)) (fun k _ => 2 - (intOf k).toNat)
  case atStart => exact ⟨0, by omega, rfl, HO⟩
  case round =>
    clear HO
    obtain ⟨j, hj, rfl, HO⟩ := hrel
    rcases HO.out.stage with ⟨rfl, hS, hP⟩ | ⟨rfl, hS, hP⟩ | ⟨rfl, hS, hP⟩
    · rw [show ((0 : Nat) : Int) = 0 from rfl]
      have HF : Hid (Face B (B + 1) wb (StageA B (B + 1))) := stageA_face _ _ _
      have HI : Hid (InnerA w (StageA B (B + 1)) wb (encOf A 0) wr) := ⟨HO.out.below, hS, hP⟩
      clear hS hP HO hj
      obtain ⟨P, hPe⟩ : ∃ P, StageA B (B + 1) = P := ⟨_, rfl⟩
      have HPE : Hid (StageA B (B + 1) = P) := hPe
      rw [hPe] at HF HI
      clear hPe
      go_wp2
      go_loopw [9] (fun i wx => ∃ n : Nat, n ≤ A.length ∧ n ≤ 100 ∧ i = .int .i64 n ∧ Hid (InnerA w P wb (encOf A n) wx)) (fun i _ => 100 - (intOf i).toNat)
      case atStart => exact ⟨0, Nat.zero_le _, by omega, rfl, HI⟩
      case round =>
        clear HI
        obtain ⟨n, hn, hn5, rfl, HI⟩ := hrel
        by_cases hin : n < A.length ∧ n < 100
        · obtain ⟨h1, h2⟩ := hin
          obtain ⟨ad, rfl, cz⟩ := (HA.out.later HI.out.below).out n h1
          have hz0 : A[n]? = some A[n] := List.getElem?_eq_getElem h1
          have HY : Hid (scalarI (maskI A[n]) = true → encOf A (n + 1) = encOf A n ++ Lib.encodeRune (maskI A[n])) := encOf_yes hz0
          have HNO : Hid (scalarI (maskI A[n]) = false → encOf A (n + 1) = encOf A n) := encOf_no hz0
          have HLN : Hid ((encOf A n).length ≤ 4 * n) := encOf_len A n
          clear hz0
          generalize A[n] = z at cz HY HNO
          obtain ⟨y, hy, hye⟩ := i64_mask21 z
          have HM : Hid (maskI z = (y : Int)) := hye
          rw [HM.out] at HY HNO
          have hI : (n : Int) < (A.length : Int) := by omega
          have hI5 : (n : Int) < 100 := by omega
          cases hs : scalarI (y : Int)
          · have HC : Hid _ := HF.out.bad _ _ (y : Int) (n : Int) HI.out.tree hs
            have HR := innerA_eq (HNO.out hs) HI
            have hor : (¬ (y : Int) ≤ 1114111) ∨ ((y : Int) ≤ 1114111 ∧ ¬ (y : Int) < 55296 ∧ ¬ (57343 : Int) < (y : Int)) := by
              unfold scalarI at hs
              simp only [Bool.and_eq_false_iff, Bool.or_eq_false_iff, decide_eq_false_iff_not] at hs
              omega
            clear hs HY HNO HM HLN
            rcases hor with k1 | ⟨k1, k2, k3⟩
            all_goals
              go_wp2_with fail
              refine Calls.mono HC.out ?_
              rintro e w3 ⟨rfl, rfl⟩
              go_wp2
              go_roundw
              case rel => exact ⟨n + 1, by omega, by omega, by go_num, HR⟩
              case measure => simp only [intOf]; go_num
          · have HC : Hid _ := HF.out.write _ _ (y : Int) (n : Int) HI.out.tree hs (by have := HLN.out; omega)
            have hor : ((y : Int) ≤ 1114111 ∧ (y : Int) < 55296) ∨ ((y : Int) ≤ 1114111 ∧ ¬ (y : Int) < 55296 ∧ (57343 : Int) < (y : Int)) := by
              unfold scalarI at hs
              simp only [Bool.and_eq_true, Bool.or_eq_true, decide_eq_true_eq] at hs
              omega
            have HW32 : Hid (IntKind.i32.wrap (y : Int) = (y : Int)) := by show _ = _; simp [IntKind.wrap, IntKind.bits, IntKind.signed]; omega
            have HE : Hid (Utf8.encode (y : Int) = txt (Lib.encodeRune (y : Int))) := enc_eq _ hs
            have HES : Hid ((txt (encOf A n)).size ≤ 400 ∧ (txt (Lib.encodeRune (y : Int))).size ≤ 4) := by
              rw [txt_size, txt_size]
              have := HLN.out
              exact ⟨by omega, (enc_len _).2⟩
            have HQ : Hid (encOf A (n + 1) = encOf A n ++ Lib.encodeRune (y : Int)) := HY.out hs
            clear hs HY HNO HM HLN
            rcases hor with ⟨k1, k2⟩ | ⟨k1, k2, k3⟩
            all_goals
              go_wp2_with fail
              refine Calls.mono HC.out ?_
              rintro e w3 ⟨rfl, hP3, hr3⟩
              obtain ⟨hp3, HN⟩ := HI.out.next HF.out HG.out.1 HG.out.2 hP3 hr3
              rw [← HQ.out] at HN
              have q0 := hp3.c0
              have qf := hp3.fz 0
              clear hP3 hr3 hp3
              go_upto_region 21 with fail
              obtain ⟨hs1, hs2⟩ := HES.out
              have hwr := HW32.out
              have hE := HE.out
              clear HW32 HE HES HC HI HQ hye hy k1 k2
              try clear k3
              generalize txt (Lib.encodeRune (y : Int)) = E at *
              generalize txt (encOf A n) = X at *
              generalize (y : Int) = yy at *
              go_wp2
              go_roundw
              case rel => exact ⟨n + 1, by omega, by omega, by go_num, HN⟩
              case measure => simp only [intOf]; go_num
        · have hmn : n = min A.length 100 := by omega
          have HR := outer_one (eB := encAll Z) HPE hmn HI
          clear HI HF hmn HPE
          rcases (show (¬ (n : Int) < (A.length : Int)) ∨ ((n : Int) < (A.length : Int) ∧ ¬ (n : Int) < 100) by omega) with k1 | ⟨k1, k2⟩
          all_goals
            go_wp2
            go_roundw
            case rel => exact ⟨0+1, by omega, by go_num, HR⟩
            case measure => simp [intOf]
    · rw [show ((1 : Nat) : Int) = 1 from rfl]
      have HC : Hid _ := note_any B (B + 1) (encAll A) wr hS
      have HPR : Hid _ := hP
      have HBW : Hid _ := HO.out.below
      clear hS hP HO hj
      go_wp2_with fail
      refine Calls.mono HC.out ?_
      rintro e wm ⟨nn, rfl, HPU⟩
      go_wp2_with fail
      refine Calls.mono HPU.out ?_
      rintro e wp ⟨rfl, hS2, hr2⟩
      have HF : Hid (Face B (B + 1) wb (StageB B (B + 1) (encAll A))) := stageB_face _ _ _ _
      have HI : Hid (InnerB w (StageB B (B + 1) (encAll A)) wb (encAll A) (encOf Z 0) wp) := ⟨HBW.out.trans (hr2.below.mono HG.out.1), hS2, PairAt.rest HPR.out hr2⟩
      clear hS2 hr2 HPU HC HPR HBW
      obtain ⟨P, hPe⟩ : ∃ P, StageB B (B + 1) (encAll A) = P := ⟨_, rfl⟩
      have HPE : Hid (StageB B (B + 1) (encAll A) = P) := hPe
      rw [hPe] at HF HI
      clear hPe
      go_wp2
      go_loopw [9] (fun i wx => ∃ n : Nat, n ≤ Z.length ∧ n ≤ 100 ∧ i = .int .i64 n ∧ Hid (InnerB w P wb (encAll A) (encOf Z n) wx)) (fun i _ => 100 - (intOf i).toNat)
      case atStart => exact ⟨0, Nat.zero_le _, by omega, rfl, HI⟩
      case round =>
        clear HI
        obtain ⟨n, hn, hn5, rfl, HI⟩ := hrel
        by_cases hin : n < Z.length ∧ n < 100
        · obtain ⟨h1, h2⟩ := hin
          obtain ⟨ad, rfl, cz⟩ := (HZ.out.later HI.out.below).out n h1
          have hz0 : Z[n]? = some Z[n] := List.getElem?_eq_getElem h1
          have HY : Hid (scalarI (maskI Z[n]) = true → encOf Z (n + 1) = encOf Z n ++ Lib.encodeRune (maskI Z[n])) := encOf_yes hz0
          have HNO : Hid (scalarI (maskI Z[n]) = false → encOf Z (n + 1) = encOf Z n) := encOf_no hz0
          have HLN : Hid ((encOf Z n).length ≤ 4 * n) := encOf_len Z n
          clear hz0
          generalize Z[n] = z at cz HY HNO
          obtain ⟨y, hy, hye⟩ := i64_mask21 z
          have HM : Hid (maskI z = (y : Int)) := hye
          rw [HM.out] at HY HNO
          have hI : (n : Int) < (Z.length : Int) := by omega
          have hI5 : (n : Int) < 100 := by omega
          cases hs : scalarI (y : Int)
          · have HC : Hid _ := HF.out.bad _ _ (y : Int) (n : Int) HI.out.tree hs
            have HR := innerB_eq (HNO.out hs) HI
            have hor : (¬ (y : Int) ≤ 1114111) ∨ ((y : Int) ≤ 1114111 ∧ ¬ (y : Int) < 55296 ∧ ¬ (57343 : Int) < (y : Int)) := by
              unfold scalarI at hs
              simp only [Bool.and_eq_false_iff, Bool.or_eq_false_iff, decide_eq_false_iff_not] at hs
              omega
            clear hs HY HNO HM HLN
            rcases hor with k1 | ⟨k1, k2, k3⟩
            all_goals
              go_wp2_with fail
              refine Calls.mono HC.out ?_
              rintro e w3 ⟨rfl, rfl⟩
              go_wp2
              go_roundw
              case rel => exact ⟨n + 1, by omega, by omega, by go_num, HR⟩
              case measure => simp only [intOf]; go_num
          · have HC : Hid _ := HF.out.write _ _ (y : Int) (n : Int) HI.out.tree hs (by have := HLN.out; omega)
            have hor : ((y : Int) ≤ 1114111 ∧ (y : Int) < 55296) ∨ ((y : Int) ≤ 1114111 ∧ ¬ (y : Int) < 55296 ∧ (57343 : Int) < (y : Int)) := by
              unfold scalarI at hs
              simp only [Bool.and_eq_true, Bool.or_eq_true, decide_eq_true_eq] at hs
              omega
            have HW32 : Hid (IntKind.i32.wrap (y : Int) = (y : Int)) := by show _ = _; simp [IntKind.wrap, IntKind.bits, IntKind.signed]; omega
            have HE : Hid (Utf8.encode (y : Int) = txt (Lib.encodeRune (y : Int))) := enc_eq _ hs
            have HES : Hid ((txt (encOf Z n)).size ≤ 400 ∧ (txt (Lib.encodeRune (y : Int))).size ≤ 4) := by
              rw [txt_size, txt_size]
              have := HLN.out
              exact ⟨by omega, (enc_len _).2⟩
            have HQ : Hid (encOf Z (n + 1) = encOf Z n ++ Lib.encodeRune (y : Int)) := HY.out hs
            clear hs HY HNO HM HLN
            rcases hor with ⟨k1, k2⟩ | ⟨k1, k2, k3⟩
            all_goals
              go_wp2_with fail
              refine Calls.mono HC.out ?_
              rintro e w3 ⟨rfl, hP3, hr3⟩
              obtain ⟨hp3, HN⟩ := HI.out.next HF.out HG.out.1 HG.out.2 hP3 hr3
              rw [← HQ.out] at HN
              have q0 := hp3.c1
              have qf := hp3.fz 1
              clear hP3 hr3 hp3
              go_upto_region 21 with fail
              obtain ⟨hs1, hs2⟩ := HES.out
              have hwr := HW32.out
              have hE := HE.out
              clear HW32 HE HES HC HI HQ hye hy k1 k2
              try clear k3
              generalize txt (Lib.encodeRune (y : Int)) = E at *
              generalize txt (encOf Z n) = X at *
              generalize (y : Int) = yy at *
              go_wp2
              go_roundw
              case rel => exact ⟨n + 1, by omega, by omega, by go_num, HN⟩
              case measure => simp only [intOf]; go_num
        · have hmn : n = min Z.length 100 := by omega
          have HR := outer_two HPE hmn HI
          clear HI HF hmn HPE
          rcases (show (¬ (n : Int) < (Z.length : Int)) ∨ ((n : Int) < (Z.length : Int) ∧ ¬ (n : Int) < 100) by omega) with k1 | ⟨k1, k2⟩
          all_goals
            go_wp2
            go_roundw
            case rel => exact ⟨1+1, by omega, by go_num, HR⟩
            case measure => simp [intOf]
    · rw [show ((2 : Nat) : Int) = 2 from rfl]
      have HD : Hid _ := done_of B (B + 1) (encAll A) (encAll Z) wr hS
      have HPW : Hid _ := hP
      have HBW : Hid _ := HO.out.below
      clear hS hP HO hj HA HZ
      have HL : Hid ((encAll A).length ≤ 1000000 ∧ (encAll Z).length ≤ 1000000) := by
        have h1 := encOf_len A (min A.length 100)
        have h2 := encOf_len Z (min Z.length 100)
        exact ⟨by unfold encAll; omega, by unfold encAll; omega⟩
      generalize encAll A = l1 at *
      generalize encAll Z = l2 at *
      go_wp2_with fail
      have hbG : Below wr.heap.size wr (wr.alloc (.cells #[.string ⟨#[]⟩, .string ⟨#[]⟩] 60)) := (Below.refl _ _).alloc (Nat.le_refl _) _
      have HG2 : Hid (PairAt (wr.alloc (.cells #[.string ⟨#[]⟩, .string ⟨#[]⟩] 60)) wr.heap.size (txt []) (txt [])) := heap_alloc_new wr _
      have HPG : Hid _ := PairAt.below HPW.out hbG
      have HDG : Hid _ := HD.out.below hbG
      have HBG : Hid (Below w.heap.size w (wr.alloc (.cells #[.string ⟨#[]⟩, .string ⟨#[]⟩] 60))) := HBW.out.trans (hbG.mono HBW.out.size)
      have HNE : Hid (w.heap.size ≤ wr.heap.size ∧ wb ≠ wr.heap.size) := ⟨HBW.out.size, by have := PairAt.lt HPW.out; omega⟩
      clear hbG HD HPW HBW
      generalize wr.alloc (.cells #[.string ⟨#[]⟩, .string ⟨#[]⟩] 60) = wg at *
      generalize wr.heap.size = gb at *
      obtain ⟨g, cap, cs, cp, hT, hp, hO, _⟩ := HDG.out.out
      have hnk : numKids l1 l2 ≤ 3 ∧ 0 < numKids l1 l2 ∧ oneIf l1 ≤ 1 ∧ oneIf l2 ≤ 1 := by unfold numKids oneIf; split <;> split <;> omega
      have HNK : Hid (numKids l1 l2 = oneIf l1 + 1 + oneIf l2) := rfl
      have HK : Hid _ := kids_in (B + 1) B g cap cs 0 cp _ wg hT hp hO (by simp; omega)
      clear hT hp hO
      refine Calls.mono HK.out ?_
      rintro e wk ⟨v', rfl, hOk, hbk⟩
      rw [show ((List.range (numKids l1 l2)).map (· + 1)).length = numKids l1 l2 by simp] at hOk
      obtain ⟨kg, kc, rfl⟩ := Joins.ownsRow_form hOk hnk.2.1
      have HT : Hid (ThirdAt w B (B + 1) gb kg kc wb l1 l2 0 wk) := ⟨HBG.out.trans (hbk.mono HBG.out.size), HDG.out.below hbk, by
        have h := PairAt.below HG2.out hbk
        rw [if_pos rfl, if_pos (by omega)]
        exact h, PairAt.below HPG.out hbk, owns_base hOk (by have := HDG.out.out; obtain ⟨_, _, _, _, h, _⟩ := this; exact h.le)⟩
      clear hOk hbk HK HG2 HPG HDG HBG
      have hb0 : bits .and .i64 0 1 = 0 := by decide
      have hb1 : bits .and .i64 1 1 = 1 := by decide
      go_wp2
      go_loopw [14, 16] (fun k i wx => ∃ m : Nat, m ≤ numKids l1 l2 ∧ i = .int .i64 m ∧ k = .int .i64 (if m ≤ oneIf l1 then 0 else 1) ∧ Hid (ThirdAt w B (B + 1) gb kg kc wb l1 l2 m wx)) (fun _ i _ => numKids l1 l2 - (intOf i).toNat)
      case atStart => exact ⟨0, Nat.zero_le _, rfl, by rw [if_pos (Nat.zero_le _)], HT⟩
      case round =>
        clear HT
        obtain ⟨m, hm, rfl, rfl, HT⟩ := hrel
        by_cases hlt : m < numKids l1 l2
        · have ck := third_kid HT.out hlt
          obtain ⟨n, hn⟩ : ∃ n, n = m + 1 := ⟨_, rfl⟩
          rw [← hn] at ck
          have HN : Hid (n = m + 1) := hn
          have hI : (m : Int) < (numKids l1 l2 : Int) := by omega
          clear hn
          rcases (show (m < oneIf l1) ∨ m = oneIf l1 ∨ (m = oneIf l1 + 1 ∧ oneIf l2 = 1) by have := HNK.out; omega) with h1 | h1 | ⟨h1, h2⟩
          · have h0 : m = 0 := by omega
            have ho : oneIf l1 = 1 := by omega
            have hne : l1 ≠ [] := by
              intro e
              rw [e] at ho
              exact absurd ho (by decide)
            have HC : Hid _ := third_get HT.out n 3 l1 HL.out.1 (fun cs hh => by
              have := hh.1 hne
              rw [HN.out, h0]
              exact this)
            rw [if_pos (show m ≤ oneIf l1 by omega)]
            have HNX : Hid (∀ wy, Below wr.heap.size wr wy → PairAt wy gb ⟨#[]⟩ ⟨#[]⟩ ∧ Hid (ThirdAt w B (B + 1) gb kg kc wb l1 l2 (m + 1) (wy.setCell ⟨gb, 0, none⟩ (.string (txt l1))))) := by
              intro wy hb
              have h := HT.out.later hb
              rw [h0] at h ⊢
              exact third_first HNE.out.1 HNE.out.2 ho h
            have HK1 : Hid ((if m + 1 ≤ oneIf l1 then (0 : Int) else 1) = 0) := by
              show _ = _
              rw [if_pos (by omega)]
            clear hne ho HT h1 h0
            go_wp2_with fail
            refine Calls.mono HC.out ?_
            rintro e wy ⟨at', nm, rfl, hby⟩
            obtain ⟨hp, HNZ⟩ := HNX.out (wy.alloc (.cells #[.int .i64 3, .int .i64 at', .string nm, .string (txt l1), .slice none 0 0] 38)) (hby.alloc hby.size _)
            have q0 := hp.c0
            have qf := hp.fz 0
            clear HNX HC hby hp ck
            generalize txt l1 = X at *
            go_wp2
            go_roundw
            case rel => exact ⟨m + 1, by omega, by go_num, by rw [HK1.out], HNZ⟩
            case measure => simp only [intOf]; go_num
          · have HC : Hid _ := third_get HT.out n 4 [] (by decide) (fun cs hh => by
              have := hh.2.1
              rw [HN.out, h1]
              exact this)
            rw [if_pos (show m ≤ oneIf l1 by omega)]
            have HNX : Hid (∀ wy, Below wr.heap.size wr wy → Hid (ThirdAt w B (B + 1) gb kg kc wb l1 l2 (m + 1) wy)) := by
              intro wy hb
              have h := HT.out.later hb
              rw [h1] at h ⊢
              exact third_note h
            have HK1 : Hid ((if m + 1 ≤ oneIf l1 then (0 : Int) else 1) = 1) := by
              show _ = _
              rw [if_neg (by omega)]
            clear HT h1
            go_wp2_with fail
            refine Calls.mono HC.out ?_
            rintro e wy ⟨at', nm, rfl, hby⟩
            have HNZ := HNX.out (wy.alloc (.cells #[.int .i64 4, .int .i64 at', .string nm, .string (txt []), .slice none 0 0] 38)) (hby.alloc hby.size _)
            clear HNX HC hby ck
            generalize txt [] = X at *
            go_wp2
            go_roundw
            case rel => exact ⟨m + 1, by omega, by go_num, by rw [HK1.out], HNZ⟩
            case measure => simp only [intOf]; go_num
          · have hne : l2 ≠ [] := by
              intro e
              rw [e] at h2
              exact absurd h2 (by decide)
            have HC : Hid _ := third_get HT.out n 3 l2 HL.out.2 (fun cs hh => by
              have := hh.2.2 hne
              rw [HN.out, h1]
              exact this)
            rw [if_neg (show ¬ m ≤ oneIf l1 by omega)]
            have HNX : Hid (∀ wy, Below wr.heap.size wr wy → PairAt wy gb (txt l1) ⟨#[]⟩ ∧ Hid (ThirdAt w B (B + 1) gb kg kc wb l1 l2 (m + 1) (wy.setCell ⟨gb, 1, none⟩ (.string (txt l2))))) := by
              intro wy hb
              have h := HT.out.later hb
              rw [h1] at h ⊢
              exact third_last HNE.out.1 HNE.out.2 h
            have HK1 : Hid ((if m + 1 ≤ oneIf l1 then (0 : Int) else 1) = 1) := by
              show _ = _
              rw [if_neg (by omega)]
            clear hne HT h1 h2
            go_wp2_with fail
            refine Calls.mono HC.out ?_
            rintro e wy ⟨at', nm, rfl, hby⟩
            obtain ⟨hp, HNZ⟩ := HNX.out (wy.alloc (.cells #[.int .i64 3, .int .i64 at', .string nm, .string (txt l2), .slice none 0 0] 38)) (hby.alloc hby.size _)
            have q1 := hp.c1
            have qf := hp.fz 1
            clear HNX HC hby hp ck
            generalize txt l2 = X at *
            go_wp2
            go_roundw
            case rel => exact ⟨m + 1, by omega, by go_num, by rw [HK1.out], HNZ⟩
            case measure => simp only [intOf]; go_num
        · obtain rfl : m = numKids l1 l2 := by omega
          have hp := third_end HT.out
          have hw := HT.out.want
          have HBX : Hid _ := HT.out.below
          rw [if_neg (show ¬ numKids l1 l2 ≤ oneIf l1 by have := HNK.out; omega)]
          have p0 := hp.c0
          have p1 := hp.c1
          have p2 := PairAt.c0 hw
          have p3 := PairAt.c1 hw
          have hq := pair_eql (txt l1) (txt l2)
          clear HT hp hw
          generalize txt l1 = X at *
          generalize txt l2 = Y at *
          go_wp2
          go_ret
          exact ⟨rfl, HBX.out⟩
end Go.Proofs.Ytopecjchflknbaa
