/-
  Two entries: alike or not, as the reference has it; the law.
-/
import Derived.Test.YtalbiekleggkoaaMaPair
import Derived.Deep.RegionHeld3
namespace Go.Proofs.Ytalbiekleggkoaa
open Go.RowKit Go.Maps

/-- An entry's value. -/
def meV (nd : Int) (nm : ByteArray) (v : Option Addr) (n c : Nat) : Value := .agg #[.int .i64 nd, .string nm, .slice v n c]

/-- Both arguments in their boxes. -/
structure BxAt (w : World) (A B : Array Value) (W : World) : Prop where
  bel : Below w.heap.size w W
  a : W.heap[w.heap.size]? = some (.cells A 55)
  b : W.heap[w.heap.size + 1]? = some (.cells B 55)
theorem BxAt.below {w W W' : World} {A B : Array Value} (h : BxAt w A B W) (hb : Below W.heap.size W W') : BxAt w A B W' :=
  ⟨h.bel.trans (hb.mono h.bel.size), (hb.block _ (Array.getElem?_eq_some_iff.1 h.a).1).trans h.a, (hb.block _ (Array.getElem?_eq_some_iff.1 h.b).1).trans h.b⟩
theorem BxAt.made (w : World) (A B : Array Value) : BxAt w A B ((w.alloc (.cells A 55)).alloc (.cells B 55)) := by
  have hz : (w.alloc (.cells A 55)).heap.size = w.heap.size + 1 := by simp
  refine ⟨((Below.refl _ _).alloc (Nat.le_refl _) _).alloc (by simp) _, ?_, ?_⟩
  · rw [heap_alloc_old _ _ (by omega), heap_alloc_new]
  · have := heap_alloc_new (w.alloc (.cells A 55)) (.cells B 55)
    rw [hz] at this
    exact this

/-- An entry, twice, in its two variables. -/
structure TwAt (s : Nat) (nd : Int) (nm : ByteArray) (va : Option Addr) (ca : Nat) (vb : Option Addr) (cb : Nat) (l : List Atr) (W : World) : Prop where
  x : W.heap[s]? = some (.cells #[.int .i64 nd, .string nm, .slice va l.length ca] 58)
  y : W.heap[s + 1]? = some (.cells #[.int .i64 nd, .string nm, .slice vb l.length cb] 61)
  ra : AtrsAt W va l
  rb : AtrsAt W vb l
theorem TwAt.below {s : Nat} {nd : Int} {nm : ByteArray} {va : Option Addr} {ca : Nat} {vb : Option Addr} {cb : Nat} {l : List Atr} {W W' : World} (h : TwAt s nd nm va ca vb cb l W) (hb : Below W.heap.size W W') : TwAt s nd nm va ca vb cb l W' :=
  ⟨(hb.block _ (Array.getElem?_eq_some_iff.1 h.x).1).trans h.x, (hb.block _ (Array.getElem?_eq_some_iff.1 h.y).1).trans h.y, h.ra.below hb, h.rb.below hb⟩
theorem TwAt.made {w W : World} {A B : Array Value} (h : BxAt w A B W) (nd : Int) (nm : ByteArray) (va : Option Addr) (ca : Nat) (vb : Option Addr) (cb : Nat) (l : List Atr) (ra : AtrsAt W va l) (rb : AtrsAt W vb l) :
    Below W.heap.size W ((W.alloc (.cells #[.int .i64 nd, .string nm, .slice va l.length ca] 58)).alloc (.cells #[.int .i64 nd, .string nm, .slice vb l.length cb] 61)) ∧
    BxAt w A B ((W.alloc (.cells #[.int .i64 nd, .string nm, .slice va l.length ca] 58)).alloc (.cells #[.int .i64 nd, .string nm, .slice vb l.length cb] 61)) ∧
    TwAt W.heap.size nd nm va ca vb cb l ((W.alloc (.cells #[.int .i64 nd, .string nm, .slice va l.length ca] 58)).alloc (.cells #[.int .i64 nd, .string nm, .slice vb l.length cb] 61)) := by
  have hz : (W.alloc (.cells #[.int .i64 nd, .string nm, .slice va l.length ca] 58)).heap.size = W.heap.size + 1 := by simp
  have hb : Below W.heap.size W ((W.alloc (.cells #[.int .i64 nd, .string nm, .slice va l.length ca] 58)).alloc (.cells #[.int .i64 nd, .string nm, .slice vb l.length cb] 61)) := ((Below.refl _ _).alloc (Nat.le_refl _) _).alloc (by simp) _
  refine ⟨hb, h.below hb, ?_, ?_, ra.below hb, rb.below hb⟩
  · rw [heap_alloc_old _ _ (by omega), heap_alloc_new]
  · have := heap_alloc_new (W.alloc (.cells #[.int .i64 nd, .string nm, .slice va l.length ca] 58)) (.cells #[.int .i64 nd, .string nm, .slice vb l.length cb] 61)
    rw [hz] at this
    exact this

/-- What the law's last statement reads. -/
structure AllAt (w W0 : World) (s s2 : Nat) (nd : Int) (nm : ByteArray) (va : Option Addr) (ca : Nat) (vb : Option Addr) (cb : Nat) (D : List Atr) (nd1 : Int) (nm1 : ByteArray) (va1 : Option Addr) (ca1 : Nat) (vb1 : Option Addr) (cb1 : Nat) (D1 : List Atr) (W : World) : Prop where
  bel : Below w.heap.size w W
  bel0 : Below W0.heap.size W0 W
  one : TwAt s nd nm va ca vb cb D W
  two : TwAt s2 nd1 nm1 va1 ca1 vb1 cb1 D1 W
theorem AllAt.below {w W0 W W' : World} {s s2 : Nat} {nd : Int} {nm : ByteArray} {va : Option Addr} {ca : Nat} {vb : Option Addr} {cb : Nat} {D : List Atr} {nd1 : Int} {nm1 : ByteArray} {va1 : Option Addr} {ca1 : Nat} {vb1 : Option Addr} {cb1 : Nat} {D1 : List Atr} (h : AllAt w W0 s s2 nd nm va ca vb cb D nd1 nm1 va1 ca1 vb1 cb1 D1 W) (hb : Below W.heap.size W W') : AllAt w W0 s s2 nd nm va ca vb cb D nd1 nm1 va1 ca1 vb1 cb1 D1 W' :=
  ⟨h.bel.trans (hb.mono h.bel.size), h.bel0.trans (hb.mono h.bel0.size), h.one.below hb, h.two.below hb⟩
/-- The cells of it, one by one. -/
theorem AllAt.cells {w W0 W : World} {s s2 : Nat} {nd : Int} {nm : ByteArray} {va : Option Addr} {ca : Nat} {vb : Option Addr} {cb : Nat} {D : List Atr} {nd1 : Int} {nm1 : ByteArray} {va1 : Option Addr} {ca1 : Nat} {vb1 : Option Addr} {cb1 : Nat} {D1 : List Atr} (h : AllAt w W0 s s2 nd nm va ca vb cb D nd1 nm1 va1 ca1 vb1 cb1 D1 W) :
    Hid (AllAt w W0 s s2 nd nm va ca vb cb D nd1 nm1 va1 ca1 vb1 cb1 D1 W) ∧ W.cell? ⟨s, 0, none⟩ = some (.int .i64 nd) ∧ W.cell? ⟨s, 1, none⟩ = some (.string nm) ∧ W.cell? ⟨s, 2, none⟩ = some (.slice va D.length ca) ∧ W.cell? ⟨s + 1, 0, none⟩ = some (.int .i64 nd) ∧ W.cell? ⟨s + 1, 1, none⟩ = some (.string nm) ∧ W.cell? ⟨s + 1, 2, none⟩ = some (.slice vb D.length cb) ∧
    W.cell? ⟨s2, 0, none⟩ = some (.int .i64 nd1) ∧ W.cell? ⟨s2, 1, none⟩ = some (.string nm1) ∧ W.cell? ⟨s2, 2, none⟩ = some (.slice va1 D1.length ca1) ∧ W.cell? ⟨s2 + 1, 0, none⟩ = some (.int .i64 nd1) ∧ W.cell? ⟨s2 + 1, 1, none⟩ = some (.string nm1) ∧ W.cell? ⟨s2 + 1, 2, none⟩ = some (.slice vb1 D1.length cb1) := by
  have h1 := h.one.x
  have h2 := h.one.y
  have h3 := h.two.x
  have h4 := h.two.y
  refine ⟨h, ?_⟩
  simp [World.cell?, h1, h2, h3, h4]

set_option maxRecDepth 100000 in
set_option maxHeartbeats 4000000 in
theorem alike_law (wh at' nd : Int) (nm : ByteArray) (ia : Option Addr) (icap : Nat) (L : List Atr) (wh1 at1 nd1 : Int) (nm1 : ByteArray) (ib : Option Addr) (ibcap : Nat) (L1 : List Atr) (w : World) (hI : InAt w ia L) (hI1 : InAt w ib L1) (hok : ∀ q ∈ L, AtrOk q) (hok1 : ∀ q ∈ L1, AtrOk q) :
    Calls Try.prog 5 #[.agg #[.int .i64 wh, .int .i64 at', .int .i64 nd, .string nm, .slice ia L.length icap], .agg #[.int .i64 wh1, .int .i64 at1, .int .i64 nd1, .string nm1, .slice ib L1.length ibcap]] w fun e w' => e = .returned (.bool true) ∧ Below w.heap.size w w' := by
  have HI : Hid _ := hI
  have HI1 : Hid _ := hI1
  have HSP : Hid (∀ w, _) := fun w => mkSpeaks w
  have HPA : Hid (∀ W, InAt W ia L → _) := fun W h => pair_any wh at' nd nm ia icap L W h
  have HPB : Hid (∀ W, InAt W ib L1 → _) := fun W h => pair_any wh1 at1 nd1 nm1 ib ibcap L1 W h
  have HB : Hid _ := BxAt.made w #[.int .i64 wh, .int .i64 at', .int .i64 nd, .string nm, .slice ia L.length icap] #[.int .i64 wh1, .int .i64 at1, .int .i64 nd1, .string nm1, .slice ib L1.length ibcap]
  clear hI hI1
  go_enter Try.func5, Try.ntmps5
  go_upto_region 1 with fail
  generalize ((w.alloc (.cells #[.int .i64 wh, .int .i64 at', .int .i64 nd, .string nm, .slice ia L.length icap] 55)).alloc (.cells #[.int .i64 wh1, .int .i64 at1, .int .i64 nd1, .string nm1, .slice ib L1.length ibcap] 55)) = W0 at *
  go_wp2_with fail
  refine Calls.mono (HSP.out _) ?_
  rintro e W1 ⟨rfl, hb1⟩
  have HB1 : Hid _ := HB.out.below hb1
  clear HB hb1 HSP
  have a0 : W1.cell? ⟨w.heap.size, 0, none⟩ = some (.int .i64 wh) := by simp [World.cell?, HB1.out.a]
  have a1 : W1.cell? ⟨w.heap.size, 1, none⟩ = some (.int .i64 at') := by simp [World.cell?, HB1.out.a]
  have a2 : W1.cell? ⟨w.heap.size, 2, none⟩ = some (.int .i64 nd) := by simp [World.cell?, HB1.out.a]
  have a3 : W1.cell? ⟨w.heap.size, 3, none⟩ = some (.string nm) := by simp [World.cell?, HB1.out.a]
  have a4 : W1.cell? ⟨w.heap.size, 4, none⟩ = some (.slice ia L.length icap) := by simp [World.cell?, HB1.out.a]
  go_wp2_with fail
  refine Calls.mono (HPA.out _ (HI.out.below HB1.out.bel)) ?_
  rintro e W2 ⟨va, ca, vb, cb, rfl, hra, hrb, hb2⟩
  have HB2 : Hid _ := HB1.out.below hb2
  have RA : Hid _ := hra
  have RB : Hid _ := hrb
  clear a0 a1 a2 a3 a4 HB1 hb2 hra hrb HPA
  have hD := ddA_len (L.take 20) []
  have hD2 : (L.take 20).length ≤ 20 := by rw [List.length_take]; omega
  have hD3 : (ddA [] (L.take 20)).length ≤ 20 := by simp at hD hD2 ⊢; omega
  have HN : Hid _ := ddA_nodup (L.take 20) [] List.nodup_nil
  have HO : Hid (∀ q ∈ ddA [] (L.take 20), AtrOk q) := fun q hq => by
    rcases ddA_sub _ _ q hq with e | e
    · cases e
    · exact hok q (List.mem_of_mem_take e)
  clear hD hD2 hok
  generalize ddA [] (L.take 20) = D at *
  have HM : Hid _ := TwAt.made HB2.out nd nm va ca vb cb D RA.out RB.out
  clear HB2 RA RB
  go_upto_region 4 with fail
  generalize ((W2.alloc (.cells #[.int .i64 nd, .string nm, .slice va D.length ca] 58)).alloc (.cells #[.int .i64 nd, .string nm, .slice vb D.length cb] 61)) = W3 at *
  have HB3 : Hid _ := HM.out.2.1
  have HT3 : Hid _ := HM.out.2.2
  clear HM
  generalize W2.heap.size = s at *
  have a0 : W3.cell? ⟨w.heap.size + 1, 0, none⟩ = some (.int .i64 wh1) := by simp [World.cell?, HB3.out.b]
  have a1 : W3.cell? ⟨w.heap.size + 1, 1, none⟩ = some (.int .i64 at1) := by simp [World.cell?, HB3.out.b]
  have a2 : W3.cell? ⟨w.heap.size + 1, 2, none⟩ = some (.int .i64 nd1) := by simp [World.cell?, HB3.out.b]
  have a3 : W3.cell? ⟨w.heap.size + 1, 3, none⟩ = some (.string nm1) := by simp [World.cell?, HB3.out.b]
  have a4 : W3.cell? ⟨w.heap.size + 1, 4, none⟩ = some (.slice ib L1.length ibcap) := by simp [World.cell?, HB3.out.b]
  go_wp2_with fail
  refine Calls.mono (HPB.out _ (HI1.out.below HB3.out.bel)) ?_
  rintro e W4 ⟨va1, ca1, vb1, cb1, rfl, hra, hrb, hb4⟩
  have HB4 : Hid _ := HB3.out.below hb4
  have HT4 : Hid _ := HT3.out.below hb4
  have RA : Hid _ := hra
  have RB : Hid _ := hrb
  clear a0 a1 a2 a3 a4 HB3 HT3 hb4 hra hrb HPB HI HI1
  have hE := ddA_len (L1.take 20) []
  have hE2 : (L1.take 20).length ≤ 20 := by rw [List.length_take]; omega
  have hE3 : (ddA [] (L1.take 20)).length ≤ 20 := by simp at hE hE2 ⊢; omega
  have HN1 : Hid _ := ddA_nodup (L1.take 20) [] List.nodup_nil
  have HO1 : Hid (∀ q ∈ ddA [] (L1.take 20), AtrOk q) := fun q hq => by
    rcases ddA_sub _ _ q hq with e | e
    · cases e
    · exact hok1 q (List.mem_of_mem_take e)
  clear hE hE2 hok1
  generalize ddA [] (L1.take 20) = D1 at *
  have HM : Hid _ := TwAt.made HB4.out nd1 nm1 va1 ca1 vb1 cb1 D1 RA.out RB.out
  have HT5 : Hid _ := HT4.out.below HM.out.1
  clear HB4 HT4 RA RB
  go_upto_region 5 with fail
  generalize ((W4.alloc (.cells #[.int .i64 nd1, .string nm1, .slice va1 D1.length ca1] 58)).alloc (.cells #[.int .i64 nd1, .string nm1, .slice vb1 D1.length cb1] 61)) = W5 at *
  have HA5 : Hid (AllAt w W5 s W4.heap.size nd nm va ca vb cb D nd1 nm1 va1 ca1 vb1 cb1 D1 W5) := ⟨HM.out.2.1.bel, Below.refl _ _, HT5.out, HM.out.2.2⟩
  clear HM HT5
  generalize W4.heap.size = s2 at *
  obtain ⟨b, hb⟩ : ∃ b, likeB nm1 nm D1 D = b := ⟨_, rfl⟩
  have HC1 : Hid (∀ W, AllAt w W5 s s2 nd nm va ca vb cb D nd1 nm1 va1 ca1 vb1 cb1 D1 W → Calls Try.prog 41 #[.agg #[.int .i64 nd, .string nm, .slice va D.length ca], .agg #[.int .i64 nd1, .string nm1, .slice va1 D1.length ca1]] W fun e w' => e = .returned (.bool b) ∧ Below W.heap.size W w') := fun W h => by
    rw [← hb]
    exact alike_any nd1 nm1 va1 ca1 D1 nd nm va ca D W h.two.ra h.one.ra (by omega) HO1.out HO.out
  have HC2 : Hid (∀ W, AllAt w W5 s s2 nd nm va ca vb cb D nd1 nm1 va1 ca1 vb1 cb1 D1 W → Calls Try.prog 42 #[.agg #[.int .i64 nd, .string nm, .slice vb D.length cb], .agg #[.int .i64 nd1, .string nm1, .slice vb1 D1.length cb1]] W fun e w' => e = .returned (.bool b) ∧ Below W.heap.size W w') := fun W h => by
    rw [← hb, like_ref]
    exact refAlike_any nd1 nm1 vb1 cb1 D1 nd nm vb cb D W h.two.rb h.one.rb (by omega) (by omega)
  have HC3 : Hid (∀ W, AllAt w W5 s s2 nd nm va ca vb cb D nd1 nm1 va1 ca1 vb1 cb1 D1 W → Calls Try.prog 41 #[.agg #[.int .i64 nd1, .string nm1, .slice va1 D1.length ca1], .agg #[.int .i64 nd, .string nm, .slice va D.length ca]] W fun e w' => e = .returned (.bool b) ∧ Below W.heap.size W w') := fun W h => by
    rw [← hb, like_turn _ _ _ _ HN1.out HN.out]
    exact alike_any nd nm va ca D nd1 nm1 va1 ca1 D1 W h.one.ra h.two.ra (by omega) HO.out HO1.out
  have HC4 : Hid (∀ W, AllAt w W5 s s2 nd nm va ca vb cb D nd1 nm1 va1 ca1 vb1 cb1 D1 W → Calls Try.prog 41 #[.agg #[.int .i64 nd, .string nm, .slice va D.length ca], .agg #[.int .i64 nd, .string nm, .slice va D.length ca]] W fun e w' => e = .returned (.bool true) ∧ Below W.heap.size W w') := fun W h => by
    have := alike_any nd nm va ca D nd nm va ca D W h.one.ra h.one.ra (by omega) HO.out HO.out
    rwa [like_self] at this
  clear HN HN1 HO HO1 hD3 hE3 hb
  have HK0 : Hid _ := (HA5.out.below (Below.refl W5.heap.size W5).drew).cells
  have HK : Hid (∀ W W', Hid (AllAt w W5 s s2 nd nm va ca vb cb D nd1 nm1 va1 ca1 vb1 cb1 D1 W) → Below W.heap.size W W' → _) := fun W W' h hb => (h.out.below hb).cells
  clear HA5
  cases b
  all_goals
    go_region_held3 (fun W => Hid (AllAt w W5 s s2 nd nm va ca vb cb D nd1 nm1 va1 ca1 vb1 cb1 D1 W) ∧ W.cell? ⟨s, 0, none⟩ = some (.int .i64 nd) ∧ W.cell? ⟨s, 1, none⟩ = some (.string nm) ∧ W.cell? ⟨s, 2, none⟩ = some (.slice va D.length ca) ∧ W.cell? ⟨s + 1, 0, none⟩ = some (.int .i64 nd) ∧ W.cell? ⟨s + 1, 1, none⟩ = some (.string nm) ∧ W.cell? ⟨s + 1, 2, none⟩ = some (.slice vb D.length cb) ∧ W.cell? ⟨s2, 0, none⟩ = some (.int .i64 nd1) ∧ W.cell? ⟨s2, 1, none⟩ = some (.string nm1) ∧ W.cell? ⟨s2, 2, none⟩ = some (.slice va1 D1.length ca1) ∧ W.cell? ⟨s2 + 1, 0, none⟩ = some (.int .i64 nd1) ∧ W.cell? ⟨s2 + 1, 1, none⟩ = some (.string nm1) ∧ W.cell? ⟨s2 + 1, 2, none⟩ = some (.slice vb1 D1.length cb1)) (first | exact HK0.out | (rename_i hh K hK; exact HK.out _ _ hh.1 hb))
      ((first
        | (go_at_call 42; refine Calls.mono (HC2.out _ (by rename_i hh K hK; exact hh.1.out)) ?_; rintro e W' ⟨rfl, hb⟩)
        | (go_at_call 41; with_reducible refine Calls.mono (HC1.out _ (by rename_i hh K hK; exact hh.1.out)) ?_; rintro e W' ⟨rfl, hb⟩)
        | (go_at_call 41; with_reducible refine Calls.mono (HC3.out _ (by rename_i hh K hK; exact hh.1.out)) ?_; rintro e W' ⟨rfl, hb⟩)
        | (go_at_call 41; with_reducible refine Calls.mono (HC4.out _ (by rename_i hh K hK; exact hh.1.out)) ?_; rintro e W' ⟨rfl, hb⟩)))
    all_goals
      go_wp2
      go_ret
      rename_i hh
      exact ⟨rfl, hh.1.out.bel⟩
end Go.Proofs.Ytalbiekleggkoaa
