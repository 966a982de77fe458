/-
  Of many with attributes that are alike the first one goes.
-/
import Derived.Test.YtalbiekleggkoaaMmCut
import Derived.Test.YtalbiekleggkoaaMmLike1
namespace Go.Proofs.Ytalbiekleggkoaa
open Go.RowKit

/-- What thinning leaves. -/
structure RThinP (w : World) (s B : Nat) (v : Value) (cs : List Enr) (w' : World) : Prop where
  at' : ∃ v', RListAt w' s B v' cs ∧ v'.ownBlock = v.ownBlock
  kept : Kept (fun k => k = s ∨ v.ownBlock = some k) w w'

/-- While it is asked which are alike. -/
structure ThR (w : World) (b hh s' : Nat) (x : Enr) (wr : World) : Prop where
  bel : Below w.heap.size w wr
  lk : LikeAt wr b hh s' x.name x.a x.cap x.l
  far : w.heap.size ≤ s'
theorem ThR.below {w wr wy : World} {b hh s' : Nat} {x : Enr} (h : ThR w b hh s' x wr) (hb : Below wr.heap.size wr wy) : ThR w b hh s' x wy :=
  ⟨h.bel.trans (hb.mono h.bel.size), h.lk.below hb, h.far⟩

/-- Attributes that a memory can hold, and few. -/
structure EnrOk (c : Enr) : Prop where
  few : c.l.length ≤ 1000
  ok : ∀ q ∈ c.l, AtrOk q

theorem ask_any {w wr : World} {b hh s' : Nat} {x i : Enr} (h : ThR w b hh s' x wr) (hx : EnrOk x) (hi : EnrOk i) (hr : AtrRow w i.a i.cap i.l) :
    Calls Try.prog 78 #[.agg #[.int .i64 i.node, .string i.name, .slice i.a i.l.length i.cap], .pointer (some ⟨b, 0, none⟩), .pointer (some ⟨hh, 0, none⟩)] wr fun e w' => e = .returned (.bool (alR x i)) ∧ Hid (ThR w b hh s' x w') := by
  refine (like1_all b hh s' x.name x.a x.cap x.l i.node i.name i.a i.cap i.l wr h.lk (hr.below h.bel).row (fun g hg _ e => ?_) hx.few hx.ok hi.ok).mono ?_
  · have := (hr.typed hg).1
    have := h.far
    rcases e with e | e <;> omega
  · rintro e w' ⟨he, hk, hl⟩
    exact ⟨he, ⟨h.bel.trans ⟨hk.os, hk.tape, hk.output, hk.size, fun k hk2 => hk.block k (Nat.lt_of_lt_of_le hk2 h.bel.size) (fun e => by have := h.far; rcases e with e | e <;> omega)⟩, hl.out, h.far⟩⟩

set_option maxRecDepth 100000 in
set_option maxHeartbeats 4000000 in
theorem rthin_in (s B : Nat) (v : Value) (cs : List Enr) (x : Enr) (w : World) (h : RListAt w s B v cs) (hx : AtrRow w x.a x.cap x.l) (hxo : EnrOk x) (hok : ∀ c ∈ cs, EnrOk c) (hl : cs.length ≤ 100000) :
    Calls Try.prog 61 #[.pointer (some ⟨s, 0, none⟩), enrV x] w fun e w' => e = .returned (.tuple #[]) ∧ RThinP w s B v (thinR (alR x) cs) w' := by
  have hb0 : ∀ o, Below w.heap.size w (w.alloc o) := fun o => (Below.refl _ _).alloc (Nat.le_refl _) o
  have HL : Hid (∀ o, _) := fun o => like_any x.node x.name x.a x.cap x.l (w.alloc o) (hx.below (hb0 o)).row
  have HT : Hid (∀ r, scanR (alR x) cs cs.length 0 0 = r → thinR (alR x) cs = if 3 ≤ r.2 then cs.take r.1.toNat ++ cs.drop (r.1.toNat + 1) else cs) := by
    intro r hr
    unfold thinR
    rw [hr]
  have HB0 : Hid _ := hb0
  have HS : Hid _ := h
  have HOK : Hid _ := hok
  have hform := h.form2
  have hzo : ∀ o, (w.alloc o).heap.size = w.heap.size + 1 := fun o => by simp
  generalize thinR (alR x) cs = R at *
  generalize hpp : alR x = p at *
  have HPP : Hid (alR x = p) := hpp
  unfold enrV
  clear h hb0 hok hpp
  go_enter Try.func61, Try.ntmps61
  go_wp2_with fail
  refine Calls.mono (HL.out _) ?_
  rintro e w1 ⟨hh, rfl, hlk⟩
  rw [hzo] at hlk
  have HB1 : Hid (ThR w (w.heap.size + 1) hh (w.heap.size + 1 + 1) x w1) := ⟨(HB0.out _).trans (hlk.out.2.mono (by omega)), hlk.out.1, by omega⟩
  have HSa : Hid _ := HS.out.below HB1.out.bel
  have HC : Hid (∀ (i : Enr) wx, i ∈ cs → ThR w (w.heap.size + 1) hh (w.heap.size + 1 + 1) x wx → Calls Try.prog 78 #[.agg #[.int .i64 i.node, .string i.name, .slice i.a i.l.length i.cap], .pointer (some ⟨w.heap.size + 1, 0, none⟩), .pointer (some ⟨hh, 0, none⟩)] wx fun e w' => e = .returned (.bool (p i)) ∧ Hid (ThR w (w.heap.size + 1) hh (w.heap.size + 1 + 1) x w')) := fun i wx hi hb => by
    rw [← HPP.out]
    exact ask_any hb hxo (HOK.out i hi) (HS.out.ents i hi)
  have eg := enters_like1
  clear hlk HL HB0 hx HPP hzo HOK
  unfold likeV
  rcases hform with ⟨rfl, rfl⟩ | ⟨g, cp, rfl, hcap⟩
  · have c0 := HSa.out.c0
    have HR : Hid (R = []) := by
      rw [HT.out (0, 0) rfl]
      rfl
    clear HC HT HS eg
    go_wp2
    go_loop [6, 7] (fun n i => n = .int .i64 0 ∧ i = .int .i64 (-1)) (fun _ _ => 0)
    case atStart => exact ⟨rfl, rfl⟩
    case round =>
      obtain ⟨rfl, rfl⟩ := hrel
      go_wp2
      go_end0
      rw [HR.out]
      exact ⟨rfl, ⟨_, HSa.out, rfl⟩, Kept.below HB1.out.bel⟩
  · have c0 := HSa.out.c0
    go_wp2
    clear c0
    go_loopw [5, 6, 7] (fun f n i wr => Hid (ThR w (w.heap.size + 1) hh (w.heap.size + 1 + 1) x wr) ∧ ∃ (k : Nat) (fi ni : Int), k ≤ cs.length ∧ i = .int .i64 ((k : Int) - 1) ∧ f = .int .i64 fi ∧ n = .int .i64 ni ∧ (0 ≤ ni ∧ ni + (k : Int) ≤ (cs.length : Int)) ∧ (ni = 0 ∨ (0 ≤ fi ∧ fi < (cs.length : Int))) ∧ Hid (scanR p cs cs.length 0 0 = scanR p cs k fi ni)) (fun _ _ i _ => (intOf i + 1).toNat)
    case atStart => exact ⟨HB1, cs.length, 0, 0, Nat.le_refl _, rfl, rfl, rfl, ⟨by omega, by omega⟩, .inl rfl, rfl⟩
    case round =>
      obtain ⟨HB, k, fi, ni, hk, rfl, rfl, rfl, hn, hfi, HE⟩ := hrel
      have hS2 := HS.out.below HB.out.bel
      have c0 := hS2.c0
      -- the end
      have HEND : Hid (scanR p cs cs.length 0 0 = (fi, ni) → (3 ≤ ni → ∃ i : Nat, fi = (i : Int) ∧ Calls Try.prog 29 #[.pointer (some ⟨s, 0, none⟩), .int .i64 (i : Int)] wr fun e w' => e = .returned (.bool true) ∧ Hid (RThinP w s B (.slice (some ⟨g, 0, none⟩) cs.length cp) R w')) ∧ (ni < 3 → Hid (RThinP w s B (.slice (some ⟨g, 0, none⟩) cs.length cp) R wr))) := by
        intro he
        have hR := HT.out _ he
        have hkw : Kept (fun k => k = s ∨ (Value.slice (some ⟨g, 0, none⟩) cs.length cp).ownBlock = some k) w wr := Kept.below HB.out.bel
        refine ⟨fun h3 => ?_, fun h3 => ?_⟩
        · rw [if_pos h3] at hR
          refine ⟨fi.toNat, by omega, ?_⟩
          refine (rcut_in s B _ cs fi.toNat wr hS2 (by omega) (by omega)).mono ?_
          rintro e w' ⟨he, hc⟩
          rw [hR]
          exact ⟨he, ⟨hc.at', hkw.trans hc.kept⟩⟩
        · rw [if_neg (by show ¬ 3 ≤ ni; omega)] at hR
          rw [hR]
          exact ⟨⟨_, hS2, rfl⟩, hkw⟩
      match k, hk, hn, HE with
      | 0, _, hn, HE =>
        rw [show (((0 : Nat) : Int) - 1) = -1 from rfl]
        obtain ⟨hy, hno⟩ := HEND.out HE.out
        clear HE HEND hS2 HC HT HS eg
        by_cases h3 : 3 ≤ ni
        · obtain ⟨i, rfl, hcut⟩ := hy h3
          have HCU : Hid _ := hcut
          clear hy hno hcut
          go_wp2_with fail
          refine Calls.mono HCU.out ?_
          rintro e w3 ⟨rfl, hth⟩
          go_wp2
          go_end0
          exact ⟨rfl, hth.out⟩
        · have HTH := hno (by omega)
          clear hy hno
          go_wp2
          go_end0
          exact ⟨rfl, HTH.out⟩
      | k + 1, hk, hn, HE =>
        obtain ⟨c, hc⟩ : ∃ c, cs[k]? = some c := ⟨_, List.getElem?_eq_getElem (by omega)⟩
        have a0 : wr.cell? ⟨g, k * 3 + 0, none⟩ = some (.int .i64 c.node) := hS2.at hc rfl
        have a1 : wr.cell? ⟨g, k * 3 + 1, none⟩ = some (.string c.name) := hS2.at hc rfl
        have a2 : wr.cell? ⟨g, k * 3 + 2, none⟩ = some (.slice c.a c.l.length c.cap) := hS2.at hc rfl
        rw [Nat.add_zero] at a0
        rw [show (((k + 1 : Nat) : Int) - 1) = (k : Int) from by omega]
        have hI : (k : Int) < (cs.length : Int) := by omega
        have HM : Hid _ := markerR_any c wr
        cases hm : (c.node == -1)
        · rw [hm] at HM
          unfold enrV at HM
          have HS3 : Hid (∀ wy, Below wr.heap.size wr wy → wy.cell? ⟨s, 0, none⟩ = some (.slice (some ⟨g, 0, none⟩) cs.length cp) ∧ wy.cell? ⟨g, k * 3, none⟩ = some (.int .i64 c.node) ∧ wy.cell? ⟨g, k * 3 + 1, none⟩ = some (.string c.name) ∧ wy.cell? ⟨g, k * 3 + 2, none⟩ = some (.slice c.a c.l.length c.cap) ∧ Hid (ThR w (w.heap.size + 1) hh (w.heap.size + 1 + 1) x wy)) := by
            intro wy hb
            have h1 := hS2.below hb
            exact ⟨h1.c0, h1.at (j := 0) hc rfl, h1.at hc rfl, h1.at hc rfl, HB.out.below hb⟩
          have HY : Hid (p c = true → scanR p cs cs.length 0 0 = scanR p cs k (k : Int) (ni + 1)) := fun hp => HE.out.trans (scanR_yes hc hm hp)
          have HNO : Hid (p c = false → scanR p cs cs.length 0 0 = scanR p cs k fi ni) := fun hp => HE.out.trans (scanR_no hc hm hp)
          have HMEM : Hid (c ∈ cs) := List.mem_of_getElem? hc
          clear HE HEND hS2 hc hm
          go_wp2_with fail
          refine Calls.mono HM.out ?_
          rintro e w2 ⟨rfl, hb2⟩
          obtain ⟨c0', a0', a1', a2', HB2⟩ := HS3.out w2 hb2
          have HC2 : Hid _ := HC.out c w2 HMEM.out HB2.out
          clear hb2 HM HS3 c0 a0 a1 a2
          go_wp2_with fail
          refine Calls.mono HC2.out ?_
          rintro e w3 ⟨rfl, HB3⟩
          clear HC2 HB2 c0' a0' a1' a2'
          cases hp : p c
          · have HQ : Hid _ := HNO.out hp
            clear HY HNO hp
            go_wp2
            go_roundw
            case rel => exact ⟨HB3, k, fi, ni, by omega, rfl, rfl, rfl, by omega, hfi, HQ⟩
            case measure => simp [intOf]
          · have HQ : Hid _ := HY.out hp
            clear HY HNO hp
            have hn2 : ni + 1 ≤ 9223372036854775807 := by omega
            go_wp2
            go_roundw
            case rel => exact ⟨HB3, k, (k : Int), ni + 1, by omega, rfl, rfl, rfl, by omega, .inr (by omega), HQ⟩
            case measure => simp [intOf]
        · rw [hm] at HM
          unfold enrV at HM
          have he := HE.out.trans (scanR_mark hc hm)
          have HKB : Hid (∀ wy, Below wr.heap.size wr wy → Below w.heap.size w wy ∧ RListAt wy s B (.slice (some ⟨g, 0, none⟩) cs.length cp) cs) := fun wy hb => ⟨HB.out.bel.trans (hb.mono HB.out.bel.size), hS2.below hb⟩
          have HHE : Hid _ := he
          clear HE HEND hS2 hc hm he HC eg
          go_wp2_with fail
          refine Calls.mono HM.out ?_
          rintro e w2 ⟨rfl, hb2⟩
          have hR := HT.out _ HHE.out
          obtain ⟨hbw, hSw⟩ := HKB.out w2 hb2
          have hkw : Kept (fun k => k = s ∨ (Value.slice (some ⟨g, 0, none⟩) cs.length cp).ownBlock = some k) w w2 := Kept.below hbw
          by_cases h3 : 3 ≤ ni
          · rw [if_pos h3] at hR
            have HCU : Hid (Calls Try.prog 29 #[.pointer (some ⟨s, 0, none⟩), .int .i64 fi] w2 fun e w' => e = .returned (.bool true) ∧ Hid (RThinP w s B (.slice (some ⟨g, 0, none⟩) cs.length cp) R w')) := by
              obtain ⟨i, rfl⟩ := Int.eq_ofNat_of_zero_le (show 0 ≤ fi by omega)
              refine (rcut_in s B _ cs i w2 hSw (by omega) (by omega)).mono ?_
              rintro e w' ⟨he, hc⟩
              rw [hR]
              exact ⟨he, ⟨hc.at', hkw.trans hc.kept⟩⟩
            clear hR hSw hbw hkw hb2 HKB HT HHE
            go_wp2_with fail
            refine Calls.mono HCU.out ?_
            rintro e w3 ⟨rfl, hth⟩
            go_wp2
            go_end0
            exact ⟨rfl, hth.out⟩
          · rw [if_neg (by show ¬ 3 ≤ ni; omega)] at hR
            have HTH : Hid (RThinP w s B (.slice (some ⟨g, 0, none⟩) cs.length cp) R w2) := by
              rw [hR]
              exact ⟨⟨_, hSw, rfl⟩, hkw⟩
            clear hR hSw hbw hkw hb2 HKB HT HHE
            go_wp2
            go_end0
            exact ⟨rfl, HTH.out⟩
end Go.Proofs.Ytalbiekleggkoaa
