/-
  Of many that are alike the first one goes.
-/
import Derived.Test.YtalbiekleggkoaaMkCut
namespace Go.Proofs.Ytalbiekleggkoaa
open Go.RowKit

/-- Going back to the last marker: the first that is alike, and how many are. -/
def scan (p : Ent → Bool) (cs : List Ent) : Nat → Int → Int → Int × Int
  | 0, f, n => (f, n)
  | k + 1, f, n => match cs[k]? with
    | some c => if c.node == -1 then (f, n) else if p c then scan p cs k (k : Int) (n + 1) else scan p cs k f n
    | none => (f, n)
def thinOf (nm : ByteArray) (cs : List Ent) : List Ent :=
  if 3 ≤ (scan (alikeP nm) cs cs.length 0 0).2 then cs.take (scan (alikeP nm) cs cs.length 0 0).1.toNat ++ cs.drop ((scan (alikeP nm) cs cs.length 0 0).1.toNat + 1) else cs

theorem scan_mark {p : Ent → Bool} {cs : List Ent} {k : Nat} {c : Ent} {f n : Int} (h : cs[k]? = some c) (hm : (c.node == -1) = true) : scan p cs (k + 1) f n = (f, n) := by rw [scan, h]; simp [hm]
theorem scan_yes {p : Ent → Bool} {cs : List Ent} {k : Nat} {c : Ent} {f n : Int} (h : cs[k]? = some c) (hm : (c.node == -1) = false) (hp : p c = true) : scan p cs (k + 1) f n = scan p cs k (k : Int) (n + 1) := by rw [scan, h]; simp [hm, hp]
theorem scan_no {p : Ent → Bool} {cs : List Ent} {k : Nat} {c : Ent} {f n : Int} (h : cs[k]? = some c) (hm : (c.node == -1) = false) (hp : p c = false) : scan p cs (k + 1) f n = scan p cs k f n := by rw [scan, h]; simp [hm, hp]

/-- What thinning leaves. -/
structure ThinP (w : World) (s B : Nat) (v : Value) (cs : List Ent) (w' : World) : Prop where
  at' : ∃ v', ListAt w' s B v' cs ∧ v'.ownBlock = v.ownBlock
  kept : Kept (fun k => k = s ∨ v.ownBlock = some k) w w'

set_option maxRecDepth 100000 in
set_option maxHeartbeats 4000000 in
theorem thin_in (s B : Nat) (v : Value) (cs : List Ent) (x : Ent) (w : World) (h : ListAt w s B v cs) (hl : cs.length ≤ 100000) :
    Calls Try.prog 61 #[.pointer (some ⟨s, 0, none⟩), entV x] w fun e w' => e = .returned (.tuple #[]) ∧ ThinP w s B v (thinOf x.name cs) w' := by
  have hb0 : ∀ o, Below w.heap.size w (w.alloc o) := fun o => (Below.refl _ _).alloc (Nat.le_refl _) o
  have HL : Hid (∀ w', _) := fun w' => like_bare x w'
  have HT : Hid (∀ r, scan (alikeP x.name) cs cs.length 0 0 = r → thinOf x.name cs = if 3 ≤ r.2 then cs.take r.1.toNat ++ cs.drop (r.1.toNat + 1) else cs) := by
    intro r hr
    unfold thinOf
    rw [hr]
  have HB0 : Hid _ := hb0
  have HS : Hid _ := h
  have hform := h.form2
  generalize thinOf x.name cs = R at *
  unfold entV at HL ⊢
  clear h hb0
  go_enter Try.func61, Try.ntmps61
  go_wp2_with fail
  refine Calls.mono (HL.out _) ?_
  rintro e w1 ⟨hh, rfl, q1, q2, hb1⟩
  have HB1 : Hid (Below w.heap.size w w1) := (HB0.out _).trans (hb1.mono (HB0.out _).size)
  rw [World.size_alloc] at q1 q2
  have HSa : Hid _ := HS.out.below HB1.out
  have hE1 := World.block_lt_of_cell? _ _ q1
  have HC : Hid (∀ (i : Ent) wx, Below w1.heap.size w1 wx → _) := fun i wx hb => like1_bare (w.heap.size + 1) hh x.name i wx ((hb.cell (p := ⟨w.heap.size + 1, 1, none⟩) hE1).trans q1) ((hb.cell (p := ⟨w.heap.size + 1, 2, none⟩) hE1).trans q2)
  have eg := enters_like1
  clear hb1 q1 q2 HL HB0 hE1
  unfold likeV
  rcases hform with ⟨rfl, rfl⟩ | ⟨g, cp, rfl, hcap⟩
  · have c0 := HSa.out.c0
    have HR : Hid (R = []) := by
      rw [HT.out (0, 0) rfl]
      rfl
    clear HC HT HS eg
    go_wp2
    go_loop [6, 7] (fun n i => n = .int .i64 0 ∧ i = .int .i64 (-1)) (fun _ _ => 0)
    case atStart => exact ⟨rfl, rfl⟩
    case round =>
      obtain ⟨rfl, rfl⟩ := hrel
      go_wp2
      go_end0
      rw [HR.out]
      exact ⟨rfl, ⟨_, HSa.out, rfl⟩, Kept.below HB1.out⟩
  · have c0 := HSa.out.c0
    go_wp2
    clear c0
    go_loopw [5, 6, 7] (fun f n i wr => Hid (Below w1.heap.size w1 wr) ∧ ∃ (k : Nat) (fi ni : Int), k ≤ cs.length ∧ i = .int .i64 ((k : Int) - 1) ∧ f = .int .i64 fi ∧ n = .int .i64 ni ∧ (0 ≤ ni ∧ ni + (k : Int) ≤ (cs.length : Int)) ∧ (ni = 0 ∨ (0 ≤ fi ∧ fi < (cs.length : Int))) ∧ Hid (scan (alikeP x.name) cs cs.length 0 0 = scan (alikeP x.name) cs k fi ni)) (fun _ _ i _ => (intOf i + 1).toNat)
    case atStart => exact ⟨Below.refl _ _, cs.length, 0, 0, Nat.le_refl _, rfl, rfl, rfl, ⟨by omega, by omega⟩, .inl rfl, rfl⟩
    case round =>
      obtain ⟨HB, k, fi, ni, hk, rfl, rfl, rfl, hn, hfi, HE⟩ := hrel
      have hS2 := HSa.out.below HB.out
      have c0 := hS2.c0
      -- the end
      have HEND : Hid (scan (alikeP x.name) cs cs.length 0 0 = (fi, ni) → (3 ≤ ni → ∃ i : Nat, fi = (i : Int) ∧ Calls Try.prog 29 #[.pointer (some ⟨s, 0, none⟩), .int .i64 (i : Int)] wr fun e w' => e = .returned (.bool true) ∧ Hid (ThinP w s B (.slice (some ⟨g, 0, none⟩) cs.length cp) R w')) ∧ (ni < 3 → Hid (ThinP w s B (.slice (some ⟨g, 0, none⟩) cs.length cp) R wr))) := by
        intro he
        have hR := HT.out _ he
        have hkw : Kept (fun k => k = s ∨ (Value.slice (some ⟨g, 0, none⟩) cs.length cp).ownBlock = some k) w wr := (Kept.below HB1.out).trans (Kept.below HB.out)
        refine ⟨fun h3 => ?_, fun h3 => ?_⟩
        · rw [if_pos h3] at hR
          refine ⟨fi.toNat, by omega, ?_⟩
          refine (cut_in s B _ cs fi.toNat wr hS2 (by omega) (by omega)).mono ?_
          rintro e w' ⟨he, hc⟩
          rw [hR]
          exact ⟨he, ⟨hc.at', hkw.trans hc.kept⟩⟩
        · rw [if_neg (by show ¬ 3 ≤ ni; omega)] at hR
          rw [hR]
          exact ⟨⟨_, hS2, rfl⟩, hkw⟩
      match k, hk, hn, HE with
      | 0, _, hn, HE =>
        rw [show (((0 : Nat) : Int) - 1) = -1 from rfl]
        obtain ⟨hy, hno⟩ := HEND.out HE.out
        clear HE HEND hS2 HC HT HS eg
        by_cases h3 : 3 ≤ ni
        · obtain ⟨i, rfl, hcut⟩ := hy h3
          have HCU : Hid _ := hcut
          clear hy hno hcut
          go_wp2_with fail
          refine Calls.mono HCU.out ?_
          rintro e w3 ⟨rfl, hth⟩
          go_wp2
          go_end0
          exact ⟨rfl, hth.out⟩
        · have HTH := hno (by omega)
          clear hy hno
          go_wp2
          go_end0
          exact ⟨rfl, HTH.out⟩
      | k + 1, hk, hn, HE =>
        obtain ⟨c, hc⟩ : ∃ c, cs[k]? = some c := ⟨_, List.getElem?_eq_getElem (by omega)⟩
        have a0 : wr.cell? ⟨g, k * 3 + 0, none⟩ = some (.int .i64 c.node) := hS2.at hc rfl
        have a1 : wr.cell? ⟨g, k * 3 + 1, none⟩ = some (.string c.name) := hS2.at hc rfl
        have a2 : wr.cell? ⟨g, k * 3 + 2, none⟩ = some (.slice none 0 0) := hS2.at hc rfl
        rw [Nat.add_zero] at a0
        rw [show (((k + 1 : Nat) : Int) - 1) = (k : Int) from by omega]
        have hI : (k : Int) < (cs.length : Int) := by omega
        have HM : Hid _ := marker_any c wr
        cases hm : (c.node == -1)
        · rw [hm] at HM
          unfold entV at HM
          have HS3 : Hid (∀ wy, Below wr.heap.size wr wy → wy.cell? ⟨s, 0, none⟩ = some (.slice (some ⟨g, 0, none⟩) cs.length cp) ∧ wy.cell? ⟨g, k * 3, none⟩ = some (.int .i64 c.node) ∧ wy.cell? ⟨g, k * 3 + 1, none⟩ = some (.string c.name) ∧ wy.cell? ⟨g, k * 3 + 2, none⟩ = some (.slice none 0 0) ∧ Below w1.heap.size w1 wy) := by
            intro wy hb
            have h1 := hS2.below hb
            exact ⟨h1.c0, h1.at (j := 0) hc rfl, h1.at hc rfl, h1.at hc rfl, HB.out.trans (hb.mono HB.out.size)⟩
          have HY : Hid (alikeP x.name c = true → scan (alikeP x.name) cs cs.length 0 0 = scan (alikeP x.name) cs k (k : Int) (ni + 1)) := fun hp => HE.out.trans (scan_yes hc hm hp)
          have HNO : Hid (alikeP x.name c = false → scan (alikeP x.name) cs cs.length 0 0 = scan (alikeP x.name) cs k fi ni) := fun hp => HE.out.trans (scan_no hc hm hp)
          clear HE HEND hS2 hc hm
          go_wp2_with fail
          refine Calls.mono HM.out ?_
          rintro e w2 ⟨rfl, hb2⟩
          obtain ⟨c0', a0', a1', a2', hb2'⟩ := HS3.out w2 hb2
          have HC2 : Hid _ := HC.out c w2 hb2'
          have HB2 : Hid _ := hb2'
          unfold entV at HC2
          clear hb2 hb2' HM HS3 c0 a0 a1 a2
          go_wp2_with fail
          refine Calls.mono HC2.out ?_
          rintro e w3 ⟨rfl, hb3⟩
          have HB3 : Hid (Below w1.heap.size w1 w3) := HB2.out.trans (hb3.mono HB2.out.size)
          clear hb3 HC2 HB2 c0' a0' a1' a2'
          cases hp : alikeP x.name c
          · have HQ : Hid _ := HNO.out hp
            clear HY HNO hp
            go_wp2
            go_roundw
            case rel => exact ⟨HB3, k, fi, ni, by omega, rfl, rfl, rfl, by omega, hfi, HQ⟩
            case measure => simp [intOf]
          · have HQ : Hid _ := HY.out hp
            clear HY HNO hp
            have hn2 : ni + 1 ≤ 9223372036854775807 := by omega
            go_wp2
            go_roundw
            case rel => exact ⟨HB3, k, (k : Int), ni + 1, by omega, rfl, rfl, rfl, by omega, .inr (by omega), HQ⟩
            case measure => simp [intOf]
        · rw [hm] at HM
          unfold entV at HM
          have he := HE.out.trans (scan_mark hc hm)
          have HKB : Hid (∀ wy, Below wr.heap.size wr wy → Below w1.heap.size w1 wy ∧ ListAt wy s B (.slice (some ⟨g, 0, none⟩) cs.length cp) cs) := fun wy hb => ⟨HB.out.trans (hb.mono HB.out.size), hS2.below hb⟩
          have HHE : Hid _ := he
          clear HE HEND hS2 hc hm he HC eg
          go_wp2_with fail
          refine Calls.mono HM.out ?_
          rintro e w2 ⟨rfl, hb2⟩
          have hR := HT.out _ HHE.out
          obtain ⟨hbw, hSw⟩ := HKB.out w2 hb2
          have hkw : Kept (fun k => k = s ∨ (Value.slice (some ⟨g, 0, none⟩) cs.length cp).ownBlock = some k) w w2 := (Kept.below HB1.out).trans (Kept.below hbw)
          by_cases h3 : 3 ≤ ni
          · rw [if_pos h3] at hR
            have HCU : Hid (Calls Try.prog 29 #[.pointer (some ⟨s, 0, none⟩), .int .i64 fi] w2 fun e w' => e = .returned (.bool true) ∧ Hid (ThinP w s B (.slice (some ⟨g, 0, none⟩) cs.length cp) R w')) := by
              obtain ⟨i, rfl⟩ := Int.eq_ofNat_of_zero_le (show 0 ≤ fi by omega)
              refine (cut_in s B _ cs i w2 hSw (by omega) (by omega)).mono ?_
              rintro e w' ⟨he, hc⟩
              rw [hR]
              exact ⟨he, ⟨hc.at', hkw.trans hc.kept⟩⟩
            clear hR hSw hbw hkw hb2 HKB HT HHE
            go_wp2_with fail
            refine Calls.mono HCU.out ?_
            rintro e w3 ⟨rfl, hth⟩
            go_wp2
            go_end0
            exact ⟨rfl, hth.out⟩
          · rw [if_neg (by show ¬ 3 ≤ ni; omega)] at hR
            have HTH : Hid (ThinP w s B (.slice (some ⟨g, 0, none⟩) cs.length cp) R w2) := by
              rw [hR]
              exact ⟨⟨_, hSw, rfl⟩, hkw⟩
            clear hR hSw hbw hkw hb2 HKB HT HHE
            go_wp2
            go_end0
            exact ⟨rfl, HTH.out⟩
end Go.Proofs.Ytalbiekleggkoaa
