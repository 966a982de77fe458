/-
  The steps of a path: the program's answer.
-/
import Derived.Test.YtjfbogjpmieogaaDoorStepsNumB
namespace Go.Proofs.YtjfbogjpmieogaaDoor
open Go.RowKit

theorem Tryd.infoInt : (Tryd.prog.info? 3).map (fun i => (i.zero, i.size, i.bytes)) = some (some (.int .i64 0), 1, 8) := by kernel_rfl

def natV (l : List Nat) : List Value := l.map (fun n : Nat => Value.int .i64 (n : Int))

/-- The steps of a text, if it is a path. -/
def stepsP (l : List UInt8) : Option (List Nat) := if l = [47] then some [] else match l with
  | [] => none
  | c :: r => if c = 47 then allNums (cutAt r) else none

/-- What both readers tell. -/
def Told (l : List UInt8) (w w' : World) (e : Ending) : Prop :=
  ∃ v, e = .returned (.tuple #[v, .bool (stepsP l).isSome]) ∧ w'.ownsRow w.heap.size 3 1 v ((stepsP l).getD []).length (natV ((stepsP l).getD [])) ∧ Below w.heap.size w w'

theorem told_none {l : List UInt8} {w w' : World} (h : stepsP l = none) (hb : Below w.heap.size w w') : Told l w w' (.returned (.tuple #[.slice none 0 0, .bool false])) := by
  refine ⟨_, by rw [h]; rfl, ?_, hb⟩
  rw [h]
  exact World.ownsRow_nil _ _ _ _

theorem own_below_s {w w' : World} {base : Nat} {e : TypeId} {size : Nat} {v : Value} {n : Nat} {xs : List Value} (h : w.ownsRow base e size v n xs) (hb : Below w.heap.size w w') : w'.ownsRow base e size v n xs := by
  obtain ⟨h1, h2⟩ := h
  refine ⟨h1, ?_⟩
  rcases h2 with h2 | ⟨g, cap, cur, hv, hg, hh, r⟩
  · exact Or.inl h2
  · have hgl : g < w.heap.size := by
      rcases Nat.lt_or_ge g w.heap.size with h' | h'
      · exact h'
      · simp [Array.getElem?_eq_none h'] at hh
    exact Or.inr ⟨g, cap, cur, hv, hg, (hb.block g hgl).trans hh, r⟩

theorem own_ge_s {w : World} {base : Nat} {e : TypeId} {size : Nat} {v : Value} {n : Nat} {xs : List Value} (h : w.ownsRow base e size v n xs) : ∀ k, v.ownBlock = some k → base ≤ k := by
  intro k hk
  rcases h.2 with ⟨rfl, _⟩ | ⟨g, cap, cur, rfl, hg, _⟩
  · cases hk
  · simp only [Value.ownBlock] at hk
    obtain rfl := Option.some.inj hk
    exact hg

theorem own_head_s {w : World} {base : Nat} {e : TypeId} {size : Nat} {v : Value} {n : Nat} {xs : List Value} (h : w.ownsRow base e size v n xs) : ∃ a cap, v = .slice a n cap := by
  rcases h.2 with ⟨rfl, rfl⟩ | ⟨g, cap, cur, rfl, _⟩
  · exact ⟨none, 0, rfl⟩
  · exact ⟨_, cap, rfl⟩

/-- How far a reader has come: ns are gathered. -/
structure Got (w wr : World) (v : Value) (ns : List Nat) : Prop where
  own : wr.ownsRow w.heap.size 3 1 v ns.length (natV ns)
  below : Below w.heap.size w wr

theorem Got.add {w wr w1 w' : World} {v v' : Value} {ns : List Nat} {n : Nat} (h : Got w wr v ns) (h01 : Below wr.heap.size wr w1) (hown' : w'.ownsRow w.heap.size 3 1 v' (ns.length + 1) (natV ns ++ [.int .i64 (n : Int)])) (hgrow : w1.grownBy w' v.ownBlock) : Got w w' v' (ns ++ [n]) := by
  have hs := h.below.size
  exact ⟨by simpa [natV] using hown', (h.below.trans (h01.mono hs)).grown hgrow (Nat.le_trans hs h01.size) (own_ge_s h.own)⟩

theorem allNums_take (ps : List (List UInt8)) (k : Nat) (ns : List Nat) (h : allNums (ps.take k) = some ns) (hk : k < ps.length) :
    (isNum ps[k] = true → allNums (ps.take (k + 1)) = some (ns ++ [numV ps[k]])) ∧ (isNum ps[k] = false → allNums ps = none) := by
  have app : ∀ (a b : List (List UInt8)), allNums (a ++ b) = (allNums a).bind (fun x => (allNums b).map (x ++ ·)) := by
    intro a b
    induction a with
    | nil => cases h : allNums b <;> simp [allNums, h]
    | cons p a ih =>
      simp only [List.cons_append, allNums, ih]
      split
      · cases allNums a <;> cases allNums b <;> simp
      · rfl
  constructor
  · intro hn
    rw [List.take_succ_eq_append_getElem hk, app, h]
    simp [allNums, hn]
  · intro hn
    have e : ps = ps.take k ++ (ps[k] :: ps.drop (k + 1)) := by rw [← List.drop_eq_getElem_cons hk, List.take_append_drop]
    rw [e, app, h]
    simp [allNums, hn]

theorem own_mono_s {w : World} {base base' : Nat} {e : TypeId} {size : Nat} {v : Value} {n : Nat} {xs : List Value} (h : w.ownsRow base e size v n xs) (hb : base' ≤ base) : w.ownsRow base' e size v n xs := by
  obtain ⟨h1, h2⟩ := h
  refine ⟨h1, ?_⟩
  rcases h2 with h2 | ⟨g, cap, cur, hv, hg, r⟩
  · exact Or.inl h2
  · exact Or.inr ⟨g, cap, cur, hv, Nat.le_trans hb hg, r⟩

theorem cutAt_len (l : List UInt8) : (∀ p ∈ cutAt l, p.length ≤ l.length) ∧ (cutAt l).length ≤ l.length + 1 := by
  induction l with
  | nil => simp [cutAt]
  | cons c l ih =>
    simp only [cutAt]
    split
    · refine ⟨fun p hp => ?_, by simp; omega⟩
      rcases List.mem_cons.1 hp with rfl | hp
      · simp
      · have := ih.1 p hp; simp; omega
    · split
      · exact ⟨by simp, by simp⟩
      · rename_i p ps hps
        rw [hps] at ih
        refine ⟨fun q hq => ?_, by have := ih.2; simp at this ⊢; omega⟩
        rcases List.mem_cons.1 hq with rfl | hq
        · have := ih.1 p (by simp); simp; omega
        · have := ih.1 q (by simp [hq]); simp; omega

theorem allNums_len (ps : List (List UInt8)) : ∀ ns, allNums ps = some ns → ns.length = ps.length := by
  induction ps with
  | nil => intro ns h; simp [allNums] at h; subst h; rfl
  | cons p ps ih =>
    intro ns h
    simp only [allNums] at h
    split at h
    · cases hq : allNums ps with
      | none => rw [hq] at h; cases h
      | some ms =>
        rw [hq] at h
        obtain rfl := Option.some.inj h
        simp [ih ms hq]
    · cases h

set_option maxRecDepth 100000 in
set_option maxHeartbeats 4000000 in
theorem steps_any (s : ByteArray) (hs : s.size ≤ 67108864) (m : Int) (w : World) (hm : w.cell? ⟨2, 0, none⟩ = some (.int .i64 m)) :
    Calls Tryd.prog 23 #[.string s] w fun e w' => Told s.data.toList w w' e := by
  by_cases h1 : s.toList = [47]
  · have hb : (s.toList == [47]) = true := by rw [h1]; rfl
    have hp : stepsP s.data.toList = some [] := by rw [← Lib.toList_data, h1]; rfl
    have HT : Hid (Told s.data.toList w w (.returned (.tuple #[.slice none 0 0, .bool true]))) := ⟨_, by rw [hp]; rfl, by rw [hp]; exact World.ownsRow_nil _ _ _ _, Below.refl _ _⟩
    clear h1 hp hm hs
    go_enter Tryd.func23, Tryd.ntmps23
    go_wp2
    go_ret2
    exact HT.out
  have hb : (s.toList == [47]) = false := beq_false_of_ne h1
  have HC : Hid _ := Tryd.strings_CutPrefix s ⟨#[47]⟩ w
  cases hp : Lib.hasPrefix s.data.toList [47] with
  | false =>
    have hn : stepsP s.data.toList = none := by
      unfold stepsP
      rw [if_neg (by rw [← Lib.toList_data]; exact h1)]
      cases hl : s.data.toList with
      | nil => rfl
      | cons c r =>
        rw [hl] at hp
        have : ¬ c = 47 := by intro e; subst e; simp [Lib.hasPrefix] at hp
        simp [this]
    have HT : Hid _ := told_none hn (Below.refl w.heap.size w)
    rw [show (⟨#[47]⟩ : ByteArray).data.toList = [47] from rfl, hp] at HC
    clear h1 hn hm hs hp
    go_enter Tryd.func23, Tryd.ntmps23
    go_wp2_with fail
    refine Calls.mono HC.out ?_
    rintro e w1 ⟨rfl, hw1⟩
    subst w1
    go_wp2
    go_ret2
    exact HT.out
  | true =>
    obtain ⟨r, hr⟩ : ∃ r, s.data.toList = 47 :: r := by
      cases hl : s.data.toList with
      | nil => rw [hl] at hp; cases hp
      | cons c r =>
        rw [hl] at hp
        have : c = 47 := by simp [Lib.hasPrefix] at hp; exact hp.symm
        exact ⟨r, by rw [this]⟩
    have hst : stepsP s.data.toList = allNums (cutAt r) := by
      unfold stepsP
      rw [if_neg (by rw [← Lib.toList_data]; exact h1), hr]
      simp
    have htr : Lib.trimPrefix s.data.toList [47] = r := by rw [Lib.trimPrefix, hp, hr]; rfl
    rw [show (⟨#[47]⟩ : ByteArray).data.toList = [47] from rfl, hp, htr] at HC
    obtain ⟨d, hd⟩ : ∃ d : ByteArray, d = ⟨r.toArray⟩ := ⟨_, rfl⟩
    have hdl : d.data.toList = r := by rw [hd]
    have hrl : r.length + 1 ≤ 67108864 := by
      have : s.data.toList.length = s.size := by simp
      rw [hr] at this
      simp at this
      omega
    have hds : d.size ≤ 67108864 := by
      have : d.data.toList.length = d.size := by simp
      rw [hdl] at this
      omega
    rw [← hd] at HC
    have HSP : Hid _ := Tryd.strings_Split d ⟨#[47]⟩ m w (by omega) hm (by decide)
    have hcut := splitB_cut d
    have hall := Lib.splitB_all ⟨#[47]⟩ (by decide) 0 _ d rfl
    rw [hdl] at hcut
    generalize Lib.countB d ⟨#[47]⟩ = cnt at HSP hcut hall
    generalize Lib.splitB ⟨#[47]⟩ 0 cnt d = ps at HSP hcut hall
    have hcl := cutAt_len r
    rw [← hcut] at hcl
    rw [← hcut] at hst
    have hpl : ∀ k, (h : k < ps.length) → ps[k].size ≤ 67108864 := fun k h => by
      have h1 := hcl.1 ps[k].data.toList (List.mem_map_of_mem (List.getElem_mem h))
      have h2 : ps[k].data.toList.length = ps[k].size := by simp
      omega
    have hcnt : cnt + 1 ≤ 67108864 := by
      have := hcl.2
      rw [List.length_map] at this
      omega
    have HST : Hid (stepsP s.data.toList = allNums (ps.map (·.data.toList))) := hst
    have HPL : Hid _ := hpl
    clear hst hpl hcl hcut hrl hds hdl hd htr hr h1 hp
    obtain ⟨i0, hi, hz0, hz1, hz2⟩ := info_parts Tryd.infoInt
    go_enter Tryd.func23, Tryd.ntmps23
    go_wp2_with fail
    refine Calls.mono HC.out ?_
    rintro e w1 ⟨rfl, hw1⟩
    subst w1
    go_wp2_with fail
    refine Calls.mono HSP.out ?_
    rintro e w2 ⟨rfl, hw2⟩
    have hcell : ∀ k, (h : k < ps.length) → w2.cell? ⟨w.heap.size, k, none⟩ = some (.string ps[k]) := fun k h => by
      rw [hw2, World.cell?_alloc_at _ _ _ _ rfl]
      simp [h]
    have hB2 : Below w.heap.size w w2 := by rw [hw2]; exact (Below.refl _ _).alloc (Nat.le_refl _) _
    have hz2' : w2.heap.size = w.heap.size + 1 := by rw [hw2]; simp
    have HCE : Hid _ := hcell
    have HB2 : Hid _ := hB2
    have HZ2 : Hid (w2.heap.size = w.heap.size + 1) := hz2'
    have HST0 : Hid (Got w2 w2 (.slice none 0 0) []) := ⟨World.ownsRow_nil _ _ _ _, Below.refl _ _⟩
    clear hw2 hcell hB2 hz2' HC HSP
    go_wp2
    go_loopw [6, 23] (fun v i wr => ∃ (k : Nat) (ns : List Nat), k ≤ cnt + 1 ∧ i = .int .i64 k ∧ allNums ((ps.map (·.data.toList)).take k) = some ns ∧ Got w2 wr v ns) (fun _ i _ => cnt + 1 - (intOf i).toNat)
    case atStart => exact ⟨0, [], by omega, rfl, rfl, HST0.out⟩
    case round =>
      clear HST0
      obtain ⟨k, ns, hk, rfl, han, hG⟩ := hrel
      have HG : Hid _ := hG
      have HAN : Hid _ := han
      by_cases hlt : k < cnt + 1
      · have hkp : k < ps.length := by omega
        have hkI : (k : Int) < (cnt : Int) + 1 := by omega
        have hcw : w.heap.size < w2.heap.size := by have := HZ2.out; omega
        have ck := (hG.below.cell (p := ⟨w.heap.size, k, none⟩) hcw).trans (HCE.out k hkp)
        have HNU : Hid _ := number_any ps[k] (HPL.out k hkp) wr
        have hnx := allNums_take (ps.map (·.data.toList)) k ns han (by simpa using hkp)
        simp only [List.getElem_map] at hnx
        have hnsl : ns.length ≤ k := by
          have := allNums_len _ _ han
          rw [this, List.length_take]
          omega
        have HNL : Hid (ns.length ≤ k) := hnsl
        generalize ps[k] = pc at ck HNU hnx
        clear han hnsl
        cases hn : isNum pc.data.toList with
        | false =>
          rw [hn, numRes_no hn] at HNU
          have HT : Hid (Told s.data.toList w wr (.returned (.tuple #[.slice none 0 0, .bool false]))) := told_none (by rw [HST.out]; exact hnx.2 hn) (HB2.out.trans (hG.below.mono HB2.out.size))
          clear hn hnx hG
          go_wp2_with fail
          refine Calls.mono HNU.out ?_
          rintro e w3 ⟨rfl, hw3⟩
          subst w3
          go_wp2
          go_ret2
          exact HT.out
        | true =>
          rw [hn, numRes_yes hn] at HNU
          have HA2 : Hid _ := hnx.1 hn
          generalize numV pc.data.toList = nv at HNU HA2
          have HBL : Hid (∀ o, Below wr.heap.size wr (wr.alloc o)) := fun o => (Below.refl _ _).alloc (Nat.le_refl _) o
          have hsz := hG.below.size
          clear hn hnx hG
          go_wp2_with (first | (go_at_call 43; refine Calls.mono HNU.out ?_; rintro e w3 ⟨rfl, hw3⟩; subst w3) | (at_builtin; refine wpList_append_own _ rfl _ _ 38 rfl w2.heap.size 3 i0 (.int .i64 0) 1 8 Tryd.underlying38 hi hz0 hz1 hz2 rfl (by decide) _ _ _ rfl (own_below_s HG.out.own (HBL.out _)) ⟨wr.heap.size, 0, none⟩ 1 1 [.int .i64 (nv : Int)] rfl rfl (by intro j u hj; match j, hj with | 0, hj => (simp at hj; subst hj; simp [Addr.add])) (by intro u hu; simp at hu; subst hu; rfl) (by have := HNL.out; unfold maxLen; omega) (by have := HNL.out; omega) (by simp; omega) ?_))
          intro v' w' hown' hgrow _
          obtain ⟨⟨g', cap', rfl⟩, HN⟩ : (∃ g cap, v' = .slice (some ⟨g, 0, none⟩) (ns.length + 1) cap) ∧ Hid (Got w2 w' v' (ns ++ [nv])) := ⟨Joins.ownsRow_form hown' (by omega), HG.out.add (HBL.out _) hown' hgrow⟩
          clear hown' hgrow ck
          go_wp2
          go_roundw
          case rel => exact ⟨k + 1, _, by omega, by go_num, HA2.out, HN.out⟩
          case measure => simp [intOf]; omega
      · have hkI : ¬ (k : Int) < (cnt : Int) + 1 := by omega
        have HA : Hid (stepsP s.data.toList = some ns) := by
          show _ = _
          rw [HST.out, ← HAN.out, List.take_of_length_le (by simp; omega)]
        obtain ⟨a, cap, hv⟩ := own_head_s hG.own
        have HT : Hid (Told s.data.toList w wr (.returned (.tuple #[u6, .bool true]))) := ⟨_, by rw [HA.out]; rfl, by rw [HA.out]; exact own_mono_s hG.own HB2.out.size, HB2.out.trans (hG.below.mono HB2.out.size)⟩
        rw [hv] at HT
        subst hv
        clear hG HG HAN HA han hall
        go_wp2
        go_ret2
        exact HT.out
end Go.Proofs.YtjfbogjpmieogaaDoor
