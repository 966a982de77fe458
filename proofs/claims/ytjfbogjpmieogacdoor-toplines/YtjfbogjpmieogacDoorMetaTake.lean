/-
  take: one attribute of a meta element.
-/
import Derived.Test.YtjfbogjpmieogacDoorPreSmall
import Derived.Deep.RegionLaw
import Derived.Deep.DeepCutAuto
import Derived.Deep.QuietTactic
import Derived.BigQuiet
import Derived.BigRegion
import Derived.Lib.SmallJoins
namespace Go.Proofs.YtjfbogjpmieogacDoor.Sn
open Go.RowKit

theorem step_append_own {P : Program} {ops : Array Oper} {o : Oper} {a : Act} {w : World} {K : Act → World → Prop} {Q : Exit → Act → World → Prop} {E : Prop}
    (hg : o.guard = none) (s x : Operand) (t : TypeId) (hop : o.op = Op.call { callee := Callee.builtin Builtin.append, args := #[s, x], argTypes := #[t, t] })
    (base : Nat) (e : TypeId) (i : TypeInfo) (z : Value) (size bytes : Nat) (ht : P.underlying t = some (.slice e)) (hi : P.info? e = some i) (hz : i.zero = some z)
    (hsize : i.size = size) (hby : i.bytes = bytes) (hzs : z.cells.size = size) (hsz : 0 < size)
    (v : Value) (n : Nat) (xs : List Value) (hs : a.eval s = v) (hown : w.ownsRow base e size v n xs)
    (ad : Addr) (m c : Nat) (news : List Value) (hx : a.eval x = .slice (some ad) m c) (hl : news.length = m * size) (hnews : ∀ j u, news[j]? = some u → w.cell? (ad.add j) = some u) (h1 : ∀ u ∈ news, u.oneCell' = true)
    (h63 : n + m ≤ maxLen) (hbytes : (n + m) * bytes ≤ 140737488355328) (hbase : base ≤ w.heap.size)
    (h : ∀ v' w', w'.ownsRow base e size v' (n + m) (xs ++ news) → w.grownBy w' v.ownBlock → K (a.put o.dst v') w') :
    if Region.wanted o (yielded ops a.tmps) = true then Oper.wp P o a w K Q else E := by
  have hw : Region.wanted o (yielded ops a.tmps) = true := by simp [Region.wanted, hg]
  rw [if_pos hw]
  exact wp_append_own w s x t hop base e i z size bytes ht hi hz hsize hby hzs hsz v n xs hs hown ad m c news hx hl hnews h1 h63 hbytes hbase (fun v' w' h2 h3 _ => h v' w' h2 h3)

/-- What the attributes of one meta element have told so far. -/
structure MSt where
  seen : List ByteArray
  name : ByteArray
  pragma : Bool
  wanted : Bool

structure MetaAt (w : World) (b base : Nat) (v : Value) (st : MSt) : Prop where
  c0 : w.cell? ⟨b, 0, none⟩ = some v
  c1 : w.cell? ⟨b, 1, none⟩ = some (.string st.name)
  c2 : w.cell? ⟨b, 2, none⟩ = some (.bool st.pragma)
  c3 : w.cell? ⟨b, 3, none⟩ = some (.bool st.wanted)
  f0 : w.frozen? ⟨b, 0, none⟩ = false
  f1 : w.frozen? ⟨b, 1, none⟩ = false
  f2 : w.frozen? ⟨b, 2, none⟩ = false
  f3 : w.frozen? ⟨b, 3, none⟩ = false
  own : w.ownsRow base 9 1 v st.seen.length (st.seen.map Value.string)
  lt : b < base
  le : base ≤ w.heap.size

theorem MetaAt.below {w w' : World} {b base : Nat} {v : Value} {st : MSt} (h : MetaAt w b base v st) (hb : Below w.heap.size w w') : MetaAt w' b base v st := by
  have hl : b < w.heap.size := Nat.lt_of_lt_of_le h.lt h.le
  have own : w'.ownsRow base 9 1 v st.seen.length (st.seen.map Value.string) := by
    obtain ⟨h1, h2⟩ := h.own
    refine ⟨h1, ?_⟩
    rcases h2 with h2 | ⟨g, cap, cur, hv, hg, hh, r⟩
    · exact Or.inl h2
    · have hgl : g < w.heap.size := by
        rcases Nat.lt_or_ge g w.heap.size with h' | h'
        · exact h'
        · simp [Array.getElem?_eq_none h'] at hh
      exact Or.inr ⟨g, cap, cur, hv, hg, (hb.block g hgl).trans hh, r⟩
  exact ⟨(hb.cell (p := ⟨b, 0, none⟩) hl).trans h.c0, (hb.cell (p := ⟨b, 1, none⟩) hl).trans h.c1, (hb.cell (p := ⟨b, 2, none⟩) hl).trans h.c2, (hb.cell (p := ⟨b, 3, none⟩) hl).trans h.c3,
    (hb.frozen (p := ⟨b, 0, none⟩) hl).trans h.f0, (hb.frozen (p := ⟨b, 1, none⟩) hl).trans h.f1, (hb.frozen (p := ⟨b, 2, none⟩) hl).trans h.f2, (hb.frozen (p := ⟨b, 3, none⟩) hl).trans h.f3, own, h.lt, Nat.le_trans h.le hb.size⟩

theorem contains_own {w : World} {base : Nat} {v : Value} {seen : List ByteArray} (x : ByteArray) (h : w.ownsRow base 9 1 v seen.length (seen.map Value.string)) (hn : seen.length ≤ 100000) :
    Calls Tryd.prog 65 #[v, .string x] w fun e w' => e = .returned (.bool (Lib.containsS seen x)) ∧ w' = w := by
  rcases h.2 with ⟨rfl, h0⟩ | ⟨g, cap, cur, rfl, hg, hh, hnc, hcm, hcs, htk⟩
  · have e : seen = [] := List.length_eq_zero_iff.1 h0
    subst e
    exact Tryd.slices_Contains_string_empty none 0 x w
  · have h2 := Tryd.slices_Contains_string g 0 seen.length cap seen x w (Nat.le_refl _) (by omega) (fun j hj => by
      have hj2 : (seen.map Value.string)[j]? = some (.string (seen.getD j ByteArray.empty)) := by simp [hj]
      rw [← htk, List.getElem?_take, if_pos (by omega)] at hj2
      simp [World.cell?, hh]
      simpa using hj2)
    rw [List.take_of_length_le (Nat.le_refl _)] at h2
    exact h2

theorem Tryd.info9 : (Tryd.prog.info? 9).map (fun i => (i.zero, i.size, i.bytes)) = some (some (.string ByteArray.empty), 1, 16) := by kernel_rfl

def wHE : List UInt8 := [104, 116, 116, 112, 45, 101, 113, 117, 105, 118]
def wCT : List UInt8 := [99, 111, 110, 116, 101, 110, 116, 45, 116, 121, 112, 101]
def wCO : List UInt8 := [99, 111, 110, 116, 101, 110, 116]
def wCH : List UInt8 := [99, 104, 97, 114, 115, 101, 116]

def mstep (st : MSt) (n v : ByteArray) : MSt :=
  if Lib.containsS st.seen n then st
  else if n.toList == [104, 116, 116, 112, 45, 101, 113, 117, 105, 118] then { st with seen := st.seen ++ [n], pragma := v.toList == [99, 111, 110, 116, 101, 110, 116, 45, 116, 121, 112, 101] }
  else if n.toList == [99, 111, 110, 116, 101, 110, 116] then (if (charF v).2 && st.name.toList.isEmpty then { st with seen := st.seen ++ [n], name := (charF v).1, wanted := true } else { st with seen := st.seen ++ [n] })
  else if n.toList == [99, 104, 97, 114, 115, 101, 116] then { st with seen := st.seen ++ [n], name := v, wanted := false }
  else { st with seen := st.seen ++ [n] }

def Took (w w' : World) (b base : Nat) (st : MSt) : Prop := ∃ v', MetaAt w' b base v' st ∧ Below b w w'

theorem take_seen (b base : Nat) (v : Value) (st : MSt) (n vv : ByteArray) (w : World) (hM : MetaAt w b base v st) (hlen : st.seen.length ≤ 2000) (hc : Lib.containsS st.seen n = true) :
    Calls Tryd.prog 45 #[.pointer (some ⟨b, 0, none⟩), .agg #[.string n, .string vv]] w fun e w' => e = .returned (.tuple #[]) ∧ Took w w' b base (mstep st n vv) := by
  have hbl : Below w.heap.size w (w.alloc (.cells #[.string n, .string vv] 88)) := (Below.refl _ _).alloc (Nat.le_refl _) _
  have hM1 := hM.below hbl
  have hbw : b < w.heap.size := Nat.lt_of_lt_of_le hM.lt hM.le
  have HC : Hid (∀ q, Calls Tryd.prog 65 #[v, .string n] ((w.alloc (.cells #[.string n, .string vv] 88)).drewN q) fun e w' => e = .returned (.bool true) ∧ w' = (w.alloc (.cells #[.string n, .string vv] 88)).drewN q) := fun q => by
    have h := contains_own (w := (w.alloc (.cells #[.string n, .string vv] 88)).drewN q) n hM1.own (by omega)
    rw [hc] at h
    exact h
  have h0 := hM1.c0
  have HM1 : Hid (MetaAt (w.alloc (.cells #[.string n, .string vv] 88)) b base v st) := hM1
  have HS : Hid (mstep st n vv = st) := by
    show _ = _
    simp [mstep, hc]
  clear hM1 hM hc
  go_enter Tryd.func45, Tryd.ntmps45
  go_wp2
  go_quiet ((go_at_call 65; exact Calls.quiet_of_same (HC.out _)))
  go_wp2
  rw [HS.out]
  exact bodyPost_ret (v := .tuple #[]) (by simp [results, Tryd.results45, go_sem]) rfl ⟨rfl, v, HM1.out.below (below_drewN (Below.refl _ _) _), below_drewN ((Below.refl _ _).alloc (Nat.le_of_lt hbw) _) _⟩

/-- A store into the block of the element itself. -/
theorem MetaAt.store {w : World} {b base : Nat} {v : Value} {st : MSt} (h : MetaAt w b base v st) (o : Nat) (u v' : Value) (st' : MSt)
    (e0 : v' = if o = 0 then u else v) (e1 : Value.string st'.name = if o = 1 then u else .string st.name) (e2 : Value.bool st'.pragma = if o = 2 then u else .bool st.pragma) (e3 : Value.bool st'.wanted = if o = 3 then u else .bool st.wanted)
    (own : w.ownsRow base 9 1 v' st'.seen.length (st'.seen.map Value.string)) : MetaAt (w.setCell ⟨b, o, none⟩ u) b base v' st' := by
  have key : ∀ (j : Nat) (x : Value), w.cell? ⟨b, j, none⟩ = some x → (w.setCell ⟨b, o, none⟩ u).cell? ⟨b, j, none⟩ = some (if o = j then u else x) := by
    intro j x hx
    by_cases e : o = j
    · subst e
      rw [if_pos rfl]
      exact World.cell?_setCell_same _ _ _ hx
    · rw [if_neg e, World.cell?_setCell_other w ⟨b, o, none⟩ ⟨b, j, none⟩ u (by intro h; injection h with _ h _; exact e h)]
      exact hx
  refine ⟨?_, ?_, ?_, ?_, ?_, ?_, ?_, ?_, ownsRow_setCell_below own h.lt _, h.lt, by simpa [World.setCell] using h.le⟩
  · rw [key 0 _ h.c0, e0]
  · rw [key 1 _ h.c1, e1]
  · rw [key 2 _ h.c2, e2]
  · rw [key 3 _ h.c3, e3]
  · rw [World.frozen?_setCell]; exact h.f0
  · rw [World.frozen?_setCell]; exact h.f1
  · rw [World.frozen?_setCell]; exact h.f2
  · rw [World.frozen?_setCell]; exact h.f3

theorem mt_block_ge {w : World} {base : Nat} {e : TypeId} {size : Nat} {v : Value} {n : Nat} {xs : List Value} (h : w.ownsRow base e size v n xs) : ∀ k, v.ownBlock = some k → base ≤ k := by
  intro k hk
  rcases h.2 with ⟨rfl, _⟩ | ⟨g, cap, cur, rfl, hg, _⟩
  · cases hk
  · simp only [Value.ownBlock] at hk
    obtain rfl := Option.some.inj hk
    exact hg

theorem str_one (n : ByteArray) : ∀ u ∈ [Value.string n], u.oneCell' = true := by
  intro u hu
  rw [List.mem_singleton.1 hu]
  rfl

theorem own_lt {w : World} {base : Nat} {e : TypeId} {size : Nat} {v : Value} {n : Nat} {xs : List Value} (h : w.ownsRow base e size v n xs) : ∀ k, v.ownBlock = some k → k < w.heap.size := by
  intro k hk
  rcases h.2 with ⟨rfl, _⟩ | ⟨g, cap, cur, rfl, _, hh, _⟩
  · cases hk
  · simp only [Value.ownBlock] at hk
    obtain rfl := Option.some.inj hk
    rcases Nat.lt_or_ge g w.heap.size with h' | h'
    · exact h'
    · simp [Array.getElem?_eq_none h'] at hh

/-- Behind the append of a name to those that were seen. -/
theorem took {w w' : World} {b base q : Nat} {v v' : Value} {st : MSt} {n vv : ByteArray} (h : MetaAt w b base v st)
    (hown' : w'.ownsRow base 9 1 v' (st.seen.length + 1) (st.seen.map Value.string ++ [.string n]))
    (hgrow : (((w.alloc (.cells #[.string n, .string vv] 88)).drewN q).alloc (.cells #[.string n] 9)).grownBy w' v.ownBlock) :
    (∃ g cap, v' = .slice (some ⟨g, 0, none⟩) (st.seen.length + 1) cap) ∧ w'.cell? ⟨b, 0, none⟩ = some v ∧ w'.frozen? ⟨b, 0, none⟩ = false ∧
    MetaAt (w'.setCell ⟨b, 0, none⟩ v') b base v' { st with seen := st.seen ++ [n] } ∧ Below b w (w'.setCell ⟨b, 0, none⟩ v') ∧
    (w'.setCell ⟨b, 0, none⟩ v').cell? ⟨w.heap.size, 0, none⟩ = some (.string n) ∧ (w'.setCell ⟨b, 0, none⟩ v').cell? ⟨w.heap.size, 1, none⟩ = some (.string vv) := by
  have hbw : b < w.heap.size := Nat.lt_of_lt_of_le h.lt h.le
  have hB1 : Below base w (((w.alloc (.cells #[.string n, .string vv] 88)).drewN q).alloc (.cells #[.string n] 9)) :=
    (below_drewN ((Below.refl _ _).alloc h.le _) q).alloc (by show base ≤ (w.alloc _).heap.size; have := h.le; simp; omega) _
  have hB : Below base w w' := hB1.grown hgrow (by have := h.le; have := hB1.size; omega) (mt_block_ge h.own)
  have c0 := (hB.cell (p := ⟨b, 0, none⟩) h.lt).trans h.c0
  have f0 := (hB.frozen (p := ⟨b, 0, none⟩) h.lt).trans h.f0
  have hbox : ∀ j, w'.cell? ⟨w.heap.size, j, none⟩ = (w.alloc (.cells #[.string n, .string vv] 88)).cell? ⟨w.heap.size, j, none⟩ := by
    intro j
    have hk : w'.heap[w.heap.size]? = (((w.alloc (.cells #[.string n, .string vv] 88)).drewN q).alloc (.cells #[.string n] 9)).heap[w.heap.size]? :=
      hgrow.block _ (by show w.heap.size < ((w.alloc _).alloc _).heap.size; simp; omega) (fun e => by have := own_lt h.own _ e.symm; omega)
    have hk2 : (((w.alloc (.cells #[.string n, .string vv] 88)).drewN q).alloc (.cells #[.string n] 9)).heap[w.heap.size]? = (w.alloc (.cells #[.string n, .string vv] 88)).heap[w.heap.size]? :=
      Below.heap_alloc ((w.alloc (.cells #[.string n, .string vv] 88)).drewN q) _ _ (by show w.heap.size < (w.alloc _).heap.size; simp)
    exact World.cell?_of_block (hk.trans hk2)
  have hne : ∀ j, (w'.setCell ⟨b, 0, none⟩ v').cell? ⟨w.heap.size, j, none⟩ = w'.cell? ⟨w.heap.size, j, none⟩ := fun j =>
    World.cell?_setCell_other w' ⟨b, 0, none⟩ ⟨w.heap.size, j, none⟩ v' (by intro e; injection e with e _ _; omega)
  refine ⟨Joins.ownsRow_form hown' (by omega), c0, f0, ?_, ?_, ?_, ?_⟩
  · have own2 : w'.ownsRow base 9 1 v' (st.seen ++ [n]).length ((st.seen ++ [n]).map Value.string) := by simpa using hown'
    have key : ∀ (j : Nat) (x : Value), j ≠ 0 → w.cell? ⟨b, j, none⟩ = some x → (w'.setCell ⟨b, 0, none⟩ v').cell? ⟨b, j, none⟩ = some x := fun j x hj hx => by
      rw [World.cell?_setCell_other w' ⟨b, 0, none⟩ ⟨b, j, none⟩ v' (by intro e; injection e with _ e _; exact hj e.symm)]
      exact (hB.cell (p := ⟨b, j, none⟩) h.lt).trans hx
    refine ⟨World.cell?_setCell_same _ _ _ c0, key 1 _ (by decide) h.c1, key 2 _ (by decide) h.c2, key 3 _ (by decide) h.c3, ?_, ?_, ?_, ?_, ownsRow_setCell_below own2 h.lt _, h.lt, ?_⟩
    · rw [World.frozen?_setCell]; exact f0
    · rw [World.frozen?_setCell]; exact (hB.frozen (p := ⟨b, 1, none⟩) h.lt).trans h.f1
    · rw [World.frozen?_setCell]; exact (hB.frozen (p := ⟨b, 2, none⟩) h.lt).trans h.f2
    · rw [World.frozen?_setCell]; exact (hB.frozen (p := ⟨b, 3, none⟩) h.lt).trans h.f3
    · have := hB.size
      have := h.le
      simp [World.setCell]
      omega
  · exact (hB.mono (Nat.le_of_lt h.lt)).setCell (Nat.le_refl _) _
  · rw [hne, hbox]
    exact World.cell?_alloc_at _ _ _ _ rfl
  · rw [hne, hbox]
    exact World.cell?_alloc_at _ _ _ _ rfl

theorem own_up {w : World} {b base q : Nat} {v : Value} {st : MSt} {n vv : ByteArray} (h : MetaAt w b base v st) :
    (((w.alloc (.cells #[.string n, .string vv] 88)).drewN q).alloc (.cells #[.string n] 9)).ownsRow base 9 1 v st.seen.length (st.seen.map Value.string) :=
  (h.below ((below_drewN ((Below.refl _ _).alloc (Nat.le_refl _) _) q).alloc (by show w.heap.size ≤ (w.alloc _).heap.size; simp) _)).own

theorem news_one (w : World) (n : ByteArray) (k : Nat) (hk : k = w.heap.size) : ∀ j u, [Value.string n][j]? = some u → (w.alloc (.cells #[.string n] 9)).cell? ((⟨k, 0, none⟩ : Addr).add j) = some u := by
  intro j u hj
  subst hk
  match j, hj with
  | 0, hj =>
    simp at hj
    subst hj
    simp [Addr.add]

set_option maxRecDepth 100000 in
set_option maxHeartbeats 2000000 in
theorem take_new (b base : Nat) (v : Value) (st : MSt) (n vv : ByteArray) (m : Int) (w : World) (hM : MetaAt w b base v st) (hlen : st.seen.length ≤ 2000) (hvs : vv.size < 4294967281)
    (hg : 1 < b) (hm : w.cell? ⟨1, 0, none⟩ = some (.int .i64 m)) (hc : Lib.containsS st.seen n = false) :
    Calls Tryd.prog 45 #[.pointer (some ⟨b, 0, none⟩), .agg #[.string n, .string vv]] w fun e w' => e = .returned (.tuple #[]) ∧ Took w w' b base (mstep st n vv) := by
  obtain ⟨i0, hi, hz0, hz1, hz2⟩ := info_parts Tryd.info9
  have hbl : Below w.heap.size w (w.alloc (.cells #[.string n, .string vv] 88)) := (Below.refl _ _).alloc (Nat.le_refl _) _
  have hM1 := hM.below hbl
  have hbw : b < w.heap.size := Nat.lt_of_lt_of_le hM.lt hM.le
  have hbase : base ≤ w.heap.size := hM.le
  have HC : Hid (∀ q, Calls Tryd.prog 65 #[v, .string n] ((w.alloc (.cells #[.string n, .string vv] 88)).drewN q) fun e w' => e = .returned (.bool false) ∧ w' = (w.alloc (.cells #[.string n, .string vv] 88)).drewN q) := fun q => by
    have h := contains_own (w := (w.alloc (.cells #[.string n, .string vv] 88)).drewN q) n hM1.own (by omega)
    rw [hc] at h
    exact h
  have h0 := hM1.c0
  have HM1 : Hid (MetaAt (w.alloc (.cells #[.string n, .string vv] 88)) b base v st) := hM1
  have HMW : Hid (MetaAt w b base v st) := hM
  have HM0 : Hid (w.cell? ⟨1, 0, none⟩ = some (.int .i64 m)) := hm
  have hf0 := hM1.f0
  clear hM1 hM hm
  go_enter Tryd.func45, Tryd.ntmps45
  go_wp2
  go_quiet ((go_at_call 65; exact Calls.quiet_of_same (HC.out _)))
  go_upto_region 2 with fail
  clear HC
  go_cut [] (fun wx => ∃ v', MetaAt wx b base v' { st with seen := st.seen ++ [n] } ∧ Below b w wx ∧ wx.cell? ⟨w.heap.size, 0, none⟩ = some (.string n) ∧ wx.cell? ⟨w.heap.size, 1, none⟩ = some (.string vv))
  case first =>
    go_region_law (refine step_append_own rfl (.tmp 17) (.tmp 20) 57 rfl base 9 i0 (.string ByteArray.empty) 1 16 Tryd.underlying57 hi hz0 hz1 hz2 rfl (by decide) v st.seen.length (st.seen.map Value.string) (by simp [Act.eval]) (own_up HMW.out) ⟨w.heap.size + 1, 0, none⟩ 1 1 [.string n] (by simp [Act.eval]) rfl (news_one _ n _ (by show w.heap.size + 1 = (w.alloc _).heap.size; simp)) (str_one n) (by unfold maxLen; omega) (by omega) (by show base ≤ ((w.alloc _).alloc _).heap.size; simp; omega) (fun v' w' hown' hgrow => ?_); obtain ⟨⟨g, cap, rfl⟩, k0, k1, kR⟩ := took HMW.out hown' hgrow; have KR : Hid _ := kR; clear kR hown' hgrow)
    all_goals
      go_wp2_with fail
      go_meet
      exact ⟨_, KR.out.1, KR.out.2.1, KR.out.2.2.1, KR.out.2.2.2⟩
  case rest =>
    obtain ⟨v1, hM2, hB2, hn0, hv0⟩ := hcut
    have HM2 : Hid (MetaAt wc b base v1 { st with seen := st.seen ++ [n] }) := hM2
    have d1 := hM2.c1
    have d2 := hM2.c2
    have d3 := hM2.c3
    have e1 := hM2.f1
    have e2 := hM2.f2
    have e3 := hM2.f3
    have own := hM2.own
    have HOW : Hid (wc.ownsRow base 9 1 v1 (st.seen ++ [n]).length ((st.seen ++ [n]).map Value.string)) := own
    have HCT : Hid (wc.cell? ⟨1, 0, none⟩ = some (.int .i64 m)) := by
      show _ = _
      rw [hB2.cell (p := ⟨1, 0, none⟩) hg]
      exact HM0.out
    have hgw : 1 < wc.heap.size := by have := hB2.size; omega
    have hbc : b < wc.heap.size := by have := hB2.size; omega
    have hwc : w.heap.size < wc.heap.size := by
      rcases Nat.lt_or_ge w.heap.size wc.heap.size with h | h
      · exact h
      · simp [World.cell?, Array.getElem?_eq_none h] at hn0
    clear own hM2 h0 hf0 HM1 HM0 hbl hi hz0 hz1 hz2
    cases g1 : (n.toList == [104, 116, 116, 112, 45, 101, 113, 117, 105, 118])
    rotate_left
    · have HS : Hid (mstep st n vv = { st with seen := st.seen ++ [n], pragma := vv.toList == [99, 111, 110, 116, 101, 110, 116, 45, 116, 121, 112, 101] }) := by
        show _ = _
        simp [mstep, hc, g1]
      clear hc
      go_wp2
      go_end0
      exact ⟨rfl, v1, by rw [HS.out]; exact HM2.out.store 2 _ _ _ rfl rfl rfl rfl HOW.out, hB2.setCell (Nat.le_refl _) _⟩
    cases g2 : (n.toList == [99, 111, 110, 116, 101, 110, 116])
    rotate_left
    · obtain ⟨⟨cn, cb⟩, hcd⟩ : ∃ C, charF vv = C := ⟨_, rfl⟩
      have HCF : Hid (charF vv = (cn, cb)) := hcd
      clear hcd
      go_wp2_with fail
      refine (charset_any _ m _ hvs hgw (by exact HCT.out)).mono ?_
      rintro e w2 ⟨rfl, hb2⟩
      rw [HCF.out]
      have hM3 := HM2.out.below hb2
      have HM3 : Hid (MetaAt w2 b base v1 { st with seen := st.seen ++ [n] }) := hM3
      have HO3 : Hid (w2.ownsRow base 9 1 v1 (st.seen ++ [n]).length ((st.seen ++ [n]).map Value.string)) := hM3.own
      have d1' := hM3.c1
      have d3' := hM3.c3
      have e1' := hM3.f1
      have e3' := hM3.f3
      have hB3 : Below b w w2 := hB2.trans (hb2.mono (Nat.le_of_lt hbc))
      clear hM3 d1 d2 d3 e1 e2 e3 hb2 hB2 hn0 hv0 HM2 HOW HCT
      cases cb
      · have HS : Hid (mstep st n vv = { st with seen := st.seen ++ [n] }) := by
          show _ = _
          simp [mstep, hc, g1, g2, HCF.out]
        clear hc
        go_wp2
        go_end0
        exact ⟨rfl, v1, by rw [HS.out]; exact HM3.out, hB3⟩
      · cases hem : st.name.toList.isEmpty
        · have HS : Hid (mstep st n vv = { st with seen := st.seen ++ [n] }) := by
            show _ = _
            simp [mstep, hc, g1, g2, HCF.out, hem]
          clear hc
          go_wp2
          go_end0
          exact ⟨rfl, v1, by rw [HS.out]; exact HM3.out, hB3⟩
        · have HS : Hid (mstep st n vv = { st with seen := st.seen ++ [n], name := cn, wanted := true }) := by
            show _ = _
            simp [mstep, hc, g1, g2, HCF.out, hem]
          clear hc
          go_wp2
          go_end0
          exact ⟨rfl, v1, by rw [HS.out]; exact (HM3.out.store 1 _ _ { st with seen := st.seen ++ [n], name := cn } rfl rfl rfl rfl HO3.out).store 3 _ _ _ rfl rfl rfl rfl (ownsRow_setCell_below HO3.out HM3.out.lt _), (hB3.setCell (Nat.le_refl _) _).setCell (Nat.le_refl _) _⟩
    cases g3 : (n.toList == [99, 104, 97, 114, 115, 101, 116])
    · have HS : Hid (mstep st n vv = { st with seen := st.seen ++ [n] }) := by
        show _ = _
        simp [mstep, hc, g1, g2, g3]
      clear hc
      go_wp2
      go_end0
      exact ⟨rfl, v1, by rw [HS.out]; exact HM2.out, hB2⟩
    · have HS : Hid (mstep st n vv = { st with seen := st.seen ++ [n], name := vv, wanted := false }) := by
        show _ = _
        simp [mstep, hc, g1, g2, g3]
      clear hc
      go_wp2
      go_end0
      exact ⟨rfl, v1, by rw [HS.out]; exact (HM2.out.store 1 _ _ { st with seen := st.seen ++ [n], name := vv } rfl rfl rfl rfl HOW.out).store 3 _ _ _ rfl rfl rfl rfl (ownsRow_setCell_below HOW.out HM2.out.lt _), (hB2.setCell (Nat.le_refl _) _).setCell (Nat.le_refl _) _⟩
end Go.Proofs.YtjfbogjpmieogacDoor.Sn
