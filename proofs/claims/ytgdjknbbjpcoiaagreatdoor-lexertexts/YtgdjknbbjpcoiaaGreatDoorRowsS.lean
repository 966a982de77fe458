/-
  A row of this call's own behind another one: append, whatever the two hold.
-/
import Derived.Test.YtgdjknbbjpcoiaaGreatDoorPassS
import Derived.Laws.AppendOwnNone
namespace Go.Proofs.YtgdjknbbjpcoiaaGreatDoor
open Go.RowKit

/-- A row that is this call's own is kept by whatever leaves its block alone. -/
theorem own_but2 {w w' : World} {base : Nat} {e : TypeId} {size n d B : Nat} {v : Value} {xs : List Value} (h : w.ownsRow base e size v n xs) (hb : But d B w w') (hk : ∀ g, v.ownBlock = some g → g < B ∧ g ≠ d) : w'.ownsRow base e size v n xs := by
  refine ⟨h.1, ?_⟩
  rcases h.2 with hn | ⟨g, cap, cur, rfl, hb', hgg, rest⟩
  · exact .inl hn
  · have := hk g rfl
    refine .inr ⟨g, cap, cur, rfl, hb', ?_, rest⟩
    rw [hb.block g this.1 this.2]
    exact hgg

theorem own_mono {w : World} {base base' : Nat} {e : TypeId} {size : Nat} {v : Value} {n : Nat} {xs : List Value} (h : w.ownsRow base e size v n xs) (hb : base' ≤ base) : w.ownsRow base' e size v n xs := by
  refine ⟨h.1, ?_⟩
  rcases h.2 with hn | ⟨g, cap, cur, rfl, hb', rest⟩
  · exact .inl hn
  · exact .inr ⟨g, cap, cur, rfl, by omega, rest⟩

theorem own_lt2 {w : World} {base : Nat} {e : TypeId} {size : Nat} {v : Value} {n : Nat} {xs : List Value} (h : w.ownsRow base e size v n xs) : ∀ k, v.ownBlock = some k → base ≤ k ∧ k < w.heap.size := by
  intro k hk
  exact ⟨own_block_ge h k hk, (h.lt k hk).2⟩

theorem own_cells {w : World} {base : Nat} {e : TypeId} {size g n cap : Nat} {xs : List Value} (h : w.ownsRow base e size (.slice (some ⟨g, 0, none⟩) n cap) n xs) : ∀ j u, xs[j]? = some u → w.cell? ((⟨g, 0, none⟩ : Addr).add j) = some u := by
  intro j u hj
  have e0 : (⟨g, 0, none⟩ : Addr).add j = ⟨g, j, none⟩ := by cases j <;> simp [Addr.add]
  rw [e0]
  rcases h.2 with ⟨hv, _⟩ | ⟨g', cap', cur, hv, hg, hh, hnc, hcm, hcs, htk⟩
  · cases hv
  · injection hv with h1 _ _
    injection h1 with h1
    injection h1 with h1 _ _
    subst h1
    rw [← htk, List.getElem?_take] at hj
    split at hj
    · simp only [World.cell?, hh]
      simpa using hj
    · cases hj

theorem wpList_append_rows {P : Program} {w : World} {ops : Array Oper} {rest : List Oper} {o : Oper} {a : Act} {Q : Exit → Act → World → Prop} (hgd : o.guard = none) (s x : Operand) (t : TypeId)
    (ho : o.op = .call { callee := .builtin .append, args := #[s, x], argTypes := #[t, t] })
    (base : Nat) (e : TypeId) (i : TypeInfo) (z : Value) (size bytes : Nat) (ht : P.underlying t = some (.slice e)) (hi : P.info? e = some i) (hz : i.zero = some z)
    (hsize : i.size = size) (hby : i.bytes = bytes) (hzs : z.cells.size = size) (hsz : 0 < size)
    (v : Value) (n : Nat) (xs : List Value) (hs : a.eval s = v) (hown : w.ownsRow base e size v n xs)
    (base' : Nat) (v2 : Value) (m : Nat) (ys : List Value) (hx : a.eval x = v2) (hown2 : w.ownsRow base' e size v2 m ys) (h1 : ∀ u ∈ ys, u.oneCell' = true)
    (h63 : n + m ≤ maxLen) (hbytes : (n + m) * bytes ≤ 140737488355328) (hbase : base ≤ w.heap.size)
    (h : ∀ v' w', w'.ownsRow base e size v' (n + m) (xs ++ ys) → w.grownBy w' v.ownBlock → wpList P ops Q rest (a.put o.dst v') w') : wpList P ops Q (o :: rest) a w := by
  rcases hown2.2 with ⟨hn, hm⟩ | ⟨g, cap, cur, hv, _⟩
  · subst hm
    have hys : ys = [] := List.length_eq_zero_iff.1 (by have := hown2.1; omega)
    subst hys
    refine wpList_append_own_none hgd s x t ho base e i size ht hi v n xs hs hown (hx.trans hn) ?_
    exact h v w (by simpa using hown) (World.grownBy.refl _ _)
  · refine wpList_append_own w hgd s x t ho base e i z size bytes ht hi hz hsize hby hzs hsz v n xs hs hown ⟨g, 0, none⟩ m cap ys (hx.trans hv) hown2.1 (fun j u hj => own_cells (hv ▸ hown2) j u hj) h1 h63 hbytes hbase (fun v' w' k1 k2 _ => h v' w' k1 k2)

theorem runes_len (rs : List (Int × Int)) : (rs.flatMap runeC).length = rs.length * 2 := by
  induction rs with
  | nil => rfl
  | cons r rs ih => simp only [List.flatMap_cons, List.length_append, ih, runeC, List.length_cons, List.length_nil]; omega
theorem runes_one (rs : List (Int × Int)) : ∀ u ∈ rs.flatMap runeC, u.oneCell' = true := by
  intro u hu
  obtain ⟨r, _, hr⟩ := List.mem_flatMap.1 hu
  simp only [runeC, List.mem_cons, List.not_mem_nil, or_false] at hr
  rcases hr with rfl | rfl <;> rfl
theorem diags_one (ws : List Int) : ∀ u ∈ ws.flatMap diagC, u.oneCell' = true := by
  intro u hu
  obtain ⟨r, _, hr⟩ := List.mem_flatMap.1 hu
  simp only [diagC, List.mem_cons, List.not_mem_nil, or_false] at hr
  rcases hr with rfl | rfl | rfl <;> rfl

theorem feed_len (l : List UInt8) : ∀ D, (feedR D l).length ≤ 2 * l.length ∧ (feedW D l).length ≤ 2 * l.length := by
  induction l with
  | nil => intro D; simp [feedR, feedW]
  | cons b l ih =>
    intro D
    have h1 := nextR_len D b
    have h2 := ih (nextD D b)
    simp only [feedR, feedW, List.length_append, List.length_cons]
    omega
theorem end_len (D : DSt) : (endR D).length ≤ 1 ∧ (endW D).length ≤ 1 := by
  unfold endR endW
  split <;> simp
theorem feed_ok (l : List UInt8) : ∀ D, DOk D → DOk (feedD D l) := by
  induction l with
  | nil => intro D h; exact h
  | cons b l ih => intro D h; exact ih _ (nextD_ok D b h)
theorem feed_place (l : List UInt8) : ∀ D, (feedD D l).place = D.place + l.length := by
  induction l with
  | nil => intro D; simp [feedD]
  | cons b l ih =>
    intro D
    have := (nextD_coding D b).2
    simp only [feedD, ih, this, List.length_cons]
    omega

set_option maxRecDepth 100000 in
set_option maxHeartbeats 1000000 in
theorem pass_zero (lb cap : Nat) (a : Option Addr) (w : World) :
    Calls Tryz.prog 28 #[.pointer (some ⟨lb, 0, none⟩), .slice a 0 cap] w fun e w' => e = .returned (.slice none 0 0) ∧ Below w.heap.size w w' := by
  go_enter Tryz.func28, Tryz.ntmps28
  go_wp2
  refine wp_loop_rounds 1 ?_
  rw [rounds_succ]
  go_wp2
  go_ret
  exact ⟨rfl, Below.refl _ _⟩

/-- What Pass makes of a row that is somebody's own. -/
structure Passed (w w' : World) (lb : Nat) (b : Bool) (vo : Value) (os : List (Int × Int)) : Prop where
  own : w'.ownsRow w.heap.size 121 2 vo os.length (os.flatMap runeC)
  c : w'.cell? ⟨lb, 0, none⟩ = some (.bool b)
  f : w'.frozen? ⟨lb, 0, none⟩ = false
  but : But lb w.heap.size w w'

theorem pass_any (lb base : Nat) (v : Value) (b0 : Bool) (rs : List (Int × Int)) (w : World) (hc0 : w.cell? ⟨lb, 0, none⟩ = some (.bool b0)) (hf0 : w.frozen? ⟨lb, 0, none⟩ = false) (hlb : lb < w.heap.size) (hlen : rs.length ≤ 1099511627776)
    (hown : w.ownsRow base 121 2 v rs.length (rs.flatMap runeC)) (hne : ∀ g, v.ownBlock = some g → g ≠ lb) :
    Calls Tryz.prog 28 #[.pointer (some ⟨lb, 0, none⟩), v] w fun e w' => ∃ vo, e = .returned vo ∧ Passed w w' lb (passB b0 rs) vo (passR b0 rs) := by
  rcases Nat.eq_zero_or_pos rs.length with h0 | hpos
  · obtain ⟨a, cap, rfl⟩ := own_head hown
    have hrs : rs = [] := List.length_eq_zero_iff.1 h0
    subst hrs
    refine (pass_zero lb cap a w).mono ?_
    rintro e w' ⟨rfl, hb⟩
    exact ⟨_, rfl, World.ownsRow_nil _ _ _ _, (hb.cell (p := ⟨lb, 0, none⟩) hlb).trans hc0, (hb.frozen (p := ⟨lb, 0, none⟩) hlb).trans hf0, But.of hb⟩
  · obtain ⟨g, cap, rfl, hcap, hg, hgl, hcells⟩ := own_runes hown hpos
    refine (pass_some lb g cap b0 rs w hc0 hf0 hlb hgl (hne g rfl) hlen (fun p hp => by have := hcells p hp; rwa [Nat.mul_comm 2 p] at this)).mono ?_
    rintro e w' ⟨vo, rfl, hP⟩
    have hd : rs.drop rs.length = [] := List.drop_length
    exact ⟨vo, rfl, hP.own, hP.c, hP.f, hP.but⟩
end Go.Proofs.YtgdjknbbjpcoiaaGreatDoor
