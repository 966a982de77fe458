/-
  The reference: from a place on, the last one first.
-/
import Derived.Test.YtalbiekleggkoaaSsImp
namespace Go.Proofs.Ytalbiekleggkoaa
open Go.RowKit

theorem Try.infoRc : (Try.prog.info? 32).map (fun i => (i.zero, i.size, i.bytes)) = some (some (.agg #[.int .i64 0, .string ⟨#[]⟩]), 2, 24) := by kernel_rfl

/-- A row of the reference, of its own. -/
structure RcOwn (w wr : World) (v : Value) (l : List Itm) : Prop where
  own : wr.ownsRow w.heap.size 32 2 v l.length (l.flatMap itmC)
  bel : Below w.heap.size w wr

theorem rcown_ge {w : World} {base : Nat} {e : TypeId} {size : Nat} {v : Value} {n : Nat} {xs : List Value} (h : w.ownsRow base e size v n xs) : ∀ k, v.ownBlock = some k → base ≤ k := by
  intro k hk
  rcases h.2 with ⟨rfl, _⟩ | ⟨g, cap, cur, rfl, hg, _⟩
  · cases hk
  · simp only [Value.ownBlock] at hk
    obtain rfl := Option.some.inj hk
    exact hg
theorem rcown_below {w w' : World} {base : Nat} {e : TypeId} {size : Nat} {v : Value} {n : Nat} {xs : List Value} (h : w.ownsRow base e size v n xs) (hb : Below w.heap.size w w') : w'.ownsRow base e size v n xs :=
  owns_kept (out := fun _ => False) h (Kept.below hb) (fun _ _ e => e)

theorem RcOwn.form {w wr : World} {v : Value} {l : List Itm} (h : RcOwn w wr v l) : ∃ a c, v = .slice a l.length c := by
  rcases h.own.2 with ⟨h1, h2⟩ | ⟨g1, c1, _, h1, _⟩
  · exact ⟨none, 0, by rw [h1, h2]⟩
  · exact ⟨_, c1, h1⟩

theorem RcOwn.add {w wr w1 w' : World} {v v' : Value} {l : List Itm} {c : Itm} (h : RcOwn w wr v l) (h01 : Below wr.heap.size wr w1) (hown : w'.ownsRow w.heap.size 32 2 v' (l.length + 1) (l.flatMap itmC ++ itmC c)) (hg : w1.grownBy w' v.ownBlock) : RcOwn w w' v' (l ++ [c]) := by
  have hs := h.bel.size
  refine ⟨by simpa using hown, (h.bel.trans (h01.mono hs)).grown hg (Nat.le_trans hs h01.size) (rcown_ge h.own)⟩

theorem rnews (w : World) (t : TypeId) (a b : Value) : ∀ j u, ([a, b] : List Value)[j]? = some u → (w.alloc (.cells #[a, b] t)).cell? ((⟨w.heap.size, 0, none⟩ : Addr).add j) = some u := by
  intro j u h
  match j, h with
  | 0, h => simp at h; subst h; exact World.cell?_alloc_at (w := w) _ _ _ 0 rfl
  | 1, h => simp at h; subst h; exact World.cell?_alloc_at (w := w) _ _ _ 1 rfl
  | (j + 2), h => simp at h

theorem turn_step {l : List Itm} {k : Nat} {c : Itm} (h : l[k]? = some c) : (l.drop k).reverse = (l.drop (k + 1)).reverse ++ [c] := by
  obtain ⟨hlt, rfl⟩ := List.getElem?_eq_some_iff.1 h
  rw [List.drop_eq_getElem_cons hlt]
  simp

set_option maxRecDepth 100000 in
set_option maxHeartbeats 4000000 in
theorem turned_any (a : Option Addr) (cap i : Nat) (l : List Itm) (w : World) (h : RcAt w a l) (hi : i ≤ l.length) (hl : l.length ≤ 100000) :
    Calls Try.prog 15 #[.slice a l.length cap, .int .i64 i] w fun e w' => ∃ v, e = .returned v ∧ RcOwn w w' v (l.drop i).reverse := by
  have HS : Hid _ := h
  obtain ⟨q, hq⟩ : ∃ q, (l.drop i).reverse = q := ⟨_, rfl⟩
  rw [hq]
  have HQ : Hid _ := hq
  clear hq
  obtain ⟨i0, hif, hz0, hz1, hz2⟩ := info_parts Try.infoRc
  have H0 : Hid (RcOwn w w (.slice none 0 0) (l.drop l.length).reverse) := by
    show RcOwn w w (.slice none 0 0) (l.drop l.length).reverse
    rw [List.drop_of_length_le (Nat.le_refl _)]
    exact ⟨World.ownsRow_nil _ _ _ _, Below.refl _ _⟩
  clear h
  go_enter Try.func15, Try.ntmps15
  go_wp2
  go_loopw [5, 6] (fun v n wr => ∃ k : Nat, i ≤ k ∧ k ≤ l.length ∧ n = .int .i64 ((k : Int) - 1) ∧ Hid (RcOwn w wr v (l.drop k).reverse)) (fun _ n _ => (intOf n + 1).toNat)
  case atStart => exact ⟨l.length, hi, Nat.le_refl _, by go_num, H0.out⟩
  case round =>
    clear H0
    obtain ⟨k, hk0, hk, rfl, HR⟩ := hrel
    by_cases hlt : i < k
    · obtain ⟨m, rfl⟩ : ∃ m, k = m + 1 := ⟨k - 1, by omega⟩
      have hm1 : ((m + 1 : Nat) : Int) - 1 = (m : Int) := by omega
      simp only [hm1]
      have him : (i : Int) ≤ (m : Int) := by omega
      have hml : (m : Int) < (l.length : Int) := by omega
      obtain ⟨c, hc⟩ : ∃ c, l[m]? = some c := ⟨_, List.getElem?_eq_getElem (by omega)⟩
      obtain ⟨g, rfl, c0, c1⟩ := (HS.out.below HR.out.bel).at' m c hc
      have HT : Hid _ := turn_step hc
      have hlen : (l.drop (m + 1)).reverse.length ≤ 100000 := by simp; omega
      have hsz := HR.out.bel.size
      clear hc
      obtain ⟨av, ac, rfl⟩ := HR.out.form
      generalize (l.drop (m + 1)).reverse = r at *
      have HN : Hid (∀ o v' w', w'.ownsRow w.heap.size 32 2 v' (r.length + 1) (r.flatMap itmC ++ itmC c) → (wr.alloc o).grownBy w' (Value.slice av r.length ac).ownBlock → Hid (RcOwn w w' v' (l.drop m).reverse)) := fun o v' w' h1 h2 => by
        show RcOwn w w' v' (l.drop m).reverse
        rw [HT.out]
        exact HR.out.add ((Below.refl _ _).alloc (Nat.le_refl _) o) h1 h2
      have HO : Hid (∀ o, (wr.alloc o).ownsRow w.heap.size 32 2 (.slice av r.length ac) r.length (r.flatMap itmC)) := fun o => World.ownsRow.alloc HR.out.own o
      clear HT
      go_wp2_with (at_builtin; refine wpList_append_own _ rfl _ _ 27 rfl w.heap.size 32 i0 (.agg #[.int .i64 0, .string ⟨#[]⟩]) 2 24 Try.underlying27 hif hz0 hz1 hz2 rfl (by decide) (.slice av r.length ac) r.length (r.flatMap itmC) rfl (HO.out _) ⟨wr.heap.size, 0, none⟩ 1 1 [.int .i64 c.node, .string c.name] rfl rfl (rnews wr _ _ _) (by intro u hu; simp at hu; rcases hu with rfl | rfl <;> rfl) (by unfold maxLen; omega) (by omega) (by simp; omega) ?_)
      intro v' w' hown' hgrow _
      have HX := HN.out _ v' w' hown' hgrow
      obtain ⟨a', c', rfl⟩ : ∃ a c, v' = .slice a (r.length + 1) c := by
        rcases hown'.2 with ⟨h1, h2⟩ | ⟨g1, c1, _, h1, _⟩
        · omega
        · exact ⟨_, c1, h1⟩
      clear hown' hgrow HN HO
      go_wp2
      go_roundw
      case rel => exact ⟨m, by omega, by omega, by go_num, HX⟩
      case measure => simp only [intOf]; go_num
    · have hik : i = k := by omega
      subst hik
      have hh : ¬ ((i : Int) ≤ (i : Int) - 1) := by omega
      have HR2 := HR
      rw [HQ.out] at HR2
      obtain ⟨av, ac, rfl⟩ := HR2.out.form
      clear HR HQ
      go_wp2
      go_ret
      exact ⟨.slice av q.length ac, rfl, HR2.out⟩
end Go.Proofs.Ytalbiekleggkoaa
