/-
  Trees by plain data: who stands under whom.
-/
import Derived.Test.YtjbfgiicaaljjaaTfEach
namespace Go.Proofs.Ytjbfgiicaaljjaa

/-- Parents and kids fit. -/
structure NsTree (ns : List Nd) : Prop extends NsOk ns where
  par : ∀ (n : Nat) (x : Nd), ns[n]? = some x → ∀ k ∈ x.kids, ∃ y, ns[k]? = some y ∧ y.parent = (n : Int)
  nodup : ∀ (n : Nat) (x : Nd), ns[n]? = some x → x.kids.Nodup
  back : ∀ (k : Nat) (y : Nd), ns[k]? = some y → y.parent = -1 ∨ ∃ (n : Nat) (x : Nd), y.parent = (n : Int) ∧ ns[n]? = some x ∧ k ∈ x.kids
  roots : ∀ (k : Nat) (y : Nd), ns[k]? = some y → k = 0 → y.parent = -1

theorem kidsN_mem {ns : List Nd} {n k : Nat} (h : k ∈ kidsN ns n) : ∃ x, ns[n]? = some x ∧ k ∈ x.kids := by
  unfold kidsN at h
  cases hx : ns[n]? with
  | none => rw [hx] at h; cases h
  | some x => rw [hx] at h; exact ⟨x, rfl, h⟩

theorem undL_mem {ns : List Nd} {f n a : Nat} : a ∈ undL ns (f + 1) n ↔ ∃ k ∈ kidsN ns n, a = k ∨ a ∈ undL ns f k := by
  show a ∈ (kidsN ns n).flatMap (fun k => k :: undL ns f k) ↔ _
  simp only [List.mem_flatMap, List.mem_cons]

theorem undL_gt {ns : List Nd} (h : NsOk ns) : ∀ (f n a : Nat), a ∈ undL ns f n → n < a ∧ a < ns.length
  | 0, n, a, ha => by cases ha
  | f + 1, n, a, ha => by
    obtain ⟨k, hk, e⟩ := undL_mem.1 ha
    obtain ⟨x, hx, hkx⟩ := kidsN_mem hk
    have h1 := h.up n x hx k hkx
    rcases e with rfl | e
    · exact h1
    · have := undL_gt h f k a e
      omega

theorem undL_par {ns : List Nd} (h : NsTree ns) : ∀ (f n a : Nat), a ∈ undL ns f n → ∃ y b, ns[a]? = some y ∧ y.parent = ((b : Nat) : Int) ∧ (b = n ∨ b ∈ undL ns f n)
  | 0, n, a, ha => by cases ha
  | f + 1, n, a, ha => by
    obtain ⟨k, hk, e⟩ := undL_mem.1 ha
    obtain ⟨x, hx, hkx⟩ := kidsN_mem hk
    rcases e with rfl | e
    · obtain ⟨y, hy, hp⟩ := h.par n x hx a hkx
      exact ⟨y, n, hy, hp, .inl rfl⟩
    · obtain ⟨y, b, hy, hp, hb⟩ := undL_par h f k a e
      refine ⟨y, b, hy, hp, .inr (undL_mem.2 ⟨k, hk, ?_⟩)⟩
      rcases hb with rfl | hb
      · exact .inl rfl
      · exact .inr hb

/-- Two kids of one node have nothing in common under them. -/
theorem undL_apart {ns : List Nd} (h : NsTree ns) {n k1 k2 : Nat} {x : Nd} (hx : ns[n]? = some x) (h1 : k1 ∈ x.kids) (h2 : k2 ∈ x.kids) (hne : k1 ≠ k2) (f : Nat) : ∀ a, (a = k1 ∨ a ∈ undL ns f k1) → (a = k2 ∨ a ∈ undL ns f k2) → False := by
  have hk1 := h.up n x hx k1 h1
  have hk2 := h.up n x hx k2 h2
  intro a
  induction a using Nat.strongRecOn with
  | _ a ih =>
    intro ha1 ha2
    have key : ∀ k k', k ∈ x.kids → n < k' → a = k → a ∈ undL ns f k' → False := by
      intro k k' hk hk' e1 e2
      obtain ⟨y, b, hy, hp, hb⟩ := undL_par h f k' a e2
      obtain ⟨y', hy', hp'⟩ := h.par n x hx k hk
      rw [← e1, hy] at hy'
      injection hy' with hy'
      rw [← hy', hp] at hp'
      have hbn : b = n := by omega
      rcases hb with e | e
      · omega
      · have := undL_gt h.toNsOk f k' b e
        omega
    rcases ha1 with e1 | e1
    · rcases ha2 with e2 | e2
      · exact hne (e1.symm.trans e2)
      · exact key k1 k2 h1 hk2.1 e1 e2
    · rcases ha2 with e2 | e2
      · exact key k2 k1 h2 hk1.1 e2 e1
      · obtain ⟨y, b, hy, hp, hb⟩ := undL_par h f k1 a e1
        obtain ⟨y', b', hy', hp', hb'⟩ := undL_par h f k2 a e2
        rw [hy] at hy'
        injection hy' with hy'
        rw [← hy', hp] at hp'
        have hbb : b = b' := by omega
        subst hbb
        have hlt : b < a := by
          rcases hb with e | e
          · have := (undL_gt h.toNsOk f k1 a e1).1; omega
          · obtain hcase := h.back a y hy
            rcases hcase with hc | ⟨n', x', hn', hx', hm'⟩
            · rw [hp] at hc; omega
            · rw [hp] at hn'
              have : b = n' := by omega
              subst this
              exact (h.up b x' hx' a hm').1
        exact ih b hlt hb hb'

theorem undL_nodup {ns : List Nd} (h : NsTree ns) : ∀ (f n : Nat), (undL ns f n).Nodup
  | 0, n => List.nodup_nil
  | f + 1, n => by
    unfold undL
    cases hx : ns[n]? with
    | none =>
      have : kidsN ns n = [] := by unfold kidsN; rw [hx]
      rw [this]
      exact List.nodup_nil
    | some x =>
      have hk : kidsN ns n = x.kids := by unfold kidsN; rw [hx]
      rw [hk]
      have hnd := h.nodup n x hx
      have hsub : ∀ k ∈ x.kids, k ∈ x.kids := fun k hk => hk
      generalize hl : x.kids = l at hnd
      have hsub : ∀ k ∈ l, k ∈ x.kids := fun k hk => by rw [hl]; exact hk
      clear hl hk
      induction l with
      | nil => exact List.nodup_nil
      | cons a l ih =>
        rw [List.nodup_cons] at hnd
        rw [List.flatMap_cons, List.nodup_append]
        refine ⟨List.nodup_cons.2 ⟨fun e => ?_, undL_nodup h f a⟩, ih hnd.2 (fun k hk => hsub k (by simp [hk])), fun p hp q hq e => ?_⟩
        · have := (undL_gt h.toNsOk f a a e).1
          omega
        · subst e
          simp only [List.mem_flatMap, List.mem_cons] at hp hq
          obtain ⟨k2, hk2, hq⟩ := hq
          exact undL_apart h hx (hsub a (by simp)) (hsub k2 (by simp [hk2])) (fun e => hnd.1 (e ▸ hk2)) f p hp hq

theorem nodup_len : ∀ (n : Nat) (l : List Nat), l.Nodup → (∀ a ∈ l, a < n) → l.length ≤ n
  | 0, l, _, h => by
    cases l with
    | nil => simp
    | cons a l => exact absurd (h a (by simp)) (by omega)
  | n + 1, l, hd, h => by
    by_cases hm : n ∈ l
    · have h1 := nodup_len n (l.erase n) (hd.erase n) (fun a ha => by
        have := (List.Nodup.mem_erase_iff hd).1 ha
        have := h a this.2
        omega)
      rw [List.length_erase_of_mem hm] at h1
      have : 0 < l.length := List.length_pos_of_mem hm
      omega
    · have := nodup_len n l hd (fun a ha => by
        have h1 := h a ha
        have : a ≠ n := fun e => hm (e ▸ ha)
        omega)
      omega
theorem undL_len {ns : List Nd} (h : NsTree ns) (f n : Nat) : (undL ns f n).length ≤ ns.length := nodup_len _ _ (undL_nodup h f n) (fun a ha => (undL_gt h.toNsOk f n a ha).2)

/-- Who has a parent stands under it, and under all above. -/
theorem undL_kid {ns : List Nd} {f n k : Nat} {x : Nd} (hf : ns.length ≤ n + f) (hx : ns[n]? = some x) (hk : k ∈ x.kids) : k ∈ undL ns f n := by
  have hlt := (List.getElem?_eq_some_iff.1 hx).1
  obtain ⟨f, rfl⟩ : ∃ f', f = f' + 1 := ⟨f - 1, by omega⟩
  have hkn : kidsN ns n = x.kids := by unfold kidsN; rw [hx]
  exact undL_mem.2 ⟨k, by rw [hkn]; exact hk, .inl rfl⟩
theorem undL_down {ns : List Nd} (h : NsTree ns) : ∀ (f n b k : Nat) (x : Nd), ns.length ≤ n + f → b ∈ undL ns f n → ns[b]? = some x → k ∈ x.kids → k ∈ undL ns f n
  | 0, n, b, k, x, _, hb, _, _ => by cases hb
  | f + 1, n, b, k, x, hf, hb, hx, hk => by
    obtain ⟨c, hc, e⟩ := undL_mem.1 hb
    obtain ⟨xn, hxn, hcx⟩ := kidsN_mem hc
    have hcn := h.up n xn hxn c hcx
    refine undL_mem.2 ⟨c, hc, .inr ?_⟩
    rcases e with rfl | e
    · exact undL_kid (by omega) hx hk
    · exact undL_down h f c b k x (by omega) e hx hk
end Go.Proofs.Ytjbfgiicaaljjaa
