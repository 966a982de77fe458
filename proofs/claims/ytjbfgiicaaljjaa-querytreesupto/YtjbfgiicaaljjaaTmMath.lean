/-
  Nodes that are made and put one behind the other: as plain data.
-/
import Derived.Test.YtjbfgiicaaljjaaRtFam
namespace Go.Proofs.Ytjbfgiicaaljjaa
open Go.RowKit

structure Md where
  kind : Int
  par : Int
  name : ByteArray
  data : ByteArray
  attr : ByteArray
  value : ByteArray
  knd : Int
  pos : Nat

def attsOf (m : Md) : List Att := [⟨m.attr, m.value⟩, ⟨⟨#[97]⟩, m.data⟩]
def docNd : Nd := newNd 0 0 ⟨#[]⟩ ⟨#[]⟩ []
def ndOf (m : Md) : Nd := newNd m.knd 0 m.name m.data (attsOf m)
def stepN (ns : List Nd) (m : Md) : List Nd := putN (ns ++ [ndOf m]) ns.length m.pos
def treeN (L : List Md) : List Nd := L.foldl stepN [docNd]

/-- What is asked of what is made: its kind, and the number of its parent, are as the walk reckons them. -/
structure MdOk (m : Md) (i : Nat) : Prop where
  lo : 1 ≤ m.knd
  hi : m.knd ≤ 4
  pos : m.pos ≤ i
  data : m.data.size ≤ 9223372036854775807

theorem putN_len (ns : List Nd) (n p : Nat) : (putN ns n p).length = ns.length := by
  unfold putN
  split
  · split
    · simp [putNd]
    · rfl
  · rfl
theorem stepN_len (ns : List Nd) (m : Md) : (stepN ns m).length = ns.length + 1 := by
  unfold stepN
  rw [putN_len]
  simp

theorem doc_tree : NsTree [docNd] := by
  have hone : ∀ (n : Nat) (x : Nd), ([docNd] : List Nd)[n]? = some x → n = 0 ∧ x = docNd := by
    intro n x h
    match n, h with
    | 0, h => exact ⟨rfl, by simpa using h.symm⟩
    | (n + 1), h => simp at h
  refine ⟨⟨fun n x hx k hk => ?_, fun n x hx => ?_, by simp⟩, fun n x hx k hk => ?_, fun n x hx => ?_, fun k y hy => ?_, fun k y hy _ => ?_⟩
  · obtain ⟨_, rfl⟩ := hone n x hx; cases hk
  · obtain ⟨_, rfl⟩ := hone n x hx; exact ⟨Nat.zero_le _, Nat.zero_le _, Nat.zero_le _⟩
  · obtain ⟨_, rfl⟩ := hone n x hx; cases hk
  · obtain ⟨_, rfl⟩ := hone n x hx; exact List.nodup_nil
  · obtain ⟨_, rfl⟩ := hone k y hy; exact .inl rfl
  · obtain ⟨_, rfl⟩ := hone k y hy; rfl

theorem NsTree.snoc {ns : List Nd} (h : NsTree ns) {m : Md} (hm : m.data.size ≤ 9223372036854775807) (hl : ns.length < 1000) (h0 : 0 < ns.length) : NsTree (ns ++ [ndOf m]) := by
  have hup := h.up
  refine ⟨⟨fun n x hx k hk => ?_, fun n x hx => ?_, by simp; omega⟩, fun n x hx k hk => ?_, fun n x hx => ?_, fun k y hy => ?_, fun k y hy hk => ?_⟩
  · rcases get_snoc hx with ⟨h1, h2⟩ | ⟨h1, rfl⟩
    · have := hup n x h2 k hk
      simp only [List.length_append, List.length_singleton]
      omega
    · cases hk
  · rcases get_snoc hx with ⟨h1, h2⟩ | ⟨h1, rfl⟩
    · exact h.few n x h2
    · exact ⟨Nat.zero_le _, hm, by show (2 : Nat) ≤ 1000; omega⟩
  · rcases get_snoc hx with ⟨h1, h2⟩ | ⟨h1, rfl⟩
    · obtain ⟨y, hy, hp⟩ := h.par n x h2 k hk
      exact ⟨y, by rw [List.getElem?_append_left (List.getElem?_eq_some_iff.1 hy).1]; exact hy, hp⟩
    · cases hk
  · rcases get_snoc hx with ⟨h1, h2⟩ | ⟨h1, rfl⟩
    · exact h.nodup n x h2
    · exact List.nodup_nil
  · rcases get_snoc hy with ⟨h1, h2⟩ | ⟨h1, rfl⟩
    · rcases h.back k y h2 with e | ⟨n, x, e1, e2, e3⟩
      · exact .inl e
      · exact .inr ⟨n, x, e1, by rw [List.getElem?_append_left (List.getElem?_eq_some_iff.1 e2).1]; exact e2, e3⟩
    · exact .inl rfl
  · rcases get_snoc hy with ⟨h1, h2⟩ | ⟨h1, rfl⟩
    · exact h.roots k y h2 hk
    · omega

theorem NsTree.put {ns : List Nd} (h : NsTree ns) {n p : Nat} {x xp : Nd} (hx : ns[n]? = some x) (hxp : ns[p]? = some xp) (hpn : p < n) (hpar : x.parent = -1) (hkids : x.kids = []) : NsTree (putNd ns n p x xp) := by
  have hnl := (List.getElem?_eq_some_iff.1 hx).1
  have hpl := (List.getElem?_eq_some_iff.1 hxp).1
  have hne : n ≠ p := by omega
  have hlook : ∀ (i : Nat) (y : Nd), (putNd ns n p x xp)[i]? = some y → (i = p ∧ y = { xp with kids := xp.kids ++ [n] }) ∨ (i = n ∧ i ≠ p ∧ y = { x with parent := (p : Int), ahead := xp.kids.length }) ∨ (i ≠ p ∧ i ≠ n ∧ ns[i]? = some y) := fun i y hy => get_set2 hpl hnl hne hy
  have hlen : (putNd ns n p x xp).length = ns.length := by simp [putNd]
  -- who has n for a kid?
  have hnk : ∀ (i : Nat) (y : Nd), ns[i]? = some y → n ∉ y.kids := fun i y hy hm => by
    obtain ⟨z, hz, hp2⟩ := h.par i y hy n hm
    rw [hx] at hz
    injection hz with hz
    rw [← hz, hpar] at hp2
    omega
  have hget : ∀ (i : Nat) (y : Nd), ns[i]? = some y → i ≠ n → ∃ y', (putNd ns n p x xp)[i]? = some y' ∧ y'.parent = y.parent ∧ ∀ k ∈ y.kids, k ∈ y'.kids := fun i y hy hi => by
    by_cases hip : i = p
    · subst hip
      rw [hxp] at hy
      injection hy with hy
      subst hy
      refine ⟨{ xp with kids := xp.kids ++ [n] }, ?_, rfl, fun k hk => by simp [hk]⟩
      unfold putNd
      rw [List.getElem?_set_self (by simpa using hpl)]
    · refine ⟨y, ?_, rfl, fun k hk => hk⟩
      unfold putNd
      rw [List.getElem?_set_ne (fun e => hip e.symm), List.getElem?_set_ne (fun e => hi e.symm)]
      exact hy
  have hgetn : (putNd ns n p x xp)[n]? = some { x with parent := (p : Int), ahead := xp.kids.length } := by
    unfold putNd
    rw [List.getElem?_set_ne (fun e => hne e.symm), List.getElem?_set_self hnl]
  have hkl : ∀ (i : Nat) (y : Nd), ns[i]? = some y → y.kids.length + 1 ≤ ns.length := fun i y hy => by
    have h1 := nodup_len (ns.length - (i + 1)) (y.kids.map (· - (i + 1))) (by
      have hnd := h.nodup i y hy
      have hgt := h.up i y hy
      clear hy
      generalize y.kids = l at hnd hgt
      induction l with
      | nil => exact List.nodup_nil
      | cons a l ih =>
        rw [List.nodup_cons] at hnd
        rw [List.map_cons, List.nodup_cons]
        refine ⟨fun e => ?_, ih hnd.2 (fun k hk => hgt k (by simp [hk]))⟩
        rw [List.mem_map] at e
        obtain ⟨b, hb, e⟩ := e
        have h1 := hgt a (by simp)
        have h2 := hgt b (by simp [hb])
        have : a = b := by omega
        subst this
        exact hnd.1 hb) (fun a ha => by
        rw [List.mem_map] at ha
        obtain ⟨b, hb, rfl⟩ := ha
        have := h.up i y hy b hb
        omega)
    rw [List.length_map] at h1
    have := (List.getElem?_eq_some_iff.1 hy).1
    omega
  refine ⟨⟨fun i y hy k hk => ?_, fun i y hy => ?_, by rw [hlen]; exact h.all⟩, fun i y hy k hk => ?_, fun i y hy => ?_, fun k y hy => ?_, fun k y hy hk => ?_⟩
  · rw [hlen]
    rcases hlook i y hy with ⟨e1, rfl⟩ | ⟨e1, _, rfl⟩ | ⟨_, _, e3⟩
    · simp only [List.mem_append, List.mem_singleton] at hk
      rcases hk with hk | hk
      · have := h.up p xp hxp k hk
        omega
      · omega
    · rw [hkids] at hk; cases hk
    · exact h.up i y e3 k hk
  · rcases hlook i y hy with ⟨e1, rfl⟩ | ⟨e1, _, rfl⟩ | ⟨_, _, e3⟩
    · have h1 := h.few p xp hxp
      have h2 := hkl p xp hxp
      have h3 := h.all
      refine ⟨?_, h1.2.1, h1.2.2⟩
      simp only [List.length_append, List.length_singleton]
      omega
    · exact h.few n x hx
    · exact h.few i y e3
  · rcases hlook i y hy with ⟨e1, rfl⟩ | ⟨e1, _, rfl⟩ | ⟨_, _, e3⟩
    · simp only [List.mem_append, List.mem_singleton] at hk
      rcases hk with hk | hk
      · obtain ⟨z, hz, hp2⟩ := h.par p xp hxp k hk
        have hkn : k ≠ n := fun e => hnk p xp hxp (e ▸ hk)
        obtain ⟨z', hz', hp3, _⟩ := hget k z hz hkn
        exact ⟨z', hz', by rw [hp3, hp2, e1]⟩
      · subst hk
        exact ⟨_, hgetn, by rw [e1]⟩
    · rw [hkids] at hk; cases hk
    · obtain ⟨z, hz, hp2⟩ := h.par i y e3 k hk
      have hkn : k ≠ n := fun e => hnk i y e3 (e ▸ hk)
      obtain ⟨z', hz', hp3, _⟩ := hget k z hz hkn
      exact ⟨z', hz', by rw [hp3, hp2]⟩
  · rcases hlook i y hy with ⟨e1, rfl⟩ | ⟨e1, _, rfl⟩ | ⟨_, _, e3⟩
    · show (xp.kids ++ [n]).Nodup
      rw [List.nodup_append]
      refine ⟨h.nodup p xp hxp, by simp, fun a ha b hb e => ?_⟩
      simp only [List.mem_singleton] at hb
      exact hnk p xp hxp (by rw [← hb, ← e]; exact ha)
    · show x.kids.Nodup
      rw [hkids]; exact List.nodup_nil
    · exact h.nodup i y e3
  · rcases hlook k y hy with ⟨e1, rfl⟩ | ⟨e1, _, rfl⟩ | ⟨e1, e2, e3⟩
    · rcases h.back p xp hxp with e | ⟨q, z, e4, e5, e6⟩
      · exact .inl e
      · have hq : q ≠ n := fun e => by
          subst e
          rw [hx] at e5
          injection e5 with e5
          rw [← e5, hkids] at e6
          cases e6
        obtain ⟨z', hz', _, hm⟩ := hget q z e5 hq
        exact .inr ⟨q, z', e4, hz', by rw [e1]; exact hm p e6⟩
    · refine .inr ⟨p, { xp with kids := xp.kids ++ [n] }, rfl, ?_, by simp [e1]⟩
      unfold putNd
      rw [List.getElem?_set_self (by simpa using hpl)]
    · rcases h.back k y e3 with e | ⟨q, z, e4, e5, e6⟩
      · exact .inl e
      · have hq : q ≠ n := fun e => by
          subst e
          rw [hx] at e5
          injection e5 with e5
          rw [← e5, hkids] at e6
          cases e6
        obtain ⟨z', hz', _, hm⟩ := hget q z e5 hq
        exact .inr ⟨q, z', e4, hz', hm k e6⟩
  · rcases hlook k y hy with ⟨e1, rfl⟩ | ⟨e1, _, rfl⟩ | ⟨_, _, e3⟩
    · exact h.roots p xp hxp (by omega)
    · omega
    · exact h.roots k y e3 hk

theorem snoc_last (ns : List Nd) (x : Nd) : (ns ++ [x])[ns.length]? = some x := by simp
theorem NsTree.step {ns : List Nd} (h : NsTree ns) {m : Md} (hm : MdOk m (ns.length - 1)) (hl : ns.length < 1000) (h0 : 0 < ns.length) : NsTree (stepN ns m) := by
  have h1 := h.snoc hm.data hl h0 (m := m)
  have hp := hm.pos
  unfold stepN putN
  rw [snoc_last]
  have hxp : (ns ++ [ndOf m])[m.pos]? = some ((ns ++ [ndOf m])[m.pos]'(by simp; omega)) := List.getElem?_eq_getElem _
  rw [hxp]
  simp only
  split
  · exact h1.put (snoc_last ns _) hxp (by omega) rfl rfl
  · exact h1
end Go.Proofs.Ytjbfgiicaaljjaa
