/-
  An entry with attributes is taken away.
-/
import Derived.Test.YtalbiekleggkoaaMmOwn1
namespace Go.Proofs.Ytalbiekleggkoaa
open Go.RowKit

set_option maxRecDepth 100000 in
set_option maxHeartbeats 2000000 in
theorem rholds_in (s B : Nat) (v : Value) (cs : List Enr) (i : Nat) (w : World) (h : RListAt w s B v cs) (hi : i < cs.length) :
    Calls Try.prog 58 #[.pointer (some ⟨s, 0, none⟩), .int .i64 (i : Int)] w fun e w' => e = .returned (.bool true) ∧ w' = w := by
  obtain ⟨a, c, rfl⟩ := h.form
  have c0 := h.c0
  have hI : (i : Int) < (cs.length : Int) := by omega
  have hd : decide ((0 : Int) ≤ (i : Int)) = true := by simp
  clear h
  go_enter Try.func58, Try.ntmps58
  go_wp2
  go_ret
  exact ⟨rfl, rfl⟩

/-- One is taken away. -/
structure RCutP (w : World) (s B : Nat) (v : Value) (cs : List Enr) (w' : World) : Prop where
  at' : ∃ v', RListAt w' s B v' cs ∧ v'.ownBlock = v.ownBlock
  kept : Kept (fun k => k = s ∨ v.ownBlock = some k) w w'

set_option maxRecDepth 100000 in
set_option maxHeartbeats 2000000 in
theorem rcut_in (s B : Nat) (v : Value) (cs : List Enr) (i : Nat) (w : World) (h : RListAt w s B v cs) (hi : i < cs.length) (hl : cs.length ≤ 1000000) :
    Calls Try.prog 29 #[.pointer (some ⟨s, 0, none⟩), .int .i64 (i : Int)] w fun e w' => e = .returned (.bool true) ∧ RCutP w s B v (cs.take i ++ cs.drop (i + 1)) w' := by
  have HH : Hid (∀ w', Below w.heap.size w w' → _) := fun w' hb => rholds_in s B v cs i w' (h.below hb) hi
  rcases h.form2 with ⟨rfl, rfl⟩ | ⟨g, cp, rfl, hcap⟩
  · exact absurd hi (by simp)
  have HD : Hid _ := mkDel_any B g cs.length cp i (i + 1) (cs.flatMap enrC) w h.own (enr_one cs) (by omega) (by omega) hl
  have c0 := h.c0
  have HF : Hid (∀ w1, w1.ownsRow B 58 3 (.slice (some ⟨g, 0, none⟩) (i + (cs.length - (i + 1))) cp) (i + (cs.length - (i + 1))) ((cs.flatMap enrC).take (i * 3) ++ (cs.flatMap enrC).drop ((i + 1) * 3)) → Kept (fun k => k = g) w w1 → w1.cell? ⟨s, 0, none⟩ = some (.slice (some ⟨g, 0, none⟩) cs.length cp) ∧ w1.frozen? ⟨s, 0, none⟩ = false ∧ Hid (RCutP w s B (.slice (some ⟨g, 0, none⟩) cs.length cp) (cs.take i ++ cs.drop (i + 1)) (w1.setCell ⟨s, 0, none⟩ (.slice (some ⟨g, 0, none⟩) (i + (cs.length - (i + 1))) cp)))) := by
    intro w1 h1 hk
    have hsg : ¬ s = g := fun e => h.off (by rw [e]; rfl)
    have hblk := (hk.block s h.slt hsg).trans h.blk
    have hlt := (Array.getElem?_eq_some_iff.1 hblk).1
    refine ⟨by simp [World.cell?, hblk], by simp [World.frozen?, hblk], ⟨⟨.slice (some ⟨g, 0, none⟩) (i + (cs.length - (i + 1))) cp, ⟨?_, ?_, h.sB, ?_⟩, rfl⟩, ?_⟩⟩
    · simp only [World.setCell, Array.getElem?_modify, hblk]
      simp
    · rw [rflat_take, rflat_drop, ← List.flatMap_append] at h1
      have h2 := owns_kept (out := fun k => k = s) h1 ((Kept.refl (fun k => k = s) w1).store ⟨s, 0, none⟩ rfl (.slice (some ⟨g, 0, none⟩) (i + (cs.length - (i + 1))) cp)) (by
        intro k e
        simp only [Value.ownBlock, Option.some.injEq] at e
        omega)
      have e : (cs.take i ++ cs.drop (i + 1)).length = i + (cs.length - (i + 1)) := by simp; omega
      rw [e]
      exact h2
    · intro c hc
      have hm : c ∈ cs := by
        rcases List.mem_append.1 hc with h | h
        · exact List.mem_of_mem_take h
        · exact List.mem_of_mem_drop h
      refine (h.ents c hm).kept (out := fun k => k = g ∨ k = s) ((hk.mono (fun k _ e => .inl e)).store ⟨s, 0, none⟩ (.inr rfl) _) (fun k hg e => ?_)
      rcases e with rfl | e
      · exact h.off_r hm hg rfl
      · exact h.off_s hm hg e
    · exact ((hk.mono (fun k _ e => .inr (by rw [e]; rfl))).store ⟨s, 0, none⟩ (.inl rfl) _)
  clear h
  go_enter Try.func29, Try.ntmps29
  go_wp2_with fail
  refine Calls.mono (HH.out _ (Below.refl _ _)) ?_
  rintro e w1 ⟨rfl, rfl⟩
  go_wp2_with fail
  have e1 : ((i + 1 : Nat) : Int) = (i : Int) + 1 := by simp
  rw [e1] at HD
  refine Calls.mono HD.out ?_
  rintro e w2 ⟨rfl, hH⟩
  obtain ⟨q0, q1, HN⟩ := HF.out w2 hH.out.1 hH.out.2
  clear HF HD hH c0 HH e1
  go_wp2
  go_ret
  exact ⟨rfl, HN.out⟩
end Go.Proofs.Ytalbiekleggkoaa
