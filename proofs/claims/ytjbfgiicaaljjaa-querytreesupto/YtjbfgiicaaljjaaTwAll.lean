/-
  All nodes under the document, in order.
-/
import Derived.Test.YtjbfgiicaaljjaaTwVisit
namespace Go.Proofs.Ytjbfgiicaaljjaa
open Go.RowKit

set_option maxRecDepth 100000 in
set_option maxHeartbeats 4000000 in
theorem walk_in (t B g cap : Nat) (ns : List Nd) (cs : List Cel) (w : World) (hT : FamAt w t B g cap ns cs) (hok : NsTree ns) (hn : 0 < ns.length) :
    Calls Try.prog 21 #[.pointer (some ⟨t, 0, none⟩)] w fun e w' => ∃ a c, e = .returned (.slice a (0 :: undL ns ns.length 0).length c) ∧ Hid (w'.ownsRow w.heap.size 3 1 (.slice a (0 :: undL ns ns.length 0).length c) (0 :: undL ns ns.length 0).length (intC (0 :: undL ns ns.length 0)) ∧ Below w.heap.size w w') := by
  have hg2 : (((w.alloc (.cells #[.pointer (some ⟨t, 0, none⟩)] 25)).alloc (.cells #[.slice none 0 0] 30)).alloc (.cells #[.nilFunc] 106)).heap[w.heap.size + 1 + 1]? = some (.cells #[.nilFunc] 106) := by
    have h := heap_alloc_new ((w.alloc (.cells #[.pointer (some ⟨t, 0, none⟩)] 25)).alloc (.cells #[.slice none 0 0] 30)) (.cells #[.nilFunc] 106)
    rw [World.size_alloc, World.size_alloc] at h
    exact h
  have hc2 : (((w.alloc (.cells #[.pointer (some ⟨t, 0, none⟩)] 25)).alloc (.cells #[.slice none 0 0] 30)).alloc (.cells #[.nilFunc] 106)).cell? ⟨w.heap.size + 1 + 1, 0, none⟩ = some .nilFunc := cell_of hg2
  have hf2 : (((w.alloc (.cells #[.pointer (some ⟨t, 0, none⟩)] 25)).alloc (.cells #[.slice none 0 0] 30)).alloc (.cells #[.nilFunc] 106)).frozen? ⟨w.heap.size + 1 + 1, 0, none⟩ = false := by simp only [World.frozen?, hg2]; rfl
  have hst : (store ⟨w.heap.size + 1 + 1, 0, none⟩ (visitV (w.heap.size + 1) w.heap.size (w.heap.size + 1 + 1))).run Try.prog (((w.alloc (.cells #[.pointer (some ⟨t, 0, none⟩)] 25)).alloc (.cells #[.slice none 0 0] 30)).alloc (.cells #[.nilFunc] 106)) = .ok () ((((w.alloc (.cells #[.pointer (some ⟨t, 0, none⟩)] 25)).alloc (.cells #[.slice none 0 0] 30)).alloc (.cells #[.nilFunc] 106)).setCell ⟨w.heap.size + 1 + 1, 0, none⟩ (visitV (w.heap.size + 1) w.heap.size (w.heap.size + 1 + 1))) := by
    rw [run_store _ _ _ _ _ rfl]
    simp only [hc2, hf2]
    rfl
  have HH : Hid (∀ o : Obj, _) := fun o => has_in t B g cap cs (w.alloc o) 0 (hT.below ((Below.refl _ _).alloc (Nat.le_refl _) o)).tree (by have := hT.len; omega)
  have hlen := undL_len hok ns.length 0
  have hall := hok.all
  have HV : Hid _ := visit_any w t w.heap.size (w.heap.size + 1) (w.heap.size + 1 + 1) ns cs B g cap hT hok.toNsOk ns.length
  have HV2 : Hid (∀ w1, WalkI w t w.heap.size (w.heap.size + 1) (w.heap.size + 1 + 1) [] (fun b => b = w.heap.size + 1) w1 → _) := fun w1 h => HV.out 0 [] _ w1 (by omega) hn (by simp; omega) h
  have HI0 : Hid (WalkI w t w.heap.size (w.heap.size + 1) (w.heap.size + 1 + 1) [] (fun b => b = w.heap.size + 1) ((((w.alloc (.cells #[.pointer (some ⟨t, 0, none⟩)] 25)).alloc (.cells #[.slice none 0 0] 30)).alloc (.cells #[.nilFunc] 106)).setCell ⟨w.heap.size + 1 + 1, 0, none⟩ (visitV (w.heap.size + 1) w.heap.size (w.heap.size + 1 + 1)))) := by
    have hs : (((w.alloc (.cells #[.pointer (some ⟨t, 0, none⟩)] 25)).alloc (.cells #[.slice none 0 0] 30)).alloc (.cells #[.nilFunc] 106)).heap.size = w.heap.size + 1 + 1 + 1 := by simp
    have hb : Below w.heap.size w ((((w.alloc (.cells #[.pointer (some ⟨t, 0, none⟩)] 25)).alloc (.cells #[.slice none 0 0] 30)).alloc (.cells #[.nilFunc] 106)).setCell ⟨w.heap.size + 1 + 1, 0, none⟩ (visitV (w.heap.size + 1) w.heap.size (w.heap.size + 1 + 1))) :=
      ((((Below.refl _ _).alloc (Nat.le_refl _) _).alloc (by simp) _).alloc (by simp; omega) _).setCell (p := ⟨w.heap.size + 1 + 1, 0, none⟩) (by show w.heap.size ≤ w.heap.size + 1 + 1; omega) _
    have e0 : ((w.alloc (.cells #[.pointer (some ⟨t, 0, none⟩)] 25)).alloc (.cells #[.slice none 0 0] 30)).alloc (.cells #[.nilFunc] 106) = ((w.alloc (.cells #[.pointer (some ⟨t, 0, none⟩)] 25)).alloc (.cells #[.slice none 0 0] 30)).alloc (.cells #[.nilFunc] 106) := rfl
    have g0 : (((w.alloc (.cells #[.pointer (some ⟨t, 0, none⟩)] 25)).alloc (.cells #[.slice none 0 0] 30)).alloc (.cells #[.nilFunc] 106)).heap[w.heap.size]? = some (.cells #[.pointer (some ⟨t, 0, none⟩)] 25) := by
      rw [heap_alloc_old _ _ (by simp; omega), heap_alloc_old _ _ (by simp)]
      exact heap_alloc_new w _
    have g1 : (((w.alloc (.cells #[.pointer (some ⟨t, 0, none⟩)] 25)).alloc (.cells #[.slice none 0 0] 30)).alloc (.cells #[.nilFunc] 106)).heap[w.heap.size + 1]? = some (.cells #[.slice none 0 0] 30) := by
      rw [heap_alloc_old _ _ (by simp)]
      have h := heap_alloc_new (w.alloc (.cells #[.pointer (some ⟨t, 0, none⟩)] 25)) (.cells #[.slice none 0 0] 30)
      rw [World.size_alloc] at h
      exact h
    have g2 := hg2
    clear e0 hs hg2 hc2 hf2 hst
    generalize (((w.alloc (.cells #[.pointer (some ⟨t, 0, none⟩)] 25)).alloc (.cells #[.slice none 0 0] 30)).alloc (.cells #[.nilFunc] 106)) = w3 at *
    refine ⟨⟨none, 0, ?_, World.ownsRow_nil _ _ _ _, fun b => ?_⟩, ?_, ?_, hb, by omega⟩
    · exact (Below.heap_setCell _ _ _ _ (by show w.heap.size + 1 ≠ w.heap.size + 1 + 1; omega)).trans g1
    · constructor
      · exact fun e => .inl e
      · rintro (e | e)
        · exact e
        · cases e
    · exact (Below.heap_setCell _ _ _ _ (by show w.heap.size ≠ w.heap.size + 1 + 1; omega)).trans g0
    · simp only [World.setCell, Array.getElem?_modify, g2]
      simp
  have heg := enters_visit
  clear hc2 hf2
  generalize hw3 : (((w.alloc (.cells #[.pointer (some ⟨t, 0, none⟩)] 25)).alloc (.cells #[.slice none 0 0] 30)).alloc (.cells #[.nilFunc] 106)).setCell ⟨w.heap.size + 1 + 1, 0, none⟩ (visitV (w.heap.size + 1) w.heap.size (w.heap.size + 1 + 1)) = w3 at *
  unfold visitV at hst
  clear hw3
  have cvb : w3.cell? ⟨w.heap.size + 1 + 1, 0, none⟩ = some (visitV (w.heap.size + 1) w.heap.size (w.heap.size + 1 + 1)) := cell_of HI0.out.vbk
  unfold visitV at cvb
  rw [List.nil_append] at HV2
  clear hT hok hn hlen hall HV hg2
  generalize (0 :: undL ns ns.length 0) = VL at *
  go_enter Try.func21, Try.ntmps21
  go_wp2_with fail
  refine Calls.mono (HH.out _) ?_
  rintro e w1 ⟨rfl, hw1⟩
  subst hw1
  clear HH
  go_wp2_with fail
  refine Calls.mono (HV2.out _ HI0.out) ?_
  rintro e w4 ⟨rfl, h4⟩
  obtain ⟨o', h5, _, _⟩ := h4.out
  obtain ⟨⟨a, c, h6, h7, _⟩, _, _, h8, _⟩ := h5
  have cob : w4.cell? ⟨w.heap.size + 1, 0, none⟩ = some (.slice a VL.length c) := cell_of h6
  have HF : Hid (w4.ownsRow w.heap.size 3 1 (.slice a VL.length c) VL.length (intC VL) ∧ Below w.heap.size w w4) := ⟨h7, h8⟩
  clear h4 h6 h7 h8 HV2 HI0 cvb hst
  go_wp2
  go_ret
  exact ⟨_, _, rfl, HF⟩
end Go.Proofs.Ytjbfgiicaaljjaa
