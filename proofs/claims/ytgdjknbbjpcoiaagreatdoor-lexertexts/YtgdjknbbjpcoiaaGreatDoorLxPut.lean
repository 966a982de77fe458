/-
  The first scalars are put.
-/
import Derived.Test.YtgdjknbbjpcoiaaGreatDoorLxNext
namespace Go.Proofs.YtgdjknbbjpcoiaaGreatDoor
open Go.RowKit

structure PutP (w : World) (l : Nat) (cs : List Value) (n : Nat) (news : List Value) (w' : World) : Prop where
  row : ∃ g cap, LexAt w' l (cs.set 0 (.slice (some ⟨g, 0, none⟩) n cap)) ∧ w'.ownsRow w.heap.size 121 2 (.slice (some ⟨g, 0, none⟩) n cap) n news
  but : But l w.heap.size w w'

set_option maxRecDepth 100000 in
set_option maxHeartbeats 2000000 in
theorem put_first (l : Nat) (cs : List Value) (b o n cap : Nat) (news : List Value) (w : World) (hL : LexAt w l cs) (hl : l < w.heap.size) (h0 : cs[0]? = some (.slice none 0 0)) (h2 : cs[2]? = some (.bool false)) (hn : 0 < n) (hle : n ≤ 1000000) (hlen : news.length = n * 2) (hnews : ∀ j u, news[j]? = some u → w.cell? ((⟨b, o, none⟩ : Addr).add j) = some u) (hone : ∀ u ∈ news, u.oneCell' = true) :
    Calls Tryz.prog 20 #[.pointer (some ⟨l, 0, none⟩), .slice (some ⟨b, o, none⟩) n cap] w fun e w' => e = .returned (.tuple #[]) ∧ PutP w l cs n news w' := by
  have c0 := hL.c 0 _ h0
  have c2 := hL.c 2 _ h2
  obtain ⟨i0, hi, hz0, hz1, hz2⟩ := info_parts (show (Tryz.prog.info? 121).map (fun i => (i.zero, i.size, i.bytes)) = some (some (.agg #[.int .i64 0, .int .i64 0]), 2, 16) by kernel_rfl)
  have HL : Hid _ := hL
  have HN : Hid _ := hnews
  have HO : Hid _ := hone
  clear hL h0 h2 hnews hone
  go_enter Tryz.func20, Tryz.ntmps20
  go_wp2_with (at_builtin; refine wpList_append_lies _ rfl (.tmp 16) (.tmp 17) 60 rfl w.heap.size 121 i0 (.agg #[.int .i64 0, .int .i64 0]) 2 16 Tryz.underlying60 hi hz0 hz1 hz2 rfl (by decide) (.slice none 0 0) 0 [] (by simp [Act.eval]) (World.ownsRow_nil _ _ _ _) ⟨b, o, none⟩ n cap news (by simp [Act.eval]) hlen HN.out HO.out hn (by unfold maxLen; omega) (by omega) (Nat.le_refl _) _ rfl ?_; intro g' cap' w' hown' hgrow hg hlt; have k0 := hgrow.cell c0 (by simp [Value.ownBlock]); have hL1 := HL.out.grown hgrow hl (by simp [Value.ownBlock]); have f0 := hL1.fz 0; have HE : Hid _ := And.intro hL1 (And.intro hown' hgrow); clear hown' hgrow hg hlt hL1)
  obtain ⟨hL1, hown, hgr⟩ := HE.out
  have hB : But l w.heap.size w w' := ⟨hgr.os, hgr.tape, hgr.output, hgr.size, fun k hk _ => hgr.block k hk (by simp [Value.ownBlock])⟩
  rw [Nat.zero_add, List.nil_append] at hown
  go_end0
  refine ⟨rfl, ⟨⟨g', cap', ?_, ?_⟩, hB.store 0 _⟩⟩
  · have h := hL1.set 0 (by omega) (.slice (some ⟨g', 0, none⟩) (0 + n) cap')
    rw [Nat.zero_add] at h
    simpa using h
  · have h := owns_but hown ((But.refl l _ _).store 0 (.slice (some ⟨g', 0, none⟩) (0 + n) cap')) (Nat.le_refl _) (owns_off hown hl)
    rw [Nat.zero_add] at h
    simpa using h
end Go.Proofs.YtgdjknbbjpcoiaaGreatDoor
