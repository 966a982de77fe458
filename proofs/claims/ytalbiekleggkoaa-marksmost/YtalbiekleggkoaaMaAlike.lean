/-
  Are two entries alike?
-/
import Derived.Test.YtalbiekleggkoaaMaLike1
namespace Go.Proofs.Ytalbiekleggkoaa
open Go.RowKit Go.Maps

set_option maxRecDepth 100000 in
set_option maxHeartbeats 4000000 in
theorem alike_any (node : Int) (name : ByteArray) (a : Option Addr) (cap : Nat) (l : List Atr) (node1 : Int) (name1 : ByteArray) (a1 : Option Addr) (cap1 : Nat) (l1 : List Atr) (w : World) (hR : AtrsAt w a l) (hR1 : AtrsAt w a1 l1)
    (hl : l.length ≤ 1000) (hok : ∀ q ∈ l, AtrOk q) (hok1 : ∀ q ∈ l1, AtrOk q) :
    Calls Try.prog 41 #[.agg #[.int .i64 node1, .string name1, .slice a1 l1.length cap1], .agg #[.int .i64 node, .string name, .slice a l.length cap]] w fun e w' => e = .returned (.bool (likeB name name1 l l1)) ∧ Below w.heap.size w w' := by
  have h2 : ∀ o o2, Below w.heap.size w ((w.alloc o).alloc o2) := fun o o2 => ((Below.refl _ _).alloc (Nat.le_refl _) o).alloc (by simp) o2
  have HL : Hid (∀ o o2 q, _) := fun o o2 q => like_any node name a cap l (((w.alloc o).alloc o2).drewN q) (hR.below (mk_drawn (h2 o o2) q))
  have HB : Hid (∀ o o2 q, Below w.heap.size w (((w.alloc o).alloc o2).drewN q)) := fun o o2 q => mk_drawn (h2 o o2) q
  have HC : Hid (∀ (b h s : Nat) wx, LikeAt wx b h s name a cap l → Below w.heap.size w wx → w.heap.size ≤ s → Calls Try.prog 78 #[.agg #[.int .i64 node1, .string name1, .slice a1 l1.length cap1], .pointer (some ⟨b, 0, none⟩), .pointer (some ⟨h, 0, none⟩)] wx fun e w' => e = .returned (.bool (likeB name name1 l l1)) ∧ Below w.heap.size w w') := by
    intro b h s wx hx hb hs
    refine (like1_any b h s name a cap l node1 name1 a1 cap1 l1 wx hx (hR1.below hb) (fun g hg hn e => ?_) hl hok hok1).mono ?_
    · have := row_lt hR1 g hg hn
      rcases e with e | e <;> omega
    · rintro e w' ⟨rfl, hk⟩
      refine ⟨rfl, hb.trans ⟨hk.os, hk.tape, hk.output, hk.size, fun k hk2 => hk.block k (Nat.lt_of_lt_of_le hk2 hb.size) (fun e => by rcases e with e | e <;> omega)⟩⟩
  have en := enters_like1
  clear h2 hR hR1
  go_enter Try.func41, Try.ntmps41
  go_upto_region 1 with fail
  have HL2 : Hid (∀ q, _) := fun q => HL.out (.cells #[.int .i64 node1, .string name1, .slice a1 l1.length cap1] 58) (.cells #[.int .i64 node, .string name, .slice a l.length cap] 58) q
  have hB0 : Below w.heap.size w ((w.alloc (.cells #[.int .i64 node1, .string name1, .slice a1 l1.length cap1] 58)).alloc (.cells #[.int .i64 node, .string name, .slice a l.length cap] 58)) := HB.out _ _ 0
  have hz : (w.alloc (.cells #[.int .i64 node1, .string name1, .slice a1 l1.length cap1] 58)).heap.size = w.heap.size + 1 := by simp
  have hA0 : (w.alloc (.cells #[.int .i64 node1, .string name1, .slice a1 l1.length cap1] 58)).cell? ⟨w.heap.size, 0, none⟩ = some (.int .i64 node1) := World.cell?_alloc_at _ _ _ 0 rfl
  have hA1 : (w.alloc (.cells #[.int .i64 node1, .string name1, .slice a1 l1.length cap1] 58)).cell? ⟨w.heap.size, 1, none⟩ = some (.string name1) := World.cell?_alloc_at _ _ _ 1 rfl
  have hA2 : (w.alloc (.cells #[.int .i64 node1, .string name1, .slice a1 l1.length cap1] 58)).cell? ⟨w.heap.size, 2, none⟩ = some (.slice a1 l1.length cap1) := World.cell?_alloc_at _ _ _ 2 rfl
  generalize (w.alloc (.cells #[.int .i64 node1, .string name1, .slice a1 l1.length cap1] 58)) = wA at *
  have hBo : Below (w.heap.size + 1) wA (wA.alloc (.cells #[.int .i64 node, .string name, .slice a l.length cap] 58)) := (Below.refl _ _).alloc (by omega) _
  have o0 : (wA.alloc (.cells #[.int .i64 node, .string name, .slice a l.length cap] 58)).cell? ⟨w.heap.size, 0, none⟩ = some (.int .i64 node1) := (hBo.cell (p := ⟨w.heap.size, 0, none⟩) (Nat.lt_succ_self _)).trans hA0
  have o1 : (wA.alloc (.cells #[.int .i64 node, .string name, .slice a l.length cap] 58)).cell? ⟨w.heap.size, 1, none⟩ = some (.string name1) := (hBo.cell (p := ⟨w.heap.size, 1, none⟩) (Nat.lt_succ_self _)).trans hA1
  have o2 : (wA.alloc (.cells #[.int .i64 node, .string name, .slice a l.length cap] 58)).cell? ⟨w.heap.size, 2, none⟩ = some (.slice a1 l1.length cap1) := (hBo.cell (p := ⟨w.heap.size, 2, none⟩) (Nat.lt_succ_self _)).trans hA2
  have e0 : (wA.alloc (.cells #[.int .i64 node, .string name, .slice a l.length cap] 58)).cell? ⟨w.heap.size + 1, 0, none⟩ = some (.int .i64 node) := World.cell?_alloc_at _ _ _ 0 hz.symm
  have e1 : (wA.alloc (.cells #[.int .i64 node, .string name, .slice a l.length cap] 58)).cell? ⟨w.heap.size + 1, 1, none⟩ = some (.string name) := World.cell?_alloc_at _ _ _ 1 hz.symm
  have e2 : (wA.alloc (.cells #[.int .i64 node, .string name, .slice a l.length cap] 58)).cell? ⟨w.heap.size + 1, 2, none⟩ = some (.slice a l.length cap) := World.cell?_alloc_at _ _ _ 2 hz.symm
  have hzW : (wA.alloc (.cells #[.int .i64 node, .string name, .slice a l.length cap] 58)).heap.size = w.heap.size + 2 := by simp [hz]
  clear HL HB hBo hz hA0 hA1 hA2
  generalize wA.alloc (.cells #[.int .i64 node, .string name, .slice a l.length cap] 58) = W at *
  unfold likeV at HL2
  have HKP : Hid (∀ q w1, Below (W.drewN q).heap.size (W.drewN q) w1 → w1.cell? ⟨w.heap.size, 0, none⟩ = some (.int .i64 node1) ∧ w1.cell? ⟨w.heap.size, 1, none⟩ = some (.string name1) ∧ w1.cell? ⟨w.heap.size, 2, none⟩ = some (.slice a1 l1.length cap1) ∧ Below w.heap.size w w1) := fun q w1 hb => by
    have hb' : Below W.heap.size W w1 := ⟨hb.os, hb.tape, hb.output, hb.size, hb.block⟩
    exact ⟨(hb'.cell (p := ⟨w.heap.size, 0, none⟩) (show w.heap.size < _ by omega)).trans o0, (hb'.cell (p := ⟨w.heap.size, 1, none⟩) (show w.heap.size < _ by omega)).trans o1, (hb'.cell (p := ⟨w.heap.size, 2, none⟩) (show w.heap.size < _ by omega)).trans o2, hB0.trans (hb'.mono (by omega))⟩
  have HZW : Hid (W.heap.size = w.heap.size + 2) := hzW
  clear hzW hB0
  go_region_with ((first | (go_at_call 67; refine Calls.mono (HL2.out _) ?_; rintro e w1 ⟨h, rfl, hlk⟩; obtain ⟨p0, p1, p2, hbw⟩ := HKP.out _ w1 hlk.out.2) | (go_at_call 78; refine Calls.mono (HC.out _ _ _ _ hlk.out.1 hbw (by have := HZW.out; show w.heap.size ≤ W.heap.size + 1; omega)) ?_; rintro e w2 ⟨rfl, hb2⟩)))
  all_goals
    go_wp2
    go_ret
    exact ⟨rfl, hb2⟩
end Go.Proofs.Ytalbiekleggkoaa
