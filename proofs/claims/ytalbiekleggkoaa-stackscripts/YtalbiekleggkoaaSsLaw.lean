/-
  The law on a stack's steps.
-/
import Derived.Test.YtalbiekleggkoaaSsSwA
namespace Go.Proofs.Ytalbiekleggkoaa
open Go.RowKit

theorem fnode (n : Int) (cs : List Itm) {q : Nat} {c : Itm} (h : cs[q]? = some c) : lastOf (fun i => i.node == n) cs (q + 1) = if (c.node == n) = true then (q : Int) else lastOf (fun i => i.node == n) cs q := lastOf_at h

set_option maxRecDepth 1000000 in
set_option maxHeartbeats 16000000 in
theorem scripts_law (sa : Option Addr) (scap : Nat) (Z : List Stp) (w : World) (hZ : StpsAt w sa Z) :
    Calls Try.prog 3 #[.slice sa Z.length scap] w fun e w' => e = .returned (.bool true) ∧ Below w.heap.size w w' := by
  have HZ : Hid _ := hZ
  have HSP : Hid _ := stSpeaks w
  clear hZ
  go_enter Try.func3, Try.ntmps3
  go_wp2_with fail
  refine Calls.mono HSP.out ?_
  rintro e w1 ⟨rfl, hb1⟩
  have HL0 : Hid (SsAt w (w1.alloc (.cells #[.slice none 0 0] 26)) w1.heap.size 0 (.slice none 0 0) (.slice none 0 0) []) := ⟨hb1.alloc hb1.size _, stack_new w1, World.ownsRow_nil _ _ _ _, hb1.size, Nat.le_refl _⟩
  clear hb1 HSP
  go_wp2
  go_loopw [4, 5] (fun v4 i wr => ∃ k : Nat, k ≤ 500 ∧ k ≤ Z.length ∧ i = .int .i64 k ∧ ∃ v cs, Hid (SsAt w wr w1.heap.size k v v4 cs)) (fun _ i _ => 500 - (intOf i).toNat)
  case atStart => exact ⟨0, by omega, by omega, rfl, _, _, HL0⟩
  case round =>
    clear HL0
    obtain ⟨k, hk, hkZ, rfl, v, cs, HL⟩ := hrel
    generalize w1.heap.size = s at *
    by_cases hin : k < Z.length ∧ k < 500
    · obtain ⟨hlt, hlt2⟩ := hin
      have hkI : (k : Int) < (Z.length : Int) := by omega
      have hkI2 : (k : Int) < 500 := by omega
      have HQ : Hid (Z[k]? = some Z[k]) := List.getElem?_eq_getElem hlt
      generalize Z[k] = p at *
      obtain ⟨a0, rfl, d0, d1, d2, d3⟩ := (HZ.out.below HL.out.bel).at' k p HQ.out
      obtain ⟨a4, c4, rfl, _⟩ := HL.out.form
      have hb4 : Below wr.heap.size wr (((wr.alloc (.cells #[.int .i64 p.what, .int .i64 p.at', .int .i64 p.node, .string p.name] 29)).alloc (.cells #[.int .i64 p.node, .string p.name] 31)).alloc (.cells #[.int .i64 p.node, .string p.name] 32)) := (((Below.refl _ _).alloc (Nat.le_refl _) _).alloc (by simp) _).alloc (by simp; omega) _
      have hA : (((wr.alloc (.cells #[.int .i64 p.what, .int .i64 p.at', .int .i64 p.node, .string p.name] 29)).alloc (.cells #[.int .i64 p.node, .string p.name] 31)).alloc (.cells #[.int .i64 p.node, .string p.name] 32)).heap[wr.heap.size]? = some (.cells #[.int .i64 p.what, .int .i64 p.at', .int .i64 p.node, .string p.name] 29 (0, 0)) := by
        rw [heap_alloc_old _ _ (by simp; omega), heap_alloc_old _ _ (by simp), heap_alloc_new]
      have hX : (((wr.alloc (.cells #[.int .i64 p.what, .int .i64 p.at', .int .i64 p.node, .string p.name] 29)).alloc (.cells #[.int .i64 p.node, .string p.name] 31)).alloc (.cells #[.int .i64 p.node, .string p.name] 32)).heap[wr.heap.size + 1]? = some (.cells #[.int .i64 p.node, .string p.name] 31 (0, 0)) := by
        rw [heap_alloc_old _ _ (by simp)]
        have := heap_alloc_new (wr.alloc (.cells #[.int .i64 p.what, .int .i64 p.at', .int .i64 p.node, .string p.name] 29)) (.cells #[.int .i64 p.node, .string p.name] 31)
        simpa using this
      have hY : (((wr.alloc (.cells #[.int .i64 p.what, .int .i64 p.at', .int .i64 p.node, .string p.name] 29)).alloc (.cells #[.int .i64 p.node, .string p.name] 31)).alloc (.cells #[.int .i64 p.node, .string p.name] 32)).heap[wr.heap.size + 1 + 1]? = some (.cells #[.int .i64 p.node, .string p.name] 32 (0, 0)) := by
        have := heap_alloc_new ((wr.alloc (.cells #[.int .i64 p.what, .int .i64 p.at', .int .i64 p.node, .string p.name] 29)).alloc (.cells #[.int .i64 p.node, .string p.name] 31)) (.cells #[.int .i64 p.node, .string p.name] 32)
        simpa using this
      have HW : Hid (SwAt w _ s k v (.slice a4 cs.length c4) cs wr.heap.size p) := ⟨HL.out.below hb4, hA⟩
      have HX : Hid _ := hX
      have HY : Hid _ := hY
      clear hb4 hA hX hY HL HQ
      go_upto_block 2 with fail
      go_cut [4, 9] from 25 to 262 (fun v4 v9 wc => v9 = .bool true ∧ ∃ vn csn, Hid (SwAt w wc s (k + 1) vn v4 csn wr.heap.size p))
      case first =>
        clear d0 d1 d2 d3 HZ
        generalize (wrap64 (p.what.tmod 8 + 8)).tmod 8 = m at *
        refine sw_any _ _ _ _ _ _ _ _ _ _ _ _ _ _ _ _ _ _ _ _ _ _ _ _ _ _ _ _ _ _ _ _ _ _ _ _ _ _ _ _ _ _ _ _ _ _ _ _ _ _ _ _ _ _ _ _ _ _ _ _ _ _ _ _ _ _ _ _ _ _ _ _ _ _ _ _ _ _ _ _ _ _ _ _ _ _ _ _ _ _ _ _ _ _ _ _ _ _ _ _ _ _ _ _ _ _ _ _ _ _ _ _ _ _ _ _ _ _ _ _ _ _ _ _ _ _ _ _ _ _ _ _ _ _ _ _ _ _ _ _ _ _ _ _ _ _ _ _ _ _ _ _ _ _ _ _ _ _ _ _ _ _ _ _ _ _ _ _ _ _ _ _ _ _ _ _ _ _ _ _ _ _ _ _ _ _ _ _ _ _ _ _ _ _ _ _ _ _ _ _ _ _ _ _ _ _ _ _ _ _ _ _ _ _ _ _ _ _ _ _ _ _ _ _ _ _ _ _ _ _ _ _ _ _ _ _ _ _ _ _ _ _ _ _ _ _ _ _ _ _ _ _ _ _ _ _ _ _ _ _ _ _ _ _ _ _ _ _ m HX.out HY.out _ _ HW.out hlt2 ?_
        intros
        rename_i wy vn v4n csn hsw
        go_step
        go_meet
        exact ⟨rfl, _, _, hsw⟩
      case rest =>
        clear HW HX HY
        obtain ⟨rfl, v', cs', HW⟩ := hcut
        generalize wr.heap.size = ab at *
        obtain ⟨a5, c5, rfl, _⟩ := HW.out.ss.form
        have hl5 : cs'.length ≤ 500 := by have := HW.out.ss.len; omega
        clear d0 d1 d2 d3
        go_wp2
        go_loopw [21, 22] (fun a n wx => ∃ q : Nat, q ≤ cs'.length ∧ n = .int .i64 q ∧ a = .int .i64 (lastOf (fun i => i.node == p.node) cs' q) ∧ Hid (Below wc.heap.size wc wx)) (fun _ n _ => cs'.length - (intOf n).toNat)
        case atStart => exact ⟨0, Nat.zero_le _, rfl, rfl, Below.refl _ _⟩
        case round =>
          obtain ⟨q, hq, rfl, rfl, HB⟩ := hrel
          have HW2 : Hid _ := HW.out.below HB.out
          by_cases hlq : q < cs'.length
          · obtain ⟨c, hc⟩ : ∃ c, cs'[q]? = some c := ⟨_, List.getElem?_eq_getElem hlq⟩
            obtain ⟨g, rfl, r0, r1⟩ := HW2.out.ss.row.at' q c hc
            have e2 := HW2.out.c2
            have hqI : (q : Int) < (cs'.length : Int) := by omega
            have HF : Hid _ := fnode p.node cs' hc
            clear hc r1 HW2
            cases hn : (c.node == p.node)
            · have HF2 : Hid (lastOf (fun i => i.node == p.node) cs' (q + 1) = lastOf (fun i => i.node == p.node) cs' q) := by
                show _ = _
                rw [HF.out, hn]
                rfl
              clear HF
              go_wp2_with fail
              go_quiet (fail)
              go_wp2
              go_roundw
              case rel => exact ⟨q + 1, by omega, by go_num, by rw [HF2.out], below_drawn HB.out _⟩
              case measure => simp only [intOf]; go_num
            · have HF2 : Hid (lastOf (fun i => i.node == p.node) cs' (q + 1) = (q : Int)) := by
                show _ = _
                rw [HF.out, hn]
                rfl
              clear HF
              go_wp2_with fail
              go_quiet (fail)
              go_wp2
              go_roundw
              case rel => exact ⟨q + 1, by omega, by go_num, by rw [HF2.out], below_drawn HB.out _⟩
              case measure => simp only [intOf]; go_num
          · obtain rfl : q = cs'.length := by omega
            have HI : Hid _ := items_in s s v' cs' _ HW2.out.ss.stk (by omega)
            clear HB HW
            go_wp2_with fail
            refine Calls.mono HI.out ?_
            rintro e w5 ⟨a', c', rfl, hO⟩
            have HW5 : Hid _ := HW2.out.below hO.out.2
            have HSM : Hid _ := same_any a' a5 c' c5 cs' w5 (RcAt.of_owns hO.out.1) HW5.out.ss.row (by omega)
            clear HI HW2 hO
            go_wp2_with fail
            refine Calls.mono HSM.out ?_
            rintro e w6 ⟨rfl, hb6⟩
            have HW6 : Hid _ := HW5.out.below hb6
            have e2 := HW6.out.c2
            have HF : Hid _ := find_any s s v' cs' p.node w6 HW6.out.ss.stk (by omega)
            clear HSM HW5 hb6
            generalize lastOf (fun i => i.node == p.node) cs' cs'.length = r at *
            go_wp2_with fail
            refine Calls.mono HF.out ?_
            rintro e w7 ⟨rfl, hb7⟩
            have HW7 : Hid (SsAt w w7 s (k + 1) v' (.slice a5 cs'.length c5) cs') := HW6.out.ss.below hb7
            have hrr : (r != r) = false := by simp
            clear HF HW6 hb7 e2
            go_wp2
            go_roundw
            case rel => exact ⟨k + 1, by omega, by omega, by go_num, _, _, HW7⟩
            case measure => simp only [intOf]; go_num
    · rcases (show ¬ k < Z.length ∨ (k < Z.length ∧ ¬ k < 500) by omega) with h1 | ⟨h1, h2⟩
      all_goals
        have HB : Hid _ := HL.out.bel
        clear hin HL HZ
        go_wp2
        go_ret
        exact ⟨rfl, HB.out⟩
end Go.Proofs.Ytalbiekleggkoaa
