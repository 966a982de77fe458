/-
  PROVED: for all whole numbers steps, where what is read is of bulk at most 1048576, the law PlacePaths of the package beadlelaw03 returns true (the text of any steps is the document's; it tells them again), and its arguments read as before; the listed tables start as the program's text lays them.
-/
import Derived.Test.YtjfbogjpmieogaaDoorPathsLaw
import Derived.Test.YtjfbogjpmieogaaDoorViewZ
import Derived.Test.YtjfbogjpmieogaaDoorCards
import Derived.Test.YtjfbogjpmieogaaDoorTie
import Derived.ProofKit
import Derived.OpenShut
import Derived.ShutString
import Derived.LaidMore
import Derived.Lay
import Derived.SevenTiedAt
import Derived.SizedLaws
import Derived.Deep.DeepHandedRow
import Derived.Lib.LaidTab
namespace Go.Proofs.YtjfbogjpmieogaaDoor.placePaths
open Go.ChangeShapes Go.WideShapes Go.ChangeAt Go.RowKit
open Go.ChangeMaps (open_string shut_string)

theorem own : ownKnob Tryd.prog.godebug = none := by kernel_rfl
theorem laidOut : laidOutB Tryd.prog = true := by kernel_rfl

theorem gTabType : (Tryd.prog.globals[1]?).map (·.type) = some 156 := by kernel_rfl
theorem cellsArr : Tryd.prog.cellsOf 156 = 20 := by kernel_rfl
theorem cellsInt : Tryd.prog.cellsOf 143 = 1 := by kernel_rfl
theorem third {P : Program} {W : World} {x y z : String × DataW Unit} {l : List (String × DataW Unit)} (h : laidMet P (x :: y :: z :: l) W) : ∃ ps, DataW.LaidVars P W (z :: l) ps := by
  obtain ⟨ps, ⟨_, _, _, _, p, q, _, _, _, _, hr, _⟩, _⟩ := h
  obtain ⟨_, _, _, _, p, q, _, _, _, _, hr, _⟩ := hr
  exact ⟨q, hr⟩
theorem ispow_of {W : World} (h : laidMetH Tryd.prog Rows.placePathsUptoRow.laid W) : IsPow W := ⟨by
  obtain ⟨ps, hv⟩ := third (P := Tryd.prog) (W := W) h
  obtain ⟨g', t', cs, fuel, p, q, hg', ht', hvar, hd, _, _⟩ := hv
  obtain rfl := Option.some.inj (gPow.symm.trans hg')
  obtain rfl := Option.some.inj (gTabType.symm.trans ht')
  unfold Lib.TabIs
  have hd2 : DataW.trod (fun _ => ()) Tryd.prog W 0 (fun _ => true) false fuel 156 cs.toList = some (Lib.tabData .u64 Lib.pow10Tab, p) := hd
  rw [hvar, ← Lib.cells_of_tab Tryd.underlying156 Tryd.underlying143 cellsInt cellsArr hd2]⟩

theorem laid_met (os : Os) : laidMet Tryd.prog Rows.placePathsUptoRow.laid ((World.laidAll Tryd.prog os Rows.placePathsUptoRow.laid).forCall (fun _ _ => 0) ⟨#[], #[.slice none 0 0], []⟩).memory :=
  laidMet_of_run' 8 (by kernel_rfl) (by kernel_rfl)
theorem reads (os : Os) {H : Type} (enc : TypeId × Value → H) : ∃ places, DataW.whole enc Tryd.prog ((World.laidAll Tryd.prog os Rows.placePathsUptoRow.laid).forCall (fun _ _ => 0) ⟨#[], #[.slice none 0 0], []⟩).memory Tryd.f5.params.toList Rows.placePathsSpec.vars false #[Value.slice none 0 0].toList 8 = some ([.nil], [], places) :=
  ⟨[], by kernel_rfl⟩

set_option maxRecDepth 100000 in
theorem lifted (os : Os) (started : os.Started) (H : Type) (enc : TypeId × Value → H) (F : Stop.Interp) :
    ReturnsInHanded {} Tryd.checked os 5 .any ((Rows.OpenSpec.upto Rows.placePathsSpec).preRow enc Tryd.prog Tryd.f5 Rows.placePathsUptoRow.domain false Rows.placePathsUptoRow.laid) (((Rows.OpenSpec.upto Rows.placePathsSpec).at F).post enc Tryd.prog Tryd.f5 false true false false) := by
  obtain ⟨places, hx⟩ := reads os enc
  refine returnsInHanded_of_row (C := Tryd.checked) (s := (Rows.OpenSpec.upto Rows.placePathsSpec)) own started (by kernel_rfl) Tryd.func5
    (witness_row_at (enc := enc) (C := Tryd.checked) false (World.laidAll Tryd.prog os Rows.placePathsUptoRow.laid) #[.slice none 0 0] (World.laidAll_os _ _ _) (by kernel_rfl) (by kernel_rfl) (by kernel_rfl)
      (OpenSpec.preRow_of_cond 8 hx (by kernel_rfl) (fun k hk => by cases hk; kernel_rfl) (by kernel_rfl) (laid_met os))) ?_
  intro W base args ds gs before hval0 hW _ hcond _ hL hsh _
  have hval : ∀ (j : Nat) t v, Tryd.f5.params[j]? = some t → args[j]? = some v → Value.okWide Tryd.prog W .any base t v := hval0
  have hW' := hW
  obtain ⟨p, q, hA0, hV, rfl, hfz, hnd⟩ := hW
  have hA : DataW.TrodAll enc Tryd.prog W 0 (fun _ => true) true Tryd.f5.params.toList args.toList ds p := hA0
  rw [Tryd.params5] at hA hval
  obtain ⟨v0, vs0, d0, ds0, p0, q0, hargs, rfl, rfl, h0, r0⟩ := trodAll_cons hA
  obtain ⟨rfl, rfl, rfl⟩ := trodAll_nil r0
  obtain rfl : args = #[v0] := by cases args; simp_all
  obtain ⟨rfl, rfl⟩ := trodVars_none hV
  obtain ⟨a0, len0, cap0, rfl⟩ := okWide_slice Tryd.underlying38 (hval 0 38 v0 rfl rfl)
  have h0k := h0
  obtain ⟨f0, hf0⟩ := h0
  obtain ⟨Z0, rfl, hZ0, hd0, hnc0, hwf0⟩ := view_ints hf0
  clear hA0 hval0
  have hk := of_decide_eq_true (hcond _ rfl)
  simp only [Rows.uptoBulkAll, List.append_nil] at hk
  have hs0 : Z0.length ≤ 1048576 := by
    rcases hd0 with ⟨_, hl⟩ | ⟨sp, rfl⟩
    · omega
    · have h := bulk_slice (H := H) Z0 sp
      omega
  have hlt : ∀ x ∈ p0, x.block < W.heap.size := fun x hx => by simpa using hW'.lt x (by simpa using hx)
  simp only [List.append_nil] at hW'
  refine (paths_law a0 cap0 Z0 W hZ0 hnc0 hwf0 hs0 hsh (ispow_of hL)).mono fun e W' ⟨he, hb⟩ => ?_
  subst he
  exact ⟨_, rfl, _, _, _, [], _, [], hW', trodAll_cons_mk (shut_bool Tryd.underlying4 _) trodAll_mk0, (trodAll_cons_mk (Below.trod laidOut (by kernel_rfl) (of_decide_eq_true (by kernel_rfl)) h0k hb (fun x hx => hlt x (by simp [hx]))) trodAll_mk0), rfl, hb.frame _, fun h => by cases h⟩

theorem said : Rows.PlacePathsUptoSaid :=
  OpenClaim.holds_of_cond 5 Tryd.f5 rfl rfl rfl rfl rfl rfl rfl ⟨rfl, rfl, rfl, rfl, rfl⟩ rfl rfl rfl rfl rfl (by kernel_rfl) Tryd.func5 (by kernel_rfl)
    (of_decide_eq_true (by kernel_rfl)) (by unfold Func.isWrapper; first | (rw [if_pos (by decide +kernel)]; kernel_rfl) | (rw [if_neg (by decide +kernel)]; exact ⟨rfl, rfl⟩))
    (fun os started H enc _ F => by rw [OpenClaim.pre_eq_preRow]; exact lifted os started H enc F)

theorem plain (f : FuncId) (fn : Func) (hf : Tryd.pinned.checked.prog.funcNamed Rows.placePathsUptoRow.func = some f) (hfn : Tryd.pinned.checked.prog.funcs[f]? = some fn) :
    false = Tryd.pinned.checked.prog.looks [] ∧ ∀ (j : Nat) t, fn.params[j]? = some t → Tryd.pinned.checked.prog.wantsStandIn t = false := by
  obtain rfl : f = 5 := Option.some.inj ((show Tryd.prog.funcNamed Rows.placePathsUptoRow.func = some 5 by kernel_rfl).symm.trans hf) |>.symm
  obtain rfl : fn = Tryd.f5 := (Option.some.inj (Tryd.func5.symm.trans hfn)).symm
  refine ⟨by kernel_rfl, fun j t ht => ?_⟩
  rw [Tryd.params5] at ht
  obtain rfl : t = 38 := by simpa using Array.mem_of_getElem? ht
  exact (show Tryd.prog.wantsStandIn 38 = false by kernel_rfl)
end Go.Proofs.YtjfbogjpmieogaaDoor.placePaths
namespace Go.Proofs.YtjfbogjpmieogaaDoor
open Go.RowKit

theorem placePathsUpto_holds : Rows.PlacePathsUptoCardSaid :=
  Claim7.holds_tied_plain_at .later [] _ _ _ _ placePaths.said (fun _ h => by cases h) (by kernel_rfl) (fun _ h => by cases h) placePathsUpto_row_tie rfl ⟨rfl, rfl⟩ (by kernel_rfl) rfl placePaths.plain (by kernel_rfl)
#print axioms placePathsUpto_holds
end Go.Proofs.YtjfbogjpmieogaaDoor
