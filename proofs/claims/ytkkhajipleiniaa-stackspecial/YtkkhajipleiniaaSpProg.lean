/-
  The elements that formatting doesn't pass: the program's test, the reference's, and the law.
-/
import Derived.Test.YtkkhajipleiniaaTests
import Derived.Deep.RegionLaw
import Derived.Deep.DeepCutAuto
import Derived.Deep.QuietTactic
import Derived.BigQuiet
namespace Go.Proofs.Ytkkhajipleiniaa
open Go.RowKit

def spRow : List ByteArray := [
  ⟨#[97, 100, 100, 114, 101, 115, 115]⟩,
  ⟨#[97, 112, 112, 108, 101, 116]⟩,
  ⟨#[97, 114, 101, 97]⟩,
  ⟨#[97, 114, 116, 105, 99, 108, 101]⟩,
  ⟨#[97, 115, 105, 100, 101]⟩,
  ⟨#[98, 97, 115, 101]⟩,
  ⟨#[98, 97, 115, 101, 102, 111, 110, 116]⟩,
  ⟨#[98, 103, 115, 111, 117, 110, 100]⟩,
  ⟨#[98, 108, 111, 99, 107, 113, 117, 111, 116, 101]⟩,
  ⟨#[98, 111, 100, 121]⟩,
  ⟨#[98, 114]⟩,
  ⟨#[98, 117, 116, 116, 111, 110]⟩,
  ⟨#[99, 97, 112, 116, 105, 111, 110]⟩,
  ⟨#[99, 101, 110, 116, 101, 114]⟩,
  ⟨#[99, 111, 108]⟩,
  ⟨#[99, 111, 108, 103, 114, 111, 117, 112]⟩,
  ⟨#[100, 100]⟩,
  ⟨#[100, 101, 116, 97, 105, 108, 115]⟩,
  ⟨#[100, 105, 114]⟩,
  ⟨#[100, 105, 118]⟩,
  ⟨#[100, 108]⟩,
  ⟨#[100, 116]⟩,
  ⟨#[101, 109, 98, 101, 100]⟩,
  ⟨#[102, 105, 101, 108, 100, 115, 101, 116]⟩,
  ⟨#[102, 105, 103, 99, 97, 112, 116, 105, 111, 110]⟩,
  ⟨#[102, 105, 103, 117, 114, 101]⟩,
  ⟨#[102, 111, 111, 116, 101, 114]⟩,
  ⟨#[102, 111, 114, 109]⟩,
  ⟨#[102, 114, 97, 109, 101]⟩,
  ⟨#[102, 114, 97, 109, 101, 115, 101, 116]⟩,
  ⟨#[104, 49]⟩,
  ⟨#[104, 50]⟩,
  ⟨#[104, 51]⟩,
  ⟨#[104, 52]⟩,
  ⟨#[104, 53]⟩,
  ⟨#[104, 54]⟩,
  ⟨#[104, 101, 97, 100]⟩,
  ⟨#[104, 101, 97, 100, 101, 114]⟩,
  ⟨#[104, 103, 114, 111, 117, 112]⟩,
  ⟨#[104, 114]⟩,
  ⟨#[104, 116, 109, 108]⟩,
  ⟨#[105, 102, 114, 97, 109, 101]⟩,
  ⟨#[105, 109, 103]⟩,
  ⟨#[105, 110, 112, 117, 116]⟩,
  ⟨#[107, 101, 121, 103, 101, 110]⟩,
  ⟨#[108, 105]⟩,
  ⟨#[108, 105, 110, 107]⟩,
  ⟨#[108, 105, 115, 116, 105, 110, 103]⟩,
  ⟨#[109, 97, 105, 110]⟩,
  ⟨#[109, 97, 114, 113, 117, 101, 101]⟩,
  ⟨#[109, 101, 110, 117]⟩,
  ⟨#[109, 101, 116, 97]⟩,
  ⟨#[110, 97, 118]⟩,
  ⟨#[110, 111, 101, 109, 98, 101, 100]⟩,
  ⟨#[110, 111, 102, 114, 97, 109, 101, 115]⟩,
  ⟨#[110, 111, 115, 99, 114, 105, 112, 116]⟩,
  ⟨#[111, 98, 106, 101, 99, 116]⟩,
  ⟨#[111, 108]⟩,
  ⟨#[112]⟩,
  ⟨#[112, 97, 114, 97, 109]⟩,
  ⟨#[112, 108, 97, 105, 110, 116, 101, 120, 116]⟩,
  ⟨#[112, 114, 101]⟩,
  ⟨#[115, 99, 114, 105, 112, 116]⟩,
  ⟨#[115, 101, 97, 114, 99, 104]⟩,
  ⟨#[115, 101, 99, 116, 105, 111, 110]⟩,
  ⟨#[115, 101, 108, 101, 99, 116]⟩,
  ⟨#[115, 111, 117, 114, 99, 101]⟩,
  ⟨#[115, 116, 121, 108, 101]⟩,
  ⟨#[115, 117, 109, 109, 97, 114, 121]⟩,
  ⟨#[116, 97, 98, 108, 101]⟩,
  ⟨#[116, 98, 111, 100, 121]⟩,
  ⟨#[116, 100]⟩,
  ⟨#[116, 101, 109, 112, 108, 97, 116, 101]⟩,
  ⟨#[116, 101, 120, 116, 97, 114, 101, 97]⟩,
  ⟨#[116, 102, 111, 111, 116]⟩,
  ⟨#[116, 104]⟩,
  ⟨#[116, 104, 101, 97, 100]⟩,
  ⟨#[116, 105, 116, 108, 101]⟩,
  ⟨#[116, 114]⟩,
  ⟨#[116, 114, 97, 99, 107]⟩,
  ⟨#[117, 108]⟩,
  ⟨#[119, 98, 114]⟩,
  ⟨#[120, 109, 112]⟩]

/-- Is a text one of many? -/
def isOne (l : List ByteArray) (s : ByteArray) : Bool := l.any fun c => s.toList == c.toList

set_option maxRecDepth 100000 in
set_option maxHeartbeats 4000000 in
theorem special_any (y : ByteArray) (w : World) : Calls Try.prog 25 #[.string y] w fun e w' => e = .returned (.bool (isOne spRow y)) ∧ w' = w := by
  go_enter Try.func25, Try.ntmps25
  refine wp_seq ?_
  refine wp_region_lit (wpList_value rfl rfl (wpList_nil ?_))
  show Code.wp _ _ _ _ w
  refine wp_seq ?_
  refine wp_seq ?_
  refine wp_region_lit (wpList_value rfl rfl (wpList_nil ?_))
  show Code.wp _ _ _ _ w
  refine wp_block ?_
  refine wp_seq ?_
  refine tests_wp 88 3 4 [3] (by decide) _ spRow (by kernel_rfl) _ _ w y rfl rfl ?_
  intro a' ha
  show Code.wp _ _ _ a' w
  have hs := ha.said
  have hz := ha.size
  have hd := ha.defers
  change a'.eval (.tmp 4) = .bool (isOne spRow y) at hs
  refine wp_cond hs ?_
  generalize isOne spRow y = r at *
  cases r
  · simp only [Bool.false_eq_true, if_false]
    refine wp_skip ?_
    show Code.wp _ _ _ a' w
    refine wp_seq ?_
    refine wp_region_lit (wpList_value rfl rfl (wpList_nil ?_))
    show Code.wp _ _ _ _ w
    refine wp_ret ?_
    refine bodyPost_ret (v := .bool false) ?_ ?_ ?_
    · simp [results, Try.results25, go_sem, Act.put, hz]
    · exact hd
    · exact ⟨rfl, rfl⟩
  · simp only [if_true]
    refine wp_seq ?_
    refine wp_region_lit (wpList_value rfl rfl (wpList_nil ?_))
    show Code.wp _ _ _ _ w
    refine wp_ret ?_
    simp only [Exit.inBlock, Exit.then]
    refine bodyPost_ret (v := .bool true) ?_ ?_ ?_
    · simp [results, Try.results25, go_sem, Act.put, hz]
    · exact hd
    · exact ⟨rfl, rfl⟩
end Go.Proofs.Ytkkhajipleiniaa
