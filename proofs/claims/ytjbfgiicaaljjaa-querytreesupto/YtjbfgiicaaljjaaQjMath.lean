/-
  The texts of the kids make the text: the law's walk.
-/
import Derived.Test.YtjbfgiicaaljjaaTwAll
import Derived.Test.YtjbfgiicaaljjaaTxOf
import Derived.Test.YtjbfgiicaaljjaaTmMade
import Derived.Test.YtjbfgiicaaljjaaQuSpeaks
namespace Go.Proofs.Ytjbfgiicaaljjaa
open Go.RowKit

theorem txL_len (ns : List Nd) : ∀ vs : List Nat, (txL ns vs).length = (vs.map fun k => (txB ns k).length).sum
  | [] => rfl
  | k :: vs => by
    have := txL_len ns vs
    unfold txL at *
    rw [List.flatMap_cons, List.length_append, this]
    simp
theorem txB_len (ns : List Nd) : (List.range ns.length).map (fun k => (txB ns k).length) = ns.map txN := by
  apply List.ext_getElem?
  intro i
  rw [List.getElem?_map, List.getElem?_map]
  by_cases h : i < ns.length
  · have hx : ns[i]? = some ns[i] := List.getElem?_eq_getElem h
    rw [List.getElem?_range h, hx]
    simp only [Option.map_some, Option.some.injEq]
    unfold txB txN
    rw [hx]
    simp only
    split
    · exact (Lib.size_eq _).symm
    · rfl
  · rw [List.getElem?_eq_none (by simp; omega), List.getElem?_eq_none (by omega)]
    rfl
theorem fits_of {ns : List Nd} {vs : List Nat} (hn : vs.Nodup) (hv : ∀ v ∈ vs, v < ns.length) (hs : txS ns ≤ 140737488355328) : Fits ns vs := by
  have h := sum_some (g := fun k => (txB ns k).length) ns.length vs hn hv
  rw [txB_len] at h
  unfold Fits
  rw [txL_len]
  exact Nat.le_trans h hs
theorem node_fits {ns : List Nd} (hok : NsTree ns) (hs : txS ns ≤ 140737488355328) {n : Nat} (hn : n < ns.length) : Fits ns (n :: undL ns ns.length n) := by
  refine fits_of (List.nodup_cons.2 ⟨fun h => ?_, undL_nodup hok _ _⟩) (fun v hv => ?_) hs
  · have := (undL_gt hok.toNsOk _ _ _ h).1
    omega
  · rcases List.mem_cons.1 hv with rfl | h
    · exact hn
    · exact (undL_gt hok.toNsOk _ _ _ h).2

/-- The text of a node. -/
def textN (ns : List Nd) (n : Nat) : List UInt8 := txL ns (n :: undL ns ns.length n)
def textsN (ns : List Nd) (ks : List Nat) : List UInt8 := ks.flatMap (textN ns)
theorem textN_text {ns : List Nd} (hl : Leafs ns) {n : Nat} {x : Nd} (hx : ns[n]? = some x) (hk : x.kind = 3) : textN ns n = x.data.data.toList := by
  have hks : x.kids = [] := by
    cases h : x.kids with
    | nil => rfl
    | cons a l => exact absurd hk (hl n x hx (by rw [h]; simp))
  have hu : undL ns ns.length n = [] := by
    have := (List.getElem?_eq_some_iff.1 hx).1
    obtain ⟨f, hf⟩ : ∃ f, ns.length = f + 1 := ⟨ns.length - 1, by omega⟩
    rw [hf]
    show (kidsN ns n).flatMap _ = _
    unfold kidsN
    rw [hx]
    simp [hks]
  unfold textN txL
  rw [hu, List.flatMap_cons, List.flatMap_nil, List.append_nil]
  unfold txB
  rw [hx]
  simp [hk]
theorem flatMap_two {α : Type} (g : Nat → List α) (u : Nat → List Nat) : ∀ ks : List Nat, (ks.flatMap fun k => k :: u k).flatMap g = ks.flatMap fun k => (k :: u k).flatMap g
  | [] => rfl
  | k :: ks => by
    have ih := flatMap_two g u ks
    rw [List.flatMap_cons, List.flatMap_append, ih, List.flatMap_cons]
    rfl
theorem textN_kids {ns : List Nd} (hok : NsTree ns) {n : Nat} {x : Nd} (hx : ns[n]? = some x) (hk : x.kind ≠ 3) : textN ns n = textsN ns x.kids := by
  have hn := (List.getElem?_eq_some_iff.1 hx).1
  obtain ⟨f, hf⟩ : ∃ f, ns.length = f + 1 := ⟨ns.length - 1, by omega⟩
  have hb : txB ns n = [] := by
    unfold txB
    rw [hx]
    simp [hk]
  have hu : undL ns ns.length n = x.kids.flatMap fun k => k :: undL ns f k := by
    rw [hf]
    show (kidsN ns n).flatMap _ = _
    unfold kidsN
    rw [hx]
  unfold textN txL
  rw [List.flatMap_cons, hb, List.nil_append, hu, flatMap_two]
  unfold textsN
  have hall := hok.up n x hx
  generalize x.kids = ks at hall
  clear hu
  induction ks with
  | nil => rfl
  | cons k ks ih =>
    rw [List.flatMap_cons, List.flatMap_cons, ih (fun j hj => hall j (by simp [hj]))]
    have hk2 := hall k (by simp)
    rw [undL_le ns hok.toNsOk f k (by omega) ns.length (by omega)]
    rfl
theorem textsN_next {ns : List Nd} {ks : List Nat} {m k : Nat} (h : ks[m]? = some k) : strN (textsN ns (ks.take (m + 1))) = strN (textsN ns (ks.take m)) ++ strN (textN ns k) := by
  unfold textsN strN
  rw [List.take_add_one, h, List.flatMap_append]
  simp only [Option.toList_some, List.flatMap_cons, List.flatMap_nil, List.append_nil]
  apply ByteArray.ext
  simp [ByteArray.data_append]
end Go.Proofs.Ytjbfgiicaaljjaa
