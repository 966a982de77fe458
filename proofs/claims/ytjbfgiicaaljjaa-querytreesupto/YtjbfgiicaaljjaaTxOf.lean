/-
  The text of a node.
-/
import Derived.Test.YtjbfgiicaaljjaaTxText
namespace Go.Proofs.Ytjbfgiicaaljjaa
open Go.RowKit

def strN (l : List UInt8) : ByteArray := ⟨l.toArray⟩

set_option maxRecDepth 100000 in
set_option maxHeartbeats 4000000 in
theorem text_in (t B g cap : Nat) (ns : List Nd) (cs : List Cel) (n : Nat) (w : World) (hT : FamAt w t B g cap ns cs) (hok : NsTree ns) (hn : n < ns.length) (hfit : Fits ns (n :: undL ns ns.length n)) :
    Calls Try.prog 15 #[.pointer (some ⟨t, 0, none⟩), .int .i64 (n : Int)] w fun e w' => e = .returned (.string (strN (txL ns (n :: undL ns ns.length n)))) ∧ Below w.heap.size w w' := by
  obtain ⟨x, hx⟩ : ∃ x, ns[n]? = some x := ⟨_, List.getElem?_eq_getElem hn⟩
  have hfew := hok.few n x hx
  have HB0 : Hid (∀ o : Obj, Below w.heap.size w (w.alloc o)) := fun o => (Below.refl _ _).alloc (Nat.le_refl _) o
  have HG : Hid (∀ o : Obj, _) := fun o => fam_get (hT.below (HB0.out o)) hx hfew.2.1 (by have := hfew.2.2; omega)
  have HX : Hid _ := hx
  have hI0 : TxtI w w.heap.size ns [] (fun j => j = w.heap.size) (w.alloc (.cells #[.pointer none, .slice none 0 0] 90)) := by
    refine ⟨⟨.pointer none, .slice none 0 0, ⟨heap_alloc_new w _, World.ownsRow_nil _ _ _ _, (by intro e; cases e), .inl rfl⟩, fun j => ?_⟩, HB0.out _, Nat.le_refl _⟩
    constructor
    · exact fun e => .inl e
    · rintro (e | e)
      · exact e
      · cases e
  have HI0 : Hid _ := hI0
  have HFIT : Hid _ := hfit
  have HEA : Hid (∀ o w1, TxtI w w.heap.size ns [n] o w1 → _) := fun o w1 h => each_any 41 #[.pointer (some ⟨w.heap.size, 0, none⟩)] ns cs t B g cap (Fits ns) w (TxtI w w.heap.size ns) (txt_visits ns w w.heap.size) hT hok.toNsOk ns.length n [n] o w1 (by omega) hn HFIT.out h
  have HTC : Hid (∀ o w1 kv av, TxtI w w.heap.size ns [] o w1 → _) := fun o w1 kv av h => txt_call w w.heap.size ns [] o w1 n x kv av h hx (Fits.pre [n] (undL ns ns.length n) HFIT.out)
  have heg := enters_txt
  clear hT hok hn hx hfew hI0 hfit
  go_enter Try.func15, Try.ntmps15
  go_wp2_with fail
  refine Calls.mono (HG.out _) ?_
  rintro e w1 ⟨a2, c2, rfl, h1⟩
  have HI1 : Hid (∀ o : Obj, TxtI w w.heap.size ns [] (fun j => j = w.heap.size) (w1.alloc o)) := fun o => HI0.out.stab (h1.out.2.alloc h1.out.2.size o)
  have HI1' : Hid (TxtI w w.heap.size ns [] (fun j => j = w.heap.size) w1) := HI0.out.stab h1.out.2
  clear h1 HG HI0
  go_wp2_with fail
  refine Calls.mono (HTC.out _ _ _ _ (HI1.out _)) ?_
  rintro e w2 ⟨rfl, h2⟩
  obtain ⟨o2, h3, _, _⟩ := h2.out
  rw [List.nil_append] at h3
  have HE2 : Hid _ := HEA.out o2 w2 h3
  clear h2 h3 HI1 HI1' HTC HEA
  go_wp2_with fail
  refine Calls.mono HE2.out ?_
  rintro e w3 ⟨rfl, h4⟩
  obtain ⟨o3, h5, _, _⟩ := h4.out
  rw [List.singleton_append] at h5
  obtain ⟨⟨p, v, h6, _⟩, h7, _⟩ := h5
  have HS : Hid _ := Try.Builder_String_any w.heap.size w.heap.size (txL ns (n :: undL ns ns.length n)) w3 (by
    have hlb : Lib.BuilderAt 90 5 w.heap.size w.heap.size p (Lib.byteCells (txL ns (n :: undL ns ns.length n))) w3 := ⟨Nat.le_refl _, v, h6.blk, h6.own, h6.off⟩
    rcases h6.fresh with e | e
    · rw [e] at hlb; exact .inl hlb
    · rw [e] at hlb; exact .inr hlb) h7.size
  have HB : Hid (Below w.heap.size w w3) := h7
  have hst : (⟨(txL ns (n :: undL ns ns.length n)).toArray⟩ : ByteArray) = strN (txL ns (n :: undL ns ns.length n)) := rfl
  rw [hst] at HS
  clear h4 h6 h7 hst HE2
  generalize hr : strN (txL ns (n :: undL ns ns.length n)) = r at HS
  go_wp2_with fail
  refine Calls.mono HS.out ?_
  rintro e w4 ⟨rfl, h8⟩
  have HF : Hid (Below w.heap.size w w4) := HB.out.trans h8
  clear h8 HB HS
  go_wp2
  go_ret
  refine ⟨?_, HF.out⟩
  rw [hr]
  rfl
end Go.Proofs.Ytjbfgiicaaljjaa
