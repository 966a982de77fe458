/-
  The text under a node.
-/
import Derived.Test.YtjbfgiicaaljjaaBtBuild
import Derived.Test.YtjbfgiicaaljjaaTfMath
import Derived.Test.YtjbfgiicaaljjaaQuUnd
namespace Go.Proofs.Ytjbfgiicaaljjaa
open Go.RowKit

/-- What a node says of itself, and what a row of nodes says. -/
def txB (ns : List Nd) (k : Nat) : List UInt8 := match ns[k]? with
  | some x => if x.kind == 3 then x.data.data.toList else []
  | none => []
def txL (ns : List Nd) (vs : List Nat) : List UInt8 := vs.flatMap (txB ns)
theorem txL_snoc (ns : List Nd) (vs : List Nat) (k : Nat) : txL ns (vs ++ [k]) = txL ns vs ++ txB ns k := by
  unfold txL
  rw [List.flatMap_append, List.flatMap_cons, List.flatMap_nil, List.append_nil]
theorem txL_append (ns : List Nd) (a b : List Nat) : txL ns (a ++ b) = txL ns a ++ txL ns b := by
  unfold txL
  rw [List.flatMap_append]

/-- What the writer keeps. -/
structure TxtI (w0 : World) (b : Nat) (ns : List Nd) (vs : List Nat) (o : Nat → Prop) (w : World) : Prop where
  bld : ∃ p v, BldAt w0.heap.size b p v (Lib.byteCells (txL ns vs)) w ∧ ∀ j, o j ↔ j = b ∨ v.ownBlock = some j
  below : Below w0.heap.size w0 w
  lo : w0.heap.size ≤ b

theorem TxtI.stab {w0 wa wb : World} {b : Nat} {ns : List Nd} {vs : List Nat} {o : Nat → Prop} (h : TxtI w0 b ns vs o wa) (hb : Below wa.heap.size wa wb) : TxtI w0 b ns vs o wb := by
  obtain ⟨⟨p, v, h1, h2⟩, h3, h4⟩ := h
  exact ⟨⟨p, v, ⟨(hb.block b (Array.getElem?_eq_some_iff.1 h1.blk).1).trans h1.blk, owns_kept (out := fun _ => False) h1.own (Kept.below hb) (fun _ _ e => e), h1.off, h1.fresh⟩, h2⟩, h3.trans (hb.mono h3.size), h4⟩

/-- Fits: no text is too long. -/
def Fits (ns : List Nd) (vs : List Nat) : Prop := (txL ns vs).length ≤ 140737488355328
theorem Fits.pre {ns : List Nd} (a b : List Nat) (h : Fits ns (a ++ b)) : Fits ns a := by
  unfold Fits at *
  rw [txL_append, List.length_append] at h
  omega

theorem enters_txt : ∀ args w, (callFunc 41 args).run Try.prog w = .ok (.enter 41 args) w := enters_of Try.func41 (by kernel_rfl) rfl

set_option maxRecDepth 100000 in
set_option maxHeartbeats 2000000 in
theorem txt_call (w0 : World) (b : Nat) (ns : List Nd) (vs : List Nat) (o : Nat → Prop) (w : World) (k : Nat) (x : Nd) (kv av : Value) (hI : TxtI w0 b ns vs o w) (hx : ns[k]? = some x) (hP : Fits ns (vs ++ [k])) :
    Calls Try.prog 41 #[kv, .agg #[.int .i64 x.kind, .int .i64 x.at', .string x.name, .string x.data, av], .pointer (some ⟨b, 0, none⟩)] w fun e w' => e = .returned (.tuple #[]) ∧ Hid (∃ o', TxtI w0 b ns (vs ++ [k]) o' w' ∧ Kept o w w' ∧ ∀ j, o' j → o j ∨ w.heap.size ≤ j) := by
  have hE : txB ns k = if x.kind == 3 then x.data.data.toList else [] := by unfold txB; rw [hx]
  by_cases hk : x.kind = 3
  · have hE2 : txL ns (vs ++ [k]) = txL ns vs ++ x.data.data.toList := by rw [txL_snoc, hE]; simp [hk]
    have hlen : (Lib.byteCells (txL ns vs)).length + x.data.size ≤ 140737488355328 := by
      have h := hP
      unfold Fits at h
      rw [hE2, List.length_append] at h
      rw [Lib.byteCells_length, Lib.size_eq]
      exact h
    obtain ⟨⟨p, v, h1, h2⟩, h3, h4⟩ := hI
    have HW : Hid (∀ o : Obj, _) := fun o => writeText_k w0.heap.size b p v (Lib.byteCells (txL ns vs)) x.data (w.alloc o) ⟨(heap_alloc_old _ _ (Array.getElem?_eq_some_iff.1 h1.blk).1).trans h1.blk, World.ownsRow.alloc h1.own o, h1.off, h1.fresh⟩ (Nat.le_trans h3.size (by simp)) hlen
    have HF : Hid (∀ (o1 : Obj) (w' : World) v', BldAt w0.heap.size b (.pointer (some ⟨b, 0, none⟩)) v' (Lib.byteCells (txL ns vs) ++ Lib.strCells x.data) w' → Kept (fun j => j = b ∨ v.ownBlock = some j) (w.alloc o1) w' → (∀ j, v'.ownBlock = some j → v.ownBlock = some j ∨ (w.alloc o1).heap.size ≤ j) → ∃ o', TxtI w0 b ns (vs ++ [k]) o' w' ∧ Kept o w w' ∧ ∀ j, o' j → o j ∨ w.heap.size ≤ j) := by
      intro o1 w' v' q1 q2 q3
      have hk0 : Kept o w (w.alloc o1) := Kept.below ((Below.refl _ _).alloc (Nat.le_refl _) _)
      have hk1 : Kept o w w' := hk0.trans (q2.mono (fun j _ e => (h2 j).2 e))
      refine ⟨fun j => j = b ∨ v'.ownBlock = some j, ⟨⟨.pointer (some ⟨b, 0, none⟩), v', ?_, fun j => Iff.rfl⟩, ?_, h4⟩, hk1, ?_⟩
      · rw [hE2]
        have e : Lib.byteCells (txL ns vs ++ x.data.data.toList) = Lib.byteCells (txL ns vs) ++ Lib.strCells x.data := by
          rw [Lib.strCells_eq]
          simp [Lib.byteCells]
        rw [e]
        exact q1
      · refine ⟨hk1.os.trans h3.os, hk1.tape.trans h3.tape, hk1.output.trans h3.output, Nat.le_trans h3.size hk1.size, fun j hj => ?_⟩
        have := h3.size
        rw [hk1.block j (by omega) (fun e2 => by
          rcases (h2 j).1 e2 with e3 | e3
          · omega
          · have := (owns_lt h1.own j e3).1; omega)]
        exact h3.block j hj
      · rintro j (rfl | e)
        · exact .inl ((h2 j).2 (.inl rfl))
        · rcases q3 j e with e2 | e2
          · exact .inl ((h2 j).2 (.inr e2))
          · rw [World.size_alloc] at e2
            exact .inr (by omega)
    clear h1 h2 h3 h4 hE hE2 hP hx hlen
    rw [hk]
    go_enter Try.func41, Try.ntmps41
    go_wp2_with fail
    refine Calls.mono (HW.out _) ?_
    rintro e w1 ⟨rfl, h1⟩
    obtain ⟨v', q1, q2, q3⟩ := h1.out
    have HR : Hid _ := HF.out _ w1 v' q1 q2 q3
    clear h1 q1 q2 q3 HF HW
    go_wp2
    go_end0
    exact ⟨rfl, HR⟩
  · have hkb : (x.kind == 3) = false := by rw [beq_eq_false_iff_ne]; exact hk
    have hE2 : txL ns (vs ++ [k]) = txL ns vs := by rw [txL_snoc, hE]; simp [hk]
    have HF : Hid (∀ o1 : Obj, ∃ o', TxtI w0 b ns (vs ++ [k]) o' (w.alloc o1) ∧ Kept o w (w.alloc o1) ∧ ∀ j, o' j → o j ∨ w.heap.size ≤ j) := fun o1 => by
      have hb : Below w.heap.size w (w.alloc o1) := (Below.refl _ _).alloc (Nat.le_refl _) _
      obtain ⟨⟨p, v, h1, h2⟩, h3, h4⟩ := hI.stab hb
      exact ⟨o, ⟨⟨p, v, by rw [hE2]; exact h1, h2⟩, h3, h4⟩, Kept.below hb, fun j e => .inl e⟩
    clear hI hx hP hE hE2
    go_enter Try.func41, Try.ntmps41
    go_wp2
    go_end0
    exact ⟨rfl, HF.out _⟩

theorem txt_visits (ns : List Nd) (w : World) (b : Nat) : Visits 41 #[.pointer (some ⟨b, 0, none⟩)] ns (Fits ns) w (TxtI w b ns) := by
  refine ⟨Fits.pre, enters_txt, fun vs o wa wb h hb => h.stab hb, fun vs o w' h => ⟨h.below, fun k hk => ?_⟩, fun vs o w' k x av h hx hl => ?_⟩
  · obtain ⟨⟨p, v, h1, h2⟩, h3, h4⟩ := h
    rcases (h2 k).1 hk with e | e
    · rw [e]; exact ⟨h4, (Array.getElem?_eq_some_iff.1 h1.blk).1⟩
    · exact owns_lt h1.own k e
  · refine (txt_call w b ns vs o w' k x _ av h hx hl).mono ?_
    rintro e w'' ⟨he, h2⟩
    exact ⟨he, h2.out⟩
end Go.Proofs.Ytjbfgiicaaljjaa
