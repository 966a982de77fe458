/-
  What every statement on trees asks first.
-/
import Derived.Test.YtopecjchflknbaaDmFirst
namespace Go.Proofs.Ytopecjchflknbaa
open Go.RowKit

theorem Kept.toBelow {out : Nat → Prop} {w w' : World} {B : Nat} (h : Kept out w w') (hB : B ≤ w.heap.size) (ho : ∀ k, out k → B ≤ k) : Below B w w' :=
  ⟨h.os, h.tape, h.output, h.size, fun k hk => h.block k (by omega) (fun e => by have := ho k e; omega)⟩

def elCel : Cel := newCel 2 0 ⟨#[112]⟩ ⟨#[]⟩

set_option maxRecDepth 100000 in
set_option maxHeartbeats 2000000 in
theorem domSpeaks (w : World) : Calls Try.prog 8 #[] w fun e w' => e = .returned (.bool true) ∧ Below w.heap.size w w' := by
  go_enter Try.func8, Try.ntmps8
  go_wp2_with fail
  refine Calls.mono (domNew_any w) ?_
  rintro e w1 ⟨rfl, hT1, hb1⟩
  have H2 : Hid (Calls Try.prog 20 #[.pointer (some ⟨w.heap.size + 1, 0, none⟩), .agg #[.int .i64 2, .int .i64 0, .string ⟨#[112]⟩, .string ⟨#[]⟩, .slice none 0 0]] w1 fun e w' => e = .returned (.int .i64 1) ∧ MakeP w1 (w.heap.size + 1) w.heap.size w.heap.size [docCel] elCel w') := make_any (w.heap.size + 1) w.heap.size w.heap.size 1 [docCel] 2 0 ⟨#[112]⟩ ⟨#[]⟩ w1 hT1 (by decide) (by decide) (by decide)
  have HB1 : Hid _ := hb1
  clear hT1 hb1
  generalize hB : w.heap.size = B at *
  generalize B + 1 = t at *
  go_wp2_with fail
  refine Calls.mono H2.out ?_
  rintro e w2 ⟨rfl, ⟨g2, cap2, hT2, hg2⟩, hk2⟩
  have hgB := hT2.gB
  have htB := hT2.tB
  have HB2 : Hid (Below B w w2) := HB1.out.trans (hk2.toBelow (by have := HB1.out.size; omega) (fun k e => by rcases e with e | e <;> omega))
  have H3 : Hid (Calls Try.prog 15 #[.pointer (some ⟨t, 0, none⟩), .int .i64 1, .int .i64 0, .int .i64 (-1)] w2 fun e w' => e = .returned (.int .i64 0) ∧ PutP w2 t B g2 cap2 [docCel, elCel] 1 0 elCel docCel [] w') := put_new t B g2 cap2 [docCel, elCel] 1 0 elCel docCel [] w2 hT2 rfl rfl (by decide) (by decide) rfl rfl (.inl rfl) (World.ownsRow_nil _ _ _ _) (by decide)
  clear H2 hT2 hk2 HB1 hg2
  go_wp2_with fail
  refine Calls.mono H3.out ?_
  rintro e w3 ⟨rfl, ⟨kv, hT3, hO3, _⟩, hk3⟩
  have HB3 : Hid (Below B w w3) := HB2.out.trans (hk3.toBelow (by have := HB2.out.size; omega) (fun k e => by
    rcases e with e | e
    · omega
    · cases e))
  have H4 : Hid (Calls Try.prog 23 #[.pointer (some ⟨t, 0, none⟩), .int .i64 97, .int .i64 5, .int .i64 1, .int .i64 (-1)] w3 fun e w' => e = .returned (.int .i64 0) ∧ FirstP w3 t B g2 _ 1 _ [] 97 5 w') := write_first t B g2 cap2 [{ docCel with kids := kv }, { elCel with parent := 0, ahead := 0 }] 1 { elCel with parent := 0, ahead := 0 } 97 5 w3 hT3 rfl (.inr rfl) rfl (by decide) (by simp)
  clear H3 hT3 hk3 HB2 hO3
  go_wp2_with fail
  refine Calls.mono H4.out ?_
  rintro e w4 ⟨rfl, ⟨g4, cap4, kv4, u4, hT4, hO4, hM4, hg4⟩, hk4⟩
  have hgB4 := hT4.gB
  have HB4 : Hid (Below B w w4) := HB3.out.trans (hk4.toBelow (by have := HB3.out.size; omega) (fun k e => by
    rcases e with e | e | e
    · omega
    · omega
    · cases e))
  have H5 : Hid (Calls Try.prog 23 #[.pointer (some ⟨t, 0, none⟩), .int .i64 98, .int .i64 6, .int .i64 1, .int .i64 (-1)] w4 fun e w' => e = .returned (.int .i64 0) ∧ GrewP w4 t B g4 cap4 _ 2 _ _ _ 98 w') := write_more t B g4 cap4 [{ docCel with kids := kv }, { elCel with parent := 0, ahead := 0, kids := kv4 }, txtCel 5 1 0 u4] 1 2 { elCel with parent := 0, ahead := 0, kids := kv4 } (txtCel 5 1 0 u4) [] 1 (Lib.runeCells 97) 98 6 w4 hT4 rfl rfl (.inr rfl) rfl (by decide) hO4 hM4 (by decide) (by decide)
  clear H4 hT4 hk4 HB3 hO4
  go_wp2_with fail
  refine Calls.mono H5.out ?_
  rintro e w5 ⟨rfl, ⟨u5, hT5, hM5⟩, hk5⟩
  have HB5 : Hid (Below B w w5) := HB4.out.trans (hk5.toBelow (by have := HB4.out.size; omega) (fun k e => by
    rcases e with e | e
    · omega
    · exact (owns_lt hM4 k e).1))
  have H6 : Hid (Calls Try.prog 17 #[.pointer (some ⟨t, 0, none⟩)] w5 fun e w' => e = .returned (.int .i64 3) ∧ w' = w5) := len_in t B g4 cap4 _ w5 hT5
  clear H5 hT5 hM5 hk5 HB4 hM4
  go_wp2_with fail
  refine Calls.mono H6.out ?_
  rintro e w6 ⟨rfl, hw6⟩
  subst hw6
  go_wp2
  go_ret
  exact ⟨rfl, by rw [hB]; exact HB5.out⟩
end Go.Proofs.Ytopecjchflknbaa
