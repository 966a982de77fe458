/-
  The last item that is looked for.
-/
import Derived.Test.YtalbiekleggkoaaStPush
namespace Go.Proofs.Ytalbiekleggkoaa
open Go.RowKit

/-- The place of the last of the first k that is looked for; -1: there is none. -/
def lastOf (p : Itm → Bool) (cs : List Itm) : Nat → Int
  | 0 => -1
  | k + 1 => match cs[k]? with
    | some c => if p c then (k : Int) else lastOf p cs k
    | none => lastOf p cs k
theorem lastOf_at {p : Itm → Bool} {cs : List Itm} {k : Nat} {c : Itm} (h : cs[k]? = some c) : lastOf p cs (k + 1) = if p c then (k : Int) else lastOf p cs k := by
  rw [lastOf, h]
theorem lastOf_lt (p : Itm → Bool) (cs : List Itm) : ∀ k, -1 ≤ lastOf p cs k ∧ lastOf p cs k < (k : Int) := by
  intro k
  induction k with
  | zero => simp [lastOf]
  | succ k ih =>
    rw [lastOf]
    split
    · split
      · omega
      · omega
    · omega

set_option maxRecDepth 100000 in
set_option maxHeartbeats 2000000 in
theorem last_none (f : Value) (w : World) : Calls Try.prog 45 #[.pointer none, f] w fun e w' => e = .returned (.int .i64 (-1)) ∧ w' = w := by
  go_enter Try.func45, Try.ntmps45
  go_wp2
  go_ret
  exact ⟨rfl, rfl⟩

set_option maxRecDepth 100000 in
set_option maxHeartbeats 4000000 in
theorem last_any (s B F : Nat) (cap : Array Value) (v : Value) (cs : List Itm) (p : Itm → Bool) (w : World) (h : StackAt w s B v cs) (hl : cs.length ≤ 1000000)
    (eg : ∀ args w, (callFunc F args).run Try.prog w = .ok (.enter F args) w)
    (hf : ∀ i, i ∈ cs → ∀ w', Below w.heap.size w w' → Calls Try.prog F (#[.agg #[.int .i64 i.node, .string i.name]] ++ cap) w' fun e w'' => e = .returned (.bool (p i)) ∧ Below w.heap.size w w'') :
    Calls Try.prog 45 #[.pointer (some ⟨s, 0, none⟩), .func (.func F) #[] cap] w fun e w' => e = .returned (.int .i64 (lastOf p cs cs.length)) ∧ Below w.heap.size w w' := by
  have HS : Hid _ := h
  have HF : Hid _ := hf
  have c0 := h.c0
  rcases h.form2 with ⟨rfl, rfl⟩ | ⟨g, cp, rfl, hcap⟩
  · clear h hf
    go_enter Try.func45, Try.ntmps45
    go_wp2
    go_loop [5] (fun i => i = .int .i64 (-1)) (fun _ => 0)
    case atStart => rfl
    case round =>
      subst hrel
      go_wp2
      go_ret
      exact ⟨rfl, Below.refl _ _⟩
  · clear h hf
    go_enter Try.func45, Try.ntmps45
    go_wp2
    go_loopw [5] (fun i wr => Below w.heap.size w wr ∧ ∃ k : Nat, k ≤ cs.length ∧ i = .int .i64 ((k : Int) - 1) ∧ lastOf p cs cs.length = lastOf p cs k) (fun i _ => (intOf i + 1).toNat)
    case atStart => exact ⟨Below.refl _ _, cs.length, Nat.le_refl _, rfl, rfl⟩
    case round =>
      obtain ⟨hb, k, hk, rfl, he⟩ := hrel
      have HB : Hid _ := hb
      have HE : Hid _ := he
      clear c0 hb he
      match k, hk, HE with
      | 0, _, HE =>
        rw [show (((0 : Nat) : Int) - 1) = -1 from rfl]
        have HR : Hid (lastOf p cs cs.length = -1) := HE.out
        clear HE HF HS
        go_wp2
        go_ret
        rw [HR.out]
        exact ⟨rfl, HB.out⟩
      | k + 1, hk, HE =>
        obtain ⟨c, hc⟩ : ∃ c, cs[k]? = some c := ⟨_, List.getElem?_eq_getElem (by omega)⟩
        have hS2 := HS.out.below HB.out
        have c0 := hS2.c0
        have a0 : wr.cell? ⟨g, k * 2 + 0, none⟩ = some (.int .i64 c.node) := hS2.at hc rfl
        have a1 : wr.cell? ⟨g, k * 2 + 1, none⟩ = some (.string c.name) := hS2.at hc rfl
        rw [Nat.add_zero] at a0
        have HC : Hid _ := HF.out c (List.mem_of_getElem? hc) wr HB.out
        have HL : Hid _ := lastOf_at (p := p) hc
        clear hS2 hc
        rw [show (((k + 1 : Nat) : Int) - 1) = (k : Int) from by omega]
        have hI : (k : Int) < (cs.length : Int) := by omega
        go_wp2_with fail
        refine Calls.mono HC.out ?_
        rintro e w2 ⟨rfl, hb2⟩
        have HB2 : Hid _ := hb2
        clear hb2 HB c0 a0 a1
        cases hp : p c
        · have HR : Hid (lastOf p cs cs.length = lastOf p cs k) := by
            rw [HE.out, HL.out, hp]
            rfl
          clear hp HC HL HE
          go_wp2
          go_roundw
          case rel => exact ⟨HB2.out, k, by omega, rfl, HR.out⟩
          case measure => simp [intOf]
        · have HR : Hid (lastOf p cs cs.length = (k : Int)) := by
            rw [HE.out, HL.out, hp]
            rfl
          clear hp HC HL HE
          go_wp2
          go_ret
          rw [HR.out]
          exact ⟨rfl, HB2.out⟩
end Go.Proofs.Ytalbiekleggkoaa
