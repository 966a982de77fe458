/-
  slices.DeleteFunc of what was met: each word once.
-/
import Derived.Test.YtjbfgiicaaljjaaQwSet
namespace Go.Proofs.Ytjbfgiicaaljjaa
open Go.RowKit Go.Maps

theorem take_snoc {α : Type} (ws : List α) (k : Nat) (x : α) (h : ws[k]? = some x) : ws.take (k + 1) = ws.take k ++ [x] := by
  rw [List.take_add_one, h]; rfl
theorem rev_has (ws : List (List UInt8)) (x : List UInt8) : ws.reverse.contains x = ws.contains x := by
  simp only [List.contains_eq_mem, List.mem_reverse]

/-- While none was met twice. -/
structure IdxAt (w : World) (ws : List (List UInt8)) (sb m k : Nat) (wr : World) : Prop where
  seen : SeenAt wr sb m k (ws.take k).reverse
  kept : Kept (fun b => b = m) w wr
  once : once (ws.take k) = ws.take k

/-- The place of the first that was met, or none. -/
structure IdxP (w : World) (ws : List (List UInt8)) (sb m : Nat) (r : Int) (w' : World) : Prop where
  kept : Kept (fun b => b = m) w w'
  or : (r = -1 ∧ once ws = ws) ∨ ∃ i : Nat, r = (i : Int) ∧ i < ws.length ∧ once (ws.take (i + 1)) = ws.take i ∧ SeenAt w' sb m (i + 1) (ws.take (i + 1)).reverse

theorem IdxAt.next {w wr w' : World} {ws : List (List UInt8)} {sb m k : Nat} {x : List UInt8} (h : IdxAt w ws sb m k wr) (hx : ws[k]? = some x) (h1 : SeenAt w' sb m (k + 1) (x :: (ws.take k).reverse) ∧ Kept (fun b => b = m) wr w') :
    ((ws.take k).contains x = false → IdxAt w ws sb m (k + 1) w') ∧ ((ws.take k).contains x = true → IdxP w ws sb m (k : Int) w') := by
  have hlt := (List.getElem?_eq_some_iff.1 hx).1
  have ht := take_snoc ws k x hx
  have hs : SeenAt w' sb m (k + 1) (ws.take (k + 1)).reverse := by
    rw [ht, List.reverse_append]
    exact h1.1
  have ho := once_snoc (ws.take k) x
  rw [← ht, h.once] at ho
  refine ⟨fun e => ⟨hs, h.kept.trans h1.2, ?_⟩, fun e => ⟨h.kept.trans h1.2, .inr ⟨k, rfl, hlt, ?_, hs⟩⟩⟩
  · rw [ho, e, ht]; simp
  · rw [ho, e]; simp

set_option maxRecDepth 100000 in
set_option maxHeartbeats 4000000 in
theorem idx_any (B A n sb m : Nat) (ws : List (List UInt8)) (w : World) (hn : n = ws.length) (hO : w.ownsRow B 9 1 (.slice (some ⟨A, 0, none⟩) n n) n (ws.map strV)) (hS : SeenAt w sb m 0 []) (hl : ∀ x ∈ ws, x.length ≤ 10000) (hfew : n ≤ 10000) :
    Calls Try.prog 93 #[.slice (some ⟨A, 0, none⟩) n n, .func (.func 73) #[] #[.pointer (some ⟨sb, 0, none⟩)]] w fun e w' => ∃ r, e = .returned (.int .i64 r) ∧ Hid (IdxP w ws sb m r w') := by
  have HO : Hid _ := hO
  have hoff : A ≠ m := fun e => hS.off hO (by rw [e]; rfl)
  have H0 : Hid (IdxAt w ws sb m 0 w) := ⟨by simpa using hS, Kept.refl _ _, by simp [once, onceA]⟩
  have HL : Hid _ := hl
  have HN : Hid _ := hn
  have heg := enters_seen
  clear hO hS hl hn
  go_enter Try.func93, Try.ntmps93
  go_wp2
  go_loopw [8] (fun i wr => ∃ k : Nat, k ≤ n ∧ i = .int .i64 k ∧ Hid (IdxAt w ws sb m k wr)) (fun i _ => n - (intOf i).toNat)
  case atStart => exact ⟨0, Nat.zero_le _, rfl, H0⟩
  case round =>
    clear H0
    obtain ⟨k, hk, rfl, hI⟩ := hrel
    by_cases hlt : k < n
    · have hq : ws[k]? = some (ws[k]'(by rw [← HN.out]; exact hlt)) := List.getElem?_eq_getElem _
      generalize ws[k]'(by rw [← HN.out]; exact hlt) = x at hq
      have hx : x.length ≤ 10000 := HL.out x (List.mem_of_getElem? hq)
      have hkI : (k : Int) < (n : Int) := by omega
      have hc : wr.cell? ⟨A, k, none⟩ = some (strV x) := owns_at (owns_kept HO.out hI.out.kept (fun b e e2 => by simp only [Value.ownBlock, Option.some.injEq] at e; omega)) k _ (by rw [List.getElem?_map, hq]; rfl)
      have HC : Hid _ := seen_any sb m k (ws.take k).reverse x wr hI.out.seen (by omega) (by omega)
      have HT : Hid (∀ w', _ → _) := fun w' h1 => IdxAt.next (w' := w') hI.out hq h1
      rw [rev_has] at HC
      generalize (ws.take k).contains x = b at *
      clear hI hq hx
      go_wp2_with fail
      refine Calls.mono HC.out ?_
      rintro e w1 ⟨rfl, h1⟩
      obtain ⟨t0, t1⟩ := HT.out w1 h1.out
      cases b with
      | true =>
        have HF : Hid _ := t1 rfl
        clear t0 t1 HT HC h1
        go_wp2
        go_ret
        exact ⟨_, rfl, HF⟩
      | false =>
        have HF : Hid _ := t0 rfl
        clear t0 t1 HT HC h1
        go_wp2
        go_roundw
        case rel => exact ⟨k + 1, by omega, by go_num, HF⟩
        case measure => simp only [intOf]; go_num
    · obtain rfl : k = n := by omega
      go_wp2
      go_ret
      refine ⟨-1, rfl, hI.out.kept, .inl ⟨rfl, ?_⟩⟩
      have := hI.out.once
      rw [HN.out, List.take_length] at this
      exact this
end Go.Proofs.Ytjbfgiicaaljjaa
