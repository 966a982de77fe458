/-
  The reference's Small and blank.
-/
import Derived.Test.YtddonipfpchabaaDoorLow
import Derived.Laws.BytesArg
namespace Go.Proofs.YtddonipfpchabaaDoor
open Go.RowKit

def cellsOf (l : List UInt8) : List Value := l.map fun c => Value.int .u8 (c.toNat : Int)

theorem own_block_ge {w : World} {base : Nat} {e : TypeId} {size : Nat} {v : Value} {n : Nat} {xs : List Value} (h : w.ownsRow base e size v n xs) : ∀ k, v.ownBlock = some k → base ≤ k := by
  intro k hk
  rcases h.2 with ⟨rfl, _⟩ | ⟨g, cap, cur, rfl, hg, _⟩
  · cases hk
  · simp only [Value.ownBlock] at hk
    obtain rfl := Option.some.inj hk
    exact hg

theorem ownsRow_back {w : World} {base : Nat} {v : Value} {l : List UInt8} (h : w.ownsRow base 5 1 v l.length (cellsOf l)) : (convert 46 9 v).run Tryd.prog w = .ok (.string ⟨l.toArray⟩) w := by
  rcases h.2 with ⟨rfl, hn⟩ | ⟨g, cap, cur, rfl, hg, hh, hnc, hcm, hcs, htk⟩
  · have e : l = [] := List.length_eq_zero_iff.1 hn
    subst e
    exact run_convert_bytes_nil (P := Tryd.prog) w 46 5 Tryd.underlying46 Tryd.underlying5 0 0 9 Tryd.underlying9
  · refine run_convert_bytes_back w 46 9 5 ⟨g, 0, none⟩ cap l Tryd.underlying46 Tryd.underlying5 Tryd.underlying9 (fun j hj => ?_)
    have e : (⟨g, 0, none⟩ : Addr).add j = ⟨g, j, none⟩ := by simp [Addr.add]; exact fun x => x.symm
    rw [e]
    have hj2 : (cellsOf l)[j]? = some (.int .u8 (l[j].toNat : Int)) := by simp [cellsOf, hj]
    rw [← htk, List.getElem?_take] at hj2
    rw [if_pos (by omega)] at hj2
    simp [World.cell?, hh]
    simpa using hj2

theorem cellsOf_snoc (l : List UInt8) (c : UInt8) : cellsOf (l ++ [c]) = cellsOf l ++ [.int .u8 (c.toNat : Int)] := by simp [cellsOf]

theorem low_take_succ (l : List UInt8) (k : Nat) (h : k < l.length) : low (l.take (k + 1)) = low (l.take k) ++ [lowB l[k]] := by
  unfold low
  rw [List.take_succ_eq_append_getElem h, List.map_append]
  rfl

theorem Tryd.info5 : (Tryd.prog.info? 5).map (fun i => (i.zero, i.size, i.bytes)) = some (some (.int .u8 0), 1, 1) := by kernel_rfl

theorem own_step {w wr w1 : World} {v v' : Value} (l : List UInt8) (k : Nat) (h : k < l.length) (u : Int) (hu : u = ((lowB l[k]).toNat : Int)) (o : Obj) (hbel : Below w.heap.size w wr)
    (hown : wr.ownsRow w.heap.size 5 1 v k (cellsOf (low (l.take k))))
    (hown' : w1.ownsRow w.heap.size 5 1 v' (k + 1) (cellsOf (low (l.take k)) ++ [.int .u8 u])) (hgrow : (wr.alloc o).grownBy w1 v.ownBlock) :
    w1.ownsRow w.heap.size 5 1 v' (k + 1) (cellsOf (low (l.take (k + 1)))) ∧ Below w.heap.size w w1 := by
  refine ⟨?_, ?_⟩
  · rw [low_take_succ l k h, cellsOf_snoc, ← hu]
    exact hown'
  · have := hbel.size
    exact (hbel.alloc this o).grown hgrow (by simp; omega) (own_block_ge hown)

theorem byte_one (n : Int) : ∀ u ∈ [Value.int .u8 n], u.oneCell' = true := by
  intro u hu
  rw [List.mem_singleton.1 hu]
  rfl

set_option maxHeartbeats 400000 in
theorem refSmall_any (s : ByteArray) (w : World) (hs : s.size ≤ 140737488351232) :
    Calls Tryd.prog 18 #[.string s] w fun e w' => e = .returned (.string (lowS s)) ∧ Below w.heap.size w w' := by
  obtain ⟨i0, hi, hz0, hz1, hz2⟩ := info_parts Tryd.info5
  go_enter Tryd.func18, Tryd.ntmps18
  go_wp2
  go_loopw [3, 4] (fun v i wr => ∃ k : Nat, k ≤ s.size ∧ i = .int .i64 k ∧ wr.ownsRow w.heap.size 5 1 v k (cellsOf (low (s.data.toList.take k))) ∧ Below w.heap.size w wr) (fun _ i _ => s.size - (intOf i).toNat)
  case atStart => exact ⟨0, Nat.zero_le _, rfl, World.ownsRow_nil _ _ _ _, Below.refl _ _⟩
  case round =>
    obtain ⟨k, hk, rfl, hown, hbel⟩ := hrel
    have hbs := hbel.size
    by_cases hlt : k < s.size
    · have hlt' : k < s.data.toList.length := by simpa using hlt
      by_cases h1 : (64 : Int) < (s[k].toNat : Int)
      · by_cases h2 : (s[k].toNat : Int) < 91
        · skip
          have HC : Hid ((s[k].toNat : Int) + 32 = ((lowB s.data.toList[k]).toNat : Int)) := by have h := lowB_yes s[k] (by omega) (by omega); show _ = ((lowB s[k]).toNat : Int); omega
          go_wp2_with (first
            | (at_builtin; refine wpList_append_own _ rfl _ _ 46 rfl w.heap.size 5 i0 (.int .u8 0) 1 1 Tryd.underlying46 hi hz0 hz1 hz2 rfl (by decide) _ _ _ rfl (hown.alloc _) ⟨wr.heap.size, 0, none⟩ 1 1 [.int .u8 ((s[k].toNat : Int) + 32)] rfl rfl (cell_one_new _ _ _) (byte_one _) (by unfold maxLen; omega) (by omega) (by simp; omega) ?_)
            | go_in)
          intro v' w1 hown' hgrow _
          have R := own_step s.data.toList k hlt' _ HC.out _ hbel hown hown' hgrow
          clear hown' hgrow hown
          go_wp2
          go_roundw
          case rel => exact ⟨k + 1, by omega, by go_num, R.1, R.2⟩
          case measure => simp [intOf]; omega
        · skip
          have HC : Hid ((s[k].toNat : Int) = ((lowB s.data.toList[k]).toNat : Int)) := by have h := lowB_no s[k] (Or.inr (by omega)); show _ = ((lowB s[k]).toNat : Int); rw [h]
          go_wp2_with (first
            | (at_builtin; refine wpList_append_own _ rfl _ _ 46 rfl w.heap.size 5 i0 (.int .u8 0) 1 1 Tryd.underlying46 hi hz0 hz1 hz2 rfl (by decide) _ _ _ rfl (hown.alloc _) ⟨wr.heap.size, 0, none⟩ 1 1 [.int .u8 ((s[k].toNat : Int))] rfl rfl (cell_one_new _ _ _) (byte_one _) (by unfold maxLen; omega) (by omega) (by simp; omega) ?_)
            | go_in)
          intro v' w1 hown' hgrow _
          have R := own_step s.data.toList k hlt' _ HC.out _ hbel hown hown' hgrow
          clear hown' hgrow hown
          go_wp2
          go_roundw
          case rel => exact ⟨k + 1, by omega, by go_num, R.1, R.2⟩
          case measure => simp [intOf]; omega
      · skip
        have HC : Hid ((s[k].toNat : Int) = ((lowB s.data.toList[k]).toNat : Int)) := by have h := lowB_no s[k] (Or.inl (by omega)); show _ = ((lowB s[k]).toNat : Int); rw [h]
        go_wp2_with (first
          | (at_builtin; refine wpList_append_own _ rfl _ _ 46 rfl w.heap.size 5 i0 (.int .u8 0) 1 1 Tryd.underlying46 hi hz0 hz1 hz2 rfl (by decide) _ _ _ rfl (hown.alloc _) ⟨wr.heap.size, 0, none⟩ 1 1 [.int .u8 ((s[k].toNat : Int))] rfl rfl (cell_one_new _ _ _) (byte_one _) (by unfold maxLen; omega) (by omega) (by simp; omega) ?_)
          | go_in)
        intro v' w1 hown' hgrow _
        have R := own_step s.data.toList k hlt' _ HC.out _ hbel hown hown' hgrow
        clear hown' hgrow hown
        go_wp2
        go_roundw
        case rel => exact ⟨k + 1, by omega, by go_num, R.1, R.2⟩
        case measure => simp [intOf]; omega
    · have hfin : k = s.size := by omega
      subst hfin
      have hb : (convert 46 9 u3).run Tryd.prog wr = .ok (.string (lowS s)) wr := by
        have e : (low (List.take s.size s.data.toList)) = low s.data.toList := by rw [List.take_of_length_le (by simp)]
        rw [e] at hown
        exact ownsRow_back (l := low s.data.toList) (by rw [low_length, show s.data.toList.length = s.size from by simp]; exact hown)
      clear hown
      go_wp2
      go_ret
      exact ⟨rfl, hbel⟩

def blankB (c : UInt8) : Bool := inSet [9, 10, 12, 13, 32] c

theorem blank_any (c : UInt8) (w : World) :
    Calls Tryd.prog 24 #[.int .u8 (c.toNat : Int)] w fun e w' => e = .returned (.bool (blankB c)) ∧ w' = w := by
  have hb : blankB c = ((((((c.toNat : Int) == 9) || ((c.toNat : Int) == 10)) || ((c.toNat : Int) == 12)) || ((c.toNat : Int) == 13)) || ((c.toNat : Int) == 32)) := by
    have key : ∀ n : Fin 256, blankB (UInt8.ofNat n.val) = (((((((UInt8.ofNat n.val).toNat : Int) == 9) || (((UInt8.ofNat n.val).toNat : Int) == 10)) || (((UInt8.ofNat n.val).toNat : Int) == 12)) || (((UInt8.ofNat n.val).toNat : Int) == 13)) || (((UInt8.ofNat n.val).toNat : Int) == 32)) := by decide +kernel
    have := key ⟨c.toNat, c.toNat_lt⟩
    simpa using this
  rw [hb]
  clear hb
  go_enter Tryd.func24, Tryd.ntmps24
  go_wp2
  all_goals go_ret
  all_goals exact ⟨by simp [*], rfl⟩
end Go.Proofs.YtddonipfpchabaaDoor
