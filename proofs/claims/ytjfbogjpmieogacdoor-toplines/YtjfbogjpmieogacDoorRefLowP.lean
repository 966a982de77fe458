/-
  The reference's Small and blank.
-/
import Derived.Test.YtjfbogjpmieogacDoorLow
import Derived.Laws.BytesArg
namespace Go.Proofs.YtjfbogjpmieogacDoor.Sn
open Go.RowKit

def cellsOf (l : List UInt8) : List Value := l.map fun c => Value.int .u8 (c.toNat : Int)

theorem own_block_ge {w : World} {base : Nat} {e : TypeId} {size : Nat} {v : Value} {n : Nat} {xs : List Value} (h : w.ownsRow base e size v n xs) : ∀ k, v.ownBlock = some k → base ≤ k := by
  intro k hk
  rcases h.2 with ⟨rfl, _⟩ | ⟨g, cap, cur, rfl, hg, _⟩
  · cases hk
  · simp only [Value.ownBlock] at hk
    obtain rfl := Option.some.inj hk
    exact hg

theorem ownsRow_back {w : World} {base : Nat} {v : Value} {l : List UInt8} (h : w.ownsRow base 5 1 v l.length (cellsOf l)) : (convert 94 9 v).run Tryd.prog w = .ok (.string ⟨l.toArray⟩) w := by
  rcases h.2 with ⟨rfl, hn⟩ | ⟨g, cap, cur, rfl, hg, hh, hnc, hcm, hcs, htk⟩
  · have e : l = [] := List.length_eq_zero_iff.1 hn
    subst e
    exact run_convert_bytes_nil (P := Tryd.prog) w 94 5 Tryd.underlying94 Tryd.underlying5 0 0 9 Tryd.underlying9
  · refine run_convert_bytes_back w 94 9 5 ⟨g, 0, none⟩ cap l Tryd.underlying94 Tryd.underlying5 Tryd.underlying9 (fun j hj => ?_)
    have e : (⟨g, 0, none⟩ : Addr).add j = ⟨g, j, none⟩ := by simp [Addr.add]; exact fun x => x.symm
    rw [e]
    have hj2 : (cellsOf l)[j]? = some (.int .u8 (l[j].toNat : Int)) := by simp [cellsOf, hj]
    rw [← htk, List.getElem?_take] at hj2
    rw [if_pos (by omega)] at hj2
    simp [World.cell?, hh]
    simpa using hj2

theorem cellsOf_snoc (l : List UInt8) (c : UInt8) : cellsOf (l ++ [c]) = cellsOf l ++ [.int .u8 (c.toNat : Int)] := by simp [cellsOf]

theorem low_take_succ (l : List UInt8) (k : Nat) (h : k < l.length) : low (l.take (k + 1)) = low (l.take k) ++ [lowB l[k]] := by
  unfold low
  rw [List.take_succ_eq_append_getElem h, List.map_append]
  rfl

theorem Tryd.info5 : (Tryd.prog.info? 5).map (fun i => (i.zero, i.size, i.bytes)) = some (some (.int .u8 0), 1, 1) := by kernel_rfl

theorem own_step {w wr w1 : World} {v v' : Value} (l : List UInt8) (k : Nat) (h : k < l.length) (u : Int) (hu : u = ((lowB l[k]).toNat : Int)) (o : Obj) (hbel : Below w.heap.size w wr)
    (hown : wr.ownsRow w.heap.size 5 1 v k (cellsOf (low (l.take k))))
    (hown' : w1.ownsRow w.heap.size 5 1 v' (k + 1) (cellsOf (low (l.take k)) ++ [.int .u8 u])) (hgrow : (wr.alloc o).grownBy w1 v.ownBlock) :
    w1.ownsRow w.heap.size 5 1 v' (k + 1) (cellsOf (low (l.take (k + 1)))) ∧ Below w.heap.size w w1 := by
  refine ⟨?_, ?_⟩
  · rw [low_take_succ l k h, cellsOf_snoc, ← hu]
    exact hown'
  · have := hbel.size
    exact (hbel.alloc this o).grown hgrow (by simp; omega) (own_block_ge hown)

theorem byte_one (n : Int) : ∀ u ∈ [Value.int .u8 n], u.oneCell' = true := by
  intro u hu
  rw [List.mem_singleton.1 hu]
  rfl


def blankB (c : UInt8) : Bool := inSet [9, 10, 12, 13, 32] c

end Go.Proofs.YtjfbogjpmieogacDoor.Sn
