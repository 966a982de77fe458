/-
  strings.Builder at this program (its copyCheck bears no text here, so the library's layings do not fit): a text more, and what is kept.
-/
import Derived.Test.YtjbfgiicaaljjaaTfEach
import Derived.Test.YtjbfgiicaaljjaaShelf
import Derived.Lib.Builder
import Derived.Lib.AppendStr
import Derived.Below
import Derived.Carry
import Derived.OwnWalk
import Derived.WalkKit
import Derived.WalkSpells
import Derived.WalkLawsBesides
import Derived.Laws.Externs
import Derived.Deep.RegionLaw
import Derived.Deep.DeepCutAuto
import Derived.Deep.QuietTactic
import Derived.BigQuiet
import Derived.Lib.SmallJoins
namespace Go.Proofs.Ytjbfgiicaaljjaa
open Go.RowKit

theorem Try.bSize : (Try.prog.info? 90).map (·.size) = some 2 := by kernel_rfl
theorem Try.bLies : liesAt Try.prog Try.prog.depth 90 (2 / Try.prog.cellsOf 90) 0 90 1 = true := by kernel_rfl
theorem Try.byteInfo : (Try.prog.info? 5).map (fun i => (i.zero, i.size, i.bytes)) = some (some (.int .u8 0), 1, 1) := by kernel_rfl

set_option maxHeartbeats 1000000 in
set_option maxRecDepth 100000 in
theorem check_used (b : Nat) (w : World) (h0 : w.cell? ⟨b, 0, none⟩ = some (.pointer (some ⟨b, 0, none⟩))) :
    Calls Try.prog 78 #[.pointer (some ⟨b, 0, none⟩)] w fun e w' => e = .returned (.tuple #[]) ∧ w' = w := by
  obtain ⟨j, hj, _⟩ := Option.map_eq_some_iff.1 Try.bSize
  have hne := Lib.run_neq_ptr_same w ⟨b, 0, none⟩ Try.underlying87 hj
  go_enter Try.func78, Try.ntmps78
  go_wp2
  go_end0
  exact ⟨rfl, rfl⟩

set_option maxHeartbeats 1000000 in
set_option maxRecDepth 100000 in
theorem check_fresh (b : Nat) (w : World) (h0 : w.cell? ⟨b, 0, none⟩ = some (.pointer none)) (hs : w.shape? b = some (90, 2)) (hf : w.frozen? ⟨b, 0, none⟩ = false) :
    Calls Try.prog 78 #[.pointer (some ⟨b, 0, none⟩)] w fun e w' => e = .returned (.tuple #[]) ∧ w' = w.setCell ⟨b, 0, none⟩ (.pointer (some ⟨b, 0, none⟩)) := by
  obtain ⟨j, hj, hjs⟩ := Option.map_eq_some_iff.1 Try.bSize
  have k1 := Lib.run_to_unsafe w ⟨b, 0, none⟩ Try.underlying87 Try.underlying141 hj (by rw [hjs]; decide) hs (Nat.zero_lt_succ 1)
  have k2 := Lib.run_from_unsafe w ⟨b, 0, none⟩ Try.underlying141 Try.underlying87 hj hs Try.bLies
  have k3 : ∀ (x : Value) (w : World), (callFunc 96 #[x]).run Try.prog w = .ok (.value x) w := fun x w => by
    rw [run_callFunc_extern Try.func96 (by kernel_rfl) (by kernel_rfl) (by kernel_rfl) (e := Extern.AbiNoEscape.same) (by kernel_rfl), Lib.run_noEscape]
    rfl
  clear hjs hs
  go_enter Try.func78, Try.ntmps78
  go_wp2
  go_end0
  exact ⟨rfl, rfl⟩

section
variable {P : Program}
/-- A text's bytes behind a row: where the new row lies. -/
theorem run_append_text_lies (w : World) (base : Nat) (t u ty e : TypeId) (i : TypeInfo) (ht : P.underlying t = some (.slice e)) (hu : P.underlying u = some .string) (hi : P.info? e = some i) (hz : i.zero = some (.int .u8 0))
    (hsize : i.size = 1) (hby : i.bytes = 1) (v : Value) (n : Nat) (xs : List Value) (hown : w.ownsRow base e 1 v n xs) (s : ByteArray)
    (h63 : n + s.size ≤ maxLen) (hbytes : n + s.size ≤ 140737488355328) (hbase : base ≤ w.heap.size) :
    ∃ v' w', (Builtin.append_ #[t, u] ty #[v, .string s]).run P w = .ok v' w' ∧ w'.ownsRow base e 1 v' (n + s.size) (xs ++ Lib.strCells s) ∧ w.grownBy w' v.ownBlock ∧ (v'.ownBlock = v.ownBlock ∨ ∀ j, v'.ownBlock = some j → w.heap.size ≤ j) := by
  obtain ⟨v', w', hr, h1, h2, _⟩ := Lib.run_append_own_string (P := P) w base t u ty e i ht hu hi hz hsize hby v n xs hown s h63 hbytes hbase
  refine ⟨v', w', hr, h1, h2, ?_⟩
  have hxl : xs.length = n := by simpa using hown.1
  rcases hown.2 with ⟨rfl, rfl⟩ | ⟨g, cap, cur, rfl, hbg, hg, hnc, hcm, hcs, htake⟩
  · obtain ⟨v2, w2, hr2, h3, _, _⟩ := Lib.run_append_own_string (P := P) w w.heap.size t u ty e i ht hu hi hz hsize hby _ 0 [] (World.ownsRow_nil _ _ _ _) s h63 hbytes (Nat.le_refl _)
    rw [hr] at hr2
    injection hr2 with e1 e2
    subst e1 e2
    exact .inr fun j hj => (owns_lt h3 j hj).1
  · by_cases hroom : n + s.size ≤ cap
    · have hcs' : cur.size = cap := by simpa using hcs
      have hr2 := Lib.run_append_room_string (P := P) w t u ty e i ht hu hi hsize g n cap cur hg s hroom (by omega)
      rw [hr] at hr2
      injection hr2 with e1 e2
      rw [e1]
      exact .inl rfl
    · have holds : ∀ j u, xs[j]? = some u → w.cell? ((⟨g, 0, none⟩ : Addr).add j) = some u := hown.cells (g := g) rfl
      have hr2 := Lib.run_append_grow_string (P := P) w t u ty e i (.int .u8 0) ht hu hi hz ⟨g, 0, none⟩ n cap xs (by rw [hsize]; simpa using hxl) holds s (by omega) (by unfold maxLen at h63; omega) (by rw [hby]; exact growslice_fits (by omega) (by omega))
      rw [hr] at hr2
      injection hr2 with e1 e2
      rw [e1]
      exact .inr fun j hj => by
        simp only [Value.ownBlock, Option.some.injEq] at hj
        omega

theorem wpList_append_text_lies {w : World} {ops : Array Oper} {rest : List Oper} {o : Oper} {a : Act} {Q : Exit → Act → World → Prop} (hgd : o.guard = none) (sl x : Operand) (t u : TypeId)
    (ho : o.op = .call { callee := .builtin .append, args := #[sl, x], argTypes := #[t, u] })
    (base : Nat) (e : TypeId) (i : TypeInfo) (ht : P.underlying t = some (.slice e)) (hu : P.underlying u = some .string) (hi : P.info? e = some i) (hz : i.zero = some (.int .u8 0))
    (hsize : i.size = 1) (hby : i.bytes = 1)
    (v : Value) (n : Nat) (xs : List Value) (hs : a.eval sl = v) (hown : w.ownsRow base e 1 v n xs) (s : ByteArray) (hx : a.eval x = .string s)
    (h63 : n + s.size ≤ maxLen) (hbytes : n + s.size ≤ 140737488355328) (hbase : base ≤ w.heap.size)
    (h : ∀ v' w', w'.ownsRow base e 1 v' (n + s.size) (xs ++ Lib.strCells s) → w.grownBy w' v.ownBlock → (v'.ownBlock = v.ownBlock ∨ ∀ j, v'.ownBlock = some j → w.heap.size ≤ j) → wpList P ops Q rest (a.put o.dst v') w') : wpList P ops Q (o :: rest) a w := by
  refine wpList_plain hgd fun K hK => ?_
  obtain ⟨v', w', hr, h2, h3, h4⟩ := run_append_text_lies (P := P) w base t u o.type e i ht hu hi hz hsize hby v n xs hown s h63 hbytes hbase
  unfold Oper.wp execOp
  simp only [ho, resolve, invoke, builtin, Sem.run_bind, Sem.run_pure, Result.andThen_ok, List.map_toArray, List.map_cons, List.map_nil, hs, hx, hr]
  exact hK _ _ (h v' w' h2 h3 h4)
end

/-- The builder's block, and its row. -/
structure BldAt (B b : Nat) (p v : Value) (l : List Value) (w : World) : Prop where
  blk : w.heap[b]? = some (.cells #[p, v] 90 (0, 0))
  own : w.ownsRow B 5 1 v l.length l
  off : v.ownBlock ≠ some b
  fresh : p = .pointer none ∨ p = .pointer (some ⟨b, 0, none⟩)

theorem check_k (B b : Nat) (p v : Value) (l : List Value) (w : World) (h : BldAt B b p v l w) :
    Calls Try.prog 78 #[.pointer (some ⟨b, 0, none⟩)] w fun e w' => e = .returned (.tuple #[]) ∧ Hid (BldAt B b (.pointer (some ⟨b, 0, none⟩)) v l w' ∧ Kept (fun j => j = b) w w' ∧ w'.heap.size = w.heap.size) := by
  have hc : w.cell? ⟨b, 0, none⟩ = some p := by simp [World.cell?, h.blk]
  rcases h.fresh with rfl | rfl
  · refine (check_fresh b w hc (by simp [World.shape?, h.blk]) (by simp [World.frozen?, h.blk])).mono ?_
    rintro e w' ⟨rfl, rfl⟩
    have hk : Kept (fun j => j = b) w (w.setCell ⟨b, 0, none⟩ (.pointer (some ⟨b, 0, none⟩))) := Kept.store (out := fun j => j = b) (Kept.refl _ _) ⟨b, 0, none⟩ rfl _
    refine ⟨rfl, ⟨?_, ?_, h.off, .inr rfl⟩, hk, by simp [World.setCell]⟩
    · simp only [World.setCell, Array.getElem?_modify, h.blk]
      simp
    · exact owns_kept h.own hk (fun j e1 e2 => h.off (by rw [e1, e2]))
  · refine (check_used b w hc).mono ?_
    rintro e w' ⟨rfl, rfl⟩
    exact ⟨rfl, h, Kept.refl _ _, rfl⟩

set_option maxHeartbeats 1000000 in
set_option maxRecDepth 100000 in
theorem writeText_k (B b : Nat) (p v : Value) (l : List Value) (s : ByteArray) (w : World) (h : BldAt B b p v l w) (hB : B ≤ w.heap.size) (hn : l.length + s.size ≤ 140737488355328) :
    Calls Try.prog 42 #[.pointer (some ⟨b, 0, none⟩), .string s] w fun e w' => e = .returned (.tuple #[.int .i64 s.size, .nilIface]) ∧ Hid (∃ v', BldAt B b (.pointer (some ⟨b, 0, none⟩)) v' (l ++ Lib.strCells s) w' ∧ Kept (fun j => j = b ∨ v.ownBlock = some j) w w' ∧ ∀ j, v'.ownBlock = some j → v.ownBlock = some j ∨ w.heap.size ≤ j) := by
  obtain ⟨i0, hi, hz0, hz1, hz2⟩ := info_parts Try.byteInfo
  have HC : Hid _ := check_k B b p v l w h
  have hu9 := Try.underlying9
  have hblt := (Array.getElem?_eq_some_iff.1 h.blk).1
  clear h
  go_enter Try.func42, Try.ntmps42
  go_wp2_with fail
  refine Calls.mono HC.out ?_
  rintro e w1 ⟨rfl, h1⟩
  have c1 : w1.cell? ⟨b, 1, none⟩ = some v := by simp [World.cell?, h1.out.1.blk]
  have hox := h1.out.1.own
  have H1 : Hid _ := h1
  have hs1 : w1.heap.size = w.heap.size := h1.out.2.2
  clear h1 HC
  go_wp2_with (at_builtin; refine wpList_append_text_lies rfl _ _ 88 9 rfl B 5 i0 Try.underlying88 hu9 hi hz0 hz1 hz2 _ _ _ rfl hox s rfl ?c3 ?c4 ?c5 ?_)
  case c3 => unfold maxLen; omega
  case c4 => omega
  case c5 => omega
  intro v' w2 hown hgrow hat
  have hb2 : w2.heap[b]? = some (.cells #[.pointer (some ⟨b, 0, none⟩), v] 90 (0, 0)) := (hgrow.block b (by omega) (fun e => H1.out.1.off e.symm)).trans H1.out.1.blk
  have d1 : w2.cell? ⟨b, 1, none⟩ = some v := by simp [World.cell?, hb2]
  have f1 : w2.frozen? ⟨b, 1, none⟩ = false := by simp [World.frozen?, hb2]
  have hv'b : v'.ownBlock ≠ some b := by
    intro e
    rcases hat with e2 | e2
    · rw [e2] at e
      exact H1.out.1.off e
    · have := e2 b e
      omega
  have hl : l.length + s.size = (l ++ Lib.strCells s).length := by rw [List.length_append, Lib.strCells_length]
  obtain ⟨⟨ao, cap, rfl⟩, HP⟩ : (∃ ao cap, v' = .slice ao (l.length + s.size) cap) ∧ Hid (∃ v'', BldAt B b (.pointer (some ⟨b, 0, none⟩)) v'' (l ++ Lib.strCells s) (w2.setCell ⟨b, 1, none⟩ v') ∧ Kept (fun j => j = b ∨ v.ownBlock = some j) w (w2.setCell ⟨b, 1, none⟩ v') ∧ ∀ j, v''.ownBlock = some j → v.ownBlock = some j ∨ w.heap.size ≤ j) := by
    refine ⟨?_, v', ⟨?_, ?_, hv'b, .inr rfl⟩, ?_, ?_⟩
    · rcases hown.2 with ⟨hv, h0⟩ | ⟨g, cap, cur, hv, _⟩
      · exact ⟨none, 0, by rw [hv, h0]⟩
      · exact ⟨_, _, hv⟩
    · simp only [World.setCell, Array.getElem?_modify, hb2]
      simp
    · rw [← hl]
      exact owns_kept (out := fun j => j = b) hown (Kept.store (out := fun j => j = b) (Kept.refl _ _) ⟨b, 1, none⟩ rfl _) (fun j e1 e2 => hv'b (by rw [e1, e2]))
    · have k1 : Kept (fun j => j = b ∨ v.ownBlock = some j) w w1 := H1.out.2.1.mono (fun _ _ e => .inl e)
      have k2 : Kept (fun j => j = b ∨ v.ownBlock = some j) w1 w2 := Kept.grown hgrow (fun j e => .inr e)
      exact (k1.trans k2).store ⟨b, 1, none⟩ (.inl rfl) _
    · intro j e
      rcases hat with e2 | e2
      · exact .inl (by rw [← e2]; exact e)
      · exact .inr (by have := e2 j e; omega)
  clear hown hgrow hat hb2 hv'b H1 c1 hox hl
  go_wp2
  go_ret2
  exact ⟨rfl, HP⟩
end Go.Proofs.Ytjbfgiicaaljjaa
