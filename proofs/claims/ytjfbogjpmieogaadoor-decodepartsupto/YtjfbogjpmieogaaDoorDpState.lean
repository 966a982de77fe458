/-
  How the decoder, its lines and three rows stand while parts are fed.
-/
import Derived.Test.YtjfbogjpmieogaaDoorDpParts
import Derived.Test.YtjfbogjpmieogaaDoorBackPlain
import Derived.Maps.AppendAt
namespace Go.Proofs.YtjfbogjpmieogaaDoor
open Go.RowKit

/-- A row behind another one, and where the new one lies. -/
theorem wpList_append_at {P : Program} {w : World} {ops : Array Oper} {rest : List Oper} {o : Oper} {a : Act} {Q : Exit → Act → World → Prop} (hgd : o.guard = none) (s x : Operand) (t : TypeId)
    (ho : o.op = .call { callee := .builtin .append, args := #[s, x], argTypes := #[t, t] })
    (base : Nat) (e : TypeId) (i : TypeInfo) (z : Value) (size bytes : Nat) (ht : P.underlying t = some (.slice e)) (hi : P.info? e = some i) (hz : i.zero = some z)
    (hsize : i.size = size) (hby : i.bytes = bytes) (hzs : z.cells.size = size) (hsz : 0 < size)
    (v : Value) (n : Nat) (xs : List Value) (hs : a.eval s = v) (hown : w.ownsRow base e size v n xs)
    (base' : Nat) (v2 : Value) (m : Nat) (ys : List Value) (hx : a.eval x = v2) (hown2 : w.ownsRow base' e size v2 m ys) (h1 : ∀ u ∈ ys, u.oneCell' = true)
    (h63 : n + m ≤ maxLen) (hbytes : (n + m) * bytes ≤ 140737488355328) (hbase : base ≤ w.heap.size)
    (h : ∀ v' w', w'.ownsRow base e size v' (n + m) (xs ++ ys) → w.grownBy w' v.ownBlock → (v'.ownBlock = v.ownBlock ∨ v'.ownBlock = some w.heap.size) → wpList P ops Q rest (a.put o.dst v') w') : wpList P ops Q (o :: rest) a w := by
  rcases hown2.2 with ⟨hn, hm⟩ | ⟨g, cap, cur, hv, _⟩
  · subst hm
    have hys : ys = [] := List.length_eq_zero_iff.1 (by have := hown2.1; omega)
    subst hys
    refine wpList_append_own_none hgd s x t ho base e i size ht hi v n xs hs hown (hx.trans hn) ?_
    exact h v w (by simpa using hown) (World.grownBy.refl _ _) (.inl rfl)
  · obtain ⟨v', w', hr, k1, k2, _, k4⟩ := run_append_own_at (P := P) w base t o.type e i z size bytes ht hi hz hsize hby hzs hsz v n xs hown ⟨g, 0, none⟩ m cap ys hown2.1 (fun j u hj => own_cells (hv ▸ hown2) j u hj) h1 h63 hbytes hbase
    refine wpList_plain hgd fun K hK => ?_
    unfold Oper.wp execOp
    simp only [ho, resolve, invoke, builtin, Sem.run_bind, Sem.run_pure, Result.andThen_ok, List.map_toArray, List.map_cons, List.map_nil, hs, hx, hv, hr]
    exact hK _ _ (h v' w' k1 k2 k4)

theorem own_kept {w w' : World} {base : Nat} {e : TypeId} {size : Nat} {v : Value} {n : Nat} {xs : List Value} {row : Option Nat} (h : w.ownsRow base e size v n xs) (hg : w.grownBy w' row) (hr : v.ownBlock = none ∨ row ≠ v.ownBlock) : w'.ownsRow base e size v n xs := h.kept hg (by rcases hr with hr | hr; exact .inl hr; exact .inr (fun e => hr e.symm))

/-- Nothing below B has turned but two blocks. -/
structure But2 (d l B : Nat) (w w' : World) : Prop where
  os : w'.os = w.os
  tape : w'.tape = w.tape
  output : w'.output = w.output
  size : w.heap.size ≤ w'.heap.size
  block : ∀ k, k < B → k ≠ d → k ≠ l → w'.heap[k]? = w.heap[k]?

theorem But2.trans {d l B : Nat} {a b c : World} (h : But2 d l B a b) (k : But2 d l B b c) : But2 d l B a c :=
  ⟨k.os.trans h.os, k.tape.trans h.tape, k.output.trans h.output, Nat.le_trans h.size k.size, fun i h1 h2 h3 => (k.block i h1 h2 h3).trans (h.block i h1 h2 h3)⟩
theorem But2.refl (d l B : Nat) (w : World) : But2 d l B w w := ⟨rfl, rfl, rfl, Nat.le_refl _, fun _ _ _ _ => rfl⟩
theorem But2.ofD {d l B : Nat} {w w' : World} (h : But d B w w') : But2 d l B w w' := ⟨h.os, h.tape, h.output, h.size, fun k h1 h2 _ => h.block k h1 h2⟩
theorem But2.ofL {d l B : Nat} {w w' : World} (h : But l B w w') : But2 d l B w w' := ⟨h.os, h.tape, h.output, h.size, fun k h1 _ h3 => h.block k h1 h3⟩
theorem But2.ofB {d l B : Nat} {w w' : World} (h : Below B w w') : But2 d l B w w' := ⟨h.os, h.tape, h.output, h.size, fun k h1 _ _ => h.block k h1⟩

structure DpAt (B d l : Nat) (w0 w : World) (D : DSt) (b : Bool) (vo vp vb : Value) (os ps : List (Int × Int)) (ws : List Int) : Prop where
  oo : w.ownsRow B 26 2 vo os.length (os.flatMap runeC)
  op : w.ownsRow B 26 2 vp ps.length (ps.flatMap runeC)
  ob : w.ownsRow B 56 3 vb ws.length (ws.flatMap diagC)
  ap : vo.ownBlock = none ∨ vp.ownBlock ≠ vo.ownBlock
  dec : DecAt w d D
  lc : w.cell? ⟨l, 0, none⟩ = some (.bool b)
  lf : w.frozen? ⟨l, 0, none⟩ = false
  le : B ≤ w.heap.size
  dB : d < B
  lB : l < B
  dl : d ≠ l
  kp : But2 d l B w0 w

variable {B d l : Nat} {w0 w w' : World} {D D' : DSt} {b : Bool} {vo vp vb : Value} {os ps : List (Int × Int)} {ws : List Int}

theorem cell_but {w w' : World} {e C : Nat} (h : But e C w w') {k o : Nat} (hk : k < C) (hn : k ≠ e) : w'.cell? ⟨k, o, none⟩ = w.cell? ⟨k, o, none⟩ ∧ w'.frozen? ⟨k, o, none⟩ = w.frozen? ⟨k, o, none⟩ := by
  have := h.block k hk hn
  simp [World.cell?, World.frozen?, this]

theorem dec_of {w w' : World} {d : Nat} {D : DSt} (h : DecAt w d D) (hb : w'.heap[d]? = w.heap[d]?) : DecAt w' d D := by
  have key : ∀ o, w'.cell? ⟨d, o, none⟩ = w.cell? ⟨d, o, none⟩ ∧ w'.frozen? ⟨d, o, none⟩ = w.frozen? ⟨d, o, none⟩ := fun o => by simp [World.cell?, World.frozen?, hb]
  exact ⟨(key 0).1.trans h.c0, (key 1).1.trans h.c1, (key 2).1.trans h.c2, (key 3).1.trans h.c3, (key 4).1.trans h.c4, (key 5).1.trans h.c5, (key 6).1.trans h.c6, fun j => (key j).2.trans (h.f j)⟩

theorem DpAt.rows_but (h : DpAt B d l w0 w D b vo vp vb os ps ws) {e : Nat} (hb : But e w.heap.size w w') (he : e < B) : w'.ownsRow B 26 2 vo os.length (os.flatMap runeC) ∧ w'.ownsRow B 26 2 vp ps.length (ps.flatMap runeC) ∧ w'.ownsRow B 56 3 vb ws.length (ws.flatMap diagC) :=
  ⟨own_but2 h.oo hb (fun g hg => by have := own_lt2 h.oo g hg; omega), own_but2 h.op hb (fun g hg => by have := own_lt2 h.op g hg; omega), own_but2 h.ob hb (fun g hg => by have := own_lt2 h.ob g hg; omega)⟩

/-- A call of the decoder. -/
theorem DpAt.fed (h : DpAt B d l w0 w D b vo vp vb os ps ws) {vr vw : Value} {rs : List (Int × Int)} {us : List Int} (hG : Gave w w' d D' vr vw rs us) : DpAt B d l w0 w' D' b vo vp vb os ps ws := by
  obtain ⟨_, _, hD, hb⟩ := hG
  obtain ⟨r1, r2, r3⟩ := h.rows_but hb h.dB
  have hl := cell_but hb (k := l) (o := 0) (Nat.lt_of_lt_of_le h.lB h.le) (fun e => h.dl e.symm)
  exact ⟨r1, r2, r3, h.ap, hD, hl.1.trans h.lc, hl.2.trans h.lf, Nat.le_trans h.le hb.size, h.dB, h.lB, h.dl, h.kp.trans (But2.ofD (hb.mono h.le))⟩

/-- A call of the lines. -/
theorem DpAt.passed (h : DpAt B d l w0 w D b vo vp vb os ps ws) {b' : Bool} {vq : Value} {qs : List (Int × Int)} (hP : Passed w w' l b' vq qs) : DpAt B d l w0 w' D b' vo vp vb os ps ws := by
  obtain ⟨r1, r2, r3⟩ := h.rows_but hP.but h.lB
  exact ⟨r1, r2, r3, h.ap, dec_of h.dec (hP.but.block d (Nat.lt_of_lt_of_le h.dB h.le) h.dl), hP.c, hP.f, Nat.le_trans h.le hP.but.size, h.dB, h.lB, h.dl, h.kp.trans (But2.ofL (hP.but.mono h.le))⟩

/-- What a row that grows leaves of the rest. -/
theorem DpAt.frame (h : DpAt B d l w0 w D b vo vp vb os ps ws) {row : Option Nat} (hg : w.grownBy w' row) (hr : ∀ k, row = some k → B ≤ k) : DecAt w' d D ∧ w'.cell? ⟨l, 0, none⟩ = some (.bool b) ∧ w'.frozen? ⟨l, 0, none⟩ = false ∧ B ≤ w'.heap.size ∧ But2 d l B w0 w' := by
  have hB : Below B w w' := (Below.refl B w).grown hg h.le hr
  exact ⟨dec_of h.dec (hB.block d h.dB), (hB.cell (p := ⟨l, 0, none⟩) h.lB).trans h.lc, (hB.frozen (p := ⟨l, 0, none⟩) h.lB).trans h.lf, Nat.le_trans h.le hB.size, h.kp.trans (But2.ofB hB)⟩

theorem DpAt.out (h : DpAt B d l w0 w D b vo vp vb os ps ws) {v' : Value} {rs : List (Int × Int)} (ho : w'.ownsRow B 26 2 v' (os ++ rs).length ((os ++ rs).flatMap runeC)) (hg : w.grownBy w' vo.ownBlock) (hw : v'.ownBlock = vo.ownBlock ∨ v'.ownBlock = some w.heap.size) : DpAt B d l w0 w' D b v' vp vb (os ++ rs) ps ws := by
  obtain ⟨f1, f2, f3, f4, f5⟩ := h.frame hg (own_block_ge h.oo)
  refine ⟨ho, ?_, ?_, ?_, f1, f2, f3, f4, h.dB, h.lB, h.dl, f5⟩
  · refine own_kept h.op hg ?_
    rcases h.ap with e | e
    · rw [e]
      cases hv : vp.ownBlock with
      | none => exact .inl rfl
      | some k => exact .inr (by simp)
    · exact .inr (fun x => e x.symm)
  · refine own_kept h.ob hg ?_
    rcases own_apart h.ob h.oo (by decide) with e | e
    · exact .inl e
    · exact .inr (fun x => e x.symm)
  · rcases hw with e | e
    · rw [e]; exact h.ap
    · right
      rw [e]
      intro x
      have := (own_lt2 h.op _ x).2
      omega

theorem DpAt.bad (h : DpAt B d l w0 w D b vo vp vb os ps ws) {v' : Value} {us : List Int} (ho : w'.ownsRow B 56 3 v' (ws ++ us).length ((ws ++ us).flatMap diagC)) (hg : w.grownBy w' vb.ownBlock) : DpAt B d l w0 w' D b vo vp v' os ps (ws ++ us) := by
  obtain ⟨f1, f2, f3, f4, f5⟩ := h.frame hg (own_block_ge h.ob)
  refine ⟨own_kept h.oo hg ?_, own_kept h.op hg ?_, ho, h.ap, f1, f2, f3, f4, h.dB, h.lB, h.dl, f5⟩
  · rcases own_apart h.oo h.ob (by decide) with e | e
    · exact .inl e
    · exact .inr (fun x => e x.symm)
  · rcases own_apart h.op h.ob (by decide) with e | e
    · exact .inl e
    · exact .inr (fun x => e x.symm)

theorem DpAt.pas (h : DpAt B d l w0 w D b vo vp vb os ps ws) {v' : Value} {rs : List (Int × Int)} (ho : w'.ownsRow B 26 2 v' (ps ++ rs).length ((ps ++ rs).flatMap runeC)) (hg : w.grownBy w' vp.ownBlock) (hw : v'.ownBlock = vp.ownBlock ∨ v'.ownBlock = some w.heap.size) : DpAt B d l w0 w' D b vo v' vb os (ps ++ rs) ws := by
  obtain ⟨f1, f2, f3, f4, f5⟩ := h.frame hg (own_block_ge h.op)
  refine ⟨?_, ho, ?_, ?_, f1, f2, f3, f4, h.dB, h.lB, h.dl, f5⟩
  · refine own_kept h.oo hg ?_
    rcases h.ap with e | e
    · exact .inl e
    · exact .inr e
  · refine own_kept h.ob hg ?_
    rcases own_apart h.ob h.op (by decide) with e | e
    · exact .inl e
    · exact .inr (fun x => e x.symm)
  · rcases h.ap with e | e
    · exact .inl e
    · rcases hw with x | x
      · exact .inr (by rw [x]; exact e)
      · cases hv : vo.ownBlock with
        | none => exact .inl rfl
        | some k =>
          right
          rw [x]
          intro y
          have := (own_lt2 h.oo k hv).2
          injection y with y
          omega
end Go.Proofs.YtjfbogjpmieogaaDoor
