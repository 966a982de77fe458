/-
  What is left of Next's loop, step by step.
-/
import Derived.Test.YtgdjknbbjpcoiaaGreatDoorLxNew
namespace Go.Proofs.YtgdjknbbjpcoiaaGreatDoor
open Go.RowKit

/-- k rounds of Next's loop are to come, then a token is told. -/
def Goes (l R : Nat) (Post : Tok → World → Prop) : Nat → List Value → World → Prop
  | 0, cs, w => LexAt w l cs ∧ cs[7]? = some .nilFunc ∧ Calls Tryz.prog 40 #[.pointer (some ⟨l, 0, none⟩)] w fun e w' => ∃ t, e = .returned (tokV t) ∧ ResAt w' R ∧ Hid (Post t w')
  | k + 1, cs, w => LexAt w l cs ∧ ∃ (F p n : Nat) (ad : Option Addr) (cap : Nat) (cl : Bool), cs[7]? = some (.func (.func F) #[] #[]) ∧ cs[0]? = some (.slice ad n cap) ∧ cs[1]? = some (.int .i64 (p : Int)) ∧ cs[2]? = some (.bool cl) ∧ (p < n ∨ (p = n ∧ cl = true)) ∧ (∀ (a : Value) (w : World), (callFunc F #[a]).run Tryz.prog w = .ok (.enter F #[a]) w) ∧
    ∀ q, Calls Tryz.prog F #[.pointer (some ⟨l, 0, none⟩)] (w.drewN q) fun e w' => ∃ f', e = .returned f' ∧ (f' = .nilFunc ∨ ∃ G, f' = .func (.func G) #[] #[]) ∧ (∃ x, w'.cell? ⟨l, 7, none⟩ = some x) ∧ w'.frozen? ⟨l, 7, none⟩ = false ∧ Hid (∃ cs', Goes l R Post k cs' (w'.setCell ⟨l, 7, none⟩ f'))

theorem goes_chain (l R : Nat) (Post : Tok → World → Prop) : Chain l R (Goes l R Post) Post := ⟨fun _ _ _ h => h, fun _ _ h => h⟩

theorem LexAt.some {w : World} {l : Nat} {cs : List Value} (h : LexAt w l cs) (j : Nat) (hj : j < 34) : ∃ x, cs[j]? = some x := ⟨cs[j]'(by rw [h.len]; exact hj), by simp [h.len, hj]⟩

theorem goes_but {l R : Nat} {Post : Tok → World → Prop} {k : Nat} {cs : List Value} {w : World} {n p cap : Nat} {ad : Option Addr} {cl : Bool} (F : Nat) (f' : Value) (cs1 : List Value) (hF : ∀ (a : Value) (w : World), (callFunc F #[a]).run Tryz.prog w = .ok (.enter F #[a]) w) (hf : f' = .nilFunc ∨ ∃ G, f' = .func (.func G) #[] #[])
    (hL : LexAt w l cs) (h7 : cs[7]? = some (.func (.func F) #[] #[])) (h0 : cs[0]? = some (.slice ad n cap)) (h1 : cs[1]? = some (.int .i64 (p : Int))) (h2 : cs[2]? = some (.bool cl)) (hpn : p < n ∨ (p = n ∧ cl = true))
    (hc : ∀ q, Calls Tryz.prog F #[.pointer (some ⟨l, 0, none⟩)] (w.drewN q) fun e w' => e = .returned f' ∧ LexAt w' l cs1 ∧ But l w.heap.size (w.drewN q) w')
    (hn : ∀ w', LexAt w' l (cs1.set 7 f') → But l w.heap.size w w' → ∃ cs', Goes l R Post k cs' w') : Goes l R Post (k + 1) cs w := by
  refine ⟨hL, F, p, n, ad, cap, cl, h7, h0, h1, h2, hpn, hF, fun q => Calls.mono (hc q) ?_⟩
  rintro e w' ⟨rfl, hL', hb⟩
  obtain ⟨x, hx⟩ := hL'.some 7 (by omega)
  exact ⟨f', rfl, hf, ⟨x, hL'.c 7 x hx⟩, hL'.fz 7, hn _ (hL'.set 7 (by omega) f') (((But.of (drewN_below (Below.refl _ _) q)).trans hb).store 7 f')⟩

theorem goes_mid {l R : Nat} {Post : Tok → World → Prop} {k : Nat} {cs : List Value} {w : World} {n p cap : Nat} {ad : Option Addr} {cl : Bool} (F : Nat) (f' : Value) (cs1 : Value → List Value) (hF : ∀ (a : Value) (w : World), (callFunc F #[a]).run Tryz.prog w = .ok (.enter F #[a]) w) (hf : f' = .nilFunc ∨ ∃ G, f' = .func (.func G) #[] #[])
    (hL : LexAt w l cs) (h7 : cs[7]? = some (.func (.func F) #[] #[])) (h0 : cs[0]? = some (.slice ad n cap)) (h1 : cs[1]? = some (.int .i64 (p : Int))) (h2 : cs[2]? = some (.bool cl)) (hpn : p < n ∨ (p = n ∧ cl = true)) {B m : Nat} {xs : List Value} {row : Option Nat} (hlB : l < B)
    (hc : ∀ q, Calls Tryz.prog F #[.pointer (some ⟨l, 0, none⟩)] (w.drewN q) fun e w' => e = .returned f' ∧ ∃ v', MidP (w.drewN q) l B (cs1 v') v' m xs row w')
    (hn : ∀ v' w', MidP w l B ((cs1 v').set 7 f') v' m xs row w' → ∃ cs', Goes l R Post k cs' w') : Goes l R Post (k + 1) cs w := by
  refine ⟨hL, F, p, n, ad, cap, cl, h7, h0, h1, h2, hpn, hF, fun q => Calls.mono (hc q) ?_⟩
  rintro e w' ⟨rfl, v', hM⟩
  obtain ⟨x, hx⟩ := hM.lex.some 7 (by omega)
  exact ⟨f', rfl, hf, ⟨x, hM.lex.c 7 x hx⟩, hM.lex.fz 7, hn v' _ ((hM.draws ⟨q, rfl⟩).store hlB 7 (by omega) f')⟩

theorem goes_any {l R : Nat} {Post : Tok → World → Prop} {k : Nat} {cs : List Value} {w : World} {n p cap : Nat} {ad : Option Addr} {cl : Bool} (F : Nat) (f' : Value) (Q : List Value → World → Prop) (hF : ∀ (a : Value) (w : World), (callFunc F #[a]).run Tryz.prog w = .ok (.enter F #[a]) w) (hf : f' = .nilFunc ∨ ∃ G, f' = .func (.func G) #[] #[])
    (hL : LexAt w l cs) (h7 : cs[7]? = some (.func (.func F) #[] #[])) (h0 : cs[0]? = some (.slice ad n cap)) (h1 : cs[1]? = some (.int .i64 (p : Int))) (h2 : cs[2]? = some (.bool cl)) (hpn : p < n ∨ (p = n ∧ cl = true))
    (hc : ∀ q, Calls Tryz.prog F #[.pointer (some ⟨l, 0, none⟩)] (w.drewN q) fun e w' => e = .returned f' ∧ ∃ cs1, LexAt w' l cs1 ∧ Q cs1 w')
    (hn : ∀ cs1 w', LexAt w' l cs1 → Q cs1 w' → ∃ cs', Goes l R Post k cs' (w'.setCell ⟨l, 7, none⟩ f')) : Goes l R Post (k + 1) cs w := by
  refine ⟨hL, F, p, n, ad, cap, cl, h7, h0, h1, h2, hpn, hF, fun q => Calls.mono (hc q) ?_⟩
  rintro e w' ⟨rfl, cs1, hL', hQ⟩
  obtain ⟨x, hx⟩ := hL'.some 7 (by omega)
  exact ⟨f', rfl, hf, ⟨x, hL'.c 7 x hx⟩, hL'.fz 7, hn cs1 w' hL' hQ⟩

/-- What stands while Next goes: the result's block, the scalars. -/
structure Ctx (w : World) (l R g o : Nat) (rs : List (Int × Int)) (B : Nat) : Prop where
  res : ResAt w R
  sc : ∀ i c a, rs[i]? = some (c, a) → w.cell? ⟨g, o + i * 2, none⟩ = some (.int .i64 c) ∧ w.cell? ⟨g, o + i * 2 + 1, none⟩ = some (.int .i64 a)
  lB : l < B
  RB : R < B
  gB : g < B
  lR : l ≠ R
  lg : l ≠ g
  le : B ≤ w.heap.size
  few : rs.length ≤ 4611686018427387904

theorem ResAt.but {w w' : World} {R l B : Nat} (h : ResAt w R) (hb : But l B w w') (hR : R < B) (hl : R ≠ l) : ResAt w' R := by
  have key := hb.block R hR hl
  have kc : ∀ j, w'.cell? ⟨R, j, none⟩ = w.cell? ⟨R, j, none⟩ := fun j => World.cell?_of_block key
  have kf : ∀ j, w'.frozen? ⟨R, j, none⟩ = w.frozen? ⟨R, j, none⟩ := fun j => by simp only [World.frozen?, key]
  exact ⟨(kc 0).trans h.a0, (kc 1).trans h.a1, (kc 2).trans h.a2, (kc 3).trans h.a3, (kc 4).trans h.a4, (kc 5).trans h.a5, (kc 6).trans h.a6, (kc 7).trans h.a7, fun j => (kf j).trans (h.fz j)⟩

theorem Ctx.but {w w' : World} {l R g o : Nat} {rs : List (Int × Int)} {B : Nat} (h : Ctx w l R g o rs B) (hb : But l B w w') : Ctx w' l R g o rs B := by
  have kc : ∀ j, w'.cell? ⟨g, j, none⟩ = w.cell? ⟨g, j, none⟩ := fun j => World.cell?_of_block (hb.block g h.gB (fun e => h.lg e.symm))
  exact ⟨h.res.but hb h.RB (fun e => h.lR e.symm), fun i c a hi => ⟨(kc _).trans (h.sc i c a hi).1, (kc _).trans (h.sc i c a hi).2⟩, h.lB, h.RB, h.gB, h.lR, h.lg, Nat.le_trans h.le hb.size, h.few⟩

theorem Ctx.next {w : World} {l R g o : Nat} {rs : List (Int × Int)} {B : Nat} (h : Ctx w l R g o rs B) {cs : List Value} {n cap pos : Nat} {c a : Int} (h0 : cs[0]? = some (.slice (some ⟨g, o, none⟩) n cap)) (h1 : cs[1]? = some (.int .i64 (pos : Int))) (hn : n = rs.length) (hp : rs[pos]? = some (c, a)) (q : Nat) : NextIs (w.drewN q) cs g o n cap pos c a := by
  subst hn
  exact ⟨h0, h1, (List.getElem?_eq_some_iff.1 hp).1, h.few, (h.sc pos c a hp).1, (h.sc pos c a hp).2⟩

/-- A row's block stands at or above B: what is kept but it is kept below B. -/
theorem Kept.but {l B : Nat} {row : Option Nat} {w w' : World} (h : Kept l row w w') (hr : ∀ k, row = some k → B ≤ k) (hB : B ≤ w.heap.size) : But l B w w' :=
  ⟨h.os, h.tape, h.output, h.size, fun k hk hl => h.block k (Nat.lt_of_lt_of_le hk hB) hl (fun e => by have := hr k e.symm; omega)⟩

theorem owns_but' {w w' : World} {l B B' : Nat} {e : TypeId} {sz : Nat} {v : Value} {n : Nat} {xs : List Value} (h : w.ownsRow B e sz v n xs) (hb : But l B' w w') (hB : w.heap.size ≤ B') (hl : l < B) : w'.ownsRow B e sz v n xs := owns_but h hb hB (owns_off h hl)

theorem owns_kept {w w' : World} {l B : Nat} {row : Option Nat} {e : TypeId} {sz : Nat} {v : Value} {n : Nat} {xs : List Value} (h : w.ownsRow B e sz v n xs) (hk : Kept l row w w') (hl : l < B) (hr : v.ownBlock = none ∨ v.ownBlock ≠ row) : w'.ownsRow B e sz v n xs := by
  refine ⟨h.1, ?_⟩
  rcases h.2 with hn | ⟨g, cap, cur, rfl, hg, hgg, rest⟩
  · exact .inl hn
  · refine .inr ⟨g, cap, cur, rfl, hg, ?_, rest⟩
    rw [hk.block g (Array.getElem?_eq_some_iff.1 hgg).1 (by omega) (by
      intro e
      rcases hr with hr | hr
      · simp [Value.ownBlock] at hr
      · exact hr (by simpa [Value.ownBlock] using e))]
    exact hgg
end Go.Proofs.YtgdjknbbjpcoiaaGreatDoor
