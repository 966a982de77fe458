/-
  All nodes under the document, in order.
-/
import Derived.Test.YtjbfgiicaaljjaaTfMath
import Derived.Test.YtjbfgiicaaljjaaQuUnd
namespace Go.Proofs.Ytjbfgiicaaljjaa
open Go.RowKit

def visitV (ob tb vb : Nat) : Value := .func (.func 49) #[] #[.pointer (some ⟨ob, 0, none⟩), .pointer (some ⟨tb, 0, none⟩), .pointer (some ⟨vb, 0, none⟩)]

/-- What the walker keeps. -/
structure WalkI (w0 : World) (t tb ob vb : Nat) (vs : List Nat) (o : Nat → Prop) (w : World) : Prop where
  out : ∃ a c, w.heap[ob]? = some (.cells #[.slice a vs.length c] 30 (0, 0)) ∧ w.ownsRow w0.heap.size 3 1 (.slice a vs.length c) vs.length (intC vs) ∧ ∀ b, o b ↔ b = ob ∨ (Value.slice a vs.length c).ownBlock = some b
  tbk : w.heap[tb]? = some (.cells #[.pointer (some ⟨t, 0, none⟩)] 25 (0, 0))
  vbk : w.heap[vb]? = some (.cells #[visitV ob tb vb] 106 (0, 0))
  below : Below w0.heap.size w0 w
  lowo : w0.heap.size ≤ ob

theorem WalkI.low {w0 w : World} {t tb ob vb : Nat} {vs : List Nat} {o : Nat → Prop} (h : WalkI w0 t tb ob vb vs o w) : ∀ k, o k → w0.heap.size ≤ k ∧ k < w.heap.size := by
  obtain ⟨⟨a, c, h1, h2, h3⟩, _, _, _, hlo⟩ := h
  intro k hk
  rcases (h3 k).1 hk with e | e
  · rw [e]; exact ⟨hlo, (Array.getElem?_eq_some_iff.1 h1).1⟩
  · exact owns_lt h2 k e

theorem WalkI.off {w0 w : World} {t tb ob vb : Nat} {vs : List Nat} {o : Nat → Prop} (h : WalkI w0 t tb ob vb vs o w) {k : Nat} {c : Array Value} {e : TypeId} (hk : w.heap[k]? = some (.cells c e (0, 0))) (he : e ≠ 3) (he2 : e ≠ 30) : ¬ o k := by
  obtain ⟨⟨a, c, h1, h2, h3⟩, _⟩ := h
  intro e
  rcases (h3 k).1 e with e | e
  · rw [e, h1] at hk
    simp only [Option.some.injEq, Obj.cells.injEq] at hk
    exact he2 hk.2.1.symm
  · rcases h2.2 with ⟨hv, _⟩ | ⟨g, cap, cur, hv, _, hh, _⟩
    · rw [hv] at e; cases e
    · rw [hv] at e
      simp only [Value.ownBlock, Option.some.injEq] at e
      rw [e, hk] at hh
      simp only [Option.some.injEq, Obj.cells.injEq] at hh
      exact he hh.2.1

theorem WalkI.stab {w0 wa wb : World} {t tb ob vb : Nat} {vs : List Nat} {o : Nat → Prop} (h : WalkI w0 t tb ob vb vs o wa) (hb : Below wa.heap.size wa wb) : WalkI w0 t tb ob vb vs o wb := by
  obtain ⟨⟨a, c, h1, h2, h3⟩, h4, h5, h6, h7⟩ := h
  exact ⟨⟨a, c, (hb.block ob (Array.getElem?_eq_some_iff.1 h1).1).trans h1, owns_kept (out := fun _ => False) h2 (Kept.below hb) (fun _ _ e => e), h3⟩, (hb.block tb (Array.getElem?_eq_some_iff.1 h4).1).trans h4, (hb.block vb (Array.getElem?_eq_some_iff.1 h5).1).trans h5, h6.trans (hb.mono h6.size), h7⟩

/-- From one row to another. -/
def WalkTo (w0 : World) (t tb ob vb : Nat) (vs : List Nat) (o : Nat → Prop) (w w' : World) : Prop := ∃ o', WalkI w0 t tb ob vb vs o' w' ∧ Kept o w w' ∧ ∀ b, o' b → o b ∨ w.heap.size ≤ b
theorem WalkTo.next {w0 w wi we : World} {t tb ob vb : Nat} {vs' : List Nat} {o o1 : Nat → Prop} (hk : Kept o w wi) (ho : ∀ b, o1 b → o b ∨ w.heap.size ≤ b) (h : WalkTo w0 t tb ob vb vs' o1 wi we) : WalkTo w0 t tb ob vb vs' o w we := by
  obtain ⟨o2, h1, h2, h3⟩ := h
  have hs := hk.size
  refine ⟨o2, h1, ⟨h2.os.trans hk.os, h2.tape.trans hk.tape, h2.output.trans hk.output, Nat.le_trans hk.size h2.size, fun j hj hn => ?_⟩, fun b hb => ?_⟩
  · rw [h2.block j (by omega) (fun e => by
      rcases ho j e with e2 | e2
      · exact hn e2
      · omega)]
    exact hk.block j hj hn
  · rcases h3 b hb with e | e
    · exact ho b e
    · exact .inr (by omega)

theorem WalkI.put {w0 w w2 : World} {t tb ob vb : Nat} {vs : List Nat} {o : Nat → Prop} {k : Nat} {a : Option Addr} {c g2 c2 : Nat} {o1 : Obj} (h : WalkI w0 t tb ob vb vs o w) (hblk : w.heap[ob]? = some (.cells #[.slice a vs.length c] 30 (0, 0))) (hO : w.ownsRow w0.heap.size 3 1 (.slice a vs.length c) vs.length (intC vs)) (ho : ∀ b, o b ↔ b = ob ∨ (Value.slice a vs.length c).ownBlock = some b)
    (hg : (w.alloc o1).grownBy w2 (Value.slice a vs.length c).ownBlock) (hat : (Value.slice a vs.length c).ownBlock = some g2 ∨ g2 = (w.alloc o1).heap.size)
    (hown : w2.ownsRow w0.heap.size 3 1 (.slice (some ⟨g2, 0, none⟩) (vs.length + 1) c2) (vs.length + 1) (intC vs ++ [.int .i64 (k : Int)])) :
    w2.cell? ⟨ob, 0, none⟩ = some (.slice a vs.length c) ∧ w2.frozen? ⟨ob, 0, none⟩ = false ∧ Hid (WalkTo w0 t tb ob vb (vs ++ [k]) o w (w2.setCell ⟨ob, 0, none⟩ (.slice (some ⟨g2, 0, none⟩) (vs.length + 1) c2))) := by
  have hlt := (Array.getElem?_eq_some_iff.1 hblk).1
  have hb : Below w.heap.size w (w.alloc o1) := (Below.refl _ _).alloc (Nat.le_refl _) _
  have hoff : (Value.slice a vs.length c).ownBlock ≠ some ob := by
    intro e
    rcases hO.2 with ⟨hv, _⟩ | ⟨g, cap, cur, hv, _, hh, _⟩
    · rw [hv] at e; cases e
    · rw [hv] at e
      simp only [Value.ownBlock, Option.some.injEq] at e
      subst e
      rw [hblk] at hh
      simp only [Option.some.injEq, Obj.cells.injEq] at hh
      exact absurd hh.2.1 (by decide)
  have h2 : w2.heap[ob]? = some (.cells #[.slice a vs.length c] 30 (0, 0)) := ((hg.block ob (Nat.lt_of_lt_of_le hlt hb.size) (fun e => hoff e.symm)).trans (hb.block ob hlt)).trans hblk
  have hkept : Kept o w (w2.setCell ⟨ob, 0, none⟩ (.slice (some ⟨g2, 0, none⟩) (vs.length + 1) c2)) := by
    have k1 : Kept o (w.alloc o1) w2 := Kept.grown hg (fun j e => (ho j).2 (.inr e))
    exact ((Kept.below hb).trans k1).store ⟨ob, 0, none⟩ ((ho ob).2 (.inl rfl)) _
  have hge : g2 ≠ ob := by
    rcases hat with e | e
    · intro e2; subst e2; exact hoff e
    · have := hb.size; omega
  have hl : (vs ++ [k]).length = vs.length + 1 := by simp
  have hle := h.below.size
  refine ⟨by simp [World.cell?, h2], by simp [World.frozen?, h2], ⟨fun b => b = ob ∨ b = g2, ⟨⟨some ⟨g2, 0, none⟩, c2, ?_, ?_, ?_⟩, ?_, ?_, ?_, h.lowo⟩, hkept, ?_⟩⟩
  · rw [hl]
    simp only [World.setCell, Array.getElem?_modify, h2]
    simp
  · rw [hl, show intC (vs ++ [k]) = intC vs ++ [.int .i64 (k : Int)] by simp [intC]]
    exact owns_kept (out := fun j => j = ob) hown (Kept.store (out := fun j => j = ob) (Kept.refl _ _) ⟨ob, 0, none⟩ rfl _) (fun j e1 e2 => by
      simp only [Value.ownBlock, Option.some.injEq] at e1
      omega)
  · intro b
    rw [hl]
    simp only [Value.ownBlock, Option.some.injEq]
    constructor
    · rintro (e | e)
      · exact .inl e
      · exact .inr e.symm
    · rintro (e | e)
      · exact .inl e
      · exact .inr e.symm
  · exact (hkept.block tb (Array.getElem?_eq_some_iff.1 h.tbk).1 (h.off h.tbk (by decide) (by decide))).trans h.tbk
  · exact (hkept.block vb (Array.getElem?_eq_some_iff.1 h.vbk).1 (h.off h.vbk (by decide) (by decide))).trans h.vbk
  · refine ⟨hkept.os.trans h.below.os, hkept.tape.trans h.below.tape, hkept.output.trans h.below.output, Nat.le_trans hle hkept.size, fun j hj => ?_⟩
    rw [hkept.block j (by omega) (fun e2 => by have := (h.low j e2).1; omega)]
    exact h.below.block j hj
  · rintro b (rfl | rfl)
    · exact .inl ((ho b).2 (.inl rfl))
    · rcases hat with e2 | e2
      · exact .inl ((ho b).2 (.inr e2))
      · have := hb.size
        exact .inr (by omega)

/-- What a visit does. -/
def VisitOk (w0 : World) (t tb ob vb : Nat) (ns : List Nd) (f : Nat) : Prop := ∀ (n : Nat) (vs : List Nat) (o : Nat → Prop) (w : World), ns.length ≤ n + f → n < ns.length → vs.length + 1 + (undL ns f n).length ≤ 1000000 → WalkI w0 t tb ob vb vs o w →
  Calls Try.prog 49 #[.int .i64 (n : Int), .pointer (some ⟨ob, 0, none⟩), .pointer (some ⟨tb, 0, none⟩), .pointer (some ⟨vb, 0, none⟩)] w fun e w' => e = .returned (.tuple #[]) ∧ Hid (WalkTo w0 t tb ob vb (vs ++ n :: undL ns f n) o w w')

theorem enters_visit : ∀ args w, (callFunc 49 args).run Try.prog w = .ok (.enter 49 args) w := enters_of Try.func49 (by kernel_rfl) rfl

theorem flatU_len (ks : List Nat) (m k : Nat) (u : Nat → List Nat) (h : ks[m]? = some k) : ((ks.take m).flatMap fun k => k :: u k).length + 1 + (u k).length ≤ (ks.flatMap fun k => k :: u k).length := by
  obtain ⟨r, hr⟩ := flat_upto ks m k u h
  rw [hr]
  simp only [List.length_append, List.length_cons]
  omega
theorem flat_next (ks : List Nat) (m k : Nat) (u : Nat → List Nat) (h : ks[m]? = some k) : ((ks.take (m + 1)).flatMap fun k => k :: u k) = ((ks.take m).flatMap fun k => k :: u k) ++ k :: u k := by
  rw [List.take_add_one, h]
  simp

set_option maxRecDepth 100000 in
set_option maxHeartbeats 4000000 in
theorem eachKid_any (w0 : World) (t tb ob vb : Nat) (ns : List Nd) (cs : List Cel) (B g cap : Nat) (hT : FamAt w0 t B g cap ns cs) (hok : NsOk ns) (f : Nat) (hV : VisitOk w0 t tb ob vb ns f) (n : Nat) (vs : List Nat) (o : Nat → Prop) (w : World) (hf : ns.length ≤ n + (f + 1)) (hn : n < ns.length) (hM : vs.length + (undL ns (f + 1) n).length ≤ 1000000) (hI : WalkI w0 t tb ob vb vs o w) :
    Calls Try.prog 50 #[.pointer (some ⟨t, 0, none⟩), .int .i64 (n : Int), .int .i64 0, visitV ob tb vb] w fun e w' => e = .returned (.tuple #[]) ∧ Hid (WalkTo w0 t tb ob vb (vs ++ undL ns (f + 1) n) o w w') := by
  obtain ⟨x, hx⟩ : ∃ x, ns[n]? = some x := ⟨_, List.getElem?_eq_getElem hn⟩
  have hF := hT.below hI.below
  obtain ⟨c, hc, hc1⟩ := hF.cell hx
  have hkr := hF.kids n c x hc hx
  have hkn : kidsN ns n = x.kids := by unfold kidsN; rw [hx]
  have hun : undL ns (f + 1) n = x.kids.flatMap fun k => k :: undL ns f k := by
    show (kidsN ns n).flatMap _ = _
    rw [hkn]
  rw [hun] at hM ⊢
  have HUP : Hid (∀ k ∈ x.kids, n < k ∧ k < ns.length) := hok.up n x hx
  have hkl : x.kids.length ≤ 1000 := (hok.few n x hx).1
  have c0 := hF.tree.c0
  have ck : w.cell? ⟨g, n * 10 + 9, none⟩ = some c.kids := hF.tree.at hc rfl
  have hcl := hF.len
  have hnI : (n : Int) < (cs.length : Int) := by omega
  have HT : Hid _ := hT
  have HV : Hid _ := hV
  have HI : Hid _ := hI
  have HX : Hid _ := hx
  have HM : Hid _ := hM
  have heg := enters_visit
  obtain ⟨ka, kc, hkv⟩ : ∃ ka kc, c.kids = .slice ka x.kids.length kc := by
    rcases hkr.2 with ⟨e1, e2⟩ | ⟨g1, c1, _, e1, _⟩
    · exact ⟨none, 0, by rw [e1, e2]⟩
    · exact ⟨_, c1, e1⟩
  have HKC : Hid (∀ wi, Below w0.heap.size w0 wi → ∀ (m k : Nat), x.kids[m]? = some k → ∃ gk, ka = some ⟨gk, 0, none⟩ ∧ wi.cell? ⟨gk, m, none⟩ = some (.int .i64 (k : Int))) := by
    intro wi hb m k hq
    have h2 := (hT.below hb).kids n c x hc hx
    rw [hkv] at h2
    rcases h2.2 with ⟨e1, e2⟩ | ⟨g1, c1, cur, e1, _⟩
    · have := (List.getElem?_eq_some_iff.1 hq).1
      omega
    · injection e1 with e1 e2 e3
      subst e1
      exact ⟨g1, rfl, owns_at h2 m _ (by unfold intC; rw [List.getElem?_map, hq]; rfl)⟩
  have hkcap : x.kids.length ≤ kc := by
    rw [hkv] at hkr
    rcases hkr.2 with ⟨e1, e2⟩ | ⟨g1, c1, cur, e1, _, _, h3, _⟩
    · omega
    · injection e1 with e1 e2 e3
      omega
  have hka : ka = none ∨ ∃ gk, ka = some ⟨gk, 0, none⟩ := by
    rw [hkv] at hkr
    rcases hkr.2 with ⟨e1, e2⟩ | ⟨g1, c1, cur, e1, _⟩
    · injection e1 with e1 _ _
      exact .inl e1
    · injection e1 with e1 _ _
      exact .inr ⟨g1, e1⟩
  have hnone : ka = none → kc = 0 := by
    intro e
    rw [hkv] at hkr
    rcases hkr.2 with ⟨e1, e2⟩ | ⟨g1, c1, cur, e1, _⟩
    · injection e1
    · rw [e] at e1
      injection e1 with e1 _ _
      cases e1
  rw [hkv] at ck
  have hkcI : (x.kids.length : Int) ≤ (kc : Int) := by omega
  have H0 : Hid (∃ o', WalkI w0 t tb ob vb (vs ++ (x.kids.take 0).flatMap fun k => k :: undL ns f k) o' w ∧ Kept o w w ∧ ∀ b, o' b → o b ∨ w.heap.size ≤ b) := ⟨o, by simpa using hI, Kept.refl _ _, fun b e => .inl e⟩
  clear hT hok hV hI hF hkr hc hc1 hkn hun hM hx hkv
  generalize x.kids = ks at *
  unfold visitV
  rcases hka with rfl | ⟨gk, rfl⟩
  · obtain rfl := hnone rfl
    obtain rfl : ks = [] := List.length_eq_zero_iff.1 (by omega)
    have HF : Hid (WalkTo w0 t tb ob vb (vs ++ []) o w w) := ⟨o, by rw [List.append_nil]; exact HI.out, Kept.refl _ _, fun b e => .inl e⟩
    clear H0 HKC HUP HM HV HX HI
    go_enter Try.func50, Try.ntmps50
    go_wp2
    all_goals
      refine wp_loop_rounds 1 ?_
      rw [rounds_succ]
      go_wp2
      go_end0
      exact ⟨rfl, HF⟩
  · go_enter Try.func50, Try.ntmps50
    go_wp2
    go_loopw [21] (fun i wi => ∃ m : Nat, m ≤ ks.length ∧ i = .int .i64 m ∧ Hid (∃ o', WalkI w0 t tb ob vb (vs ++ (ks.take m).flatMap fun k => k :: undL ns f k) o' wi ∧ Kept o w wi ∧ ∀ b, o' b → o b ∨ w.heap.size ≤ b)) (fun i _ => ks.length - (intOf i).toNat)
    case atStart => exact ⟨0, Nat.zero_le _, rfl, H0⟩
    case round =>
      clear H0
      obtain ⟨m, hm, rfl, hE⟩ := hrel
      by_cases hlt : m < ks.length
      · have hq : ks[m]? = some ks[m] := List.getElem?_eq_getElem hlt
        generalize ks[m] = k at hq
        obtain ⟨hnk, hkn⟩ := HUP.out k (List.mem_of_getElem? hq)
        have hmI : (m : Int) < (ks.length : Int) := by omega
        obtain ⟨o1, hI1, hK1, ho1⟩ := hE.out
        obtain ⟨gk', hga, hcell⟩ := HKC.out wr hI1.below m k hq
        injection hga with hga
        injection hga with hga _ _
        subst hga
        have hlen := flatU_len ks m k (fun k => undL ns f k) hq
        have hMM := HM.out
        have HR : Hid _ := HV.out k (vs ++ (ks.take m).flatMap fun k => k :: undL ns f k) o1 wr (by omega) hkn (by rw [List.length_append]; omega) hI1
        have HN : Hid (∀ we, WalkTo w0 t tb ob vb ((vs ++ (ks.take m).flatMap fun k => k :: undL ns f k) ++ k :: undL ns f k) o1 wr we → WalkTo w0 t tb ob vb (vs ++ (ks.take (m + 1)).flatMap fun k => k :: undL ns f k) o w we) := fun we h => by
          rw [flat_next ks m k (fun k => undL ns f k) hq, ← List.append_assoc]
          exact WalkTo.next hK1 ho1 h
        clear hE hI1 hK1 ho1 hq hlen hMM
        go_wp2_with fail
        refine Calls.mono HR.out ?_
        rintro e we ⟨rfl, h6⟩
        have HF : Hid _ := HN.out we h6.out
        clear h6 HN HR
        go_wp2
        go_roundw
        case rel => exact ⟨m + 1, by omega, by go_num, HF⟩
        case measure => simp only [intOf]; go_num
      · obtain rfl : m = ks.length := by omega
        have HF : Hid (WalkTo w0 t tb ob vb (vs ++ ks.flatMap fun k => k :: undL ns f k) o w wr) := by
          have h := hE.out
          rw [List.take_length] at h
          exact h
        clear hE
        go_wp2
        go_end0
        exact ⟨rfl, HF⟩

end Go.Proofs.Ytjbfgiicaaljjaa
