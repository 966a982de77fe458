/-
  Behind any marker there are never more than three that are alike: the law.
-/
import Derived.Test.YtalbiekleggkoaaMmTell
import Derived.Test.YtalbiekleggkoaaMmPair
import Derived.Test.YtalbiekleggkoaaMaAlike
import Derived.Deep.RegionHeld3
namespace Go.Proofs.Ytalbiekleggkoaa
open Go.RowKit Go.Maps

theorem rlist_new (w : World) : RListAt (w.alloc (.cells #[.slice none 0 0] 51)) w.heap.size w.heap.size (.slice none 0 0) [] :=
  ⟨heap_alloc_new w _, World.ownsRow_nil _ _ _ _, Nat.le_refl _, fun c hc => by cases hc⟩

def mkEnr : Enr := ⟨-1, ⟨#[]⟩, none, 0, []⟩

set_option maxRecDepth 100000 in
set_option maxHeartbeats 2000000 in
theorem rmark_in (s B : Nat) (v : Value) (cs : List Enr) (w : World) (h : RListAt w s B v cs) (hok : ∀ c ∈ cs, EnrOk c) (hl : cs.length ≤ 10000) :
    Calls Try.prog 25 #[.pointer (some ⟨s, 0, none⟩)] w fun e w' => e = .returned (.tuple #[]) ∧ ∃ a' cap', Hid (RAddP w s B v (cs ++ [⟨-1, ⟨#[]⟩, a', cap', []⟩]) w') := by
  have HA : Hid (Calls Try.prog 33 #[.pointer (some ⟨s, 0, none⟩), .agg #[.int .i64 (-1), .string ⟨#[]⟩, .slice none 0 0]] w fun e w' => e = .returned (.tuple #[]) ∧ ∃ a' cap', Hid (RAddP w s B v (cs ++ [⟨-1, ⟨#[]⟩, a', cap', []⟩]) w')) := radd_in s B v cs mkEnr w h (AtrRow.bare w) ⟨by show 0 ≤ 1000; omega, fun q hq => by cases hq⟩ hok hl
  clear h hok
  go_enter Try.func25, Try.ntmps25
  go_wp2_with fail
  refine Calls.mono HA.out ?_
  rintro e w1 ⟨rfl, a', cap', hp⟩
  go_wp2
  go_end0
  exact ⟨rfl, _, _, hp⟩

/-- A step that came in. -/
structure Actn where
  what : Int
  at' : Int
  node : Int
  name : ByteArray
  ia : Option Addr
  icap : Nat
  l : List Atr

/-- The steps that came in. -/
structure ScrAt (w : World) (sa : Option Addr) (Z : List Actn) : Prop where
  at' : ∀ (i : Nat) (p : Actn), Z[i]? = some p → ∃ a0, sa = some a0 ∧ w.cell? (a0.add (i * 5)) = some (.int .i64 p.what) ∧ w.cell? ⟨(a0.add (i * 5)).block, (a0.add (i * 5)).off + 1, none⟩ = some (.int .i64 p.at') ∧ w.cell? ⟨(a0.add (i * 5)).block, (a0.add (i * 5)).off + 2, none⟩ = some (.int .i64 p.node) ∧
    w.cell? ⟨(a0.add (i * 5)).block, (a0.add (i * 5)).off + 3, none⟩ = some (.string p.name) ∧ w.cell? ⟨(a0.add (i * 5)).block, (a0.add (i * 5)).off + 4, none⟩ = some (.slice p.ia p.l.length p.icap) ∧ InAt w p.ia p.l
  ok : ∀ p ∈ Z, ∀ q ∈ p.l, AtrOk q
theorem ScrAt.below {w w' : World} {sa : Option Addr} {Z : List Actn} (h : ScrAt w sa Z) (hb : Below w.heap.size w w') : ScrAt w' sa Z := by
  refine ⟨fun i p hi => ?_, h.ok⟩
  obtain ⟨a0, e, c0, c1, c2, c3, c4, hI⟩ := h.at' i p hi
  have k : ∀ (q : Addr) u, w.cell? q = some u → w'.cell? q = some u := fun q u hq => (hb.cell (World.block_lt_of_cell? _ _ hq)).trans hq
  exact ⟨a0, e, k _ _ c0, k _ _ c1, k _ _ c2, k _ _ c3, k _ _ c4, hI.below hb⟩

/-- The list after some steps. -/
structure LstAt (w wr : World) (s k : Nat) (v : Value) (cs : List Enr) : Prop where
  bel : Below w.heap.size w wr
  lst : RListAt wr s s v cs
  far : w.heap.size ≤ s
  ok : ∀ c ∈ cs, EnrOk c
  nod : ∀ c ∈ cs, c.l.Nodup
  few : FewR (fun c => c.l.Nodup) alR cs
  len : cs.length ≤ k

theorem LstAt.below {w wr wy : World} {s k : Nat} {v : Value} {cs : List Enr} (h : LstAt w wr s k v cs) (hb : Below wr.heap.size wr wy) : LstAt w wy s k v cs :=
  ⟨h.bel.trans (hb.mono h.bel.size), h.lst.below hb, h.far, h.ok, h.nod, h.few, h.len⟩
theorem LstAt.skip {w wr : World} {s k j : Nat} {v : Value} {cs : List Enr} (h : LstAt w wr s k v cs) (hj : k ≤ j) : LstAt w wr s j v cs := ⟨h.bel, h.lst, h.far, h.ok, h.nod, h.few, Nat.le_trans h.len hj⟩
theorem LstAt.marked {w wr wy : World} {s k : Nat} {v : Value} {cs : List Enr} {a' : Option Addr} {cap' : Nat} (h : LstAt w wr s k v cs) (hp : RAddP wr s s v (cs ++ [⟨-1, ⟨#[]⟩, a', cap', []⟩]) wy) : ∃ v', LstAt w wy s (k + 1) v' (cs ++ [⟨-1, ⟨#[]⟩, a', cap', []⟩]) := by
  obtain ⟨v', h1⟩ := hp.at'
  refine ⟨v', h.bel.trans ((hp.below h.lst).mono h.far), h1, h.far, fun c hc => ?_, fun c hc => ?_, h.few.mark rfl, by simp; exact h.len⟩
  · rcases List.mem_append.1 hc with hc | hc
    · exact h.ok c hc
    · rw [List.mem_singleton] at hc
      subst hc
      exact ⟨by show 0 ≤ 1000; omega, fun q hq => by cases hq⟩
  · rcases List.mem_append.1 hc with hc | hc
    · exact h.nod c hc
    · rw [List.mem_singleton] at hc
      subst hc
      exact List.nodup_nil
theorem LstAt.added {w wr wy : World} {s k : Nat} {v : Value} {cs : List Enr} {x : Enr} {a' : Option Addr} {cap' : Nat} (h : LstAt w wr s k v cs) (hm : (x.node == -1) = false) (hx : EnrOk x) (hn : x.l.Nodup) (hp : RAddP wr s s v (comeR x cs ++ [⟨x.node, x.name, a', cap', x.l⟩]) wy) : ∃ v' cs', LstAt w wy s (k + 1) v' cs' := by
  obtain ⟨v', h1⟩ := hp.at'
  have hc0 : comeR x cs = thinR (alR x) cs := by
    unfold comeR
    rw [if_neg (by rw [hm]; decide)]
  rw [hc0] at h1
  have hl := thinR_len (alR x) cs
  refine ⟨v', _, h.bel.trans ((hp.below h.lst).mono h.far), h1, h.far, fun c hc => ?_, fun c hc => ?_, FewR.add (x := ⟨x.node, x.name, a', cap', x.l⟩) h.few hn, by have := h.len; simp; omega⟩
  · rcases List.mem_append.1 hc with hc | hc
    · exact h.ok c (thinR_sub _ _ c hc)
    · rw [List.mem_singleton] at hc
      subst hc
      exact ⟨hx.few, hx.ok⟩
  · rcases List.mem_append.1 hc with hc | hc
    · exact h.nod c (thinR_sub _ _ c hc)
    · rw [List.mem_singleton] at hc
      subst hc
      exact hn

theorem runN_sk (p : Enr → Bool) (hp : ∀ c d, skR c = skR d → p c = p d) : ∀ (ds cs : List Enr), ds.map skR = cs.map skR → runN p ds = runN p cs
  | [], [], _ => rfl
  | [], _ :: _, h => by simp at h
  | _ :: _, [], h => by simp at h
  | d :: ds, c :: cs, h => by
    rw [List.map_cons, List.map_cons, List.cons.injEq] at h
    have hnode : d.node = c.node := congrArg (fun z => z.1) h.1
    rw [runN, runN, hp d c h.1, hnode, runN_sk p hp ds cs h.2]
theorem alR_sk (x c d : Enr) (h : skR c = skR d) : alR x c = alR x d := by
  have h1 : c.name = d.name := congrArg (fun z => z.2.1) h
  have h2 : c.l = d.l := congrArg (fun z => z.2.2) h
  unfold alR
  rw [h1, h2]
theorem sk_mem {ds cs : List Enr} (h : ds.map skR = cs.map skR) {d : Enr} (hd : d ∈ ds) : ∃ c ∈ cs, skR c = skR d := by
  have hm : skR d ∈ cs.map skR := by
    rw [← h]
    exact List.mem_map_of_mem hd
  exact List.mem_map.1 hm

/-- All entries, handed out; few of each kind. -/
structure OutAt (w wr : World) (g n cap : Nat) (ds : List Enr) : Prop where
  bel : Below w.heap.size w wr
  own : ∃ B, wr.ownsRow B 58 3 (.slice (some ⟨g, 0, none⟩) n cap) n (ds.flatMap enrC)
  ents : ∀ d ∈ ds, AtrRow wr d.a d.cap d.l
  ok : ∀ d ∈ ds, EnrOk d
  nod : ∀ d ∈ ds, d.l.Nodup
  few : ∀ d ∈ ds, ∀ i, runN (alR d) (ds.drop i) ≤ 3
  len : n = ds.length
theorem OutAt.below {w wr wy : World} {g n cap : Nat} {ds : List Enr} (h : OutAt w wr g n cap ds) (hb : Below wr.heap.size wr wy) : OutAt w wy g n cap ds := by
  obtain ⟨B, ho⟩ := h.own
  exact ⟨h.bel.trans (hb.mono h.bel.size), ⟨B, owns_kept (out := fun _ => False) ho (Kept.below hb) (fun _ _ e => e)⟩, fun d hd => (h.ents d hd).below hb, h.ok, h.nod, h.few, h.len⟩
theorem OutAt.of {w wr wy : World} {s k g n cap : Nat} {v : Value} {cs ds : List Enr} (h : LstAt w wr s k v cs) (he : EntsR wr wy (.slice (some ⟨g, 0, none⟩) n cap) ds cs) (hn : n = ds.length) : OutAt w wy g n cap ds := by
  have ho := he.own
  rw [← hn] at ho
  refine ⟨h.bel.trans (he.bel.mono h.bel.size), ⟨_, ho⟩, he.ents, fun d hd => ?_, fun d hd => ?_, fun d hd i => ?_, hn⟩
  · obtain ⟨c, hc, e⟩ := sk_mem he.sh hd
    have hl : c.l = d.l := congrArg (fun z => z.2.2) e
    exact ⟨by rw [← hl]; exact (h.ok c hc).few, by rw [← hl]; exact (h.ok c hc).ok⟩
  · obtain ⟨c, hc, e⟩ := sk_mem he.sh hd
    have hl : c.l = d.l := congrArg (fun z => z.2.2) e
    rw [← hl]
    exact h.nod c hc
  · obtain ⟨c, hc, e⟩ := sk_mem he.sh hd
    have hl : c.l = d.l := congrArg (fun z => z.2.2) e
    rw [runN_sk (alR d) (alR_sk d) (ds.drop i) (cs.drop i) (by rw [List.map_drop, List.map_drop, he.sh])]
    exact h.few.front d (by rw [← hl]; exact h.nod c hc) i
theorem OutAt.cells {w wr : World} {g n cap : Nat} {ds : List Enr} (h : OutAt w wr g n cap ds) {i : Nat} {d : Enr} (hi : ds[i]? = some d) : wr.cell? ⟨g, i * 3, none⟩ = some (.int .i64 d.node) ∧ wr.cell? ⟨g, i * 3 + 1, none⟩ = some (.string d.name) ∧ wr.cell? ⟨g, i * 3 + 2, none⟩ = some (.slice d.a d.l.length d.cap) := by
  obtain ⟨B, ho⟩ := h.own
  have e0 := rflat_at ds i 0 d _ hi rfl
  rw [Nat.add_zero] at e0
  exact ⟨owns_at ho _ _ e0, owns_at ho _ _ (rflat_at ds i 1 d _ hi rfl), owns_at ho _ _ (rflat_at ds i 2 d _ hi rfl)⟩
theorem run_mark {p : Enr → Bool} {ds : List Enr} {k : Nat} {d : Enr} (h : ds[k]? = some d) (hm : (d.node == -1) = true) : runN p (ds.drop k) = 0 := by
  have hlt := (List.getElem?_eq_some_iff.1 h).1
  rw [List.drop_eq_getElem_cons hlt, List.getElem_eq_iff hlt |>.2 h, runN, if_pos hm]
theorem run_next {p : Enr → Bool} {ds : List Enr} {k : Nat} {d : Enr} (h : ds[k]? = some d) (hm : (d.node == -1) = false) : runN p (ds.drop k) = (p d).toNat + runN p (ds.drop (k + 1)) := by
  have hlt := (List.getElem?_eq_some_iff.1 h).1
  rw [List.drop_eq_getElem_cons hlt, List.getElem_eq_iff hlt |>.2 h, runN, if_neg (by rw [hm]; decide)]

set_option maxRecDepth 100000 in
set_option maxHeartbeats 4000000 in
theorem most_law (sa : Option Addr) (scap : Nat) (Z : List Actn) (w : World) (hZ : ScrAt w sa Z) :
    Calls Try.prog 6 #[.slice sa Z.length scap] w fun e w' => e = .returned (.bool true) ∧ Below w.heap.size w w' := by
  have HZ : Hid _ := hZ
  have HSP : Hid _ := mkSpeaks w
  clear hZ
  go_enter Try.func6, Try.ntmps6
  go_wp2_with fail
  refine Calls.mono HSP.out ?_
  rintro e w1 ⟨rfl, hb1⟩
  have HL0 : Hid (LstAt w (w1.alloc (.cells #[.slice none 0 0] 51)) w1.heap.size 0 (.slice none 0 0) []) := ⟨hb1.alloc hb1.size _, rlist_new w1, hb1.size, fun c hc => (by cases hc), fun c hc => (by cases hc), FewR.nil _ _, Nat.le_refl _⟩
  clear hb1 HSP
  go_upto_region 3 with fail
  go_cut [3] (fun l wc => ∃ s, l = .pointer (some ⟨s, 0, none⟩) ∧ ∃ v cs, Hid (LstAt w wc s 0 v cs))
  case first =>
    go_wp2
    go_meet
    exact ⟨_, rfl, _, _, HL0⟩
  case rest =>
    clear HL0
    obtain ⟨s, rfl, v0, cs0, HL0⟩ := hcut
    go_step
    go_step
    go_cut [] (fun wd => ∃ v cs, Hid (LstAt w wd s 200 v cs))
    case first =>
      go_wp2
      go_loopw [4] (fun i wr => ∃ k : Nat, k ≤ 200 ∧ k ≤ Z.length ∧ i = .int .i64 k ∧ ∃ v cs, Hid (LstAt w wr s k v cs)) (fun i _ => 200 - (intOf i).toNat)
      case atStart => exact ⟨0, by omega, by omega, rfl, _, _, HL0⟩
      case round =>
        clear HL0
        obtain ⟨k, hk, hkZ, rfl, v, cs, HL⟩ := hrel
        by_cases hin : k < Z.length ∧ k < 200
        · obtain ⟨hlt, hlt2⟩ := hin
          have hkI : (k : Int) < (Z.length : Int) := by omega
          have hkI2 : (k : Int) < 200 := by omega
          have HQ : Hid (Z[k]? = some Z[k]) := List.getElem?_eq_getElem hlt
          have HZO : Hid (∀ q ∈ Z[k].l, AtrOk q) := HZ.out.ok _ (List.getElem_mem hlt)
          generalize Z[k] = p at *
          obtain ⟨a0, rfl, d0, d1, d2, d3, d4, hI⟩ := (HZ.out.below HL.out.bel).at' k p HQ.out
          have HPA : Hid _ := pair_any p.what p.at' p.node p.name p.ia p.icap p.l wr hI
          have hD := ddA_len (p.l.take 20) []
          have hD2 : (p.l.take 20).length ≤ 20 := by rw [List.length_take]; omega
          have hD3 : (ddA [] (p.l.take 20)).length ≤ 20 := by simp at hD hD2 ⊢; omega
          have HN : Hid _ := ddA_nodup (p.l.take 20) [] List.nodup_nil
          have HO : Hid (∀ q ∈ ddA [] (p.l.take 20), AtrOk q) := fun q hq => by
            rcases ddA_sub _ _ q hq with e | e
            · cases e
            · exact HZO.out q (List.mem_of_mem_take e)
          clear hD hD2 HZO hI
          generalize ddA [] (p.l.take 20) = D at *
          go_wp2_with fail
          refine Calls.mono HPA.out ?_
          rintro e w3 ⟨va, ca, vb, cb, rfl, hra, hrb, hb3⟩
          have hb4 : Below w3.heap.size w3 ((w3.alloc (.cells #[.int .i64 p.node, .string p.name, .slice va D.length ca] 58)).alloc (.cells #[.int .i64 p.node, .string p.name, .slice vb D.length cb] 61)) := ((Below.refl _ _).alloc (Nat.le_refl _) _).alloc (by simp) _
          have hx : ((w3.alloc (.cells #[.int .i64 p.node, .string p.name, .slice va D.length ca] 58)).alloc (.cells #[.int .i64 p.node, .string p.name, .slice vb D.length cb] 61)).heap[w3.heap.size]? = some (.cells #[.int .i64 p.node, .string p.name, .slice va D.length ca] 58) := by
            rw [heap_alloc_old _ _ (by simp), heap_alloc_new]
          have HL4 : Hid _ := (HL.out.below hb3).below hb4
          have HR4 : Hid _ := hra.below hb4
          clear hb3 hra hrb HPA d0 d1 d2 d3 d4 hb4 HL
          go_upto_region 8 with fail
          generalize ((w3.alloc (.cells #[.int .i64 p.node, .string p.name, .slice va D.length ca] 58)).alloc (.cells #[.int .i64 p.node, .string p.name, .slice vb D.length cb] 61)) = w4 at *
          generalize w3.heap.size = bx at *
          have x0 : w4.cell? ⟨bx, 0, none⟩ = some (.int .i64 p.node) := by simp [World.cell?, hx]
          have x1 : w4.cell? ⟨bx, 1, none⟩ = some (.string p.name) := by simp [World.cell?, hx]
          have x2 : w4.cell? ⟨bx, 2, none⟩ = some (.slice va D.length ca) := by simp [World.cell?, hx]
          obtain ⟨_, ea, d0, _⟩ := (HZ.out.below HL4.out.bel).at' k p HQ.out
          cases ea
          clear hx
          by_cases h9 : p.what.tmod 9 = 0
          · have HM : Hid _ := rmark_in s s v cs w4 HL4.out.lst HL4.out.ok (by have := HL4.out.len; omega)
            clear x0 x1 x2 HN HO hD3 HR4
            go_wp2_with fail
            refine Calls.mono HM.out ?_
            rintro e w5 ⟨rfl, a', cap', hp⟩
            obtain ⟨v', h5⟩ := HL4.out.marked hp.out
            have HL5 : Hid _ := h5
            clear HM hp HL4 h5 d0
            go_wp2
            go_roundw
            case rel => exact ⟨k + 1, by omega, by omega, by go_num, _, _, HL5⟩
            case measure => simp only [intOf]; go_num
          · cases hm : (p.node == -1)
            · have hne : (p.node != -1) = true := by simpa using hm
              have HXO : Hid (EnrOk ⟨p.node, p.name, va, ca, D⟩) := ⟨by show D.length ≤ 1000; omega, HO.out⟩
              have HA : Hid _ := radd_in s s v cs ⟨p.node, p.name, va, ca, D⟩ w4 HL4.out.lst HR4.out HXO.out HL4.out.ok (by have := HL4.out.len; omega)
              have HMM : Hid ((p.node == -1) = false) := hm
              unfold enrV at HA
              clear HO hD3 HR4 hm
              go_wp2_with fail
              refine Calls.mono HA.out ?_
              rintro e w5 ⟨rfl, a', cap', hp⟩
              obtain ⟨v', cs', h5⟩ := HL4.out.added (x := ⟨p.node, p.name, va, ca, D⟩) HMM.out HXO.out HN.out hp.out
              have HL5 : Hid _ := h5
              clear HA hp HL4 h5 d0 x0 x1 x2 HXO HMM
              go_wp2
              go_roundw
              case rel => exact ⟨k + 1, by omega, by omega, by go_num, _, _, HL5⟩
              case measure => simp only [intOf]; go_num
            · have hne : (p.node != -1) = false := by simpa using hm
              have HL5 : Hid (LstAt w w4 s (k + 1) v cs) := HL4.out.skip (by omega)
              clear HO hD3 HR4 hm HL4 HN x1 x2
              go_wp2
              go_roundw
              case rel => exact ⟨k + 1, by omega, by omega, by go_num, _, _, HL5⟩
              case measure => simp only [intOf]; go_num
        · have HL5 : Hid (LstAt w wr s 200 v cs) := HL.out.skip hk
          rcases (show ¬ k < Z.length ∨ (k < Z.length ∧ ¬ k < 200) by omega) with h1 | ⟨h1, h2⟩
          all_goals
            clear hin HL HZ
            go_wp2
            go_meet
            exact ⟨_, _, HL5⟩
    case rest =>
      clear HL0 HZ
      obtain ⟨v, cs, HL⟩ := hcut
      have HE : Hid _ := rentries_in s s v cs wc HL.out.lst HL.out.ok (by have := HL.out.len; omega)
      go_wp2_with fail
      refine Calls.mono HE.out ?_
      rintro e w5 ⟨v', ds, rfl, hE⟩
      have hform : (v' = .slice none 0 0 ∧ ds.length = 0) ∨ ∃ g n cap, v' = .slice (some ⟨g, 0, none⟩) n cap ∧ n = ds.length := by
        rcases hE.out.own.2 with ⟨h1, h2⟩ | ⟨g, cap, cur, h1, _⟩
        · exact .inl ⟨h1, h2⟩
        · exact .inr ⟨g, _, cap, h1, rfl⟩
      rcases hform with ⟨rfl, h0⟩ | ⟨g, n, cap, rfl, hn⟩
      · have HB : Hid (Below w.heap.size w w5) := HL.out.bel.trans (hE.out.bel.mono HL.out.bel.size)
        clear HE hE HL h0
        go_wp2
        go_loop [8] (fun i => i = .int .i64 0) (fun _ => 0)
        case atStart => rfl
        case round =>
          subst hrel
          go_wp2
          go_ret
          exact ⟨rfl, HB.out⟩
      · have HO : Hid (OutAt w w5 g n cap ds) := OutAt.of HL.out hE.out hn
        have hn200 : n ≤ 200 := by
          have h1 := hE.out.len
          have h2 := HL.out.len
          omega
        clear HE hE HL hn
        go_wp2
        go_loopw [8] (fun i wr => ∃ k : Nat, k ≤ n ∧ i = .int .i64 k ∧ Hid (OutAt w wr g n cap ds)) (fun i _ => n - (intOf i).toNat)
        case atStart => exact ⟨0, by omega, rfl, HO⟩
        case round =>
          clear HO
          obtain ⟨i, hi, rfl, HO⟩ := hrel
          by_cases hlt : i < n
          · have hiI : (i : Int) < (n : Int) := by omega
            obtain ⟨d, hd⟩ : ∃ d, ds[i]? = some d := ⟨_, List.getElem?_eq_getElem (by have := HO.out.len; omega)⟩
            have HD : Hid (ds[i]? = some d) := hd
            have HFW : Hid (runN (alR d) (ds.drop i) ≤ 3) := HO.out.few d (List.mem_of_getElem? hd) i
            have HDN : Hid (d.l.Nodup ∧ EnrOk d) := ⟨HO.out.nod d (List.mem_of_getElem? hd), HO.out.ok d (List.mem_of_getElem? hd)⟩
            clear hd
            go_wp2
            go_loopw [9, 10] (fun c j wx => ∃ m q : Nat, i ≤ q ∧ q ≤ n ∧ j = .int .i64 q ∧ c = .int .i64 m ∧ Hid (OutAt w wx g n cap ds) ∧ Hid (m + runN (alR d) (ds.drop q) = runN (alR d) (ds.drop i))) (fun _ j _ => n - (intOf j).toNat)
            case atStart => exact ⟨0, i, by omega, by omega, rfl, rfl, HO, by show 0 + _ = _; omega⟩
            case round =>
              clear HO
              obtain ⟨m, q, hiq, hqn, rfl, rfl, HO, HR⟩ := hrel
              have hm3 : (m : Int) ≤ 3 := by have := HR.out; have := HFW.out; omega
              by_cases hq : q < n
              · have hqI : (q : Int) < (n : Int) := by omega
                obtain ⟨e, he⟩ : ∃ e, ds[q]? = some e := ⟨_, List.getElem?_eq_getElem (by have := HO.out.len; omega)⟩
                obtain ⟨e0, e1, e2⟩ := HO.out.cells he
                obtain ⟨f0, f1, f2⟩ := HO.out.cells HD.out
                cases hmk : (e.node == -1)
                · have hne : (e.node != -1) = true := by simpa using hmk
                  have HNX : Hid (runN (alR d) (ds.drop q) = (alR d e).toNat + runN (alR d) (ds.drop (q + 1))) := run_next he hmk
                  have HEN : Hid (e.l.Nodup ∧ EnrOk e) := ⟨HO.out.nod e (List.mem_of_getElem? he), HO.out.ok e (List.mem_of_getElem? he)⟩
                  have HER : Hid (∀ wy, Below wr.heap.size wr wy → AtrsAt wy d.a d.l ∧ AtrsAt wy e.a e.l) := fun wy hb => ⟨((HO.out.below hb).ents d (List.mem_of_getElem? HD.out)).row, ((HO.out.below hb).ents e (List.mem_of_getElem? he)).row⟩
                  have HAL : Hid (∀ wy, Below wr.heap.size wr wy → Calls Try.prog 41 #[.agg #[.int .i64 d.node, .string d.name, .slice d.a d.l.length d.cap], .agg #[.int .i64 e.node, .string e.name, .slice e.a e.l.length e.cap]] wy fun z w' => z = .returned (.bool (alR d e)) ∧ Below wy.heap.size wy w') := fun wy hb => by
                    rw [alR_turn HDN.out.1 HEN.out.1]
                    obtain ⟨r1, r2⟩ := HER.out wy hb
                    exact alike_any e.node e.name e.a e.cap e.l d.node d.name d.a d.cap d.l wy r2 r1 HEN.out.2.few HEN.out.2.ok HDN.out.2.ok
                  have HQ : Hid _ := HO.out
                  have HKE : Hid (∀ W, Below wr.heap.size wr W → Hid (Below wr.heap.size wr W) ∧ W.cell? ⟨g, i * 3, none⟩ = some (.int .i64 d.node) ∧ W.cell? ⟨g, i * 3 + 1, none⟩ = some (.string d.name) ∧ W.cell? ⟨g, i * 3 + 2, none⟩ = some (.slice d.a d.l.length d.cap) ∧ W.cell? ⟨g, q * 3, none⟩ = some (.int .i64 e.node) ∧ W.cell? ⟨g, q * 3 + 1, none⟩ = some (.string e.name) ∧ W.cell? ⟨g, q * 3 + 2, none⟩ = some (.slice e.a e.l.length e.cap)) := fun W hb => ⟨hb, ((HO.out.below hb).cells HD.out).1, ((HO.out.below hb).cells HD.out).2.1, ((HO.out.below hb).cells HD.out).2.2, ((HO.out.below hb).cells he).1, ((HO.out.below hb).cells he).2.1, ((HO.out.below hb).cells he).2.2⟩
                  clear he hmk HER HEN
                  cases hb : alR d e
                  all_goals
                    rw [hb] at HAL HNX
                    go_upto_region 20 with fail
                    go_region_held3 (fun W => Hid (Below wr.heap.size wr W) ∧ W.cell? ⟨g, i * 3, none⟩ = some (.int .i64 d.node) ∧ W.cell? ⟨g, i * 3 + 1, none⟩ = some (.string d.name) ∧ W.cell? ⟨g, i * 3 + 2, none⟩ = some (.slice d.a d.l.length d.cap) ∧ W.cell? ⟨g, q * 3, none⟩ = some (.int .i64 e.node) ∧ W.cell? ⟨g, q * 3 + 1, none⟩ = some (.string e.name) ∧ W.cell? ⟨g, q * 3 + 2, none⟩ = some (.slice e.a e.l.length e.cap)) (first | exact ⟨(Below.refl _ _).drew, f0, f1, f2, e0, e1, e2⟩ | (rename_i hh K hK; exact HKE.out _ (hh.1.out.trans (hbw.mono hh.1.out.size))))
                      ((go_at_call 41; refine Calls.mono (HAL.out _ (by rename_i hh K hK; exact hh.1.out)) ?_; rintro z W' ⟨rfl, hbw⟩))
                    rename_i hh
                    have HQ2 : Hid (OutAt w W' g n cap ds) := HQ.out.below hh.1.out
                    clear hh HKE HAL e0 e1 e2 f0 f1 f2 HO HQ
                    go_wp2
                    go_roundw
                    case rel =>
                      refine ⟨m + (alR d e).toNat, q + 1, by omega, by omega, by go_num, ?_, HQ2, ?_⟩
                      · rw [hb]
                        simp only [Bool.toNat_false, Bool.toNat_true]
                        go_num
                      · have h1 := HNX.out
                        have h2 := HR.out
                        show _ = _
                        rw [hb]
                        simp only [Bool.toNat_false, Bool.toNat_true] at h1 ⊢
                        omega
                    case measure => simp only [intOf]; go_num
                · have hne : (e.node != -1) = false := by simpa using hmk
                  have HZR : Hid (runN (alR d) (ds.drop q) = 0) := run_mark he hmk
                  clear he hmk
                  go_wp2
                  go_roundw
                  case rel => exact ⟨i + 1, by omega, by go_num, HO⟩
                  case measure => simp only [intOf]; go_num
              · obtain rfl : q = n := by omega
                go_wp2
                go_roundw
                case rel => exact ⟨i + 1, by omega, by go_num, HO⟩
                case measure => simp only [intOf]; go_num
          · go_wp2
            go_ret
            exact ⟨rfl, HO.out.bel⟩
end Go.Proofs.Ytalbiekleggkoaa
