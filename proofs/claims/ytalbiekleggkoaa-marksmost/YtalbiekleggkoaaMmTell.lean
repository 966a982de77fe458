/-
  All entries, with attributes.
-/
import Derived.Test.YtalbiekleggkoaaMmAdd
namespace Go.Proofs.Ytalbiekleggkoaa
open Go.RowKit

theorem rents_lit (w : World) : (w.alloc (.cells #[] 58)).ownsRow w.heap.size 58 3 (.slice (some ⟨w.heap.size, 0, none⟩) 0 0) 0 [] :=
  ⟨rfl, .inr ⟨w.heap.size, 0, #[], rfl, Nat.le_refl _, heap_alloc_new w _, Nat.le_refl _, by unfold maxLen; omega, rfl, rfl⟩⟩

set_option maxRecDepth 100000 in
set_option maxHeartbeats 4000000 in
theorem cloneR_any (B : Nat) (v : Value) (cs : List Enr) (w : World) (h : w.ownsRow B 58 3 v cs.length (cs.flatMap enrC)) (hlen : cs.length ≤ 1000000) :
    Calls Try.prog 62 #[v] w fun e w' => ∃ v', e = .returned v' ∧ w'.ownsRow w.heap.size 58 3 v' cs.length (cs.flatMap enrC) ∧ Below w.heap.size w w' := by
  obtain ⟨i0, hi, hz0, hz1, hz2⟩ := info_parts mkDelInfo
  have hq : ∀ (a : Option Addr) (n c : Nat) (w : World), (binOp .eql 49 (.slice a n c) (.slice none 0 0)).run Try.prog w = .ok (.bool a.isNone) w := fun a n c w => Lib.run_eql_slice_nil w _ _ a n c 0 0 Try.underlying49
  have hform : (v = .slice none 0 0 ∧ cs.length = 0) ∨ ∃ g cap, v = .slice (some ⟨g, 0, none⟩) cs.length cap ∧ cs.length ≤ cap := by
    rcases h.2 with ⟨h1, h2⟩ | ⟨g, cap, cur, h1, _, _, h2, _⟩
    · exact .inl ⟨h1, h2⟩
    · exact .inr ⟨g, cap, h1, h2⟩
  rcases hform with ⟨rfl, h0⟩ | ⟨g, cap, rfl, hcap⟩
  · obtain rfl : cs = [] := List.length_eq_zero_iff.1 h0
    clear h0 h
    go_enter Try.func62, Try.ntmps62
    go_wp2
    go_ret
    exact ⟨_, rfl, World.ownsRow_nil _ _ _ _, Below.refl _ _⟩
  · have HB : Hid (Below w.heap.size w (w.alloc (.cells #[] 58))) := (Below.refl _ _).alloc (Nat.le_refl _) _
    have HC : Hid (∀ j u, (cs.flatMap enrC)[j]? = some u → (w.alloc (.cells #[] 58)).cell? ((⟨g, 0, none⟩ : Addr).add j) = some u) := fun j u hj => (owns_kept (out := fun _ => False) h (Kept.below HB.out) (fun _ _ e => e)).cells rfl j u hj
    have hI : (cs.length : Int) ≤ (cap : Int) := by omega
    have HL : Hid ((cs.flatMap enrC).length = cs.length * 3) := rflat_len cs
    have HO : Hid _ := enr_one cs
    clear h hcap
    go_enter Try.func62, Try.ntmps62
    go_wp2_with (at_builtin; refine wpList_append_own _ rfl _ _ 49 rfl w.heap.size 58 i0 (.agg #[.int .i64 0, .string ⟨#[]⟩, .slice none 0 0]) 3 48 Try.underlying49 hi hz0 hz1 hz2 rfl (by decide) _ 0 _ rfl (rents_lit w) ⟨g, 0, none⟩ cs.length cap (cs.flatMap enrC) rfl HL.out HC.out HO.out (by unfold maxLen; omega) (by omega) (by simp) ?_)
    intro v' w' hown' hgrow _
    have hX : w'.ownsRow w.heap.size 58 3 v' cs.length (cs.flatMap enrC) := by simpa using hown'
    have HW : Hid _ := hX
    have HG : Hid (Below w.heap.size w w') := HB.out.grown hgrow (by simp) (fun k hk => by simp [Value.ownBlock] at hk; omega)
    have hf : ∃ a' c', v' = .slice a' cs.length c' := by
      rcases hX.2 with ⟨h1, h2⟩ | ⟨g', cap', cur, h1, _⟩
      · exact ⟨none, 0, by rw [h1, h2]⟩
      · exact ⟨_, _, h1⟩
    obtain ⟨a', c', rfl⟩ := hf
    clear hown' hgrow hX
    go_wp2
    go_ret
    exact ⟨_, rfl, HW.out, HG.out⟩

theorem rset_at (xs : List Value) (j : Nat) (u : Value) (h : xs[j]? = some u) : xs.set j u = xs := by
  obtain ⟨hlt, he⟩ := List.getElem?_eq_some_iff.1 h
  rw [← he]
  exact List.set_getElem_self hlt


/-- What an entry is, wherever its attributes lie. -/
def skR (c : Enr) : Int × ByteArray × List Atr := (c.node, c.name, c.l)

theorem rflat_set (ds : List Enr) : ∀ (k : Nat) (d : Enr) (a' : Option Addr) (cap' : Nat), ds[k]? = some d → (ds.flatMap enrC).set (k * 3 + 2) (.slice a' d.l.length cap') = (ds.set k ⟨d.node, d.name, a', cap', d.l⟩).flatMap enrC := by
  induction ds with
  | nil => intro k d a' cap' h; simp at h
  | cons c cs ih =>
    intro k d a' cap' h
    match k, h with
    | 0, h =>
      obtain rfl : c = d := by simpa using h
      rfl
    | k + 1, h =>
      rw [List.flatMap_cons, List.set_append, if_neg (by rw [enrC_len]; omega), enrC_len, show (k + 1) * 3 + 2 - 3 = k * 3 + 2 by omega, ih k d a' cap' (by simpa using h)]
      rfl
theorem sk_set (ds : List Enr) : ∀ (k : Nat) (d : Enr) (a' : Option Addr) (cap' : Nat), ds[k]? = some d → (ds.set k ⟨d.node, d.name, a', cap', d.l⟩).map skR = ds.map skR := by
  induction ds with
  | nil => intro k d a' cap' h; simp at h
  | cons c cs ih =>
    intro k d a' cap' h
    match k, h with
    | 0, h =>
      obtain rfl : c = d := by simpa using h
      rfl
    | k + 1, h =>
      rw [List.set_cons_succ, List.map_cons, List.map_cons, ih k d a' cap' (by simpa using h)]

/-- A row of entries of its own, each with its attributes. -/
structure EntsR (w wr : World) (v : Value) (ds cs : List Enr) : Prop where
  own : wr.ownsRow w.heap.size 58 3 v ds.length (ds.flatMap enrC)
  bel : Below w.heap.size w wr
  sh : ds.map skR = cs.map skR
  ents : ∀ d ∈ ds, AtrRow wr d.a d.cap d.l
theorem EntsR.len {w wr : World} {v : Value} {ds cs : List Enr} (h : EntsR w wr v ds cs) : ds.length = cs.length := by
  have := congrArg List.length h.sh
  simpa using this
theorem EntsR.below {w wr wy : World} {v : Value} {ds cs : List Enr} (h : EntsR w wr v ds cs) (hb : Below wr.heap.size wr wy) : EntsR w wy v ds cs :=
  ⟨owns_kept (out := fun _ => False) h.own (Kept.below hb) (fun _ _ e => e), h.bel.trans (hb.mono h.bel.size), h.sh, fun d hd => (h.ents d hd).below hb⟩
theorem EntsR.put {w wy : World} {g n cap : Nat} {ds cs : List Enr} (h : EntsR w wy (.slice (some ⟨g, 0, none⟩) n cap) ds cs) (hn : n = ds.length) {k : Nat} {d : Enr} (hk : ds[k]? = some d) {a' : Option Addr} {cap' : Nat} (hr : AtrRow wy a' cap' d.l) :
    EntsR w (((wy.setCell ⟨g, k * 3, none⟩ (.int .i64 d.node)).setCell ⟨g, k * 3 + 1, none⟩ (.string d.name)).setCell ⟨g, k * 3 + 2, none⟩ (.slice a' d.l.length cap')) (.slice (some ⟨g, 0, none⟩) n cap) (ds.set k ⟨d.node, d.name, a', cap', d.l⟩) cs := by
  subst hn
  have ho := h.own
  have hg := (owns_lt ho g rfl).1
  have e0 := rflat_at ds k 0 d _ hk rfl
  rw [Nat.add_zero] at e0
  have e1 := rflat_at ds k 1 d _ hk rfl
  have hKK : Kept (fun j => j = g) wy (((wy.setCell ⟨g, k * 3, none⟩ (.int .i64 d.node)).setCell ⟨g, k * 3 + 1, none⟩ (.string d.name)).setCell ⟨g, k * 3 + 2, none⟩ (.slice a' d.l.length cap')) := (((Kept.refl (fun j => j = g) wy).store ⟨g, k * 3, none⟩ rfl _).store ⟨g, k * 3 + 1, none⟩ rfl _).store ⟨g, k * 3 + 2, none⟩ rfl _
  have htyp : ∃ xs r, wy.heap[g]? = some (.cells xs 58 r) := by
    rcases ho.2 with ⟨hv, _⟩ | ⟨g', cap', cur, hv, _, hh, _⟩
    · cases hv
    · injection hv with hv _ _
      injection hv with hv
      injection hv with hv _ _
      subst hv
      exact ⟨_, _, hh⟩
  obtain ⟨xs, r, hty⟩ := htyp
  refine ⟨?_, ?_, ?_, ?_⟩
  · have s0 := owns_set ho (k * 3) (.int .i64 d.node)
    rw [rset_at _ _ _ e0] at s0
    have s1 := owns_set s0 (k * 3 + 1) (.string d.name)
    rw [rset_at _ _ _ e1] at s1
    have s2 := owns_set s1 (k * 3 + 2) (.slice a' d.l.length cap')
    rw [rflat_set ds k d a' cap' hk] at s2
    rw [List.length_set]
    exact s2
  · exact h.bel.trans ⟨hKK.os, hKK.tape, hKK.output, hKK.size, fun j hj => hKK.block j (Nat.lt_of_lt_of_le hj h.bel.size) (by omega)⟩
  · rw [sk_set ds k d a' cap' hk]
    exact h.sh
  · intro c hc
    have hrc : AtrRow wy c.a c.cap c.l := by
      rcases List.mem_or_eq_of_mem_set hc with hc | rfl
      · exact h.ents c hc
      · exact hr
    exact hrc.kept hKK (fun j hj e => hrc.apart hty j hj e)

set_option maxRecDepth 100000 in
set_option maxHeartbeats 4000000 in
theorem rentries_in (s B : Nat) (v : Value) (cs : List Enr) (w : World) (h : RListAt w s B v cs) (hok : ∀ c ∈ cs, EnrOk c) (hl : cs.length ≤ 100000) :
    Calls Try.prog 36 #[.pointer (some ⟨s, 0, none⟩)] w fun e w' => ∃ v' ds, e = .returned v' ∧ Hid (EntsR w w' v' ds cs) := by
  have HC : Hid _ := cloneR_any B v cs w h.own (by omega)
  have c0 := h.c0
  have HS : Hid _ := h
  have HO : Hid (∀ x w, AtrRow w x.a x.cap x.l → EnrOk x → _) := fun x w hr hk => own_any x w hr hk.few
  have HFEW : Hid (∀ ds : List Enr, ds.map skR = cs.map skR → ∀ d ∈ ds, EnrOk d) := by
    intro ds hs d hd
    have hm : skR d ∈ cs.map skR := by
      rw [← hs]
      exact List.mem_map_of_mem hd
    obtain ⟨c, hc, he⟩ := List.mem_map.1 hm
    have hk := hok c hc
    have hl : c.l = d.l := congrArg (fun z => z.2.2) he
    exact ⟨by rw [← hl]; exact hk.few, by rw [← hl]; exact hk.ok⟩
  unfold enrV at HO
  clear h hok
  go_enter Try.func36, Try.ntmps36
  go_wp2_with fail
  refine Calls.mono HC.out ?_
  rintro e w1 ⟨v', rfl, ho1, hb1⟩
  have HE1 : Hid (EntsR w w1 v' cs cs) := ⟨ho1, hb1, rfl, fun d hd => (HS.out.ents d hd).below hb1⟩
  have hform : (v' = .slice none 0 0 ∧ cs.length = 0) ∨ ∃ g cap, v' = .slice (some ⟨g, 0, none⟩) cs.length cap ∧ cs.length ≤ cap := by
    rcases ho1.2 with ⟨h1, h2⟩ | ⟨g, cap, cur, h1, _, _, h2, _⟩
    · exact .inl ⟨h1, h2⟩
    · exact .inr ⟨g, cap, h1, h2⟩
  clear c0 hb1 HC ho1 HS
  rcases hform with ⟨rfl, h0⟩ | ⟨g, cap, rfl, hcap⟩
  · obtain rfl : cs = [] := List.length_eq_zero_iff.1 h0
    clear h0
    go_wp2
    go_loop [15] (fun i => i = .int .i64 0) (fun _ => 0)
    case atStart => rfl
    case round =>
      subst hrel
      go_wp2
      go_ret
      first | exact ⟨_, _, rfl, HE1⟩ | exact ⟨_, rfl, _, HE1⟩
  · generalize hN : cs.length = n at *
    have HNN : Hid (cs.length = n) := hN
    clear hN
    go_wp2
    go_loopw [15] (fun i wr => ∃ k : Nat, k ≤ n ∧ i = .int .i64 k ∧ ∃ ds, Hid (EntsR w wr (.slice (some ⟨g, 0, none⟩) n cap) ds cs)) (fun i _ => n - (intOf i).toNat)
    case atStart => exact ⟨0, Nat.zero_le _, rfl, _, HE1⟩
    case round =>
      clear HE1
      obtain ⟨k, hk, rfl, ds, HI⟩ := hrel
      have HLN : Hid (n = ds.length) := by rw [← HNN.out]; exact HI.out.len.symm
      by_cases hlt : k < n
      · obtain ⟨d, hd⟩ : ∃ d, ds[k]? = some d := ⟨_, List.getElem?_eq_getElem (by have := HLN.out; omega)⟩
        have e0 := rflat_at ds k 0 d _ hd rfl
        rw [Nat.add_zero] at e0
        have hown : ∀ wy, EntsR w wy (.slice (some ⟨g, 0, none⟩) n cap) ds cs → wy.cell? ⟨g, k * 3, none⟩ = some (.int .i64 d.node) ∧ wy.cell? ⟨g, k * 3 + 1, none⟩ = some (.string d.name) ∧ wy.cell? ⟨g, k * 3 + 2, none⟩ = some (.slice d.a d.l.length d.cap) ∧ ∀ j, wy.frozen? ⟨g, j, none⟩ = false := fun wy hy => by
          have ho := hy.own
          rw [← HLN.out] at ho
          exact ⟨owns_at ho _ _ e0, owns_at ho _ _ (rflat_at ds k 1 d _ hd rfl), owns_at ho _ _ (rflat_at ds k 2 d _ hd rfl), fun j => owns_fz ho j⟩
        obtain ⟨a0, a1, a2, _⟩ := hown wr HI.out
        have hI : (k : Int) < (n : Int) := by omega
        have HDK : Hid (EnrOk d) := HFEW.out ds HI.out.sh d (List.mem_of_getElem? hd)
        have HDR : Hid (AtrRow wr d.a d.cap d.l) := HI.out.ents d (List.mem_of_getElem? hd)
        have HN : Hid (∀ wy a' cap', Below wr.heap.size wr wy → AtrRow wy a' cap' d.l → wy.cell? ⟨g, k * 3, none⟩ = some (.int .i64 d.node) ∧ wy.cell? ⟨g, k * 3 + 1, none⟩ = some (.string d.name) ∧ wy.cell? ⟨g, k * 3 + 2, none⟩ = some (.slice d.a d.l.length d.cap) ∧ (∀ j, wy.frozen? ⟨g, j, none⟩ = false) ∧ Hid (EntsR w (((wy.setCell ⟨g, k * 3, none⟩ (.int .i64 d.node)).setCell ⟨g, k * 3 + 1, none⟩ (.string d.name)).setCell ⟨g, k * 3 + 2, none⟩ (.slice a' d.l.length cap')) (.slice (some ⟨g, 0, none⟩) n cap) (ds.set k ⟨d.node, d.name, a', cap', d.l⟩) cs)) := by
          intro wy a' cap' hb hr
          have hy := HI.out.below hb
          obtain ⟨b0, b1, b2, b3⟩ := hown wy hy
          exact ⟨b0, b1, b2, b3, hy.put HLN.out hd hr⟩
        have hal : ∀ o, Below wr.heap.size wr (wr.alloc o) := fun o => (Below.refl _ _).alloc (Nat.le_refl _) o
        have HAL : Hid _ := hal
        clear hd hal hown e0 HI HLN
        go_wp2_with fail
        refine Calls.mono (HO.out d _ (HDR.out.below (HAL.out _)) HDK.out) ?_
        rintro e wy ⟨a', cap', rfl, hr, hby⟩
        obtain ⟨n0, n1, n2, nf, HX⟩ := HN.out wy a' cap' ((HAL.out _).trans (hby.mono (HAL.out _).size)) hr.out
        clear a0 a1 a2 HN hby hr
        go_wp2
        go_roundw
        case rel => exact ⟨k + 1, by omega, by go_num, _, HX⟩
        case measure => simp only [intOf]; go_num
      · go_wp2
        go_ret
        first | exact ⟨_, _, rfl, HI⟩ | exact ⟨_, rfl, _, HI⟩
end Go.Proofs.Ytalbiekleggkoaa
