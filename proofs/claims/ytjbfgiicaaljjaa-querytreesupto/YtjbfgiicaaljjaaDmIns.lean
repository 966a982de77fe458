/-
  A node stands behind all kids of another one.
-/
import Derived.Test.YtjbfgiicaaljjaaDmSmall
namespace Go.Proofs.Ytjbfgiicaaljjaa
open Go.RowKit

theorem Try.infoInt : (Try.prog.info? 3).map (fun i => (i.zero, i.size, i.bytes)) = some (some (.int .i64 0), 1, 8) := by kernel_rfl

def intC (ks : List Nat) : List Value := ks.map fun (k : Nat) => Value.int .i64 (k : Int)

/-- A row of numbers more. -/
structure KidsP (w : World) (B : Nat) (v : Value) (ks : List Nat) (n : Nat) (v' : Value) (w' : World) : Prop where
  own : w'.ownsRow B 3 1 v' (ks ++ [n]).length (intC (ks ++ [n]))
  grown : w.grownBy w' v.ownBlock
  lies : v'.ownBlock = v.ownBlock ∨ ∀ k, v'.ownBlock = some k → w.heap.size ≤ k

set_option maxRecDepth 100000 in
set_option maxHeartbeats 2000000 in
theorem ins_end (B b n : Nat) (v : Value) (ks : List Nat) (w : World) (hO : w.ownsRow B 3 1 v ks.length (intC ks)) (hb : w.cell? ⟨b, 0, none⟩ = some (.int .i64 (n : Int))) (hB : B ≤ w.heap.size) (hks : ks.length ≤ 1000000) :
    Calls Try.prog 91 #[v, .int .i64 (ks.length : Int), .slice (some ⟨b, 0, none⟩) 1 1] w fun e w' => ∃ g' cap', e = .returned (.slice (some ⟨g', 0, none⟩) (ks.length + 1) cap') ∧ Hid (KidsP w B v ks n (.slice (some ⟨g', 0, none⟩) (ks.length + 1) cap') w') := by
  obtain ⟨i0, hi, hz0, hz1, hz2⟩ := info_parts Try.infoInt
  have HO : Hid _ := hO
  have hform : (v = .slice none 0 0 ∧ ks.length = 0) ∨ ∃ g cap, v = .slice (some ⟨g, 0, none⟩) ks.length cap ∧ ks.length ≤ cap := by
    rcases hO.2 with ⟨h1, h2⟩ | ⟨g, cap, cur, h1, _, _, h2, _⟩
    · exact .inl ⟨h1, h2⟩
    · exact .inr ⟨g, cap, h1, h2⟩
  have HN : Hid (∀ j u, [Value.int .i64 (n : Int)][j]? = some u → w.cell? ((⟨b, 0, none⟩ : Addr).add j) = some u) := by
    intro j u hj
    match j, hj with
    | 0, hj =>
      rw [addr_at, hb]
      simpa using hj
  clear hO hb
  rcases hform with ⟨rfl, h0⟩ | ⟨g, cap, rfl, hcap⟩
  · obtain rfl : ks = [] := List.length_eq_zero_iff.1 h0
    clear h0
    go_enter Try.func91, Try.ntmps91
    go_wp2_with (at_builtin; refine wpList_append_own_at _ rfl _ _ 30 rfl B 3 i0 (.int .i64 0) 1 8 Try.underlying30 hi hz0 hz1 hz2 rfl (by decide) _ 0 [] rfl HO.out ⟨b, 0, none⟩ 1 1 [.int .i64 (n : Int)] rfl rfl HN.out (by intro u hu; simp at hu; subst hu; rfl) (by unfold maxLen; omega) (by omega) hB ?_)
    intro v' w' hown' hgrow _ hat
    obtain ⟨g', cap', rfl⟩ := Joins.ownsRow_form hown' (by omega)
    have HE : Hid (KidsP w B (.slice none 0 0) [] n (.slice (some ⟨g', 0, none⟩) (0 + 1) cap') w') := ⟨by simpa [intC] using hown', hgrow, by
      rcases hat with h | h
      · exact .inl h
      · exact .inr fun k e => by rw [h] at e; injection e with e; omega⟩
    clear hown' hgrow hat
    go_wp2
    go_ret
    exact ⟨g', cap', rfl, HE⟩
  · have hI : (ks.length : Int) ≤ (cap : Int) := by omega
    go_enter Try.func91, Try.ntmps91
    go_wp2_with (at_builtin; refine wpList_append_own_at _ rfl _ _ 30 rfl B 3 i0 (.int .i64 0) 1 8 Try.underlying30 hi hz0 hz1 hz2 rfl (by decide) _ ks.length (intC ks) rfl HO.out ⟨b, 0, none⟩ 1 1 [.int .i64 (n : Int)] rfl rfl HN.out (by intro u hu; simp at hu; subst hu; rfl) (by unfold maxLen; omega) (by omega) hB ?_)
    all_goals
      intro v' w' hown' hgrow _ hat
      obtain ⟨g', cap', rfl⟩ := Joins.ownsRow_form hown' (by omega)
      have HE : Hid (KidsP w B (.slice (some ⟨g, 0, none⟩) ks.length cap) ks n (.slice (some ⟨g', 0, none⟩) (ks.length + 1) cap') w') := ⟨by simpa [intC] using hown', hgrow, by
        rcases hat with h | h
        · exact .inl h
        · exact .inr fun k e => by rw [h] at e; injection e with e; omega⟩
      clear hown' hgrow hat
      go_wp2
      go_ret
      exact ⟨g', cap', rfl, HE⟩
end Go.Proofs.Ytjbfgiicaaljjaa
