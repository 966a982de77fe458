/-
  One node visited.
-/
import Derived.Test.YtjbfgiicaaljjaaTwWalk
namespace Go.Proofs.Ytjbfgiicaaljjaa
open Go.RowKit

theorem cell_of {w : World} {b : Nat} {v : Value} {e : TypeId} (h : w.heap[b]? = some (.cells #[v] e (0, 0))) : w.cell? ⟨b, 0, none⟩ = some v := by simp [World.cell?, h]

set_option maxRecDepth 100000 in
set_option maxHeartbeats 400000 in
theorem visit_any (w0 : World) (t tb ob vb : Nat) (ns : List Nd) (cs : List Cel) (B g cap : Nat) (hT : FamAt w0 t B g cap ns cs) (hok : NsOk ns) : ∀ f, VisitOk w0 t tb ob vb ns f := by
  intro f
  induction f with
  | zero => intro n vs o w h1 h2; omega
  | succ f ih =>
    intro n vs o w hf hn hM hI
    obtain ⟨i0, hi, hz0, hz1, hz2⟩ := info_parts Try.infoInt
    obtain ⟨⟨a, c, hblk, hown, ho⟩, htb, hvb, hbel, hlo⟩ := hI
    have hI : WalkI w0 t tb ob vb vs o w := ⟨⟨a, c, hblk, hown, ho⟩, htb, hvb, hbel, hlo⟩
    have hob : w.cell? ⟨ob, 0, none⟩ = some (.slice a vs.length c) := by simp [World.cell?, hblk]
    have hown2 : ∀ o, (w.alloc o).ownsRow w0.heap.size 3 1 (.slice a vs.length c) vs.length (intC vs) := fun o => World.ownsRow.alloc hown o
    have HP : Hid (∀ (o1 : Obj) (w2 : World) (g2 c2 : Nat), (w.alloc o1).grownBy w2 (Value.slice a vs.length c).ownBlock → ((Value.slice a vs.length c).ownBlock = some g2 ∨ g2 = (w.alloc o1).heap.size) → w2.ownsRow w0.heap.size 3 1 (.slice (some ⟨g2, 0, none⟩) (vs.length + 1) c2) (vs.length + 1) (intC vs ++ [.int .i64 (n : Int)]) → _) := fun o1 w2 g2 c2 h1 h2 h3 => WalkI.put hI hblk hown ho h1 h2 h3
    have HE : Hid (∀ o1 w1, WalkI w0 t tb ob vb (vs ++ [n]) o1 w1 → _) := fun o1 w1 h => eachKid_any w0 t tb ob vb ns cs B g cap hT hok f ih n (vs ++ [n]) o1 w1 hf hn (by rw [List.length_append, List.length_singleton]; omega) h
    have hlen : vs.length ≤ 1000000 := by omega
    have hRw : w0.heap.size ≤ w.heap.size := hbel.size
    have hap : (vs ++ [n]) ++ undL ns (f + 1) n = vs ++ n :: undL ns (f + 1) n := by rw [List.append_assoc, List.singleton_append]
    rw [hap] at HE
    have HTB : Hid _ := htb
    have HVB : Hid _ := hvb
    clear hI hblk hown ho htb hvb hbel hlo hM ih hf hap
    generalize undL ns (f + 1) n = UL at *
    generalize hVL : vs ++ n :: UL = VL at HE ⊢
    generalize hVN : vs ++ [n] = VN at *
    clear hVN hVL
    generalize vs.length = L at *
    generalize intC vs = LC at *
    go_enter Try.func49, Try.ntmps49
    go_wp2_with (at_builtin; refine wpList_append_lies _ rfl _ _ 30 rfl w0.heap.size 3 i0 (.int .i64 0) 1 8 Try.underlying30 hi hz0 hz1 hz2 rfl (by decide) _ L LC rfl (hown2 _) ⟨w.heap.size, 0, none⟩ 1 1 [.int .i64 (n : Int)] rfl rfl (fun j u hj => cell_one_new w (.int .i64 (n : Int)) 3 j u hj) (ints_oneCell .i64 [(n : Int)]) (by omega) (by unfold maxLen; omega) (by omega) (by simp; omega) _ rfl ?_; intro g2 c2 w2 hown' hgrow' hat hlt2; obtain ⟨q1, q2, HF⟩ := HP.out _ w2 g2 c2 hgrow' hat hown'; clear hown' hgrow' hat hlt2 HP hown2; obtain ⟨o1, h1, h2, h3⟩ := HF.out; have ctb : (w2.setCell ⟨ob, 0, none⟩ (.slice (some ⟨g2, 0, none⟩) (L + 1) c2)).cell? ⟨tb, 0, none⟩ = some (.pointer (some ⟨t, 0, none⟩)) := cell_of h1.tbk; have cvb : (w2.setCell ⟨ob, 0, none⟩ (.slice (some ⟨g2, 0, none⟩) (L + 1) c2)).cell? ⟨vb, 0, none⟩ = some (visitV ob tb vb) := cell_of h1.vbk; have HEC : Hid _ := HE.out o1 _ h1; have HFIN : Hid (∀ we, WalkTo w0 t tb ob vb VL o1 _ we → WalkTo w0 t tb ob vb VL o w we) := fun we h => WalkTo.next h2 h3 h; clear h1 h2 h3 HF HE HTB HVB)
    refine Calls.mono HEC.out ?_
    rintro e we ⟨rfl, h6⟩
    have HR : Hid _ := HFIN.out we h6.out
    clear h6 HFIN HEC
    go_wp2
    go_end0
    exact ⟨rfl, HR⟩
end Go.Proofs.Ytjbfgiicaaljjaa
