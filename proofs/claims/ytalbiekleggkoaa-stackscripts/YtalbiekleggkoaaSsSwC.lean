import Derived.Test.YtalbiekleggkoaaSsSw
import Derived.Laws.AppendOwnNone
import Derived.Deep.RegionHeld3
import Derived.BigQuiet
namespace Go.Proofs.Ytalbiekleggkoaa
open Go.RowKit

set_option maxRecDepth 1000000 in
set_option maxHeartbeats 8000000 in
theorem sw_cut (u0 u1 u2 u5 u7 u8 u10 u11 u12 u13 u14 u15 u16 u17 u18 u19 u20 u21 u22 u23 u24 u25 u26 u27 u28 u29 u30 u31 u32 u33 u34 u35 u36 u37 u38 u39 u40 u41 u42 u43 u44 u45 u46 u47 u48 u49 u50 u51 u52 u54 u55 u56 u57 u58 u59 u60 u61 u62 u63 u64 u65 u66 u67 u68 u69 u70 u71 u72 u73 u74 u75 u76 u77 u78 u79 u80 u81 u82 u83 u84 u85 u86 u87 u88 u89 u90 u91 u92 u93 u94 u95 u96 u97 u98 u99 u100 u101 u102 u103 u104 u105 u106 u107 u108 u109 u110 u111 u112 u113 u114 u115 u116 u117 u118 u119 u120 u121 u122 u123 u124 u125 u126 u127 u128 u129 u130 u131 u132 u133 u134 u135 u136 u137 u138 u139 u140 u141 u142 u143 u144 u145 u146 u147 u148 u149 u150 u151 u152 u153 u154 u155 u156 u157 u158 u159 u160 u161 u162 u163 u164 u165 u166 u167 u168 u169 u170 u171 u172 u173 u174 u175 u176 u177 u178 u179 u180 u181 u182 u183 u184 u185 u186 u187 u188 u189 u190 u191 u192 u193 u194 u195 u196 u197 u198 u199 u200 u201 u202 u203 u204 u205 u206 u207 u208 u209 u210 u211 u212 u213 u214 u215 u216 u217 u218 u219 u220 u221 u222 u223 u224 u225 u226 u227 u228 u229 u230 u231 u232 u233 u234 u235 u236 u237 u238 u239 u240 u241 u242 u243 u244 u245 u246 u247 u248 u249 u250 u251 u252 u253 u254 u255 u256 u257 u258 u259 u260 u261 u262 : Value) (w wr : World) (s k ab : Nat) (v : Value) (a4 : Option Addr) (c4 : Nat) (cs : List Itm) (p : Stp) (K : Act → World → Prop) (Q0 : Exit → Act → World → Prop)
    (h : SwAt w wr s k v (.slice a4 cs.length c4) cs ab p) (hk : k < 500)
    (hK : ∀ (x10 x11 x12 x13 x14 x15 x16 x17 x18 x19 x20 x54 x55 x56 x57 x58 x59 x60 x61 x62 x63 x64 x65 x66 x67 x68 x69 x70 x71 x72 x73 x74 x75 x76 x77 x78 x79 x80 x81 x82 x83 x84 x85 x86 x87 x88 x89 x90 x91 x92 x93 x94 x95 x96 x97 x98 x99 x100 x101 x102 x103 x104 x105 x106 x107 x108 x109 x110 x111 x112 x113 x114 x115 x116 x117 x118 x119 x120 x121 x122 x123 x124 x125 x126 x127 x128 x129 x130 x131 x132 x133 x134 x135 x136 x137 x138 x139 x140 x141 x142 x143 x144 x145 x146 x147 x148 x149 x150 x151 x152 x153 x154 x155 x156 x157 x158 x159 x160 x161 x162 x163 x164 x165 x166 x167 x168 x169 x170 x171 x172 x173 x174 x175 x176 x177 x178 x179 x180 x181 x182 x183 x184 x185 x186 x187 x188 x189 x190 x191 x192 x193 x194 x195 x196 x197 x198 x199 x200 x201 x202 x203 x204 x205 x206 x207 x208 x209 x210 x211 x212 x213 x214 x215 x216 x217 x218 x219 x220 x221 x222 x223 x224 x225 x226 x227 x228 x229 x230 x231 x232 : Value) (wy : World) (vn v4n : Value) (csn : List Itm), Hid (SwAt w wy s (k + 1) vn v4n csn ab p) → K ⟨#[u0, u1, u2, .pointer (some ⟨s, 0, none⟩), v4n, u5, .pointer (some ⟨ab, 0, none⟩), u7, u8, .bool true, x10, x11, x12, x13, x14, x15, x16, x17, x18, x19, x20, u21, u22, u23, u24, u25, u26, u27, u28, u29, u30, u31, u32, u33, u34, u35, u36, u37, u38, u39, u40, u41, u42, u43, u44, u45, u46, u47, u48, u49, u50, u51, u52, .int .i64 3, x54, x55, x56, x57, x58, x59, x60, x61, x62, x63, x64, x65, x66, x67, x68, x69, x70, x71, x72, x73, x74, x75, x76, x77, x78, x79, x80, x81, x82, x83, x84, x85, x86, x87, x88, x89, x90, x91, x92, x93, x94, x95, x96, x97, x98, x99, x100, x101, x102, x103, x104, x105, x106, x107, x108, x109, x110, x111, x112, x113, x114, x115, x116, x117, x118, x119, x120, x121, x122, x123, x124, x125, x126, x127, x128, x129, x130, x131, x132, x133, x134, x135, x136, x137, x138, x139, x140, x141, x142, x143, x144, x145, x146, x147, x148, x149, x150, x151, x152, x153, x154, x155, x156, x157, x158, x159, x160, x161, x162, x163, x164, x165, x166, x167, x168, x169, x170, x171, x172, x173, x174, x175, x176, x177, x178, x179, x180, x181, x182, x183, x184, x185, x186, x187, x188, x189, x190, x191, x192, x193, x194, x195, x196, x197, x198, x199, x200, x201, x202, x203, x204, x205, x206, x207, x208, x209, x210, x211, x212, x213, x214, x215, x216, x217, x218, x219, x220, x221, x222, x223, x224, x225, x226, x227, x228, x229, x230, x231, x232, u233, u234, u235, u236, u237, u238, u239, u240, u241, u242, u243, u244, u245, u246, u247, u248, u249, u250, u251, u252, u253, u254, u255, u256, u257, u258, u259, u260, u261, u262], []⟩ wy) :
    Code.wp Try.prog sw (Exit.then K Q0) ⟨#[u0, u1, u2, .pointer (some ⟨s, 0, none⟩), .slice a4 cs.length c4, u5, .pointer (some ⟨ab, 0, none⟩), u7, u8, .bool true, u10, u11, u12, u13, u14, u15, u16, u17, u18, u19, u20, u21, u22, u23, u24, u25, u26, u27, u28, u29, u30, u31, u32, u33, u34, u35, u36, u37, u38, u39, u40, u41, u42, u43, u44, u45, u46, u47, u48, u49, u50, u51, u52, .int .i64 3, u54, u55, u56, u57, u58, u59, u60, u61, u62, u63, u64, u65, u66, u67, u68, u69, u70, u71, u72, u73, u74, u75, u76, u77, u78, u79, u80, u81, u82, u83, u84, u85, u86, u87, u88, u89, u90, u91, u92, u93, u94, u95, u96, u97, u98, u99, u100, u101, u102, u103, u104, u105, u106, u107, u108, u109, u110, u111, u112, u113, u114, u115, u116, u117, u118, u119, u120, u121, u122, u123, u124, u125, u126, u127, u128, u129, u130, u131, u132, u133, u134, u135, u136, u137, u138, u139, u140, u141, u142, u143, u144, u145, u146, u147, u148, u149, u150, u151, u152, u153, u154, u155, u156, u157, u158, u159, u160, u161, u162, u163, u164, u165, u166, u167, u168, u169, u170, u171, u172, u173, u174, u175, u176, u177, u178, u179, u180, u181, u182, u183, u184, u185, u186, u187, u188, u189, u190, u191, u192, u193, u194, u195, u196, u197, u198, u199, u200, u201, u202, u203, u204, u205, u206, u207, u208, u209, u210, u211, u212, u213, u214, u215, u216, u217, u218, u219, u220, u221, u222, u223, u224, u225, u226, u227, u228, u229, u230, u231, u232, u233, u234, u235, u236, u237, u238, u239, u240, u241, u242, u243, u244, u245, u246, u247, u248, u249, u250, u251, u252, u253, u254, u255, u256, u257, u258, u259, u260, u261, u262], []⟩ wr := by
  conv => arg 2; whnf
  have hcl : cs.length ≤ 500 := by have := h.ss.len; omega
  obtain ⟨i0, hif, hz0, hz1, hz2⟩ := info_parts Try.infoRc
  have d1 := h.c1
  have hform := h.ss.form4
  by_cases hin : 0 ≤ p.at' ∧ p.at' < (cs.length : Int)
  · obtain ⟨i, hi⟩ : ∃ i : Nat, p.at' = (i : Int) := ⟨p.at'.toNat, by omega⟩
    have hi1 : i < cs.length := by omega
    have hi2 : (i : Int) < (cs.length : Int) := by omega
    have hi3 : (0 : Int) ≤ (i : Int) := by omega
    rw [hi] at d1
    have HC : Hid _ := scut_in s s v cs i wr h.ss.stk hi1 (by omega)
    have HS : Hid _ := h
    clear hin h
    obtain ⟨g, c5, e1, hcc⟩ : ∃ g c5, Value.slice a4 cs.length c4 = .slice (some ⟨g, 0, none⟩) cs.length c5 ∧ cs.length ≤ c5 := by
      rcases hform with ⟨_, e2⟩ | ⟨g, c5, e1, e2, _⟩
      · subst e2
        simp at hi1
      · exact ⟨g, c5, e1, e2⟩
    injection e1 with e1 _ e3
    subst e1 e3
    go_wp2_with fail
    refine Calls.mono HC.out ?_
    rintro e w2 ⟨rfl, hP⟩
    have HT : Hid _ := HS.out.turn hP.out
    have HRF : Hid _ := HT.out.ref
    have d2 : w2.cell? ⟨ab, 1, none⟩ = some (.int .i64 (i : Int)) := by
      have := HT.out.blk
      simp [World.cell?, this, hi]
    have hl5 := HS.out.ss.len
    have hn1 : ∀ j u, ((cs.take i).flatMap itmC)[j]? = some u → w2.cell? ((⟨g, 0, none⟩ : Addr).add j) = some u := fun j u hj => by
      rw [addr_at]
      rw [← iflat_take, List.getElem?_take] at hj
      split at hj
      · exact owns_at HRF.out j u hj
      · cases hj
    have hle : ((cs.take i).flatMap itmC).length = i * 2 := by rw [iflat_len]; simp; omega
    clear HC HS hP d1 hform
    go_wp2_with (at_builtin; refine wpList_append_own _ rfl _ _ 27 rfl w2.heap.size 32 i0 (.agg #[.int .i64 0, .string ⟨#[]⟩]) 2 24 Try.underlying27 hif hz0 hz1 hz2 rfl (by decide) (.slice none 0 0) (0) ([]) rfl (World.ownsRow_nil _ _ _ _) (⟨g, 0, none⟩) (i) (c4) ((cs.take i).flatMap itmC) rfl (hle) (hn1) (itm_one (cs.take i)) (by unfold maxLen; omega) (by omega) (Nat.le_refl _) ?_)
    intro v15 w3 hown3 hg3 _
    have hB3 : Below w2.heap.size w2 w3 := (Below.refl _ _).grown hg3 (Nat.le_refl _) (by simp [Value.ownBlock])
    obtain ⟨a15, c15, rfl⟩ : ∃ a c, v15 = .slice a (i) c := by
      rcases hown3.2 with ⟨h1, h2⟩ | ⟨g1, c1, _, h1, _⟩
      · exact ⟨none, 0, by rw [h1]; congr 1; omega⟩
      · exact ⟨_, c1, h1⟩
    have d3 : w3.cell? ⟨ab, 1, none⟩ = some (.int .i64 (i : Int)) := (hB3.cell (p := ⟨ab, 1, none⟩) (World.block_lt_of_cell? _ _ d2)).trans d2
    have hw1 : (i : Int) + 1 ≤ (cs.length : Int) := by omega
    have hw2 : ((i : Int) + 1).toNat = i + 1 := by omega
    have hw3 : (0 : Int) ≤ (i : Int) + 1 := by omega
    have hl2 : ((cs.drop (i + 1)).flatMap itmC).length = (cs.length - (i + 1)) * 2 := by rw [iflat_len]; simp
    have hsz := hB3.size
    have e4 : (cs.take i ++ cs.drop (i + 1)).length = i + (cs.length - (i + 1)) := by simp; omega
    have HN : Hid (∀ v4n w4, w4.ownsRow w2.heap.size 32 2 v4n (i + (cs.length - (i + 1))) ((cs.take i).flatMap itmC ++ (cs.drop (i + 1)).flatMap itmC) → w3.grownBy w4 (Value.slice a15 i c15).ownBlock → ∃ v', Hid (SwAt w w4 s (k + 1) v' v4n (cs.take i ++ cs.drop (i + 1)) ab p)) := fun v4n w4 ho hg => by
      have hB4 : Below w2.heap.size w2 w4 := hB3.grown hg hsz (rcown_ge hown3)
      rw [← e4, ← List.flatMap_append] at ho
      obtain ⟨v', h6⟩ := HT.out.anew (k := k + 1) ⟨hB4.os, hB4.tape, hB4.output, hB4.size, fun q hq _ => hB4.block q hq⟩ ho (by rw [e4]; omega)
      exact ⟨v', h6⟩
    have HRF3 : Hid _ := rcown_below HRF.out hB3
    have hn0 : c4 = i + 1 → ∀ j u, ((cs.drop (i + 1)).flatMap itmC)[j]? = some u → w3.cell? ((⟨g, 0, none⟩ : Addr).add j) = some u := fun hc j u hj => by
      rw [List.drop_of_length_le (by omega)] at hj
      simp at hj
    have hn2 : ∀ j u, ((cs.drop (i + 1)).flatMap itmC)[j]? = some u → w3.cell? ((⟨g, (i + 1) * 2, none⟩ : Addr).add j) = some u := fun j u hj => by
      rw [Addr.add_lit]
      rw [← iflat_drop, List.getElem?_drop] at hj
      exact owns_at HRF3.out _ u hj
    clear hn1 hle HT HRF HRF3 d2 hB3 hg3
    by_cases hc : c4 = i + 1
    · subst hc
      have e7 : cs.length - (i + 1) = 0 := by omega
      have HE8 : Hid (cs.drop (i + 1) = []) := List.drop_of_length_le (by omega)
      clear hn0 hn2
      go_wp2_with (at_builtin; refine wpList_append_own _ rfl _ _ 27 rfl w2.heap.size 32 i0 (.agg #[.int .i64 0, .string ⟨#[]⟩]) 2 24 Try.underlying27 hif hz0 hz1 hz2 rfl (by decide) (.slice a15 i c15) (i) ((cs.take i).flatMap itmC) rfl (hown3) (⟨g, 0, none⟩) (0) (0) ([]) rfl (rfl) (by intro j u hj; simp at hj) (by intro u hu; simp at hu) (by unfold maxLen; omega) (by omega) hsz ?_)
      intro v4n w4 hown4 hg4 _
      obtain ⟨v', HT6⟩ := HN.out v4n w4 (by rw [HE8.out, e7]; simpa using hown4) hg4
      obtain ⟨a4n, c4n, rfl⟩ : ∃ a c, v4n = .slice a (i) c := by
        rcases hown4.2 with ⟨h1, h2⟩ | ⟨g1, c1, _, h1, _⟩
        · exact ⟨none, 0, by rw [h1]; congr 1; omega⟩
        · exact ⟨_, c1, h1⟩
      clear HN hown4 hg4 hown3 HE8
      go_wp2
      exact hK _ _ _ _ _ _ _ _ _ _ _ _ _ _ _ _ _ _ _ _ _ _ _ _ _ _ _ _ _ _ _ _ _ _ _ _ _ _ _ _ _ _ _ _ _ _ _ _ _ _ _ _ _ _ _ _ _ _ _ _ _ _ _ _ _ _ _ _ _ _ _ _ _ _ _ _ _ _ _ _ _ _ _ _ _ _ _ _ _ _ _ _ _ _ _ _ _ _ _ _ _ _ _ _ _ _ _ _ _ _ _ _ _ _ _ _ _ _ _ _ _ _ _ _ _ _ _ _ _ _ _ _ _ _ _ _ _ _ _ _ _ _ _ _ _ _ _ _ _ _ _ _ _ _ _ _ _ _ _ _ _ _ _ _ _ _ _ _ _ _ _ _ _ _ _ _ _ _ _ _ _ _ _ _ _ _ _ _ _ _ _ _ _ _ HT6
    · have hc2 : ¬ (c4 - (i + 1) = 0) := by omega
      clear hn0
      go_wp2_with (at_builtin; refine wpList_append_own _ rfl _ _ 27 rfl w2.heap.size 32 i0 (.agg #[.int .i64 0, .string ⟨#[]⟩]) 2 24 Try.underlying27 hif hz0 hz1 hz2 rfl (by decide) (.slice a15 i c15) (i) ((cs.take i).flatMap itmC) rfl (hown3) (⟨g, (i + 1) * 2, none⟩) (cs.length - (i + 1)) (c4 - (i + 1)) ((cs.drop (i + 1)).flatMap itmC) rfl (hl2) (hn2) (itm_one (cs.drop (i + 1))) (by unfold maxLen; omega) (by omega) hsz ?_)
      intro v4n w4 hown4 hg4 _
      obtain ⟨v', HT6⟩ := HN.out v4n w4 hown4 hg4
      obtain ⟨a4n, c4n, rfl⟩ : ∃ a c, v4n = .slice a (i + (cs.length - (i + 1))) c := by
        rcases hown4.2 with ⟨h1, h2⟩ | ⟨g1, c1, _, h1, _⟩
        · exact ⟨none, 0, by rw [h1]; congr 1; omega⟩
        · exact ⟨_, c1, h1⟩
      clear HN hown4 hg4 hown3 hn2
      go_wp2
      exact hK _ _ _ _ _ _ _ _ _ _ _ _ _ _ _ _ _ _ _ _ _ _ _ _ _ _ _ _ _ _ _ _ _ _ _ _ _ _ _ _ _ _ _ _ _ _ _ _ _ _ _ _ _ _ _ _ _ _ _ _ _ _ _ _ _ _ _ _ _ _ _ _ _ _ _ _ _ _ _ _ _ _ _ _ _ _ _ _ _ _ _ _ _ _ _ _ _ _ _ _ _ _ _ _ _ _ _ _ _ _ _ _ _ _ _ _ _ _ _ _ _ _ _ _ _ _ _ _ _ _ _ _ _ _ _ _ _ _ _ _ _ _ _ _ _ _ _ _ _ _ _ _ _ _ _ _ _ _ _ _ _ _ _ _ _ _ _ _ _ _ _ _ _ _ _ _ _ _ _ _ _ _ _ _ _ _ _ _ _ _ _ _ _ _ HT6
  · have HC : Hid _ := scut_bad s s v cs p.at' wr h.ss.stk (by omega)
    have HS : Hid (SwAt w wr s (k + 1) v (.slice a4 cs.length c4) cs ab p) := ⟨⟨h.ss.bel, h.ss.stk, h.ss.ref, h.ss.far, by have := h.ss.len; omega⟩, h.blk⟩
    rcases (show ¬ 0 ≤ p.at' ∨ (0 ≤ p.at' ∧ ¬ p.at' < (cs.length : Int)) by omega) with h1 | ⟨h1, h2⟩
    all_goals
      clear hin h hform
      go_wp2_with fail
      refine Calls.mono HC.out ?_
      rintro e w2 ⟨rfl, rfl⟩
      go_wp2
      exact hK _ _ _ _ _ _ _ _ _ _ _ _ _ _ _ _ _ _ _ _ _ _ _ _ _ _ _ _ _ _ _ _ _ _ _ _ _ _ _ _ _ _ _ _ _ _ _ _ _ _ _ _ _ _ _ _ _ _ _ _ _ _ _ _ _ _ _ _ _ _ _ _ _ _ _ _ _ _ _ _ _ _ _ _ _ _ _ _ _ _ _ _ _ _ _ _ _ _ _ _ _ _ _ _ _ _ _ _ _ _ _ _ _ _ _ _ _ _ _ _ _ _ _ _ _ _ _ _ _ _ _ _ _ _ _ _ _ _ _ _ _ _ _ _ _ _ _ _ _ _ _ _ _ _ _ _ _ _ _ _ _ _ _ _ _ _ _ _ _ _ _ _ _ _ _ _ _ _ _ _ _ _ _ _ _ _ _ _ _ _ _ _ _ _ HS
end Go.Proofs.Ytalbiekleggkoaa
