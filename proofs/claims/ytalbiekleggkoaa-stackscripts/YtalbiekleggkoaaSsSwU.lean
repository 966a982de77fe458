import Derived.Test.YtalbiekleggkoaaSsSw
import Derived.Deep.RegionHeld3
import Derived.BigQuiet
namespace Go.Proofs.Ytalbiekleggkoaa
open Go.RowKit

set_option maxRecDepth 1000000 in
set_option maxHeartbeats 8000000 in
theorem sw_until (u0 u1 u2 u5 u7 u8 u10 u11 u12 u13 u14 u15 u16 u17 u18 u19 u20 u21 u22 u23 u24 u25 u26 u27 u28 u29 u30 u31 u32 u33 u34 u35 u36 u37 u38 u39 u40 u41 u42 u43 u44 u45 u46 u47 u48 u49 u50 u51 u52 u54 u55 u56 u57 u58 u59 u60 u61 u62 u63 u64 u65 u66 u67 u68 u69 u70 u71 u72 u73 u74 u75 u76 u77 u78 u79 u80 u81 u82 u83 u84 u85 u86 u87 u88 u89 u90 u91 u92 u93 u94 u95 u96 u97 u98 u99 u100 u101 u102 u103 u104 u105 u106 u107 u108 u109 u110 u111 u112 u113 u114 u115 u116 u117 u118 u119 u120 u121 u122 u123 u124 u125 u126 u127 u128 u129 u130 u131 u132 u133 u134 u135 u136 u137 u138 u139 u140 u141 u142 u143 u144 u145 u146 u147 u148 u149 u150 u151 u152 u153 u154 u155 u156 u157 u158 u159 u160 u161 u162 u163 u164 u165 u166 u167 u168 u169 u170 u171 u172 u173 u174 u175 u176 u177 u178 u179 u180 u181 u182 u183 u184 u185 u186 u187 u188 u189 u190 u191 u192 u193 u194 u195 u196 u197 u198 u199 u200 u201 u202 u203 u204 u205 u206 u207 u208 u209 u210 u211 u212 u213 u214 u215 u216 u217 u218 u219 u220 u221 u222 u223 u224 u225 u226 u227 u228 u229 u230 u231 u232 u233 u234 u235 u236 u237 u238 u239 u240 u241 u242 u243 u244 u245 u246 u247 u248 u249 u250 u251 u252 u253 u254 u255 u256 u257 u258 u259 u260 u261 u262 : Value) (w wr : World) (s k ab : Nat) (v : Value) (a4 : Option Addr) (c4 : Nat) (cs : List Itm) (p : Stp) (K : Act → World → Prop) (Q0 : Exit → Act → World → Prop)
    (h : SwAt w wr s k v (.slice a4 cs.length c4) cs ab p) (hk : k < 500)
    (hK : ∀ (x10 x11 x12 x13 x14 x15 x16 x17 x18 x19 x20 x54 x55 x56 x57 x58 x59 x60 x61 x62 x63 x64 x65 x66 x67 x68 x69 x70 x71 x72 x73 x74 x75 x76 x77 x78 x79 x80 x81 x82 x83 x84 x85 x86 x87 x88 x89 x90 x91 x92 x93 x94 x95 x96 x97 x98 x99 x100 x101 x102 x103 x104 x105 x106 x107 x108 x109 x110 x111 x112 x113 x114 x115 x116 x117 x118 x119 x120 x121 x122 x123 x124 x125 x126 x127 x128 x129 x130 x131 x132 x133 x134 x135 x136 x137 x138 x139 x140 x141 x142 x143 x144 x145 x146 x147 x148 x149 x150 x151 x152 x153 x154 x155 x156 x157 x158 x159 x160 x161 x162 x163 x164 x165 x166 x167 x168 x169 x170 x171 x172 x173 x174 x175 x176 x177 x178 x179 x180 x181 x182 x183 x184 x185 x186 x187 x188 x189 x190 x191 x192 x193 x194 x195 x196 x197 x198 x199 x200 x201 x202 x203 x204 x205 x206 x207 x208 x209 x210 x211 x212 x213 x214 x215 x216 x217 x218 x219 x220 x221 x222 x223 x224 x225 x226 x227 x228 x229 x230 x231 x232 : Value) (wy : World) (vn v4n : Value) (csn : List Itm), Hid (SwAt w wy s (k + 1) vn v4n csn ab p) → K ⟨#[u0, u1, u2, .pointer (some ⟨s, 0, none⟩), v4n, u5, .pointer (some ⟨ab, 0, none⟩), u7, u8, .bool true, x10, x11, x12, x13, x14, x15, x16, x17, x18, x19, x20, u21, u22, u23, u24, u25, u26, u27, u28, u29, u30, u31, u32, u33, u34, u35, u36, u37, u38, u39, u40, u41, u42, u43, u44, u45, u46, u47, u48, u49, u50, u51, u52, .int .i64 5, x54, x55, x56, x57, x58, x59, x60, x61, x62, x63, x64, x65, x66, x67, x68, x69, x70, x71, x72, x73, x74, x75, x76, x77, x78, x79, x80, x81, x82, x83, x84, x85, x86, x87, x88, x89, x90, x91, x92, x93, x94, x95, x96, x97, x98, x99, x100, x101, x102, x103, x104, x105, x106, x107, x108, x109, x110, x111, x112, x113, x114, x115, x116, x117, x118, x119, x120, x121, x122, x123, x124, x125, x126, x127, x128, x129, x130, x131, x132, x133, x134, x135, x136, x137, x138, x139, x140, x141, x142, x143, x144, x145, x146, x147, x148, x149, x150, x151, x152, x153, x154, x155, x156, x157, x158, x159, x160, x161, x162, x163, x164, x165, x166, x167, x168, x169, x170, x171, x172, x173, x174, x175, x176, x177, x178, x179, x180, x181, x182, x183, x184, x185, x186, x187, x188, x189, x190, x191, x192, x193, x194, x195, x196, x197, x198, x199, x200, x201, x202, x203, x204, x205, x206, x207, x208, x209, x210, x211, x212, x213, x214, x215, x216, x217, x218, x219, x220, x221, x222, x223, x224, x225, x226, x227, x228, x229, x230, x231, x232, u233, u234, u235, u236, u237, u238, u239, u240, u241, u242, u243, u244, u245, u246, u247, u248, u249, u250, u251, u252, u253, u254, u255, u256, u257, u258, u259, u260, u261, u262], []⟩ wy) :
    Code.wp Try.prog sw (Exit.then K Q0) ⟨#[u0, u1, u2, .pointer (some ⟨s, 0, none⟩), .slice a4 cs.length c4, u5, .pointer (some ⟨ab, 0, none⟩), u7, u8, .bool true, u10, u11, u12, u13, u14, u15, u16, u17, u18, u19, u20, u21, u22, u23, u24, u25, u26, u27, u28, u29, u30, u31, u32, u33, u34, u35, u36, u37, u38, u39, u40, u41, u42, u43, u44, u45, u46, u47, u48, u49, u50, u51, u52, .int .i64 5, u54, u55, u56, u57, u58, u59, u60, u61, u62, u63, u64, u65, u66, u67, u68, u69, u70, u71, u72, u73, u74, u75, u76, u77, u78, u79, u80, u81, u82, u83, u84, u85, u86, u87, u88, u89, u90, u91, u92, u93, u94, u95, u96, u97, u98, u99, u100, u101, u102, u103, u104, u105, u106, u107, u108, u109, u110, u111, u112, u113, u114, u115, u116, u117, u118, u119, u120, u121, u122, u123, u124, u125, u126, u127, u128, u129, u130, u131, u132, u133, u134, u135, u136, u137, u138, u139, u140, u141, u142, u143, u144, u145, u146, u147, u148, u149, u150, u151, u152, u153, u154, u155, u156, u157, u158, u159, u160, u161, u162, u163, u164, u165, u166, u167, u168, u169, u170, u171, u172, u173, u174, u175, u176, u177, u178, u179, u180, u181, u182, u183, u184, u185, u186, u187, u188, u189, u190, u191, u192, u193, u194, u195, u196, u197, u198, u199, u200, u201, u202, u203, u204, u205, u206, u207, u208, u209, u210, u211, u212, u213, u214, u215, u216, u217, u218, u219, u220, u221, u222, u223, u224, u225, u226, u227, u228, u229, u230, u231, u232, u233, u234, u235, u236, u237, u238, u239, u240, u241, u242, u243, u244, u245, u246, u247, u248, u249, u250, u251, u252, u253, u254, u255, u256, u257, u258, u259, u260, u261, u262], []⟩ wr := by
  conv => arg 2; whnf
  have hle := untilOf_le p.name cs
  have hcl : cs.length ≤ 500 := by have := h.ss.len; omega
  have HU : Hid _ := refUntil a4 c4 cs p.name wr h.ss.row (by omega)
  have HD : Hid _ := until_in s s v cs p.name wr h.ss.stk (by omega)
  have HS : Hid _ := h
  have d3 := h.c3
  have hlen : (cs.drop (untilOf p.name cs)).reverse.length = cs.length - untilOf p.name cs := by simp
  clear h
  generalize untilOf p.name cs = i at *
  go_wp2_with fail
  refine Calls.mono HU.out ?_
  rintro e w1 ⟨rfl, rfl⟩
  go_wp2_with fail
  refine Calls.mono HD.out ?_
  rintro e w2 ⟨a', c', rfl, hD⟩
  have HT : Hid _ := HS.out.turn hD.out.turn
  have HR2 : Hid (RcAt w2 a4 cs) := RcAt.of_owns HT.out.ref
  have HTT : Hid _ := turned_any a4 c4 i cs w2 HR2.out hle (by omega)
  clear HU HD HR2
  go_wp2_with fail
  refine Calls.mono HTT.out ?_
  rintro e w3 ⟨v3, rfl, hR⟩
  obtain ⟨a3, c3, rfl⟩ := hR.form
  have hRR : Hid (RcAt w3 a3 (cs.drop i).reverse) := RcAt.of_owns hR.own
  have hRS : Hid (RcAt w3 a' (cs.drop i).reverse) := by
    have h1 := rcown_below hD.out.row hR.bel
    have e1 : (cs.drop i).length = (cs.drop i).reverse.length := by simp
    rw [e1] at h1
    exact RcAt.of_owns h1
  have HSM : Hid _ := same_any a' a3 c' c3 (cs.drop i).reverse w3 hRS.out hRR.out (by rw [hlen]; omega)
  have HB3 : Hid _ := hR.bel
  clear hR hRR hRS HTT
  rw [hlen] at HSM
  simp only [hlen]
  go_wp2_with fail
  refine Calls.mono HSM.out ?_
  rintro e w4 ⟨rfl, hb4⟩
  have HT4 : Hid (∃ v', SwAt w w4 s k v' (.slice a4 i c4) (cs.take i) ab p) := by
    obtain ⟨v', h1⟩ := HT.out.cut hle HS.out.ss.len
    exact ⟨v', (h1.below HB3.out).below hb4⟩
  obtain ⟨v', HT5⟩ := HT4.out
  have HT6 : Hid (SwAt w w4 s (k + 1) v' (.slice a4 i c4) (cs.take i) ab p) := ⟨⟨HT5.ss.bel, HT5.ss.stk, HT5.ss.ref, HT5.ss.far, by have := HT5.ss.len; omega⟩, HT5.blk⟩
  have hcap : cs.length ≤ c4 := by
    obtain ⟨_, _, e1, e2⟩ := HS.out.ss.form
    injection e1 with _ _ e3
    omega
  have hform := HS.out.ss.form4
  clear HSM HT HT4 HT5 hb4 HB3 HS hD
  rcases hform with ⟨e1, e2⟩ | ⟨g, c, e1, _, _⟩
  · subst e2
    injection e1 with e1 _ e3
    subst e1 e3
    have hi0 : i = 0 := by simpa using hle
    subst hi0
    go_wp2
    exact hK _ _ _ _ _ _ _ _ _ _ _ _ _ _ _ _ _ _ _ _ _ _ _ _ _ _ _ _ _ _ _ _ _ _ _ _ _ _ _ _ _ _ _ _ _ _ _ _ _ _ _ _ _ _ _ _ _ _ _ _ _ _ _ _ _ _ _ _ _ _ _ _ _ _ _ _ _ _ _ _ _ _ _ _ _ _ _ _ _ _ _ _ _ _ _ _ _ _ _ _ _ _ _ _ _ _ _ _ _ _ _ _ _ _ _ _ _ _ _ _ _ _ _ _ _ _ _ _ _ _ _ _ _ _ _ _ _ _ _ _ _ _ _ _ _ _ _ _ _ _ _ _ _ _ _ _ _ _ _ _ _ _ _ _ _ _ _ _ _ _ _ _ _ _ _ _ _ _ _ _ _ _ _ _ _ _ _ _ _ _ _ _ _ _ HT6
  · injection e1 with e1 _ e3
    subst e1 e3
    have hiI : (i : Int) ≤ (c4 : Int) := by omega
    go_wp2
    exact hK _ _ _ _ _ _ _ _ _ _ _ _ _ _ _ _ _ _ _ _ _ _ _ _ _ _ _ _ _ _ _ _ _ _ _ _ _ _ _ _ _ _ _ _ _ _ _ _ _ _ _ _ _ _ _ _ _ _ _ _ _ _ _ _ _ _ _ _ _ _ _ _ _ _ _ _ _ _ _ _ _ _ _ _ _ _ _ _ _ _ _ _ _ _ _ _ _ _ _ _ _ _ _ _ _ _ _ _ _ _ _ _ _ _ _ _ _ _ _ _ _ _ _ _ _ _ _ _ _ _ _ _ _ _ _ _ _ _ _ _ _ _ _ _ _ _ _ _ _ _ _ _ _ _ _ _ _ _ _ _ _ _ _ _ _ _ _ _ _ _ _ _ _ _ _ _ _ _ _ _ _ _ _ _ _ _ _ _ _ _ _ _ _ _ HT6
end Go.Proofs.Ytalbiekleggkoaa
