/-
  THE LAW ON JOINS: its region 18 (written by genjoinlaw.py).
-/
import Derived.Test.YthobncbggaggjaaWJoinH
import Derived.Deep.RegionHeld3
import Derived.Deep.QuietTactic
import Derived.BigQuiet
namespace Go.Proofs.Ythobncbggaggjaa
open Go.RowKit
open Sets Lin Hom Join

set_option maxRecDepth 1000000 in
set_option maxHeartbeats 16000000 in
theorem joins_r18 {K : Act → World → Prop} {Q2 : Exit → Act → World → Prop} {u0 u1 u2 u3 u4 u9 u10 u15 u25 u30 u31 u32 u33 u34 u35 u36 u37 u38 u39 u40 u41 u42 u43 u44 u45 u46 u47 u48 u49 u50 u51 u52 u53 u54 u55 u56 u57 u58 u59 u60 u61 u62 u63 u64 u65 u66 u67 u68 u69 u70 u71 u72 u73 u74 u75 u76 u77 u78 u79 u80 u81 u82 u83 u84 u85 u86 u87 u88 u89 u90 u91 u92 u93 u94 u95 u96 u97 u98 u99 u100 u101 u102 u103 u104 u105 u106 u107 u108 u109 u110 u111 u112 u113 u114 u115 u116 u117 u118 u119 u120 u121 u122 u123 u124 u125 u126 u127 u128 u129 u130 u131 u132 u133 u134 u135 u136 u137 u138 u139 u140 u141 u142 u143 u144 u145 u146 u147 u148 u149 u150 u151 u152 u153 u154 u155 u156 u157 u158 u159 u160 u161 u162 u163 u164 u165 u166 u167 u168 u169 u170 u171 u172 u173 u174 u175 u176 u177 u178 u179 u180 u181 u182 u183 u184 u185 u186 u187 u188 u189 u190 u191 u192 u193 u194 u195 u196 u197 u198 u199 u200 u201 u202 u203 u204 u205 u206 u207 u208 u209 u210 u211 u212 u213 u214 u215 u216 u217 u218 u219 u220 u221 u222 u223 u224 u225 u226 u227 u228 u229 u230 u231 u232 u233 u234 u235 u236 u237 u238 u239 u240 u241 u242 u243 u244 u245 u246 u247 u248 u249 u250 : Value} {b3 b4 b7 b8 b10 b11 b12 b13 b14 b15 b16 : Nat} {N14 NC NJ NM NS NU : Int} {LC LJ LM LS LU x14 : List Int} {a3 a4 a7 a8 a10 a11 a12 a13 a14 a15 a16 : Option Addr} {c3 c4 c7 c8 c10 c11 c12 c13 c14 c15 c16 : Nat} {BC BJ BM BS BU : Bool} {W : World}
    (bx3 : Bx W b3 NJ a3 c3 LJ)
    (bx4 : Bx W b4 NJ a4 c4 LJ)
    (bx7 : Bx W b7 NU a7 c7 LU)
    (bx8 : Bx W b8 NU a8 c8 LU)
    (bx10 : Bx W b10 NC a10 c10 LC)
    (bx11 : Bx W b11 NC a11 c11 LC)
    (bx12 : Bx W b12 NS a12 c12 LS)
    (bx13 : Bx W b13 NS a13 c13 LS)
    (bx14 : Bx W b14 N14 a14 c14 x14)
    (bx15 : Bx W b15 NM a15 c15 LM)
    (bx16 : Bx W b16 NM a16 c16 LM)
    (hl14 : x14.length ≤ 1099511627776)
    (hlC : LC.length ≤ 1099511627776)
    (hlJ : LJ.length ≤ 1099511627776)
    (hlM : LM.length ≤ 1099511627776)
    (hlS : LS.length ≤ 1099511627776)
    (hlU : LU.length ≤ 1099511627776)
    (hc14 : x14.length ≤ c14)
    (JPts : ∀ (n : Int) (a : Option Addr) (c : Nat) (xs : List Int), xs.length ≤ c → xs.length ≤ 1099511627776 → ∀ W : World, Ints W a xs → Calls Try.prog 27 #[cx n (.slice a xs.length c)] W fun e w' => e = .returned (.int .i64 (conePts n xs : Nat)) ∧ Below W.heap.size W w')
    (hK : ∀ (v104 v105 v106 v107 v108 v109 v110 v111 v112 v113 v114 v115 v116 v117 v118 v119 v120 v121 v122 v123 v124 v125 v126 v127 v128 v129 v130 v131 v132 v133 v134 v135 v136 v137 v138 v139 v140 v141 v142 v143 v144 v145 v146 v147 v148 v149 v150 v151 v152 v153 v154 v155 v156 v157 v158 v159 v160 v161 v162 : Value) (w' : World), Below W.heap.size W w' → K ⟨#[u0, u1, u2, u3, u4, .pointer (some ⟨b3, 0, none⟩), .bool BJ, .pointer (some ⟨b4, 0, none⟩), .bool BJ, u9, u10, .pointer (some ⟨b7, 0, none⟩), .bool BU, .pointer (some ⟨b8, 0, none⟩), .bool BU, u15, .pointer (some ⟨b10, 0, none⟩), .bool BC, .pointer (some ⟨b11, 0, none⟩), .bool BC, .pointer (some ⟨b12, 0, none⟩), .bool BS, .pointer (some ⟨b13, 0, none⟩), .bool BS, .pointer (some ⟨b14, 0, none⟩), u25, .pointer (some ⟨b15, 0, none⟩), .bool BM, .pointer (some ⟨b16, 0, none⟩), .bool BM, u30, u31, u32, u33, u34, u35, u36, u37, u38, u39, u40, u41, u42, u43, u44, u45, u46, u47, u48, u49, u50, u51, u52, u53, u54, u55, u56, u57, u58, u59, u60, u61, u62, u63, u64, u65, u66, u67, u68, u69, u70, u71, u72, u73, u74, u75, u76, u77, u78, u79, u80, u81, u82, u83, u84, u85, u86, u87, u88, u89, u90, u91, u92, u93, u94, u95, u96, u97, u98, u99, u100, u101, u102, u103, v104, v105, v106, v107, v108, v109, v110, v111, v112, v113, v114, v115, v116, v117, v118, v119, v120, v121, v122, v123, v124, v125, v126, v127, v128, v129, v130, v131, v132, v133, v134, v135, v136, v137, v138, v139, v140, v141, v142, v143, v144, v145, v146, v147, v148, v149, v150, v151, v152, v153, v154, v155, v156, v157, v158, v159, v160, v161, v162, .bool false, u164, u165, u166, u167, u168, u169, u170, u171, u172, u173, u174, u175, u176, u177, u178, u179, u180, u181, u182, u183, u184, u185, u186, u187, u188, u189, u190, u191, u192, u193, u194, u195, u196, u197, u198, u199, u200, u201, u202, u203, u204, u205, u206, u207, u208, u209, u210, u211, u212, u213, u214, u215, u216, u217, u218, u219, u220, u221, u222, u223, u224, u225, u226, u227, u228, u229, u230, u231, u232, u233, u234, u235, u236, u237, u238, u239, u240, u241, u242, u243, u244, u245, u246, u247, u248, u249, u250], []⟩ w') :
    Code.wp Try.prog (joinsReg 18) (Exit.then K Q2) ⟨#[u0, u1, u2, u3, u4, .pointer (some ⟨b3, 0, none⟩), .bool BJ, .pointer (some ⟨b4, 0, none⟩), .bool BJ, u9, u10, .pointer (some ⟨b7, 0, none⟩), .bool BU, .pointer (some ⟨b8, 0, none⟩), .bool BU, u15, .pointer (some ⟨b10, 0, none⟩), .bool BC, .pointer (some ⟨b11, 0, none⟩), .bool BC, .pointer (some ⟨b12, 0, none⟩), .bool BS, .pointer (some ⟨b13, 0, none⟩), .bool BS, .pointer (some ⟨b14, 0, none⟩), u25, .pointer (some ⟨b15, 0, none⟩), .bool BM, .pointer (some ⟨b16, 0, none⟩), .bool BM, u30, u31, u32, u33, u34, u35, u36, u37, u38, u39, u40, u41, u42, u43, u44, u45, u46, u47, u48, u49, u50, u51, u52, u53, u54, u55, u56, u57, u58, u59, u60, u61, u62, u63, u64, u65, u66, u67, u68, u69, u70, u71, u72, u73, u74, u75, u76, u77, u78, u79, u80, u81, u82, u83, u84, u85, u86, u87, u88, u89, u90, u91, u92, u93, u94, u95, u96, u97, u98, u99, u100, u101, u102, u103, u104, u105, u106, u107, u108, u109, u110, u111, u112, u113, u114, u115, u116, u117, u118, u119, u120, u121, u122, u123, u124, u125, u126, u127, u128, u129, u130, u131, u132, u133, u134, u135, u136, u137, u138, u139, u140, u141, u142, u143, u144, u145, u146, u147, u148, u149, u150, u151, u152, u153, u154, u155, u156, u157, u158, u159, u160, u161, u162, u163, u164, u165, u166, u167, u168, u169, u170, u171, u172, u173, u174, u175, u176, u177, u178, u179, u180, u181, u182, u183, u184, u185, u186, u187, u188, u189, u190, u191, u192, u193, u194, u195, u196, u197, u198, u199, u200, u201, u202, u203, u204, u205, u206, u207, u208, u209, u210, u211, u212, u213, u214, u215, u216, u217, u218, u219, u220, u221, u222, u223, u224, u225, u226, u227, u228, u229, u230, u231, u232, u233, u234, u235, u236, u237, u238, u239, u240, u241, u242, u243, u244, u245, u246, u247, u248, u249, u250], []⟩ W := by
  have BX3 := Lib.hid bx3
  have IX3 := Lib.hid bx3.2
  have BX4 := Lib.hid bx4
  have IX4 := Lib.hid bx4.2
  have BX7 := Lib.hid bx7
  have IX7 := Lib.hid bx7.2
  have BX8 := Lib.hid bx8
  have IX8 := Lib.hid bx8.2
  have BX10 := Lib.hid bx10
  have IX10 := Lib.hid bx10.2
  have BX11 := Lib.hid bx11
  have IX11 := Lib.hid bx11.2
  have BX12 := Lib.hid bx12
  have IX12 := Lib.hid bx12.2
  have BX13 := Lib.hid bx13
  have IX13 := Lib.hid bx13.2
  have BX14 := Lib.hid bx14
  have IX14 := Lib.hid bx14.2
  have BX15 := Lib.hid bx15
  have IX15 := Lib.hid bx15.2
  have BX16 := Lib.hid bx16
  have IX16 := Lib.hid bx16.2
  have HK := Lib.hid hK
  clear hK bx3 bx4 bx7 bx8 bx10 bx11 bx12 bx13 bx14 bx15 bx16
  have HBC := Lib.hid (bdrew1 W)
  conv => arg 2; whnf
  have HJP := Lib.hid (JPts N14 a14 c14 x14 hc14 hl14)
  clear JPts
  first | (go_region_held3 (fun w' => w'.cell? ⟨b3, 0, none⟩ = some (.int .i64 NJ) ∧ w'.cell? ⟨b3, 1, none⟩ = some (.slice a3 LJ.length c3) ∧ w'.cell? ⟨b4, 0, none⟩ = some (.int .i64 NJ) ∧ w'.cell? ⟨b4, 1, none⟩ = some (.slice a4 LJ.length c4) ∧ w'.cell? ⟨b7, 0, none⟩ = some (.int .i64 NU) ∧ w'.cell? ⟨b7, 1, none⟩ = some (.slice a7 LU.length c7) ∧ w'.cell? ⟨b8, 0, none⟩ = some (.int .i64 NU) ∧ w'.cell? ⟨b8, 1, none⟩ = some (.slice a8 LU.length c8) ∧ w'.cell? ⟨b10, 0, none⟩ = some (.int .i64 NC) ∧ w'.cell? ⟨b10, 1, none⟩ = some (.slice a10 LC.length c10) ∧ w'.cell? ⟨b11, 0, none⟩ = some (.int .i64 NC) ∧ w'.cell? ⟨b11, 1, none⟩ = some (.slice a11 LC.length c11) ∧ w'.cell? ⟨b12, 0, none⟩ = some (.int .i64 NS) ∧ w'.cell? ⟨b12, 1, none⟩ = some (.slice a12 LS.length c12) ∧ w'.cell? ⟨b13, 0, none⟩ = some (.int .i64 NS) ∧ w'.cell? ⟨b13, 1, none⟩ = some (.slice a13 LS.length c13) ∧ w'.cell? ⟨b14, 0, none⟩ = some (.int .i64 N14) ∧ w'.cell? ⟨b14, 1, none⟩ = some (.slice a14 x14.length c14) ∧ w'.cell? ⟨b15, 0, none⟩ = some (.int .i64 NM) ∧ w'.cell? ⟨b15, 1, none⟩ = some (.slice a15 LM.length c15) ∧ w'.cell? ⟨b16, 0, none⟩ = some (.int .i64 NM) ∧ w'.cell? ⟨b16, 1, none⟩ = some (.slice a16 LM.length c16) ∧ Below W.heap.size W w') (first | (exact ⟨(BX3.out.1.keeps HBC.out).2.1, (BX3.out.1.keeps HBC.out).2.2.1, (BX4.out.1.keeps HBC.out).2.1, (BX4.out.1.keeps HBC.out).2.2.1, (BX7.out.1.keeps HBC.out).2.1, (BX7.out.1.keeps HBC.out).2.2.1, (BX8.out.1.keeps HBC.out).2.1, (BX8.out.1.keeps HBC.out).2.2.1, (BX10.out.1.keeps HBC.out).2.1, (BX10.out.1.keeps HBC.out).2.2.1, (BX11.out.1.keeps HBC.out).2.1, (BX11.out.1.keeps HBC.out).2.2.1, (BX12.out.1.keeps HBC.out).2.1, (BX12.out.1.keeps HBC.out).2.2.1, (BX13.out.1.keeps HBC.out).2.1, (BX13.out.1.keeps HBC.out).2.2.1, (BX14.out.1.keeps HBC.out).2.1, (BX14.out.1.keeps HBC.out).2.2.1, (BX15.out.1.keeps HBC.out).2.1, (BX15.out.1.keeps HBC.out).2.2.1, (BX16.out.1.keeps HBC.out).2.1, (BX16.out.1.keeps HBC.out).2.2.1, HBC.out⟩) | fail "keep") (first | (go_at_call 26; with_reducible refine (sameCx_any NJ a3 a4 c3 c4 LJ hlJ _ (IX3.out.keeps HBC.out) (IX4.out.keeps HBC.out)).mono ?_; rintro e wN ⟨rfl, hbN⟩; have HBC := Lib.hid (HBC.out.trans (hbN.mono HBC.out.size)); clear hbN) | (go_at_call 26; with_reducible refine (sameCx_any NU a7 a8 c7 c8 LU hlU _ (IX7.out.keeps HBC.out) (IX8.out.keeps HBC.out)).mono ?_; rintro e wN ⟨rfl, hbN⟩; have HBC := Lib.hid (HBC.out.trans (hbN.mono HBC.out.size)); clear hbN) | (go_at_call 26; with_reducible refine (sameCx_any NC a10 a11 c10 c11 LC hlC _ (IX10.out.keeps HBC.out) (IX11.out.keeps HBC.out)).mono ?_; rintro e wN ⟨rfl, hbN⟩; have HBC := Lib.hid (HBC.out.trans (hbN.mono HBC.out.size)); clear hbN) | (go_at_call 26; with_reducible refine (sameCx_any NS a12 a13 c12 c13 LS hlS _ (IX12.out.keeps HBC.out) (IX13.out.keeps HBC.out)).mono ?_; rintro e wN ⟨rfl, hbN⟩; have HBC := Lib.hid (HBC.out.trans (hbN.mono HBC.out.size)); clear hbN) | (go_at_call 26; with_reducible refine (sameCx_any NM a15 a16 c15 c16 LM hlM _ (IX15.out.keeps HBC.out) (IX16.out.keeps HBC.out)).mono ?_; rintro e wN ⟨rfl, hbN⟩; have HBC := Lib.hid (HBC.out.trans (hbN.mono HBC.out.size)); clear hbN) | (go_at_call 27; with_reducible refine (HJP.out _ (IX14.out.keeps HBC.out)).mono ?_; rintro e wN ⟨rfl, hbN⟩; have HBC := Lib.hid (HBC.out.trans (hbN.mono HBC.out.size)); clear hbN) | (go_at_call 28; with_reducible refine (specPts_any N14 a14 c14 x14 hl14 _ (IX14.out.keeps HBC.out)).mono ?_; rintro e wN ⟨rfl, hbN⟩; have HBC := Lib.hid (HBC.out.trans (hbN.mono HBC.out.size)); clear hbN) | fail "arm")) | fail "region"
  exact HK.out _ _ _ _ _ _ _ _ _ _ _ _ _ _ _ _ _ _ _ _ _ _ _ _ _ _ _ _ _ _ _ _ _ _ _ _ _ _ _ _ _ _ _ _ _ _ _ _ _ _ _ _ _ _ _ _ _ _ _ _ HBC.out

end Go.Proofs.Ythobncbggaggjaa
