/-
  THE LAW ON NAMES: its region 16 (written by gennamlaw.py).
-/
import Derived.Test.YtbkkdgmiokdbmaaGreatWNamedH
import Derived.Deep.RegionHeld3
import Derived.Deep.QuietTactic
import Derived.BigQuiet
namespace Go.Proofs.YtbkkdgmiokdbmaaGreat
open Go.RowKit
open Sets Nam

set_option maxRecDepth 1000000 in
set_option maxHeartbeats 16000000 in
theorem named_r16 {K : Act → World → Prop} {Q2 : Exit → Act → World → Prop} {u0 u1 u2 u3 u4 u9 u10 u15 u25 u26 u27 u28 u29 u30 u31 u32 u33 u34 u35 u36 u37 u38 u39 u40 u41 u42 u43 u44 u45 u46 u47 u48 u49 u50 u51 u52 u53 u54 u55 u56 u57 u58 u59 u60 u61 u62 u63 u64 u65 u66 u67 u68 u69 u70 u71 u72 u73 u74 u75 u76 u77 u78 u79 u80 u81 u82 u83 u84 u85 u86 u87 u88 u89 u90 u91 u92 u93 u94 u95 u96 u97 u98 u99 u100 u101 u102 u103 u104 u105 u106 u107 u108 u109 u110 u111 u112 u113 u114 u115 u116 u117 u118 u119 u120 u121 u122 u123 u124 u125 u126 u127 u128 u129 u130 u131 u132 u133 u134 u135 u136 u137 u138 u139 u140 u141 u142 u143 u144 u145 u146 u147 u148 u149 u150 u151 u152 u153 u154 u155 u156 u157 u158 u159 u160 u161 u162 u163 u164 u165 u166 u167 u168 u169 u170 u171 u172 u173 u174 u175 u176 u177 u178 u179 u180 u181 u182 u183 u184 u185 u186 u187 u188 u189 u190 u191 u192 u193 u194 u195 u196 u197 u198 u199 u200 u201 u202 u203 u204 u205 u206 u207 u208 u209 u210 u211 : Value} {b2 b3 b5 b6 b7 b8 b9 : Nat} {N7 N8 N9 NC NR : Int} {LC LR x7 x8 x9 : List Int} {a2 a3 a5 a6 a7 a8 a9 : Option Addr} {c2 c3 c5 c6 c7 c8 c9 : Nat} {BC BR BS : Bool} {aC : Option Addr} {cC y : Nat} {C : List Int} {zS : Int} {W : World}
    (bx2 : Bx W b2 NR a2 c2 LR)
    (bx3 : Bx W b3 NR a3 c3 LR)
    (bx5 : Bx W b5 NC a5 c5 LC)
    (bx6 : Bx W b6 NC a6 c6 LC)
    (bx7 : Bx W b7 N7 a7 c7 x7)
    (bx8 : Bx W b8 N8 a8 c8 x8)
    (bx9 : Bx W b9 N9 a9 c9 x9)
    (hl7 : x7.length ≤ 1099511627776)
    (hl8 : x8.length ≤ 1099511627776)
    (hl9 : x9.length ≤ 1099511627776)
    (hlC : LC.length ≤ 1099511627776)
    (hlR : LR.length ≤ 1099511627776)
    (hIC : Ints W aC C) (hlCC : C.length ≤ 1099511627776) (hCV : clsO N9 x9 = C) (hy : symCount N9 x9 = y)
    (hc7 : x7.length ≤ c7) (hc8 : x8.length ≤ c8)
    (JAl : ∀ (na : Int) (pa : Option Addr) (ca : Nat) (xa : List Int) (nb : Int) (pb : Option Addr) (cb : Nat) (xb : List Int), xa.length ≤ ca → xb.length ≤ cb → xa.length ≤ 1099511627776 → xb.length ≤ 1099511627776 → ∀ W : World, Ints W pa xa → Ints W pb xb → Calls Tryz.prog 19 #[cx na (.slice pa xa.length ca), cx nb (.slice pb xb.length cb)] W fun e w' => e = .returned (.bool (alikeB na xa nb xb)) ∧ Below W.heap.size W w')
    (hK : ∀ (v86 v87 v88 v89 v90 v91 v92 v93 v94 v95 v96 v97 v98 v99 v100 v101 v102 v103 v104 v105 v106 v107 v108 v109 v110 v111 v112 v113 v114 v115 v116 v117 v118 v119 v120 v121 v122 v123 v124 v125 v126 v127 v128 v129 v130 v131 v132 v133 v134 v135 v136 : Value) (w' : World), Below W.heap.size W w' → K ⟨#[u0, u1, u2, u3, u4, .pointer (some ⟨b2, 0, none⟩), .bool BR, .pointer (some ⟨b3, 0, none⟩), .bool BR, u9, u10, .int .i64 zS, .bool BS, .int .i64 zS, .bool BS, u15, .pointer (some ⟨b5, 0, none⟩), .bool BC, .pointer (some ⟨b6, 0, none⟩), .bool BC, .pointer (some ⟨b7, 0, none⟩), .pointer (some ⟨b8, 0, none⟩), .pointer (some ⟨b9, 0, none⟩), .slice aC C.length cC, .int .i64 (y : Int), u25, u26, u27, u28, u29, u30, u31, u32, u33, u34, u35, u36, u37, u38, u39, u40, u41, u42, u43, u44, u45, u46, u47, u48, u49, u50, u51, u52, u53, u54, u55, u56, u57, u58, u59, u60, u61, u62, u63, u64, u65, u66, u67, u68, u69, u70, u71, u72, u73, u74, u75, u76, u77, u78, u79, u80, u81, u82, u83, u84, u85, v86, v87, v88, v89, v90, v91, v92, v93, v94, v95, v96, v97, v98, v99, v100, v101, v102, v103, v104, v105, v106, v107, v108, v109, v110, v111, v112, v113, v114, v115, v116, v117, v118, v119, v120, v121, v122, v123, v124, v125, v126, v127, v128, v129, v130, v131, v132, v133, v134, v135, v136, .bool false, u138, u139, u140, u141, u142, u143, u144, u145, u146, u147, u148, u149, u150, u151, u152, u153, u154, u155, u156, u157, u158, u159, u160, u161, u162, u163, u164, u165, u166, u167, u168, u169, u170, u171, u172, u173, u174, u175, u176, u177, u178, u179, u180, u181, u182, u183, u184, u185, u186, u187, u188, u189, u190, u191, u192, u193, u194, u195, u196, u197, u198, u199, u200, u201, u202, u203, u204, u205, u206, u207, u208, u209, u210, u211], []⟩ w') :
    Code.wp Tryz.prog (namedReg 16) (Exit.then K Q2) ⟨#[u0, u1, u2, u3, u4, .pointer (some ⟨b2, 0, none⟩), .bool BR, .pointer (some ⟨b3, 0, none⟩), .bool BR, u9, u10, .int .i64 zS, .bool BS, .int .i64 zS, .bool BS, u15, .pointer (some ⟨b5, 0, none⟩), .bool BC, .pointer (some ⟨b6, 0, none⟩), .bool BC, .pointer (some ⟨b7, 0, none⟩), .pointer (some ⟨b8, 0, none⟩), .pointer (some ⟨b9, 0, none⟩), .slice aC C.length cC, .int .i64 (y : Int), u25, u26, u27, u28, u29, u30, u31, u32, u33, u34, u35, u36, u37, u38, u39, u40, u41, u42, u43, u44, u45, u46, u47, u48, u49, u50, u51, u52, u53, u54, u55, u56, u57, u58, u59, u60, u61, u62, u63, u64, u65, u66, u67, u68, u69, u70, u71, u72, u73, u74, u75, u76, u77, u78, u79, u80, u81, u82, u83, u84, u85, u86, u87, u88, u89, u90, u91, u92, u93, u94, u95, u96, u97, u98, u99, u100, u101, u102, u103, u104, u105, u106, u107, u108, u109, u110, u111, u112, u113, u114, u115, u116, u117, u118, u119, u120, u121, u122, u123, u124, u125, u126, u127, u128, u129, u130, u131, u132, u133, u134, u135, u136, u137, u138, u139, u140, u141, u142, u143, u144, u145, u146, u147, u148, u149, u150, u151, u152, u153, u154, u155, u156, u157, u158, u159, u160, u161, u162, u163, u164, u165, u166, u167, u168, u169, u170, u171, u172, u173, u174, u175, u176, u177, u178, u179, u180, u181, u182, u183, u184, u185, u186, u187, u188, u189, u190, u191, u192, u193, u194, u195, u196, u197, u198, u199, u200, u201, u202, u203, u204, u205, u206, u207, u208, u209, u210, u211], []⟩ W := by
  have BX2 := Lib.hid bx2
  have IX2 := Lib.hid bx2.2
  have BX3 := Lib.hid bx3
  have IX3 := Lib.hid bx3.2
  have BX5 := Lib.hid bx5
  have IX5 := Lib.hid bx5.2
  have BX6 := Lib.hid bx6
  have IX6 := Lib.hid bx6.2
  have BX7 := Lib.hid bx7
  have IX7 := Lib.hid bx7.2
  have BX8 := Lib.hid bx8
  have IX8 := Lib.hid bx8.2
  have BX9 := Lib.hid bx9
  have IX9 := Lib.hid bx9.2
  have HK := Lib.hid hK
  clear hK bx2 bx3 bx5 bx6 bx7 bx8 bx9
  have HBC := Lib.hid (bdrew1 W)
  conv => arg 2; whnf
  obtain ⟨S, hS⟩ : ∃ S, alikeB N7 x7 N8 x8 = S := ⟨_, rfl⟩
  have hJA := JAl N7 a7 c7 x7 N8 a8 c8 x8 hc7 hc8 hl7 hl8
  simp only [hS] at hJA
  have HIC := Lib.hid hIC
  have HCV := Lib.hid hCV
  have HY := Lib.hid hy
  have HS := Lib.hid hS
  have HJA := Lib.hid hJA
  clear hIC hCV hy hS hJA JAl
  first | (go_region_held3 (fun w' => w'.cell? ⟨b2, 0, none⟩ = some (.int .i64 NR) ∧ w'.cell? ⟨b2, 1, none⟩ = some (.slice a2 LR.length c2) ∧ w'.cell? ⟨b3, 0, none⟩ = some (.int .i64 NR) ∧ w'.cell? ⟨b3, 1, none⟩ = some (.slice a3 LR.length c3) ∧ w'.cell? ⟨b5, 0, none⟩ = some (.int .i64 NC) ∧ w'.cell? ⟨b5, 1, none⟩ = some (.slice a5 LC.length c5) ∧ w'.cell? ⟨b6, 0, none⟩ = some (.int .i64 NC) ∧ w'.cell? ⟨b6, 1, none⟩ = some (.slice a6 LC.length c6) ∧ w'.cell? ⟨b7, 0, none⟩ = some (.int .i64 N7) ∧ w'.cell? ⟨b7, 1, none⟩ = some (.slice a7 x7.length c7) ∧ w'.cell? ⟨b8, 0, none⟩ = some (.int .i64 N8) ∧ w'.cell? ⟨b8, 1, none⟩ = some (.slice a8 x8.length c8) ∧ w'.cell? ⟨b9, 0, none⟩ = some (.int .i64 N9) ∧ w'.cell? ⟨b9, 1, none⟩ = some (.slice a9 x9.length c9) ∧ Below W.heap.size W w') (first | (exact ⟨(BX2.out.1.keeps HBC.out).2.1, (BX2.out.1.keeps HBC.out).2.2.1, (BX3.out.1.keeps HBC.out).2.1, (BX3.out.1.keeps HBC.out).2.2.1, (BX5.out.1.keeps HBC.out).2.1, (BX5.out.1.keeps HBC.out).2.2.1, (BX6.out.1.keeps HBC.out).2.1, (BX6.out.1.keeps HBC.out).2.2.1, (BX7.out.1.keeps HBC.out).2.1, (BX7.out.1.keeps HBC.out).2.2.1, (BX8.out.1.keeps HBC.out).2.1, (BX8.out.1.keeps HBC.out).2.2.1, (BX9.out.1.keeps HBC.out).2.1, (BX9.out.1.keeps HBC.out).2.2.1, HBC.out⟩) | fail "keep") (first | (go_at_call 18; with_reducible refine (sameCx_any NR a2 a3 c2 c3 LR hlR _ (IX2.out.keeps HBC.out) (IX3.out.keeps HBC.out)).mono ?_; rintro e wN ⟨rfl, hbN⟩; have HBC := Lib.hid (HBC.out.trans (hbN.mono HBC.out.size)); clear hbN) | (go_at_call 18; with_reducible refine (sameCx_any NC a5 a6 c5 c6 LC hlC _ (IX5.out.keeps HBC.out) (IX6.out.keeps HBC.out)).mono ?_; rintro e wN ⟨rfl, hbN⟩; have HBC := Lib.hid (HBC.out.trans (hbN.mono HBC.out.size)); clear hbN) | (go_at_call 19; with_reducible refine (HJA.out _ (IX7.out.keeps HBC.out) (IX8.out.keeps HBC.out)).mono ?_; rintro e wN ⟨rfl, hbN⟩; have HBC := Lib.hid (HBC.out.trans (hbN.mono HBC.out.size)); clear hbN) | (go_at_call 20; with_reducible refine (alikeSB N7 _ _ x7 N8 _ _ x8 S HS.out hl7 hl8 _ (IX7.out.keeps HBC.out) (IX8.out.keeps HBC.out)).mono ?_; rintro e wN ⟨rfl, hbN⟩; have HBC := Lib.hid (HBC.out.trans (hbN.mono HBC.out.size)); clear hbN) | (go_at_call 22; with_reducible refine (classesB N9 _ _ x9 C HCV.out hl9 _ (IX9.out.keeps HBC.out)).mono ?_; rintro e wN ⟨v, rfl, hO, hbN⟩; obtain ⟨sa, sc, sg, rfl, _, _, hsp, _⟩ := OwnInts.ata hO hbN.size; have HSP := Lib.hid hsp; clear hO hsp; have HBC := Lib.hid (HBC.out.trans (hbN.mono HBC.out.size)); clear hbN) | (go_at_call 21; with_reducible refine (sameInt_any _ _ _ _ C hlCC _ (HIC.out.keeps HBC.out) HSP.out.ints).mono ?_; rintro e wN ⟨rfl, hbN⟩; have HBC := Lib.hid (HBC.out.trans (hbN.mono HBC.out.size)); clear hbN) | (go_at_call 23; with_reducible refine (symB N9 _ _ x9 y HY.out hl9 _ (IX9.out.keeps HBC.out)).mono ?_; rintro e wN ⟨rfl, hbN⟩; have HBC := Lib.hid (HBC.out.trans (hbN.mono HBC.out.size)); clear hbN) | fail "arm")) | fail "region"
  exact HK.out _ _ _ _ _ _ _ _ _ _ _ _ _ _ _ _ _ _ _ _ _ _ _ _ _ _ _ _ _ _ _ _ _ _ _ _ _ _ _ _ _ _ _ _ _ _ _ _ _ _ _ _ HBC.out

end Go.Proofs.YtbkkdgmiokdbmaaGreat
