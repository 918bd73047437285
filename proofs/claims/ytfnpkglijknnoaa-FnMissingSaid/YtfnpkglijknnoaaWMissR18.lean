/-
  THE LAW ON MISSING SETS: its region 18 (written by genmisslaw.py).
-/
import Derived.Test.YtfnpkglijknnoaaWMissH
import Derived.Test.YtfnpkglijknnoaaJg26
import Derived.Deep.RegionHeld3
import Derived.Deep.QuietTactic
import Derived.BigQuiet
namespace Go.Proofs.Ytfnpkglijknnoaa
open Go.RowKit
open Sets

set_option maxRecDepth 1000000 in
set_option maxHeartbeats 16000000 in
theorem miss_r18 {K : Act → World → Prop} {Q2 : Exit → Act → World → Prop} {u0 u1 u2 u4 u5 u6 u7 u8 u9 u10 u11 u13 u14 u15 u18 u19 u20 u21 u22 u23 u24 u25 u26 u27 u28 u29 u30 u31 u32 u33 u34 u35 u36 u37 u38 u39 u40 u41 u42 u43 u44 u45 u46 u47 u48 u49 u50 u51 u52 u53 u54 u55 u56 u57 u58 u59 u60 u61 u62 u63 u64 u65 u66 u67 u68 u69 u70 u71 u72 u73 u74 u75 u76 u77 u78 u79 u80 u81 u82 u83 u84 u85 u86 u87 u88 u89 u90 u91 u92 u93 u94 u95 u96 u97 u98 u99 u100 u101 u102 u103 u104 u105 u106 u107 u108 u109 u110 u111 u112 u113 u114 u115 u116 u117 u118 u119 u120 u121 u122 u123 u124 u125 u126 u127 u128 u129 u130 u131 u132 u133 u134 u135 u136 u137 u138 u139 u140 u141 u142 u143 u144 u145 u146 u147 u148 u149 u150 u151 u152 u153 u154 u155 u156 u157 u158 u159 u160 u161 u162 u163 u164 u165 u166 u167 u168 u169 u170 u171 u172 : Value} {b1 b5 b7 : Nat} {N1 : Int} {LG x1 : List Int} {a1 a5 a7 : Option Addr} {c1 c5 c7 : Nat}  {FC : Bool} {W : World}
    (bx1 : Bx W b1 N1 a1 c1 x1)
    (bx5 : Bx W b5 N1 a5 c5 LG)
    (bx7 : Bx W b7 N1 a7 c7 x1)
    (hl1 : x1.length ≤ 1099511627776)
    (hlG : LG.length ≤ 1099511627776)
    (hc1 : x1.length ≤ c1) (hc5 : LG.length ≤ c5)
    (hFG : flagB N1 LG = true) (hFX : flagB N1 x1 = FC) (hFC : FC = true ↔ LG = x1)
    (hK : ∀ (v128 v129 v130 v131 v132 v133 v134 v135 v136 v137 v138 v139 v140 v141 v142 v143 v144 v145 v146 v147 : Value) (w' : World), Below W.heap.size W w' → K ⟨#[u0, u1, u2, .pointer (some ⟨b1, 0, none⟩), u4, u5, u6, u7, u8, u9, u10, u11, .pointer (some ⟨b5, 0, none⟩), u13, u14, u15, .pointer (some ⟨b7, 0, none⟩), .bool true, u18, u19, u20, u21, u22, u23, u24, u25, u26, u27, u28, u29, u30, u31, u32, u33, u34, u35, u36, u37, u38, u39, u40, u41, u42, u43, u44, u45, u46, u47, u48, u49, u50, u51, u52, u53, u54, u55, u56, u57, u58, u59, u60, u61, u62, u63, u64, u65, u66, u67, u68, u69, u70, u71, u72, u73, u74, u75, u76, u77, u78, u79, u80, u81, u82, u83, u84, u85, u86, u87, u88, u89, u90, u91, u92, u93, u94, u95, u96, u97, u98, u99, u100, u101, u102, u103, u104, u105, u106, u107, u108, u109, u110, u111, u112, u113, u114, u115, u116, u117, u118, u119, u120, u121, u122, u123, u124, u125, u126, u127, v128, v129, v130, v131, v132, v133, v134, v135, v136, v137, v138, v139, v140, v141, v142, v143, v144, v145, v146, v147, .bool false, u149, u150, u151, u152, u153, u154, u155, u156, u157, u158, u159, u160, u161, u162, u163, u164, u165, u166, u167, u168, u169, u170, u171, u172], []⟩ w') :
    Code.wp Try.prog (missReg 18) (Exit.then K Q2) ⟨#[u0, u1, u2, .pointer (some ⟨b1, 0, none⟩), u4, u5, u6, u7, u8, u9, u10, u11, .pointer (some ⟨b5, 0, none⟩), u13, u14, u15, .pointer (some ⟨b7, 0, none⟩), .bool true, u18, u19, u20, u21, u22, u23, u24, u25, u26, u27, u28, u29, u30, u31, u32, u33, u34, u35, u36, u37, u38, u39, u40, u41, u42, u43, u44, u45, u46, u47, u48, u49, u50, u51, u52, u53, u54, u55, u56, u57, u58, u59, u60, u61, u62, u63, u64, u65, u66, u67, u68, u69, u70, u71, u72, u73, u74, u75, u76, u77, u78, u79, u80, u81, u82, u83, u84, u85, u86, u87, u88, u89, u90, u91, u92, u93, u94, u95, u96, u97, u98, u99, u100, u101, u102, u103, u104, u105, u106, u107, u108, u109, u110, u111, u112, u113, u114, u115, u116, u117, u118, u119, u120, u121, u122, u123, u124, u125, u126, u127, u128, u129, u130, u131, u132, u133, u134, u135, u136, u137, u138, u139, u140, u141, u142, u143, u144, u145, u146, u147, u148, u149, u150, u151, u152, u153, u154, u155, u156, u157, u158, u159, u160, u161, u162, u163, u164, u165, u166, u167, u168, u169, u170, u171, u172], []⟩ W := by
  have BX1 := Lib.hid bx1
  have IX1 := Lib.hid bx1.2
  have BX5 := Lib.hid bx5
  have IX5 := Lib.hid bx5.2
  have BX7 := Lib.hid bx7
  have IX7 := Lib.hid bx7.2
  have HK := Lib.hid hK
  clear hK bx1 bx5 bx7
  have HBC := Lib.hid (bdrew1 W)
  conv => arg 2; whnf
  have HFG := Lib.hid hFG
  have HFX := Lib.hid hFX
  have HFC := Lib.hid hFC
  clear hFG hFX hFC
  first | (go_region_held3 (fun w' => w'.cell? ⟨b1, 0, none⟩ = some (.int .i64 N1) ∧ w'.cell? ⟨b1, 1, none⟩ = some (.slice a1 x1.length c1) ∧ w'.cell? ⟨b5, 0, none⟩ = some (.int .i64 N1) ∧ w'.cell? ⟨b5, 1, none⟩ = some (.slice a5 LG.length c5) ∧ w'.cell? ⟨b7, 0, none⟩ = some (.int .i64 N1) ∧ w'.cell? ⟨b7, 1, none⟩ = some (.slice a7 x1.length c7) ∧ Below W.heap.size W w') (first | (exact ⟨(BX1.out.1.keeps HBC.out).2.1, (BX1.out.1.keeps HBC.out).2.2.1, (BX5.out.1.keeps HBC.out).2.1, (BX5.out.1.keeps HBC.out).2.2.1, (BX7.out.1.keeps HBC.out).2.1, (BX7.out.1.keeps HBC.out).2.2.1, HBC.out⟩) | fail "keep") (first | (go_at_call 21; with_reducible refine (sameCx_any N1 a7 a1 c7 c1 x1 hl1 _ (IX7.out.keeps HBC.out) (IX1.out.keeps HBC.out)).mono ?_; rintro e wN ⟨rfl, hbN⟩; have HBC := Lib.hid (HBC.out.trans (hbN.mono HBC.out.size)); clear hbN) | (go_at_call 21; with_reducible refine (sameCx_eq N1 a5 a1 c5 c1 LG x1 hlG FC HFC.out _ (IX5.out.keeps HBC.out) (IX1.out.keeps HBC.out)).mono ?_; rintro e wN ⟨rfl, hbN⟩; have HBC := Lib.hid (HBC.out.trans (hbN.mono HBC.out.size)); clear hbN) | (go_at_call 22; with_reducible refine (implFlag_b N1 _ _ LG true HFG.out hc5 hlG _ (IX5.out.keeps HBC.out)).mono ?_; rintro e wN ⟨rfl, hbN⟩; have HBC := Lib.hid (HBC.out.trans (hbN.mono HBC.out.size)); clear hbN) | (go_at_call 22; with_reducible refine (implFlag_b N1 _ _ x1 FC HFX.out hc1 hl1 _ (IX1.out.keeps HBC.out)).mono ?_; rintro e wN ⟨rfl, hbN⟩; have HBC := Lib.hid (HBC.out.trans (hbN.mono HBC.out.size)); clear hbN) | fail "arm")) | fail "region"
  exact HK.out _ _ _ _ _ _ _ _ _ _ _ _ _ _ _ _ _ _ _ _ _ HBC.out

end Go.Proofs.Ytfnpkglijknnoaa
