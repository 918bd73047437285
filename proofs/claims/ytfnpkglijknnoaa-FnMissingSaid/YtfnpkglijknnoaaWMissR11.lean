/-
  THE LAW ON MISSING SETS: its region 11 (written by genmisslaw.py).
-/
import Derived.Test.YtfnpkglijknnoaaWMissH
import Derived.Test.YtfnpkglijknnoaaJg25
import Derived.Test.YtfnpkglijknnoaaJg26
import Derived.Deep.RegionHeld3
import Derived.Deep.QuietTactic
import Derived.BigQuiet
namespace Go.Proofs.Ytfnpkglijknnoaa
open Go.RowKit
open Sets

set_option maxRecDepth 1000000 in
set_option maxHeartbeats 16000000 in
theorem miss_r11 {K : Act → World → Prop} {Q2 : Exit → Act → World → Prop} {u0 u1 u2 u5 u6 u16 u17 u18 u19 u20 u21 u22 u23 u24 u25 u26 u27 u28 u29 u30 u31 u32 u33 u34 u35 u36 u37 u38 u39 u40 u41 u42 u43 u44 u45 u46 u47 u48 u49 u50 u51 u52 u53 u54 u55 u56 u57 u58 u59 u60 u61 u62 u63 u64 u65 u66 u67 u68 u69 u70 u71 u72 u73 u74 u75 u76 u77 u78 u79 u80 u81 u82 u83 u84 u85 u86 u87 u88 u89 u90 u91 u92 u93 u94 u95 u96 u97 u98 u99 u100 u101 u102 u103 u104 u105 u106 u107 u108 u109 u110 u111 u112 u113 u114 u115 u116 u117 u118 u119 u120 u121 u122 u123 u124 u125 u126 u127 u128 u129 u130 u131 u132 u133 u134 u135 u136 u137 u138 u139 u140 u141 u142 u143 u144 u145 u146 u147 u148 u149 u150 u151 u152 u153 u154 u155 u156 u157 u158 u159 u160 u161 u162 u163 u164 u165 u166 u167 u168 u169 u170 u171 u172 : Value} {b1 b2 b3 b4 b5 b6 : Nat} {N1 N4 NF NG : Int} {LF LG x1 x4 : List Int} {a1 a2 a3 a4 a5 a6 : Option Addr} {c1 c2 c3 c4 c5 c6 : Nat} {BF BG : Bool} {aM : Option Addr} {cM : Nat} {M : List Int} {FB : Bool} {G U : Int} {W : World}
    (bx1 : Bx W b1 N1 a1 c1 x1)
    (bx2 : Bx W b2 NF a2 c2 LF)
    (bx3 : Bx W b3 NF a3 c3 LF)
    (bx4 : Bx W b4 N4 a4 c4 x4)
    (bx5 : Bx W b5 NG a5 c5 LG)
    (bx6 : Bx W b6 NG a6 c6 LG)
    (hl1 : x1.length ≤ 1099511627776)
    (hl4 : x4.length ≤ 1099511627776)
    (hlF : LF.length ≤ 1099511627776)
    (hlG : LG.length ≤ 1099511627776)
    (hIM : Ints W aM M) (hlM : M.length ≤ 1099511627776) (hMM : missing N1 x1 = M)
    (hc1 : x1.length ≤ c1) (hc4 : x4.length ≤ c4)
    (hFB : flagB N4 x4 = FB) (hG : great N1 x1 = G) (hU : fullTo N1 x1 = U)
    (hK : ∀ (v54 v55 v56 v57 v58 v59 v60 v61 v62 v63 v64 v65 v66 v67 v68 v69 v70 v71 v72 v73 v74 v75 v76 v77 v78 v79 v80 v81 v82 v83 v84 v85 v86 v87 v88 v89 v90 v91 v92 v93 v94 v95 v96 v97 v98 v99 v100 : Value) (w' : World), Below W.heap.size W w' → K ⟨#[u0, u1, u2, .pointer (some ⟨b1, 0, none⟩), .slice aM M.length cM, u5, u6, .pointer (some ⟨b2, 0, none⟩), .bool BF, .pointer (some ⟨b3, 0, none⟩), .bool BF, .pointer (some ⟨b4, 0, none⟩), .pointer (some ⟨b5, 0, none⟩), .bool BG, .pointer (some ⟨b6, 0, none⟩), .bool BG, u16, u17, u18, u19, u20, u21, u22, u23, u24, u25, u26, u27, u28, u29, u30, u31, u32, u33, u34, u35, u36, u37, u38, u39, u40, u41, u42, u43, u44, u45, u46, u47, u48, u49, u50, u51, u52, u53, v54, v55, v56, v57, v58, v59, v60, v61, v62, v63, v64, v65, v66, v67, v68, v69, v70, v71, v72, v73, v74, v75, v76, v77, v78, v79, v80, v81, v82, v83, v84, v85, v86, v87, v88, v89, v90, v91, v92, v93, v94, v95, v96, v97, v98, v99, v100, .bool false, u102, u103, u104, u105, u106, u107, u108, u109, u110, u111, u112, u113, u114, u115, u116, u117, u118, u119, u120, u121, u122, u123, u124, u125, u126, u127, u128, u129, u130, u131, u132, u133, u134, u135, u136, u137, u138, u139, u140, u141, u142, u143, u144, u145, u146, u147, u148, u149, u150, u151, u152, u153, u154, u155, u156, u157, u158, u159, u160, u161, u162, u163, u164, u165, u166, u167, u168, u169, u170, u171, u172], []⟩ w') :
    Code.wp Try.prog (missReg 11) (Exit.then K Q2) ⟨#[u0, u1, u2, .pointer (some ⟨b1, 0, none⟩), .slice aM M.length cM, u5, u6, .pointer (some ⟨b2, 0, none⟩), .bool BF, .pointer (some ⟨b3, 0, none⟩), .bool BF, .pointer (some ⟨b4, 0, none⟩), .pointer (some ⟨b5, 0, none⟩), .bool BG, .pointer (some ⟨b6, 0, none⟩), .bool BG, u16, u17, u18, u19, u20, u21, u22, u23, u24, u25, u26, u27, u28, u29, u30, u31, u32, u33, u34, u35, u36, u37, u38, u39, u40, u41, u42, u43, u44, u45, u46, u47, u48, u49, u50, u51, u52, u53, u54, u55, u56, u57, u58, u59, u60, u61, u62, u63, u64, u65, u66, u67, u68, u69, u70, u71, u72, u73, u74, u75, u76, u77, u78, u79, u80, u81, u82, u83, u84, u85, u86, u87, u88, u89, u90, u91, u92, u93, u94, u95, u96, u97, u98, u99, u100, u101, u102, u103, u104, u105, u106, u107, u108, u109, u110, u111, u112, u113, u114, u115, u116, u117, u118, u119, u120, u121, u122, u123, u124, u125, u126, u127, u128, u129, u130, u131, u132, u133, u134, u135, u136, u137, u138, u139, u140, u141, u142, u143, u144, u145, u146, u147, u148, u149, u150, u151, u152, u153, u154, u155, u156, u157, u158, u159, u160, u161, u162, u163, u164, u165, u166, u167, u168, u169, u170, u171, u172], []⟩ W := by
  have BX1 := Lib.hid bx1
  have IX1 := Lib.hid bx1.2
  have BX2 := Lib.hid bx2
  have IX2 := Lib.hid bx2.2
  have BX3 := Lib.hid bx3
  have IX3 := Lib.hid bx3.2
  have BX4 := Lib.hid bx4
  have IX4 := Lib.hid bx4.2
  have BX5 := Lib.hid bx5
  have IX5 := Lib.hid bx5.2
  have BX6 := Lib.hid bx6
  have IX6 := Lib.hid bx6.2
  have HK := Lib.hid hK
  clear hK bx1 bx2 bx3 bx4 bx5 bx6
  have HBC := Lib.hid (bdrew1 W)
  conv => arg 2; whnf
  have HIM := Lib.hid hIM
  have HMM := Lib.hid hMM
  have HFB := Lib.hid hFB
  have HG := Lib.hid hG
  have HU := Lib.hid hU
  clear hIM hMM hFB hG hU
  first | (go_region_held3 (fun w' => w'.cell? ⟨b1, 0, none⟩ = some (.int .i64 N1) ∧ w'.cell? ⟨b1, 1, none⟩ = some (.slice a1 x1.length c1) ∧ w'.cell? ⟨b2, 0, none⟩ = some (.int .i64 NF) ∧ w'.cell? ⟨b2, 1, none⟩ = some (.slice a2 LF.length c2) ∧ w'.cell? ⟨b3, 0, none⟩ = some (.int .i64 NF) ∧ w'.cell? ⟨b3, 1, none⟩ = some (.slice a3 LF.length c3) ∧ w'.cell? ⟨b4, 0, none⟩ = some (.int .i64 N4) ∧ w'.cell? ⟨b4, 1, none⟩ = some (.slice a4 x4.length c4) ∧ w'.cell? ⟨b5, 0, none⟩ = some (.int .i64 NG) ∧ w'.cell? ⟨b5, 1, none⟩ = some (.slice a5 LG.length c5) ∧ w'.cell? ⟨b6, 0, none⟩ = some (.int .i64 NG) ∧ w'.cell? ⟨b6, 1, none⟩ = some (.slice a6 LG.length c6) ∧ Below W.heap.size W w') (first | (exact ⟨(BX1.out.1.keeps HBC.out).2.1, (BX1.out.1.keeps HBC.out).2.2.1, (BX2.out.1.keeps HBC.out).2.1, (BX2.out.1.keeps HBC.out).2.2.1, (BX3.out.1.keeps HBC.out).2.1, (BX3.out.1.keeps HBC.out).2.2.1, (BX4.out.1.keeps HBC.out).2.1, (BX4.out.1.keeps HBC.out).2.2.1, (BX5.out.1.keeps HBC.out).2.1, (BX5.out.1.keeps HBC.out).2.2.1, (BX6.out.1.keeps HBC.out).2.1, (BX6.out.1.keeps HBC.out).2.2.1, HBC.out⟩) | fail "keep") (first | (go_at_call 20; with_reducible refine (specMissing_b N1 _ _ x1 M HMM.out hl1 _ (IX1.out.keeps HBC.out)).mono ?_; rintro e wN ⟨v, rfl, hO, hbN⟩; obtain ⟨sa, sc, sg, rfl, _, _, hsp, _⟩ := OwnInts.ata hO hbN.size; have HSP := Lib.hid hsp; clear hO hsp; have HBC := Lib.hid (HBC.out.trans (hbN.mono HBC.out.size)); clear hbN) | (go_at_call 19; with_reducible refine (sameInt_any _ _ _ _ M hlM _ (HIM.out.keeps HBC.out) HSP.out.ints).mono ?_; rintro e wN ⟨rfl, hbN⟩; have HBC := Lib.hid (HBC.out.trans (hbN.mono HBC.out.size)); clear hbN) | (go_at_call 21; with_reducible refine (sameCx_any NF a2 a3 c2 c3 LF hlF _ (IX2.out.keeps HBC.out) (IX3.out.keeps HBC.out)).mono ?_; rintro e wN ⟨rfl, hbN⟩; have HBC := Lib.hid (HBC.out.trans (hbN.mono HBC.out.size)); clear hbN) | (go_at_call 21; with_reducible refine (sameCx_any NG a5 a6 c5 c6 LG hlG _ (IX5.out.keeps HBC.out) (IX6.out.keeps HBC.out)).mono ?_; rintro e wN ⟨rfl, hbN⟩; have HBC := Lib.hid (HBC.out.trans (hbN.mono HBC.out.size)); clear hbN) | (go_at_call 22; with_reducible refine (implFlag_b N4 _ _ x4 FB HFB.out hc4 hl4 _ (IX4.out.keeps HBC.out)).mono ?_; rintro e wN ⟨rfl, hbN⟩; have HBC := Lib.hid (HBC.out.trans (hbN.mono HBC.out.size)); clear hbN) | (go_at_call 23; with_reducible refine (specFlag_b N4 _ _ x4 FB HFB.out hl4 _ (IX4.out.keeps HBC.out)).mono ?_; rintro e wN ⟨rfl, hbN⟩; have HBC := Lib.hid (HBC.out.trans (hbN.mono HBC.out.size)); clear hbN) | (go_at_call 24; with_reducible refine (implGreat_b N1 _ _ x1 G HG.out hc1 hl1 _ (IX1.out.keeps HBC.out)).mono ?_; rintro e wN ⟨rfl, hbN⟩; have HBC := Lib.hid (HBC.out.trans (hbN.mono HBC.out.size)); clear hbN) | (go_at_call 25; with_reducible refine (specGreat_b N1 _ _ x1 G HG.out hl1 _ (IX1.out.keeps HBC.out)).mono ?_; rintro e wN ⟨rfl, hbN⟩; have HBC := Lib.hid (HBC.out.trans (hbN.mono HBC.out.size)); clear hbN) | (go_at_call 26; with_reducible refine (implFullTo_b N1 _ _ x1 U HU.out hc1 hl1 _ (IX1.out.keeps HBC.out)).mono ?_; rintro e wN ⟨rfl, hbN⟩; have HBC := Lib.hid (HBC.out.trans (hbN.mono HBC.out.size)); clear hbN) | (go_at_call 27; with_reducible refine (specFullTo_b N1 _ _ x1 U HU.out hl1 _ (IX1.out.keeps HBC.out)).mono ?_; rintro e wN ⟨rfl, hbN⟩; have HBC := Lib.hid (HBC.out.trans (hbN.mono HBC.out.size)); clear hbN) | fail "arm")) | fail "region"
  exact HK.out _ _ _ _ _ _ _ _ _ _ _ _ _ _ _ _ _ _ _ _ _ _ _ _ _ _ _ _ _ _ _ _ _ _ _ _ _ _ _ _ _ _ _ _ _ _ _ _ HBC.out

end Go.Proofs.Ytfnpkglijknnoaa
