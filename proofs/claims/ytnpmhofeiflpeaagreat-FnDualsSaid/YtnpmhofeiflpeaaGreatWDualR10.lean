/-
  THE LAW ON DUALS: its region 10 (written by genduallaw.py).
-/
import Derived.Test.YtnpmhofeiflpeaaGreatWDualH
import Derived.Deep.RegionHeld3
import Derived.Deep.QuietTactic
import Derived.BigQuiet
namespace Go.Proofs.YtnpmhofeiflpeaaGreat
open Go.RowKit
open Sets Hom

set_option maxRecDepth 1000000 in
set_option maxHeartbeats 16000000 in
theorem dual_r10 {K : Act → World → Prop} {Q2 : Exit → Act → World → Prop} {u0 u1 u2 u3 u14 u15 u16 u17 u18 u19 u20 u21 u22 u23 u24 u25 u26 u27 u28 u29 u30 u31 u32 u33 u34 u35 u36 u37 u38 u39 u40 u41 u42 u43 u44 u45 u46 u47 u48 u49 u50 u51 u52 u53 u54 u55 u56 u57 u58 u59 u60 u61 u62 u63 u64 u65 u66 u67 u68 u69 u70 u71 u72 u73 u74 u75 u76 u77 u78 u79 u80 u81 u82 u83 u84 u85 u86 u87 u88 u89 u90 u91 u92 u93 u94 u95 u96 u97 u98 u99 u100 u101 u102 u103 u104 u105 u106 u107 u108 u109 u110 u111 u112 u113 u114 u115 u116 u117 u118 u119 u120 u121 u122 u123 u124 u125 u126 u127 u128 u129 u130 u131 u132 u133 u134 u135 u136 u137 u138 u139 u140 u141 u142 u143 u144 u145 u146 u147 u148 u149 u150 u151 u152 u153 u154 u155 u156 u157 u158 u159 u160 u161 u162 u163 u164 u165 u166 u167 u168 u169 u170 u171 u172 u173 u174 u175 u176 u177 u178 u179 : Value} {b2 b3 b4 : Nat} {N4 ND : Int} {LD x4 : List Int} {a2 a3 a4 : Option Addr} {c2 c3 c4 : Nat} {BD : Bool} {aS aC : Option Addr} {cS cC : Nat} {xS C : List Int} {Nq sq M : Int} {W : World}
    (bx2 : Bx W b2 ND a2 c2 LD)
    (bx3 : Bx W b3 ND a3 c3 LD)
    (bx4 : Bx W b4 N4 a4 c4 x4)
    (hl4 : x4.length ≤ 1099511627776)
    (hlD : LD.length ≤ 1099511627776)
    (hIS : Ints W aS xS) (hlS : xS.length ≤ 1099511627776) (hIC : Ints W aC C) (hlC : C.length ≤ 1099511627776) (hCV : coversL M xS = C)
    (hc4 : x4.length ≤ c4)
    (JComp : ∀ (n s : Int) (W : World), Calls Tryz.prog 13 #[.int .i64 n, .int .i64 s] W fun e w' => e = .returned (.int .i64 (compZ n s)) ∧ Below W.heap.size W w')
    (JSelf : ∀ (n : Int) (a : Option Addr) (c : Nat) (xs : List Int), xs.length ≤ c → xs.length ≤ 1099511627776 → ∀ W : World, Ints W a xs → Calls Tryz.prog 15 #[cx n (.slice a xs.length c)] W fun e w' => e = .returned (.bool (selfB n xs)) ∧ Below W.heap.size W w')
    (hK : ∀ (v52 v53 v54 v55 v56 v57 v58 v59 v60 v61 v62 v63 v64 v65 v66 v67 v68 v69 v70 v71 v72 v73 v74 v75 v76 v77 v78 v79 v80 v81 v82 v83 : Value) (w' : World), Below W.heap.size W w' → K ⟨#[u0, u1, u2, u3, .pointer (some ⟨b2, 0, none⟩), .bool BD, .pointer (some ⟨b3, 0, none⟩), .bool BD, .int .i64 Nq, .int .i64 sq, .pointer (some ⟨b4, 0, none⟩), .int .i64 M, .slice aS xS.length cS, .slice aC C.length cC, u14, u15, u16, u17, u18, u19, u20, u21, u22, u23, u24, u25, u26, u27, u28, u29, u30, u31, u32, u33, u34, u35, u36, u37, u38, u39, u40, u41, u42, u43, u44, u45, u46, u47, u48, u49, u50, u51, v52, v53, v54, v55, v56, v57, v58, v59, v60, v61, v62, v63, v64, v65, v66, v67, v68, v69, v70, v71, v72, v73, v74, v75, v76, v77, v78, v79, v80, v81, v82, v83, .bool false, u85, u86, u87, u88, u89, u90, u91, u92, u93, u94, u95, u96, u97, u98, u99, u100, u101, u102, u103, u104, u105, u106, u107, u108, u109, u110, u111, u112, u113, u114, u115, u116, u117, u118, u119, u120, u121, u122, u123, u124, u125, u126, u127, u128, u129, u130, u131, u132, u133, u134, u135, u136, u137, u138, u139, u140, u141, u142, u143, u144, u145, u146, u147, u148, u149, u150, u151, u152, u153, u154, u155, u156, u157, u158, u159, u160, u161, u162, u163, u164, u165, u166, u167, u168, u169, u170, u171, u172, u173, u174, u175, u176, u177, u178, u179], []⟩ w') :
    Code.wp Tryz.prog (dualReg 10) (Exit.then K Q2) ⟨#[u0, u1, u2, u3, .pointer (some ⟨b2, 0, none⟩), .bool BD, .pointer (some ⟨b3, 0, none⟩), .bool BD, .int .i64 Nq, .int .i64 sq, .pointer (some ⟨b4, 0, none⟩), .int .i64 M, .slice aS xS.length cS, .slice aC C.length cC, u14, u15, u16, u17, u18, u19, u20, u21, u22, u23, u24, u25, u26, u27, u28, u29, u30, u31, u32, u33, u34, u35, u36, u37, u38, u39, u40, u41, u42, u43, u44, u45, u46, u47, u48, u49, u50, u51, u52, u53, u54, u55, u56, u57, u58, u59, u60, u61, u62, u63, u64, u65, u66, u67, u68, u69, u70, u71, u72, u73, u74, u75, u76, u77, u78, u79, u80, u81, u82, u83, u84, u85, u86, u87, u88, u89, u90, u91, u92, u93, u94, u95, u96, u97, u98, u99, u100, u101, u102, u103, u104, u105, u106, u107, u108, u109, u110, u111, u112, u113, u114, u115, u116, u117, u118, u119, u120, u121, u122, u123, u124, u125, u126, u127, u128, u129, u130, u131, u132, u133, u134, u135, u136, u137, u138, u139, u140, u141, u142, u143, u144, u145, u146, u147, u148, u149, u150, u151, u152, u153, u154, u155, u156, u157, u158, u159, u160, u161, u162, u163, u164, u165, u166, u167, u168, u169, u170, u171, u172, u173, u174, u175, u176, u177, u178, u179], []⟩ W := by
  have BX2 := Lib.hid bx2
  have IX2 := Lib.hid bx2.2
  have BX3 := Lib.hid bx3
  have IX3 := Lib.hid bx3.2
  have BX4 := Lib.hid bx4
  have IX4 := Lib.hid bx4.2
  have HK := Lib.hid hK
  clear hK bx2 bx3 bx4
  have HBC := Lib.hid (bdrew1 W)
  conv => arg 2; whnf
  obtain ⟨z, hz⟩ : ∃ z, compZ Nq sq = z := ⟨_, rfl⟩
  obtain ⟨S, hS⟩ : ∃ S, selfB N4 x4 = S := ⟨_, rfl⟩
  have hJC := JComp Nq sq
  have hJS := JSelf N4 a4 c4 x4 hc4 hl4
  simp only [hz] at hJC
  simp only [hS] at hJS
  have HIS := Lib.hid hIS
  have HIC := Lib.hid hIC
  have HCV := Lib.hid hCV
  have HZ := Lib.hid hz
  have HS := Lib.hid hS
  have HJC := Lib.hid hJC
  have HJS := Lib.hid hJS
  clear hIS hIC hCV hz hS hJC hJS JComp JSelf
  first | (go_region_held3 (fun w' => w'.cell? ⟨b2, 0, none⟩ = some (.int .i64 ND) ∧ w'.cell? ⟨b2, 1, none⟩ = some (.slice a2 LD.length c2) ∧ w'.cell? ⟨b3, 0, none⟩ = some (.int .i64 ND) ∧ w'.cell? ⟨b3, 1, none⟩ = some (.slice a3 LD.length c3) ∧ w'.cell? ⟨b4, 0, none⟩ = some (.int .i64 N4) ∧ w'.cell? ⟨b4, 1, none⟩ = some (.slice a4 x4.length c4) ∧ Below W.heap.size W w') (first | (exact ⟨(BX2.out.1.keeps HBC.out).2.1, (BX2.out.1.keeps HBC.out).2.2.1, (BX3.out.1.keeps HBC.out).2.1, (BX3.out.1.keeps HBC.out).2.2.1, (BX4.out.1.keeps HBC.out).2.1, (BX4.out.1.keeps HBC.out).2.2.1, HBC.out⟩) | fail "keep") (first | (go_at_call 12; with_reducible refine (sameCx_any ND a2 a3 c2 c3 LD hlD _ (IX2.out.keeps HBC.out) (IX3.out.keeps HBC.out)).mono ?_; rintro e wN ⟨rfl, hbN⟩; have HBC := Lib.hid (HBC.out.trans (hbN.mono HBC.out.size)); clear hbN) | (go_at_call 13; with_reducible refine (HJC.out _).mono ?_; rintro e wN ⟨rfl, hbN⟩; have HBC := Lib.hid (HBC.out.trans (hbN.mono HBC.out.size)); clear hbN) | (go_at_call 14; with_reducible refine (specCompB Nq sq z HZ.out _).mono ?_; rintro e wN ⟨rfl, hbN⟩; have HBC := Lib.hid (HBC.out.trans (hbN.mono HBC.out.size)); clear hbN) | (go_at_call 15; with_reducible refine (HJS.out _ (IX4.out.keeps HBC.out)).mono ?_; rintro e wN ⟨rfl, hbN⟩; have HBC := Lib.hid (HBC.out.trans (hbN.mono HBC.out.size)); clear hbN) | (go_at_call 16; with_reducible refine (specSelfB N4 _ _ x4 S HS.out hl4 _ (IX4.out.keeps HBC.out)).mono ?_; rintro e wN ⟨rfl, hbN⟩; have HBC := Lib.hid (HBC.out.trans (hbN.mono HBC.out.size)); clear hbN) | (go_at_call 18; with_reducible refine (specCoversB M _ _ xS C HCV.out hlS _ (HIS.out.keeps HBC.out)).mono ?_; rintro e wN ⟨v, rfl, hO, hbN⟩; obtain ⟨sa, sc, sg, rfl, _, _, hsp, _⟩ := OwnInts.ata hO hbN.size; have HSP := Lib.hid hsp; clear hO hsp; have HBC := Lib.hid (HBC.out.trans (hbN.mono HBC.out.size)); clear hbN) | (go_at_call 17; with_reducible refine (sameInt_any _ _ _ _ C hlC _ (HIC.out.keeps HBC.out) HSP.out.ints).mono ?_; rintro e wN ⟨rfl, hbN⟩; have HBC := Lib.hid (HBC.out.trans (hbN.mono HBC.out.size)); clear hbN) | fail "arm")) | fail "region"
  exact HK.out _ _ _ _ _ _ _ _ _ _ _ _ _ _ _ _ _ _ _ _ _ _ _ _ _ _ _ _ _ _ _ _ _ HBC.out

end Go.Proofs.YtnpmhofeiflpeaaGreat
