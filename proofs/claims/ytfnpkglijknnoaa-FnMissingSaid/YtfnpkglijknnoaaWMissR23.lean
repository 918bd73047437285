/-
  THE LAW ON MISSING SETS: its region 23 (written by genmisslaw.py).
-/
import Derived.Test.YtfnpkglijknnoaaWMissH
import Derived.Test.YtfnpkglijknnoaaJg26
import Derived.Deep.RegionHeld3
import Derived.Deep.QuietTactic
import Derived.BigQuiet
namespace Go.Proofs.Ytfnpkglijknnoaa
open Go.RowKit
open Sets

set_option maxRecDepth 1000000 in
set_option maxHeartbeats 16000000 in
theorem miss_r23 {K : Act → World → Prop} {Q2 : Exit → Act → World → Prop} {u0 u1 u2 u5 u6 u7 u8 u9 u10 u11 u12 u13 u14 u15 u16 u17 u19 u20 u21 u22 u23 u24 u25 u26 u27 u28 u29 u30 u31 u32 u33 u34 u35 u36 u37 u38 u39 u40 u41 u42 u43 u44 u45 u46 u47 u48 u49 u50 u51 u52 u53 u54 u55 u56 u57 u58 u59 u60 u61 u62 u63 u64 u65 u66 u67 u68 u69 u70 u71 u72 u73 u74 u75 u76 u77 u78 u79 u80 u81 u82 u83 u84 u85 u86 u87 u88 u89 u90 u91 u92 u93 u94 u95 u96 u97 u98 u99 u100 u101 u102 u103 u104 u105 u106 u107 u108 u109 u110 u111 u112 u113 u114 u115 u116 u117 u118 u119 u120 u121 u122 u123 u124 u125 u126 u127 u128 u129 u130 u131 u132 u133 u134 u135 u136 u137 u138 u139 u140 u141 u142 u143 u144 u145 u146 u147 u148 u149 u150 u151 u152 u153 u154 u155 u156 u157 u158 u159 u160 u161 u162 u163 u164 u165 u166 u167 u168 u169 u170 u171 u172 : Value} {b1 : Nat} {N1 : Int} {x1 : List Int} {a1 : Option Addr} {c1 : Nat}  {bM oM cM k t : Nat} {M : List Int} {G U : Int} {W : World}
    (bx1 : Bx W b1 N1 a1 c1 x1)
    (hl1 : x1.length ≤ 1099511627776)
    (hcell : W.cell? ⟨bM, oM + k, none⟩ = some (.int .i64 (t : Int))) (hk : k < M.length) (ht : t < 64)
    (hc1 : x1.length ≤ c1)
    (hG : great N1 x1 = G) (hU : fullTo N1 x1 = U) (hUt : U < (pc t : Int)) (htG : (pc t : Int) ≤ G)
    (hK : ∀ (v155 v156 v157 v158 v159 v160 v161 v162 v163 v164 v165 v166 v167 v168 v169 v170 v171 : Value) (w' : World), Below W.heap.size W w' → K ⟨#[u0, u1, u2, .pointer (some ⟨b1, 0, none⟩), .slice (some ⟨bM, oM, none⟩) M.length cM, u5, u6, u7, u8, u9, u10, u11, u12, u13, u14, u15, u16, u17, .int .i64 (k : Int), u19, u20, u21, u22, u23, u24, u25, u26, u27, u28, u29, u30, u31, u32, u33, u34, u35, u36, u37, u38, u39, u40, u41, u42, u43, u44, u45, u46, u47, u48, u49, u50, u51, u52, u53, u54, u55, u56, u57, u58, u59, u60, u61, u62, u63, u64, u65, u66, u67, u68, u69, u70, u71, u72, u73, u74, u75, u76, u77, u78, u79, u80, u81, u82, u83, u84, u85, u86, u87, u88, u89, u90, u91, u92, u93, u94, u95, u96, u97, u98, u99, u100, u101, u102, u103, u104, u105, u106, u107, u108, u109, u110, u111, u112, u113, u114, u115, u116, u117, u118, u119, u120, u121, u122, u123, u124, u125, u126, u127, u128, u129, u130, u131, u132, u133, u134, u135, u136, u137, u138, u139, u140, u141, u142, u143, u144, u145, u146, u147, u148, u149, u150, u151, u152, u153, u154, v155, v156, v157, v158, v159, v160, v161, v162, v163, v164, v165, v166, v167, v168, v169, v170, v171, .bool false], []⟩ w') :
    Code.wp Try.prog (missReg 23) (Exit.then K Q2) ⟨#[u0, u1, u2, .pointer (some ⟨b1, 0, none⟩), .slice (some ⟨bM, oM, none⟩) M.length cM, u5, u6, u7, u8, u9, u10, u11, u12, u13, u14, u15, u16, u17, .int .i64 (k : Int), u19, u20, u21, u22, u23, u24, u25, u26, u27, u28, u29, u30, u31, u32, u33, u34, u35, u36, u37, u38, u39, u40, u41, u42, u43, u44, u45, u46, u47, u48, u49, u50, u51, u52, u53, u54, u55, u56, u57, u58, u59, u60, u61, u62, u63, u64, u65, u66, u67, u68, u69, u70, u71, u72, u73, u74, u75, u76, u77, u78, u79, u80, u81, u82, u83, u84, u85, u86, u87, u88, u89, u90, u91, u92, u93, u94, u95, u96, u97, u98, u99, u100, u101, u102, u103, u104, u105, u106, u107, u108, u109, u110, u111, u112, u113, u114, u115, u116, u117, u118, u119, u120, u121, u122, u123, u124, u125, u126, u127, u128, u129, u130, u131, u132, u133, u134, u135, u136, u137, u138, u139, u140, u141, u142, u143, u144, u145, u146, u147, u148, u149, u150, u151, u152, u153, u154, u155, u156, u157, u158, u159, u160, u161, u162, u163, u164, u165, u166, u167, u168, u169, u170, u171, u172], []⟩ W := by
  have BX1 := Lib.hid bx1
  have IX1 := Lib.hid bx1.2
  have HK := Lib.hid hK
  clear hK bx1
  have HBC := Lib.hid (bdrew1 W)
  conv => arg 2; whnf
  obtain ⟨p, hp⟩ : ∃ p, pc t = p := ⟨_, rfl⟩
  rw [hp] at hUt htG
  have HP := Lib.hid hp
  have HG := Lib.hid hG
  have HU := Lib.hid hU
  have HCL : Hid (∀ w' : World, Below W.heap.size W w' → w'.cell? ⟨bM, oM + k, none⟩ = some (.int .i64 (t : Int))) := fun w' hb => (hb.cell (p := ⟨bM, oM + k, none⟩) (World.block_lt_of_cell? W _ hcell)).trans hcell
  have hd1 : decide ((p : Int) ≤ U) = false := decide_eq_false (by omega)
  have hd2 : decide ((p : Int) > G) = false := decide_eq_false (by omega)
  have hd3 : decide (G < (p : Int)) = false := decide_eq_false (by omega)
  have hn1 : ¬ ((p : Int) ≤ U) := by omega
  have hn2 : ¬ (G < (p : Int)) := by omega
  clear hp hG hU hcell hUt htG
  first | (go_region_held3 (fun w' => w'.cell? ⟨bM, oM + k, none⟩ = some (.int .i64 (t : Int)) ∧ w'.cell? ⟨b1, 0, none⟩ = some (.int .i64 N1) ∧ w'.cell? ⟨b1, 1, none⟩ = some (.slice a1 x1.length c1) ∧ Below W.heap.size W w') (first | (exact ⟨HCL.out _ HBC.out, (BX1.out.1.keeps HBC.out).2.1, (BX1.out.1.keeps HBC.out).2.2.1, HBC.out⟩) | fail "keep") (first | (go_at_call 30; with_reducible refine (specSizeMB t p HP.out ht _).mono ?_; rintro e wN ⟨rfl, hbN⟩; have HBC := Lib.hid (HBC.out.trans (hbN.mono HBC.out.size)); clear hbN) | (go_at_call 26; with_reducible refine (implFullTo_b N1 _ _ x1 U HU.out hc1 hl1 _ (IX1.out.keeps HBC.out)).mono ?_; rintro e wN ⟨rfl, hbN⟩; have HBC := Lib.hid (HBC.out.trans (hbN.mono HBC.out.size)); clear hbN) | (go_at_call 24; with_reducible refine (implGreat_b N1 _ _ x1 G HG.out hc1 hl1 _ (IX1.out.keeps HBC.out)).mono ?_; rintro e wN ⟨rfl, hbN⟩; have HBC := Lib.hid (HBC.out.trans (hbN.mono HBC.out.size)); clear hbN) | fail "arm")) | fail "region"
  exact HK.out _ _ _ _ _ _ _ _ _ _ _ _ _ _ _ _ _ _ HBC.out

end Go.Proofs.Ytfnpkglijknnoaa
