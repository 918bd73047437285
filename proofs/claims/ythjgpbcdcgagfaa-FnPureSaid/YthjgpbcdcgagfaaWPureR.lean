/-
  THE LAW ON PURE FUNCTIONS: its region 28 (written by genpure.py).
-/
import Derived.Test.YthjgpbcdcgagfaaWPureH
import Derived.Deep.RegionHeld3
import Derived.Deep.QuietTactic
import Derived.BigQuiet
namespace Go.Proofs.Ythjgpbcdcgagfaa
open Go.RowKit
open Sets Hom

set_option maxRecDepth 1000000 in
set_option maxHeartbeats 16000000 in
theorem pure_r28 {K : Act → World → Prop} {Q2 : Exit → Act → World → Prop} {u0 u1 u2 u7 u8 u10 u11 u12 u13 u14 u20 u21 u22 u23 u24 u25 u26 u27 u28 u29 u30 u31 u32 u33 u34 u35 u36 u37 u38 u39 u40 u41 u42 u43 u44 u45 u46 u47 u48 u49 u50 u51 u52 u53 u54 u55 u56 u57 u58 u59 u60 u61 u62 u63 u64 u65 u66 u67 u68 u69 u70 u71 u72 u73 u74 u75 u76 u77 u78 u79 u80 u81 u82 u83 u84 u85 u86 u87 u88 u89 u90 u91 u92 u93 u94 u95 u96 u97 u98 u99 u100 u101 u102 u103 u104 u105 u106 u107 u108 u109 u110 u111 u112 u113 u114 u115 u116 u117 u118 u119 u120 u121 u122 u123 u124 u125 u126 u127 u128 u129 : Value} {b5 b16 b18 : Nat} {N ND : Int} {xs ys LA LD : List Int} {a3 a4 a5 aA a16 a18 : Option Addr} {c3 c4 c5 cA c16 c18 l3 l5 lA lD : Nat} {BD : Bool} {T : ByteArray} {W : World} {M : Lin.Mat}
    (t5 : Two W b5 (.int .i64 N) (.slice a5 l5 c5)) (t16 : Two W b16 (.int .i64 ND) (.slice a16 lD c16)) (t18 : Two W b18 (.int .i64 ND) (.slice a18 lD c18))
    (i3 : Ints W a3 xs) (i4 : Ints W a4 xs) (i5 : Ints W a5 ys) (iA : Ints W aA LA) (i16 : Ints W a16 LD) (i18 : Ints W a18 LD)
    (h3 : xs.length = l3) (h5 : ys.length = l5) (hA : LA.length = lA) (hD : LD.length = lD) (q3 : l3 ≤ 1048576) (q5 : l5 ≤ 1048576) (qA : lA ≤ 1048576) (qD : lD ≤ 1048576) (q5c : l5 ≤ c5)
    (hL : order xs = LA) (hT : cxText N ys = T) (hM : bordZ N ys 2 = M)
    (hK : ∀ (v93 v94 v95 v96 v97 v98 v99 v100 v101 v102 v103 v104 v105 v106 v107 v108 v109 v110 v111 v112 v113 v114 v115 v116 v117 v118 v119 v120 v121 v122 v123 v124 v125 v126 v127 v128 v129 : Value) (w' : World), Below W.heap.size W w' → K ⟨#[u0, u1, .bool true, .slice a3 l3 c3, .slice a4 l3 c4, .pointer (some ⟨b5, 0, none⟩), .string T, u7, u8, .bool BD, u10, u11, u12, u13, u14, .slice aA lA cA, .pointer (some ⟨b16, 0, none⟩), .bool BD, .pointer (some ⟨b18, 0, none⟩), .bool BD, u20, u21, u22, u23, u24, u25, u26, u27, u28, u29, u30, u31, u32, u33, u34, u35, u36, u37, u38, u39, u40, u41, u42, u43, u44, u45, u46, u47, u48, u49, u50, u51, u52, u53, u54, u55, u56, u57, u58, u59, u60, u61, u62, u63, u64, u65, u66, u67, u68, u69, u70, u71, u72, u73, u74, u75, u76, u77, u78, u79, u80, u81, u82, u83, u84, u85, u86, u87, u88, u89, u90, u91, u92, v93, v94, v95, v96, v97, v98, v99, v100, v101, v102, v103, v104, v105, v106, v107, v108, v109, v110, v111, v112, v113, v114, v115, v116, v117, v118, v119, v120, v121, v122, v123, v124, v125, v126, v127, v128, v129], []⟩ w') :
    Code.wp Try.prog (pureReg 28) (Exit.then K Q2) ⟨#[u0, u1, u2, .slice a3 l3 c3, .slice a4 l3 c4, .pointer (some ⟨b5, 0, none⟩), .string T, u7, u8, .bool BD, u10, u11, u12, u13, u14, .slice aA lA cA, .pointer (some ⟨b16, 0, none⟩), .bool BD, .pointer (some ⟨b18, 0, none⟩), .bool BD, u20, u21, u22, u23, u24, u25, u26, u27, u28, u29, u30, u31, u32, u33, u34, u35, u36, u37, u38, u39, u40, u41, u42, u43, u44, u45, u46, u47, u48, u49, u50, u51, u52, u53, u54, u55, u56, u57, u58, u59, u60, u61, u62, u63, u64, u65, u66, u67, u68, u69, u70, u71, u72, u73, u74, u75, u76, u77, u78, u79, u80, u81, u82, u83, u84, u85, u86, u87, u88, u89, u90, u91, u92, u93, u94, u95, u96, u97, u98, u99, u100, u101, u102, u103, u104, u105, u106, u107, u108, u109, u110, u111, u112, u113, u114, u115, u116, u117, u118, u119, u120, u121, u122, u123, u124, u125, u126, u127, u128, u129], []⟩ W := by
  have T5 := Lib.hid t5
  have T16 := Lib.hid t16
  have T18 := Lib.hid t18
  have I3 := Lib.hid i3
  have I4 := Lib.hid i4
  have I5 := Lib.hid i5
  have IA := Lib.hid iA
  have I16 := Lib.hid i16
  have I18 := Lib.hid i18
  have HK := Lib.hid hK
  have HAL := Lib.hid hA
  have FM := Lib.hid (bordZ_off N ys 2)
  rw [hM] at FM
  have GT := Lib.hid (fun w h => ptext_any N a5 c5 l5 ys h5 q5 T hT w h)
  have GO := Lib.hid (fun w h => porderS_l a3 c3 l3 xs h3 (by omega) LA hL lA hA w h)
  have GC := Lib.hid (fun w h1 h2 => psameCx_any ND a16 a18 c16 c18 lD LD hD (by omega) w h1 h2)
  have GI := Lib.hid (fun w h1 h2 => psameInt_any a3 a4 c3 c4 l3 xs h3 (by omega) w h1 h2)
  have GB := Lib.hid (fun w h => pbordI_any N a5 c5 l5 ys h5 q5c (by omega) 2 M hM w h)
  have GS := Lib.hid (fun w h => pbordS_any N a5 c5 l5 ys h5 (by omega) 2 M hM w h)
  have hqA : lA ≤ 1099511627776 := by omega
  clear t5 t16 t18 i3 i4 i5 iA i16 i18 hK hA hD h3 h5 hL hT hM q3 q5 qA qD q5c
  have HBC := Lib.hid (bdrew1 W)
  conv => arg 2; whnf
  first | (go_region_held3 (fun w' => w'.cell? ⟨b5, 0, none⟩ = some (.int .i64 N) ∧ w'.cell? ⟨b5, 1, none⟩ = some (.slice a5 l5 c5) ∧ w'.cell? ⟨b16, 0, none⟩ = some (.int .i64 ND) ∧ w'.cell? ⟨b16, 1, none⟩ = some (.slice a16 lD c16) ∧ w'.cell? ⟨b18, 0, none⟩ = some (.int .i64 ND) ∧ w'.cell? ⟨b18, 1, none⟩ = some (.slice a18 lD c18) ∧ Below W.heap.size W w') (first | (exact ⟨(T5.out.keeps HBC.out).2.1, (T5.out.keeps HBC.out).2.2.1, (T16.out.keeps HBC.out).2.1, (T16.out.keeps HBC.out).2.2.1, (T18.out.keeps HBC.out).2.1, (T18.out.keeps HBC.out).2.2.1, HBC.out⟩) | fail "keep") (first | (go_at_call 37; with_reducible refine (GI.out _ (I3.out.keeps HBC.out) (I4.out.keeps HBC.out)).mono ?_; rintro e wN ⟨rfl, hbN⟩; have HBC := Lib.hid (HBC.out.trans (hbN.mono HBC.out.size)); clear hbN) | (go_at_call 33; with_reducible refine (GT.out _ (I5.out.keeps HBC.out)).mono ?_; rintro e wN ⟨rfl, hbN⟩; have HBC := Lib.hid (HBC.out.trans (hbN.mono HBC.out.size)); clear hbN) | (go_at_call 38; with_reducible refine (GO.out _ (I3.out.keeps HBC.out)).mono ?_; rintro e wN ⟨sa, sc, rfl, hsp, hbN⟩; have HSP := Lib.hid hsp; clear hsp; have HBC := Lib.hid (HBC.out.trans (hbN.mono HBC.out.size)); clear hbN) | (go_at_call 37; with_reducible refine (psameInt_any _ _ _ _ lA LA HAL.out hqA _ (IA.out.keeps HBC.out) HSP.out).mono ?_; rintro e wN ⟨rfl, hbN⟩; have HBC := Lib.hid (HBC.out.trans (hbN.mono HBC.out.size)); clear hbN) | (go_at_call 39; with_reducible refine (GC.out _ (I16.out.keeps HBC.out) (I18.out.keeps HBC.out)).mono ?_; rintro e wN ⟨rfl, hbN⟩; have HBC := Lib.hid (HBC.out.trans (hbN.mono HBC.out.size)); clear hbN) | (go_at_call 13; with_reducible refine (GB.out _ (I5.out.keeps HBC.out)).mono ?_; rintro e wN ⟨vI, rfl, hX, hbN⟩; have XI := Lib.hid hX; clear hX; have HBC := Lib.hid (HBC.out.trans (hbN.mono HBC.out.size)); clear hbN) | (go_at_call 23; with_reducible refine (GS.out _ (I5.out.keeps HBC.out)).mono ?_; rintro e wN ⟨vS, rfl, hX, hbN⟩; have XS := Lib.hid hX; have XI := Lib.hid (HasMx.pkeeps XI.out hbN); clear hX; have HBC := Lib.hid (HBC.out.trans (hbN.mono HBC.out.size)); clear hbN) | (go_at_call 22; with_reducible refine (psameMx_any FM.out.1 FM.out.2 _ XI.out XS.out).mono ?_; rintro e wN ⟨rfl, hbN⟩; have HBC := Lib.hid (HBC.out.trans (hbN.mono HBC.out.size)); clear hbN) | fail "arm")) | fail "region"
  exact HK.out _ _ _ _ _ _ _ _ _ _ _ _ _ _ _ _ _ _ _ _ _ _ _ _ _ _ _ _ _ _ _ _ _ _ _ _ _ _ HBC.out

end Go.Proofs.Ythjgpbcdcgagfaa
