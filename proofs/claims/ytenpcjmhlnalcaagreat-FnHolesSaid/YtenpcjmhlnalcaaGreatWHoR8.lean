/-
  THE LAW ON HOLES: its region 8 (written by genholelaw.py).
-/
import Derived.Test.YtenpcjmhlnalcaaGreatWHoH
import Derived.Deep.RegionHeld3
import Derived.Deep.QuietTactic
import Derived.BigQuiet
namespace Go.Proofs.YtenpcjmhlnalcaaGreat
open Go.RowKit
open Sets Lin Join Hom

set_option maxRecDepth 1000000 in
set_option maxHeartbeats 16000000 in
theorem ho_r8 {K : Act → World → Prop} {Q2 : Exit → Act → World → Prop} {u0 u1 u2 u11 u12 u13 u14 u15 u16 u17 u18 u19 u20 u21 u22 u23 u24 u25 u26 u27 u28 u29 u30 u31 u32 u33 u34 u35 u36 u37 u38 u39 u40 u41 u42 u43 u44 u45 u46 u47 u48 u49 u50 u51 u52 u53 u54 u55 u56 u57 u58 u59 u60 u61 u62 u63 u64 u65 u66 u67 u68 u69 u70 u71 u72 u73 u74 u75 u76 u77 u78 u79 u80 u81 u82 u83 u84 u85 u86 u87 u88 u89 u90 u91 u92 u93 u94 u95 u96 u97 u98 u99 u100 u101 u102 u103 u104 u105 u106 u107 u108 u109 u110 u111 u112 u113 u114 u115 u116 u117 u118 u119 u120 u121 u122 u123 u124 u125 u126 u127 u128 u129 u130 u131 u132 u133 u134 u135 u136 u137 : Value} {b3 b6 b8 b10 : Nat} {n3 n6 n8 n10 : Int} {a3 a6 a8 a10 : Option Addr} {c3 l3 c6 l6 c8 l8 c10 l10 : Nat} {x3 x6 x8 x10 : List Int} {p1 p2 p3 : Int} {a5 : Option Addr} {c5 l5 : Nat} {L : List Int} {W : World}
    (t3 : Two W b3 (.int .i64 n3) (.slice a3 l3 c3)) (i3 : Ints W a3 x3) (h3 : x3.length = l3) (q3 : l3 ≤ 1048576) (s3 : l3 ≤ c3)
    (t6 : Two W b6 (.int .i64 n6) (.slice a6 l6 c6)) (i6 : Ints W a6 x6) (h6 : x6.length = l6) (q6 : l6 ≤ 1048576) (s6 : l6 ≤ c6)
    (t8 : Two W b8 (.int .i64 n8) (.slice a8 l8 c8)) (i8 : Ints W a8 x8) (h8 : x8.length = l8) (q8 : l8 ≤ 1048576) (s8 : l8 ≤ c8)
    (t10 : Two W b10 (.int .i64 n10) (.slice a10 l10 c10)) (i10 : Ints W a10 x10) (h10 : x10.length = l10) (q10 : l10 ≤ 1048576) (s10 : l10 ≤ c10)
    (i5 : Ints W a5 L) (h5 : L.length = l5) (q5 : l5 ≤ 7) (hL : holZ n3 x3 p1 = L)
    (hK : ∀ (v34 v35 v36 v37 v38 v39 v40 v41 v42 v43 v44 v45 v46 v47 v48 v49 v50 v51 v52 v53 v54 v55 v56 v57 v58 v59 v60 v61 v62 v63 v64 v65 v66 v67 v68 v69 v70 v71 : Value) (w' : World), Below W.heap.size W w' → K ⟨#[u0, u1, u2, .pointer (some ⟨b3, 0, none⟩), .int .i64 p1, .slice a5 l5 c5, .pointer (some ⟨b6, 0, none⟩), .int .i64 p2, .pointer (some ⟨b8, 0, none⟩), .int .i64 p3, .pointer (some ⟨b10, 0, none⟩), u11, u12, u13, u14, u15, u16, u17, u18, u19, u20, u21, u22, u23, u24, u25, u26, u27, u28, u29, u30, u31, u32, u33, v34, v35, v36, v37, v38, v39, v40, v41, v42, v43, v44, v45, v46, v47, v48, v49, v50, v51, v52, v53, v54, v55, v56, v57, v58, v59, v60, v61, v62, v63, v64, v65, v66, v67, v68, v69, v70, v71, .bool false, u73, u74, u75, u76, u77, u78, u79, u80, u81, u82, u83, u84, u85, u86, u87, u88, u89, u90, u91, u92, u93, u94, u95, u96, u97, u98, u99, u100, u101, u102, u103, u104, u105, u106, u107, u108, u109, u110, u111, u112, u113, u114, u115, u116, u117, u118, u119, u120, u121, u122, u123, u124, u125, u126, u127, u128, u129, u130, u131, u132, u133, u134, u135, u136, u137], []⟩ w') :
    Code.wp Tryz.prog (hoReg 8) (Exit.then K Q2) ⟨#[u0, u1, u2, .pointer (some ⟨b3, 0, none⟩), .int .i64 p1, .slice a5 l5 c5, .pointer (some ⟨b6, 0, none⟩), .int .i64 p2, .pointer (some ⟨b8, 0, none⟩), .int .i64 p3, .pointer (some ⟨b10, 0, none⟩), u11, u12, u13, u14, u15, u16, u17, u18, u19, u20, u21, u22, u23, u24, u25, u26, u27, u28, u29, u30, u31, u32, u33, u34, u35, u36, u37, u38, u39, u40, u41, u42, u43, u44, u45, u46, u47, u48, u49, u50, u51, u52, u53, u54, u55, u56, u57, u58, u59, u60, u61, u62, u63, u64, u65, u66, u67, u68, u69, u70, u71, u72, u73, u74, u75, u76, u77, u78, u79, u80, u81, u82, u83, u84, u85, u86, u87, u88, u89, u90, u91, u92, u93, u94, u95, u96, u97, u98, u99, u100, u101, u102, u103, u104, u105, u106, u107, u108, u109, u110, u111, u112, u113, u114, u115, u116, u117, u118, u119, u120, u121, u122, u123, u124, u125, u126, u127, u128, u129, u130, u131, u132, u133, u134, u135, u136, u137], []⟩ W := by
  have HK := Lib.hid hK
  have hsm := holZ_small n3 x3 p1
  rw [hL, h5] at hsm
  obtain ⟨zt, hzt⟩ : ∃ z, tot L = z := ⟨_, rfl⟩
  obtain ⟨zn, hzn⟩ : ∃ z, noneZ (holZ n6 x6 p2) = z := ⟨_, rfl⟩
  obtain ⟨zp, hzp⟩ : ∃ z, sphereZ (holZ n8 x8 p3) = z := ⟨_, rfl⟩
  obtain ⟨zq, hzq⟩ : ∃ z, partsZ n10 x10 = z := ⟨_, rfl⟩
  have HL5 := Lib.hid h5
  have GS := Lib.hid (fun w h => hoSH n3 a3 c3 l3 x3 h3 (by omega) p1 L hL l5 h5 w h)
  have GC := Lib.hid (fun w h => hoCI n3 a3 c3 l3 x3 h3 s3 (by omega) p1 zt (by rw [hL]; exact hzt) w h)
  have GT := Lib.hid (fun w h => hoTot a5 c5 l5 L h5 q5 hsm zt hzt w h)
  have GNI := Lib.hid (fun w h => hoNI n6 a6 c6 l6 x6 h6 s6 (by omega) p2 zn hzn w h)
  have GNS := Lib.hid (fun w h => hoNS n6 a6 c6 l6 x6 h6 s6 (by omega) p2 zn hzn w h)
  have GPI := Lib.hid (fun w h => hoPI n8 a8 c8 l8 x8 h8 s8 (by omega) p3 zp hzp w h)
  have GPS := Lib.hid (fun w h => hoPS n8 a8 c8 l8 x8 h8 s8 (by omega) p3 zp hzp w h)
  have GQI := Lib.hid (fun w h => hoQI n10 a10 c10 l10 x10 h10 s10 (by omega) zq hzq w h)
  have GQS := Lib.hid (fun w h => hoQS n10 a10 c10 l10 x10 h10 s10 (by omega) zq hzq w h)
  have T3 := Lib.hid t3
  have I3 := Lib.hid i3
  have T6 := Lib.hid t6
  have I6 := Lib.hid i6
  have T8 := Lib.hid t8
  have I8 := Lib.hid i8
  have T10 := Lib.hid t10
  have I10 := Lib.hid i10
  have I5 := Lib.hid i5
  have hq5 : l5 ≤ 1099511627776 := by omega
  clear hK hL h5 hsm hzt hzn hzp hzq q5 i5 t3 i3 h3 q3 s3 t6 i6 h6 q6 s6 t8 i8 h8 q8 s8 t10 i10 h10 q10 s10
  have HBC := Lib.hid (bdrew1 W)
  conv => arg 2; whnf
  first | (go_region_held3 (fun w' => w'.cell? ⟨b3, 0, none⟩ = some (.int .i64 n3) ∧ w'.cell? ⟨b3, 1, none⟩ = some (.slice a3 l3 c3) ∧ w'.cell? ⟨b6, 0, none⟩ = some (.int .i64 n6) ∧ w'.cell? ⟨b6, 1, none⟩ = some (.slice a6 l6 c6) ∧ w'.cell? ⟨b8, 0, none⟩ = some (.int .i64 n8) ∧ w'.cell? ⟨b8, 1, none⟩ = some (.slice a8 l8 c8) ∧ w'.cell? ⟨b10, 0, none⟩ = some (.int .i64 n10) ∧ w'.cell? ⟨b10, 1, none⟩ = some (.slice a10 l10 c10) ∧ Below W.heap.size W w') (first | (exact ⟨(T3.out.keeps HBC.out).2.1, (T3.out.keeps HBC.out).2.2.1, (T6.out.keeps HBC.out).2.1, (T6.out.keeps HBC.out).2.2.1, (T8.out.keeps HBC.out).2.1, (T8.out.keeps HBC.out).2.2.1, (T10.out.keeps HBC.out).2.1, (T10.out.keeps HBC.out).2.2.1, HBC.out⟩) | fail "keep") (first | (go_at_call 11; with_reducible refine (GS.out _ (I3.out.keeps HBC.out)).mono ?_; rintro e wN ⟨sa, sc, rfl, hsp, hbN⟩; have HSP := Lib.hid hsp; clear hsp; have HBC := Lib.hid (HBC.out.trans (hbN.mono HBC.out.size)); clear hbN) | (go_at_call 10; with_reducible refine (hoSame _ _ _ _ l5 L HL5.out hq5 _ (I5.out.keeps HBC.out) HSP.out).mono ?_; rintro e wN ⟨rfl, hbN⟩; have HBC := Lib.hid (HBC.out.trans (hbN.mono HBC.out.size)); clear hbN) | (go_at_call 12; with_reducible refine (GC.out _ (I3.out.keeps HBC.out)).mono ?_; rintro e wN ⟨rfl, hbN⟩; have HBC := Lib.hid (HBC.out.trans (hbN.mono HBC.out.size)); clear hbN) | (go_at_call 13; with_reducible refine (GT.out _ (I5.out.keeps HBC.out)).mono ?_; rintro e wN ⟨rfl, hbN⟩; have HBC := Lib.hid (HBC.out.trans (hbN.mono HBC.out.size)); clear hbN) | (go_at_call 14; with_reducible refine (GNI.out _ (I6.out.keeps HBC.out)).mono ?_; rintro e wN ⟨rfl, hbN⟩; have HBC := Lib.hid (HBC.out.trans (hbN.mono HBC.out.size)); clear hbN) | (go_at_call 15; with_reducible refine (GNS.out _ (I6.out.keeps HBC.out)).mono ?_; rintro e wN ⟨rfl, hbN⟩; have HBC := Lib.hid (HBC.out.trans (hbN.mono HBC.out.size)); clear hbN) | (go_at_call 16; with_reducible refine (GPI.out _ (I8.out.keeps HBC.out)).mono ?_; rintro e wN ⟨rfl, hbN⟩; have HBC := Lib.hid (HBC.out.trans (hbN.mono HBC.out.size)); clear hbN) | (go_at_call 17; with_reducible refine (GPS.out _ (I8.out.keeps HBC.out)).mono ?_; rintro e wN ⟨rfl, hbN⟩; have HBC := Lib.hid (HBC.out.trans (hbN.mono HBC.out.size)); clear hbN) | (go_at_call 18; with_reducible refine (GQI.out _ (I10.out.keeps HBC.out)).mono ?_; rintro e wN ⟨rfl, hbN⟩; have HBC := Lib.hid (HBC.out.trans (hbN.mono HBC.out.size)); clear hbN) | (go_at_call 19; with_reducible refine (GQS.out _ (I10.out.keeps HBC.out)).mono ?_; rintro e wN ⟨rfl, hbN⟩; have HBC := Lib.hid (HBC.out.trans (hbN.mono HBC.out.size)); clear hbN) | fail "arm")) | fail "region"
  exact HK.out _ _ _ _ _ _ _ _ _ _ _ _ _ _ _ _ _ _ _ _ _ _ _ _ _ _ _ _ _ _ _ _ _ _ _ _ _ _ _ HBC.out

end Go.Proofs.YtenpcjmhlnalcaaGreat
