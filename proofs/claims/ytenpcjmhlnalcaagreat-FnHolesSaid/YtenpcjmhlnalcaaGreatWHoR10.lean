/-
  THE LAW ON HOLES: its region 10 (written by genholelaw.py).
-/
import Derived.Test.YtenpcjmhlnalcaaGreatWHoH
import Derived.Deep.RegionHeld3
import Derived.Deep.QuietTactic
import Derived.BigQuiet
namespace Go.Proofs.YtenpcjmhlnalcaaGreat
open Go.RowKit
open Sets Lin Join Hom

set_option maxRecDepth 1000000 in
set_option maxHeartbeats 16000000 in
theorem ho_r10 {K : Act → World → Prop} {Q2 : Exit → Act → World → Prop} {u0 u1 u2 u3 u4 u5 u8 u9 u10 u11 u12 u13 u14 u15 u16 u17 u18 u19 u20 u21 u22 u23 u24 u25 u26 u27 u28 u29 u30 u31 u32 u33 u34 u35 u36 u37 u38 u39 u40 u41 u42 u43 u44 u45 u46 u47 u48 u49 u50 u51 u52 u53 u54 u55 u56 u57 u58 u59 u60 u61 u62 u63 u64 u65 u66 u67 u68 u69 u70 u71 u72 u73 u74 u75 u76 u77 u78 u79 u80 u81 u82 u83 u84 u85 u86 u87 u88 u89 u90 u91 u92 u93 u94 u95 u96 u97 u98 u99 u100 u101 u102 u103 u104 u105 u106 u107 u108 u109 u110 u111 u112 u113 u114 u115 u116 u117 u118 u119 u120 u121 u122 u123 u124 u125 u126 u127 u128 u129 u130 u131 u132 u133 u134 u135 u136 u137 : Value} {b6 : Nat} {n6 : Int} {a6 : Option Addr} {c6 l6 : Nat} {x6 : List Int} {p2 : Int} {W : World}
    (t6 : Two W b6 (.int .i64 n6) (.slice a6 l6 c6)) (i6 : Ints W a6 x6) (h6 : x6.length = l6) (q6 : l6 ≤ 1048576) (s6 : l6 ≤ c6)
    (hK : ∀ (v73 v74 v75 v76 v77 v78 v79 v80 v81 v82 v83 v84 : Value) (w' : World), Below W.heap.size W w' → K ⟨#[u0, u1, u2, u3, u4, u5, .pointer (some ⟨b6, 0, none⟩), .int .i64 p2, u8, u9, u10, u11, u12, u13, u14, u15, u16, u17, u18, u19, u20, u21, u22, u23, u24, u25, u26, u27, u28, u29, u30, u31, u32, u33, u34, u35, u36, u37, u38, u39, u40, u41, u42, u43, u44, u45, u46, u47, u48, u49, u50, u51, u52, u53, u54, u55, u56, u57, u58, u59, u60, u61, u62, u63, u64, u65, u66, u67, u68, u69, u70, u71, u72, v73, v74, v75, v76, v77, v78, v79, v80, v81, v82, v83, v84, .bool false, u86, u87, u88, u89, u90, u91, u92, u93, u94, u95, u96, u97, u98, u99, u100, u101, u102, u103, u104, u105, u106, u107, u108, u109, u110, u111, u112, u113, u114, u115, u116, u117, u118, u119, u120, u121, u122, u123, u124, u125, u126, u127, u128, u129, u130, u131, u132, u133, u134, u135, u136, u137], []⟩ w') :
    Code.wp Tryz.prog (hoReg 10) (Exit.then K Q2) ⟨#[u0, u1, u2, u3, u4, u5, .pointer (some ⟨b6, 0, none⟩), .int .i64 p2, u8, u9, u10, u11, u12, u13, u14, u15, u16, u17, u18, u19, u20, u21, u22, u23, u24, u25, u26, u27, u28, u29, u30, u31, u32, u33, u34, u35, u36, u37, u38, u39, u40, u41, u42, u43, u44, u45, u46, u47, u48, u49, u50, u51, u52, u53, u54, u55, u56, u57, u58, u59, u60, u61, u62, u63, u64, u65, u66, u67, u68, u69, u70, u71, u72, u73, u74, u75, u76, u77, u78, u79, u80, u81, u82, u83, u84, u85, u86, u87, u88, u89, u90, u91, u92, u93, u94, u95, u96, u97, u98, u99, u100, u101, u102, u103, u104, u105, u106, u107, u108, u109, u110, u111, u112, u113, u114, u115, u116, u117, u118, u119, u120, u121, u122, u123, u124, u125, u126, u127, u128, u129, u130, u131, u132, u133, u134, u135, u136, u137], []⟩ W := by
  have HK := Lib.hid hK
  obtain ⟨zc, hzc⟩ : ∃ z, conePts n6 x6 = z := ⟨_, rfl⟩
  obtain ⟨zb, hzb⟩ : ∃ z, primeB p2 = z := ⟨_, rfl⟩
  obtain ⟨zn, hzn⟩ : ∃ z, noneZ (holZ n6 x6 p2) = z := ⟨_, rfl⟩
  have hcone : zc ≠ 0 → zb = true → zn = true := by rw [← hzc, ← hzb, ← hzn]; exact hol_cone
  have GC := Lib.hid (fun w h => hoCo n6 a6 c6 l6 x6 h6 s6 (by omega) zc hzc w h)
  have GN := Lib.hid (fun w h => hoNI n6 a6 c6 l6 x6 h6 s6 (by omega) p2 zn hzn w h)
  have HP := Lib.hid hzb
  have HCN := Lib.hid hcone
  have T6 := Lib.hid t6
  have I6 := Lib.hid i6
  clear hK t6 i6 h6 q6 s6 hzc hzb hzn hcone
  have HBC := Lib.hid (Below.refl W.heap.size W)
  conv => arg 2; whnf
  obtain ⟨t0, t1, t2, -, -⟩ := T6.out
  go_wp2_with fail
  refine (GC.out _ I6.out).mono ?_
  rintro e w1 ⟨rfl, hbN⟩
  have HBC := Lib.hid (HBC.out.trans (hbN.mono HBC.out.size))
  clear hbN
  clear t0 t1 t2
  by_cases h0 : zc = 0
  · have hz : ((zc : Int) != 0) = false := by subst h0; rfl
    have hz2 : ((zc : Int) == 0) = true := by subst h0; rfl
    go_wp2
    exact HK.out _ _ _ _ _ _ _ _ _ _ _ _ _ HBC.out
  · have hz : ((zc : Int) != 0) = true := by rw [bne_iff_ne]; omega
    have hz2 : ((zc : Int) == 0) = false := by rw [beq_eq_false_iff_ne]; omega
    go_wp2_with fail
    refine (isPrime_any _ _).mono ?_
    rw [HP.out]
    rintro e w' ⟨rfl, rfl⟩
    cases zb with
    | false =>
      go_wp2
      exact HK.out _ _ _ _ _ _ _ _ _ _ _ _ _ HBC.out
    | true =>
      obtain rfl : zn = true := HCN.out h0 rfl
      obtain ⟨t0, t1, t2, -, -⟩ := Two.keeps T6.out HBC.out
      go_wp2_with fail
      refine (GN.out _ (I6.out.keeps HBC.out)).mono ?_
      rintro e w2 ⟨rfl, hbN⟩
      have HBC := Lib.hid (HBC.out.trans (hbN.mono HBC.out.size))
      clear hbN
      go_wp2
      exact HK.out _ _ _ _ _ _ _ _ _ _ _ _ _ HBC.out

end Go.Proofs.YtenpcjmhlnalcaaGreat
