/-
  THE LAW ON MISSING SETS: its region 13 (written by genmisslaw.py).
-/
import Derived.Test.YtfnpkglijknnoaaWMissH
import Derived.Test.YtfnpkglijknnoaaJg25
import Derived.Test.YtfnpkglijknnoaaJg6
import Derived.Deep.RegionHeld3
import Derived.Deep.QuietTactic
import Derived.BigQuiet
namespace Go.Proofs.Ytfnpkglijknnoaa
open Go.RowKit
open Sets

set_option maxRecDepth 1000000 in
set_option maxHeartbeats 16000000 in
theorem miss_r13 {K : Act → World → Prop} {Q2 : Exit → Act → World → Prop} {u0 u1 u2 u3 u4 u5 u9 u10 u11 u12 u13 u14 u15 u16 u17 u18 u19 u20 u21 u22 u23 u24 u25 u26 u27 u28 u29 u30 u31 u32 u33 u34 u35 u36 u37 u38 u39 u40 u41 u42 u43 u44 u45 u46 u47 u48 u49 u50 u51 u52 u53 u54 u55 u56 u57 u58 u59 u60 u61 u62 u63 u64 u65 u66 u67 u68 u69 u70 u71 u72 u73 u74 u75 u76 u77 u78 u79 u80 u81 u82 u83 u84 u85 u86 u87 u88 u89 u90 u91 u92 u93 u94 u95 u96 u97 u98 u99 u100 u101 u102 u103 u104 u105 u106 u107 u108 u109 u110 u111 u112 u113 u114 u115 u116 u117 u118 u119 u120 u121 u122 u123 u124 u125 u126 u127 u128 u129 u130 u131 u132 u133 u134 u135 u136 u137 u138 u139 u140 u141 u142 u143 u144 u145 u146 u147 u148 u149 u150 u151 u152 u153 u154 u155 u156 u157 u158 u159 u160 u161 u162 u163 u164 u165 u166 u167 u168 u169 u170 u171 u172 : Value} {b2 : Nat} {NF : Int} {LF : List Int} {a2 : Option Addr} {c2 : Nat} {BF : Bool} {aS : Option Addr} {cS : Nat} {xS : List Int} {N2 : Int} {W : World}
    (bx2 : Bx W b2 NF a2 c2 LF)
    (hlF : LF.length ≤ 1099511627776)
    (hIS : Ints W aS xS) (hlS : xS.length ≤ 1099511627776) (hc2 : LF.length ≤ c2)
    (ENF : oN (fromO N2 xS) = NF) (ELF : oL (fromO N2 xS) = LF) (EBF : (fromO N2 xS).isSome = BF)
    (hK : ∀ (v102 v103 v104 v105 v106 v107 v108 v109 : Value) (w' : World), Below W.heap.size W w' → K ⟨#[u0, u1, u2, u3, u4, u5, .slice aS xS.length cS, .pointer (some ⟨b2, 0, none⟩), .bool BF, u9, u10, u11, u12, u13, u14, u15, u16, u17, u18, u19, u20, u21, u22, u23, u24, u25, u26, u27, u28, u29, u30, u31, u32, u33, u34, u35, u36, u37, u38, u39, u40, u41, u42, u43, u44, u45, u46, u47, u48, u49, u50, u51, u52, u53, u54, u55, u56, u57, u58, u59, u60, u61, u62, u63, u64, u65, u66, u67, u68, u69, u70, u71, u72, u73, u74, u75, u76, u77, u78, u79, u80, u81, u82, u83, u84, u85, u86, u87, u88, u89, u90, u91, u92, u93, u94, u95, u96, u97, u98, u99, u100, u101, v102, v103, v104, v105, v106, v107, v108, v109, .bool false, u111, u112, u113, u114, u115, u116, u117, u118, u119, u120, u121, u122, u123, u124, u125, u126, u127, u128, u129, u130, u131, u132, u133, u134, u135, u136, u137, u138, u139, u140, u141, u142, u143, u144, u145, u146, u147, u148, u149, u150, u151, u152, u153, u154, u155, u156, u157, u158, u159, u160, u161, u162, u163, u164, u165, u166, u167, u168, u169, u170, u171, u172], []⟩ w') :
    Code.wp Try.prog (missReg 13) (Exit.then K Q2) ⟨#[u0, u1, u2, u3, u4, u5, .slice aS xS.length cS, .pointer (some ⟨b2, 0, none⟩), .bool BF, u9, u10, u11, u12, u13, u14, u15, u16, u17, u18, u19, u20, u21, u22, u23, u24, u25, u26, u27, u28, u29, u30, u31, u32, u33, u34, u35, u36, u37, u38, u39, u40, u41, u42, u43, u44, u45, u46, u47, u48, u49, u50, u51, u52, u53, u54, u55, u56, u57, u58, u59, u60, u61, u62, u63, u64, u65, u66, u67, u68, u69, u70, u71, u72, u73, u74, u75, u76, u77, u78, u79, u80, u81, u82, u83, u84, u85, u86, u87, u88, u89, u90, u91, u92, u93, u94, u95, u96, u97, u98, u99, u100, u101, u102, u103, u104, u105, u106, u107, u108, u109, u110, u111, u112, u113, u114, u115, u116, u117, u118, u119, u120, u121, u122, u123, u124, u125, u126, u127, u128, u129, u130, u131, u132, u133, u134, u135, u136, u137, u138, u139, u140, u141, u142, u143, u144, u145, u146, u147, u148, u149, u150, u151, u152, u153, u154, u155, u156, u157, u158, u159, u160, u161, u162, u163, u164, u165, u166, u167, u168, u169, u170, u171, u172], []⟩ W := by
  have BX2 := Lib.hid bx2
  have IX2 := Lib.hid bx2.2
  have HK := Lib.hid hK
  clear hK bx2
  have HBC := Lib.hid (bdrew1 W)
  conv => arg 2; whnf
  clear HBC
  have HIS := Lib.hid hIS
  clear hIS
  obtain ⟨s0, s1, s2, s3, s4⟩ := BX2.out.1
  cases hk : BF with
  | false =>
    subst hk
    go_wp2_with fail
    exact HK.out _ _ _ _ _ _ _ _ _ (Below.refl _ _)
  | true =>
    have hso : setsOf N2 xS = true := by rw [hk] at EBF; unfold fromO at EBF; rwa [parts_someM] at EBF
    subst hk
    have hNF : NF = N2 := by rw [← ENF]; unfold fromO partO; rw [if_pos hso]; rfl
    have hLF : LF = maxQ (avoidQ N2 xS) := by rw [← ELF]; unfold fromO partO; rw [if_pos hso]; rfl
    have hMF : missing NF LF = minimal xS := by rw [hNF, hLF]; exact miss_from hso
    have hmin : best (fun s o => sub o s) (order xS) = minimal xS := rfl
    have hml := minimal_length xS
    have hSM := fun W (h : Ints W aS xS) => specMinimal_any aS cS xS hlS W h
    rw [hmin] at hSM
    have HSM := Lib.hid hSM
    have HMF := Lib.hid hMF
    clear hso hNF hLF hMF hmin hSM ENF ELF EBF
    generalize minimal xS = Z at *
    go_wp2_with fail
    refine (implMissing_b NF _ _ LF Z HMF.out hc2 hlF _ IX2.out).mono ?_
    rintro e w1 ⟨v, rfl, hO, hb1⟩
    obtain ⟨z1, zc1, zg1, rfl, _, _, hr1, _⟩ := OwnInts.ata hO hb1.size
    have HR1 := Lib.hid hr1
    have HB1 := Lib.hid hb1
    clear hO hr1 hb1 s0 s1 s2 s3 s4
    go_wp2_with fail
    refine (HSM.out _ (HIS.out.keeps HB1.out)).mono ?_
    rintro e w2 ⟨v, rfl, hO, hb2⟩
    obtain ⟨z2, zc2, zg2, rfl, _, _, hr2, _⟩ := OwnInts.ata hO hb2.size
    have HR2 := Lib.hid hr2
    have HR1b := Lib.hid (HR1.out.keeps hb2)
    have HB2 := Lib.hid (HB1.out.trans (hb2.mono HB1.out.size))
    clear hO hr2 hb2
    go_wp2_with fail
    refine (sameInt_any _ _ _ _ Z (Nat.le_trans hml (by decide)) _ HR1b.out.ints HR2.out.ints).mono ?_
    rintro e w3 ⟨rfl, hb3⟩
    have HB3 := Lib.hid (HB2.out.trans (hb3.mono HB2.out.size))
    clear hb3
    go_wp2_with fail
    exact HK.out _ _ _ _ _ _ _ _ _ HB3.out

end Go.Proofs.Ytfnpkglijknnoaa
