/-
  THE LAW ON JOINS: its region 29 (written by genjoinlaw.py).
-/
import Derived.Test.YthobncbggaggjaaWJoinH
import Derived.Deep.RegionHeld3
import Derived.Deep.QuietTactic
import Derived.BigQuiet
namespace Go.Proofs.Ythobncbggaggjaa
open Go.RowKit
open Sets Lin Hom Join

set_option maxRecDepth 1000000 in
set_option maxHeartbeats 16000000 in
theorem joins_r29 {K : Act → World → Prop} {Q2 : Exit → Act → World → Prop} {u0 u1 u2 u3 u4 u5 u6 u7 u8 u9 u10 u11 u12 u13 u14 u15 u16 u17 u18 u19 u20 u21 u22 u23 u24 u28 u29 u30 u31 u32 u33 u34 u35 u36 u37 u38 u39 u40 u41 u42 u43 u44 u45 u46 u47 u48 u49 u50 u51 u52 u53 u54 u55 u56 u57 u58 u59 u60 u61 u62 u63 u64 u65 u66 u67 u68 u69 u70 u71 u72 u73 u74 u75 u76 u77 u78 u79 u80 u81 u82 u83 u84 u85 u86 u87 u88 u89 u90 u91 u92 u93 u94 u95 u96 u97 u98 u99 u100 u101 u102 u103 u104 u105 u106 u107 u108 u109 u110 u111 u112 u113 u114 u115 u116 u117 u118 u119 u120 u121 u122 u123 u124 u125 u126 u127 u128 u129 u130 u131 u132 u133 u134 u135 u136 u137 u138 u139 u140 u141 u142 u143 u144 u145 u146 u147 u148 u149 u150 u151 u152 u153 u154 u155 u156 u157 u158 u159 u160 u161 u162 u163 u164 u165 u166 u167 u168 u169 u170 u171 u172 u173 u174 u175 u176 u177 u178 u179 u180 u181 u182 u183 u184 u185 u186 u187 u188 u189 u190 u191 u192 u193 u194 u195 u196 u197 u198 u199 u200 u201 u202 u203 u204 u205 u206 u207 u208 u209 u210 u211 u212 u213 u214 u215 u216 u217 u218 u219 u220 u221 u222 u223 u224 u225 u226 u227 u228 u229 u230 u231 u232 u233 u234 u235 u236 u237 u238 u239 u240 u241 u242 u243 u244 u245 u246 u247 u248 u249 u250 : Value} {b15 : Nat} {NM : Int} {LM : List Int} {a15 : Option Addr} {c15 : Nat} {BM : Bool} {W : World}
    (bx15 : Bx W b15 NM a15 c15 LM)
    (hlM : LM.length ≤ 1099511627776)
    {k : Int} (EBM : (crossO k).isSome = BM) (ENM : oN (crossO k) = NM) (ELM : oL (crossO k) = LM)
    (hK : ∀ (v236 v237 v238 v239 v240 v241 v242 v243 v244 v245 v246 v247 v248 v249 v250 : Value) (w' : World), Below W.heap.size W w' → K ⟨#[u0, u1, .bool true, u3, u4, u5, u6, u7, u8, u9, u10, u11, u12, u13, u14, u15, u16, u17, u18, u19, u20, u21, u22, u23, u24, .int .i64 k, .pointer (some ⟨b15, 0, none⟩), .bool BM, u28, u29, u30, u31, u32, u33, u34, u35, u36, u37, u38, u39, u40, u41, u42, u43, u44, u45, u46, u47, u48, u49, u50, u51, u52, u53, u54, u55, u56, u57, u58, u59, u60, u61, u62, u63, u64, u65, u66, u67, u68, u69, u70, u71, u72, u73, u74, u75, u76, u77, u78, u79, u80, u81, u82, u83, u84, u85, u86, u87, u88, u89, u90, u91, u92, u93, u94, u95, u96, u97, u98, u99, u100, u101, u102, u103, u104, u105, u106, u107, u108, u109, u110, u111, u112, u113, u114, u115, u116, u117, u118, u119, u120, u121, u122, u123, u124, u125, u126, u127, u128, u129, u130, u131, u132, u133, u134, u135, u136, u137, u138, u139, u140, u141, u142, u143, u144, u145, u146, u147, u148, u149, u150, u151, u152, u153, u154, u155, u156, u157, u158, u159, u160, u161, u162, u163, u164, u165, u166, u167, u168, u169, u170, u171, u172, u173, u174, u175, u176, u177, u178, u179, u180, u181, u182, u183, u184, u185, u186, u187, u188, u189, u190, u191, u192, u193, u194, u195, u196, u197, u198, u199, u200, u201, u202, u203, u204, u205, u206, u207, u208, u209, u210, u211, u212, u213, u214, u215, u216, u217, u218, u219, u220, u221, u222, u223, u224, u225, u226, u227, u228, u229, u230, u231, u232, u233, u234, u235, v236, v237, v238, v239, v240, v241, v242, v243, v244, v245, v246, v247, v248, v249, v250], []⟩ w') :
    Code.wp Try.prog (joinsReg 29) (Exit.then K Q2) ⟨#[u0, u1, u2, u3, u4, u5, u6, u7, u8, u9, u10, u11, u12, u13, u14, u15, u16, u17, u18, u19, u20, u21, u22, u23, u24, .int .i64 k, .pointer (some ⟨b15, 0, none⟩), .bool BM, u28, u29, u30, u31, u32, u33, u34, u35, u36, u37, u38, u39, u40, u41, u42, u43, u44, u45, u46, u47, u48, u49, u50, u51, u52, u53, u54, u55, u56, u57, u58, u59, u60, u61, u62, u63, u64, u65, u66, u67, u68, u69, u70, u71, u72, u73, u74, u75, u76, u77, u78, u79, u80, u81, u82, u83, u84, u85, u86, u87, u88, u89, u90, u91, u92, u93, u94, u95, u96, u97, u98, u99, u100, u101, u102, u103, u104, u105, u106, u107, u108, u109, u110, u111, u112, u113, u114, u115, u116, u117, u118, u119, u120, u121, u122, u123, u124, u125, u126, u127, u128, u129, u130, u131, u132, u133, u134, u135, u136, u137, u138, u139, u140, u141, u142, u143, u144, u145, u146, u147, u148, u149, u150, u151, u152, u153, u154, u155, u156, u157, u158, u159, u160, u161, u162, u163, u164, u165, u166, u167, u168, u169, u170, u171, u172, u173, u174, u175, u176, u177, u178, u179, u180, u181, u182, u183, u184, u185, u186, u187, u188, u189, u190, u191, u192, u193, u194, u195, u196, u197, u198, u199, u200, u201, u202, u203, u204, u205, u206, u207, u208, u209, u210, u211, u212, u213, u214, u215, u216, u217, u218, u219, u220, u221, u222, u223, u224, u225, u226, u227, u228, u229, u230, u231, u232, u233, u234, u235, u236, u237, u238, u239, u240, u241, u242, u243, u244, u245, u246, u247, u248, u249, u250], []⟩ W := by
  have BX15 := Lib.hid bx15
  have IX15 := Lib.hid bx15.2
  have HK := Lib.hid hK
  clear hK bx15
  have HBC := Lib.hid (bdrew1 W)
  conv => arg 2; whnf
  obtain ⟨s0, s1, s2, s3, s4⟩ := BX15.out.1
  cases hm : BM with
  | false =>
    subst hm
    go_wp2_with fail
    exact HK.out _ _ _ _ _ _ _ _ _ _ _ _ _ _ _ _ (Below.refl _ _)
  | true =>
    subst hm
    have hin : inB 1 3 k = true := by unfold crossO at EBM; rwa [parts_someJ] at EBM
    obtain ⟨n0, L0, hco, hpos, hlast, htot, hlen⟩ := cross_has k hin
    have hN0 : n0 = NM := by rw [← ENM, hco]; rfl
    have hL0 : L0 = LM := by rw [← ELM, hco]; rfl
    subst hN0
    subst hL0
    have hSP : ∀ W : World, Ints W a15 L0 → Calls Try.prog 33 #[cx n0 (.slice a15 L0.length c15), .int .i64 2] W fun e w' => e = .returned (.bool true) ∧ Below W.heap.size W w' := fun W h => sphere_any 2 (.inl rfl) n0 a15 c15 L0 hlM W h hpos hlast htot
    have HSP := Lib.hid hSP
    have hk3 := cross_three k hin
    clear hin hco hpos hlast htot hSP EBM ENM ELM
    rcases hk3 with rfl | rfl | rfl
    · have hl : L0.length = 2 := hlen
      have hl2 : (L0.length : Int) = 2 := by rw [hl]; rfl
      clear hlen hl
      go_wp2_with fail
      refine (HSP.out _ BX15.out.2).mono ?_
      rintro e w29 ⟨rfl, hb⟩
      have HBE := Lib.hid hb
      have BE15 := Lib.hid (BX15.out.keeps hb)
      clear hb s0 s1 s2 s3 s4
      obtain ⟨s0, s1, s2, s3, s4⟩ := BE15.out.1
      go_wp2_with fail
      exact HK.out _ _ _ _ _ _ _ _ _ _ _ _ _ _ _ _ HBE.out
    · have hl : L0.length = 4 := hlen
      have hl2 : (L0.length : Int) = 4 := by rw [hl]; rfl
      clear hlen hl
      go_wp2_with fail
      refine (HSP.out _ BX15.out.2).mono ?_
      rintro e w29 ⟨rfl, hb⟩
      have HBE := Lib.hid hb
      have BE15 := Lib.hid (BX15.out.keeps hb)
      clear hb s0 s1 s2 s3 s4
      obtain ⟨s0, s1, s2, s3, s4⟩ := BE15.out.1
      go_wp2_with fail
      exact HK.out _ _ _ _ _ _ _ _ _ _ _ _ _ _ _ _ HBE.out
    · have hl : L0.length = 8 := hlen
      have hl2 : (L0.length : Int) = 8 := by rw [hl]; rfl
      clear hlen hl
      go_wp2_with fail
      refine (HSP.out _ BX15.out.2).mono ?_
      rintro e w29 ⟨rfl, hb⟩
      have HBE := Lib.hid hb
      have BE15 := Lib.hid (BX15.out.keeps hb)
      clear hb s0 s1 s2 s3 s4
      obtain ⟨s0, s1, s2, s3, s4⟩ := BE15.out.1
      go_wp2_with fail
      exact HK.out _ _ _ _ _ _ _ _ _ _ _ _ _ _ _ _ HBE.out

end Go.Proofs.Ythobncbggaggjaa
