/-
  THE LAW ON NAMES: its region 18 (written by gennamlaw.py).
-/
import Derived.Test.YtbkkdgmiokdbmaaGreatWNamedH
import Derived.Deep.RegionHeld3
import Derived.Deep.QuietTactic
import Derived.BigQuiet
namespace Go.Proofs.YtbkkdgmiokdbmaaGreat
open Go.RowKit
open Sets Nam

set_option maxRecDepth 1000000 in
set_option maxHeartbeats 16000000 in
theorem named_r18 {K : Act → World → Prop} {Q2 : Exit → Act → World → Prop} {u0 u1 u2 u4 u7 u8 u9 u10 u11 u12 u13 u14 u15 u16 u17 u18 u19 u20 u21 u22 u23 u24 u25 u26 u27 u28 u29 u30 u31 u32 u33 u34 u35 u36 u37 u38 u39 u40 u41 u42 u43 u44 u45 u46 u47 u48 u49 u50 u51 u52 u53 u54 u55 u56 u57 u58 u59 u60 u61 u62 u63 u64 u65 u66 u67 u68 u69 u70 u71 u72 u73 u74 u75 u76 u77 u78 u79 u80 u81 u82 u83 u84 u85 u86 u87 u88 u89 u90 u91 u92 u93 u94 u95 u96 u97 u98 u99 u100 u101 u102 u103 u104 u105 u106 u107 u108 u109 u110 u111 u112 u113 u114 u115 u116 u117 u118 u119 u120 u121 u122 u123 u124 u125 u126 u127 u128 u129 u130 u131 u132 u133 u134 u135 u136 u137 u138 u139 u140 u141 u142 u143 u144 u145 u146 u147 u148 u149 u150 u151 u152 u153 u154 u155 u156 u157 u158 u159 u160 u161 u162 u163 u164 u165 u166 u167 u168 u169 u170 u171 u172 u173 u174 u175 u176 u177 u178 u179 u180 u181 u182 u183 u184 u185 u186 u187 u188 u189 u190 u191 u192 u193 u194 u195 u196 u197 u198 u199 u200 u201 u202 u203 u204 u205 u206 u207 u208 u209 u210 u211 : Value} {b1 b2 : Nat} {N1 NR : Int} {LR x1 : List Int} {a1 a2 : Option Addr} {c1 c2 : Nat} {BR : Bool} {W : World}
    (bx1 : Bx W b1 N1 a1 c1 x1)
    (bx2 : Bx W b2 NR a2 c2 LR)
    (hl1 : x1.length ≤ 1099511627776)
    (hlR : LR.length ≤ 1099511627776)
    (hF : BR = true → counts (faces NR LR) = counts (faces N1 x1))
    (hH : BR = true → holF 3 (faces NR LR) (top (faces NR LR)) = holF 3 (faces N1 x1) (top (faces N1 x1)))
    (hK : ∀ (v138 v139 v140 v141 v142 v143 v144 v145 v146 v147 v148 v149 v150 v151 v152 v153 : Value) (w' : World), Below W.heap.size W w' → K ⟨#[u0, u1, u2, .pointer (some ⟨b1, 0, none⟩), u4, .pointer (some ⟨b2, 0, none⟩), .bool BR, u7, u8, u9, u10, u11, u12, u13, u14, u15, u16, u17, u18, u19, u20, u21, u22, u23, u24, u25, u26, u27, u28, u29, u30, u31, u32, u33, u34, u35, u36, u37, u38, u39, u40, u41, u42, u43, u44, u45, u46, u47, u48, u49, u50, u51, u52, u53, u54, u55, u56, u57, u58, u59, u60, u61, u62, u63, u64, u65, u66, u67, u68, u69, u70, u71, u72, u73, u74, u75, u76, u77, u78, u79, u80, u81, u82, u83, u84, u85, u86, u87, u88, u89, u90, u91, u92, u93, u94, u95, u96, u97, u98, u99, u100, u101, u102, u103, u104, u105, u106, u107, u108, u109, u110, u111, u112, u113, u114, u115, u116, u117, u118, u119, u120, u121, u122, u123, u124, u125, u126, u127, u128, u129, u130, u131, u132, u133, u134, u135, u136, u137, v138, v139, v140, v141, v142, v143, v144, v145, v146, v147, v148, v149, v150, v151, v152, v153, .bool false, u155, u156, u157, u158, u159, u160, u161, u162, u163, u164, u165, u166, u167, u168, u169, u170, u171, u172, u173, u174, u175, u176, u177, u178, u179, u180, u181, u182, u183, u184, u185, u186, u187, u188, u189, u190, u191, u192, u193, u194, u195, u196, u197, u198, u199, u200, u201, u202, u203, u204, u205, u206, u207, u208, u209, u210, u211], []⟩ w') :
    Code.wp Tryz.prog (namedReg 18) (Exit.then K Q2) ⟨#[u0, u1, u2, .pointer (some ⟨b1, 0, none⟩), u4, .pointer (some ⟨b2, 0, none⟩), .bool BR, u7, u8, u9, u10, u11, u12, u13, u14, u15, u16, u17, u18, u19, u20, u21, u22, u23, u24, u25, u26, u27, u28, u29, u30, u31, u32, u33, u34, u35, u36, u37, u38, u39, u40, u41, u42, u43, u44, u45, u46, u47, u48, u49, u50, u51, u52, u53, u54, u55, u56, u57, u58, u59, u60, u61, u62, u63, u64, u65, u66, u67, u68, u69, u70, u71, u72, u73, u74, u75, u76, u77, u78, u79, u80, u81, u82, u83, u84, u85, u86, u87, u88, u89, u90, u91, u92, u93, u94, u95, u96, u97, u98, u99, u100, u101, u102, u103, u104, u105, u106, u107, u108, u109, u110, u111, u112, u113, u114, u115, u116, u117, u118, u119, u120, u121, u122, u123, u124, u125, u126, u127, u128, u129, u130, u131, u132, u133, u134, u135, u136, u137, u138, u139, u140, u141, u142, u143, u144, u145, u146, u147, u148, u149, u150, u151, u152, u153, u154, u155, u156, u157, u158, u159, u160, u161, u162, u163, u164, u165, u166, u167, u168, u169, u170, u171, u172, u173, u174, u175, u176, u177, u178, u179, u180, u181, u182, u183, u184, u185, u186, u187, u188, u189, u190, u191, u192, u193, u194, u195, u196, u197, u198, u199, u200, u201, u202, u203, u204, u205, u206, u207, u208, u209, u210, u211], []⟩ W := by
  have BX1 := Lib.hid bx1
  have IX1 := Lib.hid bx1.2
  have BX2 := Lib.hid bx2
  have IX2 := Lib.hid bx2.2
  have HK := Lib.hid hK
  clear hK bx1 bx2
  have HBC := Lib.hid (bdrew1 W)
  conv => arg 2; whnf
  cases hBR : BR with
  | true =>
    subst hBR
    have hF1 := hF rfl
    have hH1 := hH rfl
    obtain ⟨F, hFe⟩ : ∃ F, counts (faces N1 x1) = F := ⟨_, rfl⟩
    obtain ⟨G, hGe⟩ : ∃ G, holF 3 (faces N1 x1) (top (faces N1 x1)) = G := ⟨_, rfl⟩
    have hFl : F.length ≤ 1099511627776 := by rw [← hFe, counts_length]; exact Nat.le_trans (top_le _) (by decide)
    have hGl : G.length ≤ 1099511627776 := by rw [← hGe, holF_length]; exact Nat.le_trans (top_le _) (by decide)
    rw [hFe] at hF1
    rw [hGe] at hH1
    have HF1 := Lib.hid hFe
    have HF2 := Lib.hid hF1
    have HG1 := Lib.hid hGe
    have HG2 := Lib.hid hH1
    clear hF hH hF1 hH1 hFe hGe
    first | (go_region_held3 (fun w' => w'.cell? ⟨b1, 0, none⟩ = some (.int .i64 N1) ∧ w'.cell? ⟨b1, 1, none⟩ = some (.slice a1 x1.length c1) ∧ w'.cell? ⟨b2, 0, none⟩ = some (.int .i64 NR) ∧ w'.cell? ⟨b2, 1, none⟩ = some (.slice a2 LR.length c2) ∧ Below W.heap.size W w') (first | (exact ⟨(BX1.out.1.keeps HBC.out).2.1, (BX1.out.1.keeps HBC.out).2.2.1, (BX2.out.1.keeps HBC.out).2.1, (BX2.out.1.keeps HBC.out).2.2.1, HBC.out⟩) | fail "keep") (first | (go_at_call 24; with_reducible refine (countsB NR a2 c2 LR F HF2.out hlR _ (IX2.out.keeps HBC.out)).mono ?_; rintro e wN ⟨v, rfl, hO, hbN⟩; obtain ⟨aHP, cHP, gHP, rfl, _, _, hsp, _⟩ := OwnInts.ata hO hbN.size; have HP := Lib.hid hsp; clear hO hsp; have HBC := Lib.hid (HBC.out.trans (hbN.mono HBC.out.size)); clear hbN) | (go_at_call 24; with_reducible refine (countsB N1 a1 c1 x1 F HF1.out hl1 _ (IX1.out.keeps HBC.out)).mono ?_; rintro e wN ⟨v, rfl, hO, hbN⟩; obtain ⟨aHQ, cHQ, gHQ, rfl, _, _, hsp, _⟩ := OwnInts.ata hO hbN.size; have HQ := Lib.hid hsp; have HP := Lib.hid (HP.out.keeps hbN); clear hO hsp; have HBC := Lib.hid (HBC.out.trans (hbN.mono HBC.out.size)); clear hbN) | (go_at_call 21; with_reducible refine (sameInt_any aHP aHQ cHP cHQ F hFl _ HP.out.ints HQ.out.ints).mono ?_; rintro e wN ⟨rfl, hbN⟩; have HBC := Lib.hid (HBC.out.trans (hbN.mono HBC.out.size)); clear hbN) | (go_at_call 25; with_reducible refine (holesB NR a2 c2 LR G HG2.out hlR _ (IX2.out.keeps HBC.out)).mono ?_; rintro e wN ⟨v, rfl, hO, hbN⟩; obtain ⟨aHR, cHR, gHR, rfl, _, _, hsp, _⟩ := OwnInts.ata hO hbN.size; have HR := Lib.hid hsp; clear hO hsp; have HBC := Lib.hid (HBC.out.trans (hbN.mono HBC.out.size)); clear hbN) | (go_at_call 25; with_reducible refine (holesB N1 a1 c1 x1 G HG1.out hl1 _ (IX1.out.keeps HBC.out)).mono ?_; rintro e wN ⟨v, rfl, hO, hbN⟩; obtain ⟨aHT, cHT, gHT, rfl, _, _, hsp, _⟩ := OwnInts.ata hO hbN.size; have HT := Lib.hid hsp; have HR := Lib.hid (HR.out.keeps hbN); clear hO hsp; have HBC := Lib.hid (HBC.out.trans (hbN.mono HBC.out.size)); clear hbN) | (go_at_call 21; with_reducible refine (sameInt_any aHR aHT cHR cHT G hGl _ HR.out.ints HT.out.ints).mono ?_; rintro e wN ⟨rfl, hbN⟩; have HBC := Lib.hid (HBC.out.trans (hbN.mono HBC.out.size)); clear hbN) | fail "arm")) | fail "region"
    exact HK.out _ _ _ _ _ _ _ _ _ _ _ _ _ _ _ _ _ HBC.out
  | false =>
    subst hBR
    refine wp_region_noPanic ?_
    refine wp_region_held_drew (S := fun w' => w'.cell? ⟨b1, 0, none⟩ = some (.int .i64 N1) ∧ w'.cell? ⟨b1, 1, none⟩ = some (.slice a1 x1.length c1) ∧ w'.cell? ⟨b2, 0, none⟩ = some (.int .i64 NR) ∧ w'.cell? ⟨b2, 1, none⟩ = some (.slice a2 LR.length c2) ∧ Below W.heap.size W w') (by kernel_rfl) ?_ (fun hHeld => ?_)
    · exact ⟨(BX1.out.1.keeps HBC.out).2.1, (BX1.out.1.keeps HBC.out).2.2.1, (BX2.out.1.keeps HBC.out).2.1, (BX2.out.1.keeps HBC.out).2.2.1, HBC.out⟩
    refine wpAnyH_take (i := 0) (oi := ⟨_, _, _, _, _, _⟩) (v := ?vv1) rfl (by kernel_rfl) (by kernel_rfl) (by kernel_rfl) (fun _ _ _ h => h) (Or.inl ⟨by rfl, ?hy1⟩) (by assumption) ?_
    case hy1 => (intro w hSw; (try dsimp only at hSw); go_simp; try (with_reducible rfl))
    try simp only [Act.put, List.setIfInBounds_toArray, List.set_cons_zero, List.set_cons_succ]
    refine wpAnyH_take (i := 1) (oi := ⟨_, _, _, _, _, _⟩) (v := ?vv2) rfl (by kernel_rfl) (by kernel_rfl) (by kernel_rfl) (fun _ _ _ h => h) (Or.inl ⟨by rfl, ?hy2⟩) (by assumption) ?_
    case hy2 => (intro w hSw; (try dsimp only at hSw); go_simp; try (with_reducible rfl))
    try simp only [Act.put, List.setIfInBounds_toArray, List.set_cons_zero, List.set_cons_succ]
    refine wpAnyH_take (i := 2) (oi := ⟨_, _, _, _, _, _⟩) (v := undef) rfl (by kernel_rfl) (by kernel_rfl) (by kernel_rfl) (fun _ _ _ h => h) (Or.inr ⟨by rfl, rfl⟩) (by assumption) ?_
    try simp only [Act.put, List.setIfInBounds_toArray, List.set_cons_zero, List.set_cons_succ]
    refine wpAnyH_take (i := 3) (oi := ⟨_, _, _, _, _, _⟩) (v := undef) rfl (by kernel_rfl) (by kernel_rfl) (by kernel_rfl) (fun _ _ _ h => h) (Or.inr ⟨by rfl, rfl⟩) (by assumption) ?_
    try simp only [Act.put, List.setIfInBounds_toArray, List.set_cons_zero, List.set_cons_succ]
    refine wpAnyH_take (i := 4) (oi := ⟨_, _, _, _, _, _⟩) (v := undef) rfl (by kernel_rfl) (by kernel_rfl) (by kernel_rfl) (fun _ _ _ h => h) (Or.inr ⟨by rfl, rfl⟩) (by assumption) ?_
    try simp only [Act.put, List.setIfInBounds_toArray, List.set_cons_zero, List.set_cons_succ]
    refine wpAnyH_take (i := 5) (oi := ⟨_, _, _, _, _, _⟩) (v := undef) rfl (by kernel_rfl) (by kernel_rfl) (by kernel_rfl) (fun _ _ _ h => h) (Or.inr ⟨by rfl, rfl⟩) (by assumption) ?_
    try simp only [Act.put, List.setIfInBounds_toArray, List.set_cons_zero, List.set_cons_succ]
    refine wpAnyH_take (i := 6) (oi := ⟨_, _, _, _, _, _⟩) (v := undef) rfl (by kernel_rfl) (by kernel_rfl) (by kernel_rfl) (fun _ _ _ h => h) (Or.inr ⟨by rfl, rfl⟩) (by assumption) ?_
    try simp only [Act.put, List.setIfInBounds_toArray, List.set_cons_zero, List.set_cons_succ]
    refine wpAnyH_take (i := 7) (oi := ⟨_, _, _, _, _, _⟩) (v := undef) rfl (by kernel_rfl) (by kernel_rfl) (by kernel_rfl) (fun _ _ _ h => h) (Or.inr ⟨by rfl, rfl⟩) (by assumption) ?_
    try simp only [Act.put, List.setIfInBounds_toArray, List.set_cons_zero, List.set_cons_succ]
    refine wpAnyH_take (i := 8) (oi := ⟨_, _, _, _, _, _⟩) (v := undef) rfl (by kernel_rfl) (by kernel_rfl) (by kernel_rfl) (fun _ _ _ h => h) (Or.inr ⟨by rfl, rfl⟩) (by assumption) ?_
    try simp only [Act.put, List.setIfInBounds_toArray, List.set_cons_zero, List.set_cons_succ]
    refine wpAnyH_take (i := 9) (oi := ⟨_, _, _, _, _, _⟩) (v := undef) rfl (by kernel_rfl) (by kernel_rfl) (by kernel_rfl) (fun _ _ _ h => h) (Or.inr ⟨by rfl, rfl⟩) (by assumption) ?_
    try simp only [Act.put, List.setIfInBounds_toArray, List.set_cons_zero, List.set_cons_succ]
    refine wpAnyH_take (i := 10) (oi := ⟨_, _, _, _, _, _⟩) (v := undef) rfl (by kernel_rfl) (by kernel_rfl) (by kernel_rfl) (fun _ _ _ h => h) (Or.inr ⟨by rfl, rfl⟩) (by assumption) ?_
    try simp only [Act.put, List.setIfInBounds_toArray, List.set_cons_zero, List.set_cons_succ]
    refine wpAnyH_take (i := 11) (oi := ⟨_, _, _, _, _, _⟩) (v := undef) rfl (by kernel_rfl) (by kernel_rfl) (by kernel_rfl) (fun _ _ _ h => h) (Or.inr ⟨by rfl, rfl⟩) (by assumption) ?_
    try simp only [Act.put, List.setIfInBounds_toArray, List.set_cons_zero, List.set_cons_succ]
    refine wpAnyH_take (i := 12) (oi := ⟨_, _, _, _, _, _⟩) (v := undef) rfl (by kernel_rfl) (by kernel_rfl) (by kernel_rfl) (fun _ _ _ h => h) (Or.inr ⟨by rfl, rfl⟩) (by assumption) ?_
    try simp only [Act.put, List.setIfInBounds_toArray, List.set_cons_zero, List.set_cons_succ]
    refine wpAnyH_take (i := 13) (oi := ⟨_, _, _, _, _, _⟩) (v := undef) rfl (by kernel_rfl) (by kernel_rfl) (by kernel_rfl) (fun _ _ _ h => h) (Or.inr ⟨by rfl, rfl⟩) (by assumption) ?_
    try simp only [Act.put, List.setIfInBounds_toArray, List.set_cons_zero, List.set_cons_succ]
    refine wpAnyH_take (i := 14) (oi := ⟨_, _, _, _, _, _⟩) (v := undef) rfl (by kernel_rfl) (by kernel_rfl) (by kernel_rfl) (fun _ _ _ h => h) (Or.inr ⟨by rfl, rfl⟩) (by assumption) ?_
    try simp only [Act.put, List.setIfInBounds_toArray, List.set_cons_zero, List.set_cons_succ]
    refine wpAnyH_take (i := 15) (oi := ⟨_, _, _, _, _, _⟩) (v := undef) rfl (by kernel_rfl) (by kernel_rfl) (by kernel_rfl) (fun _ _ _ h => h) (Or.inr ⟨by rfl, rfl⟩) (by assumption) ?_
    try simp only [Act.put, List.setIfInBounds_toArray, List.set_cons_zero, List.set_cons_succ]
    refine wpAnyH_take (i := 16) (oi := ⟨_, _, _, _, _, _⟩) (v := ?vv3) rfl (by kernel_rfl) (by kernel_rfl) (by kernel_rfl) (fun _ _ _ h => h) (Or.inl ⟨by rfl, ?hy3⟩) (by assumption) ?_
    case hy3 => (intro w hSw; (try dsimp only at hSw); go_simp; try (with_reducible rfl))
    try simp only [Act.put, List.setIfInBounds_toArray, List.set_cons_zero, List.set_cons_succ]
    refine wpAnyH_done (by kernel_rfl) ?_ _
    refine NoPanic.normal ?_
    exact HK.out _ _ _ _ _ _ _ _ _ _ _ _ _ _ _ _ _ HBC.out

end Go.Proofs.YtbkkdgmiokdbmaaGreat
