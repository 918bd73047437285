/-
  THE LAW ON H NUMBERS: its region 8 (written by genhlaw.py).
-/
import Derived.Test.YtcgfioakjmbciaaWHnH
import Derived.Deep.RegionHeld3
import Derived.Deep.QuietTactic
import Derived.BigQuiet
namespace Go.Proofs.Ytcgfioakjmbciaa
open Go.RowKit
open Sets Hn

set_option maxRecDepth 1000000 in
set_option maxHeartbeats 16000000 in
theorem hn_r8 {K : Act → World → Prop} {Q2 : Exit → Act → World → Prop} {u0 u1 u2 u9 u10 u11 u12 u13 u14 u15 u16 u17 u18 u19 u20 u21 u22 u23 u24 u25 u26 u27 u28 u29 u30 u31 u32 u33 u34 u35 u36 u37 u38 u39 u40 u41 u42 u43 u44 u45 u46 u47 u48 u49 u50 u51 u52 u53 u54 u55 u56 u57 u58 u59 u60 u61 u62 u63 u64 u65 u66 u67 u68 u69 u70 u71 u72 u73 u74 u75 u76 u77 u78 u79 u80 u81 u82 u83 u84 u85 u86 u87 u88 u89 u90 u91 u92 u93 u94 u95 u96 u97 u98 u99 u100 u101 u102 u103 u104 u105 u106 u107 u108 u109 u110 u111 u112 u113 u114 : Value} {b1 c1 c4 c5 c8 : Nat} {N1 z6 z7 : Int} {x1 LH x5 LG : List Int} {a1 a4 a5 a8 : Option Addr} {W : World}
    (bx1 : Bx W b1 N1 a1 c1 x1) (hl1 : x1.length ≤ 1099511627776)
    (h4 : Ints W a4 LH) (hl4 : LH.length ≤ 1099511627776) (h5 : Ints W a5 x5) (hl5 : x5.length ≤ 1099511627776) (h8 : Ints W a8 LG) (hl8 : LG.length ≤ 1099511627776) (hc1 : x1.length ≤ c1)
    (hLH : hnum N1 x1 = LH) (hLG : gnum LH = LG)
    (JT : ∀ (n : Int) (a : Option Addr) (c : Nat) (xs : List Int), xs.length ≤ c → xs.length ≤ 1099511627776 → ∀ W : World, Ints W a xs → Calls Try.prog 25 #[cx n (.slice a xs.length c)] W fun e w' => e = .returned (.int .i64 (topZ (hnum n xs))) ∧ Below W.heap.size W w')
    (JS : ∀ (n : Int) (a : Option Addr) (c : Nat) (xs : List Int), xs.length ≤ c → xs.length ≤ 1099511627776 → ∀ W : World, Ints W a xs → Calls Try.prog 23 #[cx n (.slice a xs.length c)] W fun e w' => e = .returned (.bool (symB (hnum n xs))) ∧ Below W.heap.size W w')
    (JF : ∀ (a : Option Addr) (c : Nat) (xs : List Int), xs.length ≤ 1099511627776 → ∀ W : World, Ints W a xs → Calls Try.prog 18 #[.slice a xs.length c] W fun e w' => ∃ v, e = .returned v ∧ OwnInts w' W.heap.size v (fromH xs) ∧ Below W.heap.size W w')
    (JC : ∀ (x y : Int) (W : World), Calls Try.prog 20 #[.int .i64 x, .int .i64 y] W fun e w' => e = .returned (.int .i64 (chZ x y)) ∧ Below W.heap.size W w')
    (hK : ∀ (v26 v27 v28 v29 v30 v31 v32 v33 v34 v35 v36 v37 v38 v39 v40 v41 v42 v43 v44 v45 v46 v47 v48 v49 v50 v51 v52 v53 v54 v55 v56 v57 v58 v59 v60 v61 v62 v63 v64 v65 v66 v67 : Value) (w' : World), Below W.heap.size W w' → K ⟨#[u0, u1, u2, .pointer (some ⟨b1, 0, none⟩), .slice a4 LH.length c4, .slice a5 x5.length c5, .int .i64 z6, .int .i64 z7, .slice a8 LG.length c8, u9, u10, u11, u12, u13, u14, u15, u16, u17, u18, u19, u20, u21, u22, u23, u24, u25, v26, v27, v28, v29, v30, v31, v32, v33, v34, v35, v36, v37, v38, v39, v40, v41, v42, v43, v44, v45, v46, v47, v48, v49, v50, v51, v52, v53, v54, v55, v56, v57, v58, v59, v60, v61, v62, v63, v64, v65, v66, v67, .bool false, u69, u70, u71, u72, u73, u74, u75, u76, u77, u78, u79, u80, u81, u82, u83, u84, u85, u86, u87, u88, u89, u90, u91, u92, u93, u94, u95, u96, u97, u98, u99, u100, u101, u102, u103, u104, u105, u106, u107, u108, u109, u110, u111, u112, u113, u114], []⟩ w') :
    Code.wp Try.prog (hnReg 8) (Exit.then K Q2) ⟨#[u0, u1, u2, .pointer (some ⟨b1, 0, none⟩), .slice a4 LH.length c4, .slice a5 x5.length c5, .int .i64 z6, .int .i64 z7, .slice a8 LG.length c8, u9, u10, u11, u12, u13, u14, u15, u16, u17, u18, u19, u20, u21, u22, u23, u24, u25, u26, u27, u28, u29, u30, u31, u32, u33, u34, u35, u36, u37, u38, u39, u40, u41, u42, u43, u44, u45, u46, u47, u48, u49, u50, u51, u52, u53, u54, u55, u56, u57, u58, u59, u60, u61, u62, u63, u64, u65, u66, u67, u68, u69, u70, u71, u72, u73, u74, u75, u76, u77, u78, u79, u80, u81, u82, u83, u84, u85, u86, u87, u88, u89, u90, u91, u92, u93, u94, u95, u96, u97, u98, u99, u100, u101, u102, u103, u104, u105, u106, u107, u108, u109, u110, u111, u112, u113, u114], []⟩ W := by
  have BX1 := Lib.hid bx1
  have IX1 := Lib.hid bx1.2
  have HK := Lib.hid hK
  clear hK bx1
  obtain ⟨R5, hR5⟩ : ∃ R, fromH x5 = R := ⟨_, rfl⟩
  have hR5l : R5.length ≤ 1099511627776 := by rw [← hR5]; exact Nat.le_trans (fromH_le _) (by decide)
  obtain ⟨zc, hzc⟩ : ∃ z, chZ z6 z7 = z := ⟨_, rfl⟩
  obtain ⟨T, hT⟩ : ∃ z, topZ (hnum N1 x1) = z := ⟨_, rfl⟩
  obtain ⟨S, hS⟩ : ∃ z, symB (hnum N1 x1) = z := ⟨_, rfl⟩
  rw [← hLH] at hLG
  have hjt := JT N1 a1 c1 x1 hc1 hl1
  have hjs := JS N1 a1 c1 x1 hc1 hl1
  have hjf := JF a5 c5 x5 hl5
  have hjc := JC z6 z7
  rw [hT] at hjt
  rw [hS] at hjs
  rw [hR5] at hjf
  rw [hzc] at hjc
  have I4 := Lib.hid h4
  have I5 := Lib.hid h5
  have I8 := Lib.hid h8
  have HLH := Lib.hid hLH
  have HLG := Lib.hid hLG
  have HR5 := Lib.hid hR5
  have HZC := Lib.hid hzc
  have HT := Lib.hid hT
  have HS := Lib.hid hS
  have KT := Lib.hid hjt
  have KS := Lib.hid hjs
  have KF := Lib.hid hjf
  have KC := Lib.hid hjc
  clear h4 h5 h8 hLH hLG hR5 hzc hT hS hjt hjs hjf hjc JT JS JF JC
  have HBC := Lib.hid (bdrew1 W)
  conv => arg 2; whnf
  first | (go_region_held3 (fun w' => w'.cell? ⟨b1, 0, none⟩ = some (.int .i64 N1) ∧ w'.cell? ⟨b1, 1, none⟩ = some (.slice a1 x1.length c1) ∧ Below W.heap.size W w') (first | (exact ⟨(BX1.out.1.keeps HBC.out).2.1, (BX1.out.1.keeps HBC.out).2.2.1, HBC.out⟩) | fail "keep") (first | (go_at_call 17; with_reducible refine (hnSH N1 a1 c1 x1 LH HLH.out hl1 _ (IX1.out.keeps HBC.out)).mono ?_; rintro e wN ⟨v, rfl, hO, hbN⟩; obtain ⟨aHP, cHP, gHP, rfl, _, _, hsp, _⟩ := OwnInts.ata hO hbN.size; have HP := Lib.hid hsp; clear hO hsp; have HBC := Lib.hid (HBC.out.trans (hbN.mono HBC.out.size)); clear hbN) | (go_at_call 16; with_reducible refine (sameInt_any a4 aHP c4 cHP LH hl4 _ (I4.out.keeps HBC.out) HP.out.ints).mono ?_; rintro e wN ⟨rfl, hbN⟩; have HBC := Lib.hid (HBC.out.trans (hbN.mono HBC.out.size)); clear hbN) | (go_at_call 18; with_reducible refine (KF.out _ (I5.out.keeps HBC.out)).mono ?_; rintro e wN ⟨v, rfl, hO, hbN⟩; obtain ⟨aHQ, cHQ, gHQ, rfl, _, _, hsp, _⟩ := OwnInts.ata hO hbN.size; have HQ := Lib.hid hsp; clear hO hsp; have HBC := Lib.hid (HBC.out.trans (hbN.mono HBC.out.size)); clear hbN) | (go_at_call 19; with_reducible refine (hnSC a5 c5 x5 R5 HR5.out hl5 _ (I5.out.keeps HBC.out)).mono ?_; rintro e wN ⟨v, rfl, hO, hbN⟩; obtain ⟨aHT5, cHT5, gHT5, rfl, _, _, hsp, _⟩ := OwnInts.ata hO hbN.size; have HT5 := Lib.hid hsp; have HQ := Lib.hid (HQ.out.keeps hbN); clear hO hsp; have HBC := Lib.hid (HBC.out.trans (hbN.mono HBC.out.size)); clear hbN) | (go_at_call 16; with_reducible refine (sameInt_any aHQ aHT5 cHQ cHT5 R5 hR5l _ HQ.out.ints HT5.out.ints).mono ?_; rintro e wN ⟨rfl, hbN⟩; have HBC := Lib.hid (HBC.out.trans (hbN.mono HBC.out.size)); clear hbN) | (go_at_call 20; with_reducible refine (KC.out _).mono ?_; rintro e wN ⟨rfl, hbN⟩; have HBC := Lib.hid (HBC.out.trans (hbN.mono HBC.out.size)); clear hbN) | (go_at_call 21; with_reducible refine (hnSZ z6 z7 zc HZC.out _).mono ?_; rintro e wN ⟨rfl, hbN⟩; have HBC := Lib.hid (HBC.out.trans (hbN.mono HBC.out.size)); clear hbN) | (go_at_call 22; with_reducible refine (hnSG N1 a1 c1 x1 LG HLG.out hl1 _ (IX1.out.keeps HBC.out)).mono ?_; rintro e wN ⟨v, rfl, hO, hbN⟩; obtain ⟨aHU, cHU, gHU, rfl, _, _, hsp, _⟩ := OwnInts.ata hO hbN.size; have HU := Lib.hid hsp; clear hO hsp; have HBC := Lib.hid (HBC.out.trans (hbN.mono HBC.out.size)); clear hbN) | (go_at_call 16; with_reducible refine (sameInt_any a8 aHU c8 cHU LG hl8 _ (I8.out.keeps HBC.out) HU.out.ints).mono ?_; rintro e wN ⟨rfl, hbN⟩; have HBC := Lib.hid (HBC.out.trans (hbN.mono HBC.out.size)); clear hbN) | (go_at_call 23; with_reducible refine (KS.out _ (IX1.out.keeps HBC.out)).mono ?_; rintro e wN ⟨rfl, hbN⟩; have HBC := Lib.hid (HBC.out.trans (hbN.mono HBC.out.size)); clear hbN) | (go_at_call 24; with_reducible refine (hnSS N1 a1 c1 x1 S HS.out hl1 _ (IX1.out.keeps HBC.out)).mono ?_; rintro e wN ⟨rfl, hbN⟩; have HBC := Lib.hid (HBC.out.trans (hbN.mono HBC.out.size)); clear hbN) | (go_at_call 25; with_reducible refine (KT.out _ (IX1.out.keeps HBC.out)).mono ?_; rintro e wN ⟨rfl, hbN⟩; have HBC := Lib.hid (HBC.out.trans (hbN.mono HBC.out.size)); clear hbN) | (go_at_call 26; with_reducible refine (hnST N1 a1 c1 x1 T HT.out hl1 _ (IX1.out.keeps HBC.out)).mono ?_; rintro e wN ⟨rfl, hbN⟩; have HBC := Lib.hid (HBC.out.trans (hbN.mono HBC.out.size)); clear hbN) | fail "arm")) | fail "region"
  exact HK.out _ _ _ _ _ _ _ _ _ _ _ _ _ _ _ _ _ _ _ _ _ _ _ _ _ _ _ _ _ _ _ _ _ _ _ _ _ _ _ _ _ _ _ HBC.out

end Go.Proofs.Ytcgfioakjmbciaa
