/-
  THE LAW ON H NUMBERS: its region 14 (written by genhlaw.py).
-/
import Derived.Test.YtcgfioakjmbciaaWHnH
import Derived.Deep.RegionHeld3
import Derived.Deep.QuietTactic
import Derived.BigQuiet
namespace Go.Proofs.Ytcgfioakjmbciaa
open Go.RowKit
open Sets Hn

set_option maxRecDepth 1000000 in
set_option maxHeartbeats 16000000 in
theorem hn_r14 {K : Act → World → Prop} {Q2 : Exit → Act → World → Prop} {u0 u1 u2 u5 u6 u7 u11 u12 u13 u14 u15 u16 u17 u18 u19 u20 u21 u22 u23 u24 u25 u26 u27 u28 u29 u30 u31 u32 u33 u34 u35 u36 u37 u38 u39 u40 u41 u42 u43 u44 u45 u46 u47 u48 u49 u50 u51 u52 u53 u54 u55 u56 u57 u58 u59 u60 u61 u62 u63 u64 u65 u66 u67 u68 u69 u70 u71 u72 u73 u74 u75 u76 u77 u78 u79 u80 u81 u82 u83 u84 u85 u86 u87 u88 u89 u90 u91 u92 u93 u94 u95 u96 u97 u98 u99 u100 u101 u102 u103 u104 u105 u106 u107 u108 u109 u110 u111 u112 u113 u114 : Value} {b1 c1 c4 c8 : Nat} {N1 d sg : Int} {x1 LH LG : List Int} {a1 a4 a8 : Option Addr} {W : World}
    (bx1 : Bx W b1 N1 a1 c1 x1) (hl1 : x1.length ≤ 1099511627776)
    (h4 : Ints W a4 LH) (hl4 : LH.length ≤ 1099511627776) (h0 : 0 < LH.length) (hc1 : x1.length ≤ c1)
    (hLH : hnum N1 x1 = LH) (hlg : (LG.length : Int) = d / 2 + 1) (hd : d = (LH.length : Int) - 1) (hsg : sg = 2 * (d % 2) - 1)
    (JT : ∀ (n : Int) (a : Option Addr) (c : Nat) (xs : List Int), xs.length ≤ c → xs.length ≤ 1099511627776 → ∀ W : World, Ints W a xs → Calls Try.prog 25 #[cx n (.slice a xs.length c)] W fun e w' => e = .returned (.int .i64 (topZ (hnum n xs))) ∧ Below W.heap.size W w')
    (JF : ∀ (a : Option Addr) (c : Nat) (xs : List Int), xs.length ≤ 1099511627776 → ∀ W : World, Ints W a xs → Calls Try.prog 18 #[.slice a xs.length c] W fun e w' => ∃ v, e = .returned v ∧ OwnInts w' W.heap.size v (fromH xs) ∧ Below W.heap.size W w')
    (hK : ∀ (v87 v88 v89 v90 v91 v92 v93 v94 v95 v96 v97 v98 v99 v100 v101 v102 v103 v104 v105 v106 v107 v108 v109 v110 v111 v112 v113 : Value) (w' : World), Below W.heap.size W w' → K ⟨#[u0, u1, .bool true, .pointer (some ⟨b1, 0, none⟩), .slice a4 LH.length c4, u5, u6, u7, .slice a8 LG.length c8, .int .i64 d, .int .i64 sg, u11, u12, u13, u14, u15, u16, u17, u18, u19, u20, u21, u22, u23, u24, u25, u26, u27, u28, u29, u30, u31, u32, u33, u34, u35, u36, u37, u38, u39, u40, u41, u42, u43, u44, u45, u46, u47, u48, u49, u50, u51, u52, u53, u54, u55, u56, u57, u58, u59, u60, u61, u62, u63, u64, u65, u66, u67, u68, u69, u70, u71, u72, u73, u74, u75, u76, u77, u78, u79, u80, u81, u82, u83, u84, u85, u86, v87, v88, v89, v90, v91, v92, v93, v94, v95, v96, v97, v98, v99, v100, v101, v102, v103, v104, v105, v106, v107, v108, v109, v110, v111, v112, v113, .bool true], []⟩ w') :
    Code.wp Try.prog (hnReg 14) (Exit.then K Q2) ⟨#[u0, u1, u2, .pointer (some ⟨b1, 0, none⟩), .slice a4 LH.length c4, u5, u6, u7, .slice a8 LG.length c8, .int .i64 d, .int .i64 sg, u11, u12, u13, u14, u15, u16, u17, u18, u19, u20, u21, u22, u23, u24, u25, u26, u27, u28, u29, u30, u31, u32, u33, u34, u35, u36, u37, u38, u39, u40, u41, u42, u43, u44, u45, u46, u47, u48, u49, u50, u51, u52, u53, u54, u55, u56, u57, u58, u59, u60, u61, u62, u63, u64, u65, u66, u67, u68, u69, u70, u71, u72, u73, u74, u75, u76, u77, u78, u79, u80, u81, u82, u83, u84, u85, u86, u87, u88, u89, u90, u91, u92, u93, u94, u95, u96, u97, u98, u99, u100, u101, u102, u103, u104, u105, u106, u107, u108, u109, u110, u111, u112, u113, u114], []⟩ W := by
  have BX1 := Lib.hid bx1
  have IX1 := Lib.hid bx1.2
  have HK := Lib.hid hK
  clear hK bx1
  have hl7 := hnum_le7 N1 x1
  have hfirst := hnum_first N1 x1 (by rw [hLH]; exact h0)
  have htop := hnum_top N1 x1 (by rw [hLH]; exact h0)
  have hback := hnum_back N1 x1
  have hF7 := counts_le7 (faces N1 x1)
  have heb := eul_bound (faces N1 x1)
  have hfl := faces_le N1 x1
  rw [hLH] at hl7 hfirst htop hback
  obtain ⟨F, hF⟩ : ∃ F, counts (faces N1 x1) = F := ⟨_, rfl⟩
  obtain ⟨E, hE⟩ : ∃ E, eul (faces N1 x1) = E := ⟨_, rfl⟩
  obtain ⟨T, hT⟩ : ∃ z, topZ (hnum N1 x1) = z := ⟨_, rfl⟩
  rw [hF] at hback hF7
  rw [hE] at htop heb
  have hTT : topZ LH = T := by rw [← hLH]; exact hT
  rw [hTT] at htop
  have hFl : F.length ≤ 1099511627776 := by omega
  have hse : T = IntKind.i64.wrap (sg * E) := by
    have e1 : sg = 2 * (((LH.length - 1) % 2 : Nat) : Int) - 1 := by omega
    rw [e1, ← htop]
    have hb : -448 ≤ T ∧ T ≤ 448 := by
      rw [htop]
      rcases Nat.mod_two_eq_zero_or_one (LH.length - 1) with e | e <;> rw [e] <;> simp <;> omega
    exact (IntWalk.i64_in T (by omega)).symm
  have hteq : (T == IntKind.i64.wrap (sg * E)) = true := by rw [← hse]; simp
  have hjt := JT N1 a1 c1 x1 hc1 hl1
  have hjf := JF a4 c4 LH hl4
  rw [hT] at hjt
  rw [hback] at hjf
  obtain ⟨b4, o4, ha4, hc4⟩ := h4 0 h0
  rw [hfirst, Nat.add_zero] at hc4
  have hld : d.tdiv 2 = d / 2 := by rw [hd]; exact Int.tdiv_eq_ediv_of_nonneg (by omega)
  have hd0 : 0 ≤ d ∧ d ≤ 6 := by omega
  have hlgb : ((LG.length : Int) == IntKind.i64.wrap (IntKind.i64.wrap (d / 2) + 1)) = true := by
    rw [IntWalk.i64_in (d / 2) (by omega), IntWalk.i64_in (d / 2 + 1) (by omega), hlg]; simp
  have I4 := Lib.hid h4
  have HF := Lib.hid hF
  have HE := Lib.hid hE
  have KT := Lib.hid hjt
  have KF := Lib.hid hjf
  subst ha4
  have HC4 : Hid (∀ w', Below W.heap.size W w' → w'.cell? ⟨b4, o4, none⟩ = some (.int .i64 1)) := by
    have : ∀ w', Below W.heap.size W w' → w'.cell? ⟨b4, o4, none⟩ = some (.int .i64 1) := fun w' hw => by rw [hw.cell (p := ⟨b4, o4, none⟩) (World.block_lt_of_cell? W _ hc4)]; exact hc4
    exact this
  have HSG := Lib.hid hsg
  have HD := Lib.hid hd
  clear h4 hLH hlg hd hsg hfirst htop hback hF7 heb hfl hF hE hT hTT hse hjt hjf JT JF hc4 hl7
  have HBC := Lib.hid (bdrew1 W)
  conv => arg 2; whnf
  first | (go_region_held3 (fun w' => w'.cell? ⟨b4, o4, none⟩ = some (.int .i64 1) ∧ w'.cell? ⟨b1, 0, none⟩ = some (.int .i64 N1) ∧ w'.cell? ⟨b1, 1, none⟩ = some (.slice a1 x1.length c1) ∧ Below W.heap.size W w') (first | (exact ⟨HC4.out _ HBC.out, (BX1.out.1.keeps HBC.out).2.1, (BX1.out.1.keeps HBC.out).2.2.1, HBC.out⟩) | fail "keep") (first | (go_at_call 18; with_reducible refine (KF.out _ (I4.out.keeps HBC.out)).mono ?_; rintro e wN ⟨v, rfl, hO, hbN⟩; obtain ⟨aHQ, cHQ, gHQ, rfl, _, _, hsp, _⟩ := OwnInts.ata hO hbN.size; have HQ := Lib.hid hsp; clear hO hsp; have HBC := Lib.hid (HBC.out.trans (hbN.mono HBC.out.size)); clear hbN) | (go_at_call 27; with_reducible refine (hnSF N1 a1 c1 x1 F HF.out hl1 _ (IX1.out.keeps HBC.out)).mono ?_; rintro e wN ⟨v, rfl, hO, hbN⟩; obtain ⟨aHT5, cHT5, gHT5, rfl, _, _, hsp, _⟩ := OwnInts.ata hO hbN.size; have HT5 := Lib.hid hsp; have HQ := Lib.hid (HQ.out.keeps hbN); clear hO hsp; have HBC := Lib.hid (HBC.out.trans (hbN.mono HBC.out.size)); clear hbN) | (go_at_call 16; with_reducible refine (sameInt_any aHQ aHT5 cHQ cHT5 F hFl _ HQ.out.ints HT5.out.ints).mono ?_; rintro e wN ⟨rfl, hbN⟩; have HBC := Lib.hid (HBC.out.trans (hbN.mono HBC.out.size)); clear hbN) | (go_at_call 25; with_reducible refine (KT.out _ (IX1.out.keeps HBC.out)).mono ?_; rintro e wN ⟨rfl, hbN⟩; have HBC := Lib.hid (HBC.out.trans (hbN.mono HBC.out.size)); clear hbN) | (go_at_call 28; with_reducible refine (hnSE N1 a1 c1 x1 E HE.out hl1 _ (IX1.out.keeps HBC.out)).mono ?_; rintro e wN ⟨rfl, hbN⟩; have HBC := Lib.hid (HBC.out.trans (hbN.mono HBC.out.size)); clear hbN) | fail "arm")) | fail "region"
  exact HK.out _ _ _ _ _ _ _ _ _ _ _ _ _ _ _ _ _ _ _ _ _ _ _ _ _ _ _ _ HBC.out

end Go.Proofs.Ytcgfioakjmbciaa
