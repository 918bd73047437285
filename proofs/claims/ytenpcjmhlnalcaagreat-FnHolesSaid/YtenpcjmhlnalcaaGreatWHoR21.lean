/-
  THE LAW ON HOLES: its region 21 (written by genholelaw.py).
-/
import Derived.Test.YtenpcjmhlnalcaaGreatWHoH
import Derived.Deep.RegionHeld3
import Derived.Deep.QuietTactic
import Derived.BigQuiet
namespace Go.Proofs.YtenpcjmhlnalcaaGreat
open Go.RowKit
open Sets Lin Join Hom

set_option maxRecDepth 1000000 in
set_option maxHeartbeats 16000000 in
theorem ho_r21m {K : Act → World → Prop} {Q2 : Exit → Act → World → Prop} {u0 u1 u2 u4 u6 u7 u8 u9 u10 u11 u12 u13 u14 u15 u16 u17 u18 u19 u20 u21 u22 u23 u24 u25 u26 u27 u28 u29 u30 u31 u32 u33 u34 u35 u36 u37 u38 u39 u40 u41 u42 u43 u44 u45 u46 u47 u48 u49 u50 u51 u52 u53 u54 u55 u56 u57 u58 u59 u60 u61 u62 u63 u64 u65 u66 u67 u68 u69 u70 u71 u72 u73 u74 u75 u76 u77 u78 u79 u80 u81 u82 u83 u84 u85 u86 u87 u88 u89 u90 u91 u92 u93 u94 u95 u96 u97 u98 u99 u100 u101 u102 u103 u104 u105 u106 u107 u108 u109 u110 u111 u112 u113 u114 u115 u116 u117 u118 u119 u120 u121 u122 u123 u124 u125 u126 u127 u128 u129 u130 u131 u132 u133 u134 u135 u136 u137 : Value} {b3 : Nat} {n3 : Int} {a3 : Option Addr} {c3 l3 : Nat} {x3 : List Int} {a5 : Option Addr} {c5 l5 : Nat} {ze : Int} {L : List Int} {W : World}
    (t3 : Two W b3 (.int .i64 n3) (.slice a3 l3 c3)) (i3 : Ints W a3 x3) (h3 : x3.length = l3) (q3 : l3 ≤ 1048576) (s3 : l3 ≤ c3)
    (i5 : Ints W a5 L) (h5 : L.length = l5) (q5 : l5 ≤ 7) (hsm : ∀ j, j < l5 → 0 ≤ L.getD j 0 ∧ L.getD j 0 ≤ 64) (hsg : ssumK L L.length = ze) (heu : eul (faces n3 x3) = ze)
    (hl5 : 1 < l5)
    (hK : ∀ (v122 v123 v124 v125 v126 v127 v128 v129 v130 v131 v132 v133 v134 v135 v136 : Value) (w' : World), Below W.heap.size W w' → K ⟨#[u0, u1, .bool true, .pointer (some ⟨b3, 0, none⟩), u4, .slice a5 l5 c5, u6, u7, u8, u9, u10, u11, u12, u13, u14, u15, u16, u17, u18, u19, u20, u21, u22, u23, u24, u25, u26, u27, u28, u29, u30, u31, u32, u33, u34, u35, u36, u37, u38, u39, u40, u41, u42, u43, u44, u45, u46, u47, u48, u49, u50, u51, u52, u53, u54, u55, u56, u57, u58, u59, u60, u61, u62, u63, u64, u65, u66, u67, u68, u69, u70, u71, u72, u73, u74, u75, u76, u77, u78, u79, u80, u81, u82, u83, u84, u85, u86, u87, u88, u89, u90, u91, u92, u93, u94, u95, u96, u97, u98, u99, u100, u101, u102, u103, u104, u105, u106, u107, u108, u109, u110, u111, u112, u113, u114, u115, u116, u117, u118, u119, u120, u121, v122, v123, v124, v125, v126, v127, v128, v129, v130, v131, v132, v133, v134, v135, v136, .bool true], []⟩ w') :
    Code.wp Tryz.prog (hoReg 21) (Exit.then K Q2) ⟨#[u0, u1, u2, .pointer (some ⟨b3, 0, none⟩), u4, .slice a5 l5 c5, u6, u7, u8, u9, u10, u11, u12, u13, u14, u15, u16, u17, u18, u19, u20, u21, u22, u23, u24, u25, u26, u27, u28, u29, u30, u31, u32, u33, u34, u35, u36, u37, u38, u39, u40, u41, u42, u43, u44, u45, u46, u47, u48, u49, u50, u51, u52, u53, u54, u55, u56, u57, u58, u59, u60, u61, u62, u63, u64, u65, u66, u67, u68, u69, u70, u71, u72, u73, u74, u75, u76, u77, u78, u79, u80, u81, u82, u83, u84, u85, u86, u87, u88, u89, u90, u91, u92, u93, u94, u95, u96, u97, u98, u99, u100, u101, u102, u103, u104, u105, u106, u107, u108, u109, u110, u111, u112, u113, u114, u115, u116, u117, u118, u119, u120, u121, u122, u123, u124, u125, u126, u127, u128, u129, u130, u131, u132, u133, u134, u135, u136, u137], []⟩ W := by
  have HK := Lib.hid hK
  have GE := Lib.hid (fun w h => hoEu n3 a3 c3 l3 x3 h3 s3 (by omega) ze heu w h)
  have GG := Lib.hid (fun w h => hoSg a5 c5 l5 L h5 q5 hsm ze hsg w h)
  have T3 := Lib.hid t3
  have I3 := Lib.hid i3
  have I5 := Lib.hid i5
  have hp1 : (l5 : Int) > 1 := by omega
  have hp2 : decide ((l5 : Int) > 1) = true := decide_eq_true hp1
  have hp3 : decide ((1 : Int) < (l5 : Int)) = true := decide_eq_true (by omega)
  have hp4 : decide (1 < l5) = true := decide_eq_true hl5
  clear hK t3 i3 h3 q3 s3 i5 h5 q5 hsm hsg heu
  have HBC := Lib.hid (bdrew1 W)
  conv => arg 2; whnf
  refine wp_region_noPanic ?_
  refine wp_region_held_drew (S := fun w' => w'.cell? ⟨b3, 0, none⟩ = some (.int .i64 n3) ∧ w'.cell? ⟨b3, 1, none⟩ = some (.slice a3 l3 c3) ∧ Below W.heap.size W w') (by kernel_rfl) ?_ (fun hHeld => ?_)
  · exact ⟨(T3.out.keeps HBC.out).2.1, (T3.out.keeps HBC.out).2.2.1, HBC.out⟩
  refine wpAnyH_take (i := 0) (oi := ⟨_, _, _, _, _, _⟩) (v := ?vv1) rfl (by kernel_rfl) (by kernel_rfl) (by kernel_rfl) (fun _ _ _ h => h) (Or.inl ⟨by rfl, ?hy1⟩) (by assumption) ?_
  case hy1 => (intro w hSw; (try dsimp only at hSw); go_simp; try (with_reducible rfl))
  try simp only [Act.put, List.setIfInBounds_toArray, List.set_cons_zero, List.set_cons_succ]
  refine wpAnyH_take (i := 2) (oi := ⟨_, _, _, _, _, _⟩) (v := ?vv2) rfl (by kernel_rfl) (by kernel_rfl) (by kernel_rfl) (fun _ _ _ h => h) (Or.inl ⟨by rfl, ?hy2⟩) (by assumption) ?_
  case hy2 => (intro w hSw; (try dsimp only at hSw); go_simp; try (with_reducible rfl))
  try simp only [Act.put, List.setIfInBounds_toArray, List.set_cons_zero, List.set_cons_succ]
  refine wpAnyH_ready (rs := [1]) (by kernel_rfl) (by simp) (AllReadyH.cons (o := ⟨_, _, _, _, _, _⟩) rfl (fun K9 hK9 => ?_) AllReadyH.nil)
  go_simp
  (go_at_call 22; with_reducible refine (GG.out _ (I5.out.keeps HBC.out)).mono ?_; rintro e wN ⟨rfl, hbN⟩; have HBC := Lib.hid (HBC.out.trans (hbN.mono HBC.out.size)); clear hbN)
  refine hK9.out _ _ ?_ (fun hHeld => ?_)
  · exact ⟨(T3.out.keeps HBC.out).2.1, (T3.out.keeps HBC.out).2.2.1, HBC.out⟩
  clear hK9 K9
  try simp only [Act.put, List.setIfInBounds_toArray, List.set_cons_zero, List.set_cons_succ]
  refine wpAnyH_ready (rs := [3]) (by kernel_rfl) (by simp) (AllReadyH.cons (o := ⟨_, _, _, _, _, _⟩) rfl (fun K9 hK9 => ?_) AllReadyH.nil)
  go_simp
  (go_at_call 23; with_reducible refine (GE.out _ (I3.out.keeps HBC.out)).mono ?_; rintro e wN ⟨rfl, hbN⟩; have HBC := Lib.hid (HBC.out.trans (hbN.mono HBC.out.size)); clear hbN)
  refine hK9.out _ _ ?_ (fun hHeld => ?_)
  · exact ⟨(T3.out.keeps HBC.out).2.1, (T3.out.keeps HBC.out).2.2.1, HBC.out⟩
  clear hK9 K9
  try simp only [Act.put, List.setIfInBounds_toArray, List.set_cons_zero, List.set_cons_succ]
  refine wpAnyH_take (i := 4) (oi := ⟨_, _, _, _, _, _⟩) (v := ?vv3) rfl (by kernel_rfl) (by kernel_rfl) (by kernel_rfl) (fun _ _ _ h => h) (Or.inl ⟨by rfl, ?hy3⟩) (by assumption) ?_
  case hy3 => (intro w hSw; (try dsimp only at hSw); go_simp; try (with_reducible rfl))
  try simp only [Act.put, List.setIfInBounds_toArray, List.set_cons_zero, List.set_cons_succ]
  refine wpAnyH_take (i := 5) (oi := ⟨_, _, _, _, _, _⟩) (v := ?vv4) rfl (by kernel_rfl) (by kernel_rfl) (by kernel_rfl) (fun _ _ _ h => h) (Or.inl ⟨by rfl, ?hy4⟩) (by assumption) ?_
  case hy4 => (intro w hSw; (try dsimp only at hSw); go_simp; try (with_reducible rfl))
  try simp only [Act.put, List.setIfInBounds_toArray, List.set_cons_zero, List.set_cons_succ]
  refine wpAnyH_take (i := 6) (oi := ⟨_, _, _, _, _, _⟩) (v := ?vv5) rfl (by kernel_rfl) (by kernel_rfl) (by kernel_rfl) (fun _ _ _ h => h) (Or.inl ⟨by rfl, ?hy5⟩) (by assumption) ?_
  case hy5 => (intro w hSw; (try dsimp only at hSw); go_simp; try (with_reducible rfl))
  try simp only [Act.put, List.setIfInBounds_toArray, List.set_cons_zero, List.set_cons_succ]
  refine wpAnyH_take (i := 7) (oi := ⟨_, _, _, _, _, _⟩) (v := ?vv6) rfl (by kernel_rfl) (by kernel_rfl) (by kernel_rfl) (fun _ _ _ h => h) (Or.inl ⟨by rfl, ?hy6⟩) (by assumption) ?_
  case hy6 => (intro w hSw; (try dsimp only at hSw); go_simp; try (with_reducible rfl))
  try simp only [Act.put, List.setIfInBounds_toArray, List.set_cons_zero, List.set_cons_succ]
  refine wpAnyH_take (i := 8) (oi := ⟨_, _, _, _, _, _⟩) (v := ?vv7) rfl (by kernel_rfl) (by kernel_rfl) (by kernel_rfl) (fun _ _ _ h => h) (Or.inl ⟨by rfl, ?hy7⟩) (by assumption) ?_
  case hy7 => (intro w hSw; (try dsimp only at hSw); go_simp; try (with_reducible rfl))
  try simp only [Act.put, List.setIfInBounds_toArray, List.set_cons_zero, List.set_cons_succ]
  refine wpAnyH_take (i := 9) (oi := ⟨_, _, _, _, _, _⟩) (v := ?vv8) rfl (by kernel_rfl) (by kernel_rfl) (by kernel_rfl) (fun _ _ _ h => h) (Or.inl ⟨by rfl, ?hy8⟩) (by assumption) ?_
  case hy8 => (intro w hSw; (try dsimp only at hSw); go_simp; try (with_reducible rfl))
  try simp only [Act.put, List.setIfInBounds_toArray, List.set_cons_zero, List.set_cons_succ]
  refine wpAnyH_take (i := 10) (oi := ⟨_, _, _, _, _, _⟩) (v := undef) rfl (by kernel_rfl) (by kernel_rfl) (by kernel_rfl) (fun _ _ _ h => h) (Or.inr ⟨by rfl, rfl⟩) (by assumption) ?_
  try simp only [Act.put, List.setIfInBounds_toArray, List.set_cons_zero, List.set_cons_succ]
  refine wpAnyH_take (i := 11) (oi := ⟨_, _, _, _, _, _⟩) (v := undef) rfl (by kernel_rfl) (by kernel_rfl) (by kernel_rfl) (fun _ _ _ h => h) (Or.inr ⟨by rfl, rfl⟩) (by assumption) ?_
  try simp only [Act.put, List.setIfInBounds_toArray, List.set_cons_zero, List.set_cons_succ]
  refine wpAnyH_take (i := 12) (oi := ⟨_, _, _, _, _, _⟩) (v := undef) rfl (by kernel_rfl) (by kernel_rfl) (by kernel_rfl) (fun _ _ _ h => h) (Or.inr ⟨by rfl, rfl⟩) (by assumption) ?_
  try simp only [Act.put, List.setIfInBounds_toArray, List.set_cons_zero, List.set_cons_succ]
  refine wpAnyH_take (i := 13) (oi := ⟨_, _, _, _, _, _⟩) (v := undef) rfl (by kernel_rfl) (by kernel_rfl) (by kernel_rfl) (fun _ _ _ h => h) (Or.inr ⟨by rfl, rfl⟩) (by assumption) ?_
  try simp only [Act.put, List.setIfInBounds_toArray, List.set_cons_zero, List.set_cons_succ]
  refine wpAnyH_take (i := 14) (oi := ⟨_, _, _, _, _, _⟩) (v := ?vv9) rfl (by kernel_rfl) (by kernel_rfl) (by kernel_rfl) (fun _ _ _ h => h) (Or.inl ⟨by rfl, ?hy9⟩) (by assumption) ?_
  case hy9 => (intro w hSw; (try dsimp only at hSw); go_simp; try (with_reducible rfl))
  try simp only [Act.put, List.setIfInBounds_toArray, List.set_cons_zero, List.set_cons_succ]
  refine wpAnyH_take (i := 15) (oi := ⟨_, _, _, _, _, _⟩) (v := ?vv10) rfl (by kernel_rfl) (by kernel_rfl) (by kernel_rfl) (fun _ _ _ h => h) (Or.inl ⟨by rfl, ?hy10⟩) (by assumption) ?_
  case hy10 => (intro w hSw; (try dsimp only at hSw); go_simp; try (with_reducible rfl))
  try simp only [Act.put, List.setIfInBounds_toArray, List.set_cons_zero, List.set_cons_succ]
  refine wpAnyH_take (i := 16) (oi := ⟨_, _, _, _, _, _⟩) (v := ?vv11) rfl (by kernel_rfl) (by kernel_rfl) (by kernel_rfl) (fun _ _ _ h => h) (Or.inl ⟨by rfl, ?hy11⟩) (by assumption) ?_
  case hy11 => (intro w hSw; (try dsimp only at hSw); go_simp; try (with_reducible rfl))
  try simp only [Act.put, List.setIfInBounds_toArray, List.set_cons_zero, List.set_cons_succ]
  refine wpAnyH_done (by kernel_rfl) ?_ _
  refine NoPanic.normal ?_
  exact HK.out _ _ _ _ _ _ _ _ _ _ _ _ _ _ _ _ HBC.out

set_option maxRecDepth 1000000 in
set_option maxHeartbeats 16000000 in
theorem ho_r21o {K : Act → World → Prop} {Q2 : Exit → Act → World → Prop} {u0 u1 u2 u4 u6 u7 u8 u9 u10 u11 u12 u13 u14 u15 u16 u17 u18 u19 u20 u21 u22 u23 u24 u25 u26 u27 u28 u29 u30 u31 u32 u33 u34 u35 u36 u37 u38 u39 u40 u41 u42 u43 u44 u45 u46 u47 u48 u49 u50 u51 u52 u53 u54 u55 u56 u57 u58 u59 u60 u61 u62 u63 u64 u65 u66 u67 u68 u69 u70 u71 u72 u73 u74 u75 u76 u77 u78 u79 u80 u81 u82 u83 u84 u85 u86 u87 u88 u89 u90 u91 u92 u93 u94 u95 u96 u97 u98 u99 u100 u101 u102 u103 u104 u105 u106 u107 u108 u109 u110 u111 u112 u113 u114 u115 u116 u117 u118 u119 u120 u121 u122 u123 u124 u125 u126 u127 u128 u129 u130 u131 u132 u133 u134 u135 u136 u137 : Value} {b3 : Nat} {n3 : Int} {a3 : Option Addr} {c3 l3 : Nat} {x3 : List Int} {a5 : Option Addr} {c5 l5 g5 : Nat} {ze : Int} {L : List Int} {W : World}
    (t3 : Two W b3 (.int .i64 n3) (.slice a3 l3 c3)) (i3 : Ints W a3 x3) (h3 : x3.length = l3) (q3 : l3 ≤ 1048576) (s3 : l3 ≤ c3)
    (i5 : Ints W a5 L) (h5 : L.length = l5) (q5 : l5 ≤ 7) (hsm : ∀ j, j < l5 → 0 ≤ L.getD j 0 ∧ L.getD j 0 ≤ 64) (hsg : ssumK L L.length = ze) (heu : eul (faces n3 x3) = ze)
    (hl5 : l5 = 1) (ha5 : a5 = some ⟨g5, 0, none⟩) (hg5 : g5 < W.heap.size) (k0 : W.cell? ⟨g5, 0, none⟩ = some (.int .i64 1))
    (hK : ∀ (v122 v123 v124 v125 v126 v127 v128 v129 v130 v131 v132 v133 v134 v135 v136 : Value) (w' : World), Below W.heap.size W w' → K ⟨#[u0, u1, .bool true, .pointer (some ⟨b3, 0, none⟩), u4, .slice a5 l5 c5, u6, u7, u8, u9, u10, u11, u12, u13, u14, u15, u16, u17, u18, u19, u20, u21, u22, u23, u24, u25, u26, u27, u28, u29, u30, u31, u32, u33, u34, u35, u36, u37, u38, u39, u40, u41, u42, u43, u44, u45, u46, u47, u48, u49, u50, u51, u52, u53, u54, u55, u56, u57, u58, u59, u60, u61, u62, u63, u64, u65, u66, u67, u68, u69, u70, u71, u72, u73, u74, u75, u76, u77, u78, u79, u80, u81, u82, u83, u84, u85, u86, u87, u88, u89, u90, u91, u92, u93, u94, u95, u96, u97, u98, u99, u100, u101, u102, u103, u104, u105, u106, u107, u108, u109, u110, u111, u112, u113, u114, u115, u116, u117, u118, u119, u120, u121, v122, v123, v124, v125, v126, v127, v128, v129, v130, v131, v132, v133, v134, v135, v136, .bool true], []⟩ w') :
    Code.wp Tryz.prog (hoReg 21) (Exit.then K Q2) ⟨#[u0, u1, u2, .pointer (some ⟨b3, 0, none⟩), u4, .slice a5 l5 c5, u6, u7, u8, u9, u10, u11, u12, u13, u14, u15, u16, u17, u18, u19, u20, u21, u22, u23, u24, u25, u26, u27, u28, u29, u30, u31, u32, u33, u34, u35, u36, u37, u38, u39, u40, u41, u42, u43, u44, u45, u46, u47, u48, u49, u50, u51, u52, u53, u54, u55, u56, u57, u58, u59, u60, u61, u62, u63, u64, u65, u66, u67, u68, u69, u70, u71, u72, u73, u74, u75, u76, u77, u78, u79, u80, u81, u82, u83, u84, u85, u86, u87, u88, u89, u90, u91, u92, u93, u94, u95, u96, u97, u98, u99, u100, u101, u102, u103, u104, u105, u106, u107, u108, u109, u110, u111, u112, u113, u114, u115, u116, u117, u118, u119, u120, u121, u122, u123, u124, u125, u126, u127, u128, u129, u130, u131, u132, u133, u134, u135, u136, u137], []⟩ W := by
  have HK := Lib.hid hK
  have GE := Lib.hid (fun w h => hoEu n3 a3 c3 l3 x3 h3 s3 (by omega) ze heu w h)
  have GG := Lib.hid (fun w h => hoSg a5 c5 l5 L h5 q5 hsm ze hsg w h)
  have T3 := Lib.hid t3
  have I3 := Lib.hid i3
  have I5 := Lib.hid i5
  have HC0 : Hid (∀ w', Below W.heap.size W w' → w'.cell? ⟨g5, 0, none⟩ = some (.int .i64 1)) := by
    have : ∀ w', Below W.heap.size W w' → w'.cell? ⟨g5, 0, none⟩ = some (.int .i64 1) := fun w' hw => by rw [hw.cell (p := ⟨g5, 0, none⟩) hg5]; exact k0
    exact this
  subst ha5
  subst hl5
  clear hK t3 i3 h3 q3 s3 i5 h5 q5 hsm hsg heu k0
  have HBC := Lib.hid (bdrew1 W)
  conv => arg 2; whnf
  first | (go_region_held3 (fun w' => w'.cell? ⟨b3, 0, none⟩ = some (.int .i64 n3) ∧ w'.cell? ⟨b3, 1, none⟩ = some (.slice a3 l3 c3) ∧ w'.cell? ⟨g5, 0, none⟩ = some (.int .i64 1) ∧ Below W.heap.size W w') (first | (exact ⟨(T3.out.keeps HBC.out).2.1, (T3.out.keeps HBC.out).2.2.1, HC0.out _ HBC.out, HBC.out⟩) | fail "keep") (first | (go_at_call 22; with_reducible refine (GG.out _ (I5.out.keeps HBC.out)).mono ?_; rintro e wN ⟨rfl, hbN⟩; have HBC := Lib.hid (HBC.out.trans (hbN.mono HBC.out.size)); clear hbN) | (go_at_call 23; with_reducible refine (GE.out _ (I3.out.keeps HBC.out)).mono ?_; rintro e wN ⟨rfl, hbN⟩; have HBC := Lib.hid (HBC.out.trans (hbN.mono HBC.out.size)); clear hbN) | fail "arm")) | fail "region"
  exact HK.out _ _ _ _ _ _ _ _ _ _ _ _ _ _ _ _ HBC.out


end Go.Proofs.YtenpcjmhlnalcaaGreat
