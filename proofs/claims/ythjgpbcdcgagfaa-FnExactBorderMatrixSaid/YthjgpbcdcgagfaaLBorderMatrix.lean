/-
  THE WALK of the law on BorderMatrix: the law's own text; spec's and impl's answers are premises (written by genmm.py).
-/
import Derived.Test.YthjgpbcdcgagfaaRaw
import Derived.Test.YthjgpbcdcgagfaaHas
import Derived.Deep.RegionHeld3
namespace Go.Proofs.Ythjgpbcdcgagfaa
open Go.RowKit

set_option maxRecDepth 100000 in
set_option maxHeartbeats 8000000 in
theorem exactBorderMatrix_walk (na : Int) (aa : Option Addr) (ca : Nat) (xa : List Int) (zb : Int) (w : World) (N : Lin.Mat) (hlxa : xa.length ≤ 9223372036854775807) (hixa : Ints w aa xa) (hN : (xa.length) ≤ 1048576 → N.length ≤ 1099511627776 ∧ 1 + offM N N.length ≤ 1099511627776)
    (hs : ∀ (w : World) (q0 : Option Addr) (d0 : Nat), (xa.length) ≤ 1048576 → xa.length ≤ d0 → Ints w q0 xa → Calls Try.prog 23 #[cx na (.slice q0 xa.length d0), .int .i64 zb] w fun e w' => ∃ v, e = .returned v ∧ HasMx w' w.heap.size v N ∧ Below w.heap.size w w')
    (hi : ∀ (w : World) (q0 : Option Addr) (d0 : Nat), (xa.length) ≤ 1048576 → xa.length ≤ d0 → Ints w q0 xa → Calls Try.prog 13 #[cx na (.slice q0 xa.length d0), .int .i64 zb] w fun e w' => ∃ v, e = .returned v ∧ HasMx w' w.heap.size v N ∧ Below w.heap.size w w') :
    Calls Try.prog 7 #[cx na (.slice aa xa.length ca), .int .i64 zb] w fun e w' => e = .returned (.bool true) ∧ Below w.heap.size w w' := by
  have HS := Lib.hid hs
  have HI := Lib.hid hi
  have HIxa := Lib.hid hixa
  have HLxa := Lib.hid hlxa
  have HN := Lib.hid hN
  clear hs hi hixa hlxa hN
  have TX := Lib.hid (Two.new w (.int .i64 na) (.slice aa xa.length ca) 55)
  have HBX : Hid (Below w.heap.size w (w.alloc (Obj.cells #[Value.int IntKind.i64 na, Value.slice aa xa.length ca] 55))) := (Below.refl _ _).alloc (by simp) _
  have hzx : w.heap.size < (w.alloc (Obj.cells #[Value.int IntKind.i64 na, Value.slice aa xa.length ca] 55)).heap.size := by simp
  go_enter Try.func7, Try.ntmps7
  by_cases hok0 : xa.length ≤ 1048576
  case neg =>
    obtain ⟨tan00, tan01, tan02, tan03, tan04⟩ := TX.out
    go_wp2_with fail
    refine (szCx_big _ _ _ xa HLxa.out _ (1048576) (by first | rfl | omega) (by omega) hok0 _).mono ?_
    rintro e v0 ⟨rfl, hv0⟩
    go_wp2
    go_ret
    exact ⟨rfl, HBX.out.trans (hv0.mono HBX.out.size)⟩
  obtain ⟨tao10, tao11, tao12, tao13, tao14⟩ := TX.out
  go_wp2_with fail
  refine (szCx_ok _ _ _ xa _ (1048576) (by first | rfl | omega) (by omega) hok0 _).mono ?_
  rintro e w1 ⟨rfl, hb1⟩
  clear tao10 tao11 tao12 tao13 tao14
  have hzw1 : (w.alloc (Obj.cells #[Value.int IntKind.i64 na, Value.slice aa xa.length ca] 55)).heap.size ≤ w1.heap.size := hb1.size
  have Bw1 : Hid (Below (w.alloc (Obj.cells #[Value.int IntKind.i64 na, Value.slice aa xa.length ca] 55)).heap.size (w.alloc (Obj.cells #[Value.int IntKind.i64 na, Value.slice aa xa.length ca] 55)) w1) := hb1
  have Ta_w1 := Lib.hid (TX.out.keeps hb1)
  clear hb1
  have hok : xa.length ≤ 1048576 := by omega
  have HOK : Hid ((xa.length) ≤ 1048576) := by
    have : (xa.length) ≤ 1048576 := by omega
    exact this
  have hszxa : xa.length ≤ 1048576 := by omega
  obtain ⟨hN1, hN2⟩ := HN.out HOK.out
  have HNL := Lib.hid hN1
  have HNO := Lib.hid hN2
  clear hN1 hN2
  obtain ⟨tao20, tao21, tao22, tao23, tao24⟩ := Ta_w1.out
  go_wp2_with fail
  refine (toCx_any na _ _ xa hszxa _ (HIxa.out.keeps (HBX.out.trans (Bw1.out.mono HBX.out.size)))).mono ?_
  rintro e w2 ⟨gs0, rfl, hges0, hlts0, hrs0, hb2⟩
  clear tao20 tao21 tao22 tao23 tao24
  have hzw2 : w1.heap.size ≤ w2.heap.size := hb2.size
  have Bw2 : Hid (Below (w.alloc (Obj.cells #[Value.int IntKind.i64 na, Value.slice aa xa.length ca] 55)).heap.size (w.alloc (Obj.cells #[Value.int IntKind.i64 na, Value.slice aa xa.length ca] 55)) w2) := Bw1.out.trans (hb2.mono (by first | omega | (have := Bw1.out.size; omega)))
  have Ta_w2 := Lib.hid (Ta_w1.out.keeps hb2)
  clear Ta_w1
  clear hb2
  have Xs0 := Lib.hid hrs0
  clear hrs0
  obtain ⟨tao30, tao31, tao32, tao33, tao34⟩ := Ta_w2.out
  go_wp2_with fail
  refine (HS.out _ _ _ HOK.out (Nat.le_refl _) Xs0.out.ints).mono ?_
  rintro e w3 ⟨vW, rfl, ⟨aW, cW, gW, RW, rfl, hoW, hrW, hMW⟩, hb3⟩
  clear tao30 tao31 tao32 tao33 tao34
  have hzw3 : w2.heap.size ≤ w3.heap.size := hb3.size
  have Bw3 : Hid (Below (w.alloc (Obj.cells #[Value.int IntKind.i64 na, Value.slice aa xa.length ca] 55)).heap.size (w.alloc (Obj.cells #[Value.int IntKind.i64 na, Value.slice aa xa.length ca] 55)) w3) := Bw2.out.trans (hb3.mono (by first | omega | (have := Bw2.out.size; omega)))
  have Xs0_w3 := Lib.hid (Xs0.out.keeps hb3)
  have Ta_w3 := Lib.hid (Ta_w2.out.keeps hb3)
  clear Ta_w2
  clear hb3
  have XW := Lib.hid hMW
  have OW := Lib.hid hoW
  have SW := Lib.hid hrW
  clear hMW hoW hrW
  obtain ⟨tao40, tao41, tao42, tao43, tao44⟩ := Ta_w3.out
  go_wp2_with fail
  refine (toCx_any na _ _ xa hszxa _ (HIxa.out.keeps (HBX.out.trans (Bw3.out.mono HBX.out.size)))).mono ?_
  rintro e w4 ⟨gx0, rfl, hgex0, hltx0, hrx0, hb4⟩
  clear tao40 tao41 tao42 tao43 tao44
  have hzw4 : w3.heap.size ≤ w4.heap.size := hb4.size
  have Bw4 : Hid (Below (w.alloc (Obj.cells #[Value.int IntKind.i64 na, Value.slice aa xa.length ca] 55)).heap.size (w.alloc (Obj.cells #[Value.int IntKind.i64 na, Value.slice aa xa.length ca] 55)) w4) := Bw3.out.trans (hb4.mono (by first | omega | (have := Bw3.out.size; omega)))
  have XW_w4 := Lib.hid (XW.out.keeps hb4)
  have Ta_w4 := Lib.hid (Ta_w3.out.keeps hb4)
  clear Ta_w3
  clear hb4
  have Xx0 := Lib.hid hrx0
  clear hrx0
  have hbx0 : Below w4.heap.size w4 (w4.alloc (Obj.cells #[Value.int IntKind.i64 na, .slice (some ⟨gx0, 0, none⟩) xa.length xa.length] 26)) := (Below.refl _ _).alloc (Nat.le_refl _) _
  have hzbx : w4.heap.size ≤ (w4.alloc (Obj.cells #[Value.int IntKind.i64 na, .slice (some ⟨gx0, 0, none⟩) xa.length xa.length] 26)).heap.size := hbx0.size
  have hzbx1 : w4.heap.size + 1 = (w4.alloc (Obj.cells #[Value.int IntKind.i64 na, .slice (some ⟨gx0, 0, none⟩) xa.length xa.length] 26)).heap.size := by simp
  have Bbx : Hid (Below (w.alloc (Obj.cells #[Value.int IntKind.i64 na, Value.slice aa xa.length ca] 55)).heap.size (w.alloc (Obj.cells #[Value.int IntKind.i64 na, Value.slice aa xa.length ca] 55)) (w4.alloc (Obj.cells #[Value.int IntKind.i64 na, .slice (some ⟨gx0, 0, none⟩) xa.length xa.length] 26))) := Bw4.out.trans (hbx0.mono Bw4.out.size)
  have XW_bx := Lib.hid (XW_w4.out.keeps hbx0)
  clear XW_w4
  have Xx0_bx := Lib.hid (Xx0.out.keeps hbx0)
  clear Xx0
  have Ta_bx := Lib.hid (Ta_w4.out.keeps hbx0)
  clear Ta_w4
  have Tx_bx := Lib.hid (Two.new w4 (.int .i64 na) (.slice (some ⟨gx0, 0, none⟩) xa.length xa.length) 26)
  clear hbx0
  obtain ⟨tao50, tao51, tao52, tao53, tao54⟩ := Ta_bx.out
  obtain ⟨txo50, txo51, txo52, txo53, txo54⟩ := Tx_bx.out
  go_wp2_with fail
  refine (HI.out _ _ _ HOK.out (Nat.le_refl _) Xx0_bx.out.ints).mono ?_
  rintro e w5 ⟨vG, rfl, ⟨aG, cG, gG, RG, rfl, hoG, hrG, hMG⟩, hb5⟩
  clear tao50 tao51 tao52 tao53 tao54 txo50 txo51 txo52 txo53 txo54
  have hzw5 : (w4.alloc (Obj.cells #[Value.int IntKind.i64 na, .slice (some ⟨gx0, 0, none⟩) xa.length xa.length] 26)).heap.size ≤ w5.heap.size := hb5.size
  have Bw5 : Hid (Below (w.alloc (Obj.cells #[Value.int IntKind.i64 na, Value.slice aa xa.length ca] 55)).heap.size (w.alloc (Obj.cells #[Value.int IntKind.i64 na, Value.slice aa xa.length ca] 55)) w5) := Bbx.out.trans (hb5.mono (by first | omega | (have := Bbx.out.size; omega)))
  have XW_w5 := Lib.hid (XW_bx.out.keeps hb5)
  clear XW_bx
  have Xx0_w5 := Lib.hid (Xx0_bx.out.keeps hb5)
  clear Xx0_bx
  have Ta_w5 := Lib.hid (Ta_bx.out.keeps hb5)
  clear Ta_bx
  have Tx_w5 := Lib.hid (Tx_bx.out.keeps hb5)
  clear Tx_bx
  clear hb5
  have XG := Lib.hid hMG
  have OG := Lib.hid hoG
  have SG := Lib.hid hrG
  clear hMG hoG hrG
  obtain ⟨tao60, tao61, tao62, tao63, tao64⟩ := Ta_w5.out
  obtain ⟨txo60, txo61, txo62, txo63, txo64⟩ := Tx_w5.out
  go_wp2_with fail
  refine (eqMx_any _ _ _ _ _ _ _ _ N HNL.out (by have := HNO.out; omega) _ XG.out XW_w5.out).mono ?_
  rintro e w6 ⟨rfl, hb6⟩
  clear tao60 tao61 tao62 tao63 tao64 txo60 txo61 txo62 txo63 txo64
  have hzw6 : w5.heap.size ≤ w6.heap.size := hb6.size
  have Bw6 : Hid (Below (w.alloc (Obj.cells #[Value.int IntKind.i64 na, Value.slice aa xa.length ca] 55)).heap.size (w.alloc (Obj.cells #[Value.int IntKind.i64 na, Value.slice aa xa.length ca] 55)) w6) := Bw5.out.trans (hb6.mono (by first | omega | (have := Bw5.out.size; omega)))
  have XW_w6 := Lib.hid (XW_w5.out.keeps hb6)
  clear XW_w5
  have Xx0_w6 := Lib.hid (Xx0_w5.out.keeps hb6)
  clear Xx0_w5
  have XG_w6 := Lib.hid (XG.out.keeps hb6)
  have Ta_w6 := Lib.hid (Ta_w5.out.keeps hb6)
  clear Ta_w5
  have Tx_w6 := Lib.hid (Tx_w5.out.keeps hb6)
  clear Tx_w5
  clear hb6
  obtain ⟨tao70, tao71, tao72, tao73, tao74⟩ := Ta_w6.out
  obtain ⟨txo70, txo71, txo72, txo73, txo74⟩ := Tx_w6.out
  go_wp2_with fail
  go_region_held3 (fun w' => w'.cell? ⟨w4.heap.size, 0, none⟩ = some (.int .i64 na) ∧ w'.cell? ⟨w4.heap.size, 1, none⟩ = some (.slice (some ⟨gx0, 0, none⟩) xa.length xa.length) ∧ w'.cell? ⟨w.heap.size, 0, none⟩ = some (.int .i64 na) ∧ w'.cell? ⟨w.heap.size, 1, none⟩ = some (.slice aa xa.length ca) ∧ Below w6.heap.size w6 w') (first | (exact ⟨Tx_w6.out.drew.2.1, Tx_w6.out.drew.2.2.1, Ta_w6.out.drew.2.1, Ta_w6.out.drew.2.2.1, bdrew1 _⟩) | (exact ⟨(Tx_w6.out.keeps (below_fresh hbA)).2.1, (Tx_w6.out.keeps (below_fresh hbA)).2.2.1, (Ta_w6.out.keeps (below_fresh hbA)).2.1, (Ta_w6.out.keeps (below_fresh hbA)).2.2.1, below_fresh hbA⟩) | (exact ⟨((Tx_w6.out.keeps (below_fresh hbA)).keeps hbB).2.1, ((Tx_w6.out.keeps (below_fresh hbA)).keeps hbB).2.2.1, ((Ta_w6.out.keeps (below_fresh hbA)).keeps hbB).2.1, ((Ta_w6.out.keeps (below_fresh hbA)).keeps hbB).2.2.1, (below_fresh hbA).trans (hbB.mono (below_fresh hbA).size)⟩)) (first | (go_at_call 41; refine (toCx_any na _ _ xa hszxa _ (Ints.drew (HIxa.out.keeps (HBX.out.trans (Bw6.out.mono HBX.out.size))))).mono ?_; rintro e wA ⟨gA, rfl, hgeA, hltA, hrA, hbA⟩) | (go_at_call 43; refine (eqCx_any _ _ _ _ _ xa (by omega) _ (Xx0_w6.out.keeps (below_fresh hbA)).ints hrA.ints).mono ?_; rintro e w7 ⟨rfl, hbB⟩))
  have hb7 : Below w6.heap.size w6 w7 := (below_fresh hbA).trans (hbB.mono (below_fresh hbA).size)
  clear tao70 tao71 tao72 tao73 tao74 txo70 txo71 txo72 txo73 txo74
  have hzw7 : w6.heap.size ≤ w7.heap.size := hb7.size
  have Bw7 : Hid (Below (w.alloc (Obj.cells #[Value.int IntKind.i64 na, Value.slice aa xa.length ca] 55)).heap.size (w.alloc (Obj.cells #[Value.int IntKind.i64 na, Value.slice aa xa.length ca] 55)) w7) := Bw6.out.trans (hb7.mono (by first | omega | (have := Bw6.out.size; omega)))
  have XW_w7 := Lib.hid (XW_w6.out.keeps hb7)
  clear XW_w6
  have Xx0_w7 := Lib.hid (Xx0_w6.out.keeps hb7)
  clear Xx0_w6
  have XG_w7 := Lib.hid (XG_w6.out.keeps hb7)
  clear XG_w6
  have Ta_w7 := Lib.hid (Ta_w6.out.keeps hb7)
  clear Ta_w6
  have Tx_w7 := Lib.hid (Tx_w6.out.keeps hb7)
  clear Tx_w6
  clear hb7
  obtain ⟨tao80, tao81, tao82, tao83, tao84⟩ := Ta_w7.out
  obtain ⟨txo80, txo81, txo82, txo83, txo84⟩ := Tx_w7.out
  go_wp2_with fail
  refine (markCx_any _ _ _ _ xa _ 1 (by first | rfl | omega) (by omega) (by omega) _ Xx0_w7.out).mono ?_
  rintro e w8 ⟨rfl, hr8m, hG8⟩
  clear tao80 tao81 tao82 tao83 tao84 txo80 txo81 txo82 txo83 txo84
  have hzw8 : w7.heap.size ≤ w8.heap.size := hG8.size
  have XW_w8 := Lib.hid (XW_w7.out.only (only_grown hG8) (fun h hm => by have q2 := OW.out h; simp at hm; omega) (fun g hg hm => by have q2 := SW.out _ hg; simp at hm; omega))
  clear XW_w7
  have XG_w8 := Lib.hid (XG_w7.out.only (only_grown hG8) (fun h hm => by have q2 := OG.out h; simp at hm; omega) (fun g hg hm => by have q2 := SG.out _ hg; simp at hm; omega))
  clear XG_w7
  have Ta_w8 := Lib.hid (Ta_w7.out.far hG8 (by omega))
  clear Ta_w7
  have Tx_w8 := Lib.hid (Tx_w7.out.far hG8 (by omega))
  clear Tx_w7
  have Bw8 : Hid (Below (w.alloc (Obj.cells #[Value.int IntKind.i64 na, Value.slice aa xa.length ca] 55)).heap.size (w.alloc (Obj.cells #[Value.int IntKind.i64 na, Value.slice aa xa.length ca] 55)) w8) := Bw7.out.trans (Mem.below_of_but hG8 (by omega) (by omega))
  clear hr8m hG8
  obtain ⟨tao90, tao91, tao92, tao93, tao94⟩ := Ta_w8.out
  obtain ⟨txo90, txo91, txo92, txo93, txo94⟩ := Tx_w8.out
  go_wp2_with fail
  refine (eqMx_any _ _ _ _ _ _ _ _ N HNL.out (by have := HNO.out; omega) _ XG_w8.out XW_w8.out).mono ?_
  rintro e w9 ⟨rfl, hb9⟩
  clear tao90 tao91 tao92 tao93 tao94 txo90 txo91 txo92 txo93 txo94
  have hzw9 : w8.heap.size ≤ w9.heap.size := hb9.size
  have Bw9 : Hid (Below (w.alloc (Obj.cells #[Value.int IntKind.i64 na, Value.slice aa xa.length ca] 55)).heap.size (w.alloc (Obj.cells #[Value.int IntKind.i64 na, Value.slice aa xa.length ca] 55)) w9) := Bw8.out.trans (hb9.mono (by first | omega | (have := Bw8.out.size; omega)))
  have XW_w9 := Lib.hid (XW_w8.out.keeps hb9)
  clear XW_w8
  have XG_w9 := Lib.hid (XG_w8.out.keeps hb9)
  clear XG_w8
  have Ta_w9 := Lib.hid (Ta_w8.out.keeps hb9)
  clear Ta_w8
  have Tx_w9 := Lib.hid (Tx_w8.out.keeps hb9)
  clear Tx_w8
  clear hb9
  obtain ⟨tao100, tao101, tao102, tao103, tao104⟩ := Ta_w9.out
  obtain ⟨txo100, txo101, txo102, txo103, txo104⟩ := Tx_w9.out
  go_wp2_with fail
  refine (markMx_any _ _ _ _ N 1 _ rfl HNL.out HNO.out _ XG_w9.out).mono ?_
  rintro e w10 ⟨rfl, hMm, hOm⟩
  clear tao100 tao101 tao102 tao103 tao104 txo100 txo101 txo102 txo103 txo104
  have hzw10 : w9.heap.size ≤ w10.heap.size := hOm.size
  have XW_w10 := Lib.hid (XW_w9.out.only hOm (fun h hm => by have q1 := SG.out _ hm; have q2 := OW.out h; omega) (fun g hg hm => by have q1 := SG.out _ hm; have q2 := SW.out _ hg; omega))
  clear XW_w9
  have XG_w10 := Lib.hid hMm
  clear XG_w9
  have Ta_w10 := Lib.hid (two_only Ta_w9.out hOm (fun hm => by have q1 := SG.out _ hm; omega))
  clear Ta_w9
  have Tx_w10 := Lib.hid (two_only Tx_w9.out hOm (fun hm => by have q1 := SG.out _ hm; omega))
  clear Tx_w9
  have Bw10 : Hid (Below (w.alloc (Obj.cells #[Value.int IntKind.i64 na, Value.slice aa xa.length ca] 55)).heap.size (w.alloc (Obj.cells #[Value.int IntKind.i64 na, Value.slice aa xa.length ca] 55)) w10) := Bw9.out.trans (hOm.below (B := (w.alloc (Obj.cells #[Value.int IntKind.i64 na, Value.slice aa xa.length ca] 55)).heap.size) (fun g hg => by have := SG.out _ hg; omega) (by omega))
  clear hMm hOm
  obtain ⟨t, ht⟩ : ∃ t, 1 + offM N N.length = t := ⟨_, rfl⟩
  have HT := Lib.hid ht
  rw [ht]
  clear ht
  obtain ⟨tao110, tao111, tao112, tao113, tao114⟩ := Ta_w10.out
  obtain ⟨txo110, txo111, txo112, txo113, txo114⟩ := Tx_w10.out
  go_wp2_with fail
  refine (heldMx_any _ _ _ _ N 1 _ rfl HNL.out HNO.out _ XG_w10.out).mono ?_
  rintro e w11 ⟨rfl, hb11⟩
  clear tao110 tao111 tao112 tao113 tao114 txo110 txo111 txo112 txo113 txo114
  have hzw11 : w10.heap.size ≤ w11.heap.size := hb11.size
  have Bw11 : Hid (Below (w.alloc (Obj.cells #[Value.int IntKind.i64 na, Value.slice aa xa.length ca] 55)).heap.size (w.alloc (Obj.cells #[Value.int IntKind.i64 na, Value.slice aa xa.length ca] 55)) w11) := Bw10.out.trans (hb11.mono (by first | omega | (have := Bw10.out.size; omega)))
  have XW_w11 := Lib.hid (XW_w10.out.keeps hb11)
  clear XW_w10
  have XG_w11 := Lib.hid (XG_w10.out.keeps hb11)
  clear XG_w10
  have Ta_w11 := Lib.hid (Ta_w10.out.keeps hb11)
  clear Ta_w10
  have Tx_w11 := Lib.hid (Tx_w10.out.keeps hb11)
  clear Tx_w10
  clear hb11
  rw [HT.out]
  have hneg2 : decide ((t : Int) < 0) = false := by simp
  obtain ⟨tao120, tao121, tao122, tao123, tao124⟩ := Ta_w11.out
  obtain ⟨txo120, txo121, txo122, txo123, txo124⟩ := Tx_w11.out
  go_wp2_with fail
  refine (toCx_any na _ _ xa hszxa _ (HIxa.out.keeps (HBX.out.trans (Bw11.out.mono HBX.out.size)))).mono ?_
  rintro e w12 ⟨gh0, rfl, hgeh0, hlth0, hrh0, hb12⟩
  clear tao120 tao121 tao122 tao123 tao124 txo120 txo121 txo122 txo123 txo124
  have hzw12 : w11.heap.size ≤ w12.heap.size := hb12.size
  have Bw12 : Hid (Below (w.alloc (Obj.cells #[Value.int IntKind.i64 na, Value.slice aa xa.length ca] 55)).heap.size (w.alloc (Obj.cells #[Value.int IntKind.i64 na, Value.slice aa xa.length ca] 55)) w12) := Bw11.out.trans (hb12.mono (by first | omega | (have := Bw11.out.size; omega)))
  have XW_w12 := Lib.hid (XW_w11.out.keeps hb12)
  clear XW_w11
  have XG_w12 := Lib.hid (XG_w11.out.keeps hb12)
  clear XG_w11
  have Ta_w12 := Lib.hid (Ta_w11.out.keeps hb12)
  clear Ta_w11
  have Tx_w12 := Lib.hid (Tx_w11.out.keeps hb12)
  clear Tx_w11
  clear hb12
  have Xh0 := Lib.hid hrh0
  clear hrh0
  obtain ⟨tao130, tao131, tao132, tao133, tao134⟩ := Ta_w12.out
  obtain ⟨txo130, txo131, txo132, txo133, txo134⟩ := Tx_w12.out
  go_wp2_with fail
  refine (HI.out _ _ _ HOK.out (Nat.le_refl _) Xh0.out.ints).mono ?_
  rintro e w13 ⟨vH, rfl, ⟨aH, cH, gH, RH, rfl, hoH, hrH, hMH⟩, hb13⟩
  clear tao130 tao131 tao132 tao133 tao134 txo130 txo131 txo132 txo133 txo134
  have hzw13 : w12.heap.size ≤ w13.heap.size := hb13.size
  have Bw13 : Hid (Below (w.alloc (Obj.cells #[Value.int IntKind.i64 na, Value.slice aa xa.length ca] 55)).heap.size (w.alloc (Obj.cells #[Value.int IntKind.i64 na, Value.slice aa xa.length ca] 55)) w13) := Bw12.out.trans (hb13.mono (by first | omega | (have := Bw12.out.size; omega)))
  have XW_w13 := Lib.hid (XW_w12.out.keeps hb13)
  clear XW_w12
  have XG_w13 := Lib.hid (XG_w12.out.keeps hb13)
  clear XG_w12
  have Xh0_w13 := Lib.hid (Xh0.out.keeps hb13)
  have Ta_w13 := Lib.hid (Ta_w12.out.keeps hb13)
  clear Ta_w12
  have Tx_w13 := Lib.hid (Tx_w12.out.keeps hb13)
  clear Tx_w12
  clear hb13
  have XH := Lib.hid hMH
  have OH := Lib.hid hoH
  have SH := Lib.hid hrH
  clear hMH hoH hrH
  obtain ⟨tao140, tao141, tao142, tao143, tao144⟩ := Ta_w13.out
  obtain ⟨txo140, txo141, txo142, txo143, txo144⟩ := Tx_w13.out
  go_wp2_with fail
  refine (eqMx_any _ _ _ _ _ _ _ _ N HNL.out (by have := HNO.out; omega) _ XH.out XW_w13.out).mono ?_
  rintro e w14 ⟨rfl, hb14⟩
  clear tao140 tao141 tao142 tao143 tao144 txo140 txo141 txo142 txo143 txo144
  have hzw14 : w13.heap.size ≤ w14.heap.size := hb14.size
  have Bw14 : Hid (Below (w.alloc (Obj.cells #[Value.int IntKind.i64 na, Value.slice aa xa.length ca] 55)).heap.size (w.alloc (Obj.cells #[Value.int IntKind.i64 na, Value.slice aa xa.length ca] 55)) w14) := Bw13.out.trans (hb14.mono (by first | omega | (have := Bw13.out.size; omega)))
  have XW_w14 := Lib.hid (XW_w13.out.keeps hb14)
  clear XW_w13
  have XG_w14 := Lib.hid (XG_w13.out.keeps hb14)
  clear XG_w13
  have XH_w14 := Lib.hid (XH.out.keeps hb14)
  have Ta_w14 := Lib.hid (Ta_w13.out.keeps hb14)
  clear Ta_w13
  have Tx_w14 := Lib.hid (Tx_w13.out.keeps hb14)
  clear Tx_w13
  clear hb14
  obtain ⟨tao150, tao151, tao152, tao153, tao154⟩ := Ta_w14.out
  obtain ⟨txo150, txo151, txo152, txo153, txo154⟩ := Tx_w14.out
  go_wp2_with fail
  refine (heldMx_any _ _ _ _ N 1 _ rfl HNL.out HNO.out _ XG_w14.out).mono ?_
  rintro e w15 ⟨rfl, hb15⟩
  clear tao150 tao151 tao152 tao153 tao154 txo150 txo151 txo152 txo153 txo154
  have hzw15 : w14.heap.size ≤ w15.heap.size := hb15.size
  have Bw15 : Hid (Below (w.alloc (Obj.cells #[Value.int IntKind.i64 na, Value.slice aa xa.length ca] 55)).heap.size (w.alloc (Obj.cells #[Value.int IntKind.i64 na, Value.slice aa xa.length ca] 55)) w15) := Bw14.out.trans (hb15.mono (by first | omega | (have := Bw14.out.size; omega)))
  have XW_w15 := Lib.hid (XW_w14.out.keeps hb15)
  clear XW_w14
  have XG_w15 := Lib.hid (XG_w14.out.keeps hb15)
  clear XG_w14
  have XH_w15 := Lib.hid (XH_w14.out.keeps hb15)
  clear XH_w14
  have Ta_w15 := Lib.hid (Ta_w14.out.keeps hb15)
  clear Ta_w14
  have Tx_w15 := Lib.hid (Tx_w14.out.keeps hb15)
  clear Tx_w14
  clear hb15
  rw [HT.out]
  go_wp2
  go_ret
  exact ⟨rfl, HBX.out.trans (Bw15.out.mono HBX.out.size)⟩

end Go.Proofs.Ythjgpbcdcgagfaa
