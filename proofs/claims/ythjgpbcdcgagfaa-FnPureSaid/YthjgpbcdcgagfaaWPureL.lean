/-
  THE WALK of the law on pure functions (written by genpure.py).
-/
import Derived.Test.YthjgpbcdcgagfaaWPureR
import Derived.Deep.DeepCutAuto
namespace Go.Proofs.Ythjgpbcdcgagfaa
open Go.RowKit
open Sets Hom

set_option maxRecDepth 1000000 in
set_option maxHeartbeats 16000000 in
theorem pure_walk (a : Option Addr) (n c : Nat) (hn : n ≤ 9223372036854775807) (w : World) (hc : Code w a n) :
    Calls Try.prog 4 #[.slice a n c] w fun e w' => e = .returned (.bool true) ∧ Below w.heap.size w w' := by
  obtain ⟨i0, hi, hz0, hz1, hz2⟩ := info_parts info_int
  have HC := Lib.hid hc
  clear hc
  by_cases hbig : 1048576 < (n : Int)
  · go_enter Try.func4, Try.ntmps4
    go_wp2
    go_ret
    exact ⟨rfl, Below.refl _ _⟩
  go_enter Try.func4, Try.ntmps4
  go_wp2_with (go_at_call 11; go_in)
  refine (pdrawOrder_any a n c (by omega) _ HC.out).mono ?_
  rintro e w1 ⟨v, xs, rfl, hx3, hO, hb⟩
  obtain ⟨a3, c3, g3, rfl, hc3, -, hr0, _⟩ := OwnInts.ata hO hb.size
  have HBW := Lib.hid hb
  have hba : Below w1.heap.size w1 (w1.alloc (.cells #[] 3)) := (Below.refl _ _).alloc (Nat.le_refl _) _
  have I3 := Lib.hid hr0.ints
  have HN := Lib.hid (hr0.ints.keeps hba)
  have HO0 := Lib.hid (OwnInts.lit w1 w1.heap.size [] (Nat.le_refl _) (by simp))
  have HBA := Lib.hid hba
  unfold OwnInts at HO0
  clear hO hr0 hb hba hc3
  go_wp2_with (at_builtin; refine wpList_append_src rfl _ _ 24 rfl w1.heap.size 3 i0 (.int .i64 0) Try.underlying24 hi hz0 hz1 hz2 rfl (.slice (some ⟨w1.heap.size, 0, none⟩) 0 0) 0 [] rfl HO0.out a3 c3 xs rfl HN.out ?c3 ?c4 ?c5 ?_)
  case c3 => unfold maxLen; omega
  case c4 => omega
  case c5 => simp
  intro v1 w2 hown hgrow
  have hb2 : Below w1.heap.size w1 w2 := HBA.out.grown hgrow (by simp) (fun g hg => by simp only [Value.ownBlock, Option.some.injEq] at hg; omega)
  have hO2 : OwnInts w2 w1.heap.size v1 xs := by
    unfold OwnInts
    have h := hown
    simpa using h
  obtain ⟨a4, c4, g4, rfl, -, -, hr4, _⟩ := OwnInts.ata hO2 hb2.size
  have I4 := Lib.hid hr4.ints
  replace I3 := Lib.hid (I3.out.keeps hb2)
  replace HBW := Lib.hid (HBW.out.trans (hb2.mono HBW.out.size))
  obtain ⟨l3, hl3⟩ : ∃ l, xs.length = l := ⟨_, rfl⟩
  have HL3 := Lib.hid hl3
  rw [hl3] at hx3 ⊢
  clear hown hgrow hb2 hO2 hr4 hl3 HN HO0 HBA
  go_wp2_with fail
  refine (pdrawDual_any a n c (by omega) _ (HC.out.keeps HBW.out)).mono ?_
  rintro e w3 ⟨N, v, ys, rfl, hx5, hO, hb⟩
  obtain ⟨a5, c5, g5, rfl, hc5, -, hr0, _⟩ := OwnInts.ata hO hb.size
  have hr := hr0.ints
  obtain ⟨l5, hl5⟩ : ∃ l, ys.length = l := ⟨_, rfl⟩
  have HL5 := Lib.hid hl5
  rw [hl5] at hx5 hc5 ⊢
  have hba : Below w3.heap.size w3 (w3.alloc (.cells #[.int .i64 N, .slice a5 l5 c5] 26)) := (Below.refl _ _).alloc (Nat.le_refl _) _
  replace HBW : Hid (Below w.heap.size w (w3.alloc (.cells #[.int .i64 N, .slice a5 l5 c5] 26))) := (HBW.out.trans (hb.mono HBW.out.size)).trans (hba.mono (Nat.le_trans HBW.out.size hb.size))
  replace I3 := Lib.hid ((I3.out.keeps hb).keeps hba)
  replace I4 := Lib.hid ((I4.out.keeps hb).keeps hba)
  have I5 := Lib.hid (hr.keeps hba)
  have T5 := Lib.hid (Two.new w3 (.int .i64 N) (.slice a5 l5 c5) 26)
  clear hO hr0 hr hb hba hl5
  obtain ⟨T, hT⟩ : ∃ z, cxText N ys = z := ⟨_, rfl⟩
  obtain ⟨LA, hLA⟩ : ∃ z, order xs = z := ⟨_, rfl⟩
  obtain ⟨ND, hND⟩ : ∃ z, oN (dualO N ys) = z := ⟨_, rfl⟩
  obtain ⟨LD, hLD⟩ : ∃ z, oL (dualO N ys) = z := ⟨_, rfl⟩
  obtain ⟨BD, hBD⟩ : ∃ z, (dualO N ys).isSome = z := ⟨_, rfl⟩
  obtain ⟨M, hM⟩ : ∃ z, bordZ N ys 2 = z := ⟨_, rfl⟩
  obtain ⟨lA, hlA⟩ : ∃ l, LA.length = l := ⟨_, rfl⟩
  obtain ⟨lD, hlD⟩ : ∃ l, LD.length = l := ⟨_, rfl⟩
  obtain ⟨m, hm⟩ : ∃ l, M.length = l := ⟨_, rfl⟩
  have HLA := Lib.hid hlA
  have HLD := Lib.hid hlD
  have HM := Lib.hid hm
  have hlA1 : lA ≤ 448 := by rw [← hlA, ← hLA]; exact order_length xs
  have hlD1 : lD ≤ 64 := by
    rw [← hlD, ← hLD]
    unfold dualO partO
    split
    · exact maxQ_le _
    · exact Nat.zero_le _
  have FM := Lib.hid (bordZ_off N ys 2)
  rw [hM] at FM
  have hmL : m ≤ 1099511627776 := by rw [← hm]; exact FM.out.1
  have ET := Lib.hid hT
  have EL := Lib.hid hLA
  have EM := Lib.hid hM
  have GT := Lib.hid (fun w h => ptext_any N a5 c5 l5 ys HL5.out (by omega) T hT w h)
  have GO := Lib.hid (fun w h => porderI_any a3 c3 l3 xs HL3.out (by omega) LA hLA w h)
  have GD := Lib.hid (fun w h => pdualI_any N a5 c5 l5 ys HL5.out hc5 (by omega) ND LD BD hND hLD hBD w h)
  have GE := Lib.hid (fun w h => pdualS_any N a5 c5 l5 ys HL5.out (by omega) ND LD BD hND hLD hBD w h)
  have GB := Lib.hid (fun w h => pbordI_any N a5 c5 l5 ys HL5.out hc5 (by omega) 2 M hM w h)
  clear hT hLA hND hLD hBD hM hlA hlD hm
  obtain ⟨t0, t1, t2, -, -⟩ := T5.out
  go_wp2_with fail
  refine (GT.out _ I5.out).mono ?_
  rintro e w4 ⟨rfl, hb⟩
  obtain ⟨wB, hwB⟩ : ∃ z, (w3.alloc (.cells #[.int .i64 N, .slice a5 l5 c5] 26)) = z := ⟨_, rfl⟩
  rw [hwB] at T5 I3 I4 I5 HBW hb
  clear hwB t0 t1 t2 GT
  have HBB := Lib.hid hb
  clear hb
  go_wp2_with fail
  refine (GO.out _ (I3.out.keeps HBB.out)).mono ?_
  rintro e w5 ⟨v, rfl, hO, hb⟩
  obtain ⟨a7, c7, g7, rfl, -, hg7, hr7, -⟩ := OwnInts.ata hO hb.size
  have hB4 := HBB.out.size
  have hs5 := hb.size
  replace HBB := Lib.hid (HBB.out.trans (hb.mono HBB.out.size))
  have R7 := Lib.hid hr7
  have hg7b : 0 < lA → g7 < w5.heap.size := fun h => (hr7 0 (by rw [HLA.out]; exact h)).2.1
  rw [HLA.out]
  clear hO hb hr7
  obtain ⟨t0, t1, t2, -, -⟩ := Two.keeps T5.out HBB.out
  go_wp2_with fail
  refine (GD.out _ (I5.out.keeps HBB.out)).mono ?_
  rintro e w6 ⟨v, rfl, hO, hb⟩
  obtain ⟨a8, c8, g8, rfl, -, hg8, hr8, -⟩ := OwnInts.ata hO hb.size
  have hs6 := hb.size
  have hg8b : 0 < lD → g8 < w6.heap.size := fun h => (hr8 0 (by rw [HLD.out]; exact h)).2.1
  rw [HLD.out]
  have hba : Below w6.heap.size w6 (w6.alloc (.cells #[.int .i64 ND, .slice a8 lD c8] 26)) := (Below.refl _ _).alloc (Nat.le_refl _) _
  replace HBB := Lib.hid ((HBB.out.trans (hb.mono HBB.out.size)).trans (hba.mono (Nat.le_trans HBB.out.size hb.size)))
  replace R7 := Lib.hid ((R7.out.keeps hb).keeps hba)
  have R8 := Lib.hid (hr8.keeps hba)
  have T8 := Lib.hid (Two.new w6 (.int .i64 ND) (.slice a8 lD c8) 26)
  clear hO hb hr8 hba t0 t1 t2
  obtain ⟨t0, t1, t2, -, -⟩ := Two.keeps T5.out HBB.out
  go_wp2_with fail
  refine (GB.out _ (I5.out.keeps HBB.out)).mono ?_
  rintro e w7 ⟨v, rfl, ⟨aM, cM, gM, RM, rfl, hgM, hRM, hX⟩, hb⟩
  simp only [World.size_alloc] at hgM hRM
  replace HBB := Lib.hid (HBB.out.trans (hb.mono HBB.out.size))
  replace R7 := Lib.hid (R7.out.keeps hb)
  replace R8 := Lib.hid (R8.out.keeps hb)
  replace T8 := Lib.hid (Two.keeps T8.out hb)
  have XM := Lib.hid hX
  have HRM := Lib.hid hRM
  rw [HM.out] at hgM ⊢
  clear hX hb t0 t1 t2 GB hRM
  obtain ⟨b8, hb8⟩ : ∃ b, w6.heap.size = b := ⟨_, rfl⟩
  rw [hb8] at T8 hs6 hg8b HRM hgM ⊢
  clear hb8
  go_wp2
  go_loopw [11] (fun iv wr => ∃ k : Nat, k ≤ lA ∧ iv = .int .i64 (k : Int) ∧ Only (spanL w4.heap.size w5.heap.size) w7 wr ∧ ∃ L : List Int, L.length = lA ∧ IntsAt wr g7 a7 L) (fun iv _ => lA - (intOf iv).toNat)
  case atStart => exact ⟨0, Nat.zero_le _, rfl, Only.refl _ _, LA, HLA.out, R7.out⟩
  case round =>
    obtain ⟨k, hk, rfl, hON, L, hL, hI⟩ := hrel
    have HON := Lib.hid hON
    have HI := Lib.hid hI
    clear hON hI
    by_cases hlt : k < lA
    · have hd : decide ((k : Int) < (lA : Int)) = true := by simpa using hlt
      obtain ⟨e7, hl7, hc7, hf7⟩ := HI.out k (by rw [hL]; exact hlt)
      subst e7
      have hk0 : (0 : Int) ≤ (k : Int) := by omega
      have hkz : (k : Int) < (lA : Int) := by omega
      go_wp2
      go_roundw
      case rel => exact ⟨k + 1, by omega, by go_num, HON.out.trans (Only.set _ _ _ (mem_span.2 ⟨hg7, hg7b (by omega)⟩) _), L.set k 99, by rw [List.length_set]; exact hL, HI.out.setOwn k 99⟩
      case measure => simp [intOf]; omega
    have hd : decide ((k : Int) < (lA : Int)) = false := by simpa using hlt
    obtain ⟨wX, rfl⟩ : ∃ z : World, z = wr := ⟨_, rfl⟩
    have hng : ∀ g, g ∈ blks RM → g ∉ spanL w4.heap.size w5.heap.size := fun g hg hm => by have := (mem_span.1 hm).2; have := (HRM.out g hg).1; omega
    have hng2 : ∀ g, g ∈ blks RM → g ∉ spanL w5.heap.size b8 := fun g hg hm => by have := (mem_span.1 hm).2; have := (HRM.out g hg).1; omega
    have hng3 : ∀ g, g ∈ blks RM → wB.heap.size ≤ g := fun g hg => by have := (HRM.out g hg).1; omega
    have HNG2 := Lib.hid hng2
    have HNG3 := Lib.hid hng3
    replace T8 := Lib.hid (Two.ponly T8.out HON.out (fun hm => by have := (mem_span.1 hm).2; omega))
    replace R8 := Lib.hid (IntsAt.only R8.out HON.out (fun hm => by have := (mem_span.1 hm).2; omega))
    replace XM := Lib.hid (XM.out.only HON.out (fun h0 hm => by have := (mem_span.1 hm).2; have := hgM (by rw [← HM.out]; exact h0); omega) hng)
    replace HBB := Lib.hid (Only.pbelow HBB.out HON.out hB4)
    clear HON HI R7 hL hng hng2 hng3 HRM
    go_wp2
    go_loopw [12] (fun iv wr => ∃ k : Nat, k ≤ lD ∧ iv = .int .i64 (k : Int) ∧ Only (spanL w5.heap.size b8) wX wr ∧ ∃ L : List Int, L.length = lD ∧ IntsAt wr g8 a8 L) (fun iv _ => lD - (intOf iv).toNat)
    case atStart => exact ⟨0, Nat.zero_le _, rfl, Only.refl _ _, LD, HLD.out, R8.out⟩
    case round =>
      obtain ⟨k, hk, rfl, hON, L, hL, hI⟩ := hrel
      have HON := Lib.hid hON
      have HI := Lib.hid hI
      clear hON hI
      have HT8 := Lib.hid (Two.ponly T8.out HON.out (fun hm => by have := (mem_span.1 hm).2; omega))
      obtain ⟨t0, t1, t2, -, -⟩ := HT8.out
      by_cases hlt : k < lD
      · have hd : decide ((k : Int) < (lD : Int)) = true := by simpa using hlt
        obtain ⟨e8, hl8, hc8, hf8⟩ := HI.out k (by rw [hL]; exact hlt)
        subst e8
        have hk0 : (0 : Int) ≤ (k : Int) := by omega
        have hkz : (k : Int) < (lD : Int) := by omega
        go_wp2
        go_roundw
        case rel => exact ⟨k + 1, by omega, by go_num, HON.out.trans (Only.set _ _ _ (mem_span.2 ⟨hg8, hg8b (by omega)⟩) _), L.set k 99, by rw [List.length_set]; exact hL, HI.out.setOwn k 99⟩
        case measure => simp [intOf]; omega
      have hd : decide ((k : Int) < (lD : Int)) = false := by simpa using hlt
      obtain ⟨wY, rfl⟩ : ∃ z : World, z = wr := ⟨_, rfl⟩
      replace XM := Lib.hid (XM.out.only HON.out (fun h0 hm => by have := (mem_span.1 hm).2; have := hgM (by rw [← HM.out]; exact h0); omega) HNG2.out)
      replace HBB := Lib.hid (Only.pbelow HBB.out HON.out (by omega))
      go_wp2
      clear HON HI R8 hL HNG2 hlt hk t0 t1 t2 HT8 T8
      go_loopw [13] (fun iv wr => ∃ k : Nat, k ≤ m ∧ iv = .int .i64 (k : Int) ∧ Below wB.heap.size wB wr ∧ ∃ L : Lin.Mat, L.length = m ∧ (∀ i, i < m → (Lin.row L i).length ≤ 1099511627776) ∧ Mx wr gM aM RM L) (fun iv _ => m - (intOf iv).toNat)
      case atStart => exact ⟨0, Nat.zero_le _, rfl, HBB.out, M, HM.out, fun i hi => by have := offM_row M i (by rw [HM.out]; exact hi); have := FM.out.2; omega, XM.out⟩
      case round =>
        obtain ⟨k, hk, rfl, hB, L, hL, hR, hI⟩ := hrel
        have HBQ := Lib.hid hB
        have HI := Lib.hid hI
        have HR := Lib.hid hR
        clear hB hI hR
        by_cases hlt : k < m
        · have hd : decide ((k : Int) < (m : Int)) = true := by simpa using hlt
          have hk0 : (0 : Int) ≤ (k : Int) := by omega
          have hkz : (k : Int) < (m : Int) := by omega
          obtain ⟨n8, hn8⟩ : ∃ n, (Lin.row L k).length = n := ⟨_, rfl⟩
          have hn8L : n8 ≤ 1099511627776 := by rw [← hn8]; exact HR.out k hlt
          obtain ⟨hao, -, -, -⟩ := HI.out.out k (by rw [hL]; exact hlt)
          subst hao
          have hRk : k < RM.length := by rw [HI.out.len, hL]; exact hlt
          have hblk := HNG3.out _ (blk_mem hRk)
          go_wp2
          go_loopw [14] (fun iv wr => ∃ j : Nat, j ≤ n8 ∧ iv = .int .i64 (j : Int) ∧ Below wB.heap.size wB wr ∧ ∃ L : Lin.Mat, L.length = m ∧ (∀ i, i < m → (Lin.row L i).length ≤ 1099511627776) ∧ (Lin.row L k).length = n8 ∧ Mx wr gM (some ⟨gM, 0, none⟩) RM L) (fun iv _ => n8 - (intOf iv).toNat)
          case atStart => exact ⟨0, Nat.zero_le _, rfl, HBQ.out, L, hL, HR.out, hn8, HI.out⟩
          case round =>
            clear HBQ HI HR hL hn8
            obtain ⟨j, hj, rfl, hB, L, hL, hR, hn8, hI⟩ := hrel
            have HBQ := Lib.hid hB
            have HI := Lib.hid hI
            have HR := Lib.hid hR
            clear hB hI hR
            obtain ⟨-, -, hci, -⟩ := HI.out.out k (by rw [hL]; exact hlt)
            rw [hn8] at hci
            by_cases hjn : j < n8
            · have hdj : decide ((j : Int) < (n8 : Int)) = true := by simpa using hjn
              have hj0 : (0 : Int) ≤ (j : Int) := by omega
              have hjz : (j : Int) < (n8 : Int) := by omega
              have hx := HI.out.ent (i := k) (j := j) (by rw [hL]; exact hlt) (by rw [hn8]; exact hjn)
              have hf := HI.out.soft (i := k) (j := j) (by rw [hL]; exact hlt) (by rw [hn8]; exact hjn)
              have hrs : ∀ i, Lin.row (L.set k ((Lin.row L k).set j 99)) i = if i = k then (Lin.row L k).set j 99 else Lin.row L i := fun i => row_set L k i _ (by rw [hL]; exact hlt)
              have HRS := Lib.hid hrs
              clear hrs
              go_wp2
              go_roundw
              case rel =>
                refine ⟨j + 1, by omega, by go_num, HBQ.out.setCell hblk _, L.set k ((Lin.row L k).set j 99), by rw [List.length_set]; exact hL, fun i hi => ?_, ?_, HI.out.set (by rw [hL]; exact hlt) j 99⟩
                · rw [HRS.out]
                  by_cases e : i = k
                  · rw [if_pos e, List.length_set]; omega
                  · rw [if_neg e]; exact HR.out i hi
                · rw [HRS.out, if_pos rfl, List.length_set]; exact hn8
              case measure => simp [intOf]; omega
            · have hdj : decide ((j : Int) < (n8 : Int)) = false := by simpa using hjn
              go_wp2
              go_roundw
              case rel => exact ⟨k + 1, by omega, by go_num, HBQ.out, L, hL, HR.out, HI.out⟩
              case measure => simp [intOf]; omega
        have hd : decide ((k : Int) < (m : Int)) = false := by simpa using hlt
        obtain ⟨wZ, rfl⟩ : ∃ z : World, z = wr := ⟨_, rfl⟩
        replace HBB := Lib.hid HBQ.out
        clear HBQ HI HR XM HNG3 hL
        go_wp2_with fail
        refine (GO.out _ (I3.out.keeps HBB.out)).mono ?_
        rintro e wE ⟨v, rfl, hO, hb⟩
        obtain ⟨aA, cA, _, rfl, -, -, hrA, -⟩ := OwnInts.ata hO hb.size
        rw [HLA.out]
        replace HBB := Lib.hid (HBB.out.trans (hb.mono HBB.out.size))
        have IA := Lib.hid hrA.ints
        clear hO hb hrA GO
        obtain ⟨t0, t1, t2, -, -⟩ := Two.keeps T5.out HBB.out
        go_wp2_with fail
        refine (GD.out _ (I5.out.keeps HBB.out)).mono ?_
        rintro e wF ⟨v, rfl, hO, hb⟩
        obtain ⟨a16, c16, _, rfl, -, -, hr16, -⟩ := OwnInts.ata hO hb.size
        rw [HLD.out]
        have hba : Below wF.heap.size wF (wF.alloc (.cells #[.int .i64 ND, .slice a16 lD c16] 26)) := (Below.refl _ _).alloc (Nat.le_refl _) _
        replace HBB := Lib.hid ((HBB.out.trans (hb.mono HBB.out.size)).trans (hba.mono (Nat.le_trans HBB.out.size hb.size)))
        replace IA := Lib.hid ((IA.out.keeps hb).keeps hba)
        have I16 := Lib.hid (hr16.ints.keeps hba)
        have T16 := Lib.hid (Two.new wF (.int .i64 ND) (.slice a16 lD c16) 26)
        clear hO hb hr16 hba t0 t1 t2
        obtain ⟨t0, t1, t2, -, -⟩ := Two.keeps T5.out HBB.out
        go_wp2_with fail
        refine (GE.out _ (I5.out.keeps HBB.out)).mono ?_
        rintro e wG ⟨v, rfl, hO, hb⟩
        obtain ⟨a18, c18, _, rfl, -, -, hr18, -⟩ := OwnInts.ata hO hb.size
        rw [HLD.out]
        have hba : Below wG.heap.size wG (wG.alloc (.cells #[.int .i64 ND, .slice a18 lD c18] 26)) := (Below.refl _ _).alloc (Nat.le_refl _) _
        replace HBB := Lib.hid ((HBB.out.trans (hb.mono HBB.out.size)).trans (hba.mono (Nat.le_trans HBB.out.size hb.size)))
        replace IA := Lib.hid ((IA.out.keeps hb).keeps hba)
        replace I16 := Lib.hid ((I16.out.keeps hb).keeps hba)
        replace T16 := Lib.hid (Two.keeps (Two.keeps T16.out hb) hba)
        have I18 := Lib.hid (hr18.ints.keeps hba)
        have T18 := Lib.hid (Two.new wG (.int .i64 ND) (.slice a18 lD c18) 26)
        clear hO hb hr18 hba t0 t1 t2
        go_upto_region 28 with fail
        refine pure_r28 (Two.keeps T5.out HBB.out) T16.out T18.out (I3.out.keeps HBB.out) (I4.out.keeps HBB.out) (I5.out.keeps HBB.out) IA.out I16.out I18.out HL3.out HL5.out HLA.out HLD.out (by omega) (by omega) (by omega) (by omega) hc5 EL.out ET.out EM.out ?_
        intro v93 v94 v95 v96 v97 v98 v99 v100 v101 v102 v103 v104 v105 v106 v107 v108 v109 v110 v111 v112 v113 v114 v115 v116 v117 v118 v119 v120 v121 v122 v123 v124 v125 v126 v127 v128 v129 wH hb
        replace HBB := Lib.hid (HBB.out.trans (hb.mono HBB.out.size))
        go_wp2
        go_ret
        exact ⟨rfl, HBW.out.trans (HBB.out.mono HBW.out.size)⟩

end Go.Proofs.Ythjgpbcdcgagfaa
