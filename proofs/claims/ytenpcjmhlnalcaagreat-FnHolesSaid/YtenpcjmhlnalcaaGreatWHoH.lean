/-
  THE LAW ON HOLES: its helpers (written by genholelaw.py).
-/
import Derived.Test.YtenpcjmhlnalcaaGreatWHlI3
import Derived.Test.YtenpcjmhlnalcaaGreatJg41
import Derived.Test.YtenpcjmhlnalcaaGreatWHlD4
import Derived.Test.YtenpcjmhlnalcaaGreatWCntLaw1
import Derived.Test.YtenpcjmhlnalcaaGreatWJoinS4
import Derived.IntWalk
namespace Go.Proofs.YtenpcjmhlnalcaaGreat
open Go.RowKit
open Sets Lin Join Hom

theorem tsum_tot (F : List Int) : ∀ k, k ≤ F.length → tsumK F k = tot (F.take k)
  | 0, _ => by simp [tsumK, tot]
  | k + 1, h => by
    rw [tot_take F k (by omega), ← tsum_tot F k (by omega)]; rfl
theorem holZ_small (n : Int) (xs : List Int) (p : Int) (j : Nat) (h : j < (holZ n xs p).length) : 0 ≤ (holZ n xs p).getD j 0 ∧ (holZ n xs p).getD j 0 ≤ 64 := by
  refine ⟨holZ_pos n xs p j h, ?_⟩
  cases hp : primeB p with
  | false => rw [holZ_no hp] at h; exact absurd h (Nat.not_lt_zero _)
  | true =>
    rw [holZ_len n xs hp] at h
    rw [holZ_yes hp, holF_at _ _ _ _ h]
    have := cnt_le j (faces n xs)
    have := faces_le n xs
    omega
/-- What the law says of a list of holes that is not empty. -/
theorem hol_law {n : Int} {xs : List Int} {p : Int} (h : 0 < (holZ n xs p).length) : ssumK (holZ n xs p) (holZ n xs p).length = eul (faces n xs) ∧ (1 < (holZ n xs p).length → (holZ n xs p).getD 0 0 = 0 ∧ (holZ n xs p).getD 1 0 = partsZ n xs - 1) ∧ ((holZ n xs p).length = 1 → (holZ n xs p).getD 0 0 = 1) := by
  cases hp : primeB p with
  | false => rw [holZ_no hp] at h; exact absurd h (Nat.not_lt_zero _)
  | true =>
    have hC := isC_of_top (n := n) (xs := xs) (by rw [← holZ_len n xs hp]; exact h)
    have hP := primeH_P hp
    rw [holZ_holL hp hC] at h ⊢
    have hl := holL_length p.toNat n xs
    refine ⟨holL_signed hP hC, fun h1 => ?_, fun h1 => holL_empty hP hC (by rw [← hl]; exact h1)⟩
    rw [hl] at h1
    obtain ⟨e1, e2⟩ := holL_first hP hC h1
    exact ⟨e1, by rw [e2, partsZ_yes hC]⟩
theorem hol_cone {n : Int} {xs : List Int} {q : Int} (hc : conePts n xs ≠ 0) (hq : primeB q = true) : noneZ (holZ n xs q) = true := by
  obtain ⟨hC, hx, -⟩ := cone_apex hc
  rw [none_top _ (holZ_pos n xs q)]
  rw [← none_top _ (holZ_pos n xs q)]
  have h0 := tot_zero (holZ n xs q) (fun x hm => by rw [holZ_holL hq hC] at hm; exact holL_none (primeH_P hq) hc x hm)
  have hpos : 0 < (holZ n xs q).length := by
    rw [holZ_len n xs hq]
    cases xs with
    | nil => exact absurd rfl hx
    | cons f l =>
      rw [faces_ord hC]
      have hok := setB_ok (isC_set hC f (by simp))
      obtain ⟨t, rfl, ht⟩ := okZ_cast f hok
      have hm : ((t : Nat) : Int) ∈ ord (inF ((t : Int) :: l)) := (mem_ord _ _).2 ⟨t, rfl, ht, by simp [inF, sub]⟩
      have := top_ge _ _ hm
      omega
  unfold noneZ
  rw [decide_eq_true hpos, decide_eq_true h0]; rfl
theorem parts_small (n : Int) (xs : List Int) : 0 ≤ partsZ n xs ∧ partsZ n xs ≤ 7 := by
  unfold partsZ
  split
  · have h1 : partsN (inF xs) ≤ 6 := Nat.le_trans (List.length_filter_le _ _) (card_le6 _)
    omega
  · omega
theorem hoCI (n : Int) (a : Option Addr) (c l : Nat) (xs : List Int) (hl : xs.length = l) (hcap : l ≤ c) (hlen : l ≤ 1099511627776) (p z : Int) (hz : tot (holZ n xs p) = z) (w : World) (h : Ints w a xs) :
    Calls Tryz.prog 12 #[cx n (.slice a l c), .int .i64 p] w fun e w' => e = .returned (.int .i64 z) ∧ Below w.heap.size w w' := by
  subst hl hz; exact implCountH_any n a c xs hcap hlen p w h
theorem hoNI (n : Int) (a : Option Addr) (c l : Nat) (xs : List Int) (hl : xs.length = l) (hcap : l ≤ c) (hlen : l ≤ 1099511627776) (p : Int) (z : Bool) (hz : noneZ (holZ n xs p) = z) (w : World) (h : Ints w a xs) :
    Calls Tryz.prog 14 #[cx n (.slice a l c), .int .i64 p] w fun e w' => e = .returned (.bool z) ∧ Below w.heap.size w w' := by
  subst hl hz; exact implNoHoles_any n a c xs hcap hlen p w h
theorem hoNS (n : Int) (a : Option Addr) (c l : Nat) (xs : List Int) (hl : xs.length = l) (hcap : l ≤ c) (hlen : l ≤ 1099511627776) (p : Int) (z : Bool) (hz : noneZ (holZ n xs p) = z) (w : World) (h : Ints w a xs) :
    Calls Tryz.prog 15 #[cx n (.slice a l c), .int .i64 p] w fun e w' => e = .returned (.bool z) ∧ Below w.heap.size w w' := by
  subst hl hz; exact specNoHoles_all n a c xs hlen p w h
theorem hoPI (n : Int) (a : Option Addr) (c l : Nat) (xs : List Int) (hl : xs.length = l) (hcap : l ≤ c) (hlen : l ≤ 1099511627776) (p : Int) (z : Bool) (hz : sphereZ (holZ n xs p) = z) (w : World) (h : Ints w a xs) :
    Calls Tryz.prog 16 #[cx n (.slice a l c), .int .i64 p] w fun e w' => e = .returned (.bool z) ∧ Below w.heap.size w w' := by
  subst hl hz; exact implSphere_any n a c xs hcap hlen p w h
theorem hoPS (n : Int) (a : Option Addr) (c l : Nat) (xs : List Int) (hl : xs.length = l) (hcap : l ≤ c) (hlen : l ≤ 1099511627776) (p : Int) (z : Bool) (hz : sphereZ (holZ n xs p) = z) (w : World) (h : Ints w a xs) :
    Calls Tryz.prog 17 #[cx n (.slice a l c), .int .i64 p] w fun e w' => e = .returned (.bool z) ∧ Below w.heap.size w w' := by
  subst hl hz; exact specSphere_all n a c xs hlen p w h
theorem hoQI (n : Int) (a : Option Addr) (c l : Nat) (xs : List Int) (hl : xs.length = l) (hcap : l ≤ c) (hlen : l ≤ 1099511627776) (z : Int) (hz : partsZ n xs = z) (w : World) (h : Ints w a xs) :
    Calls Tryz.prog 18 #[cx n (.slice a l c)] w fun e w' => e = .returned (.int .i64 z) ∧ Below w.heap.size w w' := by
  subst hl hz; exact implParts_any n a c xs hcap hlen w h
theorem hoQS (n : Int) (a : Option Addr) (c l : Nat) (xs : List Int) (hl : xs.length = l) (hcap : l ≤ c) (hlen : l ≤ 1099511627776) (z : Int) (hz : partsZ n xs = z) (w : World) (h : Ints w a xs) :
    Calls Tryz.prog 19 #[cx n (.slice a l c)] w fun e w' => e = .returned (.int .i64 z) ∧ Below w.heap.size w w' := by
  subst hl hz; exact specParts_any n a c xs hlen w h
theorem hoEu (n : Int) (a : Option Addr) (c l : Nat) (xs : List Int) (hl : xs.length = l) (hcap : l ≤ c) (hlen : l ≤ 1099511627776) (z : Int) (hz : eul (faces n xs) = z) (w : World) (h : Ints w a xs) :
    Calls Tryz.prog 23 #[cx n (.slice a l c)] w fun e w' => e = .returned (.int .i64 z) ∧ Below w.heap.size w w' := by
  subst hl hz; exact specEuler_any n a c xs hlen w h
theorem hoCo (n : Int) (a : Option Addr) (c l : Nat) (xs : List Int) (hl : xs.length = l) (hcap : l ≤ c) (hlen : l ≤ 1099511627776) (z : Nat) (hz : conePts n xs = z) (w : World) (h : Ints w a xs) :
    Calls Tryz.prog 20 #[cx n (.slice a l c)] w fun e w' => e = .returned (.int .i64 (z : Int)) ∧ Below w.heap.size w w' := by
  subst hl hz; exact specPts_any n a c xs hlen w h
theorem hoSH (n : Int) (a : Option Addr) (c l : Nat) (xs : List Int) (hl : xs.length = l) (hlen : l ≤ 1099511627776) (p : Int) (L : List Int) (hL : holZ n xs p = L) (m : Nat) (hm : L.length = m) (w : World) (h : Ints w a xs) :
    Calls Tryz.prog 11 #[cx n (.slice a l c), .int .i64 p] w fun e w' => ∃ a' c', e = .returned (.slice a' m c') ∧ Ints w' a' L ∧ Below w.heap.size w w' := by
  subst hl hm hL
  refine (specHoles_all n a c xs hlen p w h).mono ?_
  rintro e w' ⟨v, rfl, hO, hb⟩
  obtain ⟨sa, sc, sg, rfl, _, _, hsp, _⟩ := OwnInts.ata hO hb.size
  exact ⟨_, _, rfl, hsp.ints, hb⟩
theorem hoIH (n : Int) (a : Option Addr) (c l : Nat) (xs : List Int) (hl : xs.length = l) (hcap : l ≤ c) (hlen : l ≤ 1099511627776) (p : Int) (L : List Int) (hL : holZ n xs p = L) (m : Nat) (hm : L.length = m) (w : World) (h : Ints w a xs) :
    Calls Tryz.prog 6 #[cx n (.slice a l c), .int .i64 p] w fun e w' => ∃ a' c' g', e = .returned (.slice a' m c') ∧ IntsAt w' g' a' L ∧ Below w.heap.size w w' := by
  subst hl hm hL
  refine (implHoles_any n a c xs hcap hlen p w h).mono ?_
  rintro e w' ⟨v, rfl, ⟨sa, sc, sg, rfl, _, _, hsp, _⟩, hb⟩
  exact ⟨_, _, _, rfl, hsp, hb⟩
theorem hoSame (a1 a2 : Option Addr) (c1 c2 l : Nat) (xs : List Int) (hl : xs.length = l) (hlen : l ≤ 1099511627776) (w : World) (h1 : Ints w a1 xs) (h2 : Ints w a2 xs) :
    Calls Tryz.prog 10 #[.slice a1 l c1, .slice a2 l c2] w fun e w' => e = .returned (.bool true) ∧ Below w.heap.size w w' := by
  subst hl; exact sameInt_any a1 a2 c1 c2 xs hlen w h1 h2
theorem hoTot (a : Option Addr) (c l : Nat) (F : List Int) (hl : F.length = l) (h7 : l ≤ 7) (hx : ∀ j, j < l → 0 ≤ F.getD j 0 ∧ F.getD j 0 ≤ 64) (z : Int) (hz : tot F = z) (w : World) (h : Ints w a F) :
    Calls Tryz.prog 13 #[.slice a l c] w fun e w' => e = .returned (.int .i64 z) ∧ Below w.heap.size w w' := by
  subst hl hz
  exact total_b a c F _ (by rw [tsum_tot F _ (Nat.le_refl _), List.take_length]) h7 hx w h
theorem hoSg (a : Option Addr) (c l : Nat) (F : List Int) (hl : F.length = l) (h7 : l ≤ 7) (hx : ∀ j, j < l → 0 ≤ F.getD j 0 ∧ F.getD j 0 ≤ 64) (z : Int) (hz : ssumK F F.length = z) (w : World) (h : Ints w a F) :
    Calls Tryz.prog 22 #[.slice a l c] w fun e w' => e = .returned (.int .i64 z) ∧ Below w.heap.size w w' := by
  subst hl
  exact signed_b a c F z hz h7 hx w h

/-- A region of a function's text. -/
def regAtO (n : Nat) : Go.Code → Option Go.Code
  | .region id ops d => if id = n then some (.region id ops d) else none
  | .seq a b => match regAtO n a with
    | some c => some c
    | none => regAtO n b
  | .cond _ a b => match regAtO n a with
    | some c => some c
    | none => regAtO n b
  | .block _ a => regAtO n a
  | .loop a => regAtO n a
  | _ => none

noncomputable def hoReg (n : Nat) : Go.Code := (Tryz.f3.body.bind (regAtO n)).getD .skip

end Go.Proofs.YtenpcjmhlnalcaaGreat
