/-
  TEXTS of one claim, put together: WMatI7, WMatI8, WMatS1, WMatS2.
-/
import Derived.Test.YtenpcjmhlnalcaaGreatWMatI6
import Derived.Test.YtenpcjmhlnalcaaGreatJg5
/-! WALKS of chapter 13 (impl): what lies below a pivot is cleared. -/

namespace Go.Proofs.YtenpcjmhlnalcaaGreat
open Go.RowKit

theorem slice_rows (go m co d : Nat) (hd : d < m) (hm : m ≤ co) (w : World) : (Instr.sliceAt 38 (.slice (some ⟨go, 0, none⟩) m co) (some (.int .i64 ((d : Int) + 1))) none none).run Tryz.prog w = .ok (.slice (some ⟨go, if co = d + 1 then 0 else d + 1, none⟩) (m - (d + 1)) (co - (d + 1))) w := by
  have h1 : ¬ (m < d + 1) := by omega
  have h2 : ¬ (co < m) := by omega
  have h3 : ((d : Int) + 1).toNat = d + 1 := by omega
  by_cases h : co = d + 1
  · have e : m = d + 1 := by omega
    subst h
    subst e
    rw [if_pos rfl]
    go_simp
    intro h
    exact absurd h (by omega)
  · rw [if_neg h]
    go_simp
    intro h
    exact absurd (h (by omega)) (by omega)

/-- The numbers while rows are cleared: all below d and ahead of i, and of the row i the first j. -/
def clrTo2 (p d c : Nat) (f : Nat → Nat → Int) (i j t s : Nat) : Int := if t < i ∨ (t = i ∧ s < j) then Lin.clrF p d c f t s else f t s
theorem clrTo2_start (p d c : Nat) (f : Nat → Nat → Int) (t s : Nat) : f t s = clrTo2 p d c f (d + 1) 0 t s := by
  unfold clrTo2
  split
  · unfold Lin.clrF; rw [if_neg (by omega)]
  · rfl
theorem clrTo2_end (p d c m : Nat) (f : Nat → Nat → Int) (t s : Nat) (ht : t < m) : clrTo2 p d c f m 0 t s = Lin.clrF p d c f t s := if_pos (.inl ht)
theorem clrTo2_row (p d c n : Nat) (f : Nat → Nat → Int) (i t s : Nat) (hs : s < n) : clrTo2 p d c f i n t s = clrTo2 p d c f (i + 1) 0 t s := by
  unfold clrTo2
  by_cases h : t < i + 1
  · rw [if_pos (by omega), if_pos (.inl h)]
  · rw [if_neg (by omega), if_neg (by omega)]
theorem clrTo2_same (p d c : Nat) (f : Nat → Nat → Int) (i j t s : Nat) (h : ¬(t = i ∧ s = j)) : clrTo2 p d c f i (j + 1) t s = clrTo2 p d c f i j t s := by
  unfold clrTo2
  by_cases h2 : t < i ∨ (t = i ∧ s < j)
  · rw [if_pos h2, if_pos (by omega)]
  · rw [if_neg h2, if_neg (by omega)]
theorem clrTo2_at (p d c : Nat) (f : Nat → Nat → Int) (i j : Nat) : clrTo2 p d c f i j i j = f i j := if_neg (by omega)
theorem clrTo2_piv (p d c : Nat) (f : Nat → Nat → Int) (i j s : Nat) : clrTo2 p d c f i j d s = f d s := by
  unfold clrTo2
  split
  · unfold Lin.clrF; rw [if_neg (by omega)]
  · rfl
theorem clrTo2_new (p d c : Nat) (f : Nat → Nat → Int) (i j : Nat) (h : d < i) : clrTo2 p d c f i (j + 1) i j = (f i j - f i c * Lin.inv p (f d c) % (p : Int) * f d j) % (p : Int) := by
  unfold clrTo2
  rw [if_pos (by omega)]
  unfold Lin.clrF
  rw [if_pos h]

set_option maxRecDepth 100000 in
set_option maxHeartbeats 4000000 in
theorem clear_any (p : Nat) (hp : p = 2 ∨ p = 3 ∨ p = 5) {base P go co : Nat} {R : List (Nat × Nat)} {m n d c : Nat} {f : Nat → Nat → Int} (hd : d < m) (hc : c < n) (hm : m ≤ 1000) (hn : n ≤ 1000) (hmc : m ≤ co) (hf : ∀ t s, t < m → s < n → -1000 ≤ f t s ∧ f t s ≤ 1000) (w : World) (h : MB w base P go co R m n f) :
    Calls Tryz.prog 70 #[.pointer (some ⟨P, 0, none⟩), .int .i64 (d : Int), .int .i64 (c : Int), .int .i64 (p : Int)] w fun e w' => e = .returned (.tuple #[]) ∧ MB w' base P go co R m n (Lin.clrF p d c f) ∧ Below base w w' := by
  have H := Lib.hid h
  have HF := Lib.hid hf
  have hp5 : p ≤ 5 := by omega
  have hp1 : 1 < p := by omega
  have hcP := h.cell
  obtain ⟨hcd, -⟩ := h.row hd
  obtain ⟨hx, -⟩ := h.num hd hc
  have HINV := Lib.hid (fun W => implInverse_any (f d c) p hp W)
  have hib := inv_le p (f d c)
  have HSB := Lib.hid (fun W => slice_rows go m co d hd hmc W)
  obtain ⟨b, hb⟩ : ∃ b, Lin.inv p (f d c) = b := ⟨_, rfl⟩
  have HB := Lib.hid hb
  rw [hb] at HINV hib
  obtain ⟨x, hxx⟩ : ∃ x, f d c = x := ⟨_, rfl⟩
  rw [hxx] at hx HINV
  obtain ⟨o, ho⟩ : ∃ o, (if co = d + 1 then 0 else d + 1) = o := ⟨_, rfl⟩
  have HO : Hid (d + 1 < m → o = d + 1) := by
    have : d + 1 < m → o = d + 1 := fun h => by rw [← ho, if_neg (by omega)]
    exact this
  obtain ⟨l, hl⟩ : ∃ l, m - (d + 1) = l := ⟨_, rfl⟩
  obtain ⟨lc, hlc⟩ : ∃ l, co - (d + 1) = l := ⟨_, rfl⟩
  have HL : Hid (l + (d + 1) = m) := by
    have : l + (d + 1) = m := by omega
    exact this
  have hlm : l ≤ 1000 := by omega
  have hsb := HSB.out
  simp only [ho, hl, hlc] at hsb
  clear h hf hp hb hxx ho hl hlc HSB
  go_enter Tryz.func70, Tryz.ntmps70
  go_wp2_with fail
  refine (HINV.out _).mono ?_
  rintro e w1 ⟨rfl, rfl⟩
  go_wp2
  clear hx hcd
  go_loopw [34] (fun i wr => ∃ k : Nat, k ≤ l ∧ i = .int .i64 (k : Int) ∧ MB wr base P go co R m n (clrTo2 p d c f (d + 1 + k) 0) ∧ Below base w wr) (fun i _ => l - (intOf i).toNat)
  case atStart => exact ⟨0, Nat.zero_le _, rfl, H.out.congr fun t s _ _ => clrTo2_start p d c f t s, Below.refl _ _⟩
  case round =>
    clear hcP
    obtain ⟨k, hk, rfl, hX, hB⟩ := hrel
    have HX := Lib.hid hX
    have HBB := Lib.hid hB
    clear hX hB
    have hcP := HX.out.cell
    by_cases hlt : k < l
    · have hdk : decide ((k : Int) < (l : Int)) = true := by simpa using hlt
      obtain ⟨i, hi⟩ : ∃ i, d + 1 + k = i := ⟨_, rfl⟩
      have him : i < m := by have := HL.out; omega
      have hdi : d < i := by omega
      have HI : Hid (o + k = i) := by
        have : o + k = i := by rw [HO.out (by omega)]; exact hi
        exact this
      have HI2 := Lib.hid hi
      rw [hi] at HX
      clear hi
      obtain ⟨hci, -⟩ := HX.out.row him
      obtain ⟨hcd, -⟩ := HX.out.row hd
      obtain ⟨hy, -⟩ := HX.out.num him hc
      have hbi := HF.out i c him hc
      have HNW := Lib.hid (fun j => clrTo2_new p d c f i j hdi)
      rw [HB.out] at HNW
      have hyv : clrTo2 p d c f i 0 i c = f i c := if_neg (by omega)
      rw [hyv] at hy
      obtain ⟨y, hyy⟩ : ∃ y, f i c = y := ⟨_, rfl⟩
      rw [hyy] at hy hbi HNW
      have hm1 : -5000 ≤ y * b ∧ y * b ≤ 5000 := by
        obtain ⟨b1, b2⟩ := hib
        have : b = 0 ∨ b = 1 ∨ b = 2 ∨ b = 3 ∨ b = 4 ∨ b = 5 := by omega
        rcases this with e | e | e | e | e | e <;> rw [e] <;> omega
      have HRM := Lib.hid (fun W => remainder_any (y * b) p hp1 (by omega) W)
      obtain ⟨q, hq⟩ : ∃ q, y * b % (p : Int) = q := ⟨_, rfl⟩
      have hq0 := Int.emod_nonneg (y * b) (by omega : (p : Int) ≠ 0)
      have hq1 := Int.emod_lt_of_pos (y * b) (by omega : (0 : Int) < p)
      rw [hq] at hq0 hq1
      simp only [hq] at HRM HNW
      have hci2 : wr.cell? ⟨go, o + k, none⟩ = some (.slice (some ⟨blk R i, 0, none⟩) n (room R i)) := by rw [HI.out]; exact hci
      obtain ⟨Bi, hBi⟩ : ∃ V, blk R i = V := ⟨_, rfl⟩
      obtain ⟨Bd, hBd⟩ : ∃ V, blk R d = V := ⟨_, rfl⟩
      obtain ⟨Ci, hCi⟩ : ∃ V, room R i = V := ⟨_, rfl⟩
      obtain ⟨Cd, hCd⟩ : ∃ V, room R d = V := ⟨_, rfl⟩
      have HBI := Lib.hid hBi
      have HBD := Lib.hid hBd
      rw [hBi] at hy
      rw [hBi, hCi] at hci2
      rw [hBd, hCd] at hcd
      clear hci hyv hyy hq hBi hBd hCi hCd
      go_wp2_with fail
      refine (HRM.out _).mono ?_
      rintro e w2 ⟨rfl, rfl⟩
      go_wp2
      go_loopw [54] (fun z wr => ∃ j : Nat, j ≤ n ∧ z = .int .i64 (j : Int) ∧ MB wr base P go co R m n (clrTo2 p d c f i j) ∧ Below base w wr) (fun z _ => n - (intOf z).toNat)
      case atStart => exact ⟨0, Nat.zero_le _, rfl, HX.out, HBB.out⟩
      case round =>
        clear hcP hci2 hcd hy HX HBB
        obtain ⟨j, hj, rfl, hX, hB⟩ := hrel
        have HX := Lib.hid hX
        have HBB := Lib.hid hB
        clear hX hB
        by_cases hlj : j < n
        · have hdj : decide ((j : Int) < (n : Int)) = true := by simpa using hlj
          obtain ⟨hu, hfu⟩ := HX.out.num him hlj
          obtain ⟨hv, -⟩ := HX.out.num hd hlj
          rw [clrTo2_at] at hu
          rw [clrTo2_piv p d c f i j j] at hv
          have hbu := HF.out i j him hlj
          have hbv := HF.out d j hd hlj
          have hnew := HNW.out j
          have hX2 := HX.out.setF him hlj _ (clrTo2 p d c f i (j + 1)) rfl fun t s _ _ hne => clrTo2_same p d c f i j t s hne
          have hB2 := HBB.out.setCell (p := ⟨blk R i, j, none⟩) (HX.out.low_row him) (.int .i64 (clrTo2 p d c f i (j + 1) i j))
          rw [hnew] at hX2 hB2
          rw [HBI.out] at hu hfu hX2 hB2
          rw [HBD.out] at hv
          obtain ⟨u, huu⟩ : ∃ u, f i j = u := ⟨_, rfl⟩
          obtain ⟨v, hvv⟩ : ∃ u, f d j = u := ⟨_, rfl⟩
          rw [huu] at hu hbu hX2 hB2
          rw [hvv] at hv hbv hX2 hB2
          have hm2 : -5000 ≤ q * v ∧ q * v ≤ 5000 := by
            have : q = 0 ∨ q = 1 ∨ q = 2 ∨ q = 3 ∨ q = 4 := by omega
            rcases this with e | e | e | e | e <;> rw [e] <;> omega
          have HX2 := Lib.hid hX2
          have HB2 := Lib.hid hB2
          have HRM2 := Lib.hid (fun W => remainder_any (u - q * v) p hp1 (by omega) W)
          obtain ⟨z, hz⟩ : ∃ z, (u - q * v) % (p : Int) = z := ⟨_, rfl⟩
          rw [hz] at HX2 HB2
          simp only [hz] at HRM2
          clear hX2 hB2 hnew huu hvv hz
          go_wp2_with fail
          refine (HRM2.out _).mono ?_
          rintro e w2 ⟨rfl, rfl⟩
          go_wp2
          go_roundw
          case rel => exact ⟨j + 1, by omega, by go_num, HX2.out, HB2.out⟩
          case measure => simp [intOf]; omega
        · have hdj : decide ((j : Int) < (n : Int)) = false := by simpa using hlj
          have HX2 : Hid (MB wr base P go co R m n (clrTo2 p d c f (d + 1 + (k + 1)) 0)) := by
            have : MB wr base P go co R m n (clrTo2 p d c f (d + 1 + (k + 1)) 0) := by
              rw [show d + 1 + (k + 1) = i + 1 by have := HI2.out; omega]
              have hjn : j = n := by omega
              subst hjn
              exact HX.out.congr fun t s _ hs => clrTo2_row p d c j f i t s hs
            exact this
          go_wp2
          go_roundw
          case rel => exact ⟨k + 1, by omega, by go_num, HX2.out, HBB.out⟩
          case measure => simp [intOf]; omega
    · have hdk : decide ((k : Int) < (l : Int)) = false := by simpa using hlt
      have HX2 : Hid (MB wr base P go co R m n (Lin.clrF p d c f)) := by
        have : MB wr base P go co R m n (Lin.clrF p d c f) := by
          have h := HX.out
          rw [show d + 1 + k = m by have := HL.out; omega] at h
          exact h.congr fun t s ht _ => clrTo2_end p d c m f t s ht
        exact this
      go_wp2
      (try simp only [Exit.inBlock, Exit.then])
      refine bodyPost_end (results_none rfl _ _ _) rfl ?_
      exact ⟨rfl, HX2.out, HBB.out⟩

end Go.Proofs.YtenpcjmhlnalcaaGreat

/-! WALKS of chapter 13 (impl): the rank of a matrix. -/

namespace Go.Proofs.YtenpcjmhlnalcaaGreat
open Go.RowKit

theorem wid_pos {M : Lin.Mat} (h : 0 < Lin.wid M) : 0 < M.length := by
  rcases Nat.eq_zero_or_pos M.length with e | e
  · rw [List.eq_nil_of_length_eq_zero e] at h; exact absurd h (by decide)
  · exact e
theorem rank_zero (p : Nat) (M : Lin.Mat) : Lin.rank p M 0 = 0 := rfl

set_option maxRecDepth 100000 in
set_option maxHeartbeats 4000000 in
theorem rankMod_any (p : Nat) (hp : p = 2 ∨ p = 3 ∨ p = 5) {base P : Nat} {v : Value} {R : List (Nat × Nat)} {M : Lin.Mat} (hr : rectB M = true) (hm : M.length ≤ 1000) (hn : Lin.wid M ≤ 1000) (hb : ∀ t s, t < M.length → s < Lin.wid M → -1000 ≤ Lin.ent M t s ∧ Lin.ent M t s ≤ 1000) (w : World) (h : MP w base P v R M) :
    Calls Tryz.prog 46 #[.pointer (some ⟨P, 0, none⟩), .int .i64 (p : Int)] w fun e w' => e = .returned (.int .i64 (Lin.rank p M (Lin.wid M) : Int)) ∧ Below base w w' := by
  by_cases h0 : Lin.wid M = 0
  · have HW := Lib.hid (width_any w h)
    rw [h0] at HW ⊢
    rw [rank_zero]
    clear h hr hb h0
    go_enter Tryz.func46, Tryz.ntmps46
    go_wp2_with fail
    refine HW.out.mono ?_
    rintro e w1 ⟨rfl, rfl⟩
    go_wp2
    go_loopw [5, 9] (fun r i wr => r = .int .i64 0 ∧ i = .int .i64 0 ∧ wr = w) (fun _ _ _ => 0)
    case atStart => exact ⟨rfl, rfl, rfl⟩
    case round =>
      obtain ⟨rfl, rfl, rfl⟩ := hrel
      go_wp2
      go_ret
      exact ⟨rfl, Below.refl _ _⟩
  · have hm0 : 0 < M.length := wid_pos (by omega)
    have hM : M = matF M.length (Lin.wid M) (Lin.ent M) := rect_F (rect_at hr)
    have hE := Lin.Elim.start (p := p) (by omega) rfl (rect_mem hr) hb
    obtain ⟨go, co, hmc, hB⟩ := MP.toB (hM ▸ h) hm0
    have HD := Lib.hid (fun (d : Nat) (f : Nat → Nat → Int) (h : Lin.Elim p M M.length (Lin.wid M) (Lin.wid M) d f) => h.done)
    have HP := Lib.hid hp
    have hp1 : 1 < p := by omega
    have hp5 : p ≤ 5 := by omega
    obtain ⟨m, hmm⟩ : ∃ m, M.length = m := ⟨_, rfl⟩
    obtain ⟨n, hnn⟩ : ∃ m, Lin.wid M = m := ⟨_, rfl⟩
    rw [hmm, hnn] at hE hB HD
    rw [hmm] at hm hmc hm0
    rw [hnn] at hn ⊢
    have HW := Lib.hid (widthB_any w hm0 hB)
    have HE := Lib.hid hE
    have HB := Lib.hid hB
    obtain ⟨r, hrk⟩ : ∃ r, Lin.rank p M n = r := ⟨_, rfl⟩
    rw [hrk] at HD ⊢
    clear h hr hb h0 hM hE hB hmm hnn hrk hp
    go_enter Tryz.func46, Tryz.ntmps46
    go_wp2_with fail
    refine HW.out.mono ?_
    rintro e w1 ⟨rfl, rfl⟩
    go_wp2
    go_loopw [5, 9] (fun r i wr => ∃ (j d : Nat) (f : Nat → Nat → Int) (R : List (Nat × Nat)), j ≤ n ∧ d ≤ m ∧ r = .int .i64 (d : Int) ∧ i = .int .i64 (j : Int) ∧ MB wr base P go co R m n f ∧ Hid (Lin.Elim p M m n j d f) ∧ Below base w wr) (fun _ i _ => n - (intOf i).toNat)
    case atStart => exact ⟨0, 0, _, R, Nat.zero_le _, Nat.zero_le _, rfl, rfl, HB.out, HE, Below.refl _ _⟩
    case round =>
      clear HB HE HW
      obtain ⟨j, d, f, R, hj, hd, rfl, rfl, hB, HE, hBW⟩ := hrel
      have HB := Lib.hid hB
      have HBW := Lib.hid hBW
      clear hB hBW
      by_cases hlt : j < n
      · have hdj : decide ((j : Int) < (n : Int)) = true := by simpa using hlt
        have HRS := Lib.hid (raise_any p hp1 hd hlt (by omega) wr HB.out)
        go_wp2_with fail
        refine HRS.out.mono ?_
        rintro e w2 (⟨a, ha, ham, hz, hne, rfl, hB2, hb2⟩ | ⟨hz, rfl, rfl⟩)
        · have HB2 := Lib.hid hB2
          have HBW2 := Lib.hid (HBW.out.trans hb2)
          have HE2 : Hid (Lin.Elim p M m n (j + 1) (d + 1) (Lin.clrF p d j (Lin.swpF d a f))) := HE.out.hit hp1 hp5 hlt ha ham hz hne
          have hbd : ∀ t s, t < m → s < n → -1000 ≤ Lin.swpF d a f t s ∧ Lin.swpF d a f t s ≤ 1000 := fun t s ht hs => by
            unfold Lin.swpF
            exact HE.out.2.1 _ s (by split <;> (try split) <;> omega) hs
          have HCL := Lib.hid (clear_any p HP.out (d := d) (c := j) (by omega) hlt hm hn hmc hbd w2 hB2)
          have hdm : d < m := by omega
          clear hB2 hb2 hz hne hbd
          go_wp2_with fail
          refine HCL.out.mono ?_
          rintro e w3 ⟨rfl, hB3, hb3⟩
          have HB3 := Lib.hid hB3
          have HBW3 := Lib.hid (HBW2.out.trans hb3)
          clear hB3 hb3
          go_wp2
          go_roundw
          case rel => exact ⟨j + 1, d + 1, _, _, by omega, by omega, by go_num, by go_num, HB3.out, HE2, HBW3.out⟩
          case measure => simp [intOf]; omega
        · have HE2 : Hid (Lin.Elim p M m n (j + 1) d f) := HE.out.miss hlt hz
          clear hz
          go_wp2
          go_roundw
          case rel => exact ⟨j + 1, d, f, R, by omega, hd, rfl, by go_num, HB.out, HE2, HBW.out⟩
          case measure => simp [intOf]; omega
      · have hdj : decide ((j : Int) < (n : Int)) = false := by simpa using hlt
        have HR : Hid (r = d) := by
          have : r = d := by
            have h := HE.out
            rw [show j = n by omega] at h
            exact HD.out d f h
          exact this
        go_wp2
        go_ret
        exact ⟨by rw [HR.out]; rfl, HBW.out⟩

theorem small_at {M : Lin.Mat} (hr : rectB M = true) (hs : smallB M = true) : M.length ≤ 30 ∧ Lin.wid M ≤ 30 ∧ ∀ t s, t < M.length → s < Lin.wid M → -1000 ≤ Lin.ent M t s ∧ Lin.ent M t s ≤ 1000 := by
  unfold smallB at hs
  rw [Bool.and_eq_true, Bool.and_eq_true, decide_eq_true_eq, decide_eq_true_eq] at hs
  obtain ⟨h1, h2, h3⟩ := hs
  refine ⟨h1, h2, fun t s ht hsn => ?_⟩
  have h4 : (M.any fun r => r.any farB) = false := by simpa using h3
  rw [List.any_eq_false] at h4
  have h5 := h4 _ (Lin.row_mem ht)
  have hl : s < (Lin.row M t).length := by rw [rect_at hr t ht]; exact hsn
  have h6 : (Lin.row M t).any farB = false := by simpa using h5
  rw [List.any_eq_false] at h6
  have h7 := h6 _ (List.getElem_mem hl)
  have e : Lin.ent M t s = (Lin.row M t)[s] := by unfold Lin.ent; simp [List.getD, List.getElem?_eq_getElem hl]
  rw [e]
  unfold farB at h7
  simp only [decide_eq_true_eq] at h7
  omega
/-- The rank, or -1 where there is none. -/
def rankZ (M : Lin.Mat) (p : Int) : Int := if fitB M = true ∧ primeB p = true then (Lin.rank p.toNat M (Lin.wid M) : Int) else -1

set_option maxRecDepth 100000 in
set_option maxHeartbeats 4000000 in
theorem implRank_any (p : Int) (go : Nat) (ao : Option Addr) (co : Nat) (R0 : List (Nat × Nat)) (M : Lin.Mat) (hlen : M.length ≤ 1099511627776) (hrow : ∀ i, i < M.length → (Lin.row M i).length ≤ 1099511627776) (w : World) (h : Mx w go ao R0 M) :
    Calls Tryz.prog 28 #[.slice ao M.length co, .int .i64 p] w fun e w' => e = .returned (.int .i64 (rankZ M p)) ∧ Below w.heap.size w w' := by
  have HC := Lib.hid (readSmall_any go ao co R0 M hlen hrow w h)
  have HRK := Lib.hid (fun (q : Nat) (hq : q = 2 ∨ q = 3 ∨ q = 5) (hf : fitB M = true) (P : Nat) (v : Value) (R : List (Nat × Nat)) (W : World) (hM : MP W w.heap.size P v R M) => by
    have hf2 := hf
    unfold fitB at hf2
    rw [Bool.and_eq_true] at hf2
    obtain ⟨h1, h2, h3⟩ := small_at hf2.1 hf2.2
    exact rankMod_any q hq hf2.1 (by omega) (by omega) h3 W hM)
  have HNO : Hid ((fitB M = false ∨ primeB p = false) → rankZ M p = -1) := by
    have : (fitB M = false ∨ primeB p = false) → rankZ M p = -1 := fun h => if_neg (by
      rintro ⟨a, b⟩
      rcases h with h | h
      · rw [a] at h; cases h
      · rw [b] at h; cases h)
    exact this
  have HYES : Hid (fitB M = true → primeB p = true → rankZ M p = (Lin.rank p.toNat M (Lin.wid M) : Int)) := by
    have : fitB M = true → primeB p = true → rankZ M p = (Lin.rank p.toNat M (Lin.wid M) : Int) := fun a b => if_pos ⟨a, b⟩
    exact this
  clear h hrow
  obtain ⟨z, hz⟩ : ∃ z, rankZ M p = z := ⟨_, rfl⟩
  rw [hz] at HNO HYES ⊢
  clear hz
  go_enter Tryz.func28, Tryz.ntmps28
  go_wp2_with fail
  refine HC.out.mono ?_
  rintro e w1 ⟨⟨hf, P, v, R, rfl, hM⟩ | ⟨hf, rfl⟩, hb1⟩
  · have HM := Lib.hid hM
    have HB1 := Lib.hid hb1
    have HF := Lib.hid hf
    clear hM hb1 hf
    go_wp2_with fail
    refine (implPrime_any _ _).mono ?_
    rintro e w2 ⟨rfl, rfl⟩
    cases hpb : primeB p with
    | false =>
      have E := Lib.hid (HNO.out (.inr hpb))
      clear hpb
      go_wp2
      go_ret
      exact ⟨by rw [E.out]; rfl, HB1.out⟩
    | true =>
      obtain ⟨q1, q2⟩ := prime_nat hpb
      have E := Lib.hid (HYES.out HF.out hpb)
      have HK := Lib.hid (HRK.out p.toNat q1 HF.out P v R w1 HM.out)
      rw [← q2] at HK
      clear hpb q1 q2
      go_wp2_with fail
      refine HK.out.mono ?_
      rintro e w3 ⟨rfl, hb3⟩
      have HB3 := Lib.hid (HB1.out.trans hb3)
      clear hb3
      go_wp2
      go_ret
      exact ⟨by rw [E.out]; rfl, HB3.out⟩
  · have HB1 := Lib.hid hb1
    have E := Lib.hid (HNO.out (.inl hf))
    clear hb1 hf
    go_wp2
    go_ret
    exact ⟨by rw [E.out]; rfl, HB1.out⟩

end Go.Proofs.YtenpcjmhlnalcaaGreat

/-! WALKS of chapter 13 (spec): what matrices keep to; ranks. -/

namespace Go.Proofs.YtenpcjmhlnalcaaGreat
open Go.RowKit
open Sets

theorem fit_no_row {M : Lin.Mat} {k : Nat} (hk : k < M.length) (h : (Lin.row M k).length ≠ Lin.wid M) : fitB M = false := by unfold fitB; rw [rect_no hk h]; rfl
theorem fit_no_wide {M : Lin.Mat} (h : 30 < Lin.wid M) : fitB M = false := by
  unfold fitB smallB
  rw [decide_eq_false (by omega : ¬Lin.wid M ≤ 30), Bool.false_and, Bool.and_false, Bool.and_false]
theorem fit_no_num {M : Lin.Mat} {i j : Nat} (hi : i < M.length) (hj : j < (Lin.row M i).length) (h : farB (Lin.ent M i j) = true) : fitB M = false := by
  have e : (M.any fun r => r.any farB) = true := by
    rw [List.any_eq_true]
    refine ⟨_, Lin.row_mem hi, ?_⟩
    rw [List.any_eq_true]
    refine ⟨_, List.getElem_mem hj, ?_⟩
    unfold Lin.ent at h
    rw [List.getD, List.getElem?_eq_getElem hj] at h
    exact h
  unfold fitB smallB
  rw [e, Bool.not_true, Bool.and_false, Bool.and_false, Bool.and_false]
theorem fit_all {M : Lin.Mat} (h1 : ∀ i, i < M.length → (Lin.row M i).length = Lin.wid M) (h2 : 0 < M.length → Lin.wid M ≤ 30) (h3 : ∀ i j, i < M.length → j < Lin.wid M → farB (Lin.ent M i j) = false) : fitB M = decide (M.length ≤ 30) := by
  have e : (M.any fun r => r.any farB) = false := by
    rw [List.any_eq_false]
    intro r hr
    obtain ⟨i, hi, rfl⟩ := Lin.mem_row hr
    have : (Lin.row M i).any farB = false := by
      rw [List.any_eq_false]
      intro x hx
      obtain ⟨j, hj, rfl⟩ := List.getElem_of_mem hx
      have := h3 i j hi (by rw [← h1 i hi]; exact hj)
      unfold Lin.ent at this
      rw [List.getD, List.getElem?_eq_getElem hj] at this
      simpa using this
    rw [this]; simp
  have hw : Lin.wid M ≤ 30 := by
    rcases Nat.eq_zero_or_pos M.length with h | h
    · rw [List.eq_nil_of_length_eq_zero h]; decide
    · exact h2 h
  unfold fitB smallB
  rw [rect_yes h1, e, decide_eq_true hw]
  simp
theorem far_in (x : Int) : inB (-1000) 1000 x = !farB x := by
  unfold farB inB
  by_cases h : x < -1000 ∨ 1000 < x
  · rw [decide_eq_true h, decide_eq_false (by omega)]; rfl
  · rw [decide_eq_false h, decide_eq_true (by omega)]; rfl

set_option maxRecDepth 100000 in
set_option maxHeartbeats 2000000 in
theorem l13RankMx_any (p : Nat) (hp : p = 2 ∨ p = 3 ∨ p = 5) (M : Lin.Mat) (n : Nat) (hw : ∀ r ∈ M, r.length = n) (hm : M.length ≤ 1000) (hn : n ≤ 1000) (gm : Nat) (am : Option Addr) (cm : Nat) (Rm : List (Nat × Nat)) (w : World) (h : Mx w gm am Rm M) :
    Calls Tryz.prog 35 #[.slice am M.length cm, .int .i64 (p : Int)] w fun e w' => e = .returned (.int .i64 (Lin.rank p M n : Int)) ∧ Below w.heap.size w w' := by
  have HR := Lib.hid (l13Reduce_any p hp M n hw hm hn gm am cm Rm w h)
  obtain ⟨P, hP⟩ : ∃ P, (Lin.reduce p M n).2 = P := ⟨_, rfl⟩
  have HE : Hid (Lin.rank p M n = P.length) := by
    have : Lin.rank p M n = P.length := by unfold Lin.rank; rw [hP]
    exact this
  simp only [hP] at HR
  obtain ⟨l, hl⟩ : ∃ l, M.length = l := ⟨_, rfl⟩
  simp only [hl] at HR
  rw [hl]
  obtain ⟨r, hr⟩ : ∃ r, Lin.rank p M n = r := ⟨_, rfl⟩
  rw [hr] at HE ⊢
  clear h hw hP hl hr hp hm hn
  go_enter Tryz.func35, Tryz.ntmps35
  go_wp2_with fail
  refine HR.out.mono ?_
  rintro e w1 ⟨ao, co, go, R, u, rfl, -, -, hO, hb1⟩
  obtain ⟨ap, cp, gp, rfl, -, -⟩ := hO.at
  have HB1 := Lib.hid hb1
  have hil : (ints P).length = P.length := by simp [ints]
  rw [hil]
  obtain ⟨z, hz⟩ : ∃ z, P.length = z := ⟨_, rfl⟩
  rw [hz] at HE ⊢
  clear hO hb1 hil hz
  go_wp2
  go_ret
  exact ⟨by rw [HE.out]; rfl, HB1.out⟩

end Go.Proofs.YtenpcjmhlnalcaaGreat

/-! WALKS of chapter 13 (spec): a matrix turned. -/

namespace Go.Proofs.YtenpcjmhlnalcaaGreat
open Go.RowKit

def colTo (M : Lin.Mat) (j k : Nat) : List Int := (List.range k).map fun i => Lin.ent M i j
theorem colTo_length (M : Lin.Mat) (j k : Nat) : (colTo M j k).length = k := by simp [colTo]
theorem colTo_next (M : Lin.Mat) (j k : Nat) : colTo M j (k + 1) = colTo M j k ++ [Lin.ent M k j] := by unfold colTo; rw [List.range_succ, List.map_append]; rfl
theorem turnM_next (M : Lin.Mat) (j : Nat) : Lin.turnM (j + 1) M = Lin.turnM j M ++ [colTo M j M.length] := by unfold Lin.turnM colTo; rw [List.range_succ, List.map_append]; rfl

end Go.Proofs.YtenpcjmhlnalcaaGreat
