/-
  TEXTS of one claim, put together: WMatI7, WMatI8, WMatS1, WMatS2.
-/
import Derived.Test.YthjgpbcdcgagfaaWMatI6
import Derived.Test.YthjgpbcdcgagfaaJg5
/-! WALKS of chapter 13 (impl): what lies below a pivot is cleared. -/

namespace Go.Proofs.Ythjgpbcdcgagfaa
open Go.RowKit

theorem slice_rows (go m co d : Nat) (hd : d < m) (hm : m ≤ co) (w : World) : (Instr.sliceAt 29 (.slice (some ⟨go, 0, none⟩) m co) (some (.int .i64 ((d : Int) + 1))) none none).run Try.prog w = .ok (.slice (some ⟨go, if co = d + 1 then 0 else d + 1, none⟩) (m - (d + 1)) (co - (d + 1))) w := by
  have h1 : ¬ (m < d + 1) := by omega
  have h2 : ¬ (co < m) := by omega
  have h3 : ((d : Int) + 1).toNat = d + 1 := by omega
  by_cases h : co = d + 1
  · have e : m = d + 1 := by omega
    subst h
    subst e
    rw [if_pos rfl]
    go_simp
    intro h
    exact absurd h (by omega)
  · rw [if_neg h]
    go_simp
    intro h
    exact absurd (h (by omega)) (by omega)

/-- The numbers while rows are cleared: all below d and ahead of i, and of the row i the first j. -/
def clrTo2 (p d c : Nat) (f : Nat → Nat → Int) (i j t s : Nat) : Int := if t < i ∨ (t = i ∧ s < j) then Lin.clrF p d c f t s else f t s
theorem clrTo2_start (p d c : Nat) (f : Nat → Nat → Int) (t s : Nat) : f t s = clrTo2 p d c f (d + 1) 0 t s := by
  unfold clrTo2
  split
  · unfold Lin.clrF; rw [if_neg (by omega)]
  · rfl
theorem clrTo2_end (p d c m : Nat) (f : Nat → Nat → Int) (t s : Nat) (ht : t < m) : clrTo2 p d c f m 0 t s = Lin.clrF p d c f t s := if_pos (.inl ht)
theorem clrTo2_row (p d c n : Nat) (f : Nat → Nat → Int) (i t s : Nat) (hs : s < n) : clrTo2 p d c f i n t s = clrTo2 p d c f (i + 1) 0 t s := by
  unfold clrTo2
  by_cases h : t < i + 1
  · rw [if_pos (by omega), if_pos (.inl h)]
  · rw [if_neg (by omega), if_neg (by omega)]
theorem clrTo2_same (p d c : Nat) (f : Nat → Nat → Int) (i j t s : Nat) (h : ¬(t = i ∧ s = j)) : clrTo2 p d c f i (j + 1) t s = clrTo2 p d c f i j t s := by
  unfold clrTo2
  by_cases h2 : t < i ∨ (t = i ∧ s < j)
  · rw [if_pos h2, if_pos (by omega)]
  · rw [if_neg h2, if_neg (by omega)]
theorem clrTo2_at (p d c : Nat) (f : Nat → Nat → Int) (i j : Nat) : clrTo2 p d c f i j i j = f i j := if_neg (by omega)
theorem clrTo2_piv (p d c : Nat) (f : Nat → Nat → Int) (i j s : Nat) : clrTo2 p d c f i j d s = f d s := by
  unfold clrTo2
  split
  · unfold Lin.clrF; rw [if_neg (by omega)]
  · rfl
theorem clrTo2_new (p d c : Nat) (f : Nat → Nat → Int) (i j : Nat) (h : d < i) : clrTo2 p d c f i (j + 1) i j = (f i j - f i c * Lin.inv p (f d c) % (p : Int) * f d j) % (p : Int) := by
  unfold clrTo2
  rw [if_pos (by omega)]
  unfold Lin.clrF
  rw [if_pos h]

set_option maxRecDepth 100000 in
set_option maxHeartbeats 4000000 in
theorem clear_any (p : Nat) (hp : p = 2 ∨ p = 3 ∨ p = 5) {base P go co : Nat} {R : List (Nat × Nat)} {m n d c : Nat} {f : Nat → Nat → Int} (hd : d < m) (hc : c < n) (hm : m ≤ 1000) (hn : n ≤ 1000) (hmc : m ≤ co) (hf : ∀ t s, t < m → s < n → -1000 ≤ f t s ∧ f t s ≤ 1000) (w : World) (h : MB w base P go co R m n f) :
    Calls Try.prog 112 #[.pointer (some ⟨P, 0, none⟩), .int .i64 (d : Int), .int .i64 (c : Int), .int .i64 (p : Int)] w fun e w' => e = .returned (.tuple #[]) ∧ MB w' base P go co R m n (Lin.clrF p d c f) ∧ Below base w w' := by
  have H := Lib.hid h
  have HF := Lib.hid hf
  have hp5 : p ≤ 5 := by omega
  have hp1 : 1 < p := by omega
  have hcP := h.cell
  obtain ⟨hcd, -⟩ := h.row hd
  obtain ⟨hx, -⟩ := h.num hd hc
  have HINV := Lib.hid (fun W => implInverse_any (f d c) p hp W)
  have hib := inv_le p (f d c)
  have HSB := Lib.hid (fun W => slice_rows go m co d hd hmc W)
  obtain ⟨b, hb⟩ : ∃ b, Lin.inv p (f d c) = b := ⟨_, rfl⟩
  have HB := Lib.hid hb
  rw [hb] at HINV hib
  obtain ⟨x, hxx⟩ : ∃ x, f d c = x := ⟨_, rfl⟩
  rw [hxx] at hx HINV
  obtain ⟨o, ho⟩ : ∃ o, (if co = d + 1 then 0 else d + 1) = o := ⟨_, rfl⟩
  have HO : Hid (d + 1 < m → o = d + 1) := by
    have : d + 1 < m → o = d + 1 := fun h => by rw [← ho, if_neg (by omega)]
    exact this
  obtain ⟨l, hl⟩ : ∃ l, m - (d + 1) = l := ⟨_, rfl⟩
  obtain ⟨lc, hlc⟩ : ∃ l, co - (d + 1) = l := ⟨_, rfl⟩
  have HL : Hid (l + (d + 1) = m) := by
    have : l + (d + 1) = m := by omega
    exact this
  have hlm : l ≤ 1000 := by omega
  have hsb := HSB.out
  simp only [ho, hl, hlc] at hsb
  clear h hf hp hb hxx ho hl hlc HSB
  go_enter Try.func112, Try.ntmps112
  go_wp2_with fail
  refine (HINV.out _).mono ?_
  rintro e w1 ⟨rfl, rfl⟩
  go_wp2
  clear hx hcd
  go_loopw [34] (fun i wr => ∃ k : Nat, k ≤ l ∧ i = .int .i64 (k : Int) ∧ MB wr base P go co R m n (clrTo2 p d c f (d + 1 + k) 0) ∧ Below base w wr) (fun i _ => l - (intOf i).toNat)
  case atStart => exact ⟨0, Nat.zero_le _, rfl, H.out.congr fun t s _ _ => clrTo2_start p d c f t s, Below.refl _ _⟩
  case round =>
    clear hcP
    obtain ⟨k, hk, rfl, hX, hB⟩ := hrel
    have HX := Lib.hid hX
    have HBB := Lib.hid hB
    clear hX hB
    have hcP := HX.out.cell
    by_cases hlt : k < l
    · have hdk : decide ((k : Int) < (l : Int)) = true := by simpa using hlt
      obtain ⟨i, hi⟩ : ∃ i, d + 1 + k = i := ⟨_, rfl⟩
      have him : i < m := by have := HL.out; omega
      have hdi : d < i := by omega
      have HI : Hid (o + k = i) := by
        have : o + k = i := by rw [HO.out (by omega)]; exact hi
        exact this
      have HI2 := Lib.hid hi
      rw [hi] at HX
      clear hi
      obtain ⟨hci, -⟩ := HX.out.row him
      obtain ⟨hcd, -⟩ := HX.out.row hd
      obtain ⟨hy, -⟩ := HX.out.num him hc
      have hbi := HF.out i c him hc
      have HNW := Lib.hid (fun j => clrTo2_new p d c f i j hdi)
      rw [HB.out] at HNW
      have hyv : clrTo2 p d c f i 0 i c = f i c := if_neg (by omega)
      rw [hyv] at hy
      obtain ⟨y, hyy⟩ : ∃ y, f i c = y := ⟨_, rfl⟩
      rw [hyy] at hy hbi HNW
      have hm1 : -5000 ≤ y * b ∧ y * b ≤ 5000 := by
        obtain ⟨b1, b2⟩ := hib
        have : b = 0 ∨ b = 1 ∨ b = 2 ∨ b = 3 ∨ b = 4 ∨ b = 5 := by omega
        rcases this with e | e | e | e | e | e <;> rw [e] <;> omega
      have HRM := Lib.hid (fun W => remainder_any (y * b) p hp1 (by omega) W)
      obtain ⟨q, hq⟩ : ∃ q, y * b % (p : Int) = q := ⟨_, rfl⟩
      have hq0 := Int.emod_nonneg (y * b) (by omega : (p : Int) ≠ 0)
      have hq1 := Int.emod_lt_of_pos (y * b) (by omega : (0 : Int) < p)
      rw [hq] at hq0 hq1
      simp only [hq] at HRM HNW
      have hci2 : wr.cell? ⟨go, o + k, none⟩ = some (.slice (some ⟨blk R i, 0, none⟩) n (room R i)) := by rw [HI.out]; exact hci
      obtain ⟨Bi, hBi⟩ : ∃ V, blk R i = V := ⟨_, rfl⟩
      obtain ⟨Bd, hBd⟩ : ∃ V, blk R d = V := ⟨_, rfl⟩
      obtain ⟨Ci, hCi⟩ : ∃ V, room R i = V := ⟨_, rfl⟩
      obtain ⟨Cd, hCd⟩ : ∃ V, room R d = V := ⟨_, rfl⟩
      have HBI := Lib.hid hBi
      have HBD := Lib.hid hBd
      rw [hBi] at hy
      rw [hBi, hCi] at hci2
      rw [hBd, hCd] at hcd
      clear hci hyv hyy hq hBi hBd hCi hCd
      go_wp2_with fail
      refine (HRM.out _).mono ?_
      rintro e w2 ⟨rfl, rfl⟩
      go_wp2
      go_loopw [54] (fun z wr => ∃ j : Nat, j ≤ n ∧ z = .int .i64 (j : Int) ∧ MB wr base P go co R m n (clrTo2 p d c f i j) ∧ Below base w wr) (fun z _ => n - (intOf z).toNat)
      case atStart => exact ⟨0, Nat.zero_le _, rfl, HX.out, HBB.out⟩
      case round =>
        clear hcP hci2 hcd hy HX HBB
        obtain ⟨j, hj, rfl, hX, hB⟩ := hrel
        have HX := Lib.hid hX
        have HBB := Lib.hid hB
        clear hX hB
        by_cases hlj : j < n
        · have hdj : decide ((j : Int) < (n : Int)) = true := by simpa using hlj
          obtain ⟨hu, hfu⟩ := HX.out.num him hlj
          obtain ⟨hv, -⟩ := HX.out.num hd hlj
          rw [clrTo2_at] at hu
          rw [clrTo2_piv p d c f i j j] at hv
          have hbu := HF.out i j him hlj
          have hbv := HF.out d j hd hlj
          have hnew := HNW.out j
          have hX2 := HX.out.setF him hlj _ (clrTo2 p d c f i (j + 1)) rfl fun t s _ _ hne => clrTo2_same p d c f i j t s hne
          have hB2 := HBB.out.setCell (p := ⟨blk R i, j, none⟩) (HX.out.low_row him) (.int .i64 (clrTo2 p d c f i (j + 1) i j))
          rw [hnew] at hX2 hB2
          rw [HBI.out] at hu hfu hX2 hB2
          rw [HBD.out] at hv
          obtain ⟨u, huu⟩ : ∃ u, f i j = u := ⟨_, rfl⟩
          obtain ⟨v, hvv⟩ : ∃ u, f d j = u := ⟨_, rfl⟩
          rw [huu] at hu hbu hX2 hB2
          rw [hvv] at hv hbv hX2 hB2
          have hm2 : -5000 ≤ q * v ∧ q * v ≤ 5000 := by
            have : q = 0 ∨ q = 1 ∨ q = 2 ∨ q = 3 ∨ q = 4 := by omega
            rcases this with e | e | e | e | e <;> rw [e] <;> omega
          have HX2 := Lib.hid hX2
          have HB2 := Lib.hid hB2
          have HRM2 := Lib.hid (fun W => remainder_any (u - q * v) p hp1 (by omega) W)
          obtain ⟨z, hz⟩ : ∃ z, (u - q * v) % (p : Int) = z := ⟨_, rfl⟩
          rw [hz] at HX2 HB2
          simp only [hz] at HRM2
          clear hX2 hB2 hnew huu hvv hz
          go_wp2_with fail
          refine (HRM2.out _).mono ?_
          rintro e w2 ⟨rfl, rfl⟩
          go_wp2
          go_roundw
          case rel => exact ⟨j + 1, by omega, by go_num, HX2.out, HB2.out⟩
          case measure => simp [intOf]; omega
        · have hdj : decide ((j : Int) < (n : Int)) = false := by simpa using hlj
          have HX2 : Hid (MB wr base P go co R m n (clrTo2 p d c f (d + 1 + (k + 1)) 0)) := by
            have : MB wr base P go co R m n (clrTo2 p d c f (d + 1 + (k + 1)) 0) := by
              rw [show d + 1 + (k + 1) = i + 1 by have := HI2.out; omega]
              have hjn : j = n := by omega
              subst hjn
              exact HX.out.congr fun t s _ hs => clrTo2_row p d c j f i t s hs
            exact this
          go_wp2
          go_roundw
          case rel => exact ⟨k + 1, by omega, by go_num, HX2.out, HBB.out⟩
          case measure => simp [intOf]; omega
    · have hdk : decide ((k : Int) < (l : Int)) = false := by simpa using hlt
      have HX2 : Hid (MB wr base P go co R m n (Lin.clrF p d c f)) := by
        have : MB wr base P go co R m n (Lin.clrF p d c f) := by
          have h := HX.out
          rw [show d + 1 + k = m by have := HL.out; omega] at h
          exact h.congr fun t s ht _ => clrTo2_end p d c m f t s ht
        exact this
      go_wp2
      (try simp only [Exit.inBlock, Exit.then])
      refine bodyPost_end (results_none rfl _ _ _) rfl ?_
      exact ⟨rfl, HX2.out, HBB.out⟩

end Go.Proofs.Ythjgpbcdcgagfaa

/-! WALKS of chapter 13 (impl): the rank of a matrix. -/

namespace Go.Proofs.Ythjgpbcdcgagfaa
open Go.RowKit

theorem wid_pos {M : Lin.Mat} (h : 0 < Lin.wid M) : 0 < M.length := by
  rcases Nat.eq_zero_or_pos M.length with e | e
  · rw [List.eq_nil_of_length_eq_zero e] at h; exact absurd h (by decide)
  · exact e
theorem rank_zero (p : Nat) (M : Lin.Mat) : Lin.rank p M 0 = 0 := rfl

set_option maxRecDepth 100000 in
set_option maxHeartbeats 4000000 in
theorem rankMod_any (p : Nat) (hp : p = 2 ∨ p = 3 ∨ p = 5) {base P : Nat} {v : Value} {R : List (Nat × Nat)} {M : Lin.Mat} (hr : rectB M = true) (hm : M.length ≤ 1000) (hn : Lin.wid M ≤ 1000) (hb : ∀ t s, t < M.length → s < Lin.wid M → -1000 ≤ Lin.ent M t s ∧ Lin.ent M t s ≤ 1000) (w : World) (h : MP w base P v R M) :
    Calls Try.prog 69 #[.pointer (some ⟨P, 0, none⟩), .int .i64 (p : Int)] w fun e w' => e = .returned (.int .i64 (Lin.rank p M (Lin.wid M) : Int)) ∧ Below base w w' := by
  by_cases h0 : Lin.wid M = 0
  · have HW := Lib.hid (width_any w h)
    rw [h0] at HW ⊢
    rw [rank_zero]
    clear h hr hb h0
    go_enter Try.func69, Try.ntmps69
    go_wp2_with fail
    refine HW.out.mono ?_
    rintro e w1 ⟨rfl, rfl⟩
    go_wp2
    go_loopw [5, 9] (fun r i wr => r = .int .i64 0 ∧ i = .int .i64 0 ∧ wr = w) (fun _ _ _ => 0)
    case atStart => exact ⟨rfl, rfl, rfl⟩
    case round =>
      obtain ⟨rfl, rfl, rfl⟩ := hrel
      go_wp2
      go_ret
      exact ⟨rfl, Below.refl _ _⟩
  · have hm0 : 0 < M.length := wid_pos (by omega)
    have hM : M = matF M.length (Lin.wid M) (Lin.ent M) := rect_F (rect_at hr)
    have hE := Lin.Elim.start (p := p) (by omega) rfl (rect_mem hr) hb
    obtain ⟨go, co, hmc, hB⟩ := MP.toB (hM ▸ h) hm0
    have HD := Lib.hid (fun (d : Nat) (f : Nat → Nat → Int) (h : Lin.Elim p M M.length (Lin.wid M) (Lin.wid M) d f) => h.done)
    have HP := Lib.hid hp
    have hp1 : 1 < p := by omega
    have hp5 : p ≤ 5 := by omega
    obtain ⟨m, hmm⟩ : ∃ m, M.length = m := ⟨_, rfl⟩
    obtain ⟨n, hnn⟩ : ∃ m, Lin.wid M = m := ⟨_, rfl⟩
    rw [hmm, hnn] at hE hB HD
    rw [hmm] at hm hmc hm0
    rw [hnn] at hn ⊢
    have HW := Lib.hid (widthB_any w hm0 hB)
    have HE := Lib.hid hE
    have HB := Lib.hid hB
    obtain ⟨r, hrk⟩ : ∃ r, Lin.rank p M n = r := ⟨_, rfl⟩
    rw [hrk] at HD ⊢
    clear h hr hb h0 hM hE hB hmm hnn hrk hp
    go_enter Try.func69, Try.ntmps69
    go_wp2_with fail
    refine HW.out.mono ?_
    rintro e w1 ⟨rfl, rfl⟩
    go_wp2
    go_loopw [5, 9] (fun r i wr => ∃ (j d : Nat) (f : Nat → Nat → Int) (R : List (Nat × Nat)), j ≤ n ∧ d ≤ m ∧ r = .int .i64 (d : Int) ∧ i = .int .i64 (j : Int) ∧ MB wr base P go co R m n f ∧ Hid (Lin.Elim p M m n j d f) ∧ Below base w wr) (fun _ i _ => n - (intOf i).toNat)
    case atStart => exact ⟨0, 0, _, R, Nat.zero_le _, Nat.zero_le _, rfl, rfl, HB.out, HE, Below.refl _ _⟩
    case round =>
      clear HB HE HW
      obtain ⟨j, d, f, R, hj, hd, rfl, rfl, hB, HE, hBW⟩ := hrel
      have HB := Lib.hid hB
      have HBW := Lib.hid hBW
      clear hB hBW
      by_cases hlt : j < n
      · have hdj : decide ((j : Int) < (n : Int)) = true := by simpa using hlt
        have HRS := Lib.hid (raise_any p hp1 hd hlt (by omega) wr HB.out)
        go_wp2_with fail
        refine HRS.out.mono ?_
        rintro e w2 (⟨a, ha, ham, hz, hne, rfl, hB2, hb2⟩ | ⟨hz, rfl, rfl⟩)
        · have HB2 := Lib.hid hB2
          have HBW2 := Lib.hid (HBW.out.trans hb2)
          have HE2 : Hid (Lin.Elim p M m n (j + 1) (d + 1) (Lin.clrF p d j (Lin.swpF d a f))) := HE.out.hit hp1 hp5 hlt ha ham hz hne
          have hbd : ∀ t s, t < m → s < n → -1000 ≤ Lin.swpF d a f t s ∧ Lin.swpF d a f t s ≤ 1000 := fun t s ht hs => by
            unfold Lin.swpF
            exact HE.out.2.1 _ s (by split <;> (try split) <;> omega) hs
          have HCL := Lib.hid (clear_any p HP.out (d := d) (c := j) (by omega) hlt hm hn hmc hbd w2 hB2)
          have hdm : d < m := by omega
          clear hB2 hb2 hz hne hbd
          go_wp2_with fail
          refine HCL.out.mono ?_
          rintro e w3 ⟨rfl, hB3, hb3⟩
          have HB3 := Lib.hid hB3
          have HBW3 := Lib.hid (HBW2.out.trans hb3)
          clear hB3 hb3
          go_wp2
          go_roundw
          case rel => exact ⟨j + 1, d + 1, _, _, by omega, by omega, by go_num, by go_num, HB3.out, HE2, HBW3.out⟩
          case measure => simp [intOf]; omega
        · have HE2 : Hid (Lin.Elim p M m n (j + 1) d f) := HE.out.miss hlt hz
          clear hz
          go_wp2
          go_roundw
          case rel => exact ⟨j + 1, d, f, R, by omega, hd, rfl, by go_num, HB.out, HE2, HBW.out⟩
          case measure => simp [intOf]; omega
      · have hdj : decide ((j : Int) < (n : Int)) = false := by simpa using hlt
        have HR : Hid (r = d) := by
          have : r = d := by
            have h := HE.out
            rw [show j = n by omega] at h
            exact HD.out d f h
          exact this
        go_wp2
        go_ret
        exact ⟨by rw [HR.out]; rfl, HBW.out⟩

theorem small_at {M : Lin.Mat} (hr : rectB M = true) (hs : smallB M = true) : M.length ≤ 30 ∧ Lin.wid M ≤ 30 ∧ ∀ t s, t < M.length → s < Lin.wid M → -1000 ≤ Lin.ent M t s ∧ Lin.ent M t s ≤ 1000 := by
  unfold smallB at hs
  rw [Bool.and_eq_true, Bool.and_eq_true, decide_eq_true_eq, decide_eq_true_eq] at hs
  obtain ⟨h1, h2, h3⟩ := hs
  refine ⟨h1, h2, fun t s ht hsn => ?_⟩
  have h4 : (M.any fun r => r.any farB) = false := by simpa using h3
  rw [List.any_eq_false] at h4
  have h5 := h4 _ (Lin.row_mem ht)
  have hl : s < (Lin.row M t).length := by rw [rect_at hr t ht]; exact hsn
  have h6 : (Lin.row M t).any farB = false := by simpa using h5
  rw [List.any_eq_false] at h6
  have h7 := h6 _ (List.getElem_mem hl)
  have e : Lin.ent M t s = (Lin.row M t)[s] := by unfold Lin.ent; simp [List.getD, List.getElem?_eq_getElem hl]
  rw [e]
  unfold farB at h7
  simp only [decide_eq_true_eq] at h7
  omega
/-- The rank, or -1 where there is none. -/
def rankZ (M : Lin.Mat) (p : Int) : Int := if fitB M = true ∧ primeB p = true then (Lin.rank p.toNat M (Lin.wid M) : Int) else -1

set_option maxRecDepth 100000 in
set_option maxHeartbeats 4000000 in
theorem implRank_any (p : Int) (go : Nat) (ao : Option Addr) (co : Nat) (R0 : List (Nat × Nat)) (M : Lin.Mat) (hlen : M.length ≤ 1099511627776) (hrow : ∀ i, i < M.length → (Lin.row M i).length ≤ 1099511627776) (w : World) (h : Mx w go ao R0 M) :
    Calls Try.prog 24 #[.slice ao M.length co, .int .i64 p] w fun e w' => e = .returned (.int .i64 (rankZ M p)) ∧ Below w.heap.size w w' := by
  have HC := Lib.hid (readSmall_any go ao co R0 M hlen hrow w h)
  have HRK := Lib.hid (fun (q : Nat) (hq : q = 2 ∨ q = 3 ∨ q = 5) (hf : fitB M = true) (P : Nat) (v : Value) (R : List (Nat × Nat)) (W : World) (hM : MP W w.heap.size P v R M) => by
    have hf2 := hf
    unfold fitB at hf2
    rw [Bool.and_eq_true] at hf2
    obtain ⟨h1, h2, h3⟩ := small_at hf2.1 hf2.2
    exact rankMod_any q hq hf2.1 (by omega) (by omega) h3 W hM)
  have HNO : Hid ((fitB M = false ∨ primeB p = false) → rankZ M p = -1) := by
    have : (fitB M = false ∨ primeB p = false) → rankZ M p = -1 := fun h => if_neg (by
      rintro ⟨a, b⟩
      rcases h with h | h
      · rw [a] at h; cases h
      · rw [b] at h; cases h)
    exact this
  have HYES : Hid (fitB M = true → primeB p = true → rankZ M p = (Lin.rank p.toNat M (Lin.wid M) : Int)) := by
    have : fitB M = true → primeB p = true → rankZ M p = (Lin.rank p.toNat M (Lin.wid M) : Int) := fun a b => if_pos ⟨a, b⟩
    exact this
  clear h hrow
  obtain ⟨z, hz⟩ : ∃ z, rankZ M p = z := ⟨_, rfl⟩
  rw [hz] at HNO HYES ⊢
  clear hz
  go_enter Try.func24, Try.ntmps24
  go_wp2_with fail
  refine HC.out.mono ?_
  rintro e w1 ⟨⟨hf, P, v, R, rfl, hM⟩ | ⟨hf, rfl⟩, hb1⟩
  · have HM := Lib.hid hM
    have HB1 := Lib.hid hb1
    have HF := Lib.hid hf
    clear hM hb1 hf
    go_wp2_with fail
    refine (implPrime_any _ _).mono ?_
    rintro e w2 ⟨rfl, rfl⟩
    cases hpb : primeB p with
    | false =>
      have E := Lib.hid (HNO.out (.inr hpb))
      clear hpb
      go_wp2
      go_ret
      exact ⟨by rw [E.out]; rfl, HB1.out⟩
    | true =>
      obtain ⟨q1, q2⟩ := prime_nat hpb
      have E := Lib.hid (HYES.out HF.out hpb)
      have HK := Lib.hid (HRK.out p.toNat q1 HF.out P v R w1 HM.out)
      rw [← q2] at HK
      clear hpb q1 q2
      go_wp2_with fail
      refine HK.out.mono ?_
      rintro e w3 ⟨rfl, hb3⟩
      have HB3 := Lib.hid (HB1.out.trans hb3)
      clear hb3
      go_wp2
      go_ret
      exact ⟨by rw [E.out]; rfl, HB3.out⟩
  · have HB1 := Lib.hid hb1
    have E := Lib.hid (HNO.out (.inl hf))
    clear hb1 hf
    go_wp2
    go_ret
    exact ⟨by rw [E.out]; rfl, HB1.out⟩

end Go.Proofs.Ythjgpbcdcgagfaa

/-! WALKS of chapter 13 (spec): what matrices keep to; ranks. -/

namespace Go.Proofs.Ythjgpbcdcgagfaa
open Go.RowKit
open Sets

theorem fit_no_row {M : Lin.Mat} {k : Nat} (hk : k < M.length) (h : (Lin.row M k).length ≠ Lin.wid M) : fitB M = false := by unfold fitB; rw [rect_no hk h]; rfl
theorem fit_no_wide {M : Lin.Mat} (h : 30 < Lin.wid M) : fitB M = false := by
  unfold fitB smallB
  rw [decide_eq_false (by omega : ¬Lin.wid M ≤ 30), Bool.false_and, Bool.and_false, Bool.and_false]
theorem fit_no_num {M : Lin.Mat} {i j : Nat} (hi : i < M.length) (hj : j < (Lin.row M i).length) (h : farB (Lin.ent M i j) = true) : fitB M = false := by
  have e : (M.any fun r => r.any farB) = true := by
    rw [List.any_eq_true]
    refine ⟨_, Lin.row_mem hi, ?_⟩
    rw [List.any_eq_true]
    refine ⟨_, List.getElem_mem hj, ?_⟩
    unfold Lin.ent at h
    rw [List.getD, List.getElem?_eq_getElem hj] at h
    exact h
  unfold fitB smallB
  rw [e, Bool.not_true, Bool.and_false, Bool.and_false, Bool.and_false]
theorem fit_all {M : Lin.Mat} (h1 : ∀ i, i < M.length → (Lin.row M i).length = Lin.wid M) (h2 : 0 < M.length → Lin.wid M ≤ 30) (h3 : ∀ i j, i < M.length → j < Lin.wid M → farB (Lin.ent M i j) = false) : fitB M = decide (M.length ≤ 30) := by
  have e : (M.any fun r => r.any farB) = false := by
    rw [List.any_eq_false]
    intro r hr
    obtain ⟨i, hi, rfl⟩ := Lin.mem_row hr
    have : (Lin.row M i).any farB = false := by
      rw [List.any_eq_false]
      intro x hx
      obtain ⟨j, hj, rfl⟩ := List.getElem_of_mem hx
      have := h3 i j hi (by rw [← h1 i hi]; exact hj)
      unfold Lin.ent at this
      rw [List.getD, List.getElem?_eq_getElem hj] at this
      simpa using this
    rw [this]; simp
  have hw : Lin.wid M ≤ 30 := by
    rcases Nat.eq_zero_or_pos M.length with h | h
    · rw [List.eq_nil_of_length_eq_zero h]; decide
    · exact h2 h
  unfold fitB smallB
  rw [rect_yes h1, e, decide_eq_true hw]
  simp
theorem far_in (x : Int) : inB (-1000) 1000 x = !farB x := by
  unfold farB inB
  by_cases h : x < -1000 ∨ 1000 < x
  · rw [decide_eq_true h, decide_eq_false (by omega)]; rfl
  · rw [decide_eq_false h, decide_eq_true (by omega)]; rfl

set_option maxRecDepth 100000 in
set_option maxHeartbeats 4000000 in
theorem l13Fits_any (go : Nat) (ao : Option Addr) (co : Nat) (R : List (Nat × Nat)) (M : Lin.Mat) (hlen : M.length ≤ 1099511627776) (w : World) (h : Mx w go ao R M) :
    Calls Try.prog 65 #[.slice ao M.length co] w fun e w' => e = .returned (.bool (fitB M)) ∧ ∃ m, w' = w.drewN m := by
  have H := Lib.hid h
  have HL := Lib.hid (fun (h1 : ∀ i, i < M.length → (Lin.row M i).length = Lin.wid M) (h2 : 0 < M.length → Lin.wid M ≤ 30) (h3 : ∀ i j, i < M.length → j < Lin.wid M → farB (Lin.ent M i j) = false) => fit_all h1 h2 h3)
  have HR := Lib.hid (fun (k : Nat) (hk : k < M.length) (h : (Lin.row M k).length ≠ Lin.wid M) => fit_no_row hk h)
  have HW := Lib.hid (fun (h : 30 < Lin.wid M) => fit_no_wide h)
  have HN := Lib.hid (fun (i j : Nat) (hi : i < M.length) (hj : j < (Lin.row M i).length) (h : farB (Lin.ent M i j) = true) => fit_no_num hi hj h)
  obtain ⟨f, hf⟩ : ∃ f, fitB M = f := ⟨_, rfl⟩
  rw [hf] at HL HR HW HN ⊢
  obtain ⟨m, hm⟩ : ∃ m, M.length = m := ⟨_, rfl⟩
  have HM := Lib.hid hm
  rw [hm] at HL HR HN hlen ⊢
  obtain ⟨n0, hn0⟩ : ∃ m, Lin.wid M = m := ⟨_, rfl⟩
  have HN0 := Lib.hid hn0
  rw [hn0] at HL HR HW
  clear h hf hm hn0
  go_enter Try.func65, Try.ntmps65
  go_wp2
  go_loopw [3] (fun z wr => ∃ i q : Nat, i ≤ m ∧ z = .int .i64 (i : Int) ∧ Hid ((∀ k, k < i → (Lin.row M k).length = n0) ∧ (0 < i → n0 ≤ 30) ∧ ∀ k j, k < i → j < n0 → farB (Lin.ent M k j) = false) ∧ wr = w.drewN q) (fun z _ => m - (intOf z).toNat)
  case atStart => exact ⟨0, 0, Nat.zero_le _, rfl, ⟨fun k hk => absurd hk (Nat.not_lt_zero _), fun hk => absurd hk (Nat.lt_irrefl _), fun k j hk => absurd hk (Nat.not_lt_zero _)⟩, rfl⟩
  case round =>
    obtain ⟨i, q, hi, rfl, hA, rfl⟩ := hrel
    have HA := Lib.hid hA.out
    clear hA
    by_cases him : i < m
    · have hd : decide ((i : Int) < (m : Int)) = true := by simpa using him
      have hm0 : 0 < m := by omega
      obtain ⟨hao, -, hci, -⟩ := H.out.out i (by rw [HM.out]; exact him)
      obtain ⟨-, -, hc0, -⟩ := H.out.out 0 (by rw [HM.out]; omega)
      subst hao
      have HNUM := Lib.hid (fun j (hj : j < (Lin.row M i).length) => H.out.ent (i := i) (j := j) (by rw [HM.out]; exact him) hj)
      have HNI := Lib.hid (HN.out i)
      have HRI := Lib.hid (HR.out i him)
      rw [show (Lin.row M 0).length = Lin.wid M from rfl, HN0.out] at hc0
      obtain ⟨n, hn⟩ : ∃ n, (Lin.row M i).length = n := ⟨_, rfl⟩
      have HNN := Lib.hid hn
      rw [hn] at hci HNUM HNI HRI
      obtain ⟨B1, hB1⟩ : ∃ b, blk R i = b := ⟨_, rfl⟩
      obtain ⟨C1, hC1⟩ : ∃ b, room R i = b := ⟨_, rfl⟩
      obtain ⟨B0, hB0⟩ : ∃ b, blk R 0 = b := ⟨_, rfl⟩
      obtain ⟨C0, hC0⟩ : ∃ b, room R 0 = b := ⟨_, rfl⟩
      rw [hB1, hC1] at hci
      rw [hB0, hC0] at hc0
      rw [hB1] at HNUM
      have hci : (w.drewN q).cell? ⟨go, i, none⟩ = some (.slice (some ⟨B1, 0, none⟩) n C1) := hci
      have hc0 : (w.drewN q).cell? ⟨go, 0, none⟩ = some (.slice (some ⟨B0, 0, none⟩) n0 C0) := hc0
      have HCI : Hid (w.cell? ⟨go, i, none⟩ = some (.slice (some ⟨B1, 0, none⟩) n C1)) := hci
      clear hn hB1 hC1 hB0 hC0
      by_cases he : n = n0
      · subst he
        by_cases h30 : 30 < n
        · have hd30 : decide (30 < (n : Int)) = true := decide_eq_true (by omega)
          have E := Lib.hid (HW.out h30)
          go_wp2_with fail
          go_quiet (fail)
          go_wp2
          go_ret
          exact ⟨by rw [E.out]; rfl, _, World.drewN_drewN _ _ _⟩
        · have hd30 : decide (30 < (n : Int)) = false := decide_eq_false (by omega)
          go_wp2_with fail
          go_quiet (fail)
          go_wp2
          clear hci hc0
          go_loopw [4] (fun z wr => ∃ j q2 : Nat, j ≤ n ∧ z = .int .i64 (j : Int) ∧ Hid (∀ j', j' < j → farB (Lin.ent M i j') = false) ∧ wr = w.drewN q2) (fun z _ => n - (intOf z).toNat)
          case atStart => exact ⟨0, _, Nat.zero_le _, rfl, fun j hj => absurd hj (Nat.not_lt_zero _), World.drewN_drewN _ _ _⟩
          case round =>
            obtain ⟨j, q2, hj, rfl, hF, rfl⟩ := hrel
            have hci : (w.drewN q2).cell? ⟨go, i, none⟩ = some (.slice (some ⟨B1, 0, none⟩) n C1) := HCI.out
            by_cases hjn : j < n
            · have hdj : decide ((j : Int) < (n : Int)) = true := by simpa using hjn
              have hx : (w.drewN q2).cell? ⟨B1, j, none⟩ = some (.int .i64 (Lin.ent M i j)) := HNUM.out j hjn
              have HFJ := Lib.hid (HNI.out j him hjn)
              obtain ⟨x, hxx⟩ : ∃ x, Lin.ent M i j = x := ⟨_, rfl⟩
              have HXX := Lib.hid hxx
              rw [hxx] at hx HFJ
              clear hxx
              have HIN := Lib.hid (fun W => in_b x (-1000) 1000 (!farB x) (far_in x) W)
              go_wp2_with fail
              refine (HIN.out _).mono ?_
              rintro e w2 ⟨rfl, rfl⟩
              cases hfx : farB x with
              | true =>
                have E := Lib.hid (HFJ.out hfx)
                clear hfx
                go_wp2
                go_ret
                exact ⟨by rw [E.out]; rfl, _, rfl⟩
              | false =>
                have HFX := Lib.hid hfx
                clear hfx
                go_wp2
                go_roundw
                case rel =>
                  refine ⟨j + 1, q2, by omega, by go_num, fun j' hj' => ?_, rfl⟩
                  by_cases e : j' < j
                  · exact hF.out j' e
                  · rw [show j' = j by omega, HXX.out]; exact HFX.out
                case measure => simp [intOf]; omega
            · have hdj : decide ((j : Int) < (n : Int)) = false := by simpa using hjn
              have HA2 : Hid ((∀ k, k < i + 1 → (Lin.row M k).length = n) ∧ (0 < i + 1 → n ≤ 30) ∧ ∀ k j, k < i + 1 → j < n → farB (Lin.ent M k j) = false) := by
                refine ⟨fun k hk => ?_, fun _ => by omega, fun k z hk hz => ?_⟩
                · by_cases e : k < i
                  · exact HA.out.1 k e
                  · rw [show k = i by omega]; exact HNN.out
                · by_cases e : k < i
                  · exact HA.out.2.2 k z e hz
                  · rw [show k = i by omega]; exact hF.out z (by omega)
              go_wp2
              go_roundw
              case rel => exact ⟨i + 1, q2, by omega, by go_num, HA2, rfl⟩
              case measure => simp [intOf]; omega
      · have hne : ((n : Int) == (n0 : Int)) = false := by simp; omega
        have hne2 : ¬((n : Int) = (n0 : Int)) := by omega
        have E := Lib.hid (HRI.out he)
        go_wp2_with fail
        go_quiet (fail)
        go_wp2
        go_ret
        exact ⟨by rw [E.out]; rfl, _, World.drewN_drewN _ _ _⟩
    · have hd : decide ((i : Int) < (m : Int)) = false := by simpa using him
      have E : Hid (f = decide ((m : Int) ≤ 30)) := by
        have : f = decide ((m : Int) ≤ 30) := by
          have hi : i = m := by omega
          subst hi
          exact (HL.out HA.out.1 HA.out.2.1 HA.out.2.2).trans (decide_eq_decide.2 (by omega))
        exact this
      go_wp2
      go_ret
      exact ⟨by rw [E.out]; rfl, _, rfl⟩

set_option maxRecDepth 100000 in
set_option maxHeartbeats 2000000 in
theorem l13RankMx_any (p : Nat) (hp : p = 2 ∨ p = 3 ∨ p = 5) (M : Lin.Mat) (n : Nat) (hw : ∀ r ∈ M, r.length = n) (hm : M.length ≤ 1000) (hn : n ≤ 1000) (gm : Nat) (am : Option Addr) (cm : Nat) (Rm : List (Nat × Nat)) (w : World) (h : Mx w gm am Rm M) :
    Calls Try.prog 70 #[.slice am M.length cm, .int .i64 (p : Int)] w fun e w' => e = .returned (.int .i64 (Lin.rank p M n : Int)) ∧ Below w.heap.size w w' := by
  have HR := Lib.hid (l13Reduce_any p hp M n hw hm hn gm am cm Rm w h)
  obtain ⟨P, hP⟩ : ∃ P, (Lin.reduce p M n).2 = P := ⟨_, rfl⟩
  have HE : Hid (Lin.rank p M n = P.length) := by
    have : Lin.rank p M n = P.length := by unfold Lin.rank; rw [hP]
    exact this
  simp only [hP] at HR
  obtain ⟨l, hl⟩ : ∃ l, M.length = l := ⟨_, rfl⟩
  simp only [hl] at HR
  rw [hl]
  obtain ⟨r, hr⟩ : ∃ r, Lin.rank p M n = r := ⟨_, rfl⟩
  rw [hr] at HE ⊢
  clear h hw hP hl hr hp hm hn
  go_enter Try.func70, Try.ntmps70
  go_wp2_with fail
  refine HR.out.mono ?_
  rintro e w1 ⟨ao, co, go, R, u, rfl, -, -, hO, hb1⟩
  obtain ⟨ap, cp, gp, rfl, -, -⟩ := hO.at
  have HB1 := Lib.hid hb1
  have hil : (ints P).length = P.length := by simp [ints]
  rw [hil]
  obtain ⟨z, hz⟩ : ∃ z, P.length = z := ⟨_, rfl⟩
  rw [hz] at HE ⊢
  clear hO hb1 hil hz
  go_wp2
  go_ret
  exact ⟨by rw [HE.out]; rfl, HB1.out⟩

set_option maxRecDepth 100000 in
set_option maxHeartbeats 2000000 in
theorem specRank_any (p : Int) (go : Nat) (ao : Option Addr) (co : Nat) (R0 : List (Nat × Nat)) (M : Lin.Mat) (hlen : M.length ≤ 1099511627776) (w : World) (h : Mx w go ao R0 M) :
    Calls Try.prog 25 #[.slice ao M.length co, .int .i64 p] w fun e w' => e = .returned (.int .i64 (rankZ M p)) ∧ Below w.heap.size w w' := by
  have HF := Lib.hid (l13Fits_any go ao co R0 M hlen w h)
  have HK := Lib.hid (fun (hf : fitB M = true) (q : Nat) (hq : q = 2 ∨ q = 3 ∨ q = 5) (W : World) (hW : Mx W go ao R0 M) => by
    have hf2 := hf
    unfold fitB at hf2
    rw [Bool.and_eq_true] at hf2
    obtain ⟨h1, h2, h3⟩ := small_at hf2.1 hf2.2
    exact l13RankMx_any q hq M (Lin.wid M) (rect_mem hf2.1) (by omega) (by omega) go ao co R0 W hW)
  have HM := Lib.hid h
  have HNO : Hid ((fitB M = false ∨ primeB p = false) → rankZ M p = -1) := by
    have : (fitB M = false ∨ primeB p = false) → rankZ M p = -1 := fun h => if_neg (by
      rintro ⟨a, b⟩
      rcases h with h | h
      · rw [a] at h; cases h
      · rw [b] at h; cases h)
    exact this
  have HYES : Hid (fitB M = true → primeB p = true → rankZ M p = (Lin.rank p.toNat M (Lin.wid M) : Int)) := by
    have : fitB M = true → primeB p = true → rankZ M p = (Lin.rank p.toNat M (Lin.wid M) : Int) := fun a b => if_pos ⟨a, b⟩
    exact this
  obtain ⟨f, hf⟩ : ∃ f, fitB M = f := ⟨_, rfl⟩
  rw [hf] at HF HNO HYES HK
  obtain ⟨z, hz⟩ : ∃ z, rankZ M p = z := ⟨_, rfl⟩
  rw [hz] at HNO HYES ⊢
  clear h hf hz
  cases hpb : primeB p with
  | false =>
    have E := Lib.hid (HNO.out (.inr hpb))
    have HP := Lib.hid (isPrime_any p w)
    rw [hpb] at HP
    clear hpb
    go_enter Try.func25, Try.ntmps25
    go_wp2_with fail
    refine HP.out.mono ?_
    rintro e w2 ⟨rfl, rfl⟩
    go_wp2
    go_ret
    exact ⟨by rw [E.out]; rfl, Below.refl _ _⟩
  | true =>
    obtain ⟨q1, q2⟩ := prime_nat hpb
    have HPB := Lib.hid hpb
    have HP := Lib.hid (isPrime_any p w)
    rw [hpb] at HP
    have Q1 := Lib.hid q1
    have Q2 := Lib.hid q2
    clear hpb q1 q2
    go_enter Try.func25, Try.ntmps25
    go_wp2_with fail
    refine HP.out.mono ?_
    rintro e w2 ⟨rfl, rfl⟩
    go_wp2_with fail
    refine HF.out.mono ?_
    rintro e w2 ⟨rfl, k, rfl⟩
    have hbk := Mem.below_drewN w k
    cases f with
    | false =>
      have E := Lib.hid (HNO.out (.inl rfl))
      go_wp2
      go_ret
      exact ⟨by rw [E.out]; rfl, hbk⟩
    | true =>
      have E := Lib.hid (HYES.out rfl HPB.out)
      have HC := Lib.hid (HK.out rfl p.toNat Q1.out (w.drewN k) (HM.out.keeps hbk))
      rw [← Q2.out] at HC
      have HBK := Lib.hid hbk
      clear hbk
      go_wp2_with fail
      refine HC.out.mono ?_
      rintro e w3 ⟨rfl, hb3⟩
      have HB3 := Lib.hid (HBK.out.trans hb3)
      clear hb3
      go_wp2
      go_ret
      exact ⟨by rw [E.out]; rfl, HB3.out⟩

end Go.Proofs.Ythjgpbcdcgagfaa

/-! WALKS of chapter 13 (spec): a matrix turned. -/

namespace Go.Proofs.Ythjgpbcdcgagfaa
open Go.RowKit

def colTo (M : Lin.Mat) (j k : Nat) : List Int := (List.range k).map fun i => Lin.ent M i j
theorem colTo_length (M : Lin.Mat) (j k : Nat) : (colTo M j k).length = k := by simp [colTo]
theorem colTo_next (M : Lin.Mat) (j k : Nat) : colTo M j (k + 1) = colTo M j k ++ [Lin.ent M k j] := by unfold colTo; rw [List.range_succ, List.map_append]; rfl
theorem turnM_next (M : Lin.Mat) (j : Nat) : Lin.turnM (j + 1) M = Lin.turnM j M ++ [colTo M j M.length] := by unfold Lin.turnM colTo; rw [List.range_succ, List.map_append]; rfl

set_option maxRecDepth 100000 in
set_option maxHeartbeats 8000000 in
theorem specTurn_any (gm : Nat) (am : Option Addr) (cm : Nat) (Rm : List (Nat × Nat)) (M : Lin.Mat) (hlen : M.length ≤ 1099511627776) (hrow : ∀ i, i < M.length → (Lin.row M i).length ≤ 1099511627776) (w : World) (h : Mx w gm am Rm M) :
    Calls Try.prog 26 #[.slice am M.length cm] w fun e w' => ∃ v R, e = .returned v ∧ OwnMx w' w.heap.size v R (turnZ M) ∧ Below w.heap.size w w' := by
  obtain ⟨i0, hi, hz0, hz1, hz2⟩ := info_parts info_int
  obtain ⟨i9, hi9, hz90, hz91, hz92⟩ := info_parts info_row
  have hwid : Lin.wid M ≤ 1099511627776 := by
    rcases Nat.eq_zero_or_pos M.length with e | e
    · rw [List.eq_nil_of_length_eq_zero e]; decide
    · exact hrow 0 e
  have HB0 : Hid (Below w.heap.size w (w.alloc (.cells #[] 24))) := (Below.refl _ _).alloc (Nat.le_refl _) _
  have HO0 := Lib.hid (OwnMx.lit w w.heap.size (Nat.le_refl _))
  have H := Lib.hid h
  have HNO := Lib.hid (fun (k : Nat) (hk : k < M.length) (h : (Lin.row M k).length ≠ Lin.wid M) => show turnZ M = [] from if_neg (by rw [rect_no hk h]; simp))
  have HYES := Lib.hid (fun (h : ∀ i, i < M.length → (Lin.row M i).length = Lin.wid M) => show turnZ M = Lin.turnM (Lin.wid M) M from if_pos (rect_yes h))
  obtain ⟨Z, hZ⟩ : ∃ Z, turnZ M = Z := ⟨_, rfl⟩
  rw [hZ] at HNO HYES ⊢
  have HTN := Lib.hid (turnM_next M)
  obtain ⟨m, hm⟩ : ∃ m, M.length = m := ⟨_, rfl⟩
  have HM := Lib.hid hm
  rw [hm] at HNO HYES HTN hlen ⊢
  obtain ⟨n0, hn0⟩ : ∃ m, Lin.wid M = m := ⟨_, rfl⟩
  have HN0 := Lib.hid hn0
  rw [hn0] at HNO HYES hwid
  clear h hrow hZ hm hn0
  go_enter Try.func26, Try.ntmps26
  obtain ⟨wa, hwa⟩ : ∃ wa, w.alloc (.cells #[] 24) = wa := ⟨_, rfl⟩
  rw [hwa] at HB0 HO0
  go_wp2
  clear hwa
  go_loopw [4] (fun z wr => ∃ i q : Nat, i ≤ m ∧ z = .int .i64 (i : Int) ∧ Hid (∀ k, k < i → (Lin.row M k).length = n0) ∧ wr = wa.drewN q) (fun z _ => m - (intOf z).toNat)
  case atStart => exact ⟨0, 0, Nat.zero_le _, rfl, fun k hk => absurd hk (Nat.not_lt_zero _), rfl⟩
  case round =>
    obtain ⟨i, q, hi2, rfl, hA, rfl⟩ := hrel
    have HA := Lib.hid hA.out
    clear hA
    have HB1 : Hid (Below w.heap.size w (wa.drewN q)) := HB0.out.trans ((Mem.below_drewN _ q).mono HB0.out.size)
    by_cases him : i < m
    · have hd : decide ((i : Int) < (m : Int)) = true := by simpa using him
      have hm0 : 0 < m := by omega
      have hX := H.out.keeps HB1.out
      obtain ⟨hao, -, hci, -⟩ := hX.out i (by rw [HM.out]; exact him)
      obtain ⟨-, -, hc0, -⟩ := hX.out 0 (by rw [HM.out]; omega)
      subst hao
      have HRI := Lib.hid (HNO.out i him)
      rw [show (Lin.row M 0).length = Lin.wid M from rfl, HN0.out] at hc0
      obtain ⟨n, hn⟩ : ∃ n, (Lin.row M i).length = n := ⟨_, rfl⟩
      have HNN := Lib.hid hn
      rw [hn] at hci HRI
      obtain ⟨B1, hB1⟩ : ∃ b, blk Rm i = b := ⟨_, rfl⟩
      obtain ⟨C1, hC1⟩ : ∃ b, room Rm i = b := ⟨_, rfl⟩
      obtain ⟨B0, hB0⟩ : ∃ b, blk Rm 0 = b := ⟨_, rfl⟩
      obtain ⟨C0, hC0⟩ : ∃ b, room Rm 0 = b := ⟨_, rfl⟩
      rw [hB1, hC1] at hci
      rw [hB0, hC0] at hc0
      have hci2 : wa.cell? ⟨gm, i, none⟩ = some (.slice (some ⟨B1, 0, none⟩) n C1) := hci
      have hc02 : wa.cell? ⟨gm, 0, none⟩ = some (.slice (some ⟨B0, 0, none⟩) n0 C0) := hc0
      clear hX hn hB1 hC1 hB0 hC0
      by_cases he : n = n0
      · subst he
        go_wp2_with fail
        go_quiet (fail)
        go_wp2
        go_roundw
        case rel =>
          refine ⟨i + 1, _, by omega, by go_num, ?_, rfl⟩
          have : ∀ k, k < i + 1 → (Lin.row M k).length = n := fun k hk => by
            by_cases e : k < i
            · exact HA.out k e
            · rw [show k = i by omega]; exact HNN.out
          exact this
        case measure => simp [intOf]; omega
      · have hne : ((n : Int) == (n0 : Int)) = false := by simp; omega
        have hne2 : ¬((n : Int) = (n0 : Int)) := by omega
        have E := Lib.hid (HRI.out he)
        go_wp2_with fail
        go_quiet (fail)
        go_wp2
        go_ret
        have hb2 : Below w.heap.size w (wa.drewN (q + nq)) := HB0.out.trans ((Mem.below_drewN _ _).mono HB0.out.size)
        have hL := OwnMx.lit (wa.drewN (q + nq)) w.heap.size hb2.size
        have hb3 := hb2.alloc hb2.size (.cells #[] 24)
        exact ⟨_, [], rfl, by rw [E.out]; exact hL, hb3⟩
    · have hd : decide ((i : Int) < (m : Int)) = false := by simpa using him
      have HRECT : Hid (∀ k, k < m → (Lin.row M k).length = n0) := by
        have : ∀ k, k < m → (Lin.row M k).length = n0 := fun k hk => HA.out k (by omega)
        exact this
      have E := Lib.hid (HYES.out HRECT.out)
      have HO1 : Hid (OwnMx (wa.drewN q) w.heap.size (.slice (some ⟨w.heap.size, 0, none⟩) 0 0) [] (Lin.turnM 0 M)) := by
        have : OwnMx (wa.drewN q) w.heap.size (.slice (some ⟨w.heap.size, 0, none⟩) 0 0) [] (Lin.turnM 0 M) := HO0.out.keeps (Mem.below_drewN _ q)
        exact this
      clear HO0 HB0 HNO HYES HA hi2
      go_wp2
      go_loopw [3, 5] (fun v z wr => ∃ (j : Nat) (R : List (Nat × Nat)), j ≤ n0 ∧ z = .int .i64 (j : Int) ∧ OwnMx wr w.heap.size v R (Lin.turnM j M) ∧ Below w.heap.size w wr) (fun _ z _ => n0 - (intOf z).toNat)
      case atStart => exact ⟨0, [], Nat.zero_le _, rfl, HO1.out, HB1.out⟩
      case round =>
        clear HO1 HB1
        obtain ⟨j, R, hj, rfl, hO, hB⟩ := hrel
        have HO := Lib.hid hO
        have HBO := Lib.hid hB
        have hszo := hB.size
        obtain ⟨wo, rfl⟩ : ∃ wo : World, wo = wr := ⟨_, rfl⟩
        clear hO hB
        by_cases hm0 : 0 < m
        · have hdm : decide (0 < (m : Int)) = true := decide_eq_true (by omega)
          obtain ⟨hao, -, hc0, -⟩ := (H.out.keeps HBO.out).out 0 (by rw [HM.out]; exact hm0)
          subst hao
          rw [show (Lin.row M 0).length = Lin.wid M from rfl, HN0.out] at hc0
          by_cases hjn : j < n0
          · have hdj : decide ((j : Int) < (n0 : Int)) = true := by simpa using hjn
            have hstart := Lib.hid (OwnInts.lit wo wo.heap.size [] (Nat.le_refl _) (by simp))
            go_wp2
            clear hc0
            go_loopw [6, 7] (fun v z wr => ∃ (k2 gg cc : Nat), k2 ≤ m ∧ z = .int .i64 (k2 : Int) ∧ v = .slice (some ⟨gg, 0, none⟩) k2 cc ∧ OwnInts wr wo.heap.size v (colTo M j k2) ∧ Below wo.heap.size wo wr) (fun _ z _ => m - (intOf z).toNat)
            case atStart => exact ⟨0, wo.heap.size, 0, Nat.zero_le _, rfl, rfl, hstart.out, (Below.refl _ _).alloc (Nat.le_refl _) _⟩
            case round =>
              clear hstart
              obtain ⟨k2, gg, cc, hk2, rfl, rfl, hO3, hB3⟩ := hrel
              have HO3 := Lib.hid hO3
              unfold OwnInts at HO3
              have hsz := hB3.size
              have hl := colTo_length M j k2
              rw [hl] at HO3
              have HL := Lib.hid hl
              have HB3 := Lib.hid hB3
              clear hO3 hl hB3
              by_cases hlk : k2 < m
              · have hdk : decide ((k2 : Int) < (m : Int)) = true := by simpa using hlk
                have hX := H.out.keeps (HBO.out.trans (HB3.out.mono hszo))
                have hrl := HRECT.out k2 hlk
                obtain ⟨-, -, hck, -⟩ := hX.out k2 (by rw [HM.out]; exact hlk)
                have hx := hX.ent (i := k2) (j := j) (by rw [HM.out]; exact hlk) (by rw [hrl]; exact hjn)
                rw [hrl] at hck
                have HN := Lib.hid (colTo_next M j k2)
                obtain ⟨z, hz⟩ : ∃ z, Lin.ent M k2 j = z := ⟨_, rfl⟩
                rw [hz] at hx HN
                have HBG := Lib.hid (fun g (hg : (Value.slice (some ⟨gg, 0, none⟩) k2 cc).ownBlock = some g) => (HO3.out.lt g hg).1)
                clear hX hrl hz
                go_wp2_with (at_builtin; refine wpList_append_own_at _ rfl _ _ 24 rfl wo.heap.size 3 i0 (.int .i64 0) 1 8 Try.underlying24 hi hz0 hz1 hz2 rfl (by decide) _ _ _ rfl (HO3.out.alloc _) ⟨wr.heap.size, 0, none⟩ 1 1 [.int .i64 z] rfl rfl ?c1 ?c2 ?c3 ?c4 ?c5 ?_)
                case c1 => intro j u hj; exact Mem.cell_new wr _ _ j u hj
                case c2 => intro u hu; simp at hu; subst hu; rfl
                case c3 => unfold maxLen; omega
                case c4 => omega
                case c5 => simp; omega
                intro v' w1 hown1 hgrow _ hob
                obtain ⟨gg2, cap, rfl, -⟩ := hown1.form (by omega)
                have hB4 : Below wo.heap.size wo w1 := (HB3.out.alloc hsz _).grown hgrow (by simp; omega) HBG.out
                have hO4 : OwnInts w1 wo.heap.size (.slice (some ⟨gg2, 0, none⟩) (k2 + 1) cap) (colTo M j (k2 + 1)) := by
                  unfold OwnInts
                  rw [HN.out, List.length_append, List.map_append, HL.out]
                  exact hown1
                have HO4 := Lib.hid hO4
                clear hown1 hgrow hob hO4
                go_wp2
                refine ⟨⟨k2 + 1, gg2, cap, by omega, by go_num, rfl, HO4.out, hB4⟩, ?_⟩
                simp [intOf]; omega
              · have hdk : decide ((k2 : Int) < (m : Int)) = false := by simpa using hlk
                have hE : k2 = m := by omega
                have hOI : OwnInts wr wo.heap.size (.slice (some ⟨gg, 0, none⟩) k2 cc) (colTo M j m) := by
                  have h := HO3.out
                  rw [hE] at h
                  unfold OwnInts
                  rw [colTo_length, hE]; exact h
                obtain ⟨hg1, hg2, hIr, -⟩ := hOI.known
                have HIR := Lib.hid hIr
                have HMM := Lib.hid (HO.out.keeps HB3.out)
                have hzl : (Lin.turnM j M).length = j := Lin.turnM_length j M
                have HOW := Lib.hid HMM.out.own
                rw [hzl] at HOW
                have HZL := Lib.hid hzl
                have hnn : u3.ownBlock ≠ some gg := fun e => by have := (HO.out.own.lt gg e).2; omega
                have HNN := Lib.hid hnn
                have hnr : Hid (gg ∉ blks R) := fun hm => by have := (HO.out.old hm).2; omega
                have HN := Lib.hid (HTN.out j)
                have HE := Lib.hid hE
                clear hOI hIr HO3 hzl hnn hE
                go_wp2_with (at_builtin; refine wpList_append_own_at _ rfl _ _ 29 rfl w.heap.size 24 i9 (.slice none 0 0) 1 24 Try.underlying29 hi9 hz90 hz91 hz92 rfl (by decide) _ _ _ rfl (HOW.out.alloc _) ⟨wr.heap.size, 0, none⟩ 1 1 [.slice (some ⟨gg, 0, none⟩) k2 cc] rfl rfl ?c1 ?c2 ?c3 ?c4 ?c5 ?_)
                case c1 => intro j u hj; exact Mem.cell_new wr _ _ j u hj
                case c2 => intro u hu; simp at hu; subst hu; rfl
                case c3 => unfold maxLen; omega
                case c4 => omega
                case c5 => simp; omega
                intro v' w3 hown1 hgrow _ hob
                have hBA : Below wr.heap.size wr (wr.alloc (.cells #[.slice (some ⟨gg, 0, none⟩) k2 cc] 24)) := (Below.refl _ _).alloc (Nat.le_refl _) _
                have hB5 : Below w.heap.size w w3 := ((HBO.out.trans (HB3.out.mono hszo)).trans (hBA.mono (by omega))).grown hgrow (by simp; omega) (fun g hg => (HO.out.own.lt g hg).1)
                have hO5 : OwnMx w3 w.heap.size v' (R ++ [(gg, cc)]) (Lin.turnM (j + 1) M) := by
                  rw [HN.out]
                  refine OwnMx.next (HMM.out.keeps hBA) (by omega) (by simp; omega) (HIR.out.keeps hBA) hnr.out HNN.out ?_ hgrow ?_
                  · rw [HZL.out, colTo_length, ← HE.out]; exact hown1
                  · rcases hob with e | e
                    · exact .inl e
                    · exact .inr ⟨_, e, by rw [World.size_alloc]; exact Nat.le_refl _⟩
                have HO5 := Lib.hid hO5
                clear hown1 hgrow hob hO5
                go_wp2
                go_roundw
                case rel => exact ⟨j + 1, R ++ [(gg, cc)], by omega, by go_num, HO5.out, hB5⟩
                case measure => simp [intOf]; omega
          · have hdj : decide ((j : Int) < (n0 : Int)) = false := by simpa using hjn
            have HE : Hid (j = n0) := by show j = n0; omega
            go_wp2
            go_ret
            exact ⟨_, R, rfl, by rw [E.out, ← HE.out]; exact HO.out, HBO.out⟩
        · have hdm : decide (0 < (m : Int)) = false := decide_eq_false (by omega)
          have hn00 : n0 = 0 := by
            rw [← HN0.out, List.eq_nil_of_length_eq_zero (show M.length = 0 by rw [HM.out]; omega)]; rfl
          have HE : Hid (j = n0) := by show j = n0; omega
          go_wp2
          go_ret
          exact ⟨_, R, rfl, by rw [E.out, ← HE.out]; exact HO.out, HBO.out⟩

end Go.Proofs.Ythjgpbcdcgagfaa
