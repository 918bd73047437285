/-
  TEXTS of one claim, put together: WMonI7, WMonI8, WPure, WPure2.
-/
import Derived.Test.YtmonaiojejbhkaaJg40
import Derived.Test.YtmonaiojejbhkaaWMx4
import Derived.Test.YtmonaiojejbhkaaJg15
import Derived.Deep.RegionHeld3
import Derived.BigQuiet
/-! WALKS: impl's chapter 12: FirstMonomials. -/

namespace Go.Proofs.Ytmonaiojejbhkaa
open Go.RowKit
open Sets Hn Kk Mon

theorem slice_toM (g k cap r : Nat) (hr : r ≤ cap) (w : World) : (Instr.sliceAt 28 (.slice (some ⟨g, 0, none⟩) k cap) none (some (.int .i64 (r : Int))) none).run Try.prog w = .ok (.slice (some ⟨g, 0, none⟩) r cap) w := by
  have h1 : ¬ (cap < r) := by omega
  by_cases h : cap = 0
  · have e : r = 0 := by omega
    subst h
    subst e
    go_simp
  · go_simp
theorem slice_nilM (w : World) : (Instr.sliceAt 28 (.slice none 0 0) none (some (.int .i64 0)) none).run Try.prog w = .ok (.slice none 0 0) w := by
  go_simp
theorem OwnMx.kinds {w : World} {base : Nat} {v : Value} {R : List (Nat × Nat)} {M : Lin.Mat} (h : OwnMx w base v R M) : (v = .slice none 0 0 ∧ M = []) ∨ ∃ g c, v = .slice (some ⟨g, 0, none⟩) M.length c ∧ M.length ≤ c ∧ base ≤ g ∧ g < w.heap.size ∧ Mx w g (some ⟨g, 0, none⟩) R M := by
  obtain ⟨go, ao, co, hv', h2, h3⟩ := h.mx
  rcases h.own.2 with ⟨hv, h0⟩ | ⟨g, cap, cur, hv, _, _, hcap, _⟩
  · exact .inl ⟨hv, List.eq_nil_of_length_eq_zero h0⟩
  · obtain ⟨q1, q2⟩ := World.ownsRow.lt h.own g (by rw [hv]; rfl)
    refine .inr ⟨g, cap, hv, hcap, q1, q2, ⟨h.len, h.nodup, fun i hi => ?_, fun i hi => (h.rows i hi).2, h.apart g (by rw [hv]; rfl)⟩⟩
    obtain ⟨e1, e2, e3, e4⟩ := h3.out i hi
    rw [hv'] at hv
    injection hv with hv
    rw [e1] at hv
    injection hv with hv
    injection hv with hv
    subst hv
    exact ⟨rfl, e2, e3, e4⟩
/-- Its front. -/
theorem front_has {w : World} {base g c : Nat} {R : List (Nat × Nat)} {M : Lin.Mat} (m : Nat) (hm : m ≤ M.length) (hb : base ≤ g) (hg : g < w.heap.size) (hr : ∀ z, z ∈ blks R → base ≤ z ∧ z < w.heap.size) (h : Mx w g (some ⟨g, 0, none⟩) R M) : HasMx w base (.slice (some ⟨g, 0, none⟩) m c) (M.take m) := by
  refine ⟨_, c, g, R.take m, ?_, fun _ => ⟨hb, hg⟩, fun z hz => hr z (((List.take_sublist m R).map _).subset hz), h.front m⟩
  rw [List.length_take, Nat.min_eq_left hm]
theorem HasMx.empty (w : World) (base : Nat) : HasMx w base (.slice none 0 0) [] := ⟨_, _, 0, [], rfl, fun h => absurd h (Nat.lt_irrefl 0), fun g hg => by simp at hg, ⟨rfl, by simp, fun i hi => absurd hi (Nat.not_lt_zero _), fun i hi => absurd hi (Nat.not_lt_zero _), by simp⟩⟩
theorem HasMx.keeps {w w' : World} {base : Nat} {v : Value} {M : Lin.Mat} (h : HasMx w base v M) (hb : Below w.heap.size w w') : HasMx w' base v M := by
  obtain ⟨ao, co, go, R, h1, h2, h3, h4⟩ := h
  have hs := hb.size
  exact ⟨ao, co, go, R, h1, fun h => by have := h2 h; omega, fun g hg => by have := h3 g hg; omega, h4.keeps hb⟩

set_option maxRecDepth 100000 in
set_option maxHeartbeats 2000000 in
theorem implFirstM_any (n d m : Int) (w : World) : Calls Try.prog 23 #[.int .i64 n, .int .i64 d, .int .i64 m] w fun e w' => ∃ v, e = .returned v ∧ HasMx w' w.heap.size v (firstM n d m) ∧ Below w.heap.size w w' := by
  have hle := monsZ_le n d
  have HC := Lib.hid (implMons_any n d w)
  have HDEF : Hid (firstM n d m = if (monsZ n d).length ≠ 0 ∧ 0 ≤ m ∧ m ≤ ((monsZ n d).length : Int) then (monsZ n d).take m.toNat else []) := by
    have : firstM n d m = if (monsZ n d).length ≠ 0 ∧ 0 ≤ m ∧ m ≤ ((monsZ n d).length : Int) then (monsZ n d).take m.toNat else [] := rfl
    exact this
  obtain ⟨F, hF⟩ : ∃ F, firstM n d m = F := ⟨_, rfl⟩
  rw [hF] at HDEF ⊢
  obtain ⟨M, hM⟩ : ∃ M : Lin.Mat, monsZ n d = M := ⟨_, rfl⟩
  rw [hM] at HDEF hle HC
  clear hF hM
  by_cases h0 : m < 0
  · have hd0 : decide (m < 0) = true := by simpa using h0
    have HE : Hid (F = []) := by
      have : F = [] := by rw [HDEF.out, if_neg (by omega)]
      exact this
    clear h0 hle
    go_enter Try.func23, Try.ntmps23
    go_wp2_with fail
    refine HC.out.mono ?_
    rintro e w1 ⟨v, R, rfl, hO, hB⟩
    have HB := Lib.hid hB
    clear hO hB
    go_wp2
    go_ret
    exact ⟨_, rfl, by rw [HE.out]; exact HasMx.empty _ _, HB.out⟩
  have hd0 : decide (m < 0) = false := by simpa using h0
  obtain ⟨K, rfl⟩ : ∃ K : Nat, m = (K : Int) := ⟨m.toNat, by omega⟩
  obtain ⟨L, hL⟩ : ∃ L, M.length = L := ⟨_, rfl⟩
  have HL := Lib.hid hL
  rw [hL] at hle
  clear h0 hL
  go_enter Try.func23, Try.ntmps23
  go_wp2_with fail
  refine HC.out.mono ?_
  rintro e w1 ⟨v, R, rfl, hO, hB⟩
  have HB := Lib.hid hB
  by_cases hK : L < K
  · have HE : Hid (F = []) := by
      have : F = [] := by rw [HDEF.out, if_neg (by have := HL.out; omega)]
      exact this
    obtain ⟨go, ao, co, rfl, _, _⟩ := hO.mx
    have hd1 : decide ((L : Int) < (K : Int)) = true := by simp; omega
    have hd2 : decide (L < K) = true := by simpa using hK
    rw [HL.out]
    clear hO hB
    go_wp2
    go_ret
    exact ⟨_, rfl, by rw [HE.out]; exact HasMx.empty _ _, HB.out⟩
  · have hd1 : decide ((L : Int) < (K : Int)) = false := by simp; omega
    have hd2 : decide (L < K) = false := by simpa using hK
    have HE : Hid (F = M.take K) := by
      have : F = M.take K := by
        rw [HDEF.out]
        have hl := HL.out
        by_cases hz : M.length = 0
        · rw [if_neg (by omega), List.eq_nil_of_length_eq_zero hz]; simp
        · rw [if_pos (by omega)]; rfl
      exact this
    rcases hO.kinds with ⟨rfl, hnil⟩ | ⟨g, c, rfl, hc, hg1, hg2, hmx⟩
    · have hL0 : L = 0 := by rw [← HL.out, hnil]; rfl
      subst hL0
      obtain rfl : K = 0 := by omega
      have hsl := slice_nilM
      clear hO hB hnil
      go_wp2
      go_ret
      exact ⟨_, rfl, by rw [HE.out, List.take_zero]; exact HasMx.empty _ _, HB.out⟩
    · have HP := Lib.hid (front_has (c := c) K (by rw [HL.out]; omega) hg1 hg2 (fun z hz => hO.old hz) hmx)
      rw [HL.out] at hc ⊢
      have hsl := slice_toM g L c K (by omega)
      clear hO hB hg1 hg2 hmx
      go_wp2
      go_ret
      exact ⟨_, rfl, by rw [HE.out]; exact HP.out, HB.out⟩

end Go.Proofs.Ytmonaiojejbhkaa

/-! How much stands in the lists of monomials; the contracts in the laws' form. -/

namespace Go.Proofs.Ytmonaiojejbhkaa
open Go.RowKit
open Sets Hn Kk Mon

theorem mons_six (n d : Int) (r : List Int) (h : r ∈ monsZ n d) : r.length ≤ 6 := by
  have h1 := (monsZ_row n d r h).1
  have h2 : monB n d = true := by
    cases hb : monB n d with
    | true => rfl
    | false => rw [monsZ_no hb] at h; cases h
  have h3 := (monB_iff n d).1 h2
  omega
theorem monsZ_off (n d : Int) : 1 + offM (monsZ n d) (monsZ n d).length ≤ 1099511627776 := by
  have h1 := offM_same (monsZ n d) (mons_six n d)
  have h2 := monsZ_le n d
  omega
theorem firstM_off (n d m : Int) : 1 + offM (firstM n d m) (firstM n d m).length ≤ 1099511627776 := by
  have h1 := offM_same (firstM n d m) (fun r hr => mons_six n d r (firstM_row n d m r hr))
  have h2 := firstM_le n d m
  omega
theorem specCountM_b (n d : Int) (w : World) : Calls Try.prog 26 #[.int .i64 n, .int .i64 d] w fun e w' => e = .returned (.int .i64 (countZ n d)) ∧ Below w.heap.size w w' :=
  (specCountM_any n d w).mono fun e w' ⟨h1, h2⟩ => ⟨h1, by subst h2; exact Below.refl _ _⟩

end Go.Proofs.Ytmonaiojejbhkaa

/-! WALKS of chapter 4: IsPure, by impl and by spec. -/

namespace Go.Proofs.Ytmonaiojejbhkaa
open Go.RowKit
open Sets

theorem RowAt.drew {w : World} {B : Nat} {t : TypeId} {L : List Int} (h : RowAt w B t L) : RowAt w.drew B t L := h

theorem RowAt.cells7 {w : World} {B : Nat} {t : TypeId} {y0 y1 y2 y3 y4 y5 y6 : Int} (h : RowAt w B t [y0, y1, y2, y3, y4, y5, y6]) : w.cell? ⟨B, 0, none⟩ = some (.int .i64 y0) ∧ w.cell? ⟨B, 1, none⟩ = some (.int .i64 y1) ∧ w.cell? ⟨B, 2, none⟩ = some (.int .i64 y2) ∧ w.cell? ⟨B, 3, none⟩ = some (.int .i64 y3) ∧ w.cell? ⟨B, 4, none⟩ = some (.int .i64 y4) ∧ w.cell? ⟨B, 5, none⟩ = some (.int .i64 y5) ∧ w.cell? ⟨B, 6, none⟩ = some (.int .i64 y6) :=
  ⟨h.cell 0 (by simp), h.cell 1 (by simp), h.cell 2 (by simp), h.cell 3 (by simp), h.cell 4 (by simp), h.cell 5 (by simp), h.cell 6 (by simp)⟩

theorem but_drew {w W : World} {b : Option Nat} (h : w.grownBy W b) : w.grownBy W.drew b := ⟨h.os, h.tape, h.output, h.size, h.block⟩

theorem ones_zero (xs : List Int) : ones xs 0 = List.replicate 7 0 := rfl
theorem ones_set (xs : List Int) (k p : Nat) (h : k < xs.length) (hp : pc (xs.getD k 0).toNat = p) : (ones xs k).set p (xs.length : Int) = ones xs (k + 1) := by
  have h7 := pc_le (xs.getD k 0).toNat
  rw [hp] at h7
  have e : ∀ j, ones xs j = [if cnt 0 (xs.take j) = 0 then 0 else (xs.length : Int), if cnt 1 (xs.take j) = 0 then 0 else (xs.length : Int), if cnt 2 (xs.take j) = 0 then 0 else (xs.length : Int), if cnt 3 (xs.take j) = 0 then 0 else (xs.length : Int), if cnt 4 (xs.take j) = 0 then 0 else (xs.length : Int), if cnt 5 (xs.take j) = 0 then 0 else (xs.length : Int), if cnt 6 (xs.take j) = 0 then 0 else (xs.length : Int)] := fun _ => rfl
  rw [e, e]
  simp only [cnt_take _ xs k h, hp]
  rcases (by omega : p = 0 ∨ p = 1 ∨ p = 2 ∨ p = 3 ∨ p = 4 ∨ p = 5 ∨ p = 6) with rfl | rfl | rfl | rfl | rfl | rfl | rfl <;> simp

theorem pure_no {n : Int} {xs : List Int} (h : isC n xs = false) : pureB n xs = false := by unfold pureB; rw [h]; rfl
theorem pure_yes {n : Int} {xs : List Int} (h : isC n xs = true) : pureB n xs = evenB xs := by unfold pureB; rw [h]; rfl

end Go.Proofs.Ytmonaiojejbhkaa

/-! WALKS of chapter 4: spec.IsPure. -/

namespace Go.Proofs.Ytmonaiojejbhkaa
open Go.RowKit
open Sets

/-- What spec.l2Size answers at whatever number. -/
def szF : Nat → Int → Int → Int
  | 0, _, m => m
  | f + 1, t, m => if 0 < t then szF f (t / 2) (wrap64 (m + bits BinOp.and IntKind.i64 t 1)) else m
def szI (x : Int) : Int := szF x.toNat x 0
theorem szF_done (f : Nat) (t m : Int) (h : ¬ 0 < t) : szF f t m = m := by
  cases f with
  | zero => rfl
  | succ f => unfold szF; rw [if_neg h]

set_option maxRecDepth 100000 in
set_option maxHeartbeats 2000000 in
theorem l2Size_all (s0 : Int) (w : World) : Calls Try.prog 58 #[.int .i64 s0] w fun e w' => e = .returned (.int .i64 (szI s0)) ∧ w = w' := by
  obtain ⟨V, hV⟩ : ∃ V, szI s0 = V := ⟨_, rfl⟩
  have HV := Lib.hid hV
  rw [hV]
  clear hV
  go_enter Try.func58, Try.ntmps58
  go_wp2
  go_loop [0, 3] (fun x n => ∃ (f : Nat) (t m : Int), x = .int .i64 t ∧ n = .int .i64 m ∧ t.toNat ≤ f ∧ szF f t m = V) (fun x _ => (intOf x).toNat)
  case atStart => exact ⟨s0.toNat, s0, 0, rfl, rfl, Nat.le_refl _, HV.out⟩
  case round =>
    obtain ⟨f, t, m, rfl, rfl, hf, he⟩ := hrel
    have HE := Lib.hid he
    clear he
    by_cases hpos : 0 < t
    · obtain ⟨g, rfl⟩ : ∃ g, f = g + 1 := ⟨f - 1, by omega⟩
      have hs : szF g (t / 2) (wrap64 (m + bits BinOp.and IntKind.i64 t 1)) = V := by
        have h := HE.out
        unfold szF at h
        rwa [if_pos hpos] at h
      have HS := Lib.hid hs
      clear hs
      go_wp2
      go_round
      case rel => exact ⟨g, t / 2, _, rfl, rfl, by omega, HS.out⟩
      case measure => simp [intOf]; omega
    · have hm : m = V := by rw [← HE.out]; exact (szF_done f t m hpos).symm
      go_wp2
      go_ret
      exact ⟨by rw [← hm]; rfl, rfl⟩

set_option maxRecDepth 100000 in
set_option maxHeartbeats 4000000 in
theorem specPure_any (n : Int) (a : Option Addr) (c : Nat) (xs : List Int) (hlen : xs.length ≤ 1099511627776) (w : World) (h : Ints w a xs) :
    Calls Try.prog 28 #[cx n (.slice a xs.length c)] w fun e w' => e = .returned (.bool (pureB n xs)) ∧ Below w.heap.size w w' := by
  have hb0 : Below w.heap.size w (w.alloc (Obj.cells #[Value.int IntKind.i64 n, Value.slice a xs.length c] 33)) := (Below.refl _ _).alloc (Nat.le_refl _) _
  have htwo : Two (w.alloc (Obj.cells #[Value.int IntKind.i64 n, Value.slice a xs.length c] 33)) w.heap.size (.int .i64 n) (.slice a xs.length c) := Two.new _ _ _ _
  have H := Lib.hid (h.keeps hb0)
  have HB0 := Lib.hid hb0
  have HT := Lib.hid htwo
  clear h hb0 htwo
  cases hC : isC n xs with
  | false =>
    have HC := Lib.hid hC
    have HF := Lib.hid (pure_no hC)
    clear hC
    go_enter Try.func28, Try.ntmps28
    go_wp2
    generalize hW : (w.alloc (Obj.cells #[Value.int IntKind.i64 n, Value.slice a xs.length c] 33)) = W at *
    clear hW
    go_loopw [3] (fun i wr => ∃ k m : Nat, 1 ≤ k ∧ i = .int .i64 (k : Int) ∧ wr = W.drewN m ∧ (k ≤ xs.length ∨ k = 1)) (fun i _ => xs.length - (intOf i).toNat)
    case atStart => exact ⟨1, 0, Nat.le_refl _, rfl, rfl, Or.inr rfl⟩
    case round =>
      obtain ⟨k, m, hk1, rfl, rfl, hk⟩ := hrel
      obtain ⟨t0, t1, t2, _, _⟩ := HT.out
      by_cases hlt : k < xs.length
      · obtain ⟨b0, o, rfl, g⟩ := H.out k hlt
        obtain ⟨b1, o1, e1, g0⟩ := H.out 0 (by omega)
        cases e1
        generalize xs.getD k 0 = x at g
        generalize xs.getD 0 0 = y at g0
        rw [Nat.add_zero] at g0
        have h0l : (0 : Int) < (xs.length : Int) := by omega
        have hkl : (k : Int) < (xs.length : Int) := by omega
        by_cases e : szI x = szI y
        · have hq : (szI x != szI y) = false := by simp [e]
          clear e
          go_wp2_with fail
          go_quiet ((first | (go_at_call 58; with_reducible exact quietly (l2Size_all x _)) | (go_at_call 58; with_reducible exact quietly (l2Size_all y _))))
          go_wp2
          go_roundw
          case rel => exact ⟨k + 1, _, by omega, by go_num, rfl, Or.inl (by omega)⟩
          case measure => simp [intOf]; omega
        · have hq : (szI x != szI y) = true := by simp [e]
          clear e
          go_wp2_with fail
          go_quiet ((first | (go_at_call 58; with_reducible exact quietly (l2Size_all x _)) | (go_at_call 58; with_reducible exact quietly (l2Size_all y _))))
          go_wp2
          go_ret
          exact ⟨by rw [HF.out]; rfl, (by first | exact bdrew HB0.out _ | exact bdrew (bdrew HB0.out _) _ | exact (bdrew HB0.out _).drew)⟩
      · go_wp2_with fail
        refine (specIsC_b n _ _ xs false HC.out hlen _ (Ints.drewN H.out m)).mono ?_
        rintro e w1 ⟨rfl, hb1⟩
        go_wp2
        go_ret
        exact ⟨by rw [HF.out]; rfl, (bdrew HB0.out m).trans (hb1.mono (bdrew HB0.out m).size)⟩
  | true =>
    have HC := Lib.hid hC
    have HF := Lib.hid (pure_yes hC)
    clear hC
    go_enter Try.func28, Try.ntmps28
    go_wp2
    generalize hW : (w.alloc (Obj.cells #[Value.int IntKind.i64 n, Value.slice a xs.length c] 33)) = W at *
    clear hW
    go_loopw [3] (fun i wr => ∃ k m : Nat, 1 ≤ k ∧ i = .int .i64 (k : Int) ∧ wr = W.drewN m ∧ (k ≤ xs.length ∨ k = 1) ∧ ∀ j, j < k → j < xs.length → pc (xs.getD j 0).toNat = pc (xs.getD 0 0).toNat) (fun i _ => xs.length - (intOf i).toNat)
    case atStart => exact ⟨1, 0, Nat.le_refl _, rfl, rfl, Or.inr rfl, fun j hj _ => by rw [show j = 0 by omega]⟩
    case round =>
      obtain ⟨k, m, hk1, rfl, rfl, hk, hq⟩ := hrel
      have HQ := Lib.hid hq
      clear hq
      obtain ⟨t0, t1, t2, _, _⟩ := HT.out
      by_cases hlt : k < xs.length
      · obtain ⟨b0, o, rfl, g⟩ := H.out k hlt
        obtain ⟨b1, o1, e1, g0⟩ := H.out 0 (by omega)
        cases e1
        obtain ⟨x, hx, hx64⟩ := isC_at HC.out k hlt
        obtain ⟨y, hy, hy64⟩ := isC_at HC.out 0 (by omega)
        obtain ⟨p, hp⟩ : ∃ p, pc x = p := ⟨_, rfl⟩
        obtain ⟨r, hr⟩ : ∃ r, pc y = r := ⟨_, rfl⟩
        rw [hx] at g
        rw [hy] at g0
        rw [Nat.add_zero] at g0
        have HX := Lib.hid hx
        have HY := Lib.hid hy
        have HP := Lib.hid hp
        have HR := Lib.hid hr
        have h0l : (0 : Int) < (xs.length : Int) := by omega
        have hkl : (k : Int) < (xs.length : Int) := by omega
        clear hx hy hp hr
        by_cases e : p = r
        · have hq : ((p : Int) != (r : Int)) = false := by simp; omega
          have HE := Lib.hid e
          clear e
          go_wp2_with fail
          go_quiet ((first | (go_at_call 58; with_reducible exact quietly (l2Size_b x p HP.out hx64 _)) | (go_at_call 58; with_reducible exact quietly (l2Size_b y r HR.out hy64 _))))
          go_wp2
          go_roundw
          case rel =>
            refine ⟨k + 1, _, by omega, by go_num, rfl, Or.inl (by omega), fun j hj hjl => ?_⟩
            by_cases e : j = k
            · subst e; rw [HX.out, HY.out]; show pc x = pc y; rw [HP.out, HR.out, HE.out]
            · exact HQ.out j (by omega) hjl
          case measure => simp [intOf]; omega
        · have hq : ((p : Int) != (r : Int)) = true := by simp; omega
          have HE : Hid (evenB xs = false) := by
            have : evenB xs = false := even_no hlt (by rw [HX.out, HY.out]; show pc x ≠ pc y; rw [HP.out, HR.out]; exact e)
            exact this
          clear e
          go_wp2_with fail
          go_quiet ((first | (go_at_call 58; with_reducible exact quietly (l2Size_b x p HP.out hx64 _)) | (go_at_call 58; with_reducible exact quietly (l2Size_b y r HR.out hy64 _))))
          go_wp2
          go_ret
          exact ⟨by rw [HF.out, HE.out]; rfl, (by first | exact bdrew HB0.out _ | exact bdrew (bdrew HB0.out _) _ | exact (bdrew HB0.out _).drew)⟩
      · have HE : Hid (evenB xs = true) := by
          have : evenB xs = true := even_yes fun j hj => HQ.out j (by omega) hj
          exact this
        go_wp2_with fail
        refine (specIsC_b n _ _ xs true HC.out hlen _ (Ints.drewN H.out m)).mono ?_
        rintro e w1 ⟨rfl, hb1⟩
        go_wp2
        go_ret
        exact ⟨by rw [HF.out, HE.out]; rfl, (bdrew HB0.out m).trans (hb1.mono (bdrew HB0.out m).size)⟩

end Go.Proofs.Ytmonaiojejbhkaa
