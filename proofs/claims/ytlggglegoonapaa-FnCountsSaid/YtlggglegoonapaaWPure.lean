/-
  WALKS of chapter 4: IsPure, by impl and by spec.
-/
import Derived.Test.YtlggglegoonapaaWCnt5
import Derived.Deep.RegionHeld3
namespace Go.Proofs.Ytlggglegoonapaa
open Go.RowKit
open Sets

theorem equal7 (d : Nat) (xs ys : List Int) (hx : xs.length = 7) (hy : ys.length = 7) (w : World) :
    (Op.equalIn (d + 2) 49 (.agg (icells xs).toArray) (.agg (icells ys).toArray)).run Try.prog w = .ok (xs == ys) w :=
  equalIn_ints w d _ 3 7 (by kernel_rfl) (by kernel_rfl) intSize xs ys hx hy
theorem eql7 (xs ys : List Int) (hx : xs.length = 7) (hy : ys.length = 7) (w : World) :
    (binOp .eql 49 (.agg (icells xs).toArray) (.agg (icells ys).toArray)).run Try.prog w = .ok (.bool (xs == ys)) w := by
  rw [run_eql_struct, equal7 9998 xs ys hx hy w]; rfl

theorem load7 {w : World} {B : Nat} {L : List Int} (h : RowAt w B 49 L) (hL : L.length = 7) :
    (loadVar 49 ⟨B, 0, none⟩).run Try.prog w = .ok (.agg (icells L).toArray) w :=
  run_loadVar_row w B _ _ _ _ _ h (Try.underlying49) rfl (size7 L hL)

theorem eqlC (xs : List Int) (y0 y1 y2 y3 y4 y5 y6 : Int) (w : World) :
    (binOp .eql 49 (.agg (icells (cnts xs)).toArray) (.agg #[.int .i64 y0, .int .i64 y1, .int .i64 y2, .int .i64 y3, .int .i64 y4, .int .i64 y5, .int .i64 y6])).run Try.prog w = .ok (.bool (cnts xs == [y0, y1, y2, y3, y4, y5, y6])) w :=
  eql7 (cnts xs) [y0, y1, y2, y3, y4, y5, y6] (cnts_length _) rfl w

attribute [local go_sem ↓] eqlC

theorem RowAt.drew {w : World} {B : Nat} {t : TypeId} {L : List Int} (h : RowAt w B t L) : RowAt w.drew B t L := h

theorem RowAt.cells7 {w : World} {B : Nat} {t : TypeId} {y0 y1 y2 y3 y4 y5 y6 : Int} (h : RowAt w B t [y0, y1, y2, y3, y4, y5, y6]) : w.cell? ⟨B, 0, none⟩ = some (.int .i64 y0) ∧ w.cell? ⟨B, 1, none⟩ = some (.int .i64 y1) ∧ w.cell? ⟨B, 2, none⟩ = some (.int .i64 y2) ∧ w.cell? ⟨B, 3, none⟩ = some (.int .i64 y3) ∧ w.cell? ⟨B, 4, none⟩ = some (.int .i64 y4) ∧ w.cell? ⟨B, 5, none⟩ = some (.int .i64 y5) ∧ w.cell? ⟨B, 6, none⟩ = some (.int .i64 y6) :=
  ⟨h.cell 0 (by simp), h.cell 1 (by simp), h.cell 2 (by simp), h.cell 3 (by simp), h.cell 4 (by simp), h.cell 5 (by simp), h.cell 6 (by simp)⟩

theorem but_drew {w W : World} {b : Option Nat} (h : w.grownBy W b) : w.grownBy W.drew b := ⟨h.os, h.tape, h.output, h.size, h.block⟩

theorem implSize_b (s p : Nat) (hp : pc s = p) (hs : s < 64) (w : World) : Calls Try.prog 53 #[.int .i64 (s : Int)] w fun e w' => e = .returned (.int .i64 (p : Int)) ∧ w = w' := by
  subst hp; exact implSizeOf_nat s hs w

theorem ones_zero (xs : List Int) : ones xs 0 = List.replicate 7 0 := rfl
theorem ones_set (xs : List Int) (k p : Nat) (h : k < xs.length) (hp : pc (xs.getD k 0).toNat = p) : (ones xs k).set p (xs.length : Int) = ones xs (k + 1) := by
  have h7 := pc_le (xs.getD k 0).toNat
  rw [hp] at h7
  have e : ∀ j, ones xs j = [if cnt 0 (xs.take j) = 0 then 0 else (xs.length : Int), if cnt 1 (xs.take j) = 0 then 0 else (xs.length : Int), if cnt 2 (xs.take j) = 0 then 0 else (xs.length : Int), if cnt 3 (xs.take j) = 0 then 0 else (xs.length : Int), if cnt 4 (xs.take j) = 0 then 0 else (xs.length : Int), if cnt 5 (xs.take j) = 0 then 0 else (xs.length : Int), if cnt 6 (xs.take j) = 0 then 0 else (xs.length : Int)] := fun _ => rfl
  rw [e, e]
  simp only [cnt_take _ xs k h, hp]
  rcases (by omega : p = 0 ∨ p = 1 ∨ p = 2 ∨ p = 3 ∨ p = 4 ∨ p = 5 ∨ p = 6) with rfl | rfl | rfl | rfl | rfl | rfl | rfl <;> simp

theorem pure_no {n : Int} {xs : List Int} (h : isC n xs = false) : pureB n xs = false := by unfold pureB; rw [h]; rfl
theorem pure_yes {n : Int} {xs : List Int} (h : isC n xs = true) : pureB n xs = evenB xs := by unfold pureB; rw [h]; rfl

set_option maxRecDepth 100000 in
set_option maxHeartbeats 4000000 in
theorem implPure_any (n : Int) (a : Option Addr) (c : Nat) (xs : List Int) (hcap : xs.length ≤ c) (hlen : xs.length ≤ 1099511627776) (w : World) (h : Ints w a xs) :
    Calls Try.prog 23 #[cx n (.slice a xs.length c)] w fun e w' => e = .returned (.bool (pureB n xs)) ∧ Below w.heap.size w w' := by
  have hb0 : Below w.heap.size w (w.alloc (Obj.cells #[Value.int IntKind.i64 n, Value.slice a xs.length c] 26)) := (Below.refl _ _).alloc (Nat.le_refl _) _
  have htwo : Two (w.alloc (Obj.cells #[Value.int IntKind.i64 n, Value.slice a xs.length c] 26)) w.heap.size (.int .i64 n) (.slice a xs.length c) := Two.new _ _ _ _
  have H := Lib.hid (h.keeps hb0)
  have HB0 := Lib.hid hb0
  have HT := Lib.hid htwo
  have HA := Lib.hid h
  clear h hb0 htwo
  cases hC : isC n xs with
  | false =>
    have HC := Lib.hid hC
    have HF := Lib.hid (pure_no hC)
    clear hC
    go_enter Try.func23, Try.ntmps23
    go_wp2_with fail
    refine (implIsC_b n _ _ xs hcap false HC.out hlen _ H.out).mono ?_
    rintro e w1 ⟨rfl, hb1⟩
    go_wp2
    go_ret
    exact ⟨by rw [HF.out]; rfl, HB0.out.trans (hb1.mono (by simp))⟩
  | true =>
    have HC := Lib.hid hC
    have HF := Lib.hid (pure_yes hC)
    clear hC
    go_enter Try.func23, Try.ntmps23
    go_wp2_with fail
    refine (implIsC_b n _ _ xs hcap true HC.out hlen _ H.out).mono ?_
    rintro e w1 ⟨rfl, hb1⟩
    have HB1 : Hid (Below w.heap.size w w1) := HB0.out.trans (hb1.mono (by simp))
    have hbz : Below w1.heap.size w1 (w1.alloc (.cells z7 49)) := (Below.refl _ _).alloc (Nat.le_refl _) _
    have htw := (HT.out.keeps hb1).keeps hbz
    have HT1 := Lib.hid htw
    have HR1 := Lib.hid (RowAt.new w1)
    have hlt0 : w.heap.size < w1.heap.size := (HT.out.keeps hb1).1
    obtain ⟨t0, t1, t2, _, _⟩ := htw
    have HBW : Hid (Below w.heap.size w (w1.alloc (.cells z7 49))) := HB1.out.trans (hbz.mono HB1.out.size)
    clear hb1 hbz
    go_wp2
    generalize hW : w1.alloc (Obj.cells z7 49) = W at *
    clear hW
    obtain ⟨B, hB⟩ : ∃ B, w1.heap.size = B := ⟨_, rfl⟩
    rw [hB] at HR1 hlt0 ⊢
    clear hB
    go_loopw [12] (fun i wr => ∃ k : Nat, k ≤ xs.length ∧ i = .int .i64 (k : Int) ∧ W.grownBy wr (some B) ∧ RowAt wr B 49 (ones xs k)) (fun i _ => xs.length - (intOf i).toNat)
    case atStart => exact ⟨0, Nat.zero_le _, rfl, Mem.but_refl _ _, HR1.out⟩
    case round =>
      clear HR1 t0 t1 t2
      obtain ⟨k, hk, rfl, hG, hR⟩ := hrel
      have HG := Lib.hid hG
      have HR := Lib.hid hR
      have ht := HT1.out.far hG (by omega)
      have HT2 := Lib.hid ht
      obtain ⟨t0, t1, t2, _, _⟩ := ht
      have hBw : Below w.heap.size w wr := HBW.out.trans (Mem.below_of_but hG (by omega) HBW.out.size)
      have HBw := Lib.hid hBw
      clear hG hR hBw
      have HI := Lib.hid (HA.out.keeps HBw.out)
      by_cases hlt : k < xs.length
      · obtain ⟨b0, o, hae, g⟩ := HI.out k hlt
        obtain ⟨t, ht, ht64⟩ := isC_at HC.out k hlt
        obtain ⟨p, hp⟩ : ∃ p, pc t = p := ⟨_, rfl⟩
        have hp7 := pc_le t
        rw [hp] at hp7
        have g1 := HR.out.cell p (by rw [ones_length]; omega)
        have f1 := HR.out.frozen p
        have hS := HR.out.set p (xs.length : Int)
        rw [ones_set xs k p hlt (by rw [ht]; exact hp)] at hS
        have HS := Lib.hid hS
        have HP := Lib.hid hp
        rw [ht] at g
        generalize (ones xs k).getD p 0 = y at g1
        obtain rfl := hae
        have hpn : p < 7 := by omega
        have hpi : (p : Int) < 7 := by omega
        clear ht hp hS
        go_wp2_with fail
        refine wp_region_tail 6 (by kernel_rfl) (by kernel_rfl) ?_
        simp only [List.take_succ_cons, List.take_zero, List.drop_succ_cons, List.drop_zero]
        repeat (first | still_step | still_call ((implSize_b t p HP.out ht64 _).mono fun _ _ ⟨he, hw⟩ => ⟨he, hw.symm⟩))
        refine wpStill_nil ?_
        go_wp2
        go_roundw
        case rel => exact ⟨k + 1, by omega, by go_num, but_drew (HG.out.trans (Mem.but_setCell _ _ _ _)), HS.out⟩
        case measure => simp [intOf]; omega
      · have E := Lib.hid (show k = xs.length by omega)
        obtain ⟨y0, y1, y2, y3, y4, y5, y6, hY⟩ : ∃ y0 y1 y2 y3 y4 y5 y6 : Int, ones xs k = [y0, y1, y2, y3, y4, y5, y6] := ⟨_, _, _, _, _, _, _, rfl⟩
        have heq : (cnts xs == [y0, y1, y2, y3, y4, y5, y6]) = evenB xs := by rw [← hY, E.out]; exact cnts_ones xs
        have hRY : RowAt wr B 49 [y0, y1, y2, y3, y4, y5, y6] := by rw [← hY]; exact HR.out
        have HRY := Lib.hid hRY
        have HEQ := Lib.hid heq
        clear hY heq hRY
        go_wp2_with fail
        go_region_held3 (fun w' => w'.cell? ⟨w.heap.size, 0, none⟩ = some (.int .i64 n) ∧ w'.cell? ⟨w.heap.size, 1, none⟩ = some (.slice a xs.length c) ∧ w'.cell? ⟨B, 0, none⟩ = some (.int .i64 y0) ∧ w'.cell? ⟨B, 1, none⟩ = some (.int .i64 y1) ∧ w'.cell? ⟨B, 2, none⟩ = some (.int .i64 y2) ∧ w'.cell? ⟨B, 3, none⟩ = some (.int .i64 y3) ∧ w'.cell? ⟨B, 4, none⟩ = some (.int .i64 y4) ∧ w'.cell? ⟨B, 5, none⟩ = some (.int .i64 y5) ∧ w'.cell? ⟨B, 6, none⟩ = some (.int .i64 y6) ∧ Below wr.heap.size wr w') (first | (exact ⟨HT2.out.drew.2.1, HT2.out.drew.2.2.1, HRY.out.drew.cells7.1, HRY.out.drew.cells7.2.1, HRY.out.drew.cells7.2.2.1, HRY.out.drew.cells7.2.2.2.1, HRY.out.drew.cells7.2.2.2.2.1, HRY.out.drew.cells7.2.2.2.2.2.1, HRY.out.drew.cells7.2.2.2.2.2.2, bdrew1 _⟩) | (exact ⟨(HT2.out.keeps (below_fresh hbA)).2.1, (HT2.out.keeps (below_fresh hbA)).2.2.1, (HRY.out.keeps (below_fresh hbA)).cells7.1, (HRY.out.keeps (below_fresh hbA)).cells7.2.1, (HRY.out.keeps (below_fresh hbA)).cells7.2.2.1, (HRY.out.keeps (below_fresh hbA)).cells7.2.2.2.1, (HRY.out.keeps (below_fresh hbA)).cells7.2.2.2.2.1, (HRY.out.keeps (below_fresh hbA)).cells7.2.2.2.2.2.1, (HRY.out.keeps (below_fresh hbA)).cells7.2.2.2.2.2.2, below_fresh hbA⟩)) (first | (go_at_call 48; with_reducible refine (countSizes_any _ _ xs (isC_ok HC.out) hlen _ (Ints.drew HI.out)).mono ?_; rintro e wA ⟨rfl, hbA⟩))
        have hW : Below wr.heap.size wr wA := below_fresh hbA
        go_wp2
        go_ret
        exact ⟨by rw [HF.out, ← HEQ.out]; rfl, HBw.out.trans (hW.mono HBw.out.size)⟩

end Go.Proofs.Ytlggglegoonapaa
