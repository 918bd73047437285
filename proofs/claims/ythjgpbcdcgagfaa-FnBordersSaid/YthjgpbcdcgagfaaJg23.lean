/-
  TEXTS of one claim, put together: WMatS4, WMatJ, Hom2, Hom3.
-/
import Derived.Test.YthjgpbcdcgagfaaWMatIB
import Derived.Test.YthjgpbcdcgagfaaJg17
import Derived.Test.YthjgpbcdcgagfaaJg7
import Derived.Test.YthjgpbcdcgagfaaWMatS3
import Derived.Test.YthjgpbcdcgagfaaJg4
/-! WALKS of chapter 13 (spec): BorderMatrix. -/

namespace Go.Proofs.Ythjgpbcdcgagfaa
open Go.RowKit
open Sets

theorem in_yes {k : Int} (h1 : 1 ≤ k) (h6 : k ≤ 6) : inB 1 6 k = true := decide_eq_true ⟨h1, h6⟩
theorem in_not {k : Int} (h : ¬(1 ≤ k ∧ k ≤ 6)) : inB 1 6 k = false := decide_eq_false h

set_option maxRecDepth 100000 in
set_option maxHeartbeats 4000000 in
theorem specBordMx_any (n : Int) (a : Option Addr) (c : Nat) (xs : List Int) (hlen : xs.length ≤ 1099511627776) (k : Int) (w : World) (h : Ints w a xs) :
    Calls Try.prog 23 #[cx n (.slice a xs.length c), .int .i64 k] w fun e w' => ∃ v R, e = .returned v ∧ OwnMx w' w.heap.size v R (bordZ n xs k) ∧ Below w.heap.size w w' := by
  have hb0 : Below w.heap.size w (w.alloc (Obj.cells #[Value.int IntKind.i64 n, Value.slice a xs.length c] 26)) := (Below.refl _ _).alloc (Nat.le_refl _) _
  have htwo := Two.new w (.int .i64 n) (.slice a xs.length c) 26
  have H := Lib.hid (h.keeps hb0)
  have HB0 := Lib.hid hb0
  have HT := Lib.hid htwo
  have HNO : Hid (¬(isC n xs = true ∧ 1 ≤ k ∧ k ≤ 6) → bordZ n xs k = []) := by
    have : ¬(isC n xs = true ∧ 1 ≤ k ∧ k ≤ 6) → bordZ n xs k = [] := fun h => if_neg h
    exact this
  have HYES : Hid (isC n xs = true ∧ 1 ≤ k ∧ k ≤ 6 → bordZ n xs k = borM (sized (k - 1) (faces n xs)) (sized k (faces n xs))) := by
    have : isC n xs = true ∧ 1 ≤ k ∧ k ≤ 6 → bordZ n xs k = borM (sized (k - 1) (faces n xs)) (sized k (faces n xs)) := fun h => if_pos h
    exact this
  obtain ⟨Z, hZ⟩ : ∃ Z, bordZ n xs k = Z := ⟨_, rfl⟩
  rw [hZ] at HNO HYES ⊢
  have HL := Lib.hid hlen
  clear h hb0 htwo hZ
  go_enter Try.func23, Try.ntmps23
  obtain ⟨t0, t1, t2, t3, t4⟩ := HT.out
  go_wp2_with fail
  refine (specIsC_any n _ _ xs hlen _ H.out).mono ?_
  rintro e w1 ⟨rfl, hb1⟩
  have HB1 : Hid (Below w.heap.size w w1) := HB0.out.trans (hb1.mono HB0.out.size)
  have HT1 := Lib.hid (HT.out.keeps hb1)
  have H1 := Lib.hid (H.out.keeps hb1)
  have hz1 := HB1.out.size
  clear hb1 t0 t1 t2 t3 t4
  cases hc : isC n xs with
  | false =>
    have E := Lib.hid (HNO.out (by rw [hc]; simp))
    clear hc
    go_wp2
    go_ret
    exact ⟨_, [], rfl, by rw [E.out]; exact OwnMx.lit _ _ hz1, HB1.out.alloc hz1 _⟩
  | true =>
    have HC := Lib.hid hc
    clear hc
    by_cases hk : 1 ≤ k ∧ k ≤ 6
    · have E := Lib.hid (HYES.out ⟨HC.out, hk⟩)
      have HIN := Lib.hid (fun W => in_b k 1 6 true (in_yes hk.1 hk.2) W)
      have HBM := Lib.hid (l13Border_any n a c xs HL.out k (by omega) (by omega) w1 H1.out)
      clear hk
      go_wp2_with fail
      refine (HIN.out _).mono ?_
      rintro e w2 ⟨rfl, rfl⟩
      obtain ⟨t0, t1, t2, t3, t4⟩ := HT1.out
      go_wp2_with fail
      refine HBM.out.mono ?_
      rintro e w2 ⟨v, R, rfl, hO, hb2⟩
      have HO : Hid (OwnMx w2 w.heap.size v R Z) := by
        have : OwnMx w2 w.heap.size v R Z := by rw [E.out]; exact hO.lower hz1
        exact this
      have HB2 : Hid (Below w.heap.size w w2) := HB1.out.trans (hb2.mono hz1)
      clear hO hb2
      go_wp2
      go_ret
      exact ⟨v, R, rfl, HO.out, HB2.out⟩
    · have E := Lib.hid (HNO.out (fun h => hk h.2))
      have HIN := Lib.hid (fun W => in_b k 1 6 false (in_not hk) W)
      clear hk
      go_wp2_with fail
      refine (HIN.out _).mono ?_
      rintro e w2 ⟨rfl, rfl⟩
      go_wp2
      go_ret
      exact ⟨_, [], rfl, by rw [E.out]; exact OwnMx.lit _ _ hz1, HB1.out.alloc hz1 _⟩

end Go.Proofs.Ythjgpbcdcgagfaa

/-! Chapter 13: how great the results are; contracts as the exact laws' walks take them. -/

namespace Go.Proofs.Ythjgpbcdcgagfaa
open Go.RowKit
open Sets

theorem same_below {f : FuncId} {args : Array Value} {w : World} {v : Ending} (h : Calls Try.prog f args w fun e w' => e = v ∧ w = w') : Calls Try.prog f args w fun e w' => e = v ∧ Below w.heap.size w w' :=
  h.mono fun _ _ ⟨h1, h2⟩ => ⟨h1, h2 ▸ Below.refl _ _⟩
theorem rows_le {M : Lin.Mat} (h : M.length + offM M M.length ≤ 1048576) : M.length ≤ 1099511627776 ∧ ∀ i, i < M.length → (Lin.row M i).length ≤ 1099511627776 :=
  ⟨by omega, fun i hi => by have := offM_row M i hi; omega⟩
theorem turnZ_off {M : Lin.Mat} (h : M.length + offM M M.length ≤ 1048576) : (turnZ M).length ≤ 1099511627776 ∧ 1 + offM (turnZ M) (turnZ M).length ≤ 1099511627776 := by
  unfold turnZ
  split
  · have hw : Lin.wid M + M.length ≤ 1048576 := by
      rcases Nat.eq_zero_or_pos M.length with e | e
      · rw [List.eq_nil_of_length_eq_zero e]; decide
      · have : Lin.wid M ≤ offM M M.length := offM_row M 0 e
        omega
    have h1 := Lin.turnM_length (Lin.wid M) M
    have h2 := offM_same (k := M.length) (Lin.turnM (Lin.wid M) M) (fun r hr => Nat.le_of_eq (Lin.turnM_wide _ _ r hr))
    rw [h1] at h2 ⊢
    have h3 : Lin.wid M * M.length ≤ 1048576 * 1048575 := by
      rcases Nat.eq_zero_or_pos (Lin.wid M) with e | e
      · rw [e]; omega
      · exact Nat.mul_le_mul (by omega) (by omega)
    omega
  · exact ⟨by simp, by simp [offM]⟩
theorem timesZ_off (A B : Lin.Mat) : (timesZ A B).length ≤ 1099511627776 ∧ 1 + offM (timesZ A B) (timesZ A B).length ≤ 1099511627776 := by
  unfold timesZ
  split
  case isTrue h =>
    unfold timesOk fitB at h
    rw [Bool.and_eq_true, Bool.and_eq_true] at h
    obtain ⟨⟨q1, q2⟩, h⟩ := h
    rw [Bool.and_eq_true, Bool.and_eq_true] at h
    obtain ⟨⟨q3, q4⟩, -⟩ := h
    have a1 := (small_at q1 q2).1
    have b2 := (small_at q3 q4).2.1
    have h1 := Lin.timesM_length (Lin.wid B) A B
    have h2 := offM_same (k := 30) (Lin.timesM (Lin.wid B) A B) (fun r hr => by rw [Lin.timesM_wide _ _ _ r hr]; exact b2)
    rw [h1] at h2 ⊢
    omega
  · exact ⟨by simp, by simp [offM]⟩
theorem bordZ_off (n : Int) (xs : List Int) (k : Int) : (bordZ n xs k).length ≤ 1099511627776 ∧ 1 + offM (bordZ n xs k) (bordZ n xs k).length ≤ 1099511627776 := by
  unfold bordZ
  split
  · have h1 := borM_length (sized (k - 1) (faces n xs)) (sized k (faces n xs))
    have l1 := sized_le n xs (k - 1)
    have l2 := sized_le n xs k
    have h2 := offM_same (k := 64) (borM (sized (k - 1) (faces n xs)) (sized k (faces n xs))) (fun r hr => by
      unfold borM at hr
      obtain ⟨t, _, rfl⟩ := List.mem_map.1 hr
      rw [borR_length]; exact l2)
    rw [h1] at h2 ⊢
    omega
  · exact ⟨by simp, by simp [offM]⟩
theorem mb_has {f : FuncId} {args : Array Value} {w : World} {M : Lin.Mat} {b : Bool} (h : Calls Try.prog f args w fun e w' => ∃ v R, e = .returned (.tuple #[v, .bool b]) ∧ OwnMx w' w.heap.size v R M ∧ Below w.heap.size w w') :
    Calls Try.prog f args w fun e w' => ∃ v, e = .returned (.tuple #[v, .bool b]) ∧ HasMx w' w.heap.size v M ∧ Below w.heap.size w w' :=
  h.mono fun _ _ ⟨v, _, he, ho, hb⟩ => ⟨v, he, ho.has, hb⟩

end Go.Proofs.Ythjgpbcdcgagfaa

/-! HOLES of cones and of suspensions, of no program. -/

namespace Go.Proofs.Ythjgpbcdcgagfaa
namespace Hom
open Sets Lin

def sg (t : Nat) : Int := 1 - 2 * ((pc t % 2 : Nat) : Int)
theorem blk0 : ∀ n : Fin 6, ∀ t s : Fin 64, t.val < 2 ^ n.val → s.val < 2 ^ n.val → sgn t.val (2 ^ n.val + s.val) = (if s = t then sg t.val else 0) ∧ sgn (2 ^ n.val + t.val) (2 ^ n.val + s.val) = sgn t.val s.val ∧ sgn (2 ^ n.val + t.val) s.val = 0 := by decide +kernel
theorem pc_blk0 : ∀ n : Fin 6, ∀ s : Fin 64, s.val < 2 ^ n.val → pc (2 ^ n.val + s.val) = pc s.val + 1 := by decide +kernel
theorem pow64 {n : Nat} (hn : n ≤ 6) : 2 ^ n ≤ 64 := Nat.pow_le_pow_right (by decide) hn
theorem pow_two (n : Nat) : 2 ^ (n + 1) = 2 ^ n + 2 ^ n := by rw [Nat.pow_succ]; omega
theorem blk1 {n t s : Nat} (hn : n ≤ 5) (ht : t < 2 ^ n) (hs : s < 2 ^ n) : sgn t (2 ^ n + s) = if s = t then sg t else 0 := by
  have h64 := pow64 (n := n) (by omega)
  have := (blk0 ⟨n, by omega⟩ ⟨t, by omega⟩ ⟨s, by omega⟩ ht hs).1
  simpa using this
theorem blk2 {n t s : Nat} (hn : n ≤ 5) (ht : t < 2 ^ n) (hs : s < 2 ^ n) : sgn (2 ^ n + t) (2 ^ n + s) = sgn t s := by
  have h64 := pow64 (n := n) (by omega)
  exact (blk0 ⟨n, by omega⟩ ⟨t, by omega⟩ ⟨s, by omega⟩ ht hs).2.1
theorem blk3 {n t s : Nat} (hn : n ≤ 5) (ht : t < 2 ^ n) (hs : s < 2 ^ n) : sgn (2 ^ n + t) s = 0 := by
  have h64 := pow64 (n := n) (by omega)
  exact (blk0 ⟨n, by omega⟩ ⟨t, by omega⟩ ⟨s, by omega⟩ ht hs).2.2
theorem pc_blk {n s : Nat} (hn : n ≤ 5) (hs : s < 2 ^ n) : pc (2 ^ n + s) = pc s + 1 := by
  have h64 := pow64 (n := n) (by omega)
  exact pc_blk0 ⟨n, by omega⟩ ⟨s, by omega⟩ hs
theorem sg_sq (t : Nat) : sg t * sg t = 1 := by unfold sg; rcases Nat.mod_two_eq_zero_or_one (pc t) with h | h <;> rw [h] <;> decide

theorem S_low {N : Nat} (hN : N ≤ 64) {f : Nat → Int} (h : ∀ s, N ≤ s → s < 64 → f s = 0) : S f = sm (List.range N) f := by
  unfold S
  rw [show 64 = N + (64 - N) by omega, sm_range_add, sm_zero (List.range (64 - N)) _ fun s hs => h _ (by omega) (by rw [List.mem_range] at hs; omega)]; omega
theorem S_two {N : Nat} (hN : N + N ≤ 64) {f : Nat → Int} (h : ∀ s, N + N ≤ s → s < 64 → f s = 0) : S f = sm (List.range N) f + sm (List.range N) fun s => f (N + s) := by
  rw [S_low hN h, sm_range_add]
theorem S_three {N : Nat} (hN : N + N + N ≤ 64) {f : Nat → Int} (h : ∀ s, N + N + N ≤ s → s < 64 → f s = 0) : S f = sm (List.range N) f + (sm (List.range N) fun s => f (N + s)) + sm (List.range N) fun s => f (N + N + s) := by
  rw [S_low hN h, sm_range_add, sm_range_add]

/-- The sets of n points. -/
def Low (n : Nat) (q : Nat → Bool) : Prop := ∀ s, s < 64 → q s = true → s < 2 ^ n
/-- The faces of a join. -/
def joinQ (n : Nat) (q r : Nat → Bool) (s : Nat) : Bool := q (s % 2 ^ n) && r (s / 2 ^ n)

theorem vec_zero {p : Nat} {q : Nat → Bool} {k : Nat} {y : Nat → Int} (h : Vec p (J q k) y) {s : Nat} (hs : s < 64 → ¬(pc s = k ∧ q s = true)) : y s = 0 := h.2 s fun hm => by
  have := (mem_J q k s).1 hm; exact hs this.1 this.2

/-- A vector's piece of N numbers from b on. -/
def cut (N b : Nat) (y : Nat → Int) (s : Nat) : Int := if s < N then y (b + s) else 0
theorem cut_lt {N b : Nat} {y : Nat → Int} {s : Nat} (h : s < N) : cut N b y s = y (b + s) := if_pos h
theorem cut_ge {N b : Nat} {y : Nat → Int} {s : Nat} (h : ¬s < N) : cut N b y s = 0 := if_neg h
theorem bd_cut {N b : Nat} (hN : N ≤ 64) (y : Nat → Int) (t : Nat) : bd (cut N b y) t = sm (List.range N) fun s => sgn t s * y (b + s) := by
  unfold bd
  rw [S_low hN fun s h _ => by rw [cut_ge (by omega)]; simp]
  exact sm_congr _ _ _ fun s hs => by rw [cut_lt (List.mem_range.1 hs)]

/-- A piece of a chain is a chain of the faces that lie in the piece. -/
theorem vec_cut {p n b k j : Nat} {q' q : Nat → Bool} {y : Nat → Int} (hn : b + 2 ^ n ≤ 64) (hlow : Low n q) (hq : ∀ s, s < 2 ^ n → (q' (b + s) = true ∧ pc (b + s) = k ↔ q s = true ∧ pc s = j)) (h : Vec p (J q' k) y) : Vec p (J q j) (cut (2 ^ n) b y) := by
  refine ⟨fun s hs => ?_, fun s hs => ?_⟩
  · obtain ⟨h1, h2, h3⟩ := (mem_J q j s).1 hs
    have hl := hlow s h1 h3
    rw [cut_lt hl]
    have := (hq s hl).2 ⟨h3, h2⟩
    exact h.1 _ ((mem_J q' k _).2 ⟨by omega, this.2, this.1⟩)
  · by_cases hl : s < 2 ^ n
    · rw [cut_lt hl]
      exact h.2 _ fun hm => by
        obtain ⟨_, h2, h3⟩ := (mem_J q' k _).1 hm
        have := (hq s hl).1 ⟨h3, h2⟩
        exact hs ((mem_J q j s).2 ⟨by omega, this.2, this.1⟩)
    · exact cut_ge hl

theorem emod_vec {p : Nat} (hp : 0 < p) {l : List Nat} {f : Nat → Int} (h : ∀ s, s ∉ l → (p : Int) ∣ f s) : Vec p l fun s => f s % p :=
  ⟨fun s _ => ⟨Int.emod_nonneg _ (by omega), Int.emod_lt_of_pos _ (by omega)⟩, fun s hs => Int.emod_eq_zero_of_dvd (h s hs)⟩
theorem vec_mod {p : Nat} {l : List Nat} {x : Nat → Int} (h : Vec p l x) (s : Nat) : x s % p = x s := by
  by_cases e : s ∈ l
  · exact Int.emod_eq_of_lt (h.1 s e).1 (h.1 s e).2
  · rw [h.2 s e]; simp
theorem vec_ext {p : Nat} {l m : List Nat} {x y : Nat → Int} (h : Vec p l x) (k : Vec p m y) (s : Nat) (hd : (p : Int) ∣ x s - y s) : x s = y s := by
  rw [← vec_mod h s, ← vec_mod k s]
  exact Int.emod_eq_emod_iff_emod_sub_eq_zero.2 (Int.emod_eq_zero_of_dvd hd)
theorem bd_emod (p : Int) (f : Nat → Int) (t : Nat) : p ∣ bd (fun s => f s % p) t - bd f t := by
  unfold bd S
  refine sm_dvd p _ _ _ fun s _ => ?_
  obtain ⟨m, hm⟩ := dvd_emod_sub (f s) p
  exact ⟨sgn t s * m, by dsimp only; grind⟩
theorem bd_add (f g : Nat → Int) (t : Nat) : bd (fun s => f s + g s) t = bd f t + bd g t := by
  unfold bd S
  rw [← sm_add]
  exact sm_congr _ _ _ fun s _ => by grind
theorem bd_mul (c : Int) (f : Nat → Int) (t : Nat) : bd (fun s => c * f s) t = c * bd f t := by
  unfold bd S
  rw [← sm_mul]
  exact sm_congr _ _ _ fun s _ => by grind
theorem bd_congr {f g : Nat → Int} (t : Nat) (h : ∀ s, s < 64 → sub t s = true → pc s = pc t + 1 → f s = g s) : bd f t = bd g t := by
  unfold bd S
  refine sm_congr _ _ _ fun s hs => ?_
  by_cases e : sub t s = true ∧ pc s = pc t + 1
  · rw [h s (List.mem_range.1 hs) e.1 e.2]
  · rw [sgn_zero e]; simp
theorem bd_out (f : Nat → Int) {t : Nat} (ht : 64 ≤ t) : bd f t = 0 := by
  unfold bd S
  refine sm_zero _ _ fun s hs => ?_
  rw [sgn_zero fun h => by have := sub_le h.1; rw [List.mem_range] at hs; omega]; simp

end Hom
end Go.Proofs.Ythjgpbcdcgagfaa

/-! HOLES of a complex with one point more, of no program: its cycles are relative cycles; cones have no holes, suspensions have those of the complex, one size up. -/

namespace Go.Proofs.Ythjgpbcdcgagfaa
namespace Hom
open Sets Lin

/-- The complex q with the point n, whose link is l. -/
def addQ (n : Nat) (q l : Nat → Bool) (s : Nat) : Bool := if s < 2 ^ n then q s else l (s - 2 ^ n)
def Rel (p : Nat) (q l : Nat → Bool) (k : Nat) (u : Nat → Int) : Prop := Vec p (J q k) u ∧ ∀ t, t < 64 → l t = false → (p : Int) ∣ bd u t
def sgK (k : Nat) : Int := 1 - 2 * ((k % 2 : Nat) : Int)
theorem sgK_sq (k : Nat) : sgK k * sgK k = 1 := by unfold sgK; rcases Nat.mod_two_eq_zero_or_one k with h | h <;> rw [h] <;> decide
theorem sg_K {t k : Nat} (h : pc t = k) : sg t = sgK k := by unfold sg sgK; rw [h]

theorem addQ_lo {n : Nat} {q l : Nat → Bool} {s : Nat} (h : s < 2 ^ n) : addQ n q l s = q s := if_pos h
theorem addQ_hi {n : Nat} {q l : Nat → Bool} (s : Nat) : addQ n q l (2 ^ n + s) = l s := by unfold addQ; rw [if_neg (by omega), Nat.add_sub_cancel_left]
theorem low_false {n : Nat} {q : Nat → Bool} (h : Low n q) {s : Nat} (hs : s < 64) (hn : 2 ^ n ≤ s) : q s = false := by
  rw [Bool.eq_false_iff]; intro e; have := h s hs e; omega
theorem addQ_low {n : Nat} {q l : Nat → Bool} (hl : Low n l) : Low (n + 1) (addQ n q l) := by
  intro s hs h
  rw [pow_two]
  unfold addQ at h
  split at h
  · omega
  · have := hl _ (by have := Nat.two_pow_pos n; omega) h; omega

def glue (N : Nat) (u v : Nat → Int) (s : Nat) : Int := if s < N then u s else if s < N + N then v (s - N) else 0
theorem glue_lo {N : Nat} {u v : Nat → Int} {s : Nat} (h : s < N) : glue N u v s = u s := if_pos h
theorem glue_hi {N : Nat} {u v : Nat → Int} {s : Nat} (h : s < N) : glue N u v (N + s) = v s := by unfold glue; rw [if_neg (by omega), if_pos (by omega), Nat.add_sub_cancel_left]
theorem glue_out {N : Nat} {u v : Nat → Int} {s : Nat} (h : N + N ≤ s) : glue N u v s = 0 := by unfold glue; rw [if_neg (by omega), if_neg (by omega)]

/-- The border of a vector of two pieces. -/
theorem bd_lo {n : Nat} (hn : n ≤ 5) {y : Nat → Int} (hy : ∀ s, 2 ^ n + 2 ^ n ≤ s → s < 64 → y s = 0) {t : Nat} (ht : t < 2 ^ n) : bd y t = bd (cut (2 ^ n) 0 y) t + sg t * y (2 ^ n + t) := by
  have h64 := pow64 (n := n + 1) (by omega)
  rw [pow_two] at h64
  rw [bd_cut (by omega)]
  unfold bd
  rw [S_two h64 fun s h1 h2 => by rw [hy s h1 h2]; simp]
  congr 1
  · exact sm_congr _ _ _ fun s _ => by rw [Nat.zero_add]
  · rw [sm_congr _ _ (fun s => if s = t then sg t * y (2 ^ n + s) else 0) fun s hs => by
      rw [blk1 hn ht (List.mem_range.1 hs)]; split <;> simp]
    rw [sm_one t _ _ List.nodup_range (List.mem_range.2 ht) fun s _ hne => if_neg hne, if_pos rfl]
theorem bd_hi {n : Nat} (hn : n ≤ 5) {y : Nat → Int} (hy : ∀ s, 2 ^ n + 2 ^ n ≤ s → s < 64 → y s = 0) {t : Nat} (ht : t < 2 ^ n) : bd y (2 ^ n + t) = bd (cut (2 ^ n) (2 ^ n) y) t := by
  have h64 := pow64 (n := n + 1) (by omega)
  rw [pow_two] at h64
  rw [bd_cut (by omega)]
  unfold bd
  rw [S_two h64 fun s h1 h2 => by rw [hy s h1 h2]; simp, sm_zero _ _ fun s hs => by rw [blk3 hn ht (List.mem_range.1 hs)]; simp]
  rw [Int.zero_add]
  exact sm_congr _ _ _ fun s hs => by rw [blk2 hn ht (List.mem_range.1 hs)]

theorem add_zero_at {p n k : Nat} {q l : Nat → Bool} (hl : Low n l) {y : Nat → Int} (hy : Vec p (J (addQ n q l) k) y) : ∀ s, 2 ^ n + 2 ^ n ≤ s → s < 64 → y s = 0 := fun s h1 h2 =>
  vec_zero hy fun _ h => by
    have := addQ_low (q := q) hl s h2 h.2
    rw [pow_two] at this; omega

theorem cut_lo_vec {p n k : Nat} (hn : n ≤ 5) {q l : Nat → Bool} (hq : Low n q) {y : Nat → Int} (hy : Vec p (J (addQ n q l) k) y) : Vec p (J q k) (cut (2 ^ n) 0 y) :=
  vec_cut (by have := pow64 (n := n) (by omega); omega) hq (fun s hs => by rw [Nat.zero_add, addQ_lo hs]) hy
theorem cut_hi_vec {p n k : Nat} (hn : n ≤ 5) {q l : Nat → Bool} (hl : Low n l) {y : Nat → Int} (hy : Vec p (J (addQ n q l) (k + 1)) y) : Vec p (J l k) (cut (2 ^ n) (2 ^ n) y) := by
  have h64 := pow64 (n := n + 1) (by omega)
  rw [pow_two] at h64
  exact vec_cut h64 hl (fun s hs => by rw [addQ_hi, pc_blk hn hs]; exact and_congr_right fun _ => by omega) hy

theorem glue_vec {p n k : Nat} (hn : n ≤ 5) {q l : Nat → Bool} (hl : Low n l) {u v : Nat → Int} (hu : Vec p (J q (k + 1)) u) (hv : Vec p (J l k) v) : Vec p (J (addQ n q l) (k + 1)) (glue (2 ^ n) u v) := by
  have h64 := pow64 (n := n + 1) (by omega)
  rw [pow_two] at h64
  refine ⟨fun s hs => ?_, fun s hs => ?_⟩
  · obtain ⟨h1, h2, h3⟩ := (mem_J _ _ s).1 hs
    by_cases e : s < 2 ^ n
    · rw [glue_lo e]; rw [addQ_lo e] at h3
      exact hu.1 s ((mem_J q _ s).2 ⟨h1, h2, h3⟩)
    · obtain ⟨t, rfl⟩ : ∃ t, s = 2 ^ n + t := ⟨s - 2 ^ n, by omega⟩
      rw [addQ_hi] at h3
      have ht := hl t (by have := Nat.two_pow_pos n; omega) h3
      rw [glue_hi ht]; rw [pc_blk hn ht] at h2
      exact hv.1 t ((mem_J l _ t).2 ⟨by omega, by omega, h3⟩)
  · by_cases e : s < 2 ^ n
    · rw [glue_lo e]
      exact hu.2 s fun hm => hs (by
        obtain ⟨h1, h2, h3⟩ := (mem_J q _ s).1 hm
        exact (mem_J _ _ s).2 ⟨h1, h2, by rw [addQ_lo e]; exact h3⟩)
    · by_cases e2 : s < 2 ^ n + 2 ^ n
      · obtain ⟨t, rfl⟩ : ∃ t, s = 2 ^ n + t := ⟨s - 2 ^ n, by omega⟩
        rw [glue_hi (by omega)]
        exact hv.2 t fun hm => hs (by
          obtain ⟨h1, h2, h3⟩ := (mem_J l _ t).1 hm
          exact (mem_J _ _ _).2 ⟨by omega, by rw [pc_blk hn (by omega), h2], by rw [addQ_hi]; exact h3⟩)
      · exact glue_out (by omega)

theorem low_vec {p n k : Nat} {q : Nat → Bool} (hq : Low n q) {u : Nat → Int} (hu : Vec p (J q k) u) {s : Nat} (hs : 2 ^ n ≤ s) : u s = 0 := vec_zero hu fun h64 h => by
  have := hq s h64 h.2; omega
theorem cut_glue_lo {p n k : Nat} {q : Nat → Bool} (hq : Low n q) {u v : Nat → Int} (hu : Vec p (J q k) u) : cut (2 ^ n) 0 (glue (2 ^ n) u v) = u := by
  funext s
  by_cases e : s < 2 ^ n
  · rw [cut_lt e, Nat.zero_add, glue_lo e]
  · rw [cut_ge e, low_vec hq hu (by omega)]
theorem cut_glue_hi {p n k : Nat} {l : Nat → Bool} (hl : Low n l) {u v : Nat → Int} (hv : Vec p (J l k) v) : cut (2 ^ n) (2 ^ n) (glue (2 ^ n) u v) = v := by
  funext s
  by_cases e : s < 2 ^ n
  · rw [cut_lt e, glue_hi e]
  · rw [cut_ge e, low_vec hl hv (by omega)]
theorem glue_cut {p n k : Nat} {q l : Nat → Bool} (hn : n ≤ 5) (hl : Low n l) {y : Nat → Int} (hy : Vec p (J (addQ n q l) k) y) : glue (2 ^ n) (cut (2 ^ n) 0 y) (cut (2 ^ n) (2 ^ n) y) = y := by
  have h64 := pow64 (n := n + 1) (by omega)
  rw [pow_two] at h64
  funext s
  by_cases e : s < 2 ^ n
  · rw [glue_lo e, cut_lt e, Nat.zero_add]
  · by_cases e2 : s < 2 ^ n + 2 ^ n
    · obtain ⟨t, rfl⟩ : ∃ t, s = 2 ^ n + t := ⟨s - 2 ^ n, by omega⟩
      rw [glue_hi (by omega), cut_lt (by omega)]
    · rw [glue_out (by omega)]
      by_cases e3 : s < 64
      · exact (add_zero_at hl hy s (by omega) e3).symm
      · exact (hy.2 s fun hm => e3 ((mem_J _ _ s).1 hm).1).symm

theorem addQ_down {n : Nat} {q l : Nat → Bool} (hq : Down q) (hl : Down l) (hlow : Low n l) (hlq : ∀ s, s < 64 → l s = true → q s = true) : Down (addQ n q l) := by
  intro s t hs ht h k
  by_cases e : t < 2 ^ n
  · have := sub_le h
    rw [addQ_lo e] at k
    rw [addQ_lo (by omega)]
    exact hq s t hs ht h k
  · obtain ⟨t', rfl⟩ : ∃ t', t = 2 ^ n + t' := ⟨t - 2 ^ n, by omega⟩
    rw [addQ_hi] at k
    have h2p := Nat.two_pow_pos n
    have ht' := hlow t' (by omega) k
    by_cases e2 : s < 2 ^ n
    · rw [addQ_lo e2]
      refine hlq s hs (hl s t' hs (by omega) ?_ k)
      rw [sub_iff] at h ⊢
      intro i hi
      have h1 := h i hi
      have hin : i < n := Nat.lt_of_not_le fun hh => by
        rw [Nat.testBit_lt_two_pow (Nat.lt_of_lt_of_le e2 (Nat.pow_le_pow_right (by decide) hh))] at hi; exact absurd hi (by decide)
      rwa [Nat.testBit_two_pow_add_gt hin] at h1
    · obtain ⟨s', rfl⟩ : ∃ s', s = 2 ^ n + s' := ⟨s - 2 ^ n, by omega⟩
      rw [addQ_hi]
      have hs' : s' < 2 ^ n := by have := sub_le h; omega
      refine hl s' t' (by omega) (by omega) ?_ k
      rw [sub_iff] at h ⊢
      intro i hi
      have hin : i < n := Nat.lt_of_not_le fun hh => by
        rw [Nat.testBit_lt_two_pow (Nat.lt_of_lt_of_le hs' (Nat.pow_le_pow_right (by decide) hh))] at hi; exact absurd hi (by decide)
      have h1 := h i (by rw [Nat.testBit_two_pow_add_gt hin]; exact hi)
      rwa [Nat.testBit_two_pow_add_gt hin] at h1

/-- THE CYCLES OF A COMPLEX WITH ONE POINT MORE are the relative cycles. -/
theorem card_add {p : Nat} (hp : 0 < p) {n : Nat} (hn : n ≤ 5) {q l : Nat → Bool} (hq : Low n q) (hl : Low n l) (dq : Down q) (dl : Down l) (hlq : ∀ s, s < 64 → l s = true → q s = true) {k c : Nat}
    (h : Card (Rel p q l (k + 1)) c) : Card (Cyc p (addQ n q l) (k + 1)) c := by
  have h64 := pow64 (n := n + 1) (by omega)
  rw [pow_two] at h64
  have hdown := addQ_down dq dl hl hlq
  have hv : ∀ u, Rel p q l (k + 1) u → Vec p (J l k) fun s => (-sgK k * bd u s) % p := fun u hu => emod_vec hp fun s hs => by
    by_cases e : s < 64
    · by_cases e2 : l s = true
      · by_cases e3 : pc s = k
        · exact absurd ((mem_J l k s).2 ⟨e, e3, e2⟩) hs
        · rw [bd_off dq hu.1 e (by omega)]; exact ⟨0, by simp⟩
      · obtain ⟨m, hm⟩ := hu.2 s e (by simpa using e2)
        exact ⟨-sgK k * m, by rw [hm]; grind⟩
    · rw [bd_out _ (by omega)]; exact ⟨0, by simp⟩
  refine h.bij (fun u => glue (2 ^ n) u fun s => (-sgK k * bd u s) % p) (fun y => cut (2 ^ n) 0 y) ?_ ?_ ?_ ?_
  · intro u hu
    have hg := glue_vec hn hl hu.1 (hv u hu)
    refine ⟨hg, fun t ht => ?_⟩
    have hz := add_zero_at hl hg
    by_cases e : t < 2 ^ n
    · rw [bd_lo hn hz e, cut_glue_lo hq hu.1, glue_hi e]
      by_cases e3 : pc t = k
      · rw [sg_K e3]
        obtain ⟨m, hm⟩ := dvd_emod_sub (-sgK k * bd u t) p
        have := sgK_sq k
        exact ⟨sgK k * m, by grind⟩
      · rw [bd_off dq hu.1 ht (by omega)]; exact ⟨0, by simp⟩
    · by_cases e2 : t < 2 ^ n + 2 ^ n
      · obtain ⟨t, rfl⟩ : ∃ t', t = 2 ^ n + t' := ⟨t - 2 ^ n, by omega⟩
        rw [bd_hi hn hz (by omega), cut_glue_hi hl (hv u hu)]
        rw [dvd_of_emod (bd_emod p _ t), bd_mul, bd_bd u (by omega)]; exact ⟨0, by simp⟩
      · have : addQ n q l t = false := low_false (addQ_low hl) ht (by rw [pow_two]; omega)
        rw [bd_off hdown hg ht (by rw [this]; simp)]; exact ⟨0, by simp⟩
  · intro y hy
    refine ⟨cut_lo_vec hn hq hy.1, fun t ht hlt => ?_⟩
    by_cases e : t < 2 ^ n
    · have := hy.2 t ht
      rw [bd_lo hn (add_zero_at hl hy.1) e] at this
      have hz : cut (2 ^ n) (2 ^ n) y t = 0 := vec_zero (cut_hi_vec hn hl hy.1) fun _ h => by rw [hlt] at h; exact absurd h.2 (by decide)
      rw [cut_lt e] at hz
      rw [hz] at this
      simpa using this
    · rw [bd_off dq (cut_lo_vec hn hq hy.1) ht (by rw [low_false hq ht (by omega)]; simp)]; exact ⟨0, by simp⟩
  · intro u hu
    exact cut_glue_lo hq hu.1
  · intro y hy
    have hu := cut_lo_vec hn hq hy.1
    have hv' := cut_hi_vec hn hl hy.1
    have hrel : Rel p q l (k + 1) (cut (2 ^ n) 0 y) := by
      refine ⟨hu, fun t ht hlt => ?_⟩
      by_cases e : t < 2 ^ n
      · have := hy.2 t ht
        rw [bd_lo hn (add_zero_at hl hy.1) e] at this
        have hz : cut (2 ^ n) (2 ^ n) y t = 0 := vec_zero hv' fun _ h => by rw [hlt] at h; exact absurd h.2 (by decide)
        rw [cut_lt e] at hz
        rw [hz] at this
        simpa using this
      · rw [bd_off dq hu ht (by rw [low_false hq ht (by omega)]; simp)]; exact ⟨0, by simp⟩
    rw [show (fun s => (-sgK k * bd (cut (2 ^ n) 0 y) s) % (p : Int)) = cut (2 ^ n) (2 ^ n) y from ?_]
    · exact glue_cut hn hl hy.1
    · funext s
      refine vec_ext (hv _ hrel) hv' s ?_
      by_cases e : s < 2 ^ n
      · rw [cut_lt e]
        by_cases e3 : pc s = k
        · have h1 := hy.2 s (by omega)
          rw [bd_lo hn (add_zero_at hl hy.1) e, sg_K e3] at h1
          obtain ⟨a, ha⟩ := h1
          obtain ⟨m, hm⟩ := dvd_emod_sub (-sgK k * bd (cut (2 ^ n) 0 y) s) p
          have := sgK_sq k
          exact ⟨m - sgK k * a, by grind⟩
        · have : cut (2 ^ n) (2 ^ n) y s = 0 := vec_zero hv' fun _ h => e3 h.1
          rw [cut_lt e] at this
          rw [this, bd_off dq hu (by omega) (by omega)]; exact ⟨0, by simp⟩
      · rw [cut_ge e, low_vec hl (hv _ hrel) (by omega)]; exact ⟨0, by simp⟩

end Hom
end Go.Proofs.Ythjgpbcdcgagfaa
