/-
  TEXTS of one claim, put together: WDrawCx8, PartLaw, WPartB, WMat1.
-/
import Derived.Test.YtbkkdgmiokdbmaaGreatJg39
import Derived.RegionTactic
import Derived.Test.YtbkkdgmiokdbmaaGreatJg3
import Derived.Test.YtbkkdgmiokdbmaaGreatJg20
import Derived.Test.YtbkkdgmiokdbmaaGreatJg2
import Derived.Test.YtbkkdgmiokdbmaaGreatJg15
/-! WALKS: the draws of chapter 5, the second part. -/

namespace Go.Proofs.YtbkkdgmiokdbmaaGreat
open Go.RowKit
open Sets

theorem bit_some (b : Bool) (w : World) : Calls Tryz.prog 41 #[.bool b] w fun e w' => (∃ z : Int, e = .returned (.int .i64 z)) ∧ w = w' :=
  (l1Bit_b b w).mono fun _ _ ⟨h, h2⟩ => ⟨⟨_, h⟩, h2⟩


end Go.Proofs.YtbkkdgmiokdbmaaGreat

/-! PARTS OF COMPLEXES, of no program: what the chapter's promise says of them. -/

namespace Go.Proofs.YtbkkdgmiokdbmaaGreat
open Sets

/-! ### how many -/

theorem filter_inex (p q : Nat → Bool) : ∀ l : List Nat, (l.filter fun s => p s || q s).length + (l.filter fun s => p s && q s).length = (l.filter p).length + (l.filter q).length
  | [] => rfl
  | x :: l => by
    have ih := filter_inex p q l
    simp only [List.filter_cons]
    cases hp : p x <;> cases hq : q x <;> simp <;> omega
theorem row_inex (p q : Nat → Bool) (k n : Nat) : (row (fun s => p s || q s) k n).length + (row (fun s => p s && q s) k n).length = (row p k n).length + (row q k n).length := by
  unfold row
  simp only [List.length_map]
  rw [← filter_inex (fun s => pc s == k && p s) (fun s => pc s == k && q s)]
  have h1 : (fun s => pc s == k && (p s || q s)) = fun s => (pc s == k && p s) || (pc s == k && q s) := by
    funext s; cases pc s == k <;> simp
  have h2 : (fun s => pc s == k && (p s && q s)) = fun s => (pc s == k && p s) && (pc s == k && q s) := by
    funext s; cases pc s == k <;> simp
  rw [h1, h2]
theorem flat_inex (p q : Nat → Bool) (n : Nat) : ∀ L : List Nat, (L.flatMap fun j => row (fun s => p s || q s) j n).length + (L.flatMap fun j => row (fun s => p s && q s) j n).length = (L.flatMap fun j => row p j n).length + (L.flatMap fun j => row q j n).length
  | [] => rfl
  | x :: L => by
    have ih := flat_inex p q n L
    have hr := row_inex p q x n
    simp only [List.flatMap_cons, List.length_append]
    omega
theorem ord_inex (p q : Nat → Bool) : (ord fun s => p s || q s).length + (ord fun s => p s && q s).length = (ord p).length + (ord q).length := flat_inex p q 64 _

/-! ### the parts are complexes -/

theorem part_isC {n : Int} {xs : List Int} (h : isC n xs = true) (q : Nat → Bool) (hd : Down q) (hq : ∀ s, s < 64 → q s = true → inF xs s = true) : isC n (maxQ q) = true :=
  maxQ_isC n q (isC_n h).1 (isC_n h).2 hd fun s hs k => inF_set h s (hq s hs k)
theorem or_le (t s : Nat) : sub t (t ||| s) = true := by
  rw [sub_iff]; exact fun i hi => by rw [Nat.testBit_or, hi]; rfl
theorem star_in (xs : List Int) (s t : Nat) (h : starQ xs s t = true) : inF xs t = true := inF_sub (or_le t s) h
theorem star_isC {n : Int} {xs : List Int} (h : isC n xs = true) (s : Nat) : isC n (maxQ (starQ xs s)) = true := part_isC h _ (starQ_down xs s) fun t _ k => star_in xs s t k
theorem link_isC {n : Int} {xs : List Int} (h : isC n xs = true) (s : Nat) : isC n (maxQ (linkQ xs s)) = true := part_isC h _ (linkQ_down xs s) fun t _ k => by
  unfold linkQ at k
  rw [Bool.and_eq_true] at k
  exact star_in xs s t k.2
theorem del_isC {n : Int} {xs : List Int} (h : isC n xs = true) (s : Nat) : isC n (maxQ (delQ xs s)) = true := part_isC h _ (delQ_down xs s) fun t _ k => by
  unfold delQ at k
  rw [Bool.and_eq_true] at k
  exact k.1
theorem skel_isC {n : Int} {xs : List Int} (h : isC n xs = true) (k : Int) : isC n (maxQ (skelQ xs k)) = true := part_isC h _ (skelQ_down xs k) fun t _ e => by
  unfold skelQ at e
  rw [Bool.and_eq_true] at e
  exact e.1
theorem ind_isC {n : Int} {xs : List Int} (h : isC n xs = true) (s : Nat) : isC n (maxQ (indQ xs s)) = true := part_isC h _ (indQ_down xs s) fun t _ e => by
  unfold indQ at e
  rw [Bool.and_eq_true] at e
  exact e.1
theorem or_isC {n : Int} {xs ys : List Int} (h : isC n xs = true) (k : isC n ys = true) : isC n (maxQ (orQ xs ys)) = true :=
  maxQ_isC n _ (isC_n h).1 (isC_n h).2 (orQ_down xs ys) fun s _ e => by
    unfold orQ at e
    rw [Bool.or_eq_true] at e
    rcases e with e | e
    · exact inF_set h s e
    · exact inF_set k s e
theorem and_isC {n : Int} {xs ys : List Int} (h : isC n xs = true) : isC n (maxQ (andQ xs ys)) = true := part_isC h _ (andQ_down xs ys) fun t _ e => by
  unfold andQ at e
  rw [Bool.and_eq_true] at e
  exact e.1

/-! ### the chapter's promise -/

/-- The faces of union and meet, together, are as many as those of both. -/
theorem faces_inex {n : Int} {xs ys : List Int} (h : isC n xs = true) (k : isC n ys = true) :
    (faces n (maxQ (orQ xs ys))).length + (faces n (maxQ (andQ xs ys))).length = (faces n xs).length + (faces n ys).length := by
  rw [maxQ_faces n _ (orQ_down xs ys) (or_isC h k), maxQ_faces n _ (andQ_down xs ys) (and_isC h)]
  unfold faces
  rw [if_pos h, if_pos k]
  exact ord_inex (inF xs) (inF ys)
theorem or_self_sub {s t : Nat} (h : sub s t = true) : t ||| s = t := by
  rw [sub_iff] at h
  apply Nat.eq_of_testBit_eq
  intro i
  rw [Nat.testBit_or]
  cases e : s.testBit i with
  | false => simp
  | true => rw [h i e]; rfl
/-- Star and deletion make up the complex. -/
theorem star_or_del {n : Int} {xs : List Int} (h : isC n xs = true) (s : Nat) : maxQ (orQ (maxQ (starQ xs s)) (maxQ (delQ xs s))) = xs := by
  conv => rhs; rw [← isC_maxQ h]
  refine maxQ_congr fun t ht => ?_
  unfold orQ
  rw [inF_maxQ _ (starQ_down xs s) t ht, inF_maxQ _ (delQ_down xs s) t ht]
  rw [Bool.eq_iff_iff, Bool.or_eq_true]
  constructor
  · rintro (e | e)
    · exact star_in xs s t e
    · unfold delQ at e
      rw [Bool.and_eq_true] at e
      exact e.1
  · intro e
    cases hs : sub s t with
    | true => left; unfold starQ; rw [or_self_sub hs]; exact e
    | false => right; unfold delQ; rw [e, hs]; rfl
theorem one_apart (s t : Nat) (hs : s < 64) (ht : t < 64) (h : pc s = 1) : (!sub s t) = apart t s := by
  have H : ∀ s t : Fin 64, pc s.val = 1 → (!sub s.val t.val) = apart t.val s.val := by decide +kernel
  exact H ⟨s, hs⟩ ⟨t, ht⟩ h
/-- What star and deletion of one point have in common is its link. -/
theorem star_and_del (xs : List Int) (s : Nat) (hs : s < 64) (h1 : pc s = 1) : maxQ (andQ (maxQ (starQ xs s)) (maxQ (delQ xs s))) = maxQ (linkQ xs s) := by
  refine maxQ_congr fun t ht => ?_
  unfold andQ
  rw [inF_maxQ _ (starQ_down xs s) t ht, inF_maxQ _ (delQ_down xs s) t ht]
  unfold delQ linkQ
  rw [one_apart s t hs ht h1]
  cases e : starQ xs s t with
  | false => unfold starQ at e; rw [e]; simp
  | true =>
    have := star_in xs s t e
    unfold starQ at e
    rw [e, this]; simp
/-- All parts are there, or none: of a set and a complex. -/
theorem parts_some (ok : Bool) (n : Int) (q : Nat → Bool) : (partO ok n q).isSome = ok := by unfold partO; cases ok <;> rfl

end Go.Proofs.YtbkkdgmiokdbmaaGreat

/-! WALKS: two complexes that are the same, by the law's own helper; boxes that hold complexes. -/

namespace Go.Proofs.YtbkkdgmiokdbmaaGreat
open Go.RowKit
open Sets

set_option maxRecDepth 100000 in
set_option maxHeartbeats 2000000 in
theorem sameCx_any (n : Int) (a1 a2 : Option Addr) (c1 c2 : Nat) (xs : List Int) (hlen : xs.length ≤ 1099511627776) (w : World) (h1 : Ints w a1 xs) (h2 : Ints w a2 xs) :
    Calls Tryz.prog 18 #[cx n (.slice a1 xs.length c1), cx n (.slice a2 xs.length c2)] w fun e w' => e = .returned (.bool true) ∧ Below w.heap.size w w' := by
  have H1 := Lib.hid h1
  have H2 := Lib.hid h2
  clear h1 h2
  go_enter Tryz.func18, Tryz.ntmps18
  go_wp2_with fail
  refine (sameInt_any _ _ _ _ xs hlen _ (H1.out.keeps (((Below.refl _ _).alloc (Nat.le_refl _) _).alloc (by simp) _)) (H2.out.keeps (((Below.refl _ _).alloc (Nat.le_refl _) _).alloc (by simp) _))).mono ?_
  rintro e w1 ⟨rfl, hb1⟩
  go_wp2
  go_ret
  exact ⟨rfl, (((Below.refl _ _).alloc (Nat.le_refl _) _).alloc (by simp) _).trans (hb1.mono (by simp; omega))⟩

/-- A box that holds a complex, its facets readable. -/
def Bx (w : World) (b : Nat) (n : Int) (a : Option Addr) (c : Nat) (xs : List Int) : Prop := Two w b (.int .i64 n) (.slice a xs.length c) ∧ Ints w a xs
theorem Bx.keeps {w w' : World} {b : Nat} {n : Int} {a : Option Addr} {c : Nat} {xs : List Int} (h : Bx w b n a c xs) (hb : Below w.heap.size w w') : Bx w' b n a c xs := ⟨Two.keeps h.1 hb, h.2.keeps hb⟩
theorem Bx.new {w : World} {n : Int} {a : Option Addr} {c : Nat} {xs : List Int} (h : Ints w a xs) (t : TypeId) : Bx (w.alloc (.cells #[.int .i64 n, .slice a xs.length c] t)) w.heap.size n a c xs :=
  ⟨Two.new w _ _ t, h.keeps ((Below.refl _ _).alloc (Nat.le_refl _) _)⟩
/-- What a call that answers a complex and a bool, from letters, hands back: to be put into a box. -/
theorem OwnInts.atn {w : World} {base : Nat} {v : Value} {xs : List Int} (h : OwnInts w base v xs) (hb : base ≤ w.heap.size) :
    ∃ a c, v = .slice a xs.length c ∧ xs.length ≤ c ∧ (a = none → c = 0) ∧ Ints w a xs := by
  obtain ⟨a, c, g, hv, hc, _, hr, _⟩ := OwnInts.ata h hb
  refine ⟨a, c, hv, hc, fun ha => ?_, hr.ints⟩
  unfold OwnInts at h
  rcases h.2 with ⟨h1, _⟩ | ⟨g, cap, cur, h1, _⟩
  · rw [hv] at h1
    injection h1 with _ _ h4
  · rw [hv, ha] at h1
    injection h1 with h2 _ _
    cases h2
theorem partL_le (ok : Bool) (n : Int) (q : Nat → Bool) : (oL (partO ok n q)).length ≤ 64 := by
  unfold partO
  cases ok
  · exact Nat.zero_le _
  · exact maxQ_le q

end Go.Proofs.YtbkkdgmiokdbmaaGreat

/-! WALKS of chapter 13 (spec): remainders, inverses, signs. -/

namespace Go.Proofs.YtbkkdgmiokdbmaaGreat
open Go.RowKit
open Sets

theorem tmod_mod {a p : Int} (hp : 0 < p) : (a.tmod p + p).tmod p = a % p := by
  have h1 := Int.tmod_lt_of_pos a hp
  have h2 := Int.lt_tmod_of_pos a hp
  rw [Int.tmod_eq_emod_of_nonneg (by omega)]
  rw [Int.add_emod_right]
  have := Int.tmod_add_mul_tdiv a p
  rw [show a.tmod p = a - p * a.tdiv p by omega, Int.sub_mul_emod_self_left]

theorem tmod_mod2 {a p : Int} (hp : 0 < p) : (a.tmod p + p) % p = a % p := by
  have h2 := Int.lt_tmod_of_pos a hp
  have h := tmod_mod (a := a) hp
  rwa [Int.tmod_eq_emod_of_nonneg (by omega)] at h

set_option maxRecDepth 100000 in
set_option maxHeartbeats 2000000 in
theorem l13Mod_any (a : Int) (p : Nat) (hp : 1 < p) (hp2 : p ≤ 1000) (w : World) : Calls Tryz.prog 96 #[.int .i64 a, .int .i64 (p : Int)] w fun e w' => e = .returned (.int .i64 (a % (p : Int))) ∧ w = w' := by
  have hz : ((p : Int) = 0) = False := by simp; omega
  have b1 := Int.tmod_lt_of_pos a (by omega : (0 : Int) < p)
  have b2 := Int.lt_tmod_of_pos a (by omega : (0 : Int) < p)
  have E := Lib.hid (tmod_mod2 (a := a) (by omega : (0 : Int) < p))
  go_enter Tryz.func96, Tryz.ntmps96
  go_wp2
  go_ret
  exact ⟨ret_int E.out, rfl⟩

/-- The primes that the chapter knows. -/
def primeB (p : Int) : Bool := decide (p = 2 ∨ p = 3 ∨ p = 5)
set_option maxRecDepth 100000 in
theorem isPrime_any (p : Int) (w : World) : Calls Tryz.prog 60 #[.int .i64 p] w fun e w' => e = .returned (.bool (primeB p)) ∧ w = w' := by
  by_cases h2 : p = 2
  · subst h2
    go_enter Tryz.func60, Tryz.ntmps60
    go_wp2
    go_ret
    exact ⟨rfl, rfl⟩
  · by_cases h3 : p = 3
    · subst h3
      go_enter Tryz.func60, Tryz.ntmps60
      go_wp2
      go_ret
      exact ⟨rfl, rfl⟩
    · have e2 : (p == 2) = false := by simpa using h2
      have e3 : (p == 3) = false := by simpa using h3
      have hb : Hid (primeB p = (p == 5)) := by unfold primeB; rw [Hid]; simp [h2, h3]; rfl
      go_enter Tryz.func60, Tryz.ntmps60
      go_wp2
      go_ret
      rw [hb.out]
      exact ⟨rfl, rfl⟩

theorem inv_hit {p b : Nat} {a : Int} (hb : b < p) (h : a % (p : Int) * (b : Int) % p = 1) (hno : ∀ c : Nat, c < b → ¬a % (p : Int) * (c : Int) % p = 1) : Lin.inv p a = b := by
  unfold Lin.inv
  rw [show ((List.range p).filter fun b : Nat => decide (a % (p : Int) * (b : Int) % p = 1)).headD 0 = b from ?_]
  rw [List.headD_eq_head?_getD, List.head?_filter, List.find?_range_eq_some.2 ⟨decide_eq_true h, List.mem_range.2 hb, fun j hj => by simpa using hno j hj⟩]; rfl
theorem inv_none {p : Nat} {a : Int} (hno : ∀ c : Nat, c < p → ¬a % (p : Int) * (c : Int) % p = 1) : Lin.inv p a = 0 := by
  unfold Lin.inv
  rw [List.filter_eq_nil_iff.2 fun c hc => by simpa using hno c (List.mem_range.1 hc)]; rfl

set_option maxRecDepth 100000 in
set_option maxHeartbeats 2000000 in
theorem inverse_any (a : Int) (p : Nat) (hp : p = 2 ∨ p = 3 ∨ p = 5) (w : World) : Calls Tryz.prog 103 #[.int .i64 a, .int .i64 (p : Int)] w fun e w' => e = .returned (.int .i64 (Lin.inv p a)) ∧ w = w' := by
  have hz : ((p : Int) = 0) = False := by simp; omega
  have hP : Hid (primeB (p : Int) = true) := decide_eq_true (by omega)
  have hr0 := Int.emod_nonneg a (by omega : (p : Int) ≠ 0)
  have hr1 := Int.emod_lt_of_pos a (by omega : (0 : Int) < p)
  have hp5 : p ≤ 5 := by omega
  have hp1 : 1 < p := by omega
  have HR : Hid (∃ r : Int, a % (p : Int) = r) := ⟨_, rfl⟩
  obtain ⟨r, hr⟩ := HR.out
  rw [hr] at hr0 hr1
  have HRR := Lib.hid hr
  clear hr hp HR
  go_enter Tryz.func103, Tryz.ntmps103
  go_wp2_with fail
  refine (isPrime_any _ _).mono ?_
  rw [hP.out]
  rintro e w' ⟨rfl, rfl⟩
  go_wp2
  go_loop [5] (fun x => ∃ b : Nat, 1 ≤ b ∧ b ≤ p ∧ x = .int .i64 (b : Int) ∧ Hid (∀ c : Nat, c < b → ¬r * (c : Int) % p = 1)) (fun x => p - (intOf x).toNat)
  case atStart => exact ⟨1, by omega, by omega, rfl, fun c hc => by rw [show c = 0 by omega]; simp⟩
  case round =>
    obtain ⟨b, hb1, hb, rfl, hno⟩ := hrel
    by_cases hlt : b < p
    · have hm1 : 0 ≤ r * (b : Int) := Int.mul_nonneg hr0 (by omega)
      have hm2 : r * (b : Int) ≤ 25 := Int.le_trans (Int.mul_le_mul (show r ≤ 5 by omega) (show (b : Int) ≤ 5 by omega) (by omega) (by omega)) (by decide)
      go_wp2_with fail
      refine (l13Mod_any a p hp1 (by omega) _).mono ?_
      rw [HRR.out]
      rintro e w' ⟨rfl, rfl⟩
      have htm : (r * (b : Int)).tmod p = r * (b : Int) % p := Int.tmod_eq_emod_of_nonneg hm1
      by_cases hc : r * (b : Int) % p = 1
      · have HC := Lib.hid hc
        go_wp2
        go_ret
        exact ⟨ret_int (inv_hit hlt (by rw [HRR.out]; exact HC.out) (by rw [HRR.out]; exact hno.out)).symm, rfl⟩
      · have HC := Lib.hid hc
        go_wp2
        go_round
        case rel =>
          refine ⟨b + 1, by omega, by omega, by go_num, fun c hc' => ?_⟩
          by_cases e : c < b
          · exact hno.out c e
          · rw [show c = b by omega]
            exact HC.out
        case measure => simp [intOf]; omega
    · have HE : Hid (b = p) := by show b = p; omega
      go_wp2
      go_ret
      refine ⟨ret_int ?_, rfl⟩
      exact (inv_none (by rw [HRR.out]; exact fun c hc => hno.out c (by rw [HE.out]; exact hc))).symm

end Go.Proofs.YtbkkdgmiokdbmaaGreat
