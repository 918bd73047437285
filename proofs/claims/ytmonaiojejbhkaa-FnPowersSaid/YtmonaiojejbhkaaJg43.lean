/-
  TEXTS of one claim, put together: WCntLaw1, WDrawCx8, PartLaw, WPartB.
-/
import Derived.Test.YtmonaiojejbhkaaJg1
import Derived.Test.YtmonaiojejbhkaaJg7
import Derived.Test.YtmonaiojejbhkaaJg26
import Derived.RegionTactic
import Derived.Test.YtmonaiojejbhkaaJg2
import Derived.Test.YtmonaiojejbhkaaJg12
import Derived.Test.YtmonaiojejbhkaaJg14
/-! WALKS: the law's own sums of small numbers. -/

namespace Go.Proofs.Ytmonaiojejbhkaa
open Go.RowKit
open Sets

set_option maxRecDepth 100000 in
set_option maxHeartbeats 2000000 in
theorem total_b (a : Option Addr) (c : Nat) (F : List Int) (s : Int) (hs : tsumK F F.length = s) (hl : F.length ≤ 7) (hx : ∀ j, j < F.length → 0 ≤ F.getD j 0 ∧ F.getD j 0 ≤ 64) (w : World) (h : Ints w a F) :
    Calls Try.prog 27 #[.slice a F.length c] w fun e w' => e = .returned (.int .i64 s) ∧ Below w.heap.size w w' := by
  have H := Lib.hid h
  have HX := Lib.hid hx
  have HS := Lib.hid hs
  clear h hx hs
  go_enter Try.func27, Try.ntmps27
  go_wp2
  go_loop [3, 4] (fun v i => ∃ k : Nat, k ≤ F.length ∧ i = .int .i64 (k : Int) ∧ v = .int .i64 (tsumK F k) ∧ 0 ≤ tsumK F k ∧ tsumK F k ≤ 64 * (k : Int)) (fun _ i => F.length - (intOf i).toNat)
  case atStart => exact ⟨0, Nat.zero_le _, rfl, rfl, by simp [tsumK], by simp [tsumK]⟩
  case round =>
    obtain ⟨k, hk, rfl, rfl, h0, h1⟩ := hrel
    by_cases hlt : k < F.length
    · obtain ⟨b0, o, rfl, g⟩ := H.out k hlt
      obtain ⟨x0, x1⟩ := HX.out k hlt
      have hn : tsumK F (k + 1) = tsumK F k + F.getD k 0 := rfl
      have HN := Lib.hid hn
      clear hn
      generalize tsumK F k = s0 at *
      generalize F.getD k 0 = x at *
      go_wp2
      go_round
      case rel => exact ⟨k + 1, by omega, by go_num, by rw [HN.out], by rw [HN.out]; omega, by rw [HN.out]; omega⟩
      case measure => simp [intOf]; omega
    · have E := Lib.hid (show k = F.length by omega)
      go_wp2
      go_ret
      exact ⟨by rw [← HS.out, ← E.out]; rfl, Below.refl _ _⟩

end Go.Proofs.Ytmonaiojejbhkaa

/-! WALKS: the draws of chapter 5, the second part. -/

namespace Go.Proofs.Ytmonaiojejbhkaa
open Go.RowKit
open Sets

theorem bit_some (b : Bool) (w : World) : Calls Try.prog 44 #[.bool b] w fun e w' => (∃ z : Int, e = .returned (.int .i64 z)) ∧ w = w' :=
  (l1Bit_b b w).mono fun _ _ ⟨h, h2⟩ => ⟨⟨_, h⟩, h2⟩


end Go.Proofs.Ytmonaiojejbhkaa

/-! PARTS OF COMPLEXES, of no program: what the chapter's promise says of them. -/

namespace Go.Proofs.Ytmonaiojejbhkaa
open Sets

/-! ### how many -/

theorem filter_inex (p q : Nat → Bool) : ∀ l : List Nat, (l.filter fun s => p s || q s).length + (l.filter fun s => p s && q s).length = (l.filter p).length + (l.filter q).length
  | [] => rfl
  | x :: l => by
    have ih := filter_inex p q l
    simp only [List.filter_cons]
    cases hp : p x <;> cases hq : q x <;> simp <;> omega
theorem row_inex (p q : Nat → Bool) (k n : Nat) : (row (fun s => p s || q s) k n).length + (row (fun s => p s && q s) k n).length = (row p k n).length + (row q k n).length := by
  unfold row
  simp only [List.length_map]
  rw [← filter_inex (fun s => pc s == k && p s) (fun s => pc s == k && q s)]
  have h1 : (fun s => pc s == k && (p s || q s)) = fun s => (pc s == k && p s) || (pc s == k && q s) := by
    funext s; cases pc s == k <;> simp
  have h2 : (fun s => pc s == k && (p s && q s)) = fun s => (pc s == k && p s) && (pc s == k && q s) := by
    funext s; cases pc s == k <;> simp
  rw [h1, h2]
theorem flat_inex (p q : Nat → Bool) (n : Nat) : ∀ L : List Nat, (L.flatMap fun j => row (fun s => p s || q s) j n).length + (L.flatMap fun j => row (fun s => p s && q s) j n).length = (L.flatMap fun j => row p j n).length + (L.flatMap fun j => row q j n).length
  | [] => rfl
  | x :: L => by
    have ih := flat_inex p q n L
    have hr := row_inex p q x n
    simp only [List.flatMap_cons, List.length_append]
    omega
theorem ord_inex (p q : Nat → Bool) : (ord fun s => p s || q s).length + (ord fun s => p s && q s).length = (ord p).length + (ord q).length := flat_inex p q 64 _

/-! ### the parts are complexes -/

theorem part_isC {n : Int} {xs : List Int} (h : isC n xs = true) (q : Nat → Bool) (hd : Down q) (hq : ∀ s, s < 64 → q s = true → inF xs s = true) : isC n (maxQ q) = true :=
  maxQ_isC n q (isC_n h).1 (isC_n h).2 hd fun s hs k => inF_set h s (hq s hs k)
theorem or_le (t s : Nat) : sub t (t ||| s) = true := by
  rw [sub_iff]; exact fun i hi => by rw [Nat.testBit_or, hi]; rfl
theorem star_in (xs : List Int) (s t : Nat) (h : starQ xs s t = true) : inF xs t = true := inF_sub (or_le t s) h
theorem star_isC {n : Int} {xs : List Int} (h : isC n xs = true) (s : Nat) : isC n (maxQ (starQ xs s)) = true := part_isC h _ (starQ_down xs s) fun t _ k => star_in xs s t k
theorem link_isC {n : Int} {xs : List Int} (h : isC n xs = true) (s : Nat) : isC n (maxQ (linkQ xs s)) = true := part_isC h _ (linkQ_down xs s) fun t _ k => by
  unfold linkQ at k
  rw [Bool.and_eq_true] at k
  exact star_in xs s t k.2
theorem del_isC {n : Int} {xs : List Int} (h : isC n xs = true) (s : Nat) : isC n (maxQ (delQ xs s)) = true := part_isC h _ (delQ_down xs s) fun t _ k => by
  unfold delQ at k
  rw [Bool.and_eq_true] at k
  exact k.1
theorem skel_isC {n : Int} {xs : List Int} (h : isC n xs = true) (k : Int) : isC n (maxQ (skelQ xs k)) = true := part_isC h _ (skelQ_down xs k) fun t _ e => by
  unfold skelQ at e
  rw [Bool.and_eq_true] at e
  exact e.1
theorem ind_isC {n : Int} {xs : List Int} (h : isC n xs = true) (s : Nat) : isC n (maxQ (indQ xs s)) = true := part_isC h _ (indQ_down xs s) fun t _ e => by
  unfold indQ at e
  rw [Bool.and_eq_true] at e
  exact e.1
theorem or_isC {n : Int} {xs ys : List Int} (h : isC n xs = true) (k : isC n ys = true) : isC n (maxQ (orQ xs ys)) = true :=
  maxQ_isC n _ (isC_n h).1 (isC_n h).2 (orQ_down xs ys) fun s _ e => by
    unfold orQ at e
    rw [Bool.or_eq_true] at e
    rcases e with e | e
    · exact inF_set h s e
    · exact inF_set k s e
theorem and_isC {n : Int} {xs ys : List Int} (h : isC n xs = true) : isC n (maxQ (andQ xs ys)) = true := part_isC h _ (andQ_down xs ys) fun t _ e => by
  unfold andQ at e
  rw [Bool.and_eq_true] at e
  exact e.1

/-! ### the chapter's promise -/

/-- The faces of union and meet, together, are as many as those of both. -/
theorem faces_inex {n : Int} {xs ys : List Int} (h : isC n xs = true) (k : isC n ys = true) :
    (faces n (maxQ (orQ xs ys))).length + (faces n (maxQ (andQ xs ys))).length = (faces n xs).length + (faces n ys).length := by
  rw [maxQ_faces n _ (orQ_down xs ys) (or_isC h k), maxQ_faces n _ (andQ_down xs ys) (and_isC h)]
  unfold faces
  rw [if_pos h, if_pos k]
  exact ord_inex (inF xs) (inF ys)
theorem or_self_sub {s t : Nat} (h : sub s t = true) : t ||| s = t := by
  rw [sub_iff] at h
  apply Nat.eq_of_testBit_eq
  intro i
  rw [Nat.testBit_or]
  cases e : s.testBit i with
  | false => simp
  | true => rw [h i e]; rfl
/-- Star and deletion make up the complex. -/
theorem star_or_del {n : Int} {xs : List Int} (h : isC n xs = true) (s : Nat) : maxQ (orQ (maxQ (starQ xs s)) (maxQ (delQ xs s))) = xs := by
  conv => rhs; rw [← isC_maxQ h]
  refine maxQ_congr fun t ht => ?_
  unfold orQ
  rw [inF_maxQ _ (starQ_down xs s) t ht, inF_maxQ _ (delQ_down xs s) t ht]
  rw [Bool.eq_iff_iff, Bool.or_eq_true]
  constructor
  · rintro (e | e)
    · exact star_in xs s t e
    · unfold delQ at e
      rw [Bool.and_eq_true] at e
      exact e.1
  · intro e
    cases hs : sub s t with
    | true => left; unfold starQ; rw [or_self_sub hs]; exact e
    | false => right; unfold delQ; rw [e, hs]; rfl
theorem one_apart (s t : Nat) (hs : s < 64) (ht : t < 64) (h : pc s = 1) : (!sub s t) = apart t s := by
  have H : ∀ s t : Fin 64, pc s.val = 1 → (!sub s.val t.val) = apart t.val s.val := by decide +kernel
  exact H ⟨s, hs⟩ ⟨t, ht⟩ h
/-- What star and deletion of one point have in common is its link. -/
theorem star_and_del (xs : List Int) (s : Nat) (hs : s < 64) (h1 : pc s = 1) : maxQ (andQ (maxQ (starQ xs s)) (maxQ (delQ xs s))) = maxQ (linkQ xs s) := by
  refine maxQ_congr fun t ht => ?_
  unfold andQ
  rw [inF_maxQ _ (starQ_down xs s) t ht, inF_maxQ _ (delQ_down xs s) t ht]
  unfold delQ linkQ
  rw [one_apart s t hs ht h1]
  cases e : starQ xs s t with
  | false => unfold starQ at e; rw [e]; simp
  | true =>
    have := star_in xs s t e
    unfold starQ at e
    rw [e, this]; simp
/-- All parts are there, or none: of a set and a complex. -/
theorem parts_some (ok : Bool) (n : Int) (q : Nat → Bool) : (partO ok n q).isSome = ok := by unfold partO; cases ok <;> rfl

end Go.Proofs.Ytmonaiojejbhkaa

/-! WALKS: two complexes that are the same, by the law's own helper; boxes that hold complexes. -/

namespace Go.Proofs.Ytmonaiojejbhkaa
open Go.RowKit
open Sets

/-- A box that holds a complex, its facets readable. -/
def Bx (w : World) (b : Nat) (n : Int) (a : Option Addr) (c : Nat) (xs : List Int) : Prop := Two w b (.int .i64 n) (.slice a xs.length c) ∧ Ints w a xs
theorem Bx.keeps {w w' : World} {b : Nat} {n : Int} {a : Option Addr} {c : Nat} {xs : List Int} (h : Bx w b n a c xs) (hb : Below w.heap.size w w') : Bx w' b n a c xs := ⟨Two.keeps h.1 hb, h.2.keeps hb⟩
theorem Bx.new {w : World} {n : Int} {a : Option Addr} {c : Nat} {xs : List Int} (h : Ints w a xs) (t : TypeId) : Bx (w.alloc (.cells #[.int .i64 n, .slice a xs.length c] t)) w.heap.size n a c xs :=
  ⟨Two.new w _ _ t, h.keeps ((Below.refl _ _).alloc (Nat.le_refl _) _)⟩
/-- What a call that answers a complex and a bool, from letters, hands back: to be put into a box. -/
theorem OwnInts.atn {w : World} {base : Nat} {v : Value} {xs : List Int} (h : OwnInts w base v xs) (hb : base ≤ w.heap.size) :
    ∃ a c, v = .slice a xs.length c ∧ xs.length ≤ c ∧ (a = none → c = 0) ∧ Ints w a xs := by
  obtain ⟨a, c, g, hv, hc, _, hr, _⟩ := OwnInts.ata h hb
  refine ⟨a, c, hv, hc, fun ha => ?_, hr.ints⟩
  unfold OwnInts at h
  rcases h.2 with ⟨h1, _⟩ | ⟨g, cap, cur, h1, _⟩
  · rw [hv] at h1
    injection h1 with _ _ h4
  · rw [hv, ha] at h1
    injection h1 with h2 _ _
    cases h2
theorem partL_le (ok : Bool) (n : Int) (q : Nat → Bool) : (oL (partO ok n q)).length ≤ 64 := by
  unfold partO
  cases ok
  · exact Nat.zero_le _
  · exact maxQ_le q

end Go.Proofs.Ytmonaiojejbhkaa
