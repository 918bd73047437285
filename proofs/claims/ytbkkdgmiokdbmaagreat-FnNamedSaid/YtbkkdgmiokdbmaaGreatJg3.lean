/-
  TEXTS of one claim, put together: Seq, Part, Hom1, Dual1.
-/
import Derived.RangeFuncRecord
import Derived.RangeFuncSeq
import Derived.RangeFuncLeaves
import Derived.RangeFuncCalls
import Derived.Test.YtbkkdgmiokdbmaaGreatJg2
import Derived.Test.YtbkkdgmiokdbmaaGreatJg1
/-! RANGES OVER A FUNCTION, of no program: the iterator writes slices in blocks of its own between two rounds; a round reads the slice that it is handed, writes its caller's boxes alone, and never leaves early. -/

namespace Go.Proofs.YtbkkdgmiokdbmaaGreat
open Go.RowKit

theorem Only.put {G : List Nat} {b : Nat} (hb : b ∈ G) (w : World) (o : Obj) : Only G w (w.putObj b o) :=
  ⟨rfl, rfl, rfl, by simp, fun _ _ hk => World.putObj_heap_other (fun e => hk (by rw [e]; exact hb))⟩
theorem Only.wider {G G' : List Nat} {w w' : World} (h : Only G w w') (hs : ∀ x, x ∈ G → x ∈ G') : Only G' w w' :=
  ⟨h.os, h.tape, h.output, h.size, fun k hk hn => h.block k hk fun hm => hn (hs k hm)⟩
theorem Only.new (G : List Nat) (w : World) (o : Obj) : Only G w (w.alloc o) := Only.of_below G ((Below.refl _ w).alloc (Nat.le_refl _) o)

/-- A slice that reads as xs, in a block from base on (whatever block where there are none). -/
def Row (W : World) (base : Nat) (v : Value) (xs : List Int) : Prop := ∃ a c g, v = .slice a xs.length c ∧ xs.length ≤ c ∧ base ≤ g ∧ IntsAt W g a xs
theorem Row.only {W W' : World} {base : Nat} {v : Value} {xs : List Int} {G : List Nat} (h : Row W base v xs) (k : Only G W W') (hG : ∀ x, x ∈ G → x < base) : Row W' base v xs := by
  obtain ⟨a, c, g, h1, h2, h3, h4⟩ := h
  exact ⟨a, c, g, h1, h2, h3, h4.only k fun hm => by have := hG g hm; omega⟩
theorem Row.lower {W : World} {base b : Nat} {v : Value} {xs : List Int} (h : Row W base v xs) (hb : b ≤ base) : Row W b v xs := by
  obtain ⟨a, c, g, h1, h2, h3, h4⟩ := h
  exact ⟨a, c, g, h1, h2, by omega, h4⟩

/-- What is said of a world while k rounds are over bears what the iterator does: it writes the blocks M that are its own; new ones may be its own, too. -/
def Bears (J : Nat → List Nat → World → Prop) : Prop :=
  ∀ k M M' W W', J k M W → Only M' W W' → (∀ x, x ∈ M' → x ∈ M ∨ W.heap.size ≤ x) → J k M' W'
theorem bears_below (B : Nat) (w : World) : Bears fun _ M W => (∀ x, x ∈ M → B ≤ x) ∧ B ≤ W.heap.size ∧ Below B w W :=
  fun _ M M' W W' ⟨h1, h2, h3⟩ ho hM => by
    have h4 : ∀ x, x ∈ M' → B ≤ x := fun x hx => (hM x hx).elim (h1 x) fun h => Nat.le_trans h2 h
    exact ⟨h4, Nat.le_trans h2 ho.size, h3.trans (ho.below h4 h2)⟩
theorem Bears.and {I J : Nat → List Nat → World → Prop} (h : Bears I) (k : Bears J) : Bears fun n M W => I n M W ∧ J n M W :=
  fun n M M' W W' hs ho hM => ⟨h n M M' W W' hs.1 ho hM, k n M M' W W' hs.2 ho hM⟩

/-- THE ITERATOR's CONTRACT: the function gf with what it has captured hands the slices NS to yield, one by one. -/
def SeqO (P : Program) (gf : FuncId) (lb : Array Value) (NS : List (List Int)) (Pre : Nat → List Nat → World → Prop) : Prop :=
  ∀ (l : Nat) (G : List Nat) (J : Nat → List Nat → World → Prop) (W : World), Pre l G W → l < W.heap.size → (∀ x, x ∈ G → x < W.heap.size) → Bears J →
    (∀ m k M W1 v xs, J k M W1 → NS[k]? = some xs → (∀ x, x ∈ M → W.heap.size ≤ x ∧ x < W1.heap.size) → Row W1 W.heap.size v xs →
      YieldAt Fence.wide m P l #[v] W1 fun e W' => e = .returned (.bool true) ∧ J (k + 1) M W' ∧ Only (l :: G) W1 W') →
    J 0 [] W → ∀ m, CallsIn Fence.wide m P gf (#[.func (.yield l) #[] #[]] ++ lb) W fun e W' => (∃ v, e = .returned v) ∧ ∃ M, J NS.length M W' ∧ ∀ x, x ∈ M → W.heap.size ≤ x

theorem heap_lt {w : World} {k : Nat} {o : Obj} (h : w.heap[k]? = some o) : k < w.heap.size := (Array.getElem?_eq_some_iff.1 h).1

/-- THE STATEMENT 'for x := range seq { .. }', at a call of its own. -/
theorem wp_seq {P : Program} {n : Nat} {g : Operand} {ps : Array Tmp} {assign body : Code} {Q : Exit → Act → World → Prop} {a : Act} {w : World} {gf : FuncId} {lb : Array Value} {NS : List (List Int)} {Pre : Nat → List Nat → World → Prop}
    (hseq : SeqO P gf lb NS Pre) (hg : a.eval g = .func (.func gf) #[] lb) (eg : ∀ args w, (callFunc gf args).run P w = .ok (.enter gf args) w) (hps : ps.size = 1)
    (G : List Nat) (hG : ∀ x, x ∈ G → x < w.heap.size) (hpre : ∀ o1 o2, Pre (w.heap.size + 1) G ((w.alloc o1).alloc o2))
    (I : Nat → List Nat → World → Prop) (hI : Bears I) (h0 : I 0 [] w)
    (hround : ∀ l m k M v xs W, NS[k]? = some xs → assign.wpIn (Fence.wide.inRound l) m P (Exit.then (fun a' W' => W' = W ∧ ∀ W2, I k M W2 → (∀ x, x ∈ M → w.heap.size ≤ x ∧ x < W2.heap.size) → Row W2 (w.heap.size + 2) v xs → w.heap.size + 2 ≤ W2.heap.size →
      body.wpIn (Fence.wide.inRound l) m P (fun e _ W3 => e = .normal ∧ Only G W2 W3 ∧ I (k + 1) M W3) a' W2) fun _ _ _ => False) { tmps := (ps.zip #[v]).foldl (fun t (p, v) => t.setIfInBounds p v) a.tmps, defers := [] } W)
    (hdone : ∀ D M W, w.heap.size ≤ D → (∀ x, x ∈ M → w.heap.size ≤ x) → D ∈ M → I NS.length M W → W.heap[D]? = some (.deferred (some [])) → Q .normal { a with defers := { target := .collected D, args := #[] } :: a.defers } W) :
    (Code.rangeFunc g ps assign body).wpIn Fence.wide n P Q a w := by
  refine wpIn_rangeFunc fun fn hfn => ?_
  obtain ⟨B, hB⟩ : ∃ B, B = w.heap.size := ⟨_, rfl⟩
  obtain ⟨rec, hrec⟩ : ∃ rec : LoopState → Option Code → Loop, rec = fun st pe => { state := st, pending := pe, fn, tmps := a.tmps, params := ps, assign, body, defers := w.heap.size } := ⟨_, rfl⟩
  obtain ⟨W1, hW1⟩ : ∃ W1, (w.alloc (.deferred (some []))).alloc (.loop (rec .ready none)) = W1 := ⟨_, rfl⟩
  have hs1 : W1.heap.size = B + 2 := by rw [← hW1, hB]; simp
  have hl1 : W1.heap[B + 1]? = some (.loop (rec .ready none)) := by
    have := World.alloc_heap_new (w.alloc (.deferred (some []))) (.loop (rec .ready none))
    rwa [World.size_alloc, hW1, ← hB] at this
  have hd1 : W1.heap[B]? = some (.deferred (some [])) := by
    rw [← hW1, hB]
    exact (Below.heap_alloc _ _ _ (by simp)).trans (World.alloc_heap_new w _)
  have hw1 : Only [B + 1, B] w W1 := by rw [← hW1]; exact (Only.new _ w _).trans (Only.new _ _ _)
  -- what is said between two rounds
  obtain ⟨J, hJ⟩ : ∃ J : Nat → List Nat → World → Prop, J = fun k M W => I k ((B + 1) :: B :: M) W ∧ (∀ x, x ∈ M → B + 2 ≤ x) ∧ W.heap[B + 1]? = some (.loop (rec .ready none)) ∧ W.heap[B]? = some (.deferred (some [])) := ⟨_, rfl⟩
  have hbj : Bears J := by
    rw [hJ]
    rintro k M M' W W' ⟨h1, h2, h3, h4⟩ ho hM
    have e1 := heap_lt h3
    have h5 : ∀ x, x ∈ M' → B + 2 ≤ x := fun x hx => (hM x hx).elim (h2 x) fun h => by omega
    refine ⟨hI k _ _ W W' h1 (ho.wider fun x hx => List.mem_cons_of_mem _ (List.mem_cons_of_mem _ hx)) fun x hx => ?_, h5, ?_, ?_⟩
    · rcases List.mem_cons.1 hx with rfl | hx
      · exact .inl (List.mem_cons_self ..)
      rcases List.mem_cons.1 hx with rfl | hx
      · exact .inl (List.mem_cons_of_mem _ (List.mem_cons_self ..))
      · exact (hM x hx).imp (fun h => List.mem_cons_of_mem _ (List.mem_cons_of_mem _ h)) fun h => h
    · rw [ho.block _ e1 fun hm => by have := h5 _ hm; omega]; exact h3
    · rw [ho.block _ (by omega) fun hm => by have := h5 _ hm; omega]; exact h4
  have hj0 : J 0 [] W1 := by
    rw [hJ]
    refine ⟨hI 0 [] _ w W1 h0 hw1 fun x hx => .inr ?_, fun x hx => absurd hx (List.not_mem_nil), hl1, hd1⟩
    rcases List.mem_cons.1 hx with rfl | hx
    · omega
    · rw [List.mem_singleton.1 hx]; omega
  have hp1 : Pre (B + 1) G W1 := by rw [← hW1, hB]; exact hpre _ _
  have hcall := hseq (B + 1) G J W1 hp1 (by omega) (fun x hx => by have := hG x hx; omega) hbj ?_ hj0 (n - 1)
  · refine ⟨B + 1, [{ target := .collected B, args := #[] }], W1, { target := .fn (.func gf) lb, args := #[.func (.yield (B + 1)) #[] #[]] }, W1, gf, #[.func (.yield (B + 1)) #[] #[]] ++ lb, W1, ?_, ?_, ?_, ?_, ?_, ?_⟩
    · rw [← hW1, hrec, hB]; exact run_enterLoop_outer _ _ _ _ _
    · simp only [resolve, hg]
      simp [go_sem]
    · intro _ _; exact trivial
    · simp [invoke, go_sem, eg]
    · intro h; cases h
    · refine hcall.mono ?_
      rintro e W2 ⟨⟨v, rfl⟩, M, hm, hM⟩
      rw [hJ] at hm
      obtain ⟨h1, h2, h3, h4⟩ := hm
      have he := run_endLoop (P := P) h3 (by rw [hrec]; simp)
      rw [hrec] at he
      refine ⟨none, _, he, ?_⟩
      have hput := Only.put (G := (B + 1) :: B :: M) (List.mem_cons_self ..) W2 (.loop { rec .ready none with state := .exhausted })
      refine hdone B ((B + 1) :: B :: M) _ (by omega) (fun x hx => ?_) (List.mem_cons_of_mem _ (List.mem_cons_self ..)) (hI _ _ _ _ _ h1 (by rw [hrec] at hput; exact hput) fun x hx => .inl hx) ((World.putObj_heap_other (by omega)).trans h4)
      rcases List.mem_cons.1 hx with rfl | hx
      · omega
      rcases List.mem_cons.1 hx with rfl | hx
      · omega
      · have := h2 x hx; omega
  · -- one round
    intro m k M W v xs hjk hk hM hv
    rw [hJ] at hjk
    obtain ⟨h1, h2, h3, h4⟩ := hjk
    have e1 := heap_lt h3
    have hy := run_yield (P := P) (args := #[v]) h3 (by rw [hrec]; simp [hps])
    refine ⟨fn, _, assign, body, by rw [hy, hrec], roundIn_of_wpIn hfn (wpIn_mono (hround (B + 1) m k ((B + 1) :: B :: M) v xs W hk) ?_)⟩
    rintro e a1 Wa hp
    have hp : e = .normal ∧ Wa = W ∧ ∀ W2, I k ((B + 1) :: B :: M) W2 → (∀ x, x ∈ (B + 1) :: B :: M → w.heap.size ≤ x ∧ x < W2.heap.size) → Row W2 (w.heap.size + 2) v xs → w.heap.size + 2 ≤ W2.heap.size →
        body.wpIn (Fence.wide.inRound (B + 1)) m P (fun e _ W3 => e = .normal ∧ Only G W2 W3 ∧ I (k + 1) ((B + 1) :: B :: M) W3) a1 W2 := by
      cases e <;> first | exact ⟨rfl, hp⟩ | exact hp.elim
    obtain ⟨rfl, hw, hbody⟩ := hp
    have hw := hw.symm
    subst hw
    obtain ⟨busy, hbusy⟩ : ∃ busy : Obj, busy = .loop { rec .ready none with state := .busy } := ⟨_, rfl⟩
    have hb := run_beginRound (P := P) h3 (by rw [hrec])
    rw [← hbusy] at hb
    refine ⟨_, hb, ?_⟩
    have hl2 : (W.putObj (B + 1) busy).heap[B + 1]? = some busy := World.putObj_heap_same e1
    have ho2 : Only [B + 1] W (W.putObj (B + 1) busy) := Only.put (List.mem_singleton.2 rfl) W busy
    rw [hs1] at hv
    have hM2 : ∀ x, x ∈ ((B + 1) :: B :: M) → w.heap.size ≤ x ∧ x < (W.putObj (B + 1) busy).heap.size := fun x hx => by
      rw [World.putObj_size]
      rcases List.mem_cons.1 hx with rfl | hx
      · omega
      rcases List.mem_cons.1 hx with rfl | hx
      · omega
      · have := hM x hx; omega
    have hi2 : I k ((B + 1) :: B :: M) (W.putObj (B + 1) busy) := hI _ _ _ _ _ h1 (ho2.wider fun x hx => by rw [List.mem_singleton.1 hx]; exact List.mem_cons_self ..) fun x hx => .inl hx
    refine wpIn_mono (hbody _ hi2 hM2 (by rw [← hB]; exact hv.only ho2 fun x hx => by rw [List.mem_singleton.1 hx]; omega) (by rw [World.putObj_size]; omega)) ?_
    rintro e a3 W3 ⟨rfl, ho3, hi3⟩
    have e2 := ho3.size
    rw [World.putObj_size] at e2
    have hl3 : W3.heap[B + 1]? = some busy := by
      rw [ho3.block (B + 1) (by rw [World.putObj_size]; exact e1) fun hm => by have := hG _ hm; omega]; exact hl2
    rw [hbusy] at hl3
    have hend := run_endRound (P := P) none hl3
    obtain ⟨rdy, hrdy⟩ : ∃ rdy : Obj, rdy = .loop (rec .ready none) := ⟨_, rfl⟩
    have hend' : (Instr.endRound (B + 1) none).run P W3 = .ok (.bool true) (W3.putObj (B + 1) rdy) := by
      rw [hend, hrdy, hrec]; rfl
    refine ⟨_, _, hend', rfl, ?_, ?_⟩
    · rw [hJ]
      have ho4 : Only [B + 1] W3 (W3.putObj (B + 1) rdy) := Only.put (List.mem_singleton.2 rfl) W3 rdy
      refine ⟨hI _ _ _ _ _ hi3 (ho4.wider fun x hx => by rw [List.mem_singleton.1 hx]; exact List.mem_cons_self ..) fun x hx => .inl hx, h2, ?_, ?_⟩
      · rw [← hrdy]; exact World.putObj_heap_same (heap_lt hl3)
      · rw [World.putObj_heap_other (by omega), ho3.block B (by rw [World.putObj_size]; omega) fun hm => by have := hG _ hm; omega, World.putObj_heap_other (by omega)]; exact h4
    · exact ((Only.put (List.mem_cons_self ..) W busy).trans (ho3.wider fun x hx => List.mem_cons_of_mem _ hx)).trans (Only.put (List.mem_cons_self ..) W3 rdy)

end Go.Proofs.YtbkkdgmiokdbmaaGreat

/-! PARTS OF COMPLEXES, of no program: families of sets by predicates, their greatest sets. -/

namespace Go.Proofs.YtbkkdgmiokdbmaaGreat
open Sets

/-! ### subsets by bits -/

theorem sub_iff (a b : Nat) : sub a b = true ↔ ∀ i, a.testBit i = true → b.testBit i = true := by
  unfold sub
  rw [beq_iff_eq]
  constructor
  · intro h i hi
    have := congrArg (fun x => x.testBit i) h
    simp only [Nat.testBit_and] at this
    rw [hi] at this
    simpa using this
  · intro h
    apply Nat.eq_of_testBit_eq
    intro i
    rw [Nat.testBit_and]
    cases ha : a.testBit i with
    | false => rfl
    | true => rw [h i ha]; rfl
theorem sub_refl (a : Nat) : sub a a = true := by unfold sub; simp
theorem sub_trans {a b c : Nat} (h : sub a b = true) (k : sub b c = true) : sub a c = true := by
  rw [sub_iff] at *; exact fun i hi => k i (h i hi)
theorem sub_anti {a b : Nat} (h : sub a b = true) (k : sub b a = true) : a = b := by
  rw [sub_iff] at *
  apply Nat.eq_of_testBit_eq
  intro i
  rw [Bool.eq_iff_iff]
  exact ⟨h i, k i⟩
theorem sub_le {a b : Nat} (h : sub a b = true) : a ≤ b := by
  unfold sub at h
  rw [beq_iff_eq] at h
  rw [← h]; exact Nat.and_le_right
theorem sub_and (t f s : Nat) : sub t (f &&& s) = (sub t f && sub t s) := by
  rw [Bool.eq_iff_iff, Bool.and_eq_true, sub_iff, sub_iff, sub_iff]
  constructor
  · intro h
    refine ⟨fun i hi => ?_, fun i hi => ?_⟩ <;>
    · have := h i hi
      rw [Nat.testBit_and, Bool.and_eq_true] at this
      first | exact this.1 | exact this.2
  · intro h i hi
    rw [Nat.testBit_and, h.1 i hi, h.2 i hi]; rfl
theorem sub_or (t s f : Nat) : sub (t ||| s) f = (sub t f && sub s f) := by
  rw [Bool.eq_iff_iff, Bool.and_eq_true, sub_iff, sub_iff, sub_iff]
  constructor
  · intro h
    refine ⟨fun i hi => h i ?_, fun i hi => h i ?_⟩ <;> (rw [Nat.testBit_or, hi]; simp)
  · intro h i hi
    rw [Nat.testBit_or, Bool.or_eq_true] at hi
    rcases hi with e | e
    · exact h.1 i e
    · exact h.2 i e
/-- No point in common. -/
def apart (t s : Nat) : Bool := t &&& s == 0
theorem apart_iff (t s : Nat) : apart t s = true ↔ ∀ i, ¬(t.testBit i = true ∧ s.testBit i = true) := by
  unfold apart
  rw [beq_iff_eq]
  constructor
  · intro h i ⟨h1, h2⟩
    have := congrArg (fun x => x.testBit i) h
    simp only [Nat.testBit_and, Nat.zero_testBit, h1, h2] at this
    cases this
  · intro h
    apply Nat.eq_of_testBit_eq
    intro i
    rw [Nat.testBit_and, Nat.zero_testBit]
    cases h1 : t.testBit i with
    | false => rfl
    | true =>
      cases h2 : s.testBit i with
      | false => rfl
      | true => exact absurd ⟨h1, h2⟩ (h i)
theorem take_away (f s : Nat) (hf : f < 64) (hs : s < 64) (h : sub s f = true) : f - s = f ^^^ s := by
  have H : ∀ f s : Fin 64, sub s.val f.val = true → f.val - s.val = f.val ^^^ s.val := by decide +kernel
  exact H ⟨f, hf⟩ ⟨s, hs⟩ h
theorem sub_xor (t f s : Nat) (h : sub s f = true) : sub t (f ^^^ s) = (apart t s && sub t f) := by
  rw [sub_iff] at h
  rw [Bool.eq_iff_iff, Bool.and_eq_true, sub_iff, sub_iff, apart_iff]
  constructor
  · intro k
    refine ⟨fun i ⟨h1, h2⟩ => ?_, fun i hi => ?_⟩
    · have := k i h1
      rw [Nat.testBit_xor, h2, h i h2] at this
      cases this
    · have := k i hi
      rw [Nat.testBit_xor] at this
      cases h2 : s.testBit i with
      | true => exact h i h2
      | false => rw [h2] at this; simpa using this
  · rintro ⟨k1, k2⟩ i hi
    rw [Nat.testBit_xor, k2 i hi]
    cases h2 : s.testBit i with
    | true => exact absurd ⟨hi, h2⟩ (k1 i)
    | false => rfl
theorem apart_mono {t u s : Nat} (h : sub t u = true) (k : apart u s = true) : apart t s = true := by
  rw [sub_iff] at h; rw [apart_iff] at *
  exact fun i ⟨h1, h2⟩ => k i ⟨h i h1, h2⟩

/-! ### families closed downwards -/

def Down (q : Nat → Bool) : Prop := ∀ s t, s < 64 → t < 64 → sub s t = true → q t = true → q s = true
theorem inF_iff (xs : List Int) (s : Nat) : inF xs s = true ↔ ∃ f, f ∈ xs ∧ sub s f.toNat = true := by unfold inF; rw [List.any_eq_true]
theorem inF_down (xs : List Int) : Down (inF xs) := fun s t _ _ h k => by
  rw [inF_iff] at *
  obtain ⟨f, hf, e⟩ := k
  exact ⟨f, hf, sub_trans h e⟩
/-- The greatest sets of a family, in order. -/
def maxQ (q : Nat → Bool) : List Int := ord fun s => q s && (List.range 64).all fun t => !(q t && sub s t && t != s)
theorem mem_maxQ (q : Nat → Bool) (x : Int) : x ∈ maxQ q ↔ ∃ s : Nat, x = (s : Int) ∧ s < 64 ∧ q s = true ∧ ∀ t, t < 64 → q t = true → sub s t = true → t = s := by
  unfold maxQ
  rw [mem_ord]
  constructor
  · rintro ⟨s, rfl, hs, h⟩
    rw [Bool.and_eq_true, List.all_eq_true] at h
    refine ⟨s, rfl, hs, h.1, fun t ht h1 h2 => ?_⟩
    have := h.2 t (List.mem_range.2 ht)
    rw [h1, h2] at this
    simpa using this
  · rintro ⟨s, rfl, hs, h1, h2⟩
    refine ⟨s, rfl, hs, ?_⟩
    rw [Bool.and_eq_true, List.all_eq_true]
    refine ⟨h1, fun t ht => ?_⟩
    rw [Bool.not_eq_true', Bool.and_eq_false_iff]
    cases e1 : q t with
    | false => left; rfl
    | true =>
      cases e2 : sub s t with
      | false => left; rfl
      | true => right; rw [h2 t (List.mem_range.1 ht) e1 e2]; simp
theorem maxQ_congr {p q : Nat → Bool} (h : ∀ s, s < 64 → p s = q s) : maxQ p = maxQ q := by
  refine rises_eq _ _ (ord_rises _) (ord_rises _) fun x => ?_
  rw [mem_maxQ, mem_maxQ]
  constructor
  · rintro ⟨s, e, hs, h1, h2⟩
    exact ⟨s, e, hs, by rw [← h s hs]; exact h1, fun t ht k1 k2 => h2 t ht (by rw [h t ht]; exact k1) k2⟩
  · rintro ⟨s, e, hs, h1, h2⟩
    exact ⟨s, e, hs, by rw [h s hs]; exact h1, fun t ht k1 k2 => h2 t ht (by rw [← h t ht]; exact k1) k2⟩
theorem ok_nat {x : Int} {A : List Int} (h : allOk A = true) (hx : x ∈ A) : ∃ s : Nat, x = (s : Int) ∧ s < 64 := by
  unfold allOk at h
  exact okZ_cast x (List.all_eq_true.1 h x hx)
/-- The maximal sets of a list are told by what lies in it. -/
theorem maximal_maxQ (A : List Int) (h : allOk A = true) : maximal A = maxQ (inF A) := by
  refine rises_eq _ _ ?_ (ord_rises _) fun x => ?_
  · unfold maximal best
    exact List.Pairwise.filter _ (order_rises A)
  rw [mem_maxQ]
  unfold maximal best
  rw [List.mem_filter, order_iff A h]
  constructor
  · rintro ⟨hx, hu⟩
    obtain ⟨s, rfl, hs⟩ := ok_nat h hx
    refine ⟨s, rfl, hs, (inF_iff A s).2 ⟨_, hx, sub_refl s⟩, fun t ht h1 h2 => ?_⟩
    obtain ⟨f, hf, e⟩ := (inF_iff A t).1 h1
    obtain ⟨u, rfl, hu64⟩ := ok_nat h hf
    have e : sub t u = true := e
    by_cases hne : u = s
    · subst hne; exact sub_anti e h2
    · unfold unbeaten at hu
      have := List.all_eq_true.1 hu (u : Int) ((order_iff A h _).2 hf)
      rw [Bool.not_eq_true', Bool.and_eq_false_iff] at this
      rcases this with k | k
      · have : (u : Int) = (s : Int) := by simpa using k
        omega
      · have k : sub s u = false := k
        rw [sub_trans h2 e] at k; cases k
  · rintro ⟨s, rfl, hs, h1, h2⟩
    obtain ⟨f, hf, e⟩ := (inF_iff A s).1 h1
    obtain ⟨u, rfl, hu64⟩ := ok_nat h hf
    have e : sub s u = true := e
    have : u = s := h2 u hu64 ((inF_iff A u).2 ⟨_, hf, sub_refl u⟩) e
    subst this
    refine ⟨hf, ?_⟩
    unfold unbeaten
    rw [List.all_eq_true]
    intro y hy
    have hy := (order_iff A h y).1 hy
    obtain ⟨v, rfl, hv⟩ := ok_nat h hy
    rw [Bool.not_eq_true', Bool.and_eq_false_iff]
    by_cases hne : v = u
    · left; subst hne; simp
    · right
      rw [Bool.eq_false_iff]
      intro k
      exact hne (h2 v hv ((inF_iff A v).2 ⟨_, hy, sub_refl v⟩) k)
theorem inF_ord (q : Nat → Bool) (hd : Down q) (t : Nat) (ht : t < 64) : inF (ord q) t = q t := by
  rw [Bool.eq_iff_iff, inF_iff]
  constructor
  · rintro ⟨f, hf, e⟩
    obtain ⟨u, rfl, hu, hq⟩ := (mem_ord q f).1 hf
    exact hd t u ht hu e hq
  · intro h
    exact ⟨(t : Int), (mem_ord q _).2 ⟨t, rfl, ht, h⟩, sub_refl t⟩
theorem ord_ok (q : Nat → Bool) : allOk (ord q) = true := by
  unfold allOk
  rw [List.all_eq_true]
  intro x hx
  obtain ⟨s, rfl, hs, _⟩ := (mem_ord q x).1 hx
  exact (okZ_nat s).2 hs
theorem maximal_ord (q : Nat → Bool) (hd : Down q) : maximal (ord q) = maxQ q := by
  rw [maximal_maxQ _ (ord_ok q)]
  exact maxQ_congr fun s hs => inF_ord q hd s hs
/-- Each set of a family lies in a greatest one. -/
theorem maxQ_above (q : Nat → Bool) : ∀ (m t : Nat), t < 64 → 64 - t ≤ m → q t = true → ∃ u : Nat, u < 64 ∧ (u : Int) ∈ maxQ q ∧ sub t u = true
  | 0, t, ht, hm, _ => by omega
  | m + 1, t, ht, hm, hq => by
    by_cases h : ∀ v, v < 64 → q v = true → sub t v = true → v = t
    · exact ⟨t, ht, (mem_maxQ q _).2 ⟨t, rfl, ht, hq, h⟩, sub_refl t⟩
    · have : ∃ v, v < 64 ∧ q v = true ∧ sub t v = true ∧ v ≠ t := by
        refine Classical.byContradiction fun k => h fun v h1 h2 h3 => Classical.byContradiction fun h4 => k ⟨v, h1, h2, h3, h4⟩
      obtain ⟨v, h1, h2, h3, h4⟩ := this
      have := sub_le h3
      obtain ⟨u, k1, k2, k3⟩ := maxQ_above q m v h1 (by omega) h2
      exact ⟨u, k1, k2, sub_trans h3 k3⟩
theorem inF_maxQ (q : Nat → Bool) (hd : Down q) (t : Nat) (ht : t < 64) : inF (maxQ q) t = q t := by
  rw [Bool.eq_iff_iff, inF_iff]
  constructor
  · rintro ⟨f, hf, e⟩
    obtain ⟨u, rfl, hu, hq, _⟩ := (mem_maxQ q f).1 hf
    exact hd t u ht hu e hq
  · intro h
    obtain ⟨u, _, h2, h3⟩ := maxQ_above q 64 t ht (by omega) h
    exact ⟨_, h2, h3⟩
theorem maxQ_le (q : Nat → Bool) : (maxQ q).length ≤ 64 := ord_le _
theorem maxQ_ok (q : Nat → Bool) : allOk (maxQ q) = true := ord_ok _
/-- A complex is told by its faces. -/
theorem isC_maxQ {n : Int} {xs : List Int} (h : isC n xs = true) : maxQ (inF xs) = xs := by
  rw [← maximal_maxQ xs (isC_ok h), maximal_self h]
theorem maxQ_isC (n : Int) (q : Nat → Bool) (h1 : 1 ≤ n) (h2 : n ≤ 6) (hd : Down q) (h : ∀ s, s < 64 → q s = true → setB n (s : Int) = true) : isC n (maxQ q) = true := by
  rw [← maximal_ord q hd]
  refine isC_maximal n _ h1 h2 fun x hx => ?_
  obtain ⟨s, rfl, hs, hq⟩ := (mem_ord q x).1 hx
  exact h s hs hq
theorem maxQ_faces (n : Int) (q : Nat → Bool) (hd : Down q) (hc : isC n (maxQ q) = true) : faces n (maxQ q) = ord q := by
  unfold faces
  rw [if_pos hc]
  exact ord_congr fun t ht => inF_maxQ q hd t ht
/-- Faces of a complex are sets of its points. -/
theorem setB_sub {n : Int} {s t : Nat} (h : setB n (t : Int) = true) (k : sub s t = true) : setB n (s : Int) = true := by
  rw [setB_iff] at *
  have := sub_le k
  exact ⟨h.1, h.2.1, by omega, by have := h.2.2.2; omega⟩
theorem inF_set {n : Int} {xs : List Int} (h : isC n xs = true) (s : Nat) (k : inF xs s = true) : setB n (s : Int) = true := by
  obtain ⟨f, hf, e⟩ := (inF_iff xs s).1 k
  obtain ⟨t, rfl, _⟩ := ok_nat (isC_ok h) hf
  exact setB_sub (isC_set h _ hf) e

/-! ### the parts -/

def linkQ (xs : List Int) (s t : Nat) : Bool := apart t s && inF xs (t ||| s)
def starQ (xs : List Int) (s t : Nat) : Bool := inF xs (t ||| s)
def delQ (xs : List Int) (s t : Nat) : Bool := inF xs t && !sub s t
def skelQ (xs : List Int) (k : Int) (t : Nat) : Bool := inF xs t && decide ((pc t : Int) ≤ k)
def indQ (xs : List Int) (s t : Nat) : Bool := inF xs t && sub t s
def orQ (xs ys : List Int) (t : Nat) : Bool := inF xs t || inF ys t
def andQ (xs ys : List Int) (t : Nat) : Bool := inF xs t && inF ys t

theorem or_sub {s t : Nat} (h : sub s t = true) (u : Nat) : sub (s ||| u) (t ||| u) = true := by
  rw [sub_or, Bool.and_eq_true, sub_iff, sub_iff]
  rw [sub_iff] at h
  exact ⟨fun i hi => by rw [Nat.testBit_or, h i hi]; rfl, fun i hi => by rw [Nat.testBit_or, hi]; simp⟩
theorem inF_sub {xs : List Int} {s t : Nat} (h : sub s t = true) (k : inF xs t = true) : inF xs s = true := by
  rw [inF_iff] at *
  obtain ⟨f, hf, e⟩ := k
  exact ⟨f, hf, sub_trans h e⟩
theorem starQ_down (xs : List Int) (u : Nat) : Down (starQ xs u) := fun s t _ _ h k => by
  unfold starQ at *
  exact inF_sub (or_sub h u) k
theorem linkQ_down (xs : List Int) (u : Nat) : Down (linkQ xs u) := fun s t hs ht h k => by
  unfold linkQ at *
  rw [Bool.and_eq_true] at *
  exact ⟨apart_mono h k.1, starQ_down xs u s t hs ht h k.2⟩
theorem delQ_down (xs : List Int) (u : Nat) : Down (delQ xs u) := fun s t _ _ h k => by
  unfold delQ at *
  rw [Bool.and_eq_true, Bool.not_eq_true'] at *
  refine ⟨inF_sub h k.1, ?_⟩
  rw [Bool.eq_false_iff]; intro e
  rw [sub_trans e h] at k; cases k.2
theorem pc_sub {s t : Nat} (hs : s < 64) (ht : t < 64) (h : sub s t = true) : pc s ≤ pc t := by
  rcases sub_pc s t hs ht h with e | e
  · omega
  · rw [e]; exact Nat.le_refl _
theorem skelQ_down (xs : List Int) (k : Int) : Down (skelQ xs k) := fun s t hs ht h e => by
  unfold skelQ at *
  rw [Bool.and_eq_true, decide_eq_true_iff] at *
  have := pc_sub hs ht h
  exact ⟨inF_sub h e.1, by omega⟩
theorem indQ_down (xs : List Int) (u : Nat) : Down (indQ xs u) := fun s t _ _ h k => by
  unfold indQ at *
  rw [Bool.and_eq_true] at *
  exact ⟨inF_sub h k.1, sub_trans h k.2⟩
theorem orQ_down (xs ys : List Int) : Down (orQ xs ys) := fun s t _ _ h k => by
  unfold orQ at *
  rw [Bool.or_eq_true] at *
  exact k.imp (inF_sub h) (inF_sub h)
theorem andQ_down (xs ys : List Int) : Down (andQ xs ys) := fun s t _ _ h k => by
  unfold andQ at *
  rw [Bool.and_eq_true] at *
  exact ⟨inF_sub h k.1, inF_sub h k.2⟩

/-- A part: a complex of n points, or none. -/
def partO (ok : Bool) (n : Int) (q : Nat → Bool) : Option (Int × List Int) := if ok = true then some (n, maxQ q) else none
def linkO (n : Int) (xs : List Int) (s : Int) := partO (isC n xs && setB n s) n (linkQ xs s.toNat)
def starO (n : Int) (xs : List Int) (s : Int) := partO (isC n xs && setB n s) n (starQ xs s.toNat)
def delO (n : Int) (xs : List Int) (s : Int) := partO (isC n xs && setB n s) n (delQ xs s.toNat)
def skelO (n : Int) (xs : List Int) (k : Int) := partO (isC n xs && inB 0 6 k) n (skelQ xs k)
def indO (n : Int) (xs : List Int) (s : Int) := partO (isC n xs && setB n s) n (indQ xs s.toNat)
def bothOk (n m : Int) (xs ys : List Int) : Bool := isC n xs && isC m ys && n == m
def unionO (n m : Int) (xs ys : List Int) := partO (bothOk n m xs ys) n (orQ xs ys)
def meetO (n m : Int) (xs ys : List Int) := partO (bothOk n m xs ys) n (andQ xs ys)

end Go.Proofs.YtbkkdgmiokdbmaaGreat

/-! CHAINS of sets of at most six points, of no program: borders, cycles; the border's rank counts cycles; the border of a border is 0. -/

namespace Go.Proofs.YtbkkdgmiokdbmaaGreat
namespace Hom
open Sets Lin

/-- The number of the face t in the border of the face s. -/
def sgn (t s : Nat) : Int := if sub t s = true ∧ pc s = pc t + 1 then 1 - 2 * ((pc (s &&& (s - t - 1)) % 2 : Nat) : Int) else 0
def S (f : Nat → Int) : Int := sm (List.range 64) f
def bd (y : Nat → Int) (t : Nat) : Int := S fun s => sgn t s * y s
/-- The faces of k points. -/
def J (q : Nat → Bool) (k : Nat) : List Nat := (List.range 64).filter fun s => pc s == k && q s

theorem sm_add {α : Type} : ∀ (l : List α) (f g : α → Int), sm l (fun a => f a + g a) = sm l f + sm l g
  | [], _, _ => rfl
  | a :: l, f, g => by
    show f a + g a + sm l (fun a => f a + g a) = f a + sm l f + (g a + sm l g)
    rw [sm_add l f g]; omega
theorem sm_mul {α : Type} (c : Int) : ∀ (l : List α) (f : α → Int), sm l (fun a => c * f a) = c * sm l f
  | [], _ => by simp [sm]
  | a :: l, f => by
    show c * f a + sm l (fun a => c * f a) = c * (f a + sm l f)
    rw [sm_mul c l f]; grind
theorem sm_append {α : Type} (f : α → Int) : ∀ l m : List α, sm (l ++ m) f = sm l f + sm m f
  | [], m => by simp [sm]
  | a :: l, m => by
    show f a + sm (l ++ m) f = f a + sm l f + sm m f
    rw [sm_append f l m]; omega
theorem sm_map {α β : Type} (h : α → β) (f : β → Int) : ∀ l : List α, sm (l.map h) f = sm l fun a => f (h a)
  | [] => rfl
  | a :: l => by
    show f (h a) + sm (l.map h) f = f (h a) + sm l fun a => f (h a)
    rw [sm_map h f l]
theorem sm_swap {α β : Type} (f : α → β → Int) : ∀ (l : List α) (m : List β), sm l (fun a => sm m (f a)) = sm m fun b => sm l fun a => f a b
  | [], m => (sm_zero m _ fun _ _ => rfl).symm
  | a :: l, m => by
    show sm m (f a) + sm l (fun a => sm m (f a)) = sm m fun b => f a b + sm l fun a => f a b
    rw [sm_swap f l m, sm_add]
theorem sm_filter {α : Type} (P : α → Bool) (f : α → Int) : ∀ l : List α, sm (l.filter P) f = sm l fun a => if P a = true then f a else 0
  | [] => rfl
  | a :: l => by
    show _ = (if P a = true then f a else 0) + sm l fun a => if P a = true then f a else 0
    rw [← sm_filter P f l, List.filter_cons]
    split
    · rfl
    · omega
theorem sm_range_add (f : Nat → Int) (a b : Nat) : sm (List.range (a + b)) f = sm (List.range a) f + sm (List.range b) fun s => f (a + s) := by
  rw [List.range_add, sm_append, sm_map]
theorem sm_dvd {α : Type} (p : Int) : ∀ (l : List α) (f g : α → Int), (∀ a ∈ l, p ∣ f a - g a) → p ∣ sm l f - sm l g
  | [], _, _, _ => ⟨0, by simp [sm]⟩
  | a :: l, f, g, h => by
    obtain ⟨k, hk⟩ := h a (List.mem_cons_self ..)
    obtain ⟨m, hm⟩ := sm_dvd p l f g fun b hb => h b (List.mem_cons_of_mem _ hb)
    refine ⟨k + m, ?_⟩
    show f a + sm l f - (g a + sm l g) = p * (k + m)
    grind
theorem sm_count {α : Type} (P : α → Bool) : ∀ l : List α, ((l.filter P).length : Int) = sm l fun a => if P a = true then 1 else 0
  | [] => rfl
  | a :: l => by
    show _ = (if P a = true then 1 else 0) + sm l fun a => if P a = true then 1 else 0
    rw [← sm_count P l, List.filter_cons]
    split
    · rw [List.length_cons]; omega
    · omega

theorem mem_J (q : Nat → Bool) (k s : Nat) : s ∈ J q k ↔ s < 64 ∧ pc s = k ∧ q s = true := by unfold J; rw [List.mem_filter, List.mem_range, Bool.and_eq_true, beq_iff_eq]
theorem J_nodup (q : Nat → Bool) (k : Nat) : (J q k).Nodup := List.nodup_range.filter _

/-- The matrix of the border of the faces of k points, its rank modulo a prime. -/
def bdm (q : Nat → Bool) (k : Nat) : Mat := (J q (k - 1)).map fun t => (J q k).map fun s => sgn t s
def rk (p : Nat) (q : Nat → Bool) (k : Nat) : Nat := if k = 0 then 0 else rank p (bdm q k) (J q k).length
/-- Chains of faces of k points; those without a border. -/
def Chn (p : Nat) (q : Nat → Bool) (k : Nat) (y : Nat → Int) : Prop := Vec p (J q k) y
def Cyc (p : Nat) (q : Nat → Bool) (k : Nat) (y : Nat → Int) : Prop := Vec p (J q k) y ∧ ∀ t, t < 64 → (p : Int) ∣ bd y t

theorem card_chn (p : Nat) (q : Nat → Bool) (k : Nat) : Card (Chn p q k) (p ^ (J q k).length) := card_vec p _ (J_nodup q k)

theorem dot_map (h : Nat → Int) (y : Nat → Int) : ∀ l : List Nat, dot (l.map h) (fun j => y (l.getD j 64)) = sm l fun s => h s * y s
  | [] => rfl
  | a :: l => by
    show h a * y a + dot (l.map h) (fun j => y (l.getD j 64)) = h a * y a + sm l fun s => h s * y s
    rw [dot_map h y l]

theorem vec_getD {l : List Nat} {j : Nat} (h : j < l.length) (d : Nat) : l.getD j d = l[j] := by simp [List.getD, List.getElem?_eq_getElem h]

/-- Vectors by place and vectors by index. -/
theorem card_index {p : Nat} {l : List Nat} (hn : l.Nodup) (h64 : 64 ∉ l) (T : (Nat → Int) → Prop) {c : Nat} (h : Card (fun x => Vec p (List.range l.length) x ∧ T fun s => if s ∈ l then x (l.idxOf s) else 0) c) : Card (fun y => Vec p l y ∧ T y) c := by
  refine h.bij (fun x s => if s ∈ l then x (l.idxOf s) else 0) (fun y j => y (l.getD j 64)) ?_ ?_ ?_ ?_
  · rintro x ⟨hx, ht⟩
    refine ⟨⟨fun s hs => ?_, fun s hs => if_neg hs⟩, ht⟩
    dsimp only; rw [if_pos hs]
    exact hx.1 _ (List.mem_range.2 (List.idxOf_lt_length_of_mem hs))
  · rintro y ⟨hy, ht⟩
    refine ⟨⟨fun j hj => ?_, fun j hj => ?_⟩, ?_⟩
    · have hj' := List.mem_range.1 hj
      dsimp only; rw [vec_getD hj']; exact hy.1 _ (List.getElem_mem hj')
    · dsimp only
      rw [show l.getD j 64 = 64 by simp [List.getD, List.getElem?_eq_none (by rw [List.mem_range] at hj; omega : l.length ≤ j)]]
      exact hy.2 _ h64
    · rw [show (fun s => if s ∈ l then y (l.getD (l.idxOf s) 64) else 0) = y from ?_]; exact ht
      funext s
      by_cases e : s ∈ l
      · rw [if_pos e, vec_getD (List.idxOf_lt_length_of_mem e), List.getElem_idxOf]
      · rw [if_neg e]; exact (hy.2 s e).symm
  · rintro x ⟨hx, _⟩
    funext j
    dsimp only
    by_cases e : j < l.length
    · rw [vec_getD e, if_pos (List.getElem_mem e), hn.idxOf_getElem j e]
    · rw [show l.getD j 64 = 64 by simp [List.getD, List.getElem?_eq_none (by omega : l.length ≤ j)], if_neg h64]
      exact (hx.2 j (fun hm => e (List.mem_range.1 hm))).symm
  · rintro y ⟨hy, _⟩
    funext s
    dsimp only
    by_cases e : s ∈ l
    · rw [if_pos e, vec_getD (List.idxOf_lt_length_of_mem e), List.getElem_idxOf]
    · rw [if_neg e]; exact (hy.2 s e).symm

theorem sgn_zero {t s : Nat} (h : ¬(sub t s = true ∧ pc s = pc t + 1)) : sgn t s = 0 := if_neg h

/-- The border's sum over all sets is that over the faces. -/
theorem bd_faces {p : Nat} {q : Nat → Bool} {k : Nat} {y : Nat → Int} (hy : Vec p (J q k) y) (t : Nat) : bd y t = sm (J q k) fun s => sgn t s * y s := by
  unfold bd S J
  rw [sm_filter]
  refine sm_congr _ _ _ fun s hs => ?_
  split
  · rfl
  · rw [hy.2 s (fun hm => by unfold J at hm; exact absurd (List.mem_filter.1 hm).2 (by assumption))]; simp

/-- The border of a chain lies on faces. -/
theorem bd_off {p : Nat} {q : Nat → Bool} (hq : Down q) {k : Nat} {y : Nat → Int} (hy : Vec p (J q k) y) {t : Nat} (ht : t < 64) (h : ¬(q t = true ∧ pc t + 1 = k)) : bd y t = 0 := by
  rw [bd_faces hy]
  refine sm_zero _ _ fun s hs => ?_
  obtain ⟨h1, h2, h3⟩ := (mem_J q k s).1 hs
  rw [sgn_zero (fun hh => h ⟨hq t s ht h1 hh.1 h3, by omega⟩)]; simp

/-- THE BORDER's RANK COUNTS CYCLES. -/
theorem card_cyc {p : Nat} (hP : IsP p) {q : Nat → Bool} (hq : Down q) (k : Nat) : Card (Cyc p q k) (p ^ ((J q k).length - rk p q k)) ∧ rk p q k ≤ (J q k).length := by
  have h64 : ∀ k, 64 ∉ J q k := fun k h => by have := ((mem_J q k 64).1 h).1; omega
  cases k with
  | zero =>
    refine ⟨?_, Nat.zero_le _⟩
    show Card (Cyc p q 0) (p ^ ((J q 0).length - 0))
    refine (card_chn p q 0).congr fun y => ⟨fun h => ⟨h, fun t ht => ?_⟩, fun h => h.1⟩
    rw [bd_off hq h ht (by omega)]; exact ⟨0, by simp⟩
  | succ k =>
    have hw : ∀ r ∈ bdm q (k + 1), r.length = (J q (k + 1)).length := fun r hr => by
      obtain ⟨t, _, rfl⟩ := List.mem_map.1 hr; rw [List.length_map]
    obtain ⟨hc, hl⟩ := rank_card hP hw
    refine ⟨?_, hl⟩
    refine card_index (J_nodup q (k + 1)) (h64 _) (fun y => ∀ t, t < 64 → (p : Int) ∣ bd y t) (hc.congr fun x => ?_)
    unfold Ker
    refine and_congr_right fun hx => ?_
    have hy : Vec p (J q (k + 1)) fun s => if s ∈ J q (k + 1) then x ((J q (k + 1)).idxOf s) else 0 :=
      ⟨fun s hs => by dsimp only; rw [if_pos hs]; exact hx.1 _ (List.mem_range.2 (List.idxOf_lt_length_of_mem hs)), fun s hs => if_neg hs⟩
    have key : ∀ t, dot ((J q (k + 1)).map fun s => sgn t s) x = bd (fun s => if s ∈ J q (k + 1) then x ((J q (k + 1)).idxOf s) else 0) t := fun t => by
      rw [bd_faces hy, ← dot_map (fun s => sgn t s)]
      refine dot_congr _ _ _ fun j hj => ?_
      rw [List.length_map] at hj
      rw [vec_getD hj, if_pos (List.getElem_mem hj), (J_nodup q (k + 1)).idxOf_getElem j hj]
    constructor
    · intro h t ht
      by_cases e : q t = true ∧ pc t + 1 = k + 1
      · rw [← key]
        exact h _ (List.mem_map.2 ⟨t, (mem_J q _ t).2 ⟨ht, by omega, e.1⟩, rfl⟩)
      · rw [bd_off hq hy ht e]; exact ⟨0, by simp⟩
    · intro h r hr
      obtain ⟨t, ht, rfl⟩ := List.mem_map.1 hr
      rw [key]
      exact h t ((mem_J q _ t).1 ht).1

/-! ### the border of a border -/

theorem sgn_sgn0 : ∀ t u : Fin 64, (sub t.val u.val && pc u.val == pc t.val + 2) = true → (sm (List.range 64) fun s => sgn t.val s * sgn s u.val) = 0 := by decide +kernel
theorem sgn_sgn (t u : Nat) (ht : t < 64) (hu : u < 64) : (sm (List.range 64) fun s => sgn t s * sgn s u) = 0 := by
  by_cases h : (sub t u && pc u == pc t + 2) = true
  · exact sgn_sgn0 ⟨t, ht⟩ ⟨u, hu⟩ h
  · refine sm_zero _ _ fun s _ => ?_
    by_cases h1 : sub t s = true ∧ pc s = pc t + 1
    · by_cases h2 : sub s u = true ∧ pc u = pc s + 1
      · exact absurd (by rw [sub_trans h1.1 h2.1, show pc u = pc t + 2 by omega]; simp) h
      · rw [sgn_zero h2]; simp
    · rw [sgn_zero h1]; simp
theorem bd_bd (y : Nat → Int) {t : Nat} (ht : t < 64) : bd (bd y) t = 0 := by
  unfold bd S
  rw [sm_congr _ _ (fun s => sm (List.range 64) fun u => sgn t s * sgn s u * y u) fun s _ => by
    rw [← sm_mul]; exact sm_congr _ _ _ fun u _ => by grind]
  rw [sm_swap]
  refine sm_zero _ _ fun u hu => ?_
  have := sgn_sgn t u ht (List.mem_range.1 hu)
  rw [sm_congr _ _ (fun s => y u * (sgn t s * sgn s u)) fun s _ => by grind, sm_mul, this]; simp

end Hom
end Go.Proofs.YtbkkdgmiokdbmaaGreat

/-! LINEAR ALGEBRA modulo a prime, of no program: a matrix and its transpose: how many vectors either sends to 0, by counting pairs. -/

namespace Go.Proofs.YtbkkdgmiokdbmaaGreat
open Sets
namespace Lin
open Hom

theorem Card.union {α : Type} {S T : α → Prop} {c d : Nat} (h : Card S c) (h' : Card T d) (hd : ∀ x, S x → ¬T x) : Card (fun x => S x ∨ T x) (c + d) := by
  obtain ⟨l, hn, hm, rfl⟩ := h
  obtain ⟨l', hn', hm', rfl⟩ := h'
  refine ⟨l ++ l', ?_, fun x => by rw [List.mem_append, hm, hm'], List.length_append ..⟩
  rw [List.nodup_append]
  refine ⟨hn, hn', fun a ha b hb e => ?_⟩
  subst e
  exact hd a ((hm a).1 ha) ((hm' a).1 hb)
/-- What is left of a counted set. -/
theorem Card.rest {α : Type} {S T : α → Prop} {c d : Nat} (h : Card S c) (h' : Card T d) (hT : ∀ x, T x → S x) : d ≤ c ∧ Card (fun x => S x ∧ ¬T x) (c - d) := by
  obtain ⟨e, _, he⟩ := h.sub (T := fun x => S x ∧ ¬T x) fun x hx => hx.1
  have hu := h'.union he fun x hx hn => hn.2 hx
  have := (hu.congr (T := S) fun x => ⟨fun k => k.elim (hT x) (·.1), fun k => (Classical.em (T x)).elim .inl fun n => .inr ⟨k, n⟩⟩).unique h
  exact ⟨by omega, by rw [show c - d = e by omega]; exact he⟩
theorem Card.pairs {α β : Type} {T : α → Prop} {Q : α → β → Prop} {a A : Nat} (h : Card T a) (hq : ∀ x, T x → Card (Q x) A) : Card (fun z : α × β => T z.1 ∧ Q z.1 z.2) (a * A) := by
  refine h.fibre Prod.fst (fun z hz => hz.1) fun x hx => ?_
  refine (hq x hx).bij (fun y => (x, y)) Prod.snd (fun y hy => ⟨⟨hx, hy⟩, rfl⟩) ?_ (fun y _ => rfl) ?_
  · rintro ⟨x', y⟩ ⟨⟨_, hy⟩, e⟩
    dsimp only at e hy ⊢
    rw [← e]; exact hy
  · rintro ⟨x', y⟩ ⟨_, e⟩
    dsimp only at e ⊢
    rw [e]
/-- Fibres of two sizes. -/
theorem Card.mix {α β : Type} {S T : α → Prop} {Q : α → β → Prop} {N a A B : Nat} (h : Card S N) (h' : Card T a) (hT : ∀ x, T x → S x) (hA : ∀ x, T x → Card (Q x) A) (hB : ∀ x, S x → ¬T x → Card (Q x) B) :
    a ≤ N ∧ Card (fun z : α × β => S z.1 ∧ Q z.1 z.2) (a * A + (N - a) * B) := by
  obtain ⟨hle, hr⟩ := h.rest h' hT
  refine ⟨hle, ?_⟩
  have h1 := h'.pairs hA
  have h2 := hr.pairs fun x hx => hB x hx.1 hx.2
  refine (h1.union h2 fun z hz hn => hn.1.2 hz.1).congr fun z => ⟨?_, fun k => ?_⟩
  · rintro (k | k)
    · exact ⟨hT _ k.1, k.2⟩
    · exact ⟨k.1.1, k.2⟩
  · rcases Classical.em (T z.1) with e | e
    · exact .inl ⟨e, k.2⟩
    · exact .inr ⟨⟨k.1, e⟩, k.2⟩

/-! ### the vectors that a row sends to 0 -/

theorem sm_upd (v z : Nat → Int) (c : Nat) (a : Int) (l : List Nat) (hn : l.Nodup) (hc : c ∈ l) : sm l (fun s => v s * upd z c a s) = sm l (fun s => v s * z s) + v c * (a - z c) := by
  have e : sm l (fun s => v s * upd z c a s) = sm l fun s => v s * z s + (v s * (upd z c a s - z s)) := sm_congr _ _ _ fun s _ => by grind
  rw [e, sm_add]
  congr 1
  rw [sm_one c _ l hn hc fun s _ hs => by rw [upd_other _ _ hs]; grind]
  rw [upd_same]
theorem row_all {p : Nat} {l : List Nat} (hn : l.Nodup) {v : Nat → Int} (h : ∀ s ∈ l, (p : Int) ∣ v s) : Card (fun x => Vec p l x ∧ (p : Int) ∣ sm l fun s => v s * x s) (p ^ l.length) :=
  (card_vec p l hn).congr fun x => ⟨fun hx => ⟨hx, by
    have := sm_dvd (p : Int) l (fun s => v s * x s) (fun _ => 0) fun s hs => by
      obtain ⟨m, hm⟩ := h s hs
      exact ⟨m * x s, by rw [hm]; grind⟩
    rw [sm_zero l _ fun _ _ => rfl, Int.sub_zero] at this
    exact this⟩, fun hx => hx.1⟩
/-- A number that p does not divide has an inverse. -/
theorem inv_of {p : Nat} (hP : IsP p) {a : Int} (h : ¬(p : Int) ∣ a) : ∃ i : Int, (p : Int) ∣ a * i - 1 := by
  have hp : (0 : Int) < p := by have := hP.1; omega
  have h0 : 0 ≤ a % p := Int.emod_nonneg _ (by omega)
  have h1 : a % p < p := Int.emod_lt_of_pos _ hp
  have h2 : a % p ≠ 0 := fun e => h (Int.dvd_of_emod_eq_zero e)
  obtain ⟨m, hm⟩ := inv_dvd (hP.2 (a % p) (by omega) h1)
  obtain ⟨k, hk⟩ := dvd_emod_sub a p
  exact ⟨inv p (a % p), m - k * inv p (a % p), by grind⟩
theorem erase_mem {l : List Nat} (hn : l.Nodup) {c j : Nat} : j ∈ l.erase c ↔ j ∈ l ∧ j ≠ c := by
  rw [hn.mem_erase_iff]; exact And.comm
theorem row_some {p : Nat} (hP : IsP p) {l : List Nat} (hn : l.Nodup) {v : Nat → Int} {c : Nat} (hc : c ∈ l) (h : ¬(p : Int) ∣ v c) : Card (fun x => Vec p l x ∧ (p : Int) ∣ sm l fun s => v s * x s) (p ^ (l.length - 1)) := by
  have hp : (0 : Int) < p := by have := hP.1; omega
  obtain ⟨i, hi⟩ := inv_of hP h
  have hcard := card_vec p (l.erase c) (hn.erase c)
  rw [List.length_erase_of_mem hc] at hcard
  let w : (Nat → Int) → Int := fun z => (-i * sm l fun s => v s * z s) % p
  have hw : ∀ z, 0 ≤ w z ∧ w z < p := fun z => ⟨Int.emod_nonneg _ (by omega), Int.emod_lt_of_pos _ hp⟩
  refine hcard.bij (fun z => upd z c (w z)) (fun x => upd x c 0) ?_ ?_ ?_ ?_
  · intro z hz
    have hzc : z c = 0 := hz.2 c fun hm => ((erase_mem hn).1 hm).2 rfl
    refine ⟨⟨fun j hj => ?_, fun j hj => ?_⟩, ?_⟩
    · by_cases e : j = c
      · subst e; rw [upd_same]; exact hw z
      · rw [upd_other _ _ e]; exact hz.1 j ((erase_mem hn).2 ⟨hj, e⟩)
    · rw [upd_other _ _ (fun e : j = c => hj (e ▸ hc))]
      exact hz.2 j fun hm => hj ((erase_mem hn).1 hm).1
    · rw [sm_upd v z c _ l hn hc, hzc]
      obtain ⟨m, hm⟩ := hi
      obtain ⟨k, hk⟩ := dvd_emod_sub (-i * sm l fun s => v s * z s) p
      have hk : w z - (-i * sm l fun s => v s * z s) = p * k := hk
      exact ⟨v c * k - m * sm l fun s => v s * z s, by grind⟩
  · rintro x ⟨hx, _⟩
    refine ⟨fun j hj => ?_, fun j hj => ?_⟩
    · obtain ⟨h1, h2⟩ := (erase_mem hn).1 hj
      rw [upd_other _ _ h2]; exact hx.1 j h1
    · by_cases e : j = c
      · rw [e, upd_same]
      · rw [upd_other _ _ e]; exact hx.2 j fun hm => hj ((erase_mem hn).2 ⟨hm, e⟩)
  · intro z hz
    funext j
    by_cases e : j = c
    · rw [e, upd_same]; exact (hz.2 c fun hm => ((erase_mem hn).1 hm).2 rfl).symm
    · rw [upd_other _ _ e, upd_other _ _ e]
  · rintro x ⟨hx, hd⟩
    funext j
    by_cases e : j = c
    · rw [e, upd_same]
      have h1 := sm_upd v x c 0 l hn hc
      have hxc := hx.1 c hc
      have hwz := hw (upd x c 0)
      obtain ⟨m, hm⟩ := hi
      obtain ⟨k, hk⟩ := dvd_emod_sub (-i * sm l fun s => v s * upd x c 0 s) p
      have hk : w (upd x c 0) - (-i * sm l fun s => v s * upd x c 0 s) = p * k := hk
      obtain ⟨r, hr⟩ := hd
      rw [h1, hr] at hk
      have hdv : (p : Int) ∣ w (upd x c 0) - x c := ⟨k - i * r + m * x c, by grind⟩
      obtain ⟨q, hq⟩ := hdv
      have : q = 0 := by
        rcases Int.lt_trichotomy q 0 with h0 | h0 | h0
        · have : (p : Int) * q ≤ p * (-1) := Int.mul_le_mul_of_nonneg_left (by omega) (by omega)
          omega
        · exact h0
        · have : (p : Int) * 1 ≤ p * q := Int.mul_le_mul_of_nonneg_left (by omega) (by omega)
          omega
      rw [this] at hq
      omega
    · rw [upd_other _ _ e, upd_other _ _ e]

/-! ### the transpose -/

/-- The vectors on the places L that the rows I send to 0. -/
def KerE (p : Nat) (I L : List Nat) (e : Nat → Nat → Int) (x : Nat → Int) : Prop := Vec p L x ∧ ∀ t ∈ I, (p : Int) ∣ sm L fun s => e t s * x s

theorem pair_count {p : Nat} (hP : IsP p) {I L : List Nat} (hI : I.Nodup) (hL : L.Nodup) (e : Nat → Nat → Int) {a : Nat} (h : Card (KerE p I L e) a) :
    a ≤ p ^ L.length ∧ ∃ c, c * p = a * (p * p ^ I.length) + (p ^ L.length - a) * p ^ I.length ∧ Card (fun z : (Nat → Int) × (Nat → Int) => Vec p L z.1 ∧ (Vec p I z.2 ∧ (p : Int) ∣ sm I fun t => (sm L fun s => e t s * z.1 s) * z.2 t)) c := by
  have hN := card_vec p L hL
  have hT : ∀ x, KerE p I L e x → Vec p L x := fun x hx => hx.1
  have hA : ∀ x, KerE p I L e x → Card (fun y => Vec p I y ∧ (p : Int) ∣ sm I fun t => (sm L fun s => e t s * x s) * y t) (p ^ I.length) := fun x hx => row_all hI hx.2
  rcases Classical.em (∃ x, Vec p L x ∧ ¬KerE p I L e x) with ⟨x0, hx0, hn0⟩ | hno
  · have hB : ∀ x, Vec p L x → ¬KerE p I L e x → Card (fun y => Vec p I y ∧ (p : Int) ∣ sm I fun t => (sm L fun s => e t s * x s) * y t) (p ^ (I.length - 1)) := fun x hx hn => by
      have : ∃ t, t ∈ I ∧ ¬(p : Int) ∣ sm L fun s => e t s * x s := Classical.byContradiction fun k => hn ⟨hx, fun t ht => Classical.byContradiction fun k2 => k ⟨t, ht, k2⟩⟩
      obtain ⟨t, ht, hd⟩ := this
      exact row_some hP hI ht hd
    have hpos : 0 < I.length := by
      cases I with
      | nil => exact absurd ⟨hx0, fun t ht => absurd ht (by simp)⟩ hn0
      | cons t I => simp
    obtain ⟨hle, hc⟩ := hN.mix h hT hA hB
    refine ⟨hle, _, ?_, hc⟩
    obtain ⟨i, hi⟩ : ∃ i, I.length = i + 1 := ⟨I.length - 1, by omega⟩
    rw [hi, Nat.add_sub_cancel, Nat.pow_succ]
    grind
  · have hall : ∀ x, Vec p L x → KerE p I L e x := fun x hx => Classical.byContradiction fun k => hno ⟨x, hx, k⟩
    obtain ⟨hle, hc⟩ := hN.mix (B := 0) h hT hA fun x hx hn => absurd (hall x hx) hn
    have ha : a = p ^ L.length := h.unique (hN.congr fun x => ⟨hall x, hT x⟩)
    refine ⟨hle, _, ?_, hc⟩
    rw [ha, Nat.sub_self]
    grind
theorem sm_mul_right {α : Type} (c : Int) (l : List α) (f : α → Int) : sm l f * c = sm l fun a => f a * c := by
  rw [Int.mul_comm, ← sm_mul]
  exact sm_congr _ _ _ fun a _ => Int.mul_comm _ _
/-- As many vectors, but for the difference of rows and columns, go to 0 under a matrix and under its transpose. -/
theorem transpose_card {p : Nat} (hP : IsP p) {I L : List Nat} (hI : I.Nodup) (hL : L.Nodup) (e : Nat → Nat → Int) {a b : Nat} (h : Card (KerE p I L e) a) (h' : Card (KerE p L I fun s t => e t s) b) : a * p ^ I.length = b * p ^ L.length := by
  obtain ⟨l1, c, hc, hC⟩ := pair_count hP hI hL e h
  obtain ⟨l2, d, hd, hD⟩ := pair_count hP hL hI (fun s t => e t s) h'
  have hcd : c = d := by
    refine (hC.bij (fun z => (z.2, z.1)) (fun z => (z.2, z.1)) ?_ ?_ (fun _ _ => rfl) (fun _ _ => rfl)).unique hD
    all_goals
      rintro ⟨x, y⟩ ⟨hx, hy, hdv⟩
      refine ⟨hy, hx, ?_⟩
      dsimp only at hdv ⊢
      refine (Eq.mp (congrArg (fun z => (p : Int) ∣ z) ?_) hdv)
      simp only [sm_mul_right]
      rw [sm_swap]
      refine sm_congr _ _ _ fun s _ => sm_congr _ _ _ fun t _ => ?_
      grind
  subst hcd
  have hp := hP.1
  obtain ⟨x, hx⟩ : ∃ x, p ^ L.length = a + x := ⟨p ^ L.length - a, by omega⟩
  obtain ⟨y, hy⟩ : ∃ y, p ^ I.length = b + y := ⟨p ^ I.length - b, by omega⟩
  obtain ⟨q, hq⟩ : ∃ q, p = q + 2 := ⟨p - 2, by omega⟩
  rw [hx, Nat.add_sub_cancel_left] at hc
  rw [hy, Nat.add_sub_cancel_left] at hd
  rw [hd] at hc
  generalize p ^ I.length = A at *
  generalize p ^ L.length = B at *
  subst hx hy hq
  have e1 : (q + 1) * (b * (a + x)) = (q + 1) * (a * (b + y)) := by grind
  have := Nat.eq_of_mul_eq_mul_left (Nat.succ_pos q) e1
  exact this.symm

end Lin
end Go.Proofs.YtbkkdgmiokdbmaaGreat
