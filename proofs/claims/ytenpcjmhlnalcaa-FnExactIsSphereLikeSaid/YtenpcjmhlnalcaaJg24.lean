/-
  TEXTS of one claim, put together: WMatI3, MatP2, WMatI4, Adds.
-/
import Derived.Test.YtenpcjmhlnalcaaJg23
import Derived.Test.YtenpcjmhlnalcaaJg7
import Derived.Laws.EntriesVeiled
import Derived.Test.YtenpcjmhlnalcaaJg18
import Derived.Test.YtenpcjmhlnalcaaJg5
/-! WALKS of chapter 13 (impl): a matrix is small: the library's ContainsFunc at rows; readSmallMatrix. -/

namespace Go.Proofs.Ytenpcjmhlnalcaa
open Go.RowKit

/-- What is asked of a predicate on rows: at every row of the matrix, in every later world, it answers q; it may draw. -/
def AsksM (g : Nat) (lb : Array Value) (q : List Int → Bool) (R : List (Nat × Nat)) (M : Lin.Mat) (w : World) : Prop :=
  ∀ (W : World) (j : Nat), j < M.length → Below w.heap.size w W → Calls Try.prog g (#[.slice (some ⟨blk R j, 0, none⟩) (Lin.row M j).length (room R j)] ++ lb) W fun e w' => e = .returned (.bool (q (Lin.row M j))) ∧ ∃ m, w' = W.drewN m
theorem AsksM.at {g : Nat} {lb : Array Value} {q : List Int → Bool} {R : List (Nat × Nat)} {M : Lin.Mat} {w : World} (h : AsksM g lb q R M w) (W : World) (j B n C : Nat) (b : Bool) (e1 : blk R j = B) (e2 : (Lin.row M j).length = n) (e3 : room R j = C) (hb : q (Lin.row M j) = b) (hj : j < M.length) (hB : Below w.heap.size w W) :
    Calls Try.prog g (#[.slice (some ⟨B, 0, none⟩) n C] ++ lb) W fun e w' => e = .returned (.bool b) ∧ ∃ m, w' = W.drewN m := by
  subst e1 e2 e3; subst hb; exact h W j hj hB
theorem anyM_miss (q : List Int → Bool) (M : Lin.Mat) (h : ∀ j, j < M.length → q (Lin.row M j) = false) : M.any q = false := by
  rw [List.any_eq_false]
  intro x hx
  obtain ⟨j, hj, rfl⟩ := Lin.mem_row hx
  rw [h j hj]; simp
theorem anyM_hit (q : List Int → Bool) (M : Lin.Mat) (j : Nat) (hj : j < M.length) (h : q (Lin.row M j) = true) : M.any q = true := by
  rw [List.any_eq_true]
  exact ⟨_, Lin.row_mem hj, h⟩

set_option maxRecDepth 100000 in
set_option maxHeartbeats 2000000 in
theorem indexFuncM_any (g : Nat) (lb : Array Value) (q : List Int → Bool) (go : Nat) (a : Option Addr) (c : Nat) (R : List (Nat × Nat)) (M : Lin.Mat) (w : World) (eg : ∀ args w, (callFunc g args).run Try.prog w = .ok (.enter g args) w)
    (hp : AsksM g lb q R M w) (hlen : M.length ≤ 1099511627776) (h : Mx w go a R M) :
    Calls Try.prog 91 #[.slice a M.length c, .func (.func g) #[] lb] w fun e w' => ∃ k : Int, e = .returned (.int .i64 k) ∧ -1 ≤ k ∧ k ≤ 1099511627776 ∧ decide (0 ≤ k) = M.any q ∧ ∃ m, w' = w.drewN m := by
  have HP := Lib.hid hp
  have H := Lib.hid h
  clear hp h
  go_enter Try.func91, Try.ntmps91
  go_wp2
  go_loopw [8] (fun i wr => ∃ k n : Nat, k ≤ M.length ∧ i = .int .i64 (k : Int) ∧ (∀ j, j < k → q (Lin.row M j) = false) ∧ wr = w.drewN n) (fun i _ => M.length - (intOf i).toNat)
  case atStart => exact ⟨0, 0, Nat.zero_le _, rfl, fun j hj => absurd hj (Nat.not_lt_zero _), rfl⟩
  case round =>
    obtain ⟨k, n, hk, rfl, hq, rfl⟩ := hrel
    have HQ := Lib.hid hq
    clear hq
    have hB : Below w.heap.size w (w.drewN n) := Mem.below_drewN w n
    by_cases hlt : k < M.length
    · have hX := H.out.keeps hB
      obtain ⟨hao, hgo, hck, -⟩ := hX.out k hlt
      subst hao
      obtain ⟨B1, hB1⟩ : ∃ b, blk R k = b := ⟨_, rfl⟩
      obtain ⟨C1, hC1⟩ : ∃ b, room R k = b := ⟨_, rfl⟩
      obtain ⟨l, hl⟩ : ∃ l, (Lin.row M k).length = l := ⟨_, rfl⟩
      rw [hB1, hl, hC1] at hck
      have HB1 := Lib.hid hB1
      have HC1 := Lib.hid hC1
      have HL := Lib.hid hl
      clear hX hB1 hC1 hl
      cases hqx : q (Lin.row M k) with
      | true =>
        have HQX := Lib.hid hqx
        clear hqx
        go_wp2_with (go_at_fn g; refine (HP.out.at _ k B1 l C1 true HB1.out HL.out HC1.out HQX.out hlt hB).mono ?_; rintro e w' ⟨rfl, m, rfl⟩)
        go_ret
        refine ⟨(k : Int), rfl, by omega, by omega, ?_, _, rfl⟩
        rw [anyM_hit q M k hlt HQX.out]
        simp
      | false =>
        have HQX := Lib.hid hqx
        clear hqx
        go_wp2_with (go_at_fn g; refine (HP.out.at _ k B1 l C1 false HB1.out HL.out HC1.out HQX.out hlt hB).mono ?_; rintro e w' ⟨rfl, m, rfl⟩)
        go_roundw
        case rel =>
          refine ⟨k + 1, _, by omega, by go_num, fun j hj => ?_, rfl⟩
          by_cases e : j = k
          · subst e; exact HQX.out
          · exact HQ.out j (by omega)
        case measure => simp [intOf]; omega
    · have E := Lib.hid (show k = M.length by omega)
      have hany : M.any q = false := anyM_miss q M (fun j hj => HQ.out j (by rw [E.out]; exact hj))
      have HA := Lib.hid hany
      clear hany
      go_wp2
      go_ret
      exact ⟨-1, rfl, by omega, by omega, by rw [HA.out]; rfl, _, rfl⟩

set_option maxRecDepth 100000 in
set_option maxHeartbeats 2000000 in
theorem containsFuncM_any (g : Nat) (lb : Array Value) (q : List Int → Bool) (b : Bool) (go : Nat) (a : Option Addr) (c : Nat) (R : List (Nat × Nat)) (M : Lin.Mat) (hb : M.any q = b) (w : World) (eg : ∀ args w, (callFunc g args).run Try.prog w = .ok (.enter g args) w)
    (hp : AsksM g lb q R M w) (hlen : M.length ≤ 1099511627776) (h : Mx w go a R M) :
    Calls Try.prog 83 #[.slice a M.length c, .func (.func g) #[] lb] w fun e w' => e = .returned (.bool b) ∧ ∃ m, w' = w.drewN m := by
  have hc := indexFuncM_any g lb q go a c R M w eg hp hlen h
  rw [hb] at hc
  have HC := Lib.hid hc
  clear hc hp h hb eg
  go_enter Try.func83, Try.ntmps83
  go_wp2_with fail
  refine HC.out.mono ?_
  rintro e w' ⟨k, rfl, h1, h2, hk, m, rfl⟩
  have HK := Lib.hid hk
  clear hk
  go_wp2
  go_ret
  exact ⟨by rw [← HK.out]; rfl, _, rfl⟩

/-- A number that is not from -1000 to 1000. -/
def farB (x : Int) : Bool := decide (x < -1000 ∨ 1000 < x)

set_option maxRecDepth 100000 in
theorem far_any (x : Int) (w : World) : Calls Try.prog 79 #[.int .i64 x] w fun e w' => e = .returned (.bool (farB x)) ∧ w = w' := by
  by_cases h1 : x < -1000
  · have e : farB x = true := decide_eq_true (.inl h1)
    rw [e]
    clear e
    go_enter Try.func79, Try.ntmps79
    go_wp2
    go_ret
    exact ⟨rfl, rfl⟩
  · have e : Hid (farB x = decide (1000 < x)) := by
      have : farB x = decide (1000 < x) := by unfold farB; simp [h1]
      exact this
    have h2 : decide (x < -1000) = false := decide_eq_false h1
    go_enter Try.func79, Try.ntmps79
    go_wp2
    go_ret
    exact ⟨by rw [e.out]; rfl, rfl⟩

set_option maxRecDepth 100000 in
set_option maxHeartbeats 2000000 in
theorem farRow_any (b : Nat) (a : Option Addr) (c : Nat) (xs : List Int) (hlen : xs.length ≤ 1099511627776) (w : World) (hb : w.cell? ⟨b, 0, none⟩ = some (.func (.func 79) #[] #[])) (h : Ints w a xs) :
    Calls Try.prog 80 #[.slice a xs.length c, .pointer (some ⟨b, 0, none⟩)] w fun e w' => e = .returned (.bool (xs.any farB)) ∧ ∃ m, w' = w.drewN m := by
  have eg : ∀ args w, (callFunc 79 args).run Try.prog w = .ok (.enter 79 args) w := enters_of Try.func79 (by kernel_rfl) rfl
  have HC := Lib.hid (containsFunc_any 79 #[] farB _ a c xs rfl w eg (fun W j _ _ => (far_any (xs.getD j 0) W).mono fun e w' ⟨he, hw⟩ => ⟨he, 0, by rw [← hw]; rfl⟩) hlen h)
  obtain ⟨l, hl⟩ : ∃ l, xs.length = l := ⟨_, rfl⟩
  rw [hl] at HC ⊢
  clear h hl eg
  go_enter Try.func80, Try.ntmps80
  go_wp2_with fail
  refine HC.out.mono ?_
  rintro e w' ⟨rfl, m, rfl⟩
  go_wp2
  go_ret
  exact ⟨rfl, m, rfl⟩

def smallB (M : Lin.Mat) : Bool := decide (M.length ≤ 30) && (decide (Lin.wid M ≤ 30) && !(M.any fun r => r.any farB))

set_option maxRecDepth 100000 in
set_option maxHeartbeats 4000000 in
theorem isSmall_any {base P : Nat} {v : Value} {R : List (Nat × Nat)} {M : Lin.Mat} (hlen : M.length ≤ 1099511627776) (hrow : ∀ i, i < M.length → (Lin.row M i).length ≤ 1099511627776) (w : World) (h : MP w base P v R M) :
    Calls Try.prog 60 #[.pointer (some ⟨P, 0, none⟩)] w fun e w' => e = .returned (.bool (smallB M)) ∧ Below w.heap.size w w' := by
  have hbA : Below w.heap.size w (w.alloc (.cells #[.func (.func 79) #[] #[]] 38)) := (Below.refl _ _).alloc (Nat.le_refl _) _
  have hM1 := h.keeps hbA
  have HH1 := Lib.hid (height_any _ hM1)
  have HW1 := Lib.hid (width_any _ hM1)
  obtain ⟨go, ao, co, rfl, -, hX⟩ := hM1.own.mx
  have hc1 := hM1.cell
  have eg : ∀ args w, (callFunc 80 args).run Try.prog w = .ok (.enter 80 args) w := enters_of Try.func80 (by kernel_rfl) rfl
  have hcell : (w.alloc (.cells #[.func (.func 79) #[] #[]] 38)).cell? ⟨w.heap.size, 0, none⟩ = some (.func (.func 79) #[] #[]) := by
    rw [World.cell?_alloc_new w _ _ 0]; rfl
  have HC := Lib.hid (containsFuncM_any 80 #[.pointer (some ⟨w.heap.size, 0, none⟩)] (fun r => r.any farB) _ go ao co R M rfl _ eg (fun W j hj hW => farRow_any w.heap.size (some ⟨blk R j, 0, none⟩) (room R j) (Lin.row M j) (hrow j hj) W (by rw [hW.cell (p := ⟨w.heap.size, 0, none⟩) (by simp)]; exact hcell) ((hX.rows j hj).2.keeps hW).ints) hlen hX)
  have HBA := Lib.hid hbA
  obtain ⟨b, hb⟩ : ∃ b, (M.any fun r => r.any farB) = b := ⟨_, rfl⟩
  have HS : Hid (smallB M = (decide (M.length ≤ 30) && (decide (Lin.wid M ≤ 30) && !b))) := by
    have : smallB M = (decide (M.length ≤ 30) && (decide (Lin.wid M ≤ 30) && !b)) := by unfold smallB; rw [hb]
    exact this
  rw [hb] at HC
  obtain ⟨n, hn⟩ : ∃ n, M.length = n := ⟨_, rfl⟩
  obtain ⟨m, hm⟩ : ∃ n, Lin.wid M = n := ⟨_, rfl⟩
  rw [hn] at HC hc1
  rw [hn] at HH1
  rw [hm] at HW1
  rw [hn, hm] at HS
  clear hb h hrow hbA hM1 hX hcell eg hn hm hlen
  by_cases h1 : n ≤ 30
  · have hd1 : decide ((n : Int) ≤ 30) = true := decide_eq_true (by omega)
    by_cases h2 : m ≤ 30
    · have hd2 : decide ((m : Int) ≤ 30) = true := decide_eq_true (by omega)
      go_enter Try.func60, Try.ntmps60
      go_wp2_with fail
      refine HH1.out.mono ?_
      rintro e w2 ⟨rfl, rfl⟩
      go_wp2_with fail
      refine HW1.out.mono ?_
      rintro e w2 ⟨rfl, rfl⟩
      go_wp2_with fail
      refine HC.out.mono ?_
      rintro e w2 ⟨rfl, k, rfl⟩
      go_wp2
      go_ret
      exact ⟨by rw [HS.out, decide_eq_true h1, decide_eq_true h2]; cases b <;> rfl, HBA.out.trans ((Mem.below_drewN _ k).mono (by simp))⟩
    · have hd2 : decide ((m : Int) ≤ 30) = false := decide_eq_false (by omega)
      go_enter Try.func60, Try.ntmps60
      go_wp2_with fail
      refine HH1.out.mono ?_
      rintro e w2 ⟨rfl, rfl⟩
      go_wp2_with fail
      refine HW1.out.mono ?_
      rintro e w2 ⟨rfl, rfl⟩
      go_wp2
      go_ret
      exact ⟨by rw [HS.out, decide_eq_true h1, decide_eq_false h2]; rfl, HBA.out⟩
  · have hd1 : decide ((n : Int) ≤ 30) = false := decide_eq_false (by omega)
    go_enter Try.func60, Try.ntmps60
    go_wp2_with fail
    refine HH1.out.mono ?_
    rintro e w2 ⟨rfl, rfl⟩
    go_wp2
    go_ret
    exact ⟨by rw [HS.out, decide_eq_false h1]; rfl, HBA.out⟩

/-- What the matrices of chapter 13 keep to: rows of one length, at most 30 rows and columns, numbers from -1000 to 1000. -/
def fitB (M : Lin.Mat) : Bool := rectB M && smallB M

set_option maxRecDepth 100000 in
set_option maxHeartbeats 4000000 in
theorem readSmall_any (go : Nat) (ao : Option Addr) (co : Nat) (R0 : List (Nat × Nat)) (M : Lin.Mat) (hlen : M.length ≤ 1099511627776) (hrow : ∀ i, i < M.length → (Lin.row M i).length ≤ 1099511627776) (w : World) (h : Mx w go ao R0 M) :
    Calls Try.prog 44 #[.slice ao M.length co] w fun e w' => ((fitB M = true ∧ ∃ P v R, e = .returned (.tuple #[.pointer (some ⟨P, 0, none⟩), .bool true]) ∧ MP w' w.heap.size P v R M) ∨ (fitB M = false ∧ e = .returned (.tuple #[.pointer none, .bool false]))) ∧ Below w.heap.size w w' := by
  have HC := Lib.hid (readMatrix_any go ao co R0 M hlen hrow w h)
  have HS := Lib.hid (fun (P : Nat) (v : Value) (R : List (Nat × Nat)) (W : World) (hM : MP W w.heap.size P v R M) => isSmall_any hlen hrow W hM)
  have HF : Hid (fitB M = (rectB M && smallB M)) := rfl
  obtain ⟨r, hr⟩ : ∃ r, rectB M = r := ⟨_, rfl⟩
  obtain ⟨s, hs⟩ : ∃ r, smallB M = r := ⟨_, rfl⟩
  simp only [hr] at HC
  simp only [hs] at HS
  rw [hr, hs] at HF
  obtain ⟨f, hf⟩ : ∃ r, fitB M = r := ⟨_, rfl⟩
  rw [hf] at HF ⊢
  clear h hr hs hrow hf
  go_enter Try.func44, Try.ntmps44
  go_wp2_with fail
  refine HC.out.mono ?_
  rintro e w1 ⟨⟨rfl, P, v, R, rfl, hM⟩ | ⟨rfl, rfl⟩, hb1⟩
  · have HM := Lib.hid hM
    have HB1 := Lib.hid hb1
    have hsz := hb1.size
    clear hM hb1
    go_wp2_with fail
    refine (HS.out P v R w1 HM.out).mono ?_
    rintro e w2 ⟨rfl, hb2⟩
    have HM2 := Lib.hid (HM.out.keeps hb2)
    have HB2 : Hid (Below w.heap.size w w2) := HB1.out.trans (hb2.mono hsz)
    clear hb2
    cases s with
    | true =>
      go_wp2
      go_ret2
      exact ⟨.inl ⟨by rw [HF.out]; rfl, P, v, R, rfl, HM2.out⟩, HB2.out⟩
    | false =>
      go_wp2
      go_ret2
      exact ⟨.inr ⟨by rw [HF.out]; rfl, rfl⟩, HB2.out⟩
  · have HB1 := Lib.hid hb1
    clear hb1
    go_wp2
    go_ret2
    exact ⟨.inr ⟨by rw [HF.out]; rfl, rfl⟩, HB1.out⟩

end Go.Proofs.Ytenpcjmhlnalcaa

/-! MEMORY: numbers of a matrix behind a pointer written one by one; matrices told by a function. -/

namespace Go.Proofs.Ytenpcjmhlnalcaa
open Go.RowKit

/-- The matrix of h rows and n columns with the numbers f. -/
def matF (h n : Nat) (f : Nat → Nat → Int) : Lin.Mat := (List.range h).map fun i => (List.range n).map fun j => f i j
theorem matF_length (h n : Nat) (f : Nat → Nat → Int) : (matF h n f).length = h := by simp [matF]
theorem matF_row (h n : Nat) (f : Nat → Nat → Int) (i : Nat) (hi : i < h) : Lin.row (matF h n f) i = (List.range n).map fun j => f i j := by
  unfold matF Lin.row; simp [List.getD, hi]
theorem matF_wide (h n : Nat) (f : Nat → Nat → Int) (i : Nat) (hi : i < h) : (Lin.row (matF h n f) i).length = n := by rw [matF_row h n f i hi]; simp
theorem matF_ent (h n : Nat) (f : Nat → Nat → Int) (i j : Nat) (hi : i < h) (hj : j < n) : Lin.ent (matF h n f) i j = f i j := by
  unfold Lin.ent; rw [matF_row h n f i hi]; simp [List.getD, hj]
theorem mat_eq {A B : Lin.Mat} {h n : Nat} (hA : A.length = h) (hB : B.length = h) (wA : ∀ i, i < h → (Lin.row A i).length = n) (wB : ∀ i, i < h → (Lin.row B i).length = n) (he : ∀ i j, i < h → j < n → Lin.ent A i j = Lin.ent B i j) : A = B := by
  apply List.ext_getElem (by rw [hA, hB])
  intro i h1 h2
  have e1 : A[i] = Lin.row A i := by unfold Lin.row; simp [List.getD, List.getElem?_eq_getElem h1]
  have e2 : B[i] = Lin.row B i := by unfold Lin.row; simp [List.getD, List.getElem?_eq_getElem h2]
  rw [e1, e2]
  have w1 := wA i (by omega)
  have w2 := wB i (by omega)
  apply List.ext_getElem (by rw [w1, w2])
  intro j k1 k2
  have := he i j (by omega) (by omega)
  unfold Lin.ent at this
  simpa [List.getD, List.getElem?_eq_getElem k1, List.getElem?_eq_getElem k2] using this
theorem matF_congr {h n : Nat} {f g : Nat → Nat → Int} (e : ∀ i j, i < h → j < n → f i j = g i j) : matF h n f = matF h n g :=
  mat_eq (matF_length _ _ _) (matF_length _ _ _) (matF_wide _ _ _) (matF_wide _ _ _) fun i j hi hj => by rw [matF_ent h n f i j hi hj, matF_ent h n g i j hi hj, e i j hi hj]
theorem matF_set (h n : Nat) (f : Nat → Nat → Int) (i j : Nat) (hi : i < h) (hj : j < n) (x : Int) : (matF h n f).set i ((Lin.row (matF h n f) i).set j x) = matF h n fun i' j' => if i' = i ∧ j' = j then x else f i' j' := by
  have hl := matF_length h n f
  have hrow : ∀ k, Lin.row ((matF h n f).set i ((Lin.row (matF h n f) i).set j x)) k = if k = i then (Lin.row (matF h n f) i).set j x else Lin.row (matF h n f) k := fun k => row_set _ i k _ (by rw [hl]; exact hi)
  refine mat_eq (n := n) (by rw [List.length_set, hl]) (matF_length _ _ _) (fun k hk => ?_) (matF_wide _ _ _) fun k l hk hl2 => ?_
  · rw [hrow]
    split
    · rw [List.length_set, matF_wide h n f i hi]
    · exact matF_wide h n f k hk
  · rw [matF_ent h n _ k l hk hl2]
    unfold Lin.ent
    rw [hrow]
    by_cases e : k = i
    · subst e
      rw [if_pos rfl]
      have hw := matF_wide h n f k hk
      by_cases e2 : l = j
      · subst e2
        rw [if_pos ⟨rfl, rfl⟩]
        simp [List.getD, hw, hj]
      · rw [if_neg (fun a => e2 a.2)]
        rw [List.getD, List.getElem?_set_ne (fun a => e2 a.symm)]
        exact matF_ent h n f k l hk hl2
    · rw [if_neg e, if_neg (fun a => e a.1)]
      exact matF_ent h n f k l hk hl2
theorem turnM_matF (n : Nat) (M : Lin.Mat) : Lin.turnM n M = matF n M.length fun j i => Lin.ent M i j := rfl
theorem timesM_matF (n : Nat) (A B : Lin.Mat) : Lin.timesM n A B = matF A.length n fun i j => Lin.sm (List.range B.length) fun k => Lin.ent A i k * Lin.ent B k j := rfl
theorem zeroM_matF (h n : Nat) : List.replicate h (List.replicate n (0 : Int)) = matF h n fun _ _ => 0 := by
  unfold matF
  rw [show (fun i => (List.range n).map fun j => (0 : Int)) = fun _ : Nat => List.replicate n (0 : Int) from funext fun _ => by simp [List.map_const']]
  simp [List.map_const']

theorem OwnMx.set {w : World} {base : Nat} {v : Value} {R : List (Nat × Nat)} {M : Lin.Mat} (h : OwnMx w base v R M) {i : Nat} (hi : i < M.length) (j : Nat) (x : Int) : OwnMx (w.setCell ⟨blk R i, j, none⟩ (.int .i64 x)) base v R (M.set i ((Lin.row M i).set j x)) := by
  have hiR : i < R.length := by rw [h.len]; exact hi
  have hlen : ∀ k, (Lin.row (M.set i ((Lin.row M i).set j x)) k).length = (Lin.row M k).length := fun k => by
    rw [row_set M i k _ hi]
    by_cases e : k = i
    · rw [if_pos e, List.length_set, e]
    · rw [if_neg e]
  have hon : Only [blk R i] w (w.setCell ⟨blk R i, j, none⟩ (.int .i64 x)) := Only.set _ _ _ (by simp) _
  refine ⟨?_, by rw [List.length_set]; exact h.len, h.nodup, fun k hk => ?_, h.apart⟩
  · have hv : vals R (M.set i ((Lin.row M i).set j x)) = vals R M := by
      unfold vals
      rw [List.length_set]
      exact List.map_congr_left fun k _ => by rw [hlen k]
    rw [hv, List.length_set]
    refine World.ownsRow.kept (row := some (blk R i)) h.own ⟨hon.os, hon.tape, hon.output, hon.size, fun k hk hne => hon.block k hk (fun hm => hne (by simp at hm; rw [hm]))⟩ (.inr fun e => ?_)
    exact h.apart _ e (blk_mem hiR)
  · rw [List.length_set] at hk
    obtain ⟨h1, h2, h3⟩ := h.rows k hk
    refine ⟨h1, by simpa [World.setCell] using h2, ?_⟩
    rw [row_set M i k _ hi]
    by_cases e : k = i
    · rw [if_pos e]; subst e; exact h3.setOwn j x
    · rw [if_neg e]
      exact h3.only hon (by
        rw [List.mem_singleton]; intro e'; exact e (blk_inj h.nodup (by rw [h.len]; exact hk) hiR e'))
theorem MP.set {w : World} {base P : Nat} {v : Value} {R : List (Nat × Nat)} {M : Lin.Mat} (h : MP w base P v R M) {i : Nat} (hi : i < M.length) (j : Nat) (x : Int) : MP (w.setCell ⟨blk R i, j, none⟩ (.int .i64 x)) base P v R (M.set i ((Lin.row M i).set j x)) := by
  have hiR : i < R.length := by rw [h.own.len]; exact hi
  have hne : blk R i ≠ P := fun e => h.offR (e ▸ blk_mem hiR)
  exact ⟨by rw [World.cell?_setCell_other _ _ _ _ (fun e => hne (congrArg Addr.block e))]; exact h.cell, by rw [World.frozen?_setCell]; exact h.soft, h.low, by simpa [World.setCell] using h.lt, h.own.set hi j x, h.off, h.offR⟩
/-- One number of a matrix told by a function is written. -/
theorem MP.setF {w : World} {base P : Nat} {v : Value} {R : List (Nat × Nat)} {h n : Nat} {f : Nat → Nat → Int} (hM : MP w base P v R (matF h n f)) {i j : Nat} (hi : i < h) (hj : j < n) (x : Int) (g : Nat → Nat → Int) (hx : g i j = x) (hg : ∀ i' j', i' < h → j' < n → ¬(i' = i ∧ j' = j) → g i' j' = f i' j') :
    MP (w.setCell ⟨blk R i, j, none⟩ (.int .i64 x)) base P v R (matF h n g) := by
  have h1 := hM.set (i := i) (by rw [matF_length]; exact hi) j x
  rw [matF_set h n f i j hi hj x] at h1
  rw [matF_congr (g := g) (fun i' j' h' h'' => ?_)] at h1
  · exact h1
  · by_cases e : i' = i ∧ j' = j
    · rw [if_pos e, e.1, e.2, hx]
    · rw [if_neg e, hg i' j' h' h'' e]
/-- What is read of such a matrix: the row's cell and the number's. -/
theorem MP.readF {w : World} {base P : Nat} {v : Value} {R : List (Nat × Nat)} {h n : Nat} {f : Nat → Nat → Int} (hM : MP w base P v R (matF h n f)) {i : Nat} (hi : i < h) :
    ∃ go co, v = .slice (some ⟨go, 0, none⟩) h co ∧ w.cell? ⟨go, i, none⟩ = some (.slice (some ⟨blk R i, 0, none⟩) n (room R i)) ∧ base ≤ blk R i ∧ ∀ j, j < n → w.cell? ⟨blk R i, j, none⟩ = some (.int .i64 (f i j)) ∧ w.frozen? ⟨blk R i, j, none⟩ = false := by
  obtain ⟨go, ao, co, rfl, -, hX⟩ := hM.own.mx
  obtain ⟨hao, hgo, hc, -⟩ := hX.out i (by rw [matF_length]; exact hi)
  subst hao
  rw [matF_length, matF_wide h n f i hi] at *
  refine ⟨go, co, rfl, hc, (hM.own.rows i (by rw [matF_length]; exact hi)).1, fun j hj => ?_⟩
  have h1 := hX.ent (i := i) (j := j) (by rw [matF_length]; exact hi) (by rw [matF_wide h n f i hi]; exact hj)
  rw [matF_ent h n f i j hi hj] at h1
  exact ⟨h1, hX.soft (by rw [matF_length]; exact hi) (by rw [matF_wide h n f i hi]; exact hj)⟩
/-- What is read of a matrix whose rows have one length. -/
theorem MP.read {w : World} {base P : Nat} {v : Value} {R : List (Nat × Nat)} {M : Lin.Mat} (hM : MP w base P v R M) {n i : Nat} (hi : i < M.length) (hw : (Lin.row M i).length = n) :
    ∃ go co, v = .slice (some ⟨go, 0, none⟩) M.length co ∧ go < w.heap.size ∧ w.cell? ⟨go, i, none⟩ = some (.slice (some ⟨blk R i, 0, none⟩) n (room R i)) ∧ base ≤ blk R i ∧ blk R i < w.heap.size ∧ ∀ j, j < n → w.cell? ⟨blk R i, j, none⟩ = some (.int .i64 (Lin.ent M i j)) ∧ w.frozen? ⟨blk R i, j, none⟩ = false := by
  obtain ⟨go, ao, co, rfl, -, hX⟩ := hM.own.mx
  obtain ⟨hao, hgo, hc, -⟩ := hX.out i hi
  subst hao
  subst hw
  exact ⟨go, co, rfl, hgo, hc, (hM.own.rows i hi).1, (hM.own.rows i hi).2.1, fun j hj => ⟨hX.ent hi hj, hX.soft hi hj⟩⟩

end Go.Proofs.Ytenpcjmhlnalcaa

/-! WALKS of chapter 13 (impl): a matrix turned. -/

namespace Go.Proofs.Ytenpcjmhlnalcaa
open Go.RowKit

theorem zeroM_F (h n : Nat) : zeroM h n = matF h n fun _ _ => 0 := zeroM_matF h n
/-- The turned matrix, i rows and j numbers of the next one written so far. -/
def turnTo (M : Lin.Mat) (i j c r : Nat) : Int := if r < i ∨ (r = i ∧ c < j) then Lin.ent M r c else 0
theorem turnTo_zero (M : Lin.Mat) (c r : Nat) : turnTo M 0 0 c r = 0 := if_neg (by omega)
theorem turnTo_end (M : Lin.Mat) {i c r : Nat} (h : r < i) : turnTo M i 0 c r = Lin.ent M r c := if_pos (.inl h)
theorem turnTo_row (M : Lin.Mat) {n i c r : Nat} (hc : c < n) : turnTo M i n c r = turnTo M (i + 1) 0 c r := by
  unfold turnTo
  by_cases h : r < i + 1
  · rw [if_pos (by omega), if_pos (.inl h)]
  · rw [if_neg (by omega), if_neg (by omega)]
theorem turnTo_same (M : Lin.Mat) {i j c r : Nat} (h : ¬(c = j ∧ r = i)) : turnTo M i (j + 1) c r = turnTo M i j c r := by
  unfold turnTo
  by_cases h2 : r < i ∨ (r = i ∧ c < j)
  · rw [if_pos h2, if_pos (by omega)]
  · rw [if_neg h2, if_neg (by omega)]

end Go.Proofs.Ytenpcjmhlnalcaa

/-! MEMORY: a call that adds rows to a matrix that it is given. -/

namespace Go.Proofs.Ytenpcjmhlnalcaa
open Go.RowKit

theorem only_grown {w w' : World} {o : Option Nat} (h : w.grownBy w' o) : Only o.toList w w' :=
  ⟨h.os, h.tape, h.output, h.size, fun k hk hn => h.block k hk (fun e => hn (by rw [← e]; simp))⟩
theorem not_toList {o : Option Nat} {g : Nat} (h : o ≠ some g) : g ∉ o.toList := by
  intro hm; cases o with
  | none => simp at hm
  | some x => simp at hm; exact h (by rw [hm])
theorem only_step {w wr w4 w5 : World} {o o2 : Option Nat} (h1 : Only o.toList w wr) (h2 : Below wr.heap.size wr w4) (h3 : Only o2.toList w4 w5) (ho : o2 = o ∨ ∃ z, o2 = some z ∧ w.heap.size ≤ z) : Only o.toList w w5 := by
  have hs1 := h1.size
  have hs2 := h2.size
  refine ⟨h3.os.trans (h2.os.trans h1.os), h3.tape.trans (h2.tape.trans h1.tape), h3.output.trans (h2.output.trans h1.output), Nat.le_trans hs1 (Nat.le_trans hs2 h3.size), fun k hk hn => ?_⟩
  rw [h3.block k (by omega) ?_, h2.block k (by omega), h1.block k hk hn]
  rcases ho with rfl | ⟨z, rfl, hz⟩
  · exact hn
  · intro hm; simp at hm; omega

/-- What a call that adds rows leaves. -/
structure Adds (v : Value) (w : World) (R : List (Nat × Nat)) (v' : Value) (w' : World) (R' : List (Nat × Nat)) (hg : Option Nat) : Prop where
  only : Only v.ownBlock.toList w w'
  own : v'.ownBlock = v.ownBlock ∨ ∃ z, v'.ownBlock = some z ∧ w.heap.size ≤ z
  rows : ∀ g, g ∈ blks R' → g ∈ blks R ∨ hg = some g ∨ w.heap.size ≤ g

end Go.Proofs.Ytenpcjmhlnalcaa
