/-
  TEXTS of one claim, put together: WMx4, WMat1, WMatI5.
-/
import Derived.Test.YthjgpbcdcgagfaaJg10
import Derived.Test.YthjgpbcdcgagfaaJg11
import Derived.Deep.RegionHeld3
import Derived.Test.YthjgpbcdcgagfaaJg4
import Derived.Test.YthjgpbcdcgagfaaJg7
/-! WALKS: the laws' functions on rows of rows of numbers (written by genmx4.py); HasMx: a result that is a matrix of its own. -/

namespace Go.Proofs.Ythjgpbcdcgagfaa
open Go.RowKit

theorem Mx.only {w w' : World} {go : Nat} {ao : Option Addr} {R : List (Nat × Nat)} {M : Lin.Mat} {G : List Nat} (h : Mx w go ao R M) (k : Only G w w') (hgo : 0 < M.length → go ∉ G) (hr : ∀ g, g ∈ blks R → g ∉ G) : Mx w' go ao R M := by
  refine ⟨h.len, h.nodup, fun i hi => ?_, fun i hi => ?_, h.apart⟩
  · obtain ⟨h1, h2, h3, h4⟩ := h.out i hi
    have hb := k.block go h2 (hgo (by omega))
    exact ⟨h1, Nat.lt_of_lt_of_le h2 k.size, by rw [World.cell?_of_block (w := w) hb]; exact h3, by rw [World.frozen?_of_block (w := w) hb]; exact h4⟩
  · obtain ⟨h1, h2⟩ := h.rows i hi
    exact ⟨Nat.lt_of_lt_of_le h1 k.size, h2.only k (hr _ (blk_mem (by rw [h.len]; exact hi)))⟩
/-- A row is written anew. -/
theorem Mx.setRow {w w' : World} {go : Nat} {ao : Option Addr} {R : List (Nat × Nat)} {M : Lin.Mat} (h : Mx w go ao R M) {i : Nat} (hi : i < M.length) {r : List Int} (hl : r.length = (Lin.row M i).length) (hr : IntsAt w' (blk R i) (some ⟨blk R i, 0, none⟩) r) (hg : w.grownBy w' (some (blk R i))) : Mx w' go ao R (M.set i r) := by
  have hiR : i < R.length := by rw [h.len]; exact hi
  have hne : go ≠ blk R i := fun e => h.apart (e ▸ blk_mem hiR)
  have hlen : ∀ k, (Lin.row (M.set i r) k).length = (Lin.row M k).length := fun k => by
    rw [row_set M i k _ hi]
    by_cases e : k = i
    · rw [if_pos e, hl, e]
    · rw [if_neg e]
  refine ⟨by rw [List.length_set]; exact h.len, h.nodup, fun k hk => ?_, fun k hk => ?_, h.apart⟩
  · rw [List.length_set] at hk
    obtain ⟨h1, h2, h3, h4⟩ := h.out k hk
    have hb := hg.block go h2 (fun e => hne (Option.some.inj e))
    rw [hlen k]
    exact ⟨h1, Nat.lt_of_lt_of_le h2 hg.size, by rw [World.cell?_of_block (w := w) hb]; exact h3, by rw [World.frozen?_of_block (w := w) hb]; exact h4⟩
  · rw [List.length_set] at hk
    obtain ⟨h1, h2⟩ := h.rows k hk
    refine ⟨Nat.lt_of_lt_of_le h1 hg.size, ?_⟩
    rw [row_set M i k _ hi]
    by_cases e : k = i
    · rw [if_pos e, e]; exact hr
    · rw [if_neg e]
      exact h2.only (only_grown hg) (fun hm => by
        simp at hm
        exact e (blk_inj h.nodup (by rw [h.len]; exact hk) hiR hm))

def mixM (new old : Lin.Mat) (j : Nat) : Lin.Mat := new.take j ++ old.drop j
theorem mixM_zero (new old : Lin.Mat) : mixM new old 0 = old := rfl
theorem mixM_length {new old : Lin.Mat} (h : new.length = old.length) (j : Nat) : (mixM new old j).length = old.length := by unfold mixM; simp; omega
theorem mixM_end {new old : Lin.Mat} (h : new.length = old.length) {j : Nat} (hj : old.length ≤ j) : mixM new old j = new := by
  unfold mixM; rw [List.take_of_length_le (by omega), List.drop_eq_nil_of_le hj, List.append_nil]
theorem mixM_row {new old : Lin.Mat} (h : new.length = old.length) {j : Nat} (hj : j < old.length) : Lin.row (mixM new old j) j = Lin.row old j := by
  unfold Lin.row mixM
  rw [List.getD, List.getElem?_append_right (by simp; omega), List.length_take, Nat.min_eq_left (by omega), Nat.sub_self, List.getElem?_drop, List.getD]; rfl
theorem mixM_step {new old : Lin.Mat} (h : new.length = old.length) {j : Nat} (hj : j < old.length) : (mixM new old j).set j (Lin.row new j) = mixM new old (j + 1) := by
  unfold mixM Lin.row
  rw [List.set_append_right _ _ (by simp; omega), List.length_take, Nat.min_eq_left (by omega), Nat.sub_self, List.drop_eq_getElem_cons hj, List.set_cons_zero]
  have e : new.take (j + 1) = new.take j ++ [new[j]] := by rw [List.take_add_one, List.getElem?_eq_getElem (by omega)]; rfl
  rw [e, List.getD, List.getElem?_eq_getElem (by omega : j < new.length), List.append_assoc]
  rfl

/-- The number of things in the first i rows. -/
def offM : Lin.Mat → Nat → Nat
  | [], _ => 0
  | _, 0 => 0
  | r :: M, i + 1 => r.length + offM M i
theorem offM_zero (M : Lin.Mat) : offM M 0 = 0 := by cases M <;> rfl
theorem offM_next : ∀ (M : Lin.Mat) (i : Nat), i < M.length → offM M (i + 1) = offM M i + (Lin.row M i).length
  | [], i, h => absurd h (Nat.not_lt_zero _)
  | r :: M, 0, _ => by simp [offM, offM_zero, Lin.row]
  | r :: M, i + 1, h => by
    have e : Lin.row (r :: M) (i + 1) = Lin.row M i := rfl
    rw [offM, offM_next M i (by simpa using h), e, offM]; omega
theorem offM_le : ∀ (M : Lin.Mat) (i : Nat), offM M i ≤ offM M M.length
  | [], i => by simp [offM]
  | r :: M, 0 => by rw [offM_zero]; omega
  | r :: M, i + 1 => by rw [offM, List.length_cons, offM]; have := offM_le M i; omega
theorem offM_row (M : Lin.Mat) (i : Nat) (h : i < M.length) : (Lin.row M i).length ≤ offM M M.length := by
  have h1 := offM_next M i h
  have h2 := offM_le M (i + 1)
  omega
theorem offM_same {k : Nat} : ∀ (M : Lin.Mat), (∀ r, r ∈ M → r.length ≤ k) → offM M M.length ≤ M.length * k
  | [], _ => by simp [offM]
  | r :: M, h => by
    rw [List.length_cons, offM, Nat.succ_mul]
    have h1 := h r (by simp)
    have h2 := offM_same M (fun x hx => h x (List.mem_cons_of_mem _ hx))
    omega
/-- All things counted from s on. -/
def markM (s : Nat) (M : Lin.Mat) : Lin.Mat := (List.range M.length).map fun i => imarks (s + offM M i) (Lin.row M i).length
theorem markM_length (s : Nat) (M : Lin.Mat) : (markM s M).length = M.length := by simp [markM]
theorem markM_row (s : Nat) (M : Lin.Mat) (i : Nat) (h : i < M.length) : Lin.row (markM s M) i = imarks (s + offM M i) (Lin.row M i).length := by
  unfold markM
  show ((List.range M.length).map _).getD i [] = _
  simp [List.getD, h]

/-- A result that is a matrix of its own. -/
def HasMx (w : World) (base : Nat) (v : Value) (M : Lin.Mat) : Prop :=
  ∃ ao co go R, v = .slice ao M.length co ∧ (0 < M.length → base ≤ go ∧ go < w.heap.size) ∧ (∀ g, g ∈ blks R → base ≤ g ∧ g < w.heap.size) ∧ Mx w go ao R M
theorem OwnMx.has {w : World} {base : Nat} {v : Value} {R : List (Nat × Nat)} {M : Lin.Mat} (h : OwnMx w base v R M) : HasMx w base v M := by
  obtain ⟨go, ao, co, h1, h2, h3⟩ := h.mx
  exact ⟨ao, co, go, R, h1, h2, fun g hg => h.old hg, h3⟩
theorem mx_has {f : FuncId} {args : Array Value} {w : World} {M : Lin.Mat} (h : Calls Try.prog f args w fun e w' => ∃ v R, e = .returned v ∧ OwnMx w' w.heap.size v R M ∧ Below w.heap.size w w') :
    Calls Try.prog f args w fun e w' => ∃ v, e = .returned v ∧ HasMx w' w.heap.size v M ∧ Below w.heap.size w w' :=
  h.mono fun _ _ ⟨v, _, he, ho, hb⟩ => ⟨v, he, ho.has, hb⟩
theorem HasMx.lower {w : World} {base b : Nat} {v : Value} {M : Lin.Mat} (h : HasMx w base v M) (hb : b ≤ base) : HasMx w b v M := by
  obtain ⟨ao, co, go, R, h1, h2, h3, h4⟩ := h
  exact ⟨ao, co, go, R, h1, fun h => by have := h2 h; omega, fun g hg => by have := h3 g hg; omega, h4⟩
/-- The front of a matrix. -/
theorem Mx.front {w : World} {go : Nat} {ao : Option Addr} {R : List (Nat × Nat)} {M : Lin.Mat} (h : Mx w go ao R M) (m : Nat) : Mx w go ao (R.take m) (M.take m) := by
  have hrow : ∀ i, i < (M.take m).length → Lin.row (M.take m) i = Lin.row M i := fun i hi => by
    rw [List.length_take] at hi
    unfold Lin.row
    rw [List.getD, List.getD, List.getElem?_take_of_lt (by omega)]
  have hblk : ∀ i, i < (M.take m).length → (R.take m).getD i (0, 0) = R.getD i (0, 0) := fun i hi => by
    rw [List.length_take] at hi
    rw [List.getD, List.getD, List.getElem?_take_of_lt (by omega)]
  refine ⟨by rw [List.length_take, List.length_take, h.len], ?_, fun i hi => ?_, fun i hi => ?_, fun hm => h.apart ?_⟩
  · exact List.Sublist.nodup ((List.take_sublist m R).map _) h.nodup
  · have hi2 : i < M.length := by rw [List.length_take] at hi; omega
    rw [hrow i hi]
    simp only [blk, room]
    rw [hblk i hi]
    exact h.out i hi2
  · have hi2 : i < M.length := by rw [List.length_take] at hi; omega
    rw [hrow i hi]
    simp only [blk]
    rw [hblk i hi]
    exact h.rows i hi2
  · exact ((List.take_sublist m R).map _).subset hm

set_option maxRecDepth 100000 in
set_option maxHeartbeats 2000000 in
theorem eqMx_any (g1 g2 : Nat) (a1 a2 : Option Addr) (c1 c2 : Nat) (R1 R2 : List (Nat × Nat)) (M : Lin.Mat) (hlen : M.length ≤ 1099511627776) (hoff : offM M M.length ≤ 1099511627776) (w : World) (h1 : Mx w g1 a1 R1 M) (h2 : Mx w g2 a2 R2 M) :
    Calls Try.prog 42 #[.slice a1 M.length c1, .slice a2 M.length c2] w fun e w' => e = .returned (.bool true) ∧ Below w.heap.size w w' := by
  have H1 := Lib.hid h1
  have H2 := Lib.hid h2
  have HW := Lib.hid (offM_row M)
  obtain ⟨l, hl⟩ : ∃ l, M.length = l := ⟨_, rfl⟩
  have HL := Lib.hid hl
  rw [hl] at hlen HW ⊢
  rw [hl] at hoff
  have HOFF := Lib.hid hoff
  clear h1 h2 hl hoff
  go_enter Try.func42, Try.ntmps42
  go_wp2
  go_loopw [5] (fun i wr => ∃ k : Nat, k ≤ l ∧ i = .int .i64 (k : Int) ∧ Below w.heap.size w wr) (fun i _ => l - (intOf i).toNat)
  case atStart => exact ⟨0, Nat.zero_le _, rfl, Below.refl _ _⟩
  case round =>
    obtain ⟨k, hk, rfl, hB⟩ := hrel
    have HB := Lib.hid hB
    clear hB
    by_cases hlt : k < l
    · have hd : decide ((k : Int) < (l : Int)) = true := by simpa using hlt
      have hM1 := H1.out.keeps HB.out
      have hM2 := H2.out.keeps HB.out
      obtain ⟨e1, s1, d1, _⟩ := hM1.out k (by rw [HL.out]; exact hlt)
      obtain ⟨e2, s2, d2, _⟩ := hM2.out k (by rw [HL.out]; exact hlt)
      subst e1 e2
      have r1 := (hM1.rows k (by rw [HL.out]; exact hlt)).2.ints
      have r2 := (hM2.rows k (by rw [HL.out]; exact hlt)).2.ints
      have hw := HW.out k hlt
      have hoff := HOFF.out
      have HCL := Lib.hid (fun W (hW : Below wr.heap.size wr W) => eqInt_any (some ⟨blk R1 k, 0, none⟩) (some ⟨blk R2 k, 0, none⟩) (room R1 k) (room R2 k) (Lin.row M k) (by omega) W (r1.keeps hW) (r2.keeps hW))
      obtain ⟨B1, hB1⟩ : ∃ b, blk R1 k = b := ⟨_, rfl⟩
      obtain ⟨B2, hB2⟩ : ∃ b, blk R2 k = b := ⟨_, rfl⟩
      obtain ⟨n, hn⟩ : ∃ n, (Lin.row M k).length = n := ⟨_, rfl⟩
      obtain ⟨C1, hC1⟩ : ∃ b, room R1 k = b := ⟨_, rfl⟩
      obtain ⟨C2, hC2⟩ : ∃ b, room R2 k = b := ⟨_, rfl⟩
      rw [hB1, hn, hC1] at d1
      rw [hB2, hn, hC2] at d2
      rw [hB1, hB2, hC1, hC2, hn] at HCL
      have hc1 : ∀ w', Below wr.heap.size wr w' → w'.cell? ⟨g1, k, none⟩ = some (.slice (some ⟨B1, 0, none⟩) n C1) := fun w' hw => by rw [hw.cell (p := ⟨g1, k, none⟩) s1]; exact d1
      have hc2 : ∀ w', Below wr.heap.size wr w' → w'.cell? ⟨g2, k, none⟩ = some (.slice (some ⟨B2, 0, none⟩) n C2) := fun w' hw => by rw [hw.cell (p := ⟨g2, k, none⟩) s2]; exact d2
      have HC1 := Lib.hid hc1
      have HC2 := Lib.hid hc2
      have HBC := Lib.hid (bdrew1 wr)
      have hsize := HB.out.size
      have hkz : (k : Int) < (l : Int) := by omega
      have hk0 : (0 : Int) ≤ (k : Int) := by omega
      clear hc1 hc2 hM1 hM2 r1 r2 d1 d2 hB1 hB2 hC1 hC2 hn s1 s2 hw hoff
      go_wp2_with fail
      refine wp_region_noPanic ?_
      refine wp_region_held_drew (S := (fun w' => w'.cell? ⟨g1, k, none⟩ = some (.slice (some ⟨B1, 0, none⟩) n C1) ∧ w'.cell? ⟨g2, k, none⟩ = some (.slice (some ⟨B2, 0, none⟩) n C2) ∧ Below wr.heap.size wr w')) (by kernel_rfl) ?_ (fun hHeld => ?_)
      · exact ⟨HC1.out _ HBC.out, HC2.out _ HBC.out, HBC.out⟩
      refine wpAnyH_take (i := 0) (oi := ⟨_, _, _, _, _, _⟩) (v := ?vv1) rfl (by kernel_rfl) (by kernel_rfl) (by kernel_rfl) (fun _ _ _ h => h) (Or.inl ⟨by rfl, ?hy1⟩) (by assumption) ?_
      case hy1 => (intro w hSw; (try dsimp only at hSw); go_simp; try (with_reducible rfl))
      try simp only [Act.put, List.setIfInBounds_toArray, List.set_cons_zero, List.set_cons_succ]
      refine wpAnyH_take (i := 1) (oi := ⟨_, _, _, _, _, _⟩) (v := ?vv2) rfl (by kernel_rfl) (by kernel_rfl) (by kernel_rfl) (fun _ _ _ h => h) (Or.inl ⟨by rfl, ?hy2⟩) (by assumption) ?_
      case hy2 => (intro w hSw; (try dsimp only at hSw); go_simp; try (with_reducible rfl))
      try simp only [Act.put, List.setIfInBounds_toArray, List.set_cons_zero, List.set_cons_succ]
      refine wpAnyH_take (i := 2) (oi := ⟨_, _, _, _, _, _⟩) (v := ?vv3) rfl (by kernel_rfl) (by kernel_rfl) (by kernel_rfl) (fun _ _ _ h => h) (Or.inl ⟨by rfl, ?hy3⟩) (by assumption) ?_
      case hy3 => (intro w hSw; (try dsimp only at hSw); go_simp; try (with_reducible rfl))
      try simp only [Act.put, List.setIfInBounds_toArray, List.set_cons_zero, List.set_cons_succ]
      refine wpAnyH_take (i := 3) (oi := ⟨_, _, _, _, _, _⟩) (v := ?vv4) rfl (by kernel_rfl) (by kernel_rfl) (by kernel_rfl) (fun _ _ _ h => h) (Or.inl ⟨by rfl, ?hy4⟩) (by assumption) ?_
      case hy4 => (intro w hSw; (try dsimp only at hSw); go_simp; try (with_reducible rfl))
      try simp only [Act.put, List.setIfInBounds_toArray, List.set_cons_zero, List.set_cons_succ]
      refine wpAnyH_take (i := 4) (oi := ⟨_, _, _, _, _, _⟩) (v := ?vv5) rfl (by kernel_rfl) (by kernel_rfl) (by kernel_rfl) (fun _ _ _ h => h) (Or.inl ⟨by rfl, ?hy5⟩) (by assumption) ?_
      case hy5 => (intro w hSw; (try dsimp only at hSw); go_simp; try (with_reducible rfl))
      try simp only [Act.put, List.setIfInBounds_toArray, List.set_cons_zero, List.set_cons_succ]
      refine wpAnyH_take (i := 5) (oi := ⟨_, _, _, _, _, _⟩) (v := ?vv6) rfl (by kernel_rfl) (by kernel_rfl) (by kernel_rfl) (fun _ _ _ h => h) (Or.inl ⟨by rfl, ?hy6⟩) (by assumption) ?_
      case hy6 => (intro w hSw; (try dsimp only at hSw); go_simp; try (with_reducible rfl))
      try simp only [Act.put, List.setIfInBounds_toArray, List.set_cons_zero, List.set_cons_succ]
      refine wpAnyH_take (i := 6) (oi := ⟨_, _, _, _, _, _⟩) (v := ?vv7) rfl (by kernel_rfl) (by kernel_rfl) (by kernel_rfl) (fun _ _ _ h => h) (Or.inl ⟨by rfl, ?hy7⟩) (by assumption) ?_
      case hy7 => (intro w hSw; (try dsimp only at hSw); go_simp; try (with_reducible rfl))
      try simp only [Act.put, List.setIfInBounds_toArray, List.set_cons_zero, List.set_cons_succ]
      refine wpAnyH_take (i := 7) (oi := ⟨_, _, _, _, _, _⟩) (v := ?vv8) rfl (by kernel_rfl) (by kernel_rfl) (by kernel_rfl) (fun _ _ _ h => h) (Or.inl ⟨by rfl, ?hy8⟩) (by assumption) ?_
      case hy8 => (intro w hSw; (try dsimp only at hSw); go_simp; try (with_reducible rfl))
      try simp only [Act.put, List.setIfInBounds_toArray, List.set_cons_zero, List.set_cons_succ]
      refine wpAnyH_ready (rs := [8]) (by kernel_rfl) (by simp) (AllReadyH.cons (o := ⟨_, _, _, _, _, _⟩) rfl (fun K9 hK9 => ?_) AllReadyH.nil)
      go_simp
      go_at_call 91; with_reducible refine (HCL.out _ HBC.out).mono ?_; rintro e w5 ⟨rfl, hb5⟩; have HBC := Lib.hid (HBC.out.trans (hb5.mono HBC.out.size)); clear hb5
      refine hK9.out _ _ ?_ (fun hHeld => ?_)
      · exact ⟨HC1.out _ HBC.out, HC2.out _ HBC.out, HBC.out⟩
      clear hK9 K9
      try simp only [Act.put, List.setIfInBounds_toArray, List.set_cons_zero, List.set_cons_succ]
      refine wpAnyH_take (i := 9) (oi := ⟨_, _, _, _, _, _⟩) (v := ?vv9) rfl (by kernel_rfl) (by kernel_rfl) (by kernel_rfl) (fun _ _ _ h => h) (Or.inl ⟨by rfl, ?hy9⟩) (by assumption) ?_
      case hy9 => (intro w hSw; (try dsimp only at hSw); go_simp; try (with_reducible rfl))
      try simp only [Act.put, List.setIfInBounds_toArray, List.set_cons_zero, List.set_cons_succ]
      refine wpAnyH_done (by kernel_rfl) ?_ _
      refine NoPanic.normal ?_
      have hB5 : Below w.heap.size w w5 := HB.out.trans (HBC.out.mono hsize)
      have HB5 := Lib.hid hB5
      clear hHeld
      go_wp2
      go_roundw
      case rel => exact ⟨k + 1, by omega, by go_num, HB5.out⟩
      case measure => simp [intOf]; omega
    · have hd : decide ((k : Int) < (l : Int)) = false := by simpa using hlt
      go_wp2
      go_ret
      exact ⟨rfl, HB.out⟩

set_option maxRecDepth 100000 in
set_option maxHeartbeats 2000000 in
theorem sameMx_any (g1 g2 : Nat) (a1 a2 : Option Addr) (c1 c2 : Nat) (R1 R2 : List (Nat × Nat)) (M : Lin.Mat) (hlen : M.length ≤ 1099511627776) (hoff : offM M M.length ≤ 1099511627776) (w : World) (h1 : Mx w g1 a1 R1 M) (h2 : Mx w g2 a2 R2 M) :
    Calls Try.prog 22 #[.slice a1 M.length c1, .slice a2 M.length c2] w fun e w' => e = .returned (.bool true) ∧ Below w.heap.size w w' := by
  have H1 := Lib.hid h1
  have H2 := Lib.hid h2
  have HW := Lib.hid (offM_row M)
  obtain ⟨l, hl⟩ : ∃ l, M.length = l := ⟨_, rfl⟩
  have HL := Lib.hid hl
  rw [hl] at hlen HW ⊢
  rw [hl] at hoff
  have HOFF := Lib.hid hoff
  clear h1 h2 hl hoff
  go_enter Try.func22, Try.ntmps22
  go_wp2
  go_loopw [5] (fun i wr => ∃ k : Nat, k ≤ l ∧ i = .int .i64 (k : Int) ∧ Below w.heap.size w wr) (fun i _ => l - (intOf i).toNat)
  case atStart => exact ⟨0, Nat.zero_le _, rfl, Below.refl _ _⟩
  case round =>
    obtain ⟨k, hk, rfl, hB⟩ := hrel
    have HB := Lib.hid hB
    clear hB
    by_cases hlt : k < l
    · have hd : decide ((k : Int) < (l : Int)) = true := by simpa using hlt
      have hM1 := H1.out.keeps HB.out
      have hM2 := H2.out.keeps HB.out
      obtain ⟨e1, s1, d1, _⟩ := hM1.out k (by rw [HL.out]; exact hlt)
      obtain ⟨e2, s2, d2, _⟩ := hM2.out k (by rw [HL.out]; exact hlt)
      subst e1 e2
      have r1 := (hM1.rows k (by rw [HL.out]; exact hlt)).2.ints
      have r2 := (hM2.rows k (by rw [HL.out]; exact hlt)).2.ints
      have hw := HW.out k hlt
      have hoff := HOFF.out
      have HCL := Lib.hid (fun W (hW : Below wr.heap.size wr W) => sameInt_any (some ⟨blk R1 k, 0, none⟩) (some ⟨blk R2 k, 0, none⟩) (room R1 k) (room R2 k) (Lin.row M k) (by omega) W (r1.keeps hW) (r2.keeps hW))
      obtain ⟨B1, hB1⟩ : ∃ b, blk R1 k = b := ⟨_, rfl⟩
      obtain ⟨B2, hB2⟩ : ∃ b, blk R2 k = b := ⟨_, rfl⟩
      obtain ⟨n, hn⟩ : ∃ n, (Lin.row M k).length = n := ⟨_, rfl⟩
      obtain ⟨C1, hC1⟩ : ∃ b, room R1 k = b := ⟨_, rfl⟩
      obtain ⟨C2, hC2⟩ : ∃ b, room R2 k = b := ⟨_, rfl⟩
      rw [hB1, hn, hC1] at d1
      rw [hB2, hn, hC2] at d2
      rw [hB1, hB2, hC1, hC2, hn] at HCL
      have hc1 : ∀ w', Below wr.heap.size wr w' → w'.cell? ⟨g1, k, none⟩ = some (.slice (some ⟨B1, 0, none⟩) n C1) := fun w' hw => by rw [hw.cell (p := ⟨g1, k, none⟩) s1]; exact d1
      have hc2 : ∀ w', Below wr.heap.size wr w' → w'.cell? ⟨g2, k, none⟩ = some (.slice (some ⟨B2, 0, none⟩) n C2) := fun w' hw => by rw [hw.cell (p := ⟨g2, k, none⟩) s2]; exact d2
      have HC1 := Lib.hid hc1
      have HC2 := Lib.hid hc2
      have HBC := Lib.hid (bdrew1 wr)
      have hsize := HB.out.size
      have hkz : (k : Int) < (l : Int) := by omega
      have hk0 : (0 : Int) ≤ (k : Int) := by omega
      clear hc1 hc2 hM1 hM2 r1 r2 d1 d2 hB1 hB2 hC1 hC2 hn s1 s2 hw hoff
      go_wp2_with fail
      refine wp_region_noPanic ?_
      refine wp_region_held_drew (S := (fun w' => w'.cell? ⟨g1, k, none⟩ = some (.slice (some ⟨B1, 0, none⟩) n C1) ∧ w'.cell? ⟨g2, k, none⟩ = some (.slice (some ⟨B2, 0, none⟩) n C2) ∧ Below wr.heap.size wr w')) (by kernel_rfl) ?_ (fun hHeld => ?_)
      · exact ⟨HC1.out _ HBC.out, HC2.out _ HBC.out, HBC.out⟩
      refine wpAnyH_take (i := 0) (oi := ⟨_, _, _, _, _, _⟩) (v := ?vv10) rfl (by kernel_rfl) (by kernel_rfl) (by kernel_rfl) (fun _ _ _ h => h) (Or.inl ⟨by rfl, ?hy10⟩) (by assumption) ?_
      case hy10 => (intro w hSw; (try dsimp only at hSw); go_simp; try (with_reducible rfl))
      try simp only [Act.put, List.setIfInBounds_toArray, List.set_cons_zero, List.set_cons_succ]
      refine wpAnyH_take (i := 1) (oi := ⟨_, _, _, _, _, _⟩) (v := ?vv11) rfl (by kernel_rfl) (by kernel_rfl) (by kernel_rfl) (fun _ _ _ h => h) (Or.inl ⟨by rfl, ?hy11⟩) (by assumption) ?_
      case hy11 => (intro w hSw; (try dsimp only at hSw); go_simp; try (with_reducible rfl))
      try simp only [Act.put, List.setIfInBounds_toArray, List.set_cons_zero, List.set_cons_succ]
      refine wpAnyH_take (i := 2) (oi := ⟨_, _, _, _, _, _⟩) (v := ?vv12) rfl (by kernel_rfl) (by kernel_rfl) (by kernel_rfl) (fun _ _ _ h => h) (Or.inl ⟨by rfl, ?hy12⟩) (by assumption) ?_
      case hy12 => (intro w hSw; (try dsimp only at hSw); go_simp; try (with_reducible rfl))
      try simp only [Act.put, List.setIfInBounds_toArray, List.set_cons_zero, List.set_cons_succ]
      refine wpAnyH_take (i := 3) (oi := ⟨_, _, _, _, _, _⟩) (v := ?vv13) rfl (by kernel_rfl) (by kernel_rfl) (by kernel_rfl) (fun _ _ _ h => h) (Or.inl ⟨by rfl, ?hy13⟩) (by assumption) ?_
      case hy13 => (intro w hSw; (try dsimp only at hSw); go_simp; try (with_reducible rfl))
      try simp only [Act.put, List.setIfInBounds_toArray, List.set_cons_zero, List.set_cons_succ]
      refine wpAnyH_take (i := 4) (oi := ⟨_, _, _, _, _, _⟩) (v := ?vv14) rfl (by kernel_rfl) (by kernel_rfl) (by kernel_rfl) (fun _ _ _ h => h) (Or.inl ⟨by rfl, ?hy14⟩) (by assumption) ?_
      case hy14 => (intro w hSw; (try dsimp only at hSw); go_simp; try (with_reducible rfl))
      try simp only [Act.put, List.setIfInBounds_toArray, List.set_cons_zero, List.set_cons_succ]
      refine wpAnyH_take (i := 5) (oi := ⟨_, _, _, _, _, _⟩) (v := ?vv15) rfl (by kernel_rfl) (by kernel_rfl) (by kernel_rfl) (fun _ _ _ h => h) (Or.inl ⟨by rfl, ?hy15⟩) (by assumption) ?_
      case hy15 => (intro w hSw; (try dsimp only at hSw); go_simp; try (with_reducible rfl))
      try simp only [Act.put, List.setIfInBounds_toArray, List.set_cons_zero, List.set_cons_succ]
      refine wpAnyH_take (i := 6) (oi := ⟨_, _, _, _, _, _⟩) (v := ?vv16) rfl (by kernel_rfl) (by kernel_rfl) (by kernel_rfl) (fun _ _ _ h => h) (Or.inl ⟨by rfl, ?hy16⟩) (by assumption) ?_
      case hy16 => (intro w hSw; (try dsimp only at hSw); go_simp; try (with_reducible rfl))
      try simp only [Act.put, List.setIfInBounds_toArray, List.set_cons_zero, List.set_cons_succ]
      refine wpAnyH_take (i := 7) (oi := ⟨_, _, _, _, _, _⟩) (v := ?vv17) rfl (by kernel_rfl) (by kernel_rfl) (by kernel_rfl) (fun _ _ _ h => h) (Or.inl ⟨by rfl, ?hy17⟩) (by assumption) ?_
      case hy17 => (intro w hSw; (try dsimp only at hSw); go_simp; try (with_reducible rfl))
      try simp only [Act.put, List.setIfInBounds_toArray, List.set_cons_zero, List.set_cons_succ]
      refine wpAnyH_ready (rs := [8]) (by kernel_rfl) (by simp) (AllReadyH.cons (o := ⟨_, _, _, _, _, _⟩) rfl (fun K9 hK9 => ?_) AllReadyH.nil)
      go_simp
      go_at_call 37; with_reducible refine (HCL.out _ HBC.out).mono ?_; rintro e w5 ⟨rfl, hb5⟩; have HBC := Lib.hid (HBC.out.trans (hb5.mono HBC.out.size)); clear hb5
      refine hK9.out _ _ ?_ (fun hHeld => ?_)
      · exact ⟨HC1.out _ HBC.out, HC2.out _ HBC.out, HBC.out⟩
      clear hK9 K9
      try simp only [Act.put, List.setIfInBounds_toArray, List.set_cons_zero, List.set_cons_succ]
      refine wpAnyH_take (i := 9) (oi := ⟨_, _, _, _, _, _⟩) (v := ?vv18) rfl (by kernel_rfl) (by kernel_rfl) (by kernel_rfl) (fun _ _ _ h => h) (Or.inl ⟨by rfl, ?hy18⟩) (by assumption) ?_
      case hy18 => (intro w hSw; (try dsimp only at hSw); go_simp; try (with_reducible rfl))
      try simp only [Act.put, List.setIfInBounds_toArray, List.set_cons_zero, List.set_cons_succ]
      refine wpAnyH_done (by kernel_rfl) ?_ _
      refine NoPanic.normal ?_
      have hB5 : Below w.heap.size w w5 := HB.out.trans (HBC.out.mono hsize)
      have HB5 := Lib.hid hB5
      clear hHeld
      go_wp2
      go_roundw
      case rel => exact ⟨k + 1, by omega, by go_num, HB5.out⟩
      case measure => simp [intOf]; omega
    · have hd : decide ((k : Int) < (l : Int)) = false := by simpa using hlt
      go_wp2
      go_ret
      exact ⟨rfl, HB.out⟩

set_option maxRecDepth 100000 in
set_option maxHeartbeats 2000000 in
theorem markMx_any (go : Nat) (ao : Option Addr) (c : Nat) (R : List (Nat × Nat)) (M : Lin.Mat) (s : Nat) (z : Int) (hz : z = (s : Int)) (hlen : M.length ≤ 1099511627776) (hoff : s + offM M M.length ≤ 1099511627776) (w : World) (h : Mx w go ao R M) :
    Calls Try.prog 45 #[.slice ao M.length c, .int .i64 z] w fun e w' => e = .returned (.int .i64 ((s + offM M M.length : Nat) : Int)) ∧ Mx w' go ao R (markM s M) ∧ Only (blks R) w w' := by
  subst hz
  have H := Lib.hid h
  have HNX := Lib.hid (offM_next M)
  have HLE := Lib.hid (offM_le M)
  have HRW := Lib.hid (offM_row M)
  have HMR := Lib.hid (markM_row s M)
  have hml := markM_length s M
  have HZ : Hid (Mx w go ao R (mixM (markM s M) M 0)) := by
    have : Mx w go ao R (mixM (markM s M) M 0) := by rw [mixM_zero]; exact h
    exact this
  obtain ⟨T, hT⟩ : ∃ T, markM s M = T := ⟨_, rfl⟩
  rw [hT] at HZ HMR hml ⊢
  have HST := Lib.hid (fun j (hj : j < M.length) => mixM_step hml hj)
  have HMX := Lib.hid (fun j (hj : j < M.length) => mixM_row hml hj)
  have HME := Lib.hid (mixM_end hml (Nat.le_refl _))
  have HML := Lib.hid (mixM_length hml)
  obtain ⟨l, hl⟩ : ∃ l, M.length = l := ⟨_, rfl⟩
  have HL := Lib.hid hl
  rw [hl] at HNX HLE HRW HMR HST HMX HME HML hlen hoff ⊢
  obtain ⟨F, hF⟩ : ∃ F : Nat → Nat, offM M = F := ⟨_, rfl⟩
  rw [hF] at HNX HLE HRW HMR hoff ⊢
  have hF0 : F 0 = 0 := by rw [← hF]; exact offM_zero M
  have HF0 := Lib.hid hF0
  clear h hl hT hF hF0 hml
  go_enter Try.func45, Try.ntmps45
  go_wp2
  go_loopw [1, 5] (fun kv i wr => ∃ j : Nat, j ≤ l ∧ i = .int .i64 (j : Int) ∧ kv = .int .i64 ((s + F j : Nat) : Int) ∧ Mx wr go ao R (mixM T M j) ∧ Only (blks R) w wr) (fun _ i _ => l - (intOf i).toNat)
  case atStart => exact ⟨0, Nat.zero_le _, rfl, by rw [HF0.out]; rfl, HZ.out, Only.refl _ _⟩
  case round =>
    obtain ⟨j, hj, rfl, rfl, hX, hO⟩ := hrel
    have HX := Lib.hid hX
    have HO := Lib.hid hO
    clear hX hO
    by_cases hlt : j < l
    · have hlm : j < (mixM T M j).length := by rw [HML.out]; exact hlt
      obtain ⟨e1, s1, d1, _⟩ := HX.out.out j hlm
      subst e1
      obtain ⟨_, hI⟩ := HX.out.rows j hlm
      rw [HMX.out j hlt] at d1 hI
      have hle := HLE.out j
      have hrw := HRW.out j hlt
      have hnx := HNX.out j hlt
      have HLM := Lib.hid hlm
      have HCL := Lib.hid (markInt_any (blk R j) (some ⟨blk R j, 0, none⟩) (room R j) (Lin.row M j) ((s + F j : Nat) : Int) (s + F j) rfl (by omega) (by omega) wr hI)
      have HEN : Hid (s + F j + (Lin.row M j).length = s + F (j + 1)) := by
        have : s + F j + (Lin.row M j).length = s + F (j + 1) := by omega
        exact this
      rw [HEN.out] at HCL
      have hle2 := HLE.out (j + 1)
      obtain ⟨u, hu⟩ : ∃ u, s + F j = u := ⟨_, rfl⟩
      obtain ⟨u2, hu2⟩ : ∃ u, s + F (j + 1) = u := ⟨_, rfl⟩
      have HU := Lib.hid hu
      have HU2 := Lib.hid hu2
      rw [hu, hu2] at HCL
      rw [hu]
      clear hI hle hrw hnx hlm hle2 hu hu2
      go_wp2_with fail
      refine HCL.out.mono ?_
      rintro e w1 ⟨rfl, hr, hg⟩
      have hX1 : Mx w1 go (some ⟨go, 0, none⟩) R (mixM T M (j + 1)) := by
        rw [← HST.out j hlt]
        refine HX.out.setRow HLM.out ?_ ?_ hg
        · rw [HMR.out j hlt, HU.out, imarks_length, HMX.out j hlt]
        · rw [HMR.out j hlt, HU.out]; exact hr
      have hO1 : Only (blks R) w w1 := HO.out.trans (by
        refine ⟨hg.os, hg.tape, hg.output, hg.size, fun k hk hn => hg.block k hk (fun e => hn ?_)⟩
        rw [Option.some.inj e]
        exact blk_mem (by rw [HX.out.len]; exact HLM.out))
      have HX1 := Lib.hid hX1
      have HO1 := Lib.hid hO1
      clear hr hg hX1 hO1 HCL
      go_wp2
      go_roundw
      case rel => exact ⟨j + 1, by omega, by go_num, by rw [HU2.out], HX1.out, HO1.out⟩
      case measure => simp [intOf]; omega
    · have hje : j = l := by omega
      subst hje
      have hX2 := HX.out
      rw [HME.out] at hX2
      have HX2 := Lib.hid hX2
      clear hX2
      obtain ⟨u, hu⟩ : ∃ u, s + F j = u := ⟨_, rfl⟩
      have HU := Lib.hid hu
      rw [hu]
      clear hu
      go_wp2
      go_ret
      exact ⟨by rw [HU.out]; rfl, HX2.out, HO.out⟩

set_option maxRecDepth 100000 in
set_option maxHeartbeats 2000000 in
theorem heldMx_any (go : Nat) (ao : Option Addr) (c : Nat) (R : List (Nat × Nat)) (M : Lin.Mat) (s : Nat) (z : Int) (hz : z = (s : Int)) (hlen : M.length ≤ 1099511627776) (hoff : s + offM M M.length ≤ 1099511627776) (w : World) (h : Mx w go ao R (markM s M)) :
    Calls Try.prog 46 #[.slice ao M.length c, .int .i64 z] w fun e w' => e = .returned (.int .i64 ((s + offM M M.length : Nat) : Int)) ∧ Below w.heap.size w w' := by
  subst hz
  have H := Lib.hid h
  have HNX := Lib.hid (offM_next M)
  have HLE := Lib.hid (offM_le M)
  have HRW := Lib.hid (offM_row M)
  have HMR := Lib.hid (markM_row s M)
  have hml := markM_length s M
  obtain ⟨T, hT⟩ : ∃ T, markM s M = T := ⟨_, rfl⟩
  rw [hT] at H HMR hml
  obtain ⟨l, hl⟩ : ∃ l, M.length = l := ⟨_, rfl⟩
  rw [hl] at HNX HLE HRW HMR hlen hoff hml ⊢
  have HTL := Lib.hid hml
  obtain ⟨F, hF⟩ : ∃ F : Nat → Nat, offM M = F := ⟨_, rfl⟩
  rw [hF] at HNX HLE HRW HMR hoff ⊢
  have hF0 : F 0 = 0 := by rw [← hF]; exact offM_zero M
  have HF0 := Lib.hid hF0
  clear h hl hT hF hF0 hml
  go_enter Try.func46, Try.ntmps46
  go_wp2
  go_loopw [1, 5] (fun kv i wr => ∃ j : Nat, j ≤ l ∧ i = .int .i64 (j : Int) ∧ kv = .int .i64 ((s + F j : Nat) : Int) ∧ Below w.heap.size w wr) (fun _ i _ => l - (intOf i).toNat)
  case atStart => exact ⟨0, Nat.zero_le _, rfl, by rw [HF0.out]; rfl, Below.refl _ _⟩
  case round =>
    obtain ⟨j, hj, rfl, rfl, hB⟩ := hrel
    have HB := Lib.hid hB
    clear hB
    by_cases hlt : j < l
    · have hX := H.out.keeps HB.out
      obtain ⟨e1, s1, d1, _⟩ := hX.out j (by rw [HTL.out]; exact hlt)
      subst e1
      obtain ⟨_, hI⟩ := hX.rows j (by rw [HTL.out]; exact hlt)
      rw [HMR.out j hlt] at d1 hI
      rw [imarks_length] at d1
      have hle := HLE.out j
      have hrw := HRW.out j hlt
      have hnx := HNX.out j hlt
      have HCL := Lib.hid (heldInt_any (blk R j) (some ⟨blk R j, 0, none⟩) (room R j) (Lin.row M j).length ((s + F j : Nat) : Int) (s + F j) rfl (by omega) (by omega) wr hI)
      have HEN : Hid (s + F j + (Lin.row M j).length = s + F (j + 1)) := by
        have : s + F j + (Lin.row M j).length = s + F (j + 1) := by omega
        exact this
      rw [HEN.out] at HCL
      have hsz := HB.out.size
      obtain ⟨u, hu⟩ : ∃ u, s + F j = u := ⟨_, rfl⟩
      obtain ⟨u2, hu2⟩ : ∃ u, s + F (j + 1) = u := ⟨_, rfl⟩
      have HU2 := Lib.hid hu2
      rw [hu, hu2] at HCL
      rw [hu]
      have hneg : decide ((u2 : Int) < 0) = false := by simp
      clear hI hle hrw hnx hX hu hu2
      go_wp2_with fail
      refine HCL.out.mono ?_
      rintro e w1 ⟨rfl, hb1⟩
      have HB1 : Hid (Below w.heap.size w w1) := HB.out.trans (hb1.mono hsz)
      clear hb1 HCL
      go_wp2
      go_roundw
      case rel => exact ⟨j + 1, by omega, by go_num, by rw [HU2.out], HB1.out⟩
      case measure => simp [intOf]; omega
    · have hje : j = l := by omega
      subst hje
      obtain ⟨u, hu⟩ : ∃ u, s + F j = u := ⟨_, rfl⟩
      have HU := Lib.hid hu
      rw [hu]
      clear hu
      go_wp2
      go_ret
      exact ⟨by rw [HU.out]; rfl, HB.out⟩

end Go.Proofs.Ythjgpbcdcgagfaa

/-! WALKS of chapter 13 (spec): remainders, inverses, signs. -/

namespace Go.Proofs.Ythjgpbcdcgagfaa
open Go.RowKit
open Sets

theorem tmod_mod {a p : Int} (hp : 0 < p) : (a.tmod p + p).tmod p = a % p := by
  have h1 := Int.tmod_lt_of_pos a hp
  have h2 := Int.lt_tmod_of_pos a hp
  rw [Int.tmod_eq_emod_of_nonneg (by omega)]
  rw [Int.add_emod_right]
  have := Int.tmod_add_mul_tdiv a p
  rw [show a.tmod p = a - p * a.tdiv p by omega, Int.sub_mul_emod_self_left]

theorem tmod_mod2 {a p : Int} (hp : 0 < p) : (a.tmod p + p) % p = a % p := by
  have h2 := Int.lt_tmod_of_pos a hp
  have h := tmod_mod (a := a) hp
  rwa [Int.tmod_eq_emod_of_nonneg (by omega)] at h

set_option maxRecDepth 100000 in
set_option maxHeartbeats 2000000 in
theorem l13Mod_any (a : Int) (p : Nat) (hp : 1 < p) (hp2 : p ≤ 1000) (w : World) : Calls Try.prog 72 #[.int .i64 a, .int .i64 (p : Int)] w fun e w' => e = .returned (.int .i64 (a % (p : Int))) ∧ w = w' := by
  have hz : ((p : Int) = 0) = False := by simp; omega
  have b1 := Int.tmod_lt_of_pos a (by omega : (0 : Int) < p)
  have b2 := Int.lt_tmod_of_pos a (by omega : (0 : Int) < p)
  have E := Lib.hid (tmod_mod2 (a := a) (by omega : (0 : Int) < p))
  go_enter Try.func72, Try.ntmps72
  go_wp2
  go_ret
  exact ⟨ret_int E.out, rfl⟩

/-- The primes that the chapter knows. -/
def primeB (p : Int) : Bool := decide (p = 2 ∨ p = 3 ∨ p = 5)
set_option maxRecDepth 100000 in
theorem isPrime_any (p : Int) (w : World) : Calls Try.prog 30 #[.int .i64 p] w fun e w' => e = .returned (.bool (primeB p)) ∧ w = w' := by
  by_cases h2 : p = 2
  · subst h2
    go_enter Try.func30, Try.ntmps30
    go_wp2
    go_ret
    exact ⟨rfl, rfl⟩
  · by_cases h3 : p = 3
    · subst h3
      go_enter Try.func30, Try.ntmps30
      go_wp2
      go_ret
      exact ⟨rfl, rfl⟩
    · have e2 : (p == 2) = false := by simpa using h2
      have e3 : (p == 3) = false := by simpa using h3
      have hb : Hid (primeB p = (p == 5)) := by unfold primeB; rw [Hid]; simp [h2, h3]; rfl
      go_enter Try.func30, Try.ntmps30
      go_wp2
      go_ret
      rw [hb.out]
      exact ⟨rfl, rfl⟩

theorem inv_hit {p b : Nat} {a : Int} (hb : b < p) (h : a % (p : Int) * (b : Int) % p = 1) (hno : ∀ c : Nat, c < b → ¬a % (p : Int) * (c : Int) % p = 1) : Lin.inv p a = b := by
  unfold Lin.inv
  rw [show ((List.range p).filter fun b : Nat => decide (a % (p : Int) * (b : Int) % p = 1)).headD 0 = b from ?_]
  rw [List.headD_eq_head?_getD, List.head?_filter, List.find?_range_eq_some.2 ⟨decide_eq_true h, List.mem_range.2 hb, fun j hj => by simpa using hno j hj⟩]; rfl
theorem inv_none {p : Nat} {a : Int} (hno : ∀ c : Nat, c < p → ¬a % (p : Int) * (c : Int) % p = 1) : Lin.inv p a = 0 := by
  unfold Lin.inv
  rw [List.filter_eq_nil_iff.2 fun c hc => by simpa using hno c (List.mem_range.1 hc)]; rfl

set_option maxRecDepth 100000 in
set_option maxHeartbeats 2000000 in
theorem inverse_any (a : Int) (p : Nat) (hp : p = 2 ∨ p = 3 ∨ p = 5) (w : World) : Calls Try.prog 28 #[.int .i64 a, .int .i64 (p : Int)] w fun e w' => e = .returned (.int .i64 (Lin.inv p a)) ∧ w = w' := by
  have hz : ((p : Int) = 0) = False := by simp; omega
  have hP : Hid (primeB (p : Int) = true) := decide_eq_true (by omega)
  have hr0 := Int.emod_nonneg a (by omega : (p : Int) ≠ 0)
  have hr1 := Int.emod_lt_of_pos a (by omega : (0 : Int) < p)
  have hp5 : p ≤ 5 := by omega
  have hp1 : 1 < p := by omega
  have HR : Hid (∃ r : Int, a % (p : Int) = r) := ⟨_, rfl⟩
  obtain ⟨r, hr⟩ := HR.out
  rw [hr] at hr0 hr1
  have HRR := Lib.hid hr
  clear hr hp HR
  go_enter Try.func28, Try.ntmps28
  go_wp2_with fail
  refine (isPrime_any _ _).mono ?_
  rw [hP.out]
  rintro e w' ⟨rfl, rfl⟩
  go_wp2
  go_loop [5] (fun x => ∃ b : Nat, 1 ≤ b ∧ b ≤ p ∧ x = .int .i64 (b : Int) ∧ Hid (∀ c : Nat, c < b → ¬r * (c : Int) % p = 1)) (fun x => p - (intOf x).toNat)
  case atStart => exact ⟨1, by omega, by omega, rfl, fun c hc => by rw [show c = 0 by omega]; simp⟩
  case round =>
    obtain ⟨b, hb1, hb, rfl, hno⟩ := hrel
    by_cases hlt : b < p
    · have hm1 : 0 ≤ r * (b : Int) := Int.mul_nonneg hr0 (by omega)
      have hm2 : r * (b : Int) ≤ 25 := Int.le_trans (Int.mul_le_mul (show r ≤ 5 by omega) (show (b : Int) ≤ 5 by omega) (by omega) (by omega)) (by decide)
      go_wp2_with fail
      refine (l13Mod_any a p hp1 (by omega) _).mono ?_
      rw [HRR.out]
      rintro e w' ⟨rfl, rfl⟩
      have htm : (r * (b : Int)).tmod p = r * (b : Int) % p := Int.tmod_eq_emod_of_nonneg hm1
      by_cases hc : r * (b : Int) % p = 1
      · have HC := Lib.hid hc
        go_wp2
        go_ret
        exact ⟨ret_int (inv_hit hlt (by rw [HRR.out]; exact HC.out) (by rw [HRR.out]; exact hno.out)).symm, rfl⟩
      · have HC := Lib.hid hc
        go_wp2
        go_round
        case rel =>
          refine ⟨b + 1, by omega, by omega, by go_num, fun c hc' => ?_⟩
          by_cases e : c < b
          · exact hno.out c e
          · rw [show c = b by omega]
            exact HC.out
        case measure => simp [intOf]; omega
    · have HE : Hid (b = p) := by show b = p; omega
      go_wp2
      go_ret
      refine ⟨ret_int ?_, rfl⟩
      exact (inv_none (by rw [HRR.out]; exact fun c hc => hno.out c (by rw [HE.out]; exact hc))).symm

end Go.Proofs.Ythjgpbcdcgagfaa

/-! WALKS of chapter 13 (impl): TurnMatrix; remainders, primes, inverses. -/

namespace Go.Proofs.Ythjgpbcdcgagfaa
open Go.RowKit

theorem HasMx.empty (w : World) (base : Nat) : HasMx w base (.slice none 0 0) [] :=
  ⟨none, 0, 0, [], rfl, fun h => absurd h (Nat.not_lt_zero _), fun g hg => absurd hg (by simp), ⟨rfl, by simp, fun i hi => absurd hi (Nat.not_lt_zero _), fun i hi => absurd hi (Nat.not_lt_zero _), by simp⟩⟩
/-- The columns as rows; none where the rows differ in length. -/
def turnZ (M : Lin.Mat) : Lin.Mat := if rectB M = true then Lin.turnM (Lin.wid M) M else []

set_option maxRecDepth 100000 in
set_option maxHeartbeats 4000000 in
theorem implTurn_any (go : Nat) (ao : Option Addr) (co : Nat) (R0 : List (Nat × Nat)) (M : Lin.Mat) (hlen : M.length ≤ 1099511627776) (hrow : ∀ i, i < M.length → (Lin.row M i).length ≤ 1099511627776) (w : World) (h : Mx w go ao R0 M) :
    Calls Try.prog 16 #[.slice ao M.length co] w fun e w' => ∃ v, e = .returned v ∧ HasMx w' w.heap.size v (turnZ M) ∧ Below w.heap.size w w' := by
  have HC := Lib.hid (readMatrix_any go ao co R0 M hlen hrow w h)
  have hwid : Lin.wid M ≤ 1099511627776 := by
    by_cases h0 : 0 < M.length
    · exact hrow 0 h0
    · have e : M = [] := List.eq_nil_of_length_eq_zero (by omega)
      rw [e]; decide
  have HWD := Lib.hid hwid
  have HLN := Lib.hid hlen
  clear h hrow hwid
  go_enter Try.func16, Try.ntmps16
  go_wp2_with fail
  refine HC.out.mono ?_
  rintro e w1 ⟨⟨hr, P, v, R, rfl, hM⟩ | ⟨hr, rfl⟩, hb1⟩
  · have HM := Lib.hid hM
    have HB1 := Lib.hid hb1
    have HT := Lib.hid (turnedMx_any hr HLN.out HWD.out w1 hM)
    have HE : Hid (turnZ M = Lin.turnM (Lin.wid M) M) := by
      have : turnZ M = Lin.turnM (Lin.wid M) M := if_pos hr
      exact this
    have hsz := hb1.size
    clear hM hb1 hr
    go_wp2_with fail
    refine HT.out.mono ?_
    rintro e w2 ⟨P2, v2, R2, rfl, hM2, hb2⟩
    have hcell := hM2.cell
    have HH : Hid (HasMx w2 w.heap.size v2 (turnZ M)) := by
      have : HasMx w2 w.heap.size v2 (turnZ M) := by rw [HE.out]; exact hM2.own.has.lower hsz
      exact this
    have HB2 : Hid (Below w.heap.size w w2) := HB1.out.trans (hb2.mono hsz)
    clear hM2 hb2
    go_wp2
    go_ret
    exact ⟨v2, rfl, HH.out, HB2.out⟩
  · have HB1 := Lib.hid hb1
    have HE : Hid (turnZ M = []) := by
      have : turnZ M = [] := if_neg (by rw [hr]; simp)
      exact this
    clear hb1 hr
    go_wp2
    go_ret
    exact ⟨_, rfl, by rw [HE.out]; exact HasMx.empty _ _, HB1.out⟩

set_option maxRecDepth 100000 in
set_option maxHeartbeats 2000000 in
theorem remainder_any (a : Int) (p : Nat) (hp : 1 < p) (hp2 : p ≤ 1000) (w : World) : Calls Try.prog 71 #[.int .i64 a, .int .i64 (p : Int)] w fun e w' => e = .returned (.int .i64 (a % (p : Int))) ∧ w = w' := by
  have hz : ((p : Int) = 0) = False := by simp; omega
  have b1 := Int.tmod_lt_of_pos a (by omega : (0 : Int) < p)
  have b2 := Int.lt_tmod_of_pos a (by omega : (0 : Int) < p)
  have E := Lib.hid (tmod_mod2 (a := a) (by omega : (0 : Int) < p))
  go_enter Try.func71, Try.ntmps71
  go_wp2
  go_ret
  exact ⟨ret_int E.out, rfl⟩

set_option maxRecDepth 100000 in
theorem implPrime_any (p : Int) (w : World) : Calls Try.prog 29 #[.int .i64 p] w fun e w' => e = .returned (.bool (primeB p)) ∧ w = w' := by
  by_cases h2 : p = 2
  · subst h2
    go_enter Try.func29, Try.ntmps29
    go_wp2
    go_ret
    exact ⟨rfl, rfl⟩
  · by_cases h3 : p = 3
    · subst h3
      go_enter Try.func29, Try.ntmps29
      go_wp2
      go_ret
      exact ⟨rfl, rfl⟩
    · have e2 : (p == 2) = false := by simpa using h2
      have e3 : (p == 3) = false := by simpa using h3
      have hb : Hid (primeB p = (p == 5)) := by unfold primeB; rw [Hid]; simp [h2, h3]; rfl
      go_enter Try.func29, Try.ntmps29
      go_wp2
      go_ret
      rw [hb.out]
      exact ⟨rfl, rfl⟩

set_option maxRecDepth 100000 in
set_option maxHeartbeats 2000000 in
theorem implInverse_any (a : Int) (p : Nat) (hp : p = 2 ∨ p = 3 ∨ p = 5) (w : World) : Calls Try.prog 27 #[.int .i64 a, .int .i64 (p : Int)] w fun e w' => e = .returned (.int .i64 (Lin.inv p a)) ∧ w = w' := by
  have hz : ((p : Int) = 0) = False := by simp; omega
  have hP : Hid (primeB (p : Int) = true) := decide_eq_true (by omega)
  have hr0 := Int.emod_nonneg a (by omega : (p : Int) ≠ 0)
  have hr1 := Int.emod_lt_of_pos a (by omega : (0 : Int) < p)
  have hp5 : p ≤ 5 := by omega
  have hp1 : 1 < p := by omega
  have HR : Hid (∃ r : Int, a % (p : Int) = r) := ⟨_, rfl⟩
  obtain ⟨r, hr⟩ := HR.out
  rw [hr] at hr0 hr1
  have HRR := Lib.hid hr
  clear hr hp HR
  go_enter Try.func27, Try.ntmps27
  go_wp2_with fail
  refine (implPrime_any _ _).mono ?_
  rw [hP.out]
  rintro e w' ⟨rfl, rfl⟩
  go_wp2
  go_loop [5] (fun x => ∃ b : Nat, 1 ≤ b ∧ b ≤ p ∧ x = .int .i64 (b : Int) ∧ Hid (∀ c : Nat, c < b → ¬r * (c : Int) % p = 1)) (fun x => p - (intOf x).toNat)
  case atStart => exact ⟨1, by omega, by omega, rfl, fun c hc => by rw [show c = 0 by omega]; simp⟩
  case round =>
    obtain ⟨b, hb1, hb, rfl, hno⟩ := hrel
    by_cases hlt : b < p
    · have hm1 : 0 ≤ r * (b : Int) := Int.mul_nonneg hr0 (by omega)
      have hm2 : r * (b : Int) ≤ 25 := Int.le_trans (Int.mul_le_mul (show r ≤ 5 by omega) (show (b : Int) ≤ 5 by omega) (by omega) (by omega)) (by decide)
      go_wp2_with fail
      refine (remainder_any a p hp1 (by omega) _).mono ?_
      rw [HRR.out]
      rintro e w' ⟨rfl, rfl⟩
      have htm : (r * (b : Int)).tmod p = r * (b : Int) % p := Int.tmod_eq_emod_of_nonneg hm1
      by_cases hc : r * (b : Int) % p = 1
      · have HC := Lib.hid hc
        go_wp2
        go_ret
        exact ⟨ret_int (inv_hit hlt (by rw [HRR.out]; exact HC.out) (by rw [HRR.out]; exact hno.out)).symm, rfl⟩
      · have HC := Lib.hid hc
        go_wp2
        go_round
        case rel =>
          refine ⟨b + 1, by omega, by omega, by go_num, fun c hc' => ?_⟩
          by_cases e : c < b
          · exact hno.out c e
          · rw [show c = b by omega]
            exact HC.out
        case measure => simp [intOf]; omega
    · have HE : Hid (b = p) := by show b = p; omega
      go_wp2
      go_ret
      refine ⟨ret_int ?_, rfl⟩
      exact (inv_none (by rw [HRR.out]; exact fun c hc => hno.out c (by rw [HE.out]; exact hc))).symm

/-- The inverse for every number that is asked as a prime. -/
def invZ (a p : Int) : Int := if primeB p = true then Lin.inv p.toNat a else 0
theorem prime_nat {p : Int} (h : primeB p = true) : (p.toNat = 2 ∨ p.toNat = 3 ∨ p.toNat = 5) ∧ p = (p.toNat : Int) := by
  have := of_decide_eq_true h
  omega

set_option maxRecDepth 100000 in
set_option maxHeartbeats 2000000 in
theorem implInverse_all (a p : Int) (w : World) : Calls Try.prog 27 #[.int .i64 a, .int .i64 p] w fun e w' => e = .returned (.int .i64 (invZ a p)) ∧ w = w' := by
  by_cases h : primeB p = true
  · obtain ⟨h1, h2⟩ := prime_nat h
    rw [show invZ a p = Lin.inv p.toNat a from if_pos h]
    have hc := implInverse_any a p.toNat h1 w
    rw [← h2] at hc
    exact hc
  · have h2 : primeB p = false := by simpa using h
    rw [show invZ a p = 0 from if_neg h]
    have HF := Lib.hid h2
    clear h h2
    go_enter Try.func27, Try.ntmps27
    go_wp2_with fail
    refine (implPrime_any _ _).mono ?_
    rw [HF.out]
    rintro e w' ⟨rfl, rfl⟩
    go_wp2
    go_ret
    exact ⟨rfl, rfl⟩

set_option maxRecDepth 100000 in
set_option maxHeartbeats 2000000 in
theorem specInverse_all (a p : Int) (w : World) : Calls Try.prog 28 #[.int .i64 a, .int .i64 p] w fun e w' => e = .returned (.int .i64 (invZ a p)) ∧ w = w' := by
  by_cases h : primeB p = true
  · obtain ⟨h1, h2⟩ := prime_nat h
    rw [show invZ a p = Lin.inv p.toNat a from if_pos h]
    have hc := inverse_any a p.toNat h1 w
    rw [← h2] at hc
    exact hc
  · have h2 : primeB p = false := by simpa using h
    rw [show invZ a p = 0 from if_neg h]
    have HF := Lib.hid h2
    clear h h2
    go_enter Try.func28, Try.ntmps28
    go_wp2_with fail
    refine (isPrime_any _ _).mono ?_
    rw [HF.out]
    rintro e w' ⟨rfl, rfl⟩
    go_wp2
    go_ret
    exact ⟨rfl, rfl⟩

end Go.Proofs.Ythjgpbcdcgagfaa
