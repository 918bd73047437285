/-
  TEXTS of one claim, put together: MissLaw, WCur, StrRow, WPick.
-/
import Derived.Test.YtfnpkglijknnoaaJg7
import Derived.Test.YtfnpkglijknnoaaJg0
import Derived.Test.YtfnpkglijknnoaaProg
import Derived.WalkKit
import Derived.WalkLawsBesides
import Derived.Outline
import Derived.Lib.Hide
import Derived.Deep.QuietTactic
import Derived.BigQuiet
import Derived.WalkSmall
import Derived.IntWalk
import Derived.Laws.Bits64
import Derived.Deep.DeepCutAuto
/-! SETS THAT ARE NO FACES, of no program: what the chapter's promise says of them. -/

namespace Go.Proofs.Ytfnpkglijknnoaa
open Sets

theorem avoid_isC {n : Int} {xs : List Int} (h : inB 1 6 n = true) : isC n (maxQ (avoidQ n xs)) = true := by
  have hn := (inB_iff _ _ _).1 h
  exact maxQ_isC n _ hn.1 hn.2 (avoidQ_down n xs) fun s hs => avoidQ_set s hs
theorem setsOf_n {n : Int} {xs : List Int} (h : setsOf n xs = true) : inB 1 6 n = true := ((setsOf_iff n xs).1 h).1
theorem setsOf_set {n : Int} {xs : List Int} (h : setsOf n xs = true) (x : Int) (hx : x ∈ xs) : setB n x = true := ((setsOf_iff n xs).1 h).2.2 x hx
/-- Of a complex made out of missing sets, the least of them are missing. -/
theorem miss_from {n : Int} {xs : List Int} (h : setsOf n xs = true) : missing n (maxQ (avoidQ n xs)) = minimal xs := by
  have hok := setsOf_ok h
  rw [missing_yes (avoid_isC (setsOf_n h))]
  have e : ∀ s, s < 64 → missQ n (maxQ (avoidQ n xs)) s = (setB n (s : Int) && abv xs s) := fun s hs => by
    unfold missQ
    rw [inF_maxQ _ (avoidQ_down n xs) s hs]
    unfold avoidQ
    cases setB n (s : Int) <;> simp
  rw [minQ_congr e]
  refine rises_eq _ _ (minQ_rises _) (minimal_rises _) fun x => ?_
  rw [mem_minQ, mem_minimal xs hok]
  constructor
  · rintro ⟨s, rfl, hs, h1, h2⟩
    rw [Bool.and_eq_true] at h1
    obtain ⟨f, hf, k⟩ := (abv_iff xs s).1 h1.2
    obtain ⟨t, rfl, ht⟩ := ok_nat hok hf
    have k : sub t s = true := k
    have hin : ∀ u : Nat, (u : Int) ∈ xs → sub u s = true → u = s := fun u hu ku => by
      have hu6 := (okZ_nat u).1 (setB_ok (setsOf_set h _ hu))
      refine h2 u hu6 ?_ ku
      rw [setsOf_set h _ hu, (abv_iff xs u).2 ⟨_, hu, sub_refl u⟩]; rfl
    have := hin t hf k
    subst this
    exact ⟨t, rfl, hs, hf, hin⟩
  · rintro ⟨s, rfl, hs, hx, hu⟩
    refine ⟨s, rfl, hs, ?_, fun t ht k1 k2 => ?_⟩
    · rw [setsOf_set h _ hx, (abv_iff xs s).2 ⟨_, hx, sub_refl s⟩]; rfl
    · rw [Bool.and_eq_true] at k1
      obtain ⟨f, hf, k⟩ := (abv_iff xs t).1 k1.2
      obtain ⟨u, rfl, _⟩ := ok_nat hok hf
      have k : sub u t = true := k
      have := hu u hf (sub_trans k k2)
      subst this
      exact sub_anti k2 k
/-- A complex is told by its least sets that are no faces. -/
theorem from_miss {n : Int} {xs : List Int} (h : isC n xs = true) : maxQ (avoidQ n (missing n xs)) = xs := by
  conv => rhs; rw [← isC_maxQ h]
  refine maxQ_congr fun s hs => ?_
  rw [missing_yes h]
  cases e : inF xs s with
  | true =>
    unfold avoidQ
    rw [inF_set h s e, Bool.true_and, Bool.not_eq_true']
    rw [Bool.eq_false_iff]; intro k
    obtain ⟨f, hf, k⟩ := (abv_iff _ s).1 k
    obtain ⟨t, rfl, ht, hm, _⟩ := (mem_minQ _ f).1 hf
    have k : sub t s = true := k
    unfold missQ at hm
    rw [inF_sub k e, Bool.and_eq_true] at hm
    cases hm.2
  | false =>
    rw [Bool.eq_false_iff]; intro k
    unfold avoidQ at k
    rw [Bool.and_eq_true, Bool.not_eq_true'] at k
    have hm : missQ n xs s = true := by unfold missQ; rw [k.1, e]; rfl
    obtain ⟨u, _, h2, h3⟩ := minQ_below (missQ n xs) s s hs (Nat.le_refl _) hm
    rw [(abv_iff _ s).2 ⟨_, h2, h3⟩] at k
    cases k.2
theorem miss_setsOf {n : Int} {xs : List Int} (h : isC n xs = true) : setsOf n (missing n xs) = true :=
  (setsOf_iff _ _).2 ⟨(inB_iff _ _ _).2 (isC_n h), missing_le n xs, missing_set⟩
theorem small_mem {xs : List Int} {x : Int} (h : x ∈ small xs) : x ∈ xs ∧ pc x.toNat ≤ 2 := by
  unfold small at h
  rw [List.mem_filter, decide_eq_true_iff] at h
  exact h
theorem small_le (xs : List Int) : (small xs).length ≤ xs.length := List.length_filter_le _ _
theorem small_setsOf {n : Int} {xs : List Int} (h : isC n xs = true) : setsOf n (small (missing n xs)) = true :=
  (setsOf_iff _ _).2 ⟨(inB_iff _ _ _).2 (isC_n h), Nat.le_trans (small_le _) (missing_le n xs), fun x hx => missing_set x (small_mem hx).1⟩
theorem getD_mem {xs : List Int} {k : Nat} (h : k < xs.length) : xs.getD k 0 ∈ xs := by
  rw [List.getD, List.getElem?_eq_getElem h]; exact List.getElem_mem h
/-- Made out of sets of at most two points: a flag complex. -/
theorem small_flag {n : Int} {S : List Int} (h : setsOf n S = true) (hs : ∀ x, x ∈ S → pc x.toNat ≤ 2) : flagB n (maxQ (avoidQ n S)) = true := by
  unfold flagB
  rw [avoid_isC (setsOf_n h), Bool.true_and, decide_eq_true_iff]
  unfold great
  rw [miss_from h]
  by_cases h0 : (minimal S).length = 0
  · rw [if_pos h0]; decide
  · rw [if_neg h0]
    have hm : (minimal S).getD ((minimal S).length - 1) 0 ∈ minimal S := getD_mem (by omega)
    obtain ⟨s, e, _, hx, _⟩ := (mem_minimal S (setsOf_ok h) _).1 hm
    rw [e]
    have := hs _ hx
    omega
theorem flag_flag {n : Int} {xs : List Int} (h : isC n xs = true) : flagB n (maxQ (avoidQ n (small (missing n xs)))) = true :=
  small_flag (small_setsOf h) fun _ hx => (small_mem hx).2
theorem rises_pc {L : List Int} (h : Rises L) (i j : Nat) (hij : i ≤ j) (hj : j < L.length) : pc (L.getD i 0).toNat ≤ pc (L.getD j 0).toNat := by
  by_cases e : i = j
  · subst e; exact Nat.le_refl _
  · have := List.pairwise_iff_getElem.1 h i j (by omega) hj (by omega)
    rw [List.getD, List.getD, List.getElem?_eq_getElem hj, List.getElem?_eq_getElem (show i < L.length by omega)]
    rw [befZ_iff, befN_iff] at this
    show pc (L[i]).toNat ≤ pc (L[j]).toNat
    omega
theorem great_ge {n : Int} {xs : List Int} (k : Nat) (hk : k < (missing n xs).length) : (pc ((missing n xs).getD k 0).toNat : Int) ≤ great n xs := by
  unfold great
  rw [if_neg (by omega)]
  have := rises_pc (missing_rises n xs) k ((missing n xs).length - 1) (by omega) (by omega)
  omega
theorem full_lt {n : Int} {xs : List Int} (h : isC n xs = true) (k : Nat) (hk : k < (missing n xs).length) : fullTo n xs < (pc ((missing n xs).getD k 0).toNat : Int) := by
  unfold fullTo
  rw [if_pos h, if_neg (by omega)]
  have := rises_pc (missing_rises n xs) 0 k (by omega) hk
  omega
/-- A complex is a flag complex just if its flag complex is itself. -/
theorem flag_iff {n : Int} {xs : List Int} (h : isC n xs = true) : flagB n xs = true ↔ maxQ (avoidQ n (small (missing n xs))) = xs := by
  constructor
  · intro hf
    have e : small (missing n xs) = missing n xs := by
      unfold small
      rw [List.filter_eq_self]
      intro x hx
      obtain ⟨k, hk, rfl⟩ := List.mem_iff_getElem.1 hx
      unfold flagB at hf
      rw [Bool.and_eq_true, decide_eq_true_iff] at hf
      have := great_ge (n := n) (xs := xs) k hk
      rw [List.getD, List.getElem?_eq_getElem hk] at this
      have this : (pc ((missing n xs)[k]).toNat : Int) ≤ great n xs := this
      rw [decide_eq_true_iff]
      omega
    rw [e]; exact from_miss h
  · intro e
    have := flag_flag h
    rw [e] at this
    exact this
theorem great_bounds (n : Int) (xs : List Int) : -1 ≤ great n xs ∧ great n xs ≤ 6 := by
  unfold great
  split
  · omega
  · have := pc_le ((missing n xs).getD ((missing n xs).length - 1) 0).toNat
    omega

end Go.Proofs.Ytfnpkglijknnoaa

/-! WALKS: the cursor over the bytes of a draw: what it hands back is in range; it changes its own block alone. -/

namespace Go.Proofs.Ytfnpkglijknnoaa
open Go.RowKit

/-- A slice of n bytes, none of them in block B. -/
def Bytes (w : World) (a : Option Addr) (n : Nat) (B : Nat) : Prop := ∀ j, j < n → ∃ b o x : Nat, a = some ⟨b, o, none⟩ ∧ b ≠ B ∧ x ≤ 255 ∧ w.cell? ⟨b, o + j, none⟩ = some (.int .u8 (x : Int))

/-- A cursor in block B over n bytes. -/
structure Cur (w : World) (B : Nat) (a : Option Addr) (n c : Nat) : Prop where
  c0 : w.cell? ⟨B, 0, none⟩ = some (.slice a n c)
  c1 : ∃ i : Nat, i ≤ n ∧ w.cell? ⟨B, 1, none⟩ = some (.int .i64 (i : Int))
  c2 : ∃ h : Int, w.cell? ⟨B, 2, none⟩ = some (.int .i64 h)
  fr : ∀ j, w.frozen? ⟨B, j, none⟩ = false
  bs : Bytes w a n B

theorem Bytes.of_but {w w' : World} {a : Option Addr} {n B : Nat} (h : Bytes w a n B) (hg : w.grownBy w' (some B)) : Bytes w' a n B := fun j hj => by
  obtain ⟨b, o, x, e, hb, hx, hc⟩ := h j hj
  exact ⟨b, o, x, e, hb, hx, by rw [hg.cell_far ⟨b, o + j, none⟩ (World.block_lt_of_cell? w _ hc) (by simpa using hb)]; exact hc⟩

theorem Cur.set1 {w : World} {B : Nat} {a : Option Addr} {n c : Nat} (h : Cur w B a n c) (i : Nat) (hi : i ≤ n) : Cur (w.setCell ⟨B, 1, none⟩ (.int .i64 (i : Int))) B a n c := by
  obtain ⟨c0, ⟨i0, _, c1⟩, ⟨h2, c2⟩, fr, bs⟩ := h
  refine ⟨?_, ⟨i, hi, World.cell?_setCell_same _ _ _ c1⟩, ⟨h2, ?_⟩, fun j => ?_, bs.of_but (Mem.but_setCell _ _ _ _)⟩
  · rw [World.cell?_setCell_other _ _ _ _ (by simp)]; exact c0
  · rw [World.cell?_setCell_other _ _ _ _ (by simp)]; exact c2
  · rw [World.frozen?_setCell]; exact fr j
theorem Cur.set2 {w : World} {B : Nat} {a : Option Addr} {n c : Nat} (h : Cur w B a n c) (v : Int) : Cur (w.setCell ⟨B, 2, none⟩ (.int .i64 v)) B a n c := by
  obtain ⟨c0, ⟨i0, hi, c1⟩, ⟨h2, c2⟩, fr, bs⟩ := h
  refine ⟨?_, ⟨i0, hi, ?_⟩, ⟨v, World.cell?_setCell_same _ _ _ c2⟩, fun j => ?_, bs.of_but (Mem.but_setCell _ _ _ _)⟩
  · rw [World.cell?_setCell_other _ _ _ _ (by simp)]; exact c0
  · rw [World.cell?_setCell_other _ _ _ _ (by simp)]; exact c1
  · rw [World.frozen?_setCell]; exact fr j
theorem Cur.drewN {w : World} {B : Nat} {a : Option Addr} {n c : Nat} (h : Cur w B a n c) (m : Nat) : Cur (w.drewN m) B a n c := ⟨h.c0, h.c1, h.c2, h.fr, h.bs⟩

theorem wrap_small (y : Nat) (h : y ≤ 4294967295) : IntKind.i64.wrap (y : Int) = (y : Int) := by
  rw [IntWalk.i64_in _ (by omega)]
theorem and255 (z : Int) : ∃ x : Nat, x ≤ 255 ∧ bits BinOp.and IntKind.i64 z 255 = (x : Int) := by
  have h : (BitVec.ofInt 64 z &&& BitVec.ofInt 64 255).toNat ≤ 255 := by
    rw [BitVec.toNat_and]; exact Nat.le_trans Nat.and_le_right (by decide)
  refine ⟨_, h, ?_⟩
  show IntKind.i64.wrap ((BitVec.ofInt 64 z &&& BitVec.ofInt 64 255).toNat : Int) = _
  exact wrap_small _ (Nat.le_trans h (by decide))

set_option maxRecDepth 100000 in
set_option maxHeartbeats 2000000 in
theorem byte_any (B : Nat) (a : Option Addr) (n c : Nat) (hn : n ≤ 140737488355328) (w : World) (hc : Cur w B a n c) :
    Calls Try.prog 83 #[.pointer (some ⟨B, 0, none⟩)] w fun e w' => ∃ x : Nat, x ≤ 255 ∧ e = .returned (.int .i64 (x : Int)) ∧ Cur w' B a n c ∧ w.grownBy w' (some B) := by
  have HC := Lib.hid hc
  obtain ⟨c0, ⟨i, hi, c1⟩, ⟨h, c2⟩, fr, bs⟩ := hc
  have f2 := fr 2
  clear bs fr c0 c1 hi i
  go_enter Try.func83, Try.ntmps83
  go_wp2_with fail
  generalize wrap64 (wrap64 (h * 6364136223846793005) + 1442695040888963407) = v
  generalize wrap64 (h * 6364136223846793005) = v'
  have HC1 := Lib.hid (HC.out.set2 v)
  have HG1 := Lib.hid (Mem.but_setCell w B 2 (.int .i64 v))
  clear c2 f2 HC
  generalize w.setCell ⟨B, 2, none⟩ (.int .i64 v) = w1 at *
  obtain ⟨c0, ⟨i, hi, c1⟩, ⟨h2, c2⟩, fr, bs⟩ := HC1.out
  have f1 := fr 1
  have BS := Lib.hid bs
  clear fr bs
  go_quiet (fail)
  obtain ⟨x, hx, ex⟩ := and255 (bits BinOp.xor IntKind.i64 (h2 / 8589934592) (h2 / 35184372088832))
  rw [ex]
  clear ex
  generalize bits BinOp.xor IntKind.i64 (h2 / 8589934592) (h2 / 35184372088832) = z1
  generalize h2 / 8589934592 = z2
  generalize h2 / 35184372088832 = z3
  have c0 : (w1.drewN nq).cell? ⟨B, 0, none⟩ = some (.slice a n c) := c0
  have c1 : (w1.drewN nq).cell? ⟨B, 1, none⟩ = some (.int .i64 (i : Int)) := c1
  have f1 : (w1.drewN nq).frozen? ⟨B, 1, none⟩ = false := f1
  have HC2 := Lib.hid (HC1.out.drewN nq)
  have HG2 := Lib.hid (HG1.out.trans (Mem.but_of_below (Mem.below_drewN w1 nq) _))
  clear HC1 HG1 BS c2
  generalize w1.drewN nq = w2 at *
  by_cases hlt : i < n
  · obtain ⟨b, o, y, rfl, hb, hy, g⟩ := HC2.out.bs i hlt
    go_wp2_with fail
    go_quiet (fail)
    have c0 : (w2.drewN nq).cell? ⟨B, 0, none⟩ = some (.slice (some ⟨b, o, none⟩) n c) := c0
    have c1 : (w2.drewN nq).cell? ⟨B, 1, none⟩ = some (.int .i64 (i : Int)) := c1
    have f1 : (w2.drewN nq).frozen? ⟨B, 1, none⟩ = false := f1
    have g : (w2.drewN nq).cell? ⟨b, o + i, none⟩ = some (.int .u8 (y : Int)) := g
    have HC3 := Lib.hid (HC2.out.drewN nq)
    have HG3 := Lib.hid (HG2.out.trans (Mem.but_of_below (Mem.below_drewN w2 nq) _))
    clear HC2 HG2
    generalize w2.drewN nq = w3 at *
    go_wp2_with fail
    go_quiet (fail)
    obtain ⟨x2, hx2, ex2⟩ := and255 ((x : Int) + (y : Int))
    rw [ex2]
    clear ex2
    have c0 : (w3.drewN nq).cell? ⟨B, 0, none⟩ = some (.slice (some ⟨b, o, none⟩) n c) := c0
    have c1 : (w3.drewN nq).cell? ⟨B, 1, none⟩ = some (.int .i64 (i : Int)) := c1
    have f1 : (w3.drewN nq).frozen? ⟨B, 1, none⟩ = false := f1
    have HC4 := Lib.hid (HC3.out.drewN nq)
    have HG4 := Lib.hid (HG3.out.trans (Mem.but_of_below (Mem.below_drewN w3 nq) _))
    clear HC3 HG3 g
    generalize w3.drewN nq = w4 at *
    go_wp2
    go_ret
    have hs := HC4.out.set1 (i + 1) (by omega)
    have hg := HG4.out.trans (Mem.but_setCell w4 B 1 (.int .i64 ((i + 1 : Nat) : Int)))
    rw [show ((i + 1 : Nat) : Int) = (i : Int) + 1 from by omega] at hs hg
    exact ⟨x2, hx2, rfl, hs, hg⟩
  · go_wp2_with fail
    go_quiet (fail)
    go_wp2
    go_ret
    exact ⟨x, hx, rfl, HC2.out.drewN _, HG2.out.trans (Mem.but_of_below (Mem.below_drewN w2 nq) _)⟩

/-- What a draw hands back: the cursor is as good as before; only its block has changed. -/
def Drew (w w' : World) (B : Nat) (a : Option Addr) (n c : Nat) : Prop := Cur w' B a n c ∧ w.grownBy w' (some B)
theorem Drew.trans {w w1 w2 : World} {B : Nat} {a : Option Addr} {n c : Nat} (h : Drew w w1 B a n c) (k : Drew w1 w2 B a n c) : Drew w w2 B a n c := ⟨k.1, h.2.trans k.2⟩

theorem mod_nat (x n : Nat) (hn : 0 < n) : ∃ r : Nat, r < n ∧ ((x : Int) % (n : Int)) = (r : Int) := ⟨x % n, Nat.mod_lt _ hn, by omega⟩

set_option maxRecDepth 100000 in
set_option maxHeartbeats 2000000 in
theorem below_any (B : Nat) (a : Option Addr) (n c : Nat) (hn : n ≤ 140737488355328) (m : Nat) (hm : 0 < m) (hm2 : m ≤ 4294967296) (w : World) (hc : Cur w B a n c) :
    Calls Try.prog 66 #[.pointer (some ⟨B, 0, none⟩), .int .i64 (m : Int)] w fun e w' => ∃ r : Nat, r < m ∧ e = .returned (.int .i64 (r : Int)) ∧ Drew w w' B a n c := by
  have HC := Lib.hid hc
  clear hc
  by_cases hs : m ≤ 256
  · go_enter Try.func66, Try.ntmps66
    go_wp2_with fail
    refine (byte_any B a n c hn _ HC.out).mono ?_
    rintro e w1 ⟨x, hx, rfl, hc1, hg1⟩
    have HC1 := Lib.hid hc1
    have HG1 := Lib.hid hg1
    clear hc1 hg1
    go_wp2
    go_ret
    obtain ⟨r, hr, er⟩ := mod_nat x m hm
    exact ⟨r, hr, by rw [← er]; rfl, HC1.out, HG1.out⟩
  · go_enter Try.func66, Try.ntmps66
    go_wp2_with fail
    refine (byte_any B a n c hn _ HC.out).mono ?_
    rintro e w1 ⟨x, hx, rfl, hc1, hg1⟩
    have D1 : Hid (Drew w w1 B a n c) := ⟨hc1, hg1⟩
    clear hc1 hg1
    go_wp2_with fail
    refine (byte_any B a n c hn _ D1.out.1).mono ?_
    rintro e w2 ⟨y, hy, rfl, hc1, hg1⟩
    have D2 : Hid (Drew w w2 B a n c) := D1.out.trans ⟨hc1, hg1⟩
    clear hc1 hg1 D1
    go_wp2_with fail
    refine (byte_any B a n c hn _ D2.out.1).mono ?_
    rintro e w3 ⟨z, hz, rfl, hc1, hg1⟩
    have D3 : Hid (Drew w w3 B a n c) := D2.out.trans ⟨hc1, hg1⟩
    clear hc1 hg1 D2
    go_wp2_with fail
    refine (byte_any B a n c hn _ D3.out.1).mono ?_
    rintro e w4 ⟨t, ht, rfl, hc1, hg1⟩
    have D4 : Hid (Drew w w4 B a n c) := D3.out.trans ⟨hc1, hg1⟩
    clear hc1 hg1 D3
    go_wp2
    go_ret
    obtain ⟨r, hr, er⟩ := mod_nat (x * 16777216 + y * 65536 + z * 256 + t) m hm
    have er' : (((x : Int) * 16777216 + (y : Int) * 65536 + (z : Int) * 256 + (t : Int)) % (m : Int)) = (r : Int) := by rw [← er]; simp
    exact ⟨r, hr, by rw [← er']; rfl, D4.out⟩

/-- A slice of n bytes. -/
def Code (w : World) (a : Option Addr) (n : Nat) : Prop := ∀ j, j < n → ∃ b o x : Nat, a = some ⟨b, o, none⟩ ∧ x ≤ 255 ∧ w.cell? ⟨b, o + j, none⟩ = some (.int .u8 (x : Int))
theorem Code.keeps {w w' : World} {a : Option Addr} {n : Nat} (h : Code w a n) (hb : Below w.heap.size w w') : Code w' a n := fun j hj => by
  obtain ⟨b, o, x, e, hx, hc⟩ := h j hj
  exact ⟨b, o, x, e, hx, by rw [hb.cell (p := ⟨b, o + j, none⟩) (World.block_lt_of_cell? w _ hc)]; exact hc⟩

theorem cur_new (w : World) (a : Option Addr) (n c : Nat) (h : Int) (hc : Code w a n) : Cur (w.alloc (.cells #[.slice a n c, .int .i64 0, .int .i64 h] 68)) w.heap.size a n c := by
  refine ⟨World.cell?_alloc_new w _ _ 0, ⟨0, Nat.zero_le _, World.cell?_alloc_new w _ _ 1⟩, ⟨h, World.cell?_alloc_new w _ _ 2⟩, fun j => World.frozen?_alloc_at _ _ _ _ rfl, fun j hj => ?_⟩
  obtain ⟨b, o, x, e, hx, hcell⟩ := hc j hj
  have hlt := World.block_lt_of_cell? w _ hcell
  exact ⟨b, o, x, e, by simp at hlt; omega, hx, by rw [World.cell?_alloc_lt _ _ _ hlt]; exact hcell⟩

set_option maxRecDepth 100000 in
set_option maxHeartbeats 2000000 in
/-- l1New: a cursor in a new block. -/
theorem new_any (a : Option Addr) (n c : Nat) (hn : n ≤ 140737488355328) (w : World) (hc : Code w a n) :
    Calls Try.prog 41 #[.slice a n c] w fun e w' => e = .returned (.pointer (some ⟨w.heap.size, 0, none⟩)) ∧ Cur w' w.heap.size a n c ∧ w.heap.size < w'.heap.size ∧ Below w.heap.size w w' := by
  have HC := Lib.hid hc
  clear hc
  go_enter Try.func41, Try.ntmps41
  go_wp2
  go_loop [3, 4] (fun h i => ∃ (k : Nat) (v : Int), k ≤ n ∧ i = .int .i64 (k : Int) ∧ h = .int .i64 v) (fun _ i => n - (intOf i).toNat)
  case atStart => exact ⟨0, _, Nat.zero_le _, rfl, rfl⟩
  case round =>
    obtain ⟨k, v, hk, rfl, rfl⟩ := hrel
    by_cases hlt : k < n
    · by_cases h4 : k < 4000
      · obtain ⟨b, o, x, rfl, hx, g⟩ := HC.out k hlt
        go_wp2
        go_round
        case rel => exact ⟨k + 1, _, by omega, by go_num, rfl⟩
        case measure => simp [intOf]; omega
      · go_wp2
        go_ret
        exact ⟨rfl, cur_new _ _ _ _ _ HC.out, by simp, (Below.refl _ _).alloc (Nat.le_refl _) _⟩
    · go_wp2
      go_ret
      exact ⟨rfl, cur_new _ _ _ _ _ HC.out, by simp, (Below.refl _ _).alloc (Nat.le_refl _) _⟩

end Go.Proofs.Ytfnpkglijknnoaa

/-! WALKS: slices of strings: what they read as; the laws' own equality. -/

namespace Go.Proofs.Ytfnpkglijknnoaa
open Go.RowKit

/-- A slice's address and length read as the strings xs (whatever the address where there are none). -/
def Strs (w : World) (a : Option Addr) (xs : List ByteArray) : Prop := ∀ j, j < xs.length → ∃ b o, a = some ⟨b, o, none⟩ ∧ w.cell? ⟨b, o + j, none⟩ = some (.string (xs.getD j ByteArray.empty))

/-- A slice reads as the strings xs. -/
def StrRow (w : World) (b o : Nat) (xs : List ByteArray) : Prop := ∀ j, j < xs.length → w.cell? ⟨b, o + j, none⟩ = some (.string (xs.getD j ByteArray.empty))

theorem StrRow.strs {w : World} {b o : Nat} {xs : List ByteArray} (h : StrRow w b o xs) : Strs w (some ⟨b, o, none⟩) xs := fun j hj => ⟨b, o, rfl, h j hj⟩
theorem StrRow.of_block {w w' : World} {b o : Nat} {xs : List ByteArray} (h : StrRow w b o xs) (hb : w'.heap[b]? = w.heap[b]?) : StrRow w' b o xs := fun j hj => by
  rw [World.cell?_of_block (w := w) (w' := w') (a := ⟨b, o + j, none⟩) hb]; exact h j hj
theorem Strs.keeps {w w' : World} {a : Option Addr} {xs : List ByteArray} (h : Strs w a xs) (hb : Below w.heap.size w w') : Strs w' a xs := fun j hj => by
  obtain ⟨b, o, e, hc⟩ := h j hj
  exact ⟨b, o, e, by rw [hb.cell (p := ⟨b, o + j, none⟩) (World.block_lt_of_cell? w _ hc)]; exact hc⟩

end Go.Proofs.Ytfnpkglijknnoaa

/-! WALKS: picking one of a list of strings, one of a list of numbers. -/

namespace Go.Proofs.Ytfnpkglijknnoaa
open Go.RowKit

/-- A slice reads as the numbers zs. -/
def IntRow (w : World) (b o : Nat) (zs : List Int) : Prop := ∀ j, j < zs.length → w.cell? ⟨b, o + j, none⟩ = some (.int .i64 (zs.getD j 0))

set_option maxRecDepth 100000 in
theorem pick_any (B : Nat) (a : Option Addr) (n c : Nat) (hn : n ≤ 140737488355328) (b o cc : Nat) (xs : List ByteArray) (h0 : 0 < xs.length) (h1 : xs.length ≤ 4294967296) (w : World) (hc : Cur w B a n c) (hbB : b ≠ B) (hr : StrRow w b o xs) :
    Calls Try.prog 80 #[.pointer (some ⟨B, 0, none⟩), .slice (some ⟨b, o, none⟩) xs.length cc] w fun e w' => ∃ r : Nat, r < xs.length ∧ e = .returned (.string (xs.getD r ByteArray.empty)) ∧ Drew w w' B a n c := by
  have HC := Lib.hid hc
  have HR := Lib.hid hr
  clear hc hr
  go_enter Try.func80, Try.ntmps80
  go_wp2_with fail
  refine (below_any B a n c hn xs.length h0 h1 _ HC.out).mono ?_
  rintro e w1 ⟨r, hr, rfl, hd⟩
  have HD := Lib.hid hd
  have g0 := HR.out r hr
  have g : w1.cell? ⟨b, o + r, none⟩ = some (.string (xs.getD r ByteArray.empty)) := by rw [hd.2.cell_far ⟨b, o + r, none⟩ (World.block_lt_of_cell? w _ g0) (by simpa using hbB)]; exact g0
  clear hd g0
  generalize hx : xs.getD r ByteArray.empty = x at g
  have HX := Lib.hid hx
  clear hx
  go_wp2
  go_ret
  exact ⟨r, hr, by rw [HX.out]; rfl, HD.out⟩

set_option maxRecDepth 100000 in
theorem pickInt_any (B : Nat) (a : Option Addr) (n c : Nat) (hn : n ≤ 140737488355328) (b o cc : Nat) (zs : List Int) (h0 : 0 < zs.length) (h1 : zs.length ≤ 4294967296) (w : World) (hc : Cur w B a n c) (hbB : b ≠ B) (hr : IntRow w b o zs) :
    Calls Try.prog 47 #[.pointer (some ⟨B, 0, none⟩), .slice (some ⟨b, o, none⟩) zs.length cc] w fun e w' => ∃ r : Nat, r < zs.length ∧ e = .returned (.int .i64 (zs.getD r 0)) ∧ Drew w w' B a n c := by
  have HC := Lib.hid hc
  have HR := Lib.hid hr
  clear hc hr
  go_enter Try.func47, Try.ntmps47
  go_wp2_with fail
  refine (below_any B a n c hn zs.length h0 h1 _ HC.out).mono ?_
  rintro e w1 ⟨r, hr, rfl, hd⟩
  have HD := Lib.hid hd
  have g0 := HR.out r hr
  have g : w1.cell? ⟨b, o + r, none⟩ = some (.int .i64 (zs.getD r 0)) := by rw [hd.2.cell_far ⟨b, o + r, none⟩ (World.block_lt_of_cell? w _ g0) (by simpa using hbB)]; exact g0
  clear hd g0
  generalize hx : zs.getD r 0 = x at g
  have HX := Lib.hid hx
  clear hx
  go_wp2
  go_ret
  exact ⟨r, hr, by rw [HX.out]; rfl, HD.out⟩

theorem row_lit (w : World) (xs : List ByteArray) (t : TypeId) : StrRow (w.alloc (.cells (xs.map Value.string).toArray t)) w.heap.size 0 xs := fun j hj => by
  rw [Nat.zero_add, World.cell?_alloc_new, List.getElem?_toArray, List.getElem?_map, List.getD, List.getElem?_eq_getElem hj]; rfl
theorem row_ints (w : World) (zs : List Int) (t : TypeId) : IntRow (w.alloc (.cells (zs.map (Value.int .i64)).toArray t)) w.heap.size 0 zs := fun j hj => by
  rw [Nat.zero_add, World.cell?_alloc_new, List.getElem?_toArray, List.getElem?_map, List.getD, List.getElem?_eq_getElem hj]; rfl
theorem Cur.alloc {w : World} {B : Nat} {a : Option Addr} {n c : Nat} (h : Cur w B a n c) (hB : B < w.heap.size) (o : Obj) : Cur (w.alloc o) B a n c := by
  have hb := (Below.refl w.heap.size w).alloc (Nat.le_refl _) o
  have e := hb.block B hB
  refine ⟨(World.cell?_of_block (w := w) (a := ⟨B, 0, none⟩) e).trans h.c0, ?_, ?_, fun j => (World.frozen?_of_block (w := w) (a := ⟨B, j, none⟩) e).trans (h.fr j), h.bs.of_but (Mem.but_of_below hb _)⟩
  · obtain ⟨i, hi, hc⟩ := h.c1
    exact ⟨i, hi, (World.cell?_of_block (w := w) (a := ⟨B, 1, none⟩) e).trans hc⟩
  · obtain ⟨x, hc⟩ := h.c2
    exact ⟨x, (World.cell?_of_block (w := w) (a := ⟨B, 2, none⟩) e).trans hc⟩

theorem below_lit (B : Nat) (a : Option Addr) (n c : Nat) (hn : n ≤ 140737488355328) (k : Int) (m : Nat) (hk : k = (m : Int)) (hm : 0 < m) (hm2 : m ≤ 4294967296) (w : World) (hc : Cur w B a n c) :
    Calls Try.prog 66 #[.pointer (some ⟨B, 0, none⟩), .int .i64 k] w fun e w' => ∃ r : Nat, r < m ∧ e = .returned (.int .i64 (r : Int)) ∧ Drew w w' B a n c := by
  subst hk; exact below_any B a n c hn m hm hm2 w hc

end Go.Proofs.Ytfnpkglijknnoaa
