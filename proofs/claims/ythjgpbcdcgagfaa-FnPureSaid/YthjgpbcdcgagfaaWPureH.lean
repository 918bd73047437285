/-
  THE LAW ON PURE FUNCTIONS: its helpers: draws, boxes, contracts.
-/
import Derived.Test.YthjgpbcdcgagfaaJg23
import Derived.Test.YthjgpbcdcgagfaaJg27
import Derived.Test.YthjgpbcdcgagfaaJg30
import Derived.Test.YthjgpbcdcgagfaaJg5
import Derived.Test.YthjgpbcdcgagfaaJg34
import Derived.Test.YthjgpbcdcgagfaaJg35
namespace Go.Proofs.Ythjgpbcdcgagfaa
open Go.RowKit
open Sets Hom

set_option maxRecDepth 100000 in
set_option maxHeartbeats 2000000 in
theorem pdrawOrder_any (a : Option Addr) (n c : Nat) (hn : n ≤ 140737488355328) (w : World) (hc : Code w a n) :
    Calls Try.prog 31 #[.slice a n c] w fun e w' => ∃ v xs, e = .returned v ∧ xs.length ≤ 6 ∧ OwnInts w' w.heap.size v xs ∧ Below w.heap.size w w' := by
  have HC := Lib.hid hc
  clear hc
  go_enter Try.func31, Try.ntmps31
  go_wp2_with fail
  refine (new_any a n c hn _ HC.out).mono ?_
  rintro e w1 ⟨rfl, hcur, hz1, hb1⟩
  have K1 := Lib.hid hcur
  clear hcur
  go_wp2_with fail
  refine (l2Sets_any a n c hn w HC.out w.heap.size _ (Nat.le_refl _) hz1 hb1 K1.out).mono ?_
  rintro e w2 ⟨v, xs, rfl, hxl, hO, hb2⟩
  have HO := Lib.hid hO
  clear hO
  go_wp2
  go_ret
  exact ⟨v, xs, rfl, hxl, HO.out.lower (by omega), hb2⟩

set_option maxRecDepth 100000 in
set_option maxHeartbeats 4000000 in
theorem pdrawDual_any (a : Option Addr) (n c : Nat) (hn : n ≤ 140737488355328) (w : World) (hc : Code w a n) :
    Calls Try.prog 32 #[.slice a n c] w fun e w' => Drawn1 w e w' := by
  have hb0 : Below w.heap.size w (w.alloc (.cells #[.int .i64 0, .slice none 0 0] 26)) := (Below.refl _ _).alloc (Nat.le_refl _) _
  have HC0 := Lib.hid (hc.keeps hb0)
  have HB0 := Lib.hid hb0
  have HT0 := Lib.hid (Two.new w (.int .i64 0) (.slice none 0 0) 26)
  clear hc hb0
  go_enter Try.func32, Try.ntmps32
  go_wp2_with fail
  refine (new_any a n c hn _ HC0.out).mono ?_
  rintro e w1 ⟨rfl, hcur, hz1, hb1⟩
  simp only [World.size_alloc] at hcur hz1
  have K1 := Lib.hid hcur
  have B1 : Hid (Below w.heap.size w w1) := HB0.out.trans (hb1.mono (by simp))
  have T1 := Lib.hid (Two.keeps HT0.out hb1)
  clear hcur hb1 HC0 HB0 HT0
  go_wp2_with fail
  refine (l3Bent_any a n c hn (w.heap.size + 1) w1 hz1 K1.out).mono ?_
  rintro e w2 ⟨N, v, xs, rfl, hl, hO, hK, hG⟩
  obtain ⟨a5, c5, g5, rfl, hc5, hg5, hr5, _⟩ := OwnInts.ata hO hG.size
  have O2 := Lib.hid (OwnInts.lower hO (show w.heap.size + 1 ≤ w1.heap.size by omega))
  have B2 : Hid (Below w.heap.size w w2) := B1.out.trans (Mem.below_of_but hG (by omega) (by omega))
  obtain ⟨t0, t1, t2, t3, t4⟩ := Two.far T1.out hG (by omega)
  clear hO hK hG hr5 K1 T1 B1
  go_wp2
  refine ret_cx w.heap.size rfl rfl (x := .int .i64 N) (y := .slice a5 xs.length c5) (by go_simp) (by go_simp) rfl ?_
  exact ⟨N, _, xs, rfl, hl, (OwnInts.set (OwnInts.set O2.out _ _ _ (by omega)) _ _ _ (by omega)).lower (by omega), (B2.out.setCell (by simp) _).setCell (by simp) _⟩

set_option maxRecDepth 100000 in
set_option maxHeartbeats 2000000 in
theorem psameCx_any (n : Int) (a1 a2 : Option Addr) (c1 c2 l : Nat) (xs : List Int) (hl : xs.length = l) (hlen : l ≤ 1099511627776) (w : World) (h1 : Ints w a1 xs) (h2 : Ints w a2 xs) :
    Calls Try.prog 39 #[cx n (.slice a1 l c1), cx n (.slice a2 l c2)] w fun e w' => e = .returned (.bool true) ∧ Below w.heap.size w w' := by
  subst hl
  have H1 := Lib.hid h1
  have H2 := Lib.hid h2
  clear h1 h2
  go_enter Try.func39, Try.ntmps39
  go_wp2_with fail
  refine (sameInt_any _ _ _ _ xs hlen _ (H1.out.keeps (((Below.refl _ _).alloc (Nat.le_refl _) _).alloc (by simp) _)) (H2.out.keeps (((Below.refl _ _).alloc (Nat.le_refl _) _).alloc (by simp) _))).mono ?_
  rintro e w1 ⟨rfl, hb1⟩
  go_wp2
  go_ret
  exact ⟨rfl, (((Below.refl _ _).alloc (Nat.le_refl _) _).alloc (by simp) _).trans (hb1.mono (by simp; omega))⟩

theorem psameInt_any (a1 a2 : Option Addr) (c1 c2 l : Nat) (xs : List Int) (hl : xs.length = l) (hlen : l ≤ 1099511627776) (w : World) (h1 : Ints w a1 xs) (h2 : Ints w a2 xs) :
    Calls Try.prog 37 #[.slice a1 l c1, .slice a2 l c2] w fun e w' => e = .returned (.bool true) ∧ Below w.heap.size w w' := by
  subst hl; exact sameInt_any a1 a2 c1 c2 xs hlen w h1 h2
theorem ptext_any (n : Int) (a : Option Addr) (c l : Nat) (xs : List Int) (hl : xs.length = l) (hlen : l ≤ 1048576) (T : ByteArray) (hT : cxText n xs = T) (w : World) (h : Ints w a xs) :
    Calls Try.prog 33 #[cx n (.slice a l c)] w fun e w' => e = .returned (.string T) ∧ Below w.heap.size w w' := by
  subst hl hT; exact specCxText_any n a c xs hlen w h
theorem porderI_any (a : Option Addr) (c l : Nat) (xs : List Int) (hl : xs.length = l) (hlen : l ≤ 1099511627776) (L : List Int) (hL : order xs = L) (w : World) (h : Ints w a xs) :
    Calls Try.prog 34 #[.slice a l c] w fun e w' => ∃ v, e = .returned v ∧ OwnInts w' w.heap.size v L ∧ Below w.heap.size w w' := by
  subst hl hL; exact implOrder_any a c xs hlen w h
theorem porderS_any (a : Option Addr) (c l : Nat) (xs : List Int) (hl : xs.length = l) (hlen : l ≤ 1099511627776) (L : List Int) (hL : order xs = L) (w : World) (h : Ints w a xs) :
    Calls Try.prog 38 #[.slice a l c] w fun e w' => ∃ v, e = .returned v ∧ OwnInts w' w.heap.size v L ∧ Below w.heap.size w w' := by
  subst hl hL; exact specOrder_any a c xs hlen w h
theorem pdualI_any (n : Int) (a : Option Addr) (c l : Nat) (xs : List Int) (hl : xs.length = l) (hcap : l ≤ c) (hlen : l ≤ 1099511627776) (N : Int) (L : List Int) (B : Bool) (hN : oN (dualO n xs) = N) (hL : oL (dualO n xs) = L) (hB : (dualO n xs).isSome = B) (w : World) (h : Ints w a xs) :
    Calls Try.prog 35 #[cx n (.slice a l c)] w fun e w' => ∃ v, e = .returned (.tuple #[cx N v, .bool B]) ∧ OwnInts w' w.heap.size v L ∧ Below w.heap.size w w' := by
  subst hl hN hL hB; exact implDual_any n a c xs hcap hlen w h
theorem pdualS_any (n : Int) (a : Option Addr) (c l : Nat) (xs : List Int) (hl : xs.length = l) (hlen : l ≤ 1099511627776) (N : Int) (L : List Int) (B : Bool) (hN : oN (dualO n xs) = N) (hL : oL (dualO n xs) = L) (hB : (dualO n xs).isSome = B) (w : World) (h : Ints w a xs) :
    Calls Try.prog 36 #[cx n (.slice a l c)] w fun e w' => ∃ v, e = .returned (.tuple #[cx N v, .bool B]) ∧ OwnInts w' w.heap.size v L ∧ Below w.heap.size w w' := by
  subst hl hN hL hB; exact specDual_any n a c xs hlen w h
theorem pbordI_any (n : Int) (a : Option Addr) (c l : Nat) (xs : List Int) (hl : xs.length = l) (hcap : l ≤ c) (hlen : l ≤ 1099511627776) (k : Int) (B : Lin.Mat) (hB : bordZ n xs k = B) (w : World) (h : Ints w a xs) :
    Calls Try.prog 13 #[cx n (.slice a l c), .int .i64 k] w fun e w' => ∃ v, e = .returned v ∧ HasMx w' w.heap.size v B ∧ Below w.heap.size w w' := by
  subst hl hB; exact implBordMx_any n a c xs hcap hlen k w h
theorem pbordS_any (n : Int) (a : Option Addr) (c l : Nat) (xs : List Int) (hl : xs.length = l) (hlen : l ≤ 1099511627776) (k : Int) (B : Lin.Mat) (hB : bordZ n xs k = B) (w : World) (h : Ints w a xs) :
    Calls Try.prog 23 #[cx n (.slice a l c), .int .i64 k] w fun e w' => ∃ v, e = .returned v ∧ HasMx w' w.heap.size v B ∧ Below w.heap.size w w' := by
  subst hl hB; exact mx_has (specBordMx_any n a c xs hlen k w h)
theorem HasMx.pkeeps {w w' : World} {base : Nat} {v : Value} {M : Lin.Mat} (h : HasMx w base v M) (hb : Below w.heap.size w w') : HasMx w' base v M := by
  obtain ⟨ao, co, go, R, h1, h2, h3, h4⟩ := h
  have hs := hb.size
  exact ⟨ao, co, go, R, h1, fun h0 => by have := h2 h0; omega, fun g hg2 => by have := h3 g hg2; omega, h4.keeps hb⟩
theorem psameMx_any {b1 b2 : Nat} {v1 v2 : Value} {M : Lin.Mat} (hl : M.length ≤ 1099511627776) (ho : 1 + offM M M.length ≤ 1099511627776) (w : World) (h1 : HasMx w b1 v1 M) (h2 : HasMx w b2 v2 M) :
    Calls Try.prog 22 #[v1, v2] w fun e w' => e = .returned (.bool true) ∧ Below w.heap.size w w' := by
  obtain ⟨a1, c1, g1, R1, rfl, -, -, q1⟩ := h1; obtain ⟨a2, c2, g2, R2, rfl, -, -, q2⟩ := h2
  exact sameMx_any g1 g2 a1 a2 c1 c2 R1 R2 M hl (by omega) w q1 q2

theorem porderS_l (a : Option Addr) (c l : Nat) (xs : List Int) (hl : xs.length = l) (hlen : l ≤ 1099511627776) (L : List Int) (hL : order xs = L) (lA : Nat) (hA : L.length = lA) (w : World) (h : Ints w a xs) :
    Calls Try.prog 38 #[.slice a l c] w fun e w' => ∃ a' c', e = .returned (.slice a' lA c') ∧ Ints w' a' L ∧ Below w.heap.size w w' := by
  subst hA
  refine (porderS_any a c l xs hl hlen L hL w h).mono ?_
  rintro e w' ⟨v, rfl, hO, hb⟩
  obtain ⟨sa, sc, sg, rfl, _, _, hsp, _⟩ := OwnInts.ata hO hb.size
  exact ⟨_, _, rfl, hsp.ints, hb⟩
/-- The blocks from lo up to hi. -/
def spanL (lo hi : Nat) : List Nat := (List.range hi).filter fun g => decide (lo ≤ g)
theorem mem_span {lo hi g : Nat} : g ∈ spanL lo hi ↔ lo ≤ g ∧ g < hi := by
  unfold spanL
  rw [List.mem_filter, List.mem_range]
  simp only [decide_eq_true_eq]
  exact And.comm
theorem Two.ponly {w w' : World} {G : List Nat} {b : Nat} {x y : Value} (h : Two w b x y) (k : Only G w w') (hg : b ∉ G) : Two w' b x y := by
  obtain ⟨h0, h1, h2, h3, h4⟩ := h
  have hb := k.block b h0 hg
  exact ⟨Nat.lt_of_lt_of_le h0 k.size, by rw [World.cell?_of_block (w := w) hb]; exact h1, by rw [World.cell?_of_block (w := w) hb]; exact h2, by rw [World.frozen?_of_block (w := w) hb]; exact h3, by rw [World.frozen?_of_block (w := w) hb]; exact h4⟩
theorem Only.pbelow {w0 w w' : World} {lo hi : Nat} (h0 : Below w0.heap.size w0 w) (h : Only (spanL lo hi) w w') (hlo : w0.heap.size ≤ lo) : Below w0.heap.size w0 w' :=
  h0.trans (h.below (fun _ hg => Nat.le_trans hlo (mem_span.1 hg).1) h0.size)

/-- A region of a function's text. -/
def regAtP (n : Nat) : Go.Code → Option Go.Code
  | .region id ops d => if id = n then some (.region id ops d) else none
  | .seq a b => match regAtP n a with
    | some c => some c
    | none => regAtP n b
  | .cond _ a b => match regAtP n a with
    | some c => some c
    | none => regAtP n b
  | .block _ a => regAtP n a
  | .loop a => regAtP n a
  | _ => none

noncomputable def pureReg (n : Nat) : Go.Code := (Try.f4.body.bind (regAtP n)).getD .skip

end Go.Proofs.Ythjgpbcdcgagfaa
