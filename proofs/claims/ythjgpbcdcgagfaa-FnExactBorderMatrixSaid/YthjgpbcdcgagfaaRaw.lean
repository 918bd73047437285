/-
  WALKS: rows of rows of numbers that came in: what they read as; the laws' sizes and copies.
-/
import Derived.Test.YthjgpbcdcgagfaaJg13
import Derived.Test.YthjgpbcdcgagfaaJg1
namespace Go.Proofs.Ythjgpbcdcgagfaa
open Go.RowKit

/-- Rows of numbers, wherever they lie. -/
def Raw (w : World) (a : Option Addr) (M : Lin.Mat) : Prop := ∀ i, i < M.length → ∃ b o ai ci, a = some ⟨b, o, none⟩ ∧ w.cell? ⟨b, o + i, none⟩ = some (.slice ai (Lin.row M i).length ci) ∧ Ints w ai (Lin.row M i)
theorem Raw.keeps {w w' : World} {a : Option Addr} {M : Lin.Mat} (h : Raw w a M) (hb : Below w.heap.size w w') : Raw w' a M := fun i hi => by
  obtain ⟨b, o, ai, ci, e, hc, hI⟩ := h i hi
  exact ⟨b, o, ai, ci, e, by rw [hb.cell (p := ⟨b, o + i, none⟩) (World.block_lt_of_cell? w _ hc)]; exact hc, hI.keeps hb⟩
theorem Mx.raw {w : World} {go : Nat} {ao : Option Addr} {R : List (Nat × Nat)} {M : Lin.Mat} (h : Mx w go ao R M) : Raw w ao M := fun i hi => by
  obtain ⟨e, _, hc, _⟩ := h.out i hi
  exact ⟨go, 0, _, _, e, by rw [Nat.zero_add]; exact hc, (h.rows i hi).2.ints⟩

theorem two_only {w w' : World} {b : Nat} {x y : Value} {G : List Nat} (h : Two w b x y) (k : Only G w w') (hb : b ∉ G) : Two w' b x y := by
  obtain ⟨h1, h2, h3, h4, h5⟩ := h
  have e := k.block b h1 hb
  exact ⟨Nat.lt_of_lt_of_le h1 k.size, by rw [World.cell?_of_block (w := w) e]; exact h2, by rw [World.cell?_of_block (w := w) e]; exact h3, by rw [World.frozen?_of_block (w := w) e]; exact h4, by rw [World.frozen?_of_block (w := w) e]; exact h5⟩

set_option maxRecDepth 100000 in
set_option maxHeartbeats 2000000 in
theorem szMx_any (a : Option Addr) (c : Nat) (M : Lin.Mat) (left : Nat) (z : Int) (hz : z = (left : Int)) (hl : left ≤ 1048576) (hlen : M.length ≤ 9223372036854775807) (hrow : ∀ i, i < M.length → (Lin.row M i).length ≤ 9223372036854775807) (w : World) (h : Raw w a M) :
    Calls Try.prog 47 #[.slice a M.length c, .int .i64 z] w fun e w' => ((M.length + offM M M.length ≤ left ∧ e = .returned (.int .i64 ((left - (M.length + offM M M.length) : Nat) : Int))) ∨ (¬(M.length + offM M M.length ≤ left) ∧ e = .returned (.int .i64 (-1)))) ∧ w = w' := by
  subst hz
  have H := Lib.hid h
  have HR := Lib.hid hrow
  have HNX := Lib.hid (offM_next M)
  have HLE := Lib.hid (offM_le M)
  have HF0 : Hid (offM M 0 = 0) := offM_zero M
  obtain ⟨m, hm⟩ : ∃ m, M.length = m := ⟨_, rfl⟩
  have HM := Lib.hid hm
  rw [hm] at HR HNX HLE hlen ⊢
  obtain ⟨F, hF⟩ : ∃ F : Nat → Nat, offM M = F := ⟨_, rfl⟩
  rw [hF] at HNX HLE HF0 ⊢
  clear h hrow hm hF
  by_cases h0 : m ≤ left
  · go_enter Try.func47, Try.ntmps47
    go_wp2
    go_loopw [1, 5] (fun kv i wr => ∃ j : Nat, j ≤ m ∧ i = .int .i64 (j : Int) ∧ m + F j ≤ left ∧ kv = .int .i64 ((left - (m + F j) : Nat) : Int) ∧ wr = w) (fun _ i _ => m - (intOf i).toNat)
    case atStart => exact ⟨0, Nat.zero_le _, rfl, by rw [HF0.out]; omega, by rw [HF0.out]; simp; omega, rfl⟩
    case round =>
      obtain ⟨j, hj, rfl, hle, rfl, rfl⟩ := hrel
      by_cases hlt : j < m
      · have hd : decide ((j : Int) < (m : Int)) = true := by simpa using hlt
        obtain ⟨b, o, ai, ci, rfl, hc, -⟩ := H.out j (by rw [HM.out]; exact hlt)
        have hrj := HR.out j hlt
        have hnx := HNX.out j hlt
        have hlf := HLE.out (j + 1)
        have HCL := Lib.hid (fun W => szInt_any ai ci (Lin.row M j) (left - (m + F j)) (by omega) hrj W)
        obtain ⟨n, hn⟩ : ∃ n, (Lin.row M j).length = n := ⟨_, rfl⟩
        rw [hn] at hc hnx
        simp only [hn] at HCL
        obtain ⟨u, hu⟩ : ∃ u, left - (m + F j) = u := ⟨_, rfl⟩
        simp only [hu] at HCL
        rw [hu]
        have HU := Lib.hid hu
        have hul : u ≤ 1048576 := by omega
        clear hn hu hrj
        by_cases hle2 : n ≤ u
        · simp only [if_pos hle2] at HCL
          have HE : Hid ((u : Int) - (n : Int) = ((left - (m + F (j + 1)) : Nat) : Int)) := by
            have : (u : Int) - (n : Int) = ((left - (m + F (j + 1)) : Nat) : Int) := by have := HU.out; omega
            exact this
          have HG : Hid (m + F (j + 1) ≤ left) := by
            have : m + F (j + 1) ≤ left := by have := HU.out; omega
            exact this
          have hng : decide ((u : Int) - (n : Int) < 0) = false := decide_eq_false (by omega)
          clear hnx hlf hle
          go_wp2_with fail
          refine (HCL.out _).mono ?_
          rintro e w1 ⟨rfl, rfl⟩
          go_wp2
          go_roundw
          case rel => exact ⟨j + 1, by omega, by go_num, HG.out, by rw [HE.out], by first | rfl | trivial⟩
          case measure => simp [intOf]; omega
        · simp only [if_neg hle2] at HCL
          have HN : Hid (¬(m + F m ≤ left)) := by
            have : ¬(m + F m ≤ left) := by have := HU.out; omega
            exact this
          clear hnx hlf hle
          go_wp2_with fail
          refine (HCL.out _).mono ?_
          rintro e w1 ⟨rfl, rfl⟩
          go_wp2
          go_ret
          exact ⟨.inr ⟨HN.out, rfl⟩, rfl⟩
      · have hd : decide ((j : Int) < (m : Int)) = false := by simpa using hlt
        have hjm : j = m := by omega
        have HG : Hid (m + F m ≤ left) := by
          have : m + F m ≤ left := by rw [← hjm]; rw [hjm] at hle ⊢; exact hle
          exact this
        subst hjm
        clear hle
        go_wp2
        go_ret
        exact ⟨.inl ⟨HG.out, rfl⟩, rfl⟩
  · have hlt : decide ((left : Int) - (m : Int) < 0) = true := decide_eq_true (by omega)
    go_enter Try.func47, Try.ntmps47
    go_wp2
    go_ret
    exact ⟨.inr ⟨by omega, rfl⟩, rfl⟩

/-- The first i rows of a copy are there. -/
structure Fill (w : World) (base go : Nat) (R : List (Nat × Nat)) (M : Lin.Mat) (i : Nat) : Prop where
  len : R.length = i
  nodup : (blks R).Nodup
  out : ∀ j, j < i → w.cell? ⟨go, j, none⟩ = some (.slice (some ⟨blk R j, 0, none⟩) (Lin.row M j).length (room R j))
  any : ∀ j, j < M.length → (∃ u, w.cell? ⟨go, j, none⟩ = some u) ∧ w.frozen? ⟨go, j, none⟩ = false
  gl : base ≤ go ∧ go < w.heap.size
  rows : ∀ j, j < i → base ≤ blk R j ∧ blk R j < w.heap.size ∧ IntsAt w (blk R j) (some ⟨blk R j, 0, none⟩) (Lin.row M j)
  apart : go ∉ blks R

theorem Fill.next {w w1 : World} {base go : Nat} {R : List (Nat × Nat)} {M : Lin.Mat} {i : Nat} (h : Fill w base go R M i) (hi : i < M.length) (hb : Below w.heap.size w w1) {g c : Nat} (hg : w.heap.size ≤ g) (hlt : g < w1.heap.size) (hbase : base ≤ w.heap.size) (hr : IntsAt w1 g (some ⟨g, 0, none⟩) (Lin.row M i)) :
    Fill (w1.setCell ⟨go, i, none⟩ (.slice (some ⟨g, 0, none⟩) (Lin.row M i).length c)) base go (R ++ [(g, c)]) M (i + 1) := by
  have hgl := h.gl
  have hne : g ≠ go := by omega
  have hc0 : ∀ j, w1.cell? ⟨go, j, none⟩ = w.cell? ⟨go, j, none⟩ := fun j => hb.cell (p := ⟨go, j, none⟩) hgl.2
  have hf0 : ∀ j, w1.frozen? ⟨go, j, none⟩ = w.frozen? ⟨go, j, none⟩ := fun j => hb.frozen (p := ⟨go, j, none⟩) hgl.2
  have hon : Only [go] w1 (w1.setCell ⟨go, i, none⟩ (.slice (some ⟨g, 0, none⟩) (Lin.row M i).length c)) := Only.set _ _ _ (by simp) _
  have hold : ∀ z, z ∈ blks R → z < w.heap.size := fun z hz => by
    obtain ⟨j, hj, rfl⟩ := blk_of_mem hz
    exact (h.rows j (by rw [← h.len]; exact hj)).2.1
  have hbl : blks (R ++ [(g, c)]) = blks R ++ [g] := by simp [blks]
  refine ⟨by rw [List.length_append, h.len]; rfl, ?_, fun j hj => ?_, fun j hj => ?_, ⟨hgl.1, by have := hb.size; simp [World.setCell]; omega⟩, fun j hj => ?_, ?_⟩
  · rw [hbl, List.nodup_append]
    exact ⟨h.nodup, by simp, fun x hx y hy e => by rw [List.mem_singleton] at hy; have := hold x hx; omega⟩
  · by_cases e : j = i
    · subst e
      obtain ⟨⟨u, hu⟩, -⟩ := h.any j hi
      rw [World.cell?_setCell_same _ _ _ (by rw [hc0]; exact hu)]
      simp only [blk, room]
      rw [← h.len, blk_last]
    · rw [World.cell?_setCell_other _ _ _ _ (fun e2 => e (by have := congrArg Addr.off e2; simpa using this.symm)), hc0]
      simp only [blk, room]
      rw [blk_left _ (by rw [h.len]; omega)]
      exact h.out j (by omega)
  · obtain ⟨⟨u, hu⟩, hf⟩ := h.any j hj
    refine ⟨?_, by rw [World.frozen?_setCell, hf0]; exact hf⟩
    by_cases e : j = i
    · subst e; exact ⟨_, World.cell?_setCell_same _ _ _ (by rw [hc0]; exact hu)⟩
    · exact ⟨u, by rw [World.cell?_setCell_other _ _ _ _ (fun e2 => e (by have := congrArg Addr.off e2; simpa using this.symm)), hc0]; exact hu⟩
  · by_cases e : j = i
    · subst e
      simp only [blk]
      rw [← h.len, blk_last, h.len]
      exact ⟨by omega, by simpa [World.setCell] using hlt, hr.only hon (by rw [List.mem_singleton]; exact hne)⟩
    · have hj2 : j < i := by omega
      obtain ⟨q1, q2, q3⟩ := h.rows j hj2
      simp only [blk] at q1 q2 q3 ⊢
      rw [blk_left _ (by rw [h.len]; omega)]
      refine ⟨q1, Nat.lt_of_lt_of_le (Nat.lt_of_lt_of_le q2 hb.size) hon.size, (q3.keeps hb).only hon ?_⟩
      rw [List.mem_singleton]
      intro e2
      exact h.apart (by rw [← e2]; exact blk_mem (R := R) (by rw [h.len]; exact hj2))
  · rw [hbl, List.mem_append, List.mem_singleton]
    rintro (hm | e)
    · exact h.apart hm
    · exact hne e.symm

set_option maxRecDepth 100000 in
set_option maxHeartbeats 2000000 in
theorem toMx_any (a : Option Addr) (c : Nat) (M : Lin.Mat) (hlen : M.length ≤ 1048576) (hrow : ∀ i, i < M.length → (Lin.row M i).length ≤ 1048576) (w : World) (h : Raw w a M) :
    Calls Try.prog 48 #[.slice a M.length c] w fun e w' => ∃ v, e = .returned v ∧ HasMx w' w.heap.size v M ∧ Below w.heap.size w w' := by
  obtain ⟨i9, hi9, hz90, hz91, hz92⟩ := info_parts info_row
  have H := Lib.hid h
  have HR := Lib.hid hrow
  obtain ⟨m, hm⟩ : ∃ m, M.length = m := ⟨_, rfl⟩
  have HM := Lib.hid hm
  rw [hm] at HR hlen ⊢
  clear h hrow hm
  go_enter Try.func48, Try.ntmps48
  go_wp2_with (at_make; refine wpList_make_full _ rfl _ _ 29 rfl w.heap.size 24 i9 (.slice none 0 0) 1 Try.underlying29 hi9 hz90 hz91 _ _ _ _ m rfl rfl rfl rfl ?c1 ?c2 ?c3 ?_)
  case c1 => rw [hz92]; omega
  case c2 => unfold maxLen; omega
  case c3 => exact Nat.le_refl _
  intro w1 hown hgrow
  have hB1 := Mem.below_of_none hgrow
  have hF1 : Fill w1 w.heap.size w.heap.size [] M 0 := ⟨rfl, by simp, fun j hj => absurd hj (Nat.not_lt_zero _), fun j hj => ⟨by rw [hown.cellAt j (by rw [HM.out] at hj; omega)]; exact ⟨_, List.getElem?_eq_getElem (by rw [hown.1]; rw [HM.out] at hj; omega)⟩, hown.frozenAt j⟩, ⟨Nat.le_refl _, (hown.lt w.heap.size rfl).2⟩, fun j hj => absurd hj (Nat.not_lt_zero _), by simp⟩
  have HB1 := Lib.hid hB1
  have HF1 := Lib.hid hF1
  clear hown hgrow hB1 hF1
  go_wp2
  go_loopw [4] (fun i wr => ∃ (k : Nat) (R : List (Nat × Nat)), k ≤ m ∧ i = .int .i64 (k : Int) ∧ Fill wr w.heap.size w.heap.size R M k ∧ Below w.heap.size w wr) (fun i _ => m - (intOf i).toNat)
  case atStart => exact ⟨0, [], Nat.zero_le _, rfl, HF1.out, HB1.out⟩
  case round =>
    clear HB1 HF1
    obtain ⟨k, R, hk, rfl, hF, hB⟩ := hrel
    have HF := Lib.hid hF
    have HB := Lib.hid hB
    have hsz := hB.size
    clear hF hB
    by_cases hlt : k < m
    · have hd : decide ((k : Int) < (m : Int)) = true := by simpa using hlt
      obtain ⟨b, o, ai, ci, rfl, hc, hI⟩ := (H.out.keeps HB.out) k (by rw [HM.out]; exact hlt)
      have HCL := Lib.hid (toInt_any ai ci (Lin.row M k) (HR.out k hlt) wr hI)
      have HNX := Lib.hid (fun (w1 : World) (hb : Below wr.heap.size wr w1) (hl : wr.heap.size < w1.heap.size) (hr : IntsAt w1 wr.heap.size (some ⟨wr.heap.size, 0, none⟩) (Lin.row M k)) => HF.out.next (by rw [HM.out]; exact hlt) hb (c := (Lin.row M k).length) (Nat.le_refl _) hl hsz hr)
      have HAN := Lib.hid (HF.out.any k (by rw [HM.out]; exact hlt))
      have hgl := HF.out.gl
      obtain ⟨r, hr⟩ : ∃ r, Lin.row M k = r := ⟨_, rfl⟩
      rw [hr] at hc HCL HNX
      obtain ⟨n, hn⟩ : ∃ n, r.length = n := ⟨_, rfl⟩
      rw [hn] at hc HCL
      simp only [hn] at HNX
      clear hI hr hn
      go_wp2_with fail
      refine HCL.out.mono ?_
      rintro e w2 ⟨rfl, hl2, hI2, hb2⟩
      have HF2 := Lib.hid (HNX.out w2 hb2 hl2 hI2)
      have HB2 := Lib.hid ((HB.out.trans (hb2.mono hsz)).setCell (p := ⟨w.heap.size, k, none⟩) (Nat.le_refl _) (.slice (some ⟨wr.heap.size, 0, none⟩) n n))
      obtain ⟨⟨u, hu⟩, hf⟩ := HAN.out
      have hu2 : w2.cell? ⟨w.heap.size, k, none⟩ = some u := by rw [hb2.cell (p := ⟨w.heap.size, k, none⟩) hgl.2]; exact hu
      have hf2 : w2.frozen? ⟨w.heap.size, k, none⟩ = false := by rw [hb2.frozen (p := ⟨w.heap.size, k, none⟩) hgl.2]; exact hf
      clear hu hf hI2 hb2 HCL HNX HAN hc
      go_wp2
      go_roundw
      case rel => exact ⟨k + 1, _, by omega, by go_num, HF2.out, HB2.out⟩
      case measure => simp [intOf]; omega
    · have hd : decide ((k : Int) < (m : Int)) = false := by simpa using hlt
      have hkm : k = m := by omega
      have HH : Hid (HasMx wr w.heap.size (.slice (some ⟨w.heap.size, 0, none⟩) m m) M) := by
        have : HasMx wr w.heap.size (.slice (some ⟨w.heap.size, 0, none⟩) m m) M := by
          have hF := HF.out
          rw [hkm] at hF
          refine ⟨some ⟨w.heap.size, 0, none⟩, m, w.heap.size, R, by rw [HM.out], fun _ => hF.gl, fun g hg => ?_, ⟨by rw [hF.len, HM.out], hF.nodup, fun i hi => ⟨rfl, hF.gl.2, hF.out i (by rw [← HM.out]; exact hi), (hF.any i hi).2⟩, fun i hi => (hF.rows i (by rw [← HM.out]; exact hi)).2, hF.apart⟩⟩
          obtain ⟨j, hj, rfl⟩ := blk_of_mem hg
          have := hF.rows j (by rw [← hF.len]; exact hj)
          exact ⟨this.1, this.2.1⟩
        exact this
      go_wp2
      go_ret
      exact ⟨_, rfl, HH.out, HB.out⟩

end Go.Proofs.Ythjgpbcdcgagfaa
