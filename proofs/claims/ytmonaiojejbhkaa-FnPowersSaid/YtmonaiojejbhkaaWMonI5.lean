/-
  WALKS: impl's chapter 12: lists of exponents in descending order, what is made of each (copies).
-/
import Derived.Test.YtmonaiojejbhkaaJg36
import Derived.Test.YtmonaiojejbhkaaJg37
import Derived.Test.YtmonaiojejbhkaaJg12
namespace Go.Proofs.Ytmonaiojejbhkaa
open Go.RowKit
open Sets Hn Kk Mon

theorem OwnMx.only {w w' : World} {G : List Nat} {base : Nat} {v : Value} {R : List (Nat × Nat)} {M : Lin.Mat} (h : OwnMx w base v R M) (k : Only G w w') (hv : ∀ g, v.ownBlock = some g → g ∉ G) (hr : ∀ g, g ∈ blks R → g ∉ G) : OwnMx w' base v R M := by
  refine ⟨⟨h.own.1, ?_⟩, h.len, h.nodup, fun i hi => ?_, h.apart⟩
  · rcases h.own.2 with h0 | ⟨g, cap, cur, hv', h1, hh, hr'⟩
    · exact .inl h0
    · refine .inr ⟨g, cap, cur, hv', h1, ?_, hr'⟩
      have hlt : g < w.heap.size := by
        rcases Nat.lt_or_ge g w.heap.size with hl | hl
        · exact hl
        · rw [Array.getElem?_eq_none hl] at hh; cases hh
      rw [k.block g hlt (hv g (by rw [hv']; rfl))]; exact hh
  · obtain ⟨h1, h2, h3⟩ := h.rows i hi
    exact ⟨h1, Nat.lt_of_lt_of_le h2 k.size, h3.only k (hr _ (blk_mem (by rw [h.len]; exact hi)))⟩

/-- One row in a new block. -/
theorem OwnMx.one (w : World) (base g c : Nat) (r : List Int) (hb : base ≤ g) (hg : g < w.heap.size) (h : IntsAt w g (some ⟨g, 0, none⟩) r) :
    OwnMx (w.alloc (.cells #[.slice (some ⟨g, 0, none⟩) r.length c] 26)) base (.slice (some ⟨w.heap.size, 0, none⟩) 1 1) [(g, c)] [r] := by
  have hbw : Below w.heap.size w (w.alloc (.cells #[.slice (some ⟨g, 0, none⟩) r.length c] 26)) := (Below.refl _ _).alloc (Nat.le_refl _) _
  refine ⟨?_, rfl, by simp, fun i hi => ?_, fun z hz => ?_⟩
  · have h1 := World.ownsRow_lit (base := base) (e := 26) (size := 1) w #[.slice (some ⟨g, 0, none⟩) r.length c] 1 (by omega) (by unfold maxLen; omega) (by simp)
    simpa [vals, blk, room, Lin.row] using h1
  · have hi0 : i = 0 := by simpa using hi
    subst hi0
    exact ⟨hb, by rw [World.size_alloc]; simp [blk]; omega, h.keeps hbw⟩
  · simp only [Value.ownBlock, Option.some.injEq] at hz
    subst hz
    simp [blks]; omega

def lenV : Value → Nat
  | .slice _ n _ => n
  | _ => 0

theorem OwnMx.lenV {w : World} {base : Nat} {v : Value} {R : List (Nat × Nat)} {M : Lin.Mat} (h : OwnMx w base v R M) : lenV v = M.length := by
  obtain ⟨go, ao, co, rfl, _⟩ := h.mx
  rfl

theorem fillR_chain (N D : Nat) (hN : N < 6) (hD : D < 6) : chainB (fillR N D) = true := chain_all ⟨N, hN⟩ ⟨D, hD⟩
theorem fillR_first (N D : Nat) (hN : N < 6) (hD : D < 6) : (fillR N D).getD 0 [] = (List.replicate (N + 1) (0 : Int)).set 0 (D : Int) := first_all ⟨N, hN⟩ ⟨D, hD⟩
theorem fillR_le (N D : Nat) (hN : N < 6) (hD : D < 6) : (fillR N D).length ≤ 252 ∧ 1 ≤ (fillR N D).length := fillR_few ⟨N, hN⟩ ⟨D, hD⟩
theorem fillR_at (N D k : Nat) (hk : k < (fillR N D).length) : (Lin.row (fillR N D) k).length = N + 1 ∧ ∀ j, j < N + 1 → 0 ≤ (Lin.row (fillR N D) k).getD j 0 ∧ (Lin.row (fillR N D) k).getD j 0 ≤ (D : Int) := by
  have hm : Lin.row (fillR N D) k ∈ fillR N D := by
    unfold Lin.row
    rw [List.getD, List.getElem?_eq_getElem hk]
    exact List.getElem_mem hk
  obtain ⟨h1, _, h3⟩ := fillR_row N D _ hm
  refine ⟨h1, fun j hj => h3 _ ?_⟩
  rw [List.getD, List.getElem?_eq_getElem (by omega)]
  exact List.getElem_mem _

theorem clone_l (a : Option Addr) (c l : Nat) (xs : List Int) (hl : xs.length = l) (h6 : l ≤ 6) (w : World) (h : Ints w a xs) :
    Calls Try.prog 43 #[.slice a l c] w fun e w' => ∃ v, e = .returned v ∧ OwnInts w' w.heap.size v xs ∧ Below w.heap.size w w' := by
  subst hl; exact cloneH_any a c xs (by omega) w h

set_option maxRecDepth 100000 in
set_option maxHeartbeats 4000000 in
theorem fromExp_any (N D : Nat) (hN : N < 6) (hD : D < 6) (zn zd : Int) (hzn : zn = ((N + 1 : Nat) : Int)) (hzd : zd = (D : Int)) (w : World) :
    Calls Try.prog 42 #[.int .i64 zn, .int .i64 zd, .func (.func 43) #[] #[]] w fun e w' => ∃ v R, e = .returned v ∧ OwnMx w' w.heap.size v R (fillR N D) ∧ Below w.heap.size w w' := by
  obtain ⟨i0, hi, hz0, hz1, hz2⟩ := info_parts info_int
  obtain ⟨i9, hi9, hz90, hz91, hz92⟩ := info_parts info_row
  subst hzn hzd
  have eg : ∀ args w, (callFunc 43 args).run Try.prog w = .ok (.enter 43 args) w := enters_of Try.func43 (by kernel_rfl) rfl
  have HCH := Lib.hid (fillR_chain N D hN hD)
  have HFI := Lib.hid (fillR_first N D hN hD)
  have HLE := Lib.hid (fillR_le N D hN hD)
  have HAT := Lib.hid (fillR_at N D)
  obtain ⟨M, hM⟩ : ∃ M : Lin.Mat, fillR N D = M := ⟨_, rfl⟩
  obtain ⟨n, hn⟩ : ∃ n, N + 1 = n := ⟨_, rfl⟩
  rw [hM] at HCH HFI HLE HAT ⊢
  rw [hn] at HFI HAT ⊢
  have hn1 : 1 ≤ n := by omega
  have hn6 : n ≤ 6 := by omega
  obtain ⟨B, hB⟩ : ∃ B, w.heap.size = B := ⟨_, rfl⟩
  have HBE := Lib.hid hB
  clear hM hn
  rw [hB]
  clear hB
  go_enter Try.func42, Try.ntmps42
  go_wp2_with (at_make; refine wpList_make_full _ rfl _ _ 26 rfl w.heap.size 3 i0 (.int .i64 0) 1 Try.underlying26 hi hz0 hz1 _ _ _ _ n rfl rfl rfl rfl ?c1 ?c2 ?c3 ?_)
  case c1 => rw [hz2]; omega
  case c2 => unfold maxLen; omega
  case c3 => exact Nat.le_refl _
  intro w2 hown hgrow
  have hO2 : OwnInts w2 w.heap.size (.slice (some ⟨w.heap.size, 0, none⟩) n n) (List.replicate n 0) := by
    have : w2.ownsRow w.heap.size 3 1 (.slice (some ⟨w.heap.size, 0, none⟩) n n) n ((List.replicate n (0 : Int)).map (Value.int .i64)) := by
      rw [List.map_replicate, ← toList_madeCells_one]
      simpa using hown
    unfold OwnInts
    rw [List.length_replicate]
    exact this
  obtain ⟨-, hgs, hI2, -⟩ := hO2.known
  have hB2 : Below w.heap.size w w2 := Mem.below_of_none hgrow
  rw [HBE.out] at hgs hI2 hB2 ⊢
  obtain ⟨-, -, c0, f0⟩ := hI2 0 (by rw [List.length_replicate]; omega)
  have hS := IntsAt.setOwn hI2 0 (D : Int)
  have hB3 := hB2.setCell (p := ⟨B, 0, none⟩) (Nat.le_refl _) (.int .i64 (D : Int))
  have HS : Hid (IntsAt (w2.setCell ⟨B, 0, none⟩ (.int .i64 (D : Int))) B (some ⟨B, 0, none⟩) (Lin.row M 0)) := by
    have : IntsAt (w2.setCell ⟨B, 0, none⟩ (.int .i64 (D : Int))) B (some ⟨B, 0, none⟩) (Lin.row M 0) := by
      unfold Lin.row; rw [HFI.out]; exact hS
    exact this
  have HB3 := Lib.hid hB3
  have c0 : w2.cell? ⟨B, 0, none⟩ = some (.int .i64 0) := by
    rw [c0]; cases n with
    | zero => omega
    | succ m => rfl
  clear hown hgrow hO2 hI2 hB2 hS hB3
  have hM1 := HLE.out.2
  have hM2 := HLE.out.1
  have HCL0 := Lib.hid (clone_l (some ⟨B, 0, none⟩) n n (Lin.row M 0) (HAT.out 0 hM1).1 (by omega) _ HS.out.ints)
  have HRL0 := Lib.hid (HAT.out 0 hM1).1
  go_wp2_with (go_at_fn 43; refine HCL0.out.mono ?_; rintro e w4 ⟨v4, rfl, hO4, hb4⟩; obtain ⟨g4, c4, rfl, -⟩ := hO4.form (by rw [HRL0.out]; omega))
  obtain ⟨q1, q2, q3, -⟩ := OwnInts.known hO4
  have hs3 : (w2.setCell ⟨B, 0, none⟩ (.int .i64 (D : Int))).heap.size = w2.heap.size := by simp
  rw [hs3] at q1
  have hb5 : Below w4.heap.size w4 (w4.alloc (.cells #[.slice (some ⟨g4, 0, none⟩) (Lin.row M 0).length c4] 26)) := (Below.refl _ _).alloc (Nat.le_refl _) _
  have HM0 := Lib.hid (OwnMx.one w4 B g4 c4 (Lin.row M 0) (by omega) q2 q3)
  have HL0 := Lib.hid ((HS.out.keeps hb4).keeps hb5)
  have hs4 := hb4.size
  rw [hs3] at hs4
  have HB5 : Hid (Below B w (w4.alloc (.cells #[.slice (some ⟨g4, 0, none⟩) (Lin.row M 0).length c4] 26))) := (HB3.out.trans (hb4.mono (by omega))).alloc (by omega) _
  have hg4 : g4 ≠ B := by omega
  have hB4 : B < w4.heap.size := by omega
  clear hO4 q1 q2 q3 hs3 hb4 hb5 HS HB3 HCL0 HFI
  go_loopw [8] (fun v wr => ∃ (k : Nat) (R : List (Nat × Nat)), k < M.length ∧ OwnMx wr B v R (M.take (k + 1)) ∧ IntsAt wr B (some ⟨B, 0, none⟩) (Lin.row M k) ∧ B ∉ blks R ∧ v.ownBlock ≠ some B ∧ Below B w wr ∧ B < wr.heap.size) (fun v _ => M.length + 1 - lenV v)
  case atStart =>
    refine ⟨0, [(g4, c4)], hM1, ?_, HL0.out, by simp [blks]; omega, by simp [Value.ownBlock]; omega, HB5.out, by simp; omega⟩
    have e : M.take 1 = [Lin.row M 0] := by
      cases hM : M with
      | nil => rw [hM] at hM1; simp at hM1
      | cons r T => rfl
    rw [show 0 + 1 = 1 from rfl, e]
    exact HM0.out
  case round =>
    clear HM0 HL0 HB5 HRL0 hB4 hg4 hs4
    obtain ⟨k, R, hk, hO, hI, hR, hv, hB, hbs⟩ := hrel
    have HLV := Lib.hid hO.lenV
    have HO := Lib.hid hO
    have HI := Lib.hid hI
    have HR := Lib.hid hR
    have HV := Lib.hid hv
    have HB := Lib.hid hB
    have hat := HAT.out k hk
    have HLK := Lib.hid (lowExp_any B n n (Lin.row M k) hat.1 hn1 hn6 (fun j hj => ⟨(hat.2 j hj).1, by have := (hat.2 j hj).2; omega⟩) wr hI)
    clear hO hI hR hv hB hat
    go_wp2_with fail
    refine HLK.out.mono ?_
    rintro e w1 (⟨K, hK, rfl, hI1, hO1⟩ | ⟨hK, rfl, hO1⟩)
    · have hkm : k + 1 < M.length := by
        rcases Nat.lt_or_ge (k + 1) M.length with h | h
        · exact h
        · have := chain_last M k HCH.out (by omega)
          unfold Lin.row at hK
          rw [hK] at this; cases this
      have hKe : K = Lin.row M (k + 1) := by
        have := chain_next M k HCH.out hkm
        unfold Lin.row at hK ⊢
        rw [hK] at this
        exact Option.some.inj this
      subst hKe
      have hOE := HO.out.only hO1 (fun g hg hm => HV.out (by rw [hg]; simp at hm; rw [hm])) (fun g hg hm => HR.out (by simp at hm; rw [← hm]; exact hg))
      have hs1 := hO1.size
      have HOE := Lib.hid hOE
      have HI1 := Lib.hid hI1
      have HB1 := Lib.hid (HB.out.trans (hO1.below (B := B) (fun g hg => by simp at hg; omega) (by omega)))
      have HRL1 := Lib.hid (HAT.out (k + 1) hkm).1
      have HCL1 := Lib.hid (clone_l (some ⟨B, 0, none⟩) n n (Lin.row M (k + 1)) HRL1.out (by omega) _ hI1.ints)
      have HTK : Hid (M.take (k + 1 + 1) = M.take (k + 1) ++ [Lin.row M (k + 1)]) := by
        have : M.take (k + 1 + 1) = M.take (k + 1) ++ [Lin.row M (k + 1)] := by
          rw [List.take_add_one, List.getElem?_eq_getElem hkm]
          unfold Lin.row
          rw [List.getD, List.getElem?_eq_getElem hkm]
          rfl
        exact this
      have HTL : Hid ((M.take (k + 1)).length = k + 1) := by
        have : (M.take (k + 1)).length = k + 1 := by rw [List.length_take]; omega
        exact this
      obtain ⟨T, hT⟩ : ∃ T, M.take (k + 1) = T := ⟨_, rfl⟩
      rw [hT] at HOE HTK HTL
      have htl := HTL.out
      clear hT
      clear hK hO1 hOE HLK hI1 HO HI HB
      go_wp2_with (first
        | (go_at_fn 43; refine HCL1.out.mono ?_; rintro e w5 ⟨v5, rfl, hO5, hb5⟩; obtain ⟨g5, c5, rfl, -⟩ := hO5.form (by rw [HRL1.out]; omega); have HO5 := Lib.hid hO5; have HB5 := Lib.hid hb5; have HOW := Lib.hid (HOE.out.keeps hb5).own; clear hO5 hb5)
        | (at_builtin; refine wpList_append_own_at _ rfl _ _ 28 rfl B 26 i9 (.slice none 0 0) 1 24 Try.underlying28 hi9 hz90 hz91 hz92 rfl (by decide) _ _ _ rfl (HOW.out.alloc _) ⟨w5.heap.size, 0, none⟩ 1 1 [.slice (some ⟨g5, 0, none⟩) (Lin.row M (k + 1)).length c5] rfl rfl ?c1 ?c2 ?c3 ?c4 ?c5 ?_))
      case c1 => intro j u hj; exact Mem.cell_new w5 _ _ j u hj
      case c2 => intro u hu; simp at hu; subst hu; rfl
      case c3 => unfold maxLen; omega
      case c4 => omega
      case c5 => have := HB5.out.size; simp; omega
      intro v' w6 hown1 hgrow _ hob
      obtain ⟨p1, p2, p3, -⟩ := OwnInts.known HO5.out
      have hs5 := HB5.out.size
      have hbw1 : B ≤ w1.heap.size := by omega
      have hBA : Below w5.heap.size w5 (w5.alloc (.cells #[.slice (some ⟨g5, 0, none⟩) (Lin.row M (k + 1)).length c5] 26)) := (Below.refl _ _).alloc (Nat.le_refl _) _
      have hO5' := HOE.out.keeps HB5.out
      have hob2 : v'.ownBlock = u8.ownBlock ∨ ∃ z, v'.ownBlock = some z ∧ (w5.alloc (.cells #[.slice (some ⟨g5, 0, none⟩) (Lin.row M (k + 1)).length c5] 26)).heap.size ≤ z := by
        rcases hob with e | e
        · exact .inl e
        · exact .inr ⟨_, e, by first | exact Nat.le_refl _ | (rw [World.size_alloc]; exact Nat.le_refl _)⟩
      have hgR : g5 ∉ blks R := fun h => by have := (HOE.out.old h).2; omega
      have hO6 : OwnMx w6 B v' (R ++ [(g5, c5)]) (M.take (k + 1 + 1)) := by
        rw [HTK.out]
        refine OwnMx.next (hO5'.keeps hBA) (by omega) (by simp; omega) (p3.keeps hBA) hgR ?_ ?_ hgrow hob2
        · exact fun e => by have := (HOE.out.own.lt g5 e).2; omega
        · rw [HTL.out]; exact hown1
      have hI6 : IntsAt w6 B (some ⟨B, 0, none⟩) (Lin.row M (k + 1)) := ((HI1.out.keeps HB5.out).keeps hBA).only (only_grown hgrow) (not_toList HV.out)
      have hR6 : B ∉ blks (R ++ [(g5, c5)]) := by
        rw [show blks (R ++ [(g5, c5)]) = blks R ++ [g5] by simp [blks], List.mem_append, List.mem_singleton]
        rintro (h | h)
        · exact HR.out h
        · omega
      have hV6 : v'.ownBlock ≠ some B := by
        rcases hob2 with e | ⟨z, e, hz⟩
        · rw [e]; exact HV.out
        · rw [e]; simp at hz ⊢; omega
      have hB6 : Below B w w6 := by
        refine ((HB1.out.trans (HB5.out.mono hbw1)).trans (hBA.mono (by omega))).trans ((only_grown hgrow).below (fun g hg => ?_) (by simp; omega))
        have hg' : u8.ownBlock = some g := by simpa using hg
        exact (HOE.out.own.lt g hg').1
      have hlv := hO6.lenV
      rw [List.length_take, Nat.min_eq_left (by omega)] at hlv
      have hs6 : B < w6.heap.size := by have := hgrow.size; simp at this; omega
      have HO6 := Lib.hid hO6
      have HI6 := Lib.hid hI6
      have HR6 := Lib.hid hR6
      have HV6 := Lib.hid hV6
      have HB6 := Lib.hid hB6
      have HLV6 := Lib.hid hlv
      clear hown1 hgrow hob hob2 p1 p2 p3 hO5' hgR hO6 hI6 hR6 hV6 hB6 hBA hlv HCL1
      go_wp2
      go_roundw
      case rel => exact ⟨k + 1, _, hkm, HO6.out, HI6.out, HR6.out, HV6.out, HB6.out, hs6⟩
      case measure => rw [HLV6.out, HLV.out, List.length_take, Nat.min_eq_left (by omega)]; omega
    · have hkm : k + 1 = M.length := by
        rcases Nat.lt_or_ge (k + 1) M.length with h | h
        · have := chain_next M k HCH.out h
          unfold Lin.row at hK
          rw [hK] at this; cases this
        · omega
      have hOE : OwnMx w1 B u8 R M := by
        have h := HO.out.only hO1 (fun g hg hm => HV.out (by rw [hg]; simp at hm; rw [hm])) (fun g hg hm => HR.out (by simp at hm; rw [← hm]; exact hg))
        rw [List.take_of_length_le (by omega)] at h
        exact h
      have HOE := Lib.hid hOE
      clear hkm
      have HBE2 := Lib.hid (HB.out.trans (hO1.below (B := B) (fun g hg => by simp at hg; omega) (by omega)))
      clear hK hO1 hOE HLK
      go_wp2
      go_ret
      exact ⟨_, _, rfl, HOE.out, HBE2.out⟩

end Go.Proofs.Ytmonaiojejbhkaa
