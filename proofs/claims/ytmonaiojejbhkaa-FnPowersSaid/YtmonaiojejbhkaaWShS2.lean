/-
  WALKS: spec's shellings: a shelling is completed (l19Find).
-/
import Derived.Test.YtmonaiojejbhkaaJg8
import Derived.Test.YtmonaiojejbhkaaJg11
import Derived.Test.YtmonaiojejbhkaaJg12
import Derived.Deep.RegionHeld3
import Derived.Deep.AppendLies
namespace Go.Proofs.Ytmonaiojejbhkaa
open Go.RowKit
open Sets Hn Kk Sh

theorem sub_fsets {F L : List Int} (hF : FSets F) (h : ∀ x, x ∈ L → x ∈ F) : FSets L := fun j hj => by
  have hm : L.getD j 0 ∈ L := by rw [List.getD, List.getElem?_eq_getElem hj]; exact List.getElem_mem hj
  obtain ⟨i, hi, e⟩ := List.getElem_of_mem (h _ hm)
  obtain ⟨b, e2, hb⟩ := hF i hi
  rw [List.getD, List.getElem?_eq_getElem hi] at e2
  exact ⟨b, by rw [← e, ← e2]; rfl, hb⟩

/-- What the search hands back. -/
def FindPost (F : List Int) (base : Nat) (w : World) (e : Ending) (w' : World) : Prop :=
  ∃ (a : Option Addr) (n c : Nat) (b : Bool), e = .returned (.tuple #[.slice a n c, .bool b]) ∧ (b = true → Shell F) ∧ Below base w w'

set_option maxRecDepth 100000 in
set_option maxHeartbeats 8000000 in
theorem l19Find_any (F : List Int) (N : Nat) (hN : F.length = N) (hNs : N ≤ 8) (hF : FSets F) : ∀ (f : Nat) (H : List Int) (l : Nat), H.length = l → l + f = N → H.Nodup → (∀ x, x ∈ H → x ∈ F) → shellB H = true →
    ∀ (fb fo c d : Nat) (a2 : Option Addr) (w : World), Ints w (some ⟨fb, fo, none⟩) F → Ints w a2 H →
    Calls Try.prog 78 #[.slice (some ⟨fb, fo, none⟩) N c, .slice a2 l d] w (FindPost F w.heap.size w)
  | 0, H, l, hl, hf, hn, hs, hsh, fb, fo, c, d, a2, w, hFm, hHm => by
    subst hl
    obtain rfl : N = H.length := by omega
    have HS : Hid (Shell F) := by
      have : Shell F := ⟨H, by omega, hn, hs, hsh⟩
      exact this
    clear hFm hHm hn hs hsh
    go_enter Try.func78, Try.ntmps78
    go_wp2
    go_ret2
    exact ⟨_, _, _, true, rfl, fun _ => HS.out, Below.refl _ _⟩
  | f + 1, H, l, hl, hf, hn, hs, hsh, fb, fo, c, d, a2, w, hFm, hHm => by
    subst hl
    obtain ⟨i0, hi, hz0, hz1, hz2⟩ := info_parts info_int
    have IH := Lib.hid (l19Find_any F N hN hNs hF f)
    have HFM := Lib.hid hFm
    have HHM := Lib.hid hHm
    have HN := Lib.hid hN
    have HFS := Lib.hid hF
    have HHS := Lib.hid (sub_fsets hF hs)
    have HND := Lib.hid hn
    have HSB := Lib.hid hs
    have HSH := Lib.hid hsh
    have hne : ((H.length : Int) == (N : Int)) = false := by rw [beq_eq_false_iff_ne]; omega
    have hl8 : H.length < 8 := by omega
    have HF1 := Lib.hid hf
    clear hFm hHm hN hF hn hs hsh hf
    go_enter Try.func78, Try.ntmps78
    go_wp2
    go_loopw [6] (fun i wr => ∃ k : Nat, k ≤ N ∧ i = .int .i64 (k : Int) ∧ Below w.heap.size w wr) (fun i _ => N - (intOf i).toNat)
    case atStart => exact ⟨0, Nat.zero_le _, rfl, Below.refl _ _⟩
    case round =>
      obtain ⟨k, hk, rfl, hB⟩ := hrel
      have HB := Lib.hid hB
      have hsz := hB.size
      clear hB
      by_cases hlt : k < N
      · have hd : decide ((k : Int) < (N : Int)) = true := by simpa using hlt
        obtain ⟨fb1, fo1, e1, g⟩ := (HFM.out.keeps HB.out) k (by rw [HN.out]; exact hlt)
        injection e1 with e1
        injection e1 with e1 e2
        subst e1 e2
        obtain ⟨s, hs, hs64⟩ := HFS.out k (by rw [HN.out]; exact hlt)
        have HMEM : Hid ((s : Int) ∈ F) := by
          have : (s : Int) ∈ F := by
            rw [← hs, List.getD, List.getElem?_eq_getElem (by rw [HN.out]; exact hlt)]
            exact List.getElem_mem _
          exact this
        rw [hs] at g
        have HHW := Lib.hid (HHM.out.keeps HB.out)
        have hk0 : (0 : Int) ≤ (k : Int) := by omega
        have hkN : (k : Int) < (N : Int) := by omega
        clear hs
        cases hc : H.contains (s : Int) with
        | true =>
          have HC := Lib.hid (l2HasS_any a2 d H H.length rfl (by omega) (s : Int) true hc wr HHW.out)
          clear hc
          go_wp2_with fail
          refine HC.out.mono ?_
          rintro e w' ⟨rfl, rfl⟩
          go_wp2
          go_roundw
          case rel => exact ⟨k + 1, by omega, by go_num, HB.out⟩
          case measure => simp [intOf]; omega
        | false =>
          have HC := Lib.hid (l2HasS_any a2 d H H.length rfl (by omega) (s : Int) false hc wr HHW.out)
          have HNC := Lib.hid hc
          clear hc
          cases hq : fitsB H s with
          | false =>
            have HQ := Lib.hid (l19Fits_any a2 d H H.length rfl (by omega) HHS.out s hs64 false hq wr HHW.out)
            clear hq
            go_wp2_with fail
            refine HC.out.mono ?_
            rintro e w' ⟨rfl, rfl⟩
            go_wp2_with fail
            refine HQ.out.mono ?_
            rintro e w' ⟨rfl, rfl⟩
            go_wp2
            go_roundw
            case rel => exact ⟨k + 1, by omega, by go_num, HB.out⟩
            case measure => simp [intOf]; omega
          | true =>
            have HQ := Lib.hid (l19Fits_any a2 d H H.length rfl (by omega) HHS.out s hs64 true hq wr HHW.out)
            have hND2 : (H ++ [(s : Int)]).Nodup := by
              rw [List.nodup_append]
              refine ⟨HND.out, by simp, fun x hx y hy e => ?_⟩
              rw [List.mem_singleton] at hy
              have := HNC.out
              rw [← Bool.not_eq_true, List.contains_iff_mem] at this
              exact this (by rw [← hy, ← e]; exact hx)
            have hSB2 : ∀ x, x ∈ H ++ [(s : Int)] → x ∈ F := fun x hx => by
              rcases List.mem_append.1 hx with hx | hx
              · exact HSB.out x hx
              · rw [List.mem_singleton.1 hx]; exact HMEM.out
            have hSH2 : shellB (H ++ [(s : Int)]) = true := by rw [shellB_snoc, HSH.out, Int.toNat_natCast, hq]; rfl
            have HFW := Lib.hid (HFM.out.keeps HB.out)
            have hln : (H ++ [(s : Int)]).length = H.length + 1 := by rw [List.length_append]; rfl
            obtain ⟨m, hm⟩ : ∃ m, (H ++ [(s : Int)]).length = m := ⟨_, rfl⟩
            have HM := Lib.hid hm
            have hml : m = H.length + 1 := by omega
            have HREC : Hid (∀ (W : World) (a9 : Option Addr) (c9 : Nat), Below wr.heap.size wr W → Ints W a9 (H ++ [(s : Int)]) → Calls Try.prog 78 #[.slice (some ⟨fb, fo, none⟩) N c, .slice a9 m c9] W (FindPost F W.heap.size W)) := by
              have : ∀ (W : World) (a9 : Option Addr) (c9 : Nat), Below wr.heap.size wr W → Ints W a9 (H ++ [(s : Int)]) → Calls Try.prog 78 #[.slice (some ⟨fb, fo, none⟩) N c, .slice a9 m c9] W (FindPost F W.heap.size W) := fun W a9 c9 hW hI9 =>
                IH.out (H ++ [(s : Int)]) m hm (by have := HF1.out; omega) hND2 hSB2 hSH2 fb fo c c9 a9 W (HFW.out.keeps hW) hI9
              exact this
            have KP : ∀ w', Below wr.heap.size wr w' → w'.cell? ⟨fb, fo + k, none⟩ = some (.int .i64 (s : Int)) ∧ Below wr.heap.size wr w' := fun w' hw => ⟨by rw [hw.cell (p := ⟨fb, fo + k, none⟩) (World.block_lt_of_cell? wr _ g)]; exact g, hw⟩
            have HKP := Lib.hid KP
            have b0 : Below wr.heap.size wr wr := Below.refl _ _
            have HD0 := Lib.hid b0.drew
            have bA : Below wr.heap.size wr (wr.alloc (.cells #[] 3)) := b0.alloc (Nat.le_refl _) _
            have bB : Below wr.heap.size wr (wr.alloc (.cells #[.int .i64 (s : Int)] 3)) := b0.alloc (Nat.le_refl _) _
            have bAB : Below wr.heap.size wr ((wr.alloc (.cells #[] 3)).alloc (.cells #[.int .i64 (s : Int)] 3)) := bA.alloc (by simp) _
            have bBA : Below wr.heap.size wr ((wr.alloc (.cells #[.int .i64 (s : Int)] 3)).alloc (.cells #[] 3)) := bB.alloc (by simp) _
            have HBA := Lib.hid bA.drew
            have HBB := Lib.hid bB.drew
            have HBAB := Lib.hid bAB.drew
            have HBBA := Lib.hid bBA.drew
            have oA := OwnInts.lit wr wr.heap.size [] (Nat.le_refl _) (by simp)
            have oAB := oA.keeps ((Below.refl _ _).alloc (Nat.le_refl _) (.cells #[.int .i64 (s : Int)] 3))
            have oBA := OwnInts.lit (wr.alloc (.cells #[.int .i64 (s : Int)] 3)) wr.heap.size [] (by simp) (by simp)
            have iB : ∀ (W : World) (w' : World), (W.alloc (.cells #[.int .i64 (s : Int)] 3)).heap.size ≤ w'.heap.size → (∀ b, b = W.heap.size → w'.heap[b]? = (W.alloc (.cells #[.int .i64 (s : Int)] 3)).heap[b]?) → Ints w' (some ⟨W.heap.size, 0, none⟩) [(s : Int)] := fun W w' _ hb j hj => by
              have hj0 : j = 0 := by simpa using hj
              subst hj0
              refine ⟨W.heap.size, 0, rfl, ?_⟩
              rw [World.cell?_of_block (w := W.alloc (.cells #[.int .i64 (s : Int)] 3)) (hb _ rfl)]
              exact Mem.cell_new W [.int .i64 (s : Int)] 3 0 _ rfl
            have HIB := Lib.hid iB
            have HOA : Hid ((wr.alloc (.cells #[] 3)).ownsRow wr.heap.size 3 1 (.slice (some ⟨wr.heap.size, 0, none⟩) 0 0) 0 []) := Lib.hid oA
            have HOAB : Hid (((wr.alloc (.cells #[] 3)).alloc (.cells #[.int .i64 (s : Int)] 3)).ownsRow wr.heap.size 3 1 (.slice (some ⟨wr.heap.size, 0, none⟩) 0 0) 0 []) := Lib.hid oAB
            have HOBA : Hid (((wr.alloc (.cells #[.int .i64 (s : Int)] 3)).alloc (.cells #[] 3)).ownsRow wr.heap.size 3 1 (.slice (some ⟨wr.heap.size + 1, 0, none⟩) 0 0) 0 []) := Lib.hid (by have h := oBA; rw [World.size_alloc] at h; exact h)
            have HHA := Lib.hid HHW.out
            clear hq KP b0 bA bB bAB bBA oA oAB oBA iB hND2 hSB2 hSH2 hm hln hml
            go_wp2_with fail
            refine HC.out.mono ?_
            rintro e w' ⟨rfl, rfl⟩
            go_wp2_with fail
            refine HQ.out.mono ?_
            rintro e w' ⟨rfl, rfl⟩
            go_wp2_with fail
            refine wp_region_noPanic ?_
            refine wp_region_held_drew (S := (fun w' => w'.cell? ⟨fb, fo + k, none⟩ = some (.int .i64 (s : Int)) ∧ Below wr.heap.size wr w')) (by kernel_rfl) ?_ (fun hHeld => ?_)
            · exact HKP.out _ HD0.out
            refine wpAnyH_take (i := 0) (oi := ⟨_, _, _, _, _, _⟩) (v := ?vv1) rfl (by kernel_rfl) (by kernel_rfl) (by kernel_rfl) (fun _ _ _ h => h) (Or.inl ⟨by rfl, ?hy1⟩) (by assumption) ?_
            case hy1 => (intro w hSw; (try dsimp only at hSw); go_simp; try (with_reducible rfl))
            try simp only [Act.put, List.setIfInBounds_toArray, List.set_cons_zero, List.set_cons_succ]
            refine wpAnyH_take (i := 2) (oi := ⟨_, _, _, _, _, _⟩) (v := ?vv2) rfl (by kernel_rfl) (by kernel_rfl) (by kernel_rfl) (fun _ _ _ h => h) (Or.inl ⟨by rfl, ?hy2⟩) (by assumption) ?_
            case hy2 => (intro w hSw; (try dsimp only at hSw); go_simp; try (with_reducible rfl))
            try simp only [Act.put, List.setIfInBounds_toArray, List.set_cons_zero, List.set_cons_succ]
            refine wpAnyH_take (i := 4) (oi := ⟨_, _, _, _, _, _⟩) (v := ?vv3) rfl (by kernel_rfl) (by kernel_rfl) (by kernel_rfl) (fun _ _ _ h => h) (Or.inl ⟨by rfl, ?hy3⟩) (by assumption) ?_
            case hy3 => (intro w hSw; (try dsimp only at hSw); go_simp; try (with_reducible rfl))
            try simp only [Act.put, List.setIfInBounds_toArray, List.set_cons_zero, List.set_cons_succ]
            refine wpAnyH_take (i := 5) (oi := ⟨_, _, _, _, _, _⟩) (v := ?vv4) rfl (by kernel_rfl) (by kernel_rfl) (by kernel_rfl) (fun _ _ _ h => h) (Or.inl ⟨by rfl, ?hy4⟩) (by assumption) ?_
            case hy4 => (intro w hSw; (try dsimp only at hSw); go_simp; try (with_reducible rfl))
            try simp only [Act.put, List.setIfInBounds_toArray, List.set_cons_zero, List.set_cons_succ]
            refine wpAnyH_take (i := 6) (oi := ⟨_, _, _, _, _, _⟩) (v := ?vv5) rfl (by kernel_rfl) (by kernel_rfl) (by kernel_rfl) (fun _ _ _ h => h) (Or.inl ⟨by rfl, ?hy5⟩) (by assumption) ?_
            case hy5 => (intro w hSw; (try dsimp only at hSw); go_simp; try (with_reducible rfl))
            try simp only [Act.put, List.setIfInBounds_toArray, List.set_cons_zero, List.set_cons_succ]
            refine wpAnyH_take (i := 7) (oi := ⟨_, _, _, _, _, _⟩) (v := ?vv6) rfl (by kernel_rfl) (by kernel_rfl) (by kernel_rfl) (fun _ _ _ h => h) (Or.inl ⟨by rfl, ?hy6⟩) (by assumption) ?_
            case hy6 => (intro w hSw; (try dsimp only at hSw); go_simp; try (with_reducible rfl))
            try simp only [Act.put, List.setIfInBounds_toArray, List.set_cons_zero, List.set_cons_succ]
            refine wpAnyH_ready (rs := [1, 8]) (by kernel_rfl) (by simp) (AllReadyH.cons (o := ⟨_, _, _, _, _, _⟩) rfl (fun K9 hK9 => ?_) (AllReadyH.cons (o := ⟨_, _, _, _, _, _⟩) rfl (fun K9 hK9 => ?_) AllReadyH.nil))
            · go_simp
              refine hK9.out _ _ ?_ (fun hHeld => ?_)
              · exact HKP.out _ HBA.out
              clear hK9 K9
              try simp only [Act.put, List.setIfInBounds_toArray, List.set_cons_zero, List.set_cons_succ]
              refine wpAnyH_ready (rs := [3, 8]) (by kernel_rfl) (by simp) (AllReadyH.cons (o := ⟨_, _, _, _, _, _⟩) rfl (fun K9 hK9 => ?_) (AllReadyH.cons (o := ⟨_, _, _, _, _, _⟩) rfl (fun K9 hK9 => ?_) AllReadyH.nil))
              · skip
                refine step_append_srcS _ (by rfl) _ _ _ (by rfl) wr.heap.size 3 i0 (.int .i64 0) Try.underlying26 hi hz0 hz1 hz2 rfl _ 0 [] (by rfl) HOA.out.drew a2 d H (by rfl) (HHA.out.keeps HBA.out) (by unfold maxLen; omega) (by omega) (by simp <;> omega) ?_
                intro v3 w3 hown3 hgrow3
                have hb3 : Below wr.heap.size wr w3 := HBA.out.grown hgrow3 (by simp <;> omega) (fun g hg => (HOA.out.lt g hg).1)
                have HO3 : Hid (w3.ownsRow wr.heap.size 3 1 v3 H.length (H.map (Value.int .i64))) := Lib.hid (by have h := hown3; rw [Nat.zero_add, List.nil_append] at h; exact h)
                have HB3 := Lib.hid hb3
                clear hown3 hgrow3 hb3
                refine hK9.out _ _ ?_ (fun hHeld => ?_)
                · exact HKP.out _ HB3.out
                clear hK9 K9
                try simp only [Act.put, List.setIfInBounds_toArray, List.set_cons_zero, List.set_cons_succ]
                refine wpAnyH_ready (rs := [8]) (by kernel_rfl) (by simp) (AllReadyH.cons (o := ⟨_, _, _, _, _, _⟩) rfl (fun K9 hK9 => ?_) AllReadyH.nil)
                go_simp
                refine hK9.out _ _ ?_ (fun hHeld => ?_)
                · exact HKP.out _ (HB3.out.alloc HB3.out.size _)
                clear hK9 K9
                try simp only [Act.put, List.setIfInBounds_toArray, List.set_cons_zero, List.set_cons_succ]
                refine wpAnyH_ready (rs := [9]) (by kernel_rfl) (by simp) (AllReadyH.cons (o := ⟨_, _, _, _, _, _⟩) rfl (fun K9 hK9 => ?_) AllReadyH.nil)
                refine step_append_srcS _ (by rfl) _ _ _ (by rfl) wr.heap.size 3 i0 (.int .i64 0) Try.underlying26 hi hz0 hz1 hz2 rfl v3 H.length _ (by rfl) (HO3.out.alloc _) _ 1 [(s : Int)] (by rfl) (HIB.out w3 _ (Nat.le_refl _) (fun _ _ => rfl)) (by unfold maxLen; simp; omega) (by simp; omega) (by have := HB3.out.size; simp; omega) ?_
                intro v4 w4 hown4 hgrow4
                have hb4 : Below wr.heap.size wr w4 := (HB3.out.alloc HB3.out.size _).grown hgrow4 (by have := HB3.out.size; simp; omega) (fun g hg => (HO3.out.lt g hg).1)
                have hO4 : OwnInts w4 wr.heap.size v4 (H ++ [(s : Int)]) := (by unfold OwnInts; rw [List.length_append, List.map_append]; exact hown4)
                obtain ⟨a4, c4, g4, e4, -, hI4⟩ := hO4.at
                rw [HM.out] at e4
                subst e4
                have HI4 := Lib.hid hI4.ints
                have HB4 := Lib.hid hb4
                clear hown4 hgrow4 hb4 hO4 hI4
                refine hK9.out _ _ ?_ (fun hHeld => ?_)
                · exact HKP.out _ HB4.out
                clear hK9 K9
                try simp only [Act.put, List.setIfInBounds_toArray, List.set_cons_zero, List.set_cons_succ]
                refine wpAnyH_ready (rs := [10]) (by kernel_rfl) (by simp) (AllReadyH.cons (o := ⟨_, _, _, _, _, _⟩) rfl (fun K9 hK9 => ?_) AllReadyH.nil)
                go_simp
                go_at_call 78
                refine (HREC.out _ a4 c4 HB4.out HI4.out).mono ?_
                rintro e w5 ⟨a5, n5, c5, b5, rfl, hsh5, hb5⟩
                have HS5 := Lib.hid hsh5
                have HB5 : Hid (Below wr.heap.size wr w5) := Lib.hid (HB4.out.trans (hb5.mono HB4.out.size))
                clear hsh5 hb5
                refine hK9.out _ _ ?_ (fun hHeld => ?_)
                · exact HKP.out _ HB5.out
                clear hK9 K9
                try simp only [Act.put, List.setIfInBounds_toArray, List.set_cons_zero, List.set_cons_succ]
                refine wpAnyH_take (i := 11) (oi := ⟨_, _, _, _, _, _⟩) (v := ?vv7) rfl (by kernel_rfl) (by kernel_rfl) (by kernel_rfl) (fun _ _ _ h => h) (Or.inl ⟨by rfl, ?hy7⟩) (by assumption) ?_
                case hy7 => (intro w hSw; (try dsimp only at hSw); go_simp; try (with_reducible rfl))
                try simp only [Act.put, List.setIfInBounds_toArray, List.set_cons_zero, List.set_cons_succ]
                refine wpAnyH_take (i := 12) (oi := ⟨_, _, _, _, _, _⟩) (v := ?vv8) rfl (by kernel_rfl) (by kernel_rfl) (by kernel_rfl) (fun _ _ _ h => h) (Or.inl ⟨by rfl, ?hy8⟩) (by assumption) ?_
                case hy8 => (intro w hSw; (try dsimp only at hSw); go_simp; try (with_reducible rfl))
                try simp only [Act.put, List.setIfInBounds_toArray, List.set_cons_zero, List.set_cons_succ]
                refine wpAnyH_take (i := 13) (oi := ⟨_, _, _, _, _, _⟩) (v := ?vv9) rfl (by kernel_rfl) (by kernel_rfl) (by kernel_rfl) (fun _ _ _ h => h) (Or.inl ⟨by rfl, ?hy9⟩) (by assumption) ?_
                case hy9 => (intro w hSw; (try dsimp only at hSw); go_simp; try (with_reducible rfl))
                try simp only [Act.put, List.setIfInBounds_toArray, List.set_cons_zero, List.set_cons_succ]
                refine wpAnyH_take (i := 14) (oi := ⟨_, _, _, _, _, _⟩) (v := ?vv10) rfl (by kernel_rfl) (by kernel_rfl) (by kernel_rfl) (fun _ _ _ h => h) (Or.inl ⟨by rfl, ?hy10⟩) (by assumption) ?_
                case hy10 => (intro w hSw; (try dsimp only at hSw); go_simp; try (with_reducible rfl))
                try simp only [Act.put, List.setIfInBounds_toArray, List.set_cons_zero, List.set_cons_succ]
                refine wpAnyH_take (i := 15) (oi := ⟨_, _, _, _, _, _⟩) (v := ?vv11) rfl (by kernel_rfl) (by kernel_rfl) (by kernel_rfl) (fun _ _ _ h => h) (Or.inl ⟨by rfl, ?hy11⟩) (by assumption) ?_
                case hy11 => (intro w hSw; (try dsimp only at hSw); go_simp; try (with_reducible rfl))
                try simp only [Act.put, List.setIfInBounds_toArray, List.set_cons_zero, List.set_cons_succ]
                refine wpAnyH_done (by kernel_rfl) ?_ _
                refine NoPanic.normal ?_
                have HBW := Lib.hid (HB.out.trans (HB5.out.mono hsz))
                clear hHeld
                cases b5 with
                | true =>
                  go_wp2
                  go_ret2
                  exact ⟨_, _, _, true, rfl, fun _ => HS5.out (by first | rfl | trivial), HBW.out⟩
                | false =>
                  go_wp2
                  go_roundw
                  case rel => exact ⟨k + 1, by omega, by go_num, HBW.out⟩
                  case measure => simp [intOf]; omega
              · go_simp
                refine hK9.out _ _ ?_ (fun hHeld => ?_)
                · exact HKP.out _ HBAB.out
                clear hK9 K9
                try simp only [Act.put, List.setIfInBounds_toArray, List.set_cons_zero, List.set_cons_succ]
                refine wpAnyH_ready (rs := [3]) (by kernel_rfl) (by simp) (AllReadyH.cons (o := ⟨_, _, _, _, _, _⟩) rfl (fun K9 hK9 => ?_) AllReadyH.nil)
                refine step_append_srcS _ (by rfl) _ _ _ (by rfl) wr.heap.size 3 i0 (.int .i64 0) Try.underlying26 hi hz0 hz1 hz2 rfl _ 0 [] (by rfl) HOAB.out.drew a2 d H (by rfl) (HHA.out.keeps HBAB.out) (by unfold maxLen; omega) (by omega) (by simp <;> omega) ?_
                intro v3 w3 hown3 hgrow3
                have hb3 : Below wr.heap.size wr w3 := HBAB.out.grown hgrow3 (by simp <;> omega) (fun g hg => (HOAB.out.lt g hg).1)
                have HO3 : Hid (w3.ownsRow wr.heap.size 3 1 v3 H.length (H.map (Value.int .i64))) := Lib.hid (by have h := hown3; rw [Nat.zero_add, List.nil_append] at h; exact h)
                have HB3 := Lib.hid hb3
                have ib3 := HIB.out (wr.alloc (.cells #[] 3)) w3 hgrow3.size (fun b hb => hgrow3.block b (by rw [hb]; simp) (by rw [hb]; simp [Value.ownBlock]))
                rw [World.size_alloc] at ib3
                have IB3 := Lib.hid ib3
                clear ib3
                clear hown3 hgrow3 hb3
                refine hK9.out _ _ ?_ (fun hHeld => ?_)
                · exact HKP.out _ HB3.out
                clear hK9 K9
                try simp only [Act.put, List.setIfInBounds_toArray, List.set_cons_zero, List.set_cons_succ]
                refine wpAnyH_ready (rs := [9]) (by kernel_rfl) (by simp) (AllReadyH.cons (o := ⟨_, _, _, _, _, _⟩) rfl (fun K9 hK9 => ?_) AllReadyH.nil)
                refine step_append_srcS _ (by rfl) _ _ _ (by rfl) wr.heap.size 3 i0 (.int .i64 0) Try.underlying26 hi hz0 hz1 hz2 rfl v3 H.length _ (by rfl) HO3.out _ 1 [(s : Int)] (by rfl) IB3.out (by unfold maxLen; simp; omega) (by simp; omega) HB3.out.size ?_
                intro v4 w4 hown4 hgrow4
                have hb4 : Below wr.heap.size wr w4 := HB3.out.grown hgrow4 HB3.out.size (fun g hg => (HO3.out.lt g hg).1)
                have hO4 : OwnInts w4 wr.heap.size v4 (H ++ [(s : Int)]) := (by unfold OwnInts; rw [List.length_append, List.map_append]; exact hown4)
                obtain ⟨a4, c4, g4, e4, -, hI4⟩ := hO4.at
                rw [HM.out] at e4
                subst e4
                have HI4 := Lib.hid hI4.ints
                have HB4 := Lib.hid hb4
                clear hown4 hgrow4 hb4 hO4 hI4
                refine hK9.out _ _ ?_ (fun hHeld => ?_)
                · exact HKP.out _ HB4.out
                clear hK9 K9
                try simp only [Act.put, List.setIfInBounds_toArray, List.set_cons_zero, List.set_cons_succ]
                refine wpAnyH_ready (rs := [10]) (by kernel_rfl) (by simp) (AllReadyH.cons (o := ⟨_, _, _, _, _, _⟩) rfl (fun K9 hK9 => ?_) AllReadyH.nil)
                go_simp
                go_at_call 78
                refine (HREC.out _ a4 c4 HB4.out HI4.out).mono ?_
                rintro e w5 ⟨a5, n5, c5, b5, rfl, hsh5, hb5⟩
                have HS5 := Lib.hid hsh5
                have HB5 : Hid (Below wr.heap.size wr w5) := Lib.hid (HB4.out.trans (hb5.mono HB4.out.size))
                clear hsh5 hb5
                refine hK9.out _ _ ?_ (fun hHeld => ?_)
                · exact HKP.out _ HB5.out
                clear hK9 K9
                try simp only [Act.put, List.setIfInBounds_toArray, List.set_cons_zero, List.set_cons_succ]
                refine wpAnyH_take (i := 11) (oi := ⟨_, _, _, _, _, _⟩) (v := ?vv12) rfl (by kernel_rfl) (by kernel_rfl) (by kernel_rfl) (fun _ _ _ h => h) (Or.inl ⟨by rfl, ?hy12⟩) (by assumption) ?_
                case hy12 => (intro w hSw; (try dsimp only at hSw); go_simp; try (with_reducible rfl))
                try simp only [Act.put, List.setIfInBounds_toArray, List.set_cons_zero, List.set_cons_succ]
                refine wpAnyH_take (i := 12) (oi := ⟨_, _, _, _, _, _⟩) (v := ?vv13) rfl (by kernel_rfl) (by kernel_rfl) (by kernel_rfl) (fun _ _ _ h => h) (Or.inl ⟨by rfl, ?hy13⟩) (by assumption) ?_
                case hy13 => (intro w hSw; (try dsimp only at hSw); go_simp; try (with_reducible rfl))
                try simp only [Act.put, List.setIfInBounds_toArray, List.set_cons_zero, List.set_cons_succ]
                refine wpAnyH_take (i := 13) (oi := ⟨_, _, _, _, _, _⟩) (v := ?vv14) rfl (by kernel_rfl) (by kernel_rfl) (by kernel_rfl) (fun _ _ _ h => h) (Or.inl ⟨by rfl, ?hy14⟩) (by assumption) ?_
                case hy14 => (intro w hSw; (try dsimp only at hSw); go_simp; try (with_reducible rfl))
                try simp only [Act.put, List.setIfInBounds_toArray, List.set_cons_zero, List.set_cons_succ]
                refine wpAnyH_take (i := 14) (oi := ⟨_, _, _, _, _, _⟩) (v := ?vv15) rfl (by kernel_rfl) (by kernel_rfl) (by kernel_rfl) (fun _ _ _ h => h) (Or.inl ⟨by rfl, ?hy15⟩) (by assumption) ?_
                case hy15 => (intro w hSw; (try dsimp only at hSw); go_simp; try (with_reducible rfl))
                try simp only [Act.put, List.setIfInBounds_toArray, List.set_cons_zero, List.set_cons_succ]
                refine wpAnyH_take (i := 15) (oi := ⟨_, _, _, _, _, _⟩) (v := ?vv16) rfl (by kernel_rfl) (by kernel_rfl) (by kernel_rfl) (fun _ _ _ h => h) (Or.inl ⟨by rfl, ?hy16⟩) (by assumption) ?_
                case hy16 => (intro w hSw; (try dsimp only at hSw); go_simp; try (with_reducible rfl))
                try simp only [Act.put, List.setIfInBounds_toArray, List.set_cons_zero, List.set_cons_succ]
                refine wpAnyH_done (by kernel_rfl) ?_ _
                refine NoPanic.normal ?_
                have HBW := Lib.hid (HB.out.trans (HB5.out.mono hsz))
                clear hHeld
                cases b5 with
                | true =>
                  go_wp2
                  go_ret2
                  exact ⟨_, _, _, true, rfl, fun _ => HS5.out (by first | rfl | trivial), HBW.out⟩
                | false =>
                  go_wp2
                  go_roundw
                  case rel => exact ⟨k + 1, by omega, by go_num, HBW.out⟩
                  case measure => simp [intOf]; omega
            · go_simp
              refine hK9.out _ _ ?_ (fun hHeld => ?_)
              · exact HKP.out _ HBB.out
              clear hK9 K9
              try simp only [Act.put, List.setIfInBounds_toArray, List.set_cons_zero, List.set_cons_succ]
              refine wpAnyH_ready (rs := [1]) (by kernel_rfl) (by simp) (AllReadyH.cons (o := ⟨_, _, _, _, _, _⟩) rfl (fun K9 hK9 => ?_) AllReadyH.nil)
              go_simp
              refine hK9.out _ _ ?_ (fun hHeld => ?_)
              · exact HKP.out _ HBBA.out
              clear hK9 K9
              try simp only [Act.put, List.setIfInBounds_toArray, List.set_cons_zero, List.set_cons_succ]
              refine wpAnyH_ready (rs := [3]) (by kernel_rfl) (by simp) (AllReadyH.cons (o := ⟨_, _, _, _, _, _⟩) rfl (fun K9 hK9 => ?_) AllReadyH.nil)
              refine step_append_srcS _ (by rfl) _ _ _ (by rfl) wr.heap.size 3 i0 (.int .i64 0) Try.underlying26 hi hz0 hz1 hz2 rfl _ 0 [] (by rfl) HOBA.out.drew a2 d H (by rfl) (HHA.out.keeps HBBA.out) (by unfold maxLen; omega) (by omega) (by simp <;> omega) ?_
              intro v3 w3 hown3 hgrow3
              have hb3 : Below wr.heap.size wr w3 := HBBA.out.grown hgrow3 (by simp <;> omega) (fun g hg => (HOBA.out.lt g hg).1)
              have HO3 : Hid (w3.ownsRow wr.heap.size 3 1 v3 H.length (H.map (Value.int .i64))) := Lib.hid (by have h := hown3; rw [Nat.zero_add, List.nil_append] at h; exact h)
              have HB3 := Lib.hid hb3
              have IB3 := Lib.hid (HIB.out wr w3 (by have := hgrow3.size; simp at this ⊢; omega) (fun b hb => by
                rw [hgrow3.block b (by rw [hb]; simp; omega) (by rw [hb]; simp [Value.ownBlock])]
                exact (Below.alloc (Below.refl _ _) (Nat.le_refl _) _).block b (by rw [hb]; simp)))
              clear hown3 hgrow3 hb3
              refine hK9.out _ _ ?_ (fun hHeld => ?_)
              · exact HKP.out _ HB3.out
              clear hK9 K9
              try simp only [Act.put, List.setIfInBounds_toArray, List.set_cons_zero, List.set_cons_succ]
              refine wpAnyH_ready (rs := [9]) (by kernel_rfl) (by simp) (AllReadyH.cons (o := ⟨_, _, _, _, _, _⟩) rfl (fun K9 hK9 => ?_) AllReadyH.nil)
              refine step_append_srcS _ (by rfl) _ _ _ (by rfl) wr.heap.size 3 i0 (.int .i64 0) Try.underlying26 hi hz0 hz1 hz2 rfl v3 H.length _ (by rfl) HO3.out _ 1 [(s : Int)] (by rfl) IB3.out (by unfold maxLen; simp; omega) (by simp; omega) HB3.out.size ?_
              intro v4 w4 hown4 hgrow4
              have hb4 : Below wr.heap.size wr w4 := HB3.out.grown hgrow4 HB3.out.size (fun g hg => (HO3.out.lt g hg).1)
              have hO4 : OwnInts w4 wr.heap.size v4 (H ++ [(s : Int)]) := (by unfold OwnInts; rw [List.length_append, List.map_append]; exact hown4)
              obtain ⟨a4, c4, g4, e4, -, hI4⟩ := hO4.at
              rw [HM.out] at e4
              subst e4
              have HI4 := Lib.hid hI4.ints
              have HB4 := Lib.hid hb4
              clear hown4 hgrow4 hb4 hO4 hI4
              refine hK9.out _ _ ?_ (fun hHeld => ?_)
              · exact HKP.out _ HB4.out
              clear hK9 K9
              try simp only [Act.put, List.setIfInBounds_toArray, List.set_cons_zero, List.set_cons_succ]
              refine wpAnyH_ready (rs := [10]) (by kernel_rfl) (by simp) (AllReadyH.cons (o := ⟨_, _, _, _, _, _⟩) rfl (fun K9 hK9 => ?_) AllReadyH.nil)
              go_simp
              go_at_call 78
              refine (HREC.out _ a4 c4 HB4.out HI4.out).mono ?_
              rintro e w5 ⟨a5, n5, c5, b5, rfl, hsh5, hb5⟩
              have HS5 := Lib.hid hsh5
              have HB5 : Hid (Below wr.heap.size wr w5) := Lib.hid (HB4.out.trans (hb5.mono HB4.out.size))
              clear hsh5 hb5
              refine hK9.out _ _ ?_ (fun hHeld => ?_)
              · exact HKP.out _ HB5.out
              clear hK9 K9
              try simp only [Act.put, List.setIfInBounds_toArray, List.set_cons_zero, List.set_cons_succ]
              refine wpAnyH_take (i := 11) (oi := ⟨_, _, _, _, _, _⟩) (v := ?vv17) rfl (by kernel_rfl) (by kernel_rfl) (by kernel_rfl) (fun _ _ _ h => h) (Or.inl ⟨by rfl, ?hy17⟩) (by assumption) ?_
              case hy17 => (intro w hSw; (try dsimp only at hSw); go_simp; try (with_reducible rfl))
              try simp only [Act.put, List.setIfInBounds_toArray, List.set_cons_zero, List.set_cons_succ]
              refine wpAnyH_take (i := 12) (oi := ⟨_, _, _, _, _, _⟩) (v := ?vv18) rfl (by kernel_rfl) (by kernel_rfl) (by kernel_rfl) (fun _ _ _ h => h) (Or.inl ⟨by rfl, ?hy18⟩) (by assumption) ?_
              case hy18 => (intro w hSw; (try dsimp only at hSw); go_simp; try (with_reducible rfl))
              try simp only [Act.put, List.setIfInBounds_toArray, List.set_cons_zero, List.set_cons_succ]
              refine wpAnyH_take (i := 13) (oi := ⟨_, _, _, _, _, _⟩) (v := ?vv19) rfl (by kernel_rfl) (by kernel_rfl) (by kernel_rfl) (fun _ _ _ h => h) (Or.inl ⟨by rfl, ?hy19⟩) (by assumption) ?_
              case hy19 => (intro w hSw; (try dsimp only at hSw); go_simp; try (with_reducible rfl))
              try simp only [Act.put, List.setIfInBounds_toArray, List.set_cons_zero, List.set_cons_succ]
              refine wpAnyH_take (i := 14) (oi := ⟨_, _, _, _, _, _⟩) (v := ?vv20) rfl (by kernel_rfl) (by kernel_rfl) (by kernel_rfl) (fun _ _ _ h => h) (Or.inl ⟨by rfl, ?hy20⟩) (by assumption) ?_
              case hy20 => (intro w hSw; (try dsimp only at hSw); go_simp; try (with_reducible rfl))
              try simp only [Act.put, List.setIfInBounds_toArray, List.set_cons_zero, List.set_cons_succ]
              refine wpAnyH_take (i := 15) (oi := ⟨_, _, _, _, _, _⟩) (v := ?vv21) rfl (by kernel_rfl) (by kernel_rfl) (by kernel_rfl) (fun _ _ _ h => h) (Or.inl ⟨by rfl, ?hy21⟩) (by assumption) ?_
              case hy21 => (intro w hSw; (try dsimp only at hSw); go_simp; try (with_reducible rfl))
              try simp only [Act.put, List.setIfInBounds_toArray, List.set_cons_zero, List.set_cons_succ]
              refine wpAnyH_done (by kernel_rfl) ?_ _
              refine NoPanic.normal ?_
              have HBW := Lib.hid (HB.out.trans (HB5.out.mono hsz))
              clear hHeld
              cases b5 with
              | true =>
                go_wp2
                go_ret2
                exact ⟨_, _, _, true, rfl, fun _ => HS5.out (by first | rfl | trivial), HBW.out⟩
              | false =>
                go_wp2
                go_roundw
                case rel => exact ⟨k + 1, by omega, by go_num, HBW.out⟩
                case measure => simp [intOf]; omega
      · have hd : decide ((k : Int) < (N : Int)) = false := by simpa using hlt
        go_wp2
        go_ret2
        refine ⟨_, _, _, false, rfl, ?_, HB.out.alloc hsz _⟩
        intro h; cases h

end Go.Proofs.Ytmonaiojejbhkaa
