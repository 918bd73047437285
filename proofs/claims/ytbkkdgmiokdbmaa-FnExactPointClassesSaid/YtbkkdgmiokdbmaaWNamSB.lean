/-
  WALKS: spec's chapter 9: l9Symmetries.
-/
import Derived.Test.YtbkkdgmiokdbmaaJg31
import Derived.Test.YtbkkdgmiokdbmaaJg8
namespace Go.Proofs.Ytbkkdgmiokdbmaa
open Go.RowKit
open Sets Nam

/-- the symmetries among the first k lists of names -/
def symTo (n : Nat) (xs : List Int) (k : Nat) : List (List Nat) := ((allNames n).take k).filter fun ns => renL ns xs == xs
theorem symTo_zero (n : Nat) (xs : List Int) : symTo n xs 0 = [] := rfl
theorem symTo_hit {n : Nat} {xs : List Int} {k : Nat} (h : k < (allNames n).length) (hs : (renL ((allNames n).getD k []) xs == xs) = true) : symTo n xs (k + 1) = symTo n xs k ++ [(allNames n).getD k []] := by
  have e : (allNames n).getD k [] = (allNames n)[k] := by rw [List.getD, List.getElem?_eq_getElem h]; rfl
  rw [e] at hs ⊢
  unfold symTo
  rw [List.take_add_one, List.getElem?_eq_getElem h, List.filter_append]
  simp [hs]
theorem symTo_miss {n : Nat} {xs : List Int} {k : Nat} (h : k < (allNames n).length) (hs : (renL ((allNames n).getD k []) xs == xs) = false) : symTo n xs (k + 1) = symTo n xs k := by
  have e : (allNames n).getD k [] = (allNames n)[k] := by rw [List.getD, List.getElem?_eq_getElem h]; rfl
  rw [e] at hs
  unfold symTo
  rw [List.take_add_one, List.getElem?_eq_getElem h, List.filter_append]
  simp [hs]
theorem symTo_len (n : Nat) (xs : List Int) (k : Nat) : (symTo n xs k).length ≤ (allNames n).length := by
  unfold symTo
  exact Nat.le_trans (List.length_filter_le _ _) (by rw [List.length_take]; omega)

theorem run_field_cx (n : Int) (a : Option Addr) (l c : Nat) (w : World) : Sem.run Try.prog (Instr.field 31 (.agg #[.int .i64 n, .slice a l c]) 1) w = .ok (.slice a l c) w := by
  kernel_rfl

attribute [local go_sem ↓] run_field_cx

set_option maxRecDepth 100000 in
set_option maxHeartbeats 1000000 in
theorem l9Sym_any (m : Nat) (hm1 : 1 ≤ m) (hm6 : m ≤ 6) (a : Option Addr) (c : Nat) (xs : List Int) (hC : isC (m : Int) xs = true) (w : World) (h : Ints w a xs) :
    Calls Try.prog 49 #[cx (m : Int) (.slice a xs.length c)] w fun e w' => ∃ v R, e = .returned v ∧ OwnMx w' w.heap.size v R ((symL m xs).map Zs) ∧ Below w.heap.size w w' := by
  obtain ⟨i9, hi9, hz90, hz91, hz92⟩ := info_parts info_row
  have hb0 : Below w.heap.size w ((w.alloc (Obj.cells #[Value.int IntKind.i64 (m : Int), Value.slice a xs.length c] 31)).alloc (.cells #[] 22)) := ((Below.refl _ _).alloc (Nat.le_refl _) _).alloc (by simp) _
  have htc := (Two.new w (.int .i64 (m : Int)) (.slice a xs.length c) 31).alloc (.cells #[] 22)
  have hM0 := OwnMx.lit (w.alloc (Obj.cells #[Value.int IntKind.i64 (m : Int), Value.slice a xs.length c] 31)) w.heap.size (by simp)
  rw [World.size_alloc] at hM0
  have hs2 : ((w.alloc (Obj.cells #[Value.int IntKind.i64 (m : Int), Value.slice a xs.length c] 31)).alloc (.cells #[] 22)).heap.size = w.heap.size + 1 + 1 := by simp
  have H0 := Lib.hid h
  have HC := Lib.hid hC
  have hl64 := isC_le hC
  obtain ⟨t0, t1, t2, t3, t4⟩ := htc
  have HTC := Lib.hid ((Two.new w (.int .i64 (m : Int)) (.slice a xs.length c) 31).alloc (.cells #[] 22))
  have HM0 := Lib.hid hM0
  have HB0 := Lib.hid hb0
  have HS2 := Lib.hid hs2
  clear h hC hM0 hb0 hs2
  go_enter Try.func49, Try.ntmps49
  go_wp2_with fail
  generalize ((w.alloc (Obj.cells #[Value.int IntKind.i64 (m : Int), Value.slice a xs.length c] 31)).alloc (.cells #[] 22)) = w2 at *
  have hst := l9All_start m hm6 w2
  rw [HS2.out] at hst
  with_reducible refine hst.mono ?_
  clear hst
  rintro e w4 ⟨v4, R4, rfl, hM4, hb4⟩
  have hs2 := HS2.out
  rw [← hs2] at hM4 hb4
  have hlM : ((allNames m).map Zs).length = (allNames m).length := List.length_map ..
  obtain ⟨N, hNN⟩ : ∃ N, (allNames m).length = N := ⟨_, rfl⟩
  obtain ⟨go, ao, co, hv4, hgo, hMX⟩ := hM4.mx
  rw [hlM, hNN] at hgo hv4
  subst hv4
  have HROWS := Lib.hid (fun i (hi : i < (allNames m).length) => (hM4.rows i (by rw [hlM]; exact hi)).1)
  have HGO := Lib.hid hgo
  have HMX := Lib.hid hMX
  have HNB := Lib.hid hM4.nodup
  have HLR := Lib.hid (hM4.len.trans (hlM.trans hNN))
  have TC4 := Lib.hid (HTC.out.keeps hb4)
  have HO4 := Lib.hid (HM0.out.keeps hb4)
  have HB4 : Hid (Below w.heap.size w w4) := HB0.out.trans (hb4.mono (by omega))
  have hsz4 := hb4.size
  have hN := allNames_len hm6
  obtain ⟨gb, hgb⟩ : ∃ gb, w.heap.size + 1 = gb := ⟨_, rfl⟩
  rw [hgb] at HO4
  rw [hNN] at hN
  have hgbw : w.heap.size < gb := by omega
  have hgb2 : gb < w2.heap.size := by omega
  have HNN := Lib.hid hNN
  have HGB := Lib.hid hgb
  have HLM := Lib.hid (hlM.trans hNN)
  clear hgb hNN hlM t0 t1 t2 t3 t4 hM4 hMX hgo hb4 HTC HM0 hs2
  go_wp2
  try rw [HGB.out]
  go_loopw [3, 5] (fun u i wr => ∃ (k : Nat) (R' : List (Nat × Nat)), k ≤ N ∧ i = .int .i64 (k : Int) ∧ OwnMx wr w.heap.size u R' ((symTo m xs k).map Zs) ∧ Only [gb] w4 wr ∧ (u.ownBlock = some gb ∨ ∃ z, u.ownBlock = some z ∧ w4.heap.size ≤ z) ∧ ∀ g, g ∈ blks R' → ∃ j, j < k ∧ blk R4 j = g) (fun _ i _ => N - (intOf i).toNat)
  case atStart => exact ⟨0, [], Nat.zero_le _, rfl, HO4.out, Only.refl _ _, .inl rfl, fun g h => by simp at h⟩
  case round =>
    obtain ⟨k, R', hk, rfl, hO, hOn, hu, hR⟩ := hrel
    have hsz5 := hOn.size
    have HO := Lib.hid hO
    have HON := Lib.hid hOn
    have HU := Lib.hid hu
    have HR := Lib.hid hR
    have HTCK := Lib.hid (two_only TC4.out hOn (by simp; omega))
    have HBK : Hid (Below w.heap.size w wr) := HB4.out.trans (hOn.below (fun g hg => by simp at hg; omega) (by omega))
    have HIAK := Lib.hid (H0.out.keeps HBK.out)
    have hszk := HBK.out.size
    clear hO hOn hu hR
    by_cases hlt : k < N
    · have hNk : k < (allNames m).length := by rw [HNN.out]; exact hlt
      have hNs := all_at hNk
      obtain ⟨ns, hns⟩ : ∃ ns, (allNames m).getD k [] = ns := ⟨_, rfl⟩
      rw [hns] at hNs
      have hgo := HGO.out (by omega)
      have hnl : (Zs ns).length = m := (Zs_len ns).trans hNs.len
      have hrow := names_row (allNames m) k hNk
      rw [hns] at hrow
      have hkM : k < ((allNames m).map Zs).length := by rw [HLM.out]; exact hlt
      have hcell : wr.cell? ⟨go, k, none⟩ = some (.slice (some ⟨blk R4 k, 0, none⟩) m (room R4 k)) := by
        have h1 := HMX.out.cell hkM
        rw [hrow, hnl] at h1
        rw [World.cell?_of_block (w := w4) (HON.out.block go hgo.2 (by simp; omega))]
        exact h1
      have hao : ao = some ⟨go, 0, none⟩ := (HMX.out.out k hkM).1
      have hblo := HROWS.out k hNk
      have hbhi := (HMX.out.rows k hkM).1
      have hr2 : IntsAt wr (blk R4 k) (some ⟨blk R4 k, 0, none⟩) (Zs ns) := by
        have h1 := (HMX.out.rows k hkM).2
        rw [hrow] at h1
        exact h1.only HON.out (by simp; omega)
      have hnew : blk R4 k ∉ blks R' := fun hm => by
        obtain ⟨j, hj, e⟩ := HR.out _ hm
        have := blk_inj HNB.out (by rw [HLR.out]; omega) (by rw [HLR.out]; exact hlt) e
        omega
      have hnu : ∀ z, (Value.slice ao 0 0).ownBlock = z → True := fun _ _ => trivial
      have HR2 := Lib.hid hr2
      have HNS := Lib.hid hns
      have HNS0 := Lib.hid hNs
      have HNEW := Lib.hid hnew
      have HNL := Lib.hid hnl
      obtain ⟨sb, hsb⟩ : ∃ sb, (renL ns xs == xs) = sb := ⟨_, rfl⟩
      have HSB := Lib.hid hsb
      have hlr := renL_length hNs HC.out
      have HCALL := Lib.hid (l9Complex_row hm1 hm6 a c HC.out (some ⟨blk R4 k, 0, none⟩) (room R4 k) hNs wr.drew HIAK.out hr2.ints)
      have HPOST : Hid (∀ (w6 : World) (a6 : Option Addr) (c6 g6 : Nat), IntsAt w6 g6 a6 (renL ns xs) → Below wr.heap.size wr w6 → Calls Try.prog 63 #[.slice a6 xs.length c6, .slice a xs.length c] w6 fun e w' => e = .returned (.bool sb) ∧ Below w6.heap.size w6 w') := by
        have : ∀ (w6 : World) (a6 : Option Addr) (c6 g6 : Nat), IntsAt w6 g6 a6 (renL ns xs) → Below wr.heap.size wr w6 → Calls Try.prog 63 #[.slice a6 xs.length c6, .slice a xs.length c] w6 fun e w' => e = .returned (.bool sb) ∧ Below w6.heap.size w6 w' := fun w6 a6 c6 g6 hI hB => by
          have hsame := l2Same_any a6 a c6 c (renL ns xs) xs (by rw [hlr]; omega) (by omega) w6 hI.ints (HIAK.out.keeps hB)
          rw [hlr, hsb] at hsame
          exact hsame
        exact this
      subst hao
      obtain ⟨t0, t1, t2, _, _⟩ := HTCK.out
      have hszg := hgo.2
      clear hNk hNs hns hgo hnl hrow hkM hr2 hnew hsb hlr hnu
      go_wp2_with fail
      go_region_law (first | (go_simp; go_at_call 38; refine HCALL.out.mono ?_; rintro e w6 ⟨a6, c6, g6, rfl, hc6, hg6, hI6, hb6⟩; have HB6 : Hid (Below wr.heap.size wr w6) := ((Below.refl wr.heap.size wr).drew.trans hb6); have HSAME := Lib.hid (HPOST.out w6 a6 c6 g6 hI6 HB6.out); clear hb6; obtain ⟨s0, s1, s2, _, _⟩ := HTCK.out.keeps HB6.out) | (go_simp; go_at_call 63; refine HSAME.out.mono ?_; rintro e w7 ⟨rfl, hb7⟩; have HB7 : Hid (Below wr.heap.size wr w7) := HB6.out.trans (hb7.mono HB6.out.size); clear hb7) | fail "arm")
      all_goals
        have hszk7 := HB7.out.size
        have HO7 := Lib.hid (HO.out.keeps HB7.out)
        have hcell7 : w7.cell? ⟨go, k, none⟩ = some (.slice (some ⟨blk R4 k, 0, none⟩) m (room R4 k)) := by
          rw [HB7.out.cell (p := ⟨go, k, none⟩) (by dsimp only; omega)]; exact hcell
        have HR7 := Lib.hid (HR2.out.keeps HB7.out)
        have hsl := symTo_len m xs k
        have hmapl : ((symTo m xs k).map Zs).length = (symTo m xs k).length := List.length_map ..
        clear s0 s1 s2 t0 t1 t2 hcell hI6
        cases sb with
        | true =>
          have HN1 : Hid ((symTo m xs (k + 1)).map Zs = (symTo m xs k).map Zs ++ [Zs ns]) := by
            have h1 := symTo_hit (n := m) (xs := xs) (k := k) (by rw [HNN.out]; exact hlt) (by rw [HNS.out]; exact HSB.out)
            rw [HNS.out] at h1
            have : (symTo m xs (k + 1)).map Zs = (symTo m xs k).map Zs ++ [Zs ns] := by rw [h1, List.map_append]; rfl
            exact this
          obtain ⟨Ms, hMs⟩ : ∃ Ms, (symTo m xs k).map Zs = Ms := ⟨_, rfl⟩
          rw [hMs] at HO7 HN1 hmapl
          have HOW := Lib.hid HO7.out.own
          have hml : Ms.length ≤ 46656 := by rw [hmapl]; have := HNN.out; omega
          clear hMs hmapl hsl
          go_wp2_with (at_builtin; refine wpList_append_own_at _ rfl _ _ 52 rfl w.heap.size 22 i9 (.slice none 0 0) 1 24 Try.underlying52 hi9 hz90 hz91 hz92 rfl (by decide) _ _ _ rfl (HOW.out.alloc _) ⟨w7.heap.size, 0, none⟩ 1 1 [.slice (some ⟨blk R4 k, 0, none⟩) m (room R4 k)] rfl rfl ?c1 ?c2 ?c3 ?c4 ?c5 ?_)
          case c1 => intro j u hj; exact Mem.cell_new w7 _ _ j u hj
          case c2 => intro u hu; simp at hu; subst hu; rfl
          case c3 => unfold maxLen; omega
          case c4 => omega
          case c5 => simp; omega
          intro v' w9 hown1 hgrow _ hob
          have hBA : Below w7.heap.size w7 (w7.alloc (.cells #[.slice (some ⟨blk R4 k, 0, none⟩) m (room R4 k)] 22)) := (Below.refl _ _).alloc (Nat.le_refl _) _
          have hob2 : v'.ownBlock = u3.ownBlock ∨ ∃ z, v'.ownBlock = some z ∧ (w7.alloc (.cells #[.slice (some ⟨blk R4 k, 0, none⟩) m (room R4 k)] 22)).heap.size ≤ z := by
            rcases hob with e | e
            · exact .inl e
            · exact .inr ⟨_, e, by first | exact Nat.le_refl _ | (rw [World.size_alloc]; exact Nat.le_refl _)⟩
          have hnv : u3.ownBlock ≠ some (blk R4 k) := fun e => by
            rcases HU.out with h | ⟨z, h, hz⟩
            · rw [e] at h; cases h; omega
            · rw [e] at h; cases h; omega
          have hO9 : OwnMx w9 w.heap.size v' (R' ++ [(blk R4 k, room R4 k)]) (Ms ++ [Zs ns]) := by
            refine OwnMx.next (HO7.out.keeps hBA) (by omega) (by simp; omega) (HR7.out.keeps hBA) HNEW.out hnv ?_ hgrow hob2
            rw [HNL.out]; exact hown1
          have hon : Only [gb] w4 w9 := only_step (o := some gb) HON.out (HB7.out.trans (hBA.mono hszk7)) (only_grown hgrow) HU.out
          have hu9 : v'.ownBlock = some gb ∨ ∃ z, v'.ownBlock = some z ∧ w4.heap.size ≤ z := by
            rcases hob2 with e | ⟨z, e, hz⟩
            · rw [e]; exact HU.out
            · exact .inr ⟨z, e, by rw [World.size_alloc] at hz; omega⟩
          have HO9 := Lib.hid hO9
          have HON9 := Lib.hid hon
          have HU9 := Lib.hid hu9
          clear hown1 hgrow hob hob2 hO9 hon hu9 hnv
          go_wp2
          go_roundw
          case rel =>
            refine ⟨k + 1, R' ++ [(blk R4 k, room R4 k)], by omega, by go_num, by rw [HN1.out]; exact HO9.out, HON9.out, HU9.out, fun g hg => ?_⟩
            rw [show blks (R' ++ [(blk R4 k, room R4 k)]) = blks R' ++ [blk R4 k] by simp [blks], List.mem_append, List.mem_singleton] at hg
            rcases hg with h | rfl
            · obtain ⟨j, hj, e⟩ := HR.out g h
              exact ⟨j, by omega, e⟩
            · exact ⟨k, by omega, rfl⟩
          case measure => simp [intOf]; omega
        | false =>
          have HN1 : Hid (symTo m xs (k + 1) = symTo m xs k) := by
            have : symTo m xs (k + 1) = symTo m xs k := symTo_miss (by rw [HNN.out]; exact hlt) (by rw [HNS.out]; exact HSB.out)
            exact this
          clear hmapl hsl
          go_wp2
          go_roundw
          case rel => exact ⟨k + 1, R', by omega, by go_num, by rw [HN1.out]; exact HO7.out, HON.out.trans (Only.of_below [gb] HB7.out), HU.out, fun g h => (HR.out g h).elim fun j ⟨hj, e⟩ => ⟨j, by omega, e⟩⟩
          case measure => simp [intOf]; omega
    · have HE : Hid (symTo m xs k = symL m xs) := by
        have h1 : k = (allNames m).length := by rw [HNN.out]; omega
        have : symTo m xs k = symL m xs := by unfold symTo symL; rw [h1, List.take_length]
        exact this
      go_wp2
      go_ret
      exact ⟨_, R', rfl, by rw [← HE.out]; exact HO.out, HBK.out⟩

end Go.Proofs.Ytbkkdgmiokdbmaa
