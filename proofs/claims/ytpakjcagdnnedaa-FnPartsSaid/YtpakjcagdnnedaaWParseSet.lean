/-
  WALKS: ParseSet, by impl and by spec.
-/
import Derived.Test.YtpakjcagdnnedaaTxt
namespace Go.Proofs.Ytpakjcagdnnedaa
open Go.RowKit
open Sets

/-- The first k bytes. -/
def pre (s : ByteArray) (k : Nat) : List UInt8 := s.data.toList.take k
theorem pre_next (s : ByteArray) (k : Nat) (h : k < s.size) : pre s (k + 1) = pre s k ++ [s[k]] := by
  unfold pre
  rw [List.take_succ_eq_append_getElem (by simpa using h)]; rfl
theorem pre_all (s : ByteArray) : pre s s.size = s.data.toList := by
  unfold pre
  apply List.take_of_length_le
  rw [Array.length_toList]
  exact Nat.le_refl _

theorem or_bit (g i : Nat) (hg : g < 64) (hi : i < 6) : bits BinOp.or IntKind.i64 (g : Int) (wrap64 (2 ^ i)) = ((g ||| 2 ^ i : Nat) : Int) := by
  have : ∀ t : Fin 64, ∀ u : Fin 6, bits BinOp.or IntKind.i64 (t.val : Int) (wrap64 (2 ^ u.val)) = ((t.val ||| 2 ^ u.val : Nat) : Int) := by decide +kernel
  exact this ⟨g, hg⟩ ⟨i, hi⟩
theorem bytes_eq {a b : ByteArray} (h : a.data.toList = b.data.toList) : a = b := by
  cases a; cases b; congr 1; exact Array.toList_inj.1 h
theorem str_ne {a b : ByteArray} (h : ¬ a = b) : (a.toList == b.toList) = false := by
  rw [beq_eq_false_iff_ne, ByteArray.toList_eq, ByteArray.toList_eq]
  intro e; exact h (bytes_eq e)
theorem parse_yes (l : List UInt8) (h : text (gather l : Int) = l) : parse l = some (gather l) := by unfold parse; rw [if_pos h]
theorem parse_no (l : List UInt8) (h : ¬ text (gather l : Int) = l) : parse l = none := by unfold parse; rw [if_neg h]

theorem shr_ne (r i : Nat) : ((r : Int) / 2 ^ i != 0) = decide (¬ r < 2 ^ i) := by
  have e : (r : Int) / 2 ^ i = ((r / 2 ^ i : Nat) : Int) := by simp
  have hp : 0 < 2 ^ i := Nat.two_pow_pos i
  rw [e, Bool.eq_iff_iff, decide_eq_true_iff, bne_iff_ne]
  constructor
  · intro h hlt
    rw [Nat.div_eq_of_lt hlt] at h
    exact h rfl
  · intro h e0
    apply h
    have : r / 2 ^ i = 0 := by omega
    exact (Nat.div_eq_zero_iff_lt hp).1 this
theorem add_bit (r i : Nat) (hr : r < 64) (hi : i < 6) : wrap64 ((r : Int) + wrap64 (2 ^ i)) = ((r + 2 ^ i : Nat) : Int) := by
  have : ∀ t : Fin 64, ∀ u : Fin 6, wrap64 ((t.val : Int) + wrap64 (2 ^ u.val)) = ((t.val + 2 ^ u.val : Nat) : Int) := by decide +kernel
  exact this ⟨r, hr⟩ ⟨i, hi⟩
theorem drop_at (s : ByteArray) (k : Nat) (h : k < s.size) : s.data.toList.drop k = s[k] :: s.data.toList.drop (k + 1) := by
  rw [List.drop_eq_getElem_cons (by simpa using h)]; rfl
theorem drop_all (s : ByteArray) : s.data.toList.drop s.size = [] := by
  apply List.drop_eq_nil_of_le
  rw [Array.length_toList]
  exact Nat.le_refl _

set_option maxRecDepth 100000 in
set_option maxHeartbeats 2000000 in
theorem specParse_any (s : ByteArray) (hs : s.size ≤ 9223372036854775807) (w : World) : Calls Try.prog 105 #[.string s] w fun e w' => e = .returned (.tuple #[.int .i64 (((parseS s.data.toList).getD 0 : Nat) : Int), .bool (parseS s.data.toList).isSome]) ∧ Below w.heap.size w w' := by
  by_cases h0 : s = ⟨#[]⟩
  · subst h0
    go_enter Try.func105, Try.ntmps105
    go_wp2
    refine wp_loop_rounds 1 ?_
    rw [rounds_succ]
    go_wp2
    go_ret2
    exact ⟨rfl, Below.refl _ _⟩
  · by_cases h1 : s = ⟨#[45]⟩
    · subst h1
      clear h0
      go_enter Try.func105, Try.ntmps105
      go_wp2
      refine wp_loop_rounds 1 ?_
      rw [rounds_succ]
      go_wp2
      go_ret2
      exact ⟨rfl, Below.refl _ _⟩
    · have hp : parseS s.data.toList = scan s.data.toList 0 := by
        unfold parseS
        rw [if_neg (fun e => h0 (bytes_eq e)), if_neg (fun e => h1 (bytes_eq e))]
      have hn0 : (s.toList == []) = false := by have h := str_ne h0; rw [ByteArray.toList_eq (⟨#[]⟩ : ByteArray)] at h; exact h
      have hn1 : (s.toList == [45]) = false := by have h := str_ne h1; rw [ByteArray.toList_eq (⟨#[45]⟩ : ByteArray)] at h; exact h
      have HP := Lib.hid hp
      clear hp h0 h1
      go_enter Try.func105, Try.ntmps105
      go_wp2
      go_loop [4, 5] (fun g i => ∃ k r : Nat, k ≤ s.size ∧ i = .int .i64 (k : Int) ∧ g = .int .i64 (r : Int) ∧ r < 64 ∧ scan s.data.toList 0 = scan (s.data.toList.drop k) r) (fun _ i => s.size - (intOf i).toNat)
      case atStart => exact ⟨0, 0, Nat.zero_le _, rfl, rfl, by omega, rfl⟩
      case round =>
        obtain ⟨k, r, hk, rfl, rfl, hr, he⟩ := hrel
        have HE := Lib.hid he
        clear he
        by_cases hlt : k < s.size
        · have hd := drop_at s k hlt
          have HD := Lib.hid hd
          clear hd
          have hcb : s[k].toNat ≤ 255 := by have := s[k].toNat_lt; omega
          by_cases hin : 97 ≤ s[k].toNat ∧ s[k].toNat < 103
          · obtain ⟨h1, h2⟩ := hin
            go_wp2_with fail
            refine (in_b _ _ _ true (inB_true (by omega) (by omega)) _).mono ?_
            rintro e w' ⟨rfl, rfl⟩
            by_cases hr2 : r < 2 ^ (s[k].toNat - 97)
            · have hq := (shr_ne r (s[k].toNat - 97)).trans (decide_eq_false (not_not_intro hr2))
              have hsc : scan (s[k] :: s.data.toList.drop (k + 1)) r = scan (s.data.toList.drop (k + 1)) (r + 2 ^ (s[k].toNat - 97)) := by
                conv => lhs; unfold scan
                rw [if_pos ⟨h1, h2, hr2⟩]
              have HS := Lib.hid hsc
              have HR := Lib.hid hr2
              clear hsc hr2
              go_wp2
              go_round
              case rel =>
                have hpw : 2 ^ (s[k].toNat - 97) ≤ 32 := Nat.pow_le_pow_right (by decide) (show s[k].toNat - 97 ≤ 5 by omega)
                have hlt2 := HR.out
                exact ⟨k + 1, r + 2 ^ (s[k].toNat - 97), by omega, by go_num, by rw [add_bit r _ hr (by omega)], by omega, by rw [HE.out, HD.out, HS.out]⟩
              case measure => simp [intOf]; omega
            · have hq := (shr_ne r (s[k].toNat - 97)).trans (decide_eq_true hr2)
              have hsc : scan (s[k] :: s.data.toList.drop (k + 1)) r = none := by
                unfold scan; rw [if_neg (fun h => hr2 h.2.2)]
              have HS := Lib.hid hsc
              clear hsc hr2
              go_wp2
              go_ret2
              refine ⟨?_, Below.refl _ _⟩
              rw [HP.out, HE.out, HD.out, HS.out]
              rfl
          · go_wp2_with fail
            refine (in_b _ _ _ false (inB_false (by omega)) _).mono ?_
            rintro e w' ⟨rfl, rfl⟩
            go_wp2
            go_ret2
            refine ⟨?_, Below.refl _ _⟩
            have : scan (s[k] :: s.data.toList.drop (k + 1)) r = none := by
              unfold scan; rw [if_neg (by omega)]
            rw [HP.out, HE.out, HD.out, this]
            rfl
        · have E := Lib.hid (show k = s.size by omega)
          go_wp2
          go_ret2
          refine ⟨?_, Below.refl _ _⟩
          rw [HP.out, HE.out, E.out, drop_all]
          rfl

end Go.Proofs.Ytpakjcagdnnedaa
