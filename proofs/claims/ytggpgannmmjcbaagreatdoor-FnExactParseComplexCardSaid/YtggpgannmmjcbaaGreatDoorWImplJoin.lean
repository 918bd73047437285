/-
  WALKS: impl.Join, by the library's contract.
-/
import Derived.Test.YtggpgannmmjcbaaGreatDoorStrRow
import Derived.Test.YtggpgannmmjcbaaGreatDoorShelfJ
import Derived.Lib.Join
namespace Go.Proofs.YtggpgannmmjcbaaGreatDoor
open Go.RowKit

/-- The bytes of the first k strings. -/
def bytesOf (xs : List ByteArray) (k : Nat) : Nat := ((xs.take k).map ByteArray.size).sum
theorem bytesOf_next (xs : List ByteArray) (k : Nat) (h : k < xs.length) : bytesOf xs (k + 1) = bytesOf xs k + (xs.getD k ByteArray.empty).size := by
  unfold bytesOf
  rw [List.take_succ_eq_append_getElem h, List.map_append, List.sum_append, List.getD, List.getElem?_eq_getElem h]
  simp

/-- The bytes that the loop has laid. -/
def joined (xs : List ByteArray) (s : ByteArray) (k : Nat) : List UInt8 := Lib.join ((xs.take k).map (·.data.toList)) s.data.toList

theorem join_snoc (l : List (List UInt8)) (x sep : List UInt8) : Lib.join (l ++ [x]) sep = if l = [] then x else Lib.join l sep ++ sep ++ x := by
  cases l with
  | nil => rw [List.nil_append, Lib.join_one, if_pos rfl]
  | cons y r =>
    rw [List.cons_append, Lib.join_cons, Lib.join_cons, if_neg (by simp)]
    unfold Lib.joinTail
    rw [List.map_append, List.flatten_append]
    simp
theorem joined_next (xs : List ByteArray) (s : ByteArray) (k : Nat) (h : k < xs.length) : joined xs s (k + 1) = if k = 0 then (xs.getD k ByteArray.empty).data.toList else joined xs s k ++ s.data.toList ++ (xs.getD k ByteArray.empty).data.toList := by
  unfold joined
  rw [List.take_succ_eq_append_getElem h, List.map_append, List.map_cons, List.map_nil, join_snoc, List.getD, List.getElem?_eq_getElem h]
  by_cases h0 : k = 0
  · subst h0; simp
  · rw [if_neg, if_neg h0]; rfl
    intro e
    have h2 := congrArg List.length e
    rw [List.length_map, List.length_take, List.length_nil] at h2
    omega
theorem joined_length (xs : List ByteArray) (s : ByteArray) (k : Nat) (h : k ≤ xs.length) : (joined xs s k).length ≤ bytesOf xs k + k * s.size := by
  induction k with
  | zero => simp [joined, Lib.join_nil]
  | succ k ih =>
    have h1 := ih (by omega)
    rw [joined_next xs s k (by omega), bytesOf_next xs k (by omega), Nat.succ_mul]
    split
    · rw [Array.length_toList]; show (xs.getD k ByteArray.empty).size ≤ _; omega
    · rw [List.length_append, List.length_append, Array.length_toList, Array.length_toList]
      show (joined xs s k).length + s.size + (xs.getD k ByteArray.empty).size ≤ _
      omega

set_option maxRecDepth 100000 in
/-- impl.Join. -/
theorem implJoin_big (b o c : Nat) (xs : List ByteArray) (s : ByteArray) (hcap : xs.length ≤ c) (hlen : xs.length + bytesOf xs xs.length ≤ 16777216) (hs : s.size ≤ 1048576) (w : World) (hb : b < w.heap.size) (h : StrRow w b o xs) :
    Calls Tryz.prog 51 #[.slice (some ⟨b, o, none⟩) xs.length c, .string s] w fun e w' => e = .returned (.string ⟨(joined xs s xs.length).toArray⟩) ∧ Below w.heap.size w w' := by
  have hj : joined xs s xs.length = Lib.join (xs.map (·.data.toList)) s.data.toList := by unfold joined; rw [List.take_length]
  have hks : xs.length * s.size ≤ 16777216 * 1048576 := Nat.mul_le_mul (by omega) hs
  have hc := Tryz.strings_Join b o c xs s w (fun j x hx => by
    have hlt : j < xs.length := (List.getElem?_eq_some_iff.1 hx).1
    rw [h j hlt, List.getD, hx]; rfl) hb (by omega) hcap (by rw [← hj]; have := joined_length xs s xs.length (Nat.le_refl _); omega)
  rw [← hj] at hc
  have HC := Lib.hid hc
  clear hc hj h hks
  go_enter Tryz.func51, Tryz.ntmps51
  go_wp2_with fail
  refine HC.out.mono ?_
  rintro e w1 ⟨rfl, hb1⟩
  go_wp2
  go_ret
  exact ⟨rfl, hb1⟩

theorem implJoin_any (b o c : Nat) (xs : List ByteArray) (s : ByteArray) (hcap : xs.length ≤ c) (hlen : xs.length + bytesOf xs xs.length ≤ 1048576) (hs : s.size ≤ 1048576) (w : World) (hb : b < w.heap.size) (h : StrRow w b o xs) :
    Calls Tryz.prog 51 #[.slice (some ⟨b, o, none⟩) xs.length c, .string s] w fun e w' => e = .returned (.string ⟨(joined xs s xs.length).toArray⟩) ∧ Below w.heap.size w w' :=
  implJoin_big b o c xs s hcap (by omega) hs w hb h

set_option maxRecDepth 100000 in
/-- impl.Join of nothing. -/
theorem implJoin_none (s : ByteArray) (w : World) :
    Calls Tryz.prog 51 #[.slice none 0 0, .string s] w fun e w' => e = .returned (.string ⟨(joined [] s 0).toArray⟩) ∧ Below w.heap.size w w' := by
  have hc := Tryz.strings_Join_none none 0 s w
  have HC := Lib.hid hc
  clear hc
  go_enter Tryz.func51, Tryz.ntmps51
  go_wp2_with fail
  refine HC.out.mono ?_
  rintro e w1 ⟨rfl, rfl⟩
  go_wp2
  go_ret
  exact ⟨rfl, Below.refl _ _⟩

end Go.Proofs.YtggpgannmmjcbaaGreatDoor
