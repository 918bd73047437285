/-
  WALKS: SetsText, by impl and by spec.
-/
import Derived.Test.YtggpgannmmjcbaaGreatDoorWText
import Derived.Test.YtggpgannmmjcbaaGreatDoorStrOwn
namespace Go.Proofs.YtggpgannmmjcbaaGreatDoor
open Go.RowKit
open Sets

/-- The texts of the first k sets. -/
def txts (xs : List Int) (k : Nat) : List ByteArray := (xs.take k).map txt
/-- SetsText. -/
def setsText (xs : List Int) : ByteArray := ⟨(joined (txts xs xs.length) ⟨#[44]⟩ (txts xs xs.length).length).toArray⟩
theorem txts_next (xs : List Int) (k : Nat) (h : k < xs.length) : txts xs (k + 1) = txts xs k ++ [txt (xs.getD k 0)] := by
  unfold txts
  rw [List.take_succ_eq_append_getElem h, List.map_append, List.getD, List.getElem?_eq_getElem h]; rfl
theorem txts_length (xs : List Int) (k : Nat) : (txts xs k).length ≤ k := by unfold txts; rw [List.length_map, List.length_take]; omega
theorem bytesOf_le (xs : List ByteArray) (m : Nat) (h : ∀ x ∈ xs, x.size ≤ m) : bytesOf xs xs.length ≤ m * xs.length := by
  unfold bytesOf
  rw [List.take_length]
  induction xs with
  | nil => simp
  | cons x xs ih =>
    have h1 := h x (by simp)
    have h2 := ih (fun y hy => h y (by simp [hy]))
    rw [List.map_cons, List.sum_cons, List.length_cons, Nat.mul_succ]
    omega
theorem txts_bytes (xs : List Int) (k : Nat) : bytesOf (txts xs k) (txts xs k).length ≤ 6 * (txts xs k).length :=
  bytesOf_le _ 6 (fun x hx => by
    unfold txts at hx
    obtain ⟨y, _, rfl⟩ := List.mem_map.1 hx
    exact txt_size y)

set_option maxRecDepth 100000 in
set_option maxHeartbeats 2000000 in
theorem implSetsText_any (a : Option Addr) (c : Nat) (xs : List Int) (hlen : xs.length ≤ 1048576) (w : World) (h : Ints w a xs) :
    Calls Tryz.prog 34 #[.slice a xs.length c] w fun e w' => e = .returned (.string (setsText xs)) ∧ Below w.heap.size w w' := by
  obtain ⟨i0, hi, hz0, hz1, hz2⟩ := info_parts info_str
  have H := Lib.hid h
  clear h
  go_enter Tryz.func34, Tryz.ntmps34
  go_wp2
  go_loopw [3, 8] (fun v i wr => ∃ k : Nat, k ≤ xs.length ∧ i = .int .i64 (k : Int) ∧ OwnTexts wr w.heap.size v (txts xs k) ∧ Below w.heap.size w wr) (fun _ i _ => xs.length - (intOf i).toNat)
  case atStart => exact ⟨0, Nat.zero_le _, rfl, OwnTexts.nil _ _, Below.refl _ _⟩
  case round =>
    obtain ⟨k, hk, rfl, hO, hB⟩ := hrel
    have HO := Lib.hid hO
    clear hO
    have hsz := hB.size
    have hll := txts_length xs k
    by_cases hlt : k < xs.length
    · obtain ⟨b, o, rfl, g0⟩ := H.out k hlt
      have g : wr.cell? ⟨b, o + k, none⟩ = some (.int .i64 (xs.getD k 0)) := by rw [hB.cell (p := ⟨b, o + k, none⟩) (World.block_lt_of_cell? w _ g0)]; exact g0
      have HN := Lib.hid (txts_next xs k hlt)
      clear g0
      generalize xs.getD k 0 = x at *
      go_wp2_with fail
      refine (implText_any x _).mono ?_
      rintro e w2 ⟨rfl, hb2⟩
      have hB2 : Below w.heap.size w w2 := hB.trans (hb2.mono hsz)
      have HO2 : Hid (w2.ownsRow w.heap.size 9 1 u3 (txts xs k).length ((txts xs k).map Value.string)) := Lib.hid (OwnTexts.keeps HO.out hb2)
      have hsz2 := hB2.size
      clear hb2 HO
      generalize txt x = tx at *
      go_wp2_with (at_builtin; refine wpList_append_own _ rfl _ _ 30 rfl w.heap.size 9 i0 (.string ByteArray.empty) 1 16 Tryz.underlying30 hi hz0 hz1 hz2 rfl (by decide) _ _ _ rfl (HO2.out.alloc _) ⟨w2.heap.size, 0, none⟩ 1 1 [.string tx] rfl rfl ?c1 ?c2 ?c3 ?c4 ?c5 ?_)
      case c1 => intro j u hj; exact Mem.cell_new w2 _ _ j u hj
      case c2 => intro u hu; simp at hu; subst hu; rfl
      case c3 => unfold maxLen; omega
      case c4 => omega
      case c5 => simp; omega
      intro v' w3 hown1 hgrow _
      have hB3 : Below w.heap.size w w3 := (hB2.alloc hsz2 _).grown hgrow (by simp; omega) (fun g hg => (HO2.out.lt g hg).1)
      have H1 := Lib.hid hown1
      clear hown1 hgrow
      go_wp2
      go_roundw
      case rel => exact ⟨k + 1, by omega, by go_num, by rw [HN.out]; exact OwnTexts.next H1.out, hB3⟩
      case measure => simp [intOf]; omega
    · have E := Lib.hid (show k = xs.length by omega)
      have hO2 := HO.out
      have hbt := txts_bytes xs k
      have hc := implJoin_own w.heap.size _ (txts xs k) ⟨#[44]⟩ (by omega) (by show 1 ≤ 1048576; omega) wr hO2
      have HC := Lib.hid hc
      clear hc hbt hO2
      go_wp2_with fail
      refine HC.out.mono ?_
      rintro e w2 ⟨rfl, hb2⟩
      go_wp2
      go_ret
      exact ⟨by unfold setsText; rw [← E.out]; rfl, hB.trans (hb2.mono hsz)⟩

end Go.Proofs.YtggpgannmmjcbaaGreatDoor
