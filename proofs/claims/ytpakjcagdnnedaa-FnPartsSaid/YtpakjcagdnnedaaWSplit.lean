/-
  WALKS: spec.SplitByte and impl.SplitByte cut a text into the same pieces; each hands back a row of its own.
-/
import Derived.Test.YtpakjcagdnnedaaWStr
import Derived.Test.YtpakjcagdnnedaaPieces
import Derived.Laws.OwnMore
import Derived.OwnWalk
namespace Go.Proofs.Ytpakjcagdnnedaa
open Go.RowKit
open Pieces (Inv strs)

theorem info_str : (Try.prog.info? 9).map (fun i => (i.zero, i.size, i.bytes)) = some (some (.string ByteArray.empty), 1, 16) := by kernel_rfl

theorem extract_eq (s : ByteArray) (f k : Nat) : (s.extract f k).data.toList = (s.data.toList.drop f).take (k - f) := Lib.extract_data s f k

theorem inv_hit' (b : UInt8) (s : ByteArray) (f k : Nat) (done : List ByteArray) (hk : k < s.size) (hb : s[k] = b) (h : Inv b s.data.toList f k (done.map (·.data.toList))) :
    Inv b s.data.toList (k + 1) (k + 1) ((done ++ [s.extract f k]).map (·.data.toList)) := by
  rw [List.map_append, List.map_cons, List.map_nil, extract_eq]
  exact Pieces.inv_hit b _ f k _ (by rw [Array.length_toList]; exact hk) hb h
theorem inv_end' (b : UInt8) (s : ByteArray) (f : Nat) (done : List ByteArray) (h : Inv b s.data.toList f s.size (done.map (·.data.toList))) (g : Nat) :
    Inv b s.data.toList g (s.size + 1) ((done ++ [s.extract f s.size]).map (·.data.toList)) := by
  rw [List.map_append, List.map_cons, List.map_nil, extract_eq]
  have e : s.data.toList.length = s.size := Array.length_toList
  rw [← e] at h ⊢
  exact Pieces.inv_end b _ f _ h g
theorem inv_skip' (b : UInt8) (s : ByteArray) (f k : Nat) (done : List ByteArray) (hf : f ≤ k) (hk : k < s.size) (hb : s[k] ≠ b) (h : Inv b s.data.toList f k (done.map (·.data.toList))) :
    Inv b s.data.toList f (k + 1) (done.map (·.data.toList)) :=
  Pieces.inv_skip b _ f k _ hf (by rw [Array.length_toList]; exact hk) hb h
theorem inv_done' (b : UInt8) (s : ByteArray) (f : Nat) (done : List ByteArray) (h : Inv b s.data.toList f (s.size + 1) (done.map (·.data.toList))) : done = strs b s := by
  unfold strs
  apply Pieces.of_data
  have e : s.data.toList.length = s.size := Array.length_toList
  rw [← e] at h
  exact Pieces.inv_done b _ f _ h

/-- A row of strings that the call owns. -/
def OwnStrs (w : World) (base : Nat) (v : Value) (xs : List ByteArray) : Prop := w.ownsRow base 9 1 v xs.length (xs.map Value.string)

theorem own_next {w : World} {base : Nat} {v : Value} {xs : List ByteArray} {x : ByteArray} (h : w.ownsRow base 9 1 v (xs.length + 1) (xs.map Value.string ++ [.string x])) : OwnStrs w base v (xs ++ [x]) := by
  unfold OwnStrs
  rw [List.length_append, List.map_append]
  exact h

set_option maxRecDepth 100000 in
set_option maxHeartbeats 2000000 in
theorem specSplit_any (s : ByteArray) (b : UInt8) (hs : s.size ≤ 1048576) (w : World) :
    Calls Try.prog 103 #[.string s, .int .u8 (b.toNat : Int)] w fun e w' => ∃ v, e = .returned v ∧ OwnStrs w' w.heap.size v (strs b s) ∧ Below w.heap.size w w' := by
  obtain ⟨i0, hi, hz0, hz1, hz2⟩ := info_parts info_str
  go_enter Try.func103, Try.ntmps103
  go_wp2
  go_loopw [5, 6, 7] (fun out from_ i wr => ∃ (f k : Nat) (done : List ByteArray), i = .int .i64 (k : Int) ∧ from_ = .int .i64 (f : Int) ∧ (k ≤ s.size → f ≤ k) ∧ k ≤ s.size + 1 ∧ done.length ≤ k ∧
      Inv b s.data.toList f k (done.map (·.data.toList)) ∧ OwnStrs wr w.heap.size out done ∧ Below w.heap.size w wr) (fun _ _ i _ => s.size + 1 - (intOf i).toNat)
  case atStart =>
    refine ⟨0, 0, [], rfl, rfl, fun _ => Nat.zero_le _, Nat.zero_le _, Nat.le_refl _, Pieces.inv_start _ _, ?_, (Below.refl _ _).alloc (Nat.le_refl _) _⟩
    exact World.ownsRow_lit _ _ 0 (Nat.le_refl _) (by unfold maxLen; omega) rfl
  case round =>
    obtain ⟨f, k, done, rfl, rfl, hf, hk, hl, hI, hO, hB⟩ := hrel
    have HI := Lib.hid hI
    unfold OwnStrs at hO
    have HO := Lib.hid hO
    clear hI hO
    have hsz := hB.size
    by_cases h1 : k < s.size
    · have hq : ((k : Int) == (s.size : Int)) = false := by rw [beq_eq_false_iff_ne]; omega
      have hf1 : f ≤ k := hf (by omega)
      by_cases hb : s[k] = b
      · have hb' : ((s[k].toNat : Int) == (b.toNat : Int)) = true := by rw [hb]; simp
        have HB := Lib.hid hb
        clear hb
        go_wp2_with (at_builtin; refine wpList_append_own _ rfl _ _ 80 rfl w.heap.size 9 i0 (.string ByteArray.empty) 1 16 Try.underlying80 hi hz0 hz1 hz2 rfl (by decide) _ _ _ rfl (HO.out.alloc _) ⟨wr.heap.size, 0, none⟩ 1 1 [.string (s.extract f k)] rfl rfl ?c1 ?c2 ?c3 ?c4 ?c5 ?_)
        case c1 => intro j u hj; exact Mem.cell_new wr _ _ j u hj
        case c2 => intro u hu; simp at hu; subst hu; rfl
        case c3 => unfold maxLen; omega
        case c4 => omega
        case c5 => simp; omega
        intro v' w1 hown1 hgrow _
        have hB1 : Below w.heap.size w w1 := (hB.alloc hsz _).grown hgrow (by simp; omega) (fun g hg => (HO.out.lt g hg).1)
        have H1 := Lib.hid hown1
        clear hown1 hgrow
        go_wp2
        go_roundw
        case rel => exact ⟨k + 1, k + 1, done ++ [s.extract f k], by go_num, by go_num, fun _ => Nat.le_refl _, by omega, by rw [List.length_append]; simp; omega, inv_hit' b s f k done h1 HB.out HI.out, own_next H1.out, hB1⟩
        case measure => simp [intOf]; omega
      · have hb' : ((s[k].toNat : Int) == (b.toNat : Int)) = false := by
          rw [beq_eq_false_iff_ne]; intro e; exact hb (UInt8.toNat_inj.1 (by omega))
        have HB := Lib.hid hb
        clear hb
        go_wp2
        go_roundw
        case rel => exact ⟨f, k + 1, done, by go_num, rfl, fun _ => by omega, by omega, by omega, inv_skip' b s f k done hf1 h1 HB.out HI.out, HO.out, hB⟩
        case measure => simp [intOf]; omega
    · by_cases h2 : k = s.size
      · have hq : ((k : Int) == (s.size : Int)) = true := by rw [beq_iff_eq]; omega
        have hf1 : f ≤ k := hf (by omega)
        have hk2 : k ≤ s.size := by omega
        have H2 := Lib.hid h2
        clear h2
        go_wp2_with (at_builtin; refine wpList_append_own _ rfl _ _ 80 rfl w.heap.size 9 i0 (.string ByteArray.empty) 1 16 Try.underlying80 hi hz0 hz1 hz2 rfl (by decide) _ _ _ rfl (HO.out.alloc _) ⟨wr.heap.size, 0, none⟩ 1 1 [.string (s.extract f k)] rfl rfl ?c1 ?c2 ?c3 ?c4 ?c5 ?_)
        case c1 => intro j u hj; exact Mem.cell_new wr _ _ j u hj
        case c2 => intro u hu; simp at hu; subst hu; rfl
        case c3 => unfold maxLen; omega
        case c4 => omega
        case c5 => simp; omega
        intro v' w1 hown1 hgrow _
        have hB1 : Below w.heap.size w w1 := (hB.alloc hsz _).grown hgrow (by simp; omega) (fun g hg => (HO.out.lt g hg).1)
        have H1 := Lib.hid hown1
        clear hown1 hgrow
        go_wp2
        go_roundw
        case rel =>
          have hi2 := HI.out
          rw [H2.out] at hi2
          exact ⟨k + 1, k + 1, done ++ [s.extract f k], by go_num, by go_num, fun h => by omega, by omega, by rw [List.length_append]; simp; omega, by rw [H2.out]; exact inv_end' b s f done hi2 _, own_next H1.out, hB1⟩
        case measure => simp [intOf]; omega
      · have H2 : Hid (k = s.size + 1) := by
          have : k = s.size + 1 := by omega
          exact this
        go_wp2
        go_ret
        have hi2 := HI.out
        rw [H2.out] at hi2
        have hd := inv_done' b s f done hi2
        refine ⟨_, rfl, ?_, hB⟩
        rw [← hd]
        exact HO.out

theorem own_row {w : World} {base : Nat} {v : Value} {xs : List ByteArray} (h : OwnStrs w base v xs) (hne : xs.length ≠ 0) :
    ∃ g cap, v = .slice (some ⟨g, 0, none⟩) xs.length cap ∧ base ≤ g ∧ g < w.heap.size ∧ StrRow w g 0 xs := by
  unfold OwnStrs at h
  obtain ⟨g, cap, rfl⟩ : ∃ g cap, v = .slice (some ⟨g, 0, none⟩) xs.length cap := by
    rcases h.2 with ⟨_, h0⟩ | ⟨g, cap, _, hv, _⟩
    · exact absurd h0 hne
    · exact ⟨g, cap, hv⟩
  obtain ⟨h1, h2⟩ := h.lt g rfl
  refine ⟨g, cap, rfl, h1, h2, fun j hj => ?_⟩
  rw [Nat.zero_add, h.cellAt j (by omega), List.getElem?_map, List.getD, List.getElem?_eq_getElem hj]
  rfl

theorem toNat_back (b : UInt8) : UInt8.ofNat ((b.toNat : Int)).toNat = b := by
  rw [Int.toNat_natCast]; exact UInt8.ofNat_toNat

/-- What the library's cut lays in its world: a new row of the pieces. -/
def cutWorld (w : World) (b : UInt8) (s : ByteArray) : World := (w.alloc (.cells #[.int .u8 (b.toNat : Int)] 5)).alloc (.cells ((strs b s).map Value.string).toArray 9)

theorem cut_below (w : World) (b : UInt8) (s : ByteArray) : Below w.heap.size w (cutWorld w b s) := ((Below.refl _ _).alloc (Nat.le_refl _) _).alloc (by simp) _
theorem cut_size (w : World) (b : UInt8) (s : ByteArray) : (cutWorld w b s).heap.size = w.heap.size + 2 := by unfold cutWorld; simp
theorem cut_row (w : World) (b : UInt8) (s : ByteArray) : StrRow (cutWorld w b s) (w.heap.size + 1) 0 (strs b s) := by
  intro j hj
  unfold cutWorld
  rw [World.cell?_alloc_at _ _ _ _ (by simp), Nat.zero_add, List.getElem?_toArray, List.getElem?_map, List.getD, List.getElem?_eq_getElem hj]
  rfl
theorem cut_frozen (w : World) (b : UInt8) (s : ByteArray) (j : Nat) : (cutWorld w b s).frozen? ⟨w.heap.size + 1, j, none⟩ = false := by
  unfold cutWorld
  exact World.frozen?_alloc_at _ _ _ _ (by simp)

end Go.Proofs.Ytpakjcagdnnedaa
