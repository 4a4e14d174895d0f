/-
  What laying texts one behind the other answers; the statement HashParts answers true, and leaves all that was there. Conditions: all texts together of at most 1048576 bytes; the table's numbers.
-/
import Derived.Test.YtbdepocmepkanaaDoorShown
namespace Go.Proofs.YtbdepocmepkanaaDoor
open Go.RowKit

theorem strCells_bc (l : List UInt8) : Lib.strCells (strB l) = bc l := by
  unfold Lib.strCells bc
  rw [strB_list]

set_option maxRecDepth 20000 in
set_option maxHeartbeats 800000 in
theorem joined_any (w : World) (v : Value) (ls : List (List UInt8)) (h : Ps w v ls) (hsz : ls.flatten.length ≤ 1048576) :
    Calls Tryd.prog 10 #[v] w fun e w' => e = .returned (.string (strB ls.flatten)) ∧ Below w.heap.size w w' := by
  obtain ⟨ao, cap, rfl, h1, h2, h4⟩ := h
  obtain ⟨i0, hi, hz0, hz1, hz2⟩ := info_parts Tryd.info5
  unfold maxLen at h2
  go_enter Tryd.func10, Tryd.ntmps10
  go_wp2_with fail
  go_loopw [3, 4] (fun x t wr => ∃ k : Nat, k ≤ ls.length ∧ t = .int .i64 k ∧ wr.ownsRow w.heap.size 5 1 x (ls.take k).flatten.length (bc (ls.take k).flatten) ∧ Below w.heap.size w wr)
    (fun _ t _ => ls.length - (intOf t).toNat)
  case atStart => exact ⟨0, by omega, rfl, World.ownsRow_nil _ _ _ _, Below.refl _ _⟩
  case round =>
    obtain ⟨k, hk, rfl, hown, hb⟩ := hrel
    by_cases hlt : k < ls.length
    · obtain ⟨b, off, rfl, hbl, hc⟩ := h4 (by rintro rfl; simp at hlt)
      have hcell := (hb.cell (p := ⟨b, off + k, none⟩) hbl).trans (hc k hlt)
      have hn : (ls.take (k + 1)).flatten = (ls.take k).flatten ++ ls[k] := by
        rw [List.take_succ_eq_append_getElem hlt, List.flatten_append]; simp
      have hle : (ls.take (k + 1)).flatten.length ≤ ls.flatten.length := by
        have : ls.flatten = (ls.take (k + 1)).flatten ++ (ls.drop (k + 1)).flatten := by rw [← List.flatten_append, List.take_append_drop]
        rw [this, List.length_append]; omega
      have hsum : (ls.take k).flatten.length + (strB ls[k]).size ≤ 1048576 := by
        rw [hn, List.length_append] at hle; rw [strB_size]; omega
      have HN := hide hn
      have hz := hb.size
      clear hn hle hsz hc h4
      generalize (ls.take k).flatten = A at *
      generalize ls[k] = p at *
      go_wp2_with (at_builtin; refine Lib.wpList_append_own_string _ rfl (.tmp 11) (.tmp 15) 25 9 rfl w.heap.size 5 i0 Tryd.underlying25 Tryd.underlying9 hi hz0 hz1 hz2 _ A.length (bc A) rfl hown (strB p) rfl (by unfold maxLen; omega) (by omega) hz ?_; intro v2 w2 hown2 hgrow2 hv2)
      have hb2 := hb.grown hgrow2 hz (fun k hk => (hown.lt k hk).1)
      rw [strCells_bc, ← bc_append, strB_size, ← List.length_append, ← HN.out] at hown2
      clear hown hgrow2 hb hv2
      go_roundw
      case rel => exact ⟨k + 1, by omega, by go_num, hown2, hb2⟩
      case measure => simp [intOf]; omega
    · have e : ls.take k = ls := List.take_of_length_le (by omega)
      rw [e] at hown
      have hsl := sl_of_own hown
      clear e hown h4
      go_wp2_with (refine wpList_strB _ rfl (.tmp 17) rfl hsl rfl ?_)
      go_ret
      exact ⟨rfl, hb⟩
end Go.Proofs.YtbdepocmepkanaaDoor
