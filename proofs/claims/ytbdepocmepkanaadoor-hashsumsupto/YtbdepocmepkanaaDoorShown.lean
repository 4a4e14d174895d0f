/-
  The document's example that stands at each statement's head answers true. Condition: the table holds its numbers.
-/
import Derived.Test.YtbdepocmepkanaaDoorSum
import Derived.Test.YtbdepocmepkanaaDoorHex
namespace Go.Proofs.YtbdepocmepkanaaDoor
open Go.RowKit

theorem out_length (s : St) : (out s).length = 32 := rfl
theorem sha_length (l : List UInt8) : (sha l).length = 32 := out_length _
def abcHex : List UInt8 := [98, 97, 55, 56, 49, 54, 98, 102, 56, 102, 48, 49, 99, 102, 101, 97, 52, 49, 52, 49, 52, 48, 100, 101, 53, 100, 97, 101, 50, 50, 50, 51, 98, 48, 48, 51, 54, 49, 97, 51, 57, 54, 49, 55, 55, 97, 57, 99, 98, 52, 49, 48, 102, 102, 54, 49, 102, 50, 48, 48, 49, 53, 97, 100]
theorem bytes_list (l : List UInt8) : (strB l).toList = l := by
  rw [ByteArray.toList_eq]
  exact strB_list l
theorem abc_eq : ((strB abcHex).toList == abcHex) = true := by rw [bytes_list]; simp
theorem ps1 (w : World) (l : List UInt8) (n : Nat) (hn : n = w.heap.size) : Ps (w.alloc (.cells #[.string (strB l)] 9)) (.slice (some ⟨n, 0, none⟩) 1 1) [l] := by
  subst hn
  refine ⟨_, _, rfl, Nat.le_refl _, by decide, fun _ => ⟨w.heap.size, 0, rfl, by simp, fun j hj => ?_⟩⟩
  obtain rfl : j = 0 := by simpa using hj
  rw [World.cell?_alloc_at _ _ _ _ rfl]
  rfl

set_option maxRecDepth 20000 in
set_option maxHeartbeats 800000 in
theorem shown_any (w : World) (hT : TabW w) : Calls Tryd.prog 7 #[] w fun e w' => e = .returned (.bool true) ∧ Below w.heap.size w w' := by
  have hH : Hid (hex (sha [97, 98, 99]) = abcHex) := sha_abc
  have hL := sha_length [97, 98, 99]
  have hps := hide (ps1 w [97, 98, 99] w.heap.size rfl)
  have hT1 := hide (hT.keep ((Below.refl _ _).alloc (Nat.le_refl _) (.cells #[.string (strB [97, 98, 99])] 9)) hT.1)
  have hsm : ∀ W v, Ps W v [[97, 98, 99]] → TabW W → Calls Tryd.prog 8 #[v] W fun e w' => e = .returned (.string (strB (sha [97, 98, 99]))) ∧ Below W.heap.size W w' := fun W v hp ht => sum_any W v [[97, 98, 99]] hp ht (by simp)
  have HSM := hide hsm
  clear hsm hT
  generalize sha [97, 98, 99] = L at *
  go_enter Tryd.func7, Tryd.ntmps7
  go_wp2_with fail
  refine (HSM.out _ _ hps.out hT1.out).mono ?_
  rintro e1 w1 ⟨rfl, hb1⟩
  go_wp2_with fail
  refine (hex_any _ L (by omega)).mono ?_
  rintro e1 w2 ⟨rfl, hb2⟩
  rw [hH.out]
  have hq : ((strB abcHex).toList == [98, 97, 55, 56, 49, 54, 98, 102, 56, 102, 48, 49, 99, 102, 101, 97, 52, 49, 52, 49, 52, 48, 100, 101, 53, 100, 97, 101, 50, 50, 50, 51, 98, 48, 48, 51, 54, 49, 97, 51, 57, 54, 49, 55, 55, 97, 57, 99, 98, 52, 49, 48, 102, 102, 54, 49, 102, 50, 48, 48, 49, 53, 97, 100]) = true := abc_eq
  have hb := ((((Below.refl _ _).alloc (Nat.le_refl _) _).trans (hb1.mono (by simp))).trans (hb2.mono (by have := hb1.size; simp at this; omega)))
  clear hb1 hb2
  go_wp2
  go_ret
  exact ⟨rfl, hb⟩
end Go.Proofs.YtbdepocmepkanaaDoor
