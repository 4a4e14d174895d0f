/-
  The statement HashParts answers true, and leaves all that was there. Conditions: all texts together of at most 1048576 bytes; the table's numbers.
-/
import Derived.Test.YtbdepocmepkanaaDoorJoined
namespace Go.Proofs.YtbdepocmepkanaaDoor
open Go.RowKit

set_option maxRecDepth 20000 in
set_option maxHeartbeats 800000 in
theorem parts_any (w : World) (v : Value) (ls : List (List UInt8)) (h : Ps w v ls) (hT : TabW w) (hsz : ls.flatten.length ≤ 1048576) :
    Calls Tryd.prog 5 #[v] w fun e w' => e = .returned (.bool true) ∧ Below w.heap.size w w' := by
  have HP := hide h
  obtain ⟨ao, cap, rfl, _, _, _⟩ := h
  have hlen := strB_size (sha ls.flatten)
  rw [sha_length] at hlen
  have hfl : ([ls.flatten] : List (List UInt8)).flatten = ls.flatten := by simp
  have HFL := hide hfl
  clear hfl
  go_enter Tryd.func5, Tryd.ntmps5
  go_wp2_with fail
  refine (shown_any w hT).mono ?_
  rintro e1 w1 ⟨rfl, hb1⟩
  have HT1 := hide (hT.keep hb1 hT.1)
  have HP1 := hide (HP.out.keep hb1)
  have HB1 := hide hb1
  clear hb1
  go_wp2_with fail
  refine (sum_any _ _ ls HP1.out HT1.out (by omega)).mono ?_
  rintro e1 w2 ⟨rfl, hb2⟩
  have HT2 := hide (HT1.out.keep hb2 HT1.out.1)
  have HP2 := hide (HP1.out.keep hb2)
  have HB2 := hide (HB1.out.trans (hb2.mono HB1.out.size))
  clear hb2
  go_wp2_with fail
  refine (joined_any _ _ ls HP2.out hsz).mono ?_
  rintro e1 w3 ⟨rfl, hb3⟩
  have HT3 := hide (HT2.out.keep hb3 HT2.out.1)
  have HB3 := hide (HB2.out.trans (hb3.mono HB2.out.size))
  clear hb3
  go_wp2_with fail
  refine (sum_any _ _ [ls.flatten] (ps1 w3 ls.flatten _ rfl) (HT3.out.keep ((Below.refl _ _).alloc (Nat.le_refl _) _) HT3.out.1) (by rw [HFL.out]; omega)).mono ?_
  rintro e1 w4 ⟨rfl, hb4⟩
  rw [HFL.out]
  have HB4 := hide ((HB3.out.alloc HB3.out.size (.cells #[.string (strB ls.flatten)] 9)).trans (hb4.mono (by have := HB3.out.size; simp; omega)))
  clear hb4
  go_wp2
  go_ret
  exact ⟨rfl, HB4.out⟩
end Go.Proofs.YtbdepocmepkanaaDoor
