/-
  The statement HashHex answers true, and leaves all that was there. Conditions: texts within the reach; the table's numbers.
-/
import Derived.Test.YtbdepocmepkanaaDoorShown
import Derived.Test.YtbdepocmepkanaaDoorRefHex
namespace Go.Proofs.YtbdepocmepkanaaDoor
open Go.RowKit

set_option maxRecDepth 20000 in
set_option maxHeartbeats 800000 in
theorem hexes_any (w : World) (s t : List UInt8) (hT : TabW w) (hs : s.length ≤ 140737488351232) (ht : t.length ≤ 140737488351232) :
    Calls Tryd.prog 4 #[.string (strB s), .string (strB t)] w fun e w' => e = .returned (.bool true) ∧ Below w.heap.size w w' := by
  go_enter Tryd.func4, Tryd.ntmps4
  go_wp2_with fail
  refine (shown_any w hT).mono ?_
  rintro e1 w1 ⟨rfl, hb1⟩
  go_wp2_with fail
  refine (unhex_any _ t (by omega)).mono ?_
  rintro e1 w2 ⟨rfl, hb2⟩
  have HB2 := hide (hb1.trans (hb2.mono hb1.size))
  clear hb1 hb2
  go_wp2_with fail
  refine (refUnhex_any _ t (by omega)).mono ?_
  rintro e1 w3 ⟨rfl, hb3⟩
  have HB3 := hide (HB2.out.trans (hb3.mono HB2.out.size))
  clear hb3
  generalize strB ((unhex t).getD []) = a
  generalize (unhex t).isSome = b
  go_wp2_with fail
  refine (hex_any _ s hs).mono ?_
  rintro e1 w4 ⟨rfl, hb4⟩
  have HB4 := hide (HB3.out.trans (hb4.mono HB3.out.size))
  clear hb4
  go_wp2_with fail
  refine (refHex_any _ s hs).mono ?_
  rintro e1 w5 ⟨rfl, hb5⟩
  have HB5 := hide (HB4.out.trans (hb5.mono HB4.out.size))
  clear hb5
  go_wp2
  go_ret
  exact ⟨rfl, HB5.out⟩
theorem hexes_bytes (w : World) (s t : ByteArray) (hT : TabW w) (hs : s.size ≤ 140737488351232) (ht : t.size ≤ 140737488351232) :
    Calls Tryd.prog 4 #[.string s, .string t] w fun e w' => e = .returned (.bool true) ∧ Below w.heap.size w w' := by
  have := hexes_any w s.data.toList t.data.toList hT (by simpa using hs) (by simpa using ht)
  rw [strB_of, strB_of] at this
  exact this
end Go.Proofs.YtbdepocmepkanaaDoor
