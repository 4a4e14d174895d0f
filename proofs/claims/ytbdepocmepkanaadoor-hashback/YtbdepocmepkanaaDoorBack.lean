/-
  The statement HashBack answers true, and leaves all that was there. Conditions: texts within the reach; the table's numbers.
-/
import Derived.Test.YtbdepocmepkanaaDoorShown
import Derived.Test.YtbdepocmepkanaaDoorUnhex
namespace Go.Proofs.YtbdepocmepkanaaDoor
open Go.RowKit

set_option maxRecDepth 20000 in
set_option maxHeartbeats 800000 in
theorem back_any (w : World) (s t : List UInt8) (hT : TabW w) (hs : s.length ≤ 140737488351232) (ht : t.length ≤ 140737488351232) :
    Calls Tryd.prog 6 #[.string (strB s), .string (strB t)] w fun e w' => e = .returned (.bool true) ∧ Below w.heap.size w w' := by
  have hu := hide (unhex_hex s)
  have hl := hide (hex_length s)
  go_enter Tryd.func6, Tryd.ntmps6
  go_wp2_with fail
  refine (shown_any w hT).mono ?_
  rintro e1 w1 ⟨rfl, hb1⟩
  go_wp2_with fail
  refine (hex_any _ s hs).mono ?_
  rintro e1 w2 ⟨rfl, hb2⟩
  go_wp2_with fail
  refine (unhex_any _ (hex s) (by rw [hl.out]; omega)).mono ?_
  rintro e1 w3 ⟨rfl, hb3⟩
  rw [hu.out]
  simp only [Option.getD_some, Option.isSome_some]
  go_wp2_with fail
  refine (unhex_any _ t (by omega)).mono ?_
  rintro e1 w4 ⟨rfl, hb4⟩
  have hb := ((hb1.trans (hb2.mono hb1.size)).trans (hb3.mono (Nat.le_trans hb1.size hb2.size))).trans (hb4.mono (Nat.le_trans hb1.size (Nat.le_trans hb2.size hb3.size)))
  clear hb1 hb2 hb3 hb4
  cases hx : unhex t with
  | none =>
    simp only [Option.getD_none, Option.isSome_none]
    go_wp2
    go_ret
    exact ⟨rfl, hb⟩
  | some b =>
    have hbk := hide (hex_unhex t b hx)
    have hbl : b.length ≤ 140737488351232 := by
      have := hex_length b
      rw [hbk.out] at this
      omega
    clear hx
    simp only [Option.getD_some, Option.isSome_some]
    go_wp2_with fail
    refine (hex_any _ b hbl).mono ?_
    rintro e1 w5 ⟨rfl, hb5⟩
    rw [hbk.out]
    have hb' := hb.trans (hb5.mono hb.size)
    clear hb hb5
    go_wp2
    go_ret
    exact ⟨rfl, hb'⟩
theorem back_bytes (w : World) (s t : ByteArray) (hT : TabW w) (hs : s.size ≤ 140737488351232) (ht : t.size ≤ 140737488351232) :
    Calls Tryd.prog 6 #[.string s, .string t] w fun e w' => e = .returned (.bool true) ∧ Below w.heap.size w w' := by
  have := back_any w s.data.toList t.data.toList hT (by simpa using hs) (by simpa using ht)
  rw [strB_of, strB_of] at this
  exact this
end Go.Proofs.YtbdepocmepkanaaDoor
