/-
  The law's digits: a number as text. Conditions: at most 99999.
-/
import Derived.Test.YtblniomnhpedjaaGreatDoorF31TLog
namespace Go.Proofs.YtblniomnhpedjaaGreatDoor
open Go.RowKit

/-- A digit as a byte. -/
def chT (d : Nat) : UInt8 := UInt8.ofNat (48 + d)
theorem chT_nat {d : Nat} (h : d < 10) : (chT d).toNat = 48 + d := by
  unfold chT
  rw [UInt8.toNat_ofNat']
  omega
/-- A number's digits, but of 0 none. -/
def dgs (n : Nat) : Bs := if n = 0 then [] else dgs (n / 10) ++ [chT (n % 10)]
termination_by n
decreasing_by omega
/-- A number's digits. -/
def dgT (n : Nat) : Bs := dgs (n / 10) ++ [chT (n % 10)]
theorem dgs_pos {n : Nat} (h : n ≠ 0) : dgs n = dgs (n / 10) ++ [chT (n % 10)] := by
  conv => lhs; unfold dgs
  rw [if_neg h]
theorem dgs_zero : dgs 0 = [] := by unfold dgs; rfl
theorem dgs_len : ∀ (k n : Nat), n < 10 ^ k → (dgs n).length ≤ k
  | 0, n, h => by
    obtain rfl : n = 0 := by simpa using h
    rw [dgs_zero]
    simp
  | k + 1, n, h => by
    by_cases hn : n = 0
    · rw [hn, dgs_zero]
      simp
    · rw [dgs_pos hn, List.length_append]
      have := dgs_len k (n / 10) (by rw [Nat.pow_succ] at h; omega)
      simp
      omega
theorem strB_add (a b : Bs) : strB a ++ strB b = strB (a ++ b) := by
  unfold strB
  apply ByteArray.ext
  simp
theorem add_str (W : World) (a b : Bs) (h : a.length + b.length ≤ 9223372036854775807) : (Op.stringOp .add (strB a) (strB b)).run Tryz.prog W = .ok (.string (strB (a ++ b))) W := by
  rw [run_string_add_sum _ _ _ (by rw [strB_size, strB_size]; omega), strB_add]
/-- A byte slice that was just built, as text. -/
theorem one_text (W : World) (c : UInt8) : (convert 68 9 (.slice (some ⟨W.heap.size, 0, none⟩) 1 1)).run Tryz.prog (W.alloc (.cells #[.int .u8 (c.toNat : Int)] 5)) = .ok (.string (strB [c])) (W.alloc (.cells #[.int .u8 (c.toNat : Int)] 5)) := by
  refine run_strW _ _ [c] ⟨some ⟨W.heap.size, 0, none⟩, 1, rfl, Nat.le_refl _, by unfold maxLen; omega, (fun h => by cases h), fun _ => ⟨W.heap.size, 0, rfl, by simp, fun j hj => ?_⟩⟩
  have hj' : j = 0 := by simpa using hj
  subst hj'
  rw [cell_of (heap_last W _)]
  rfl
theorem digit_text (W : World) (n : Nat) : (convert 68 9 (.slice (some ⟨W.heap.size, 0, none⟩) 1 1)).run Tryz.prog (W.alloc (.cells #[.int .u8 (48 + (n : Int) % 10)] 5)) = .ok (.string (strB [chT (n % 10)])) (W.alloc (.cells #[.int .u8 (48 + (n : Int) % 10)] 5)) := by
  have h := one_text W (chT (n % 10))
  rw [chT_nat (show n % 10 < 10 by omega), show ((48 + n % 10 : Nat) : Int) = 48 + (n : Int) % 10 by omega] at h
  exact h
set_option maxRecDepth 20000 in
theorem digits_any (w : World) (n : Nat) (hn : n ≤ 99999) : Calls Tryz.prog 33 #[.int .i64 (n : Int)] w fun e w' => e = .returned (.string (strB (dgT n))) ∧ Below w.heap.size w w' := by
  have hcv := digit_text w n
  have hb1 : Below w.heap.size w (w.alloc (.cells #[.int .u8 (48 + (n : Int) % 10)] 5)) := (Below.refl _ w).alloc (Nat.le_refl _) _
  go_enter Tryz.func33, Tryz.ntmps33
  go_wp2_with fail
  clear hcv
  generalize w.alloc (.cells #[.int .u8 (48 + (n : Int) % 10)] 5) = w1 at *
  go_loopw [0, 3] (fun t u wr => ∃ (m : Nat) (s : Bs), t = .int .i64 m ∧ m ≤ n ∧ u = .string (strB s) ∧ dgs m ++ s = dgT n ∧ Below w.heap.size w wr) (fun t _ _ => (intOf t).toNat)
  case atStart => exact ⟨n / 10, [chT (n % 10)], by first | rfl | go_num, by omega, rfl, rfl, hb1⟩
  case round =>
    obtain ⟨m, s, rfl, hm, rfl, hd, hbr⟩ := hrel
    by_cases h0 : m = 0
    · subst h0
      rw [dgs_zero, List.nil_append] at hd
      subst hd
      go_wp2_with fail
      skip
      try go_wp2
      go_ret
      exact ⟨rfl, hbr⟩
    · have hpos : decide ((0 : Int) < (m : Int)) = true := decide_eq_true (by omega)
      have hcv := digit_text wr m
      have hb2 : Below w.heap.size w (wr.alloc (.cells #[.int .u8 (48 + (m : Int) % 10)] 5)) := hbr.alloc hbr.size _
      have hd2 : dgs (m / 10) ++ ([chT (m % 10)] ++ s) = dgT n := by rw [← hd, dgs_pos h0, List.append_assoc]
      have hsl : s.length ≤ 10 := by
        have h9 : (dgT n).length ≤ 6 := by
          unfold dgT
          rw [List.length_append]
          have := dgs_len 5 (n / 10) (by omega)
          simp
          omega
        rw [← hd, List.length_append] at h9
        omega
      have hadd := fun W => add_str W [chT (m % 10)] s (by simp; omega)
      have HD := hide (And.intro hd2 hb2)
      clear hd hd2 hb2 hsl
      go_wp2_with fail
      generalize wr.alloc (.cells #[.int .u8 (48 + (m : Int) % 10)] 5) = w2 at *
      go_roundw
      case rel => exact ⟨m / 10, _, by first | rfl | go_num, by omega, rfl, HD.out.1, HD.out.2⟩
      case measure => simp [intOf]; omega
end Go.Proofs.YtblniomnhpedjaaGreatDoor
