/-
  pick, named: which of some things a raw number speaks of. Conditions: numbers that are ints.
-/
import Derived.Test.YtlejgdjkdbamkaaSmall
namespace Go.Proofs.Ytlejgdjkdbamkaa
open Go.RowKit

def pk (c n : Int) : Int := (if c < 0 then -(c + 1) else c) % n
theorem pk_range {c n : Int} (hn : 0 < n) : 0 ≤ pk c n ∧ pk c n < n := ⟨Int.emod_nonneg _ (by omega), Int.emod_lt_of_pos _ hn⟩
theorem ret_i {a b : Int} (h : a = b) : Ending.returned (.int .i64 a) = .returned (.int .i64 b) := by rw [h]
theorem ret_s {a b : ByteArray} (h : a = b) : Ending.returned (.string a) = .returned (.string b) := by rw [h]
set_option maxRecDepth 20000 in
theorem pick_any (w : World) (c n : Int) (hc : -9223372036854775808 ≤ c ∧ c ≤ 9223372036854775807) (hn : 0 < n ∧ n ≤ 1000) :
    Calls Try.prog 11 #[.int .i64 c, .int .i64 n] w fun e w' => e = .returned (.int .i64 (pk c n)) ∧ w' = w := by
  have hn0 : ¬ n = 0 := by omega
  unfold pk
  by_cases h : c < 0
  · rw [if_pos h]
    have hm : (-(c + 1)).tmod n = (-(c + 1)) % n := Int.tmod_eq_emod_of_nonneg (by omega)
    have h1 := Int.emod_nonneg (-(c + 1)) (show n ≠ 0 by omega)
    have h2 := Int.emod_lt_of_pos (-(c + 1)) (show 0 < n by omega)
    go_enter Try.func11, Try.ntmps11
    go_wp2
    go_ret
    exact ⟨ret_i (by first | rfl | omega), rfl⟩
  · rw [if_neg h]
    have hm : c.tmod n = c % n := Int.tmod_eq_emod_of_nonneg (by omega)
    have h1 := Int.emod_nonneg c (show n ≠ 0 by omega)
    have h2 := Int.emod_lt_of_pos c (show 0 < n by omega)
    go_enter Try.func11, Try.ntmps11
    go_wp2
    go_ret
    exact ⟨ret_i (by first | rfl | omega), rfl⟩

def fourN (i : Int) : Nm := if i = 0 then [97] else if i = 1 then [98] else if i = 2 then [99] else [108, 111, 110, 103, 45, 110, 97, 109, 101, 126]
def nmd (s : Nm) (c : Int) : Nm := if c.tmod 5 = 0 then s else fourN (pk c 4)
theorem four0 (W : World) : (Instr.index 96 (.agg #[.string ⟨#[97]⟩, .string ⟨#[98]⟩, .string ⟨#[99]⟩, .string ⟨#[108, 111, 110, 103, 45, 110, 97, 109, 101, 126]⟩]) (.int .i64 0)).run Try.prog W = .ok (.string ⟨#[97]⟩) W := by kernel_rfl
theorem four1 (W : World) : (Instr.index 96 (.agg #[.string ⟨#[97]⟩, .string ⟨#[98]⟩, .string ⟨#[99]⟩, .string ⟨#[108, 111, 110, 103, 45, 110, 97, 109, 101, 126]⟩]) (.int .i64 1)).run Try.prog W = .ok (.string ⟨#[98]⟩) W := by kernel_rfl
theorem four2 (W : World) : (Instr.index 96 (.agg #[.string ⟨#[97]⟩, .string ⟨#[98]⟩, .string ⟨#[99]⟩, .string ⟨#[108, 111, 110, 103, 45, 110, 97, 109, 101, 126]⟩]) (.int .i64 2)).run Try.prog W = .ok (.string ⟨#[99]⟩) W := by kernel_rfl
theorem four3 (W : World) : (Instr.index 96 (.agg #[.string ⟨#[97]⟩, .string ⟨#[98]⟩, .string ⟨#[99]⟩, .string ⟨#[108, 111, 110, 103, 45, 110, 97, 109, 101, 126]⟩]) (.int .i64 3)).run Try.prog W = .ok (.string ⟨#[108, 111, 110, 103, 45, 110, 97, 109, 101, 126]⟩) W := by kernel_rfl
set_option maxRecDepth 20000 in
theorem named_any (w : World) (s : Nm) (c : Int) (hc : -9223372036854775808 ≤ c ∧ c ≤ 9223372036854775807) :
    Calls Try.prog 22 #[.string (strB s), .int .i64 c] w fun e w' => e = .returned (.string (strB (nmd s c))) ∧ w' = w := by
  unfold nmd
  by_cases h : c.tmod 5 = 0
  · rw [if_pos h]
    have hb : (c.tmod 5 == 0) = true := by simp [h]
    go_enter Try.func22, Try.ntmps22
    go_wp2
    go_ret
    exact ⟨rfl, rfl⟩
  · rw [if_neg h]
    have hb : (c.tmod 5 == 0) = false := by simp [h]
    have hr := pk_range (c := c) (n := 4) (by omega)
    have hp := pick_any w c 4 hc (by omega)
    have : pk c 4 = 0 ∨ pk c 4 = 1 ∨ pk c 4 = 2 ∨ pk c 4 = 3 := by omega
    clear hr
    have k0 := four0
    have k1 := four1
    have k2 := four2
    have k3 := four3
    rcases this with e | e | e | e
    all_goals
      (rw [e] at hp ⊢
       go_enter Try.func22, Try.ntmps22
       go_wp2_with fail
       refine hp.mono ?_
       rintro e w' ⟨rfl, rfl⟩
       go_wp2
       go_ret
       exact ⟨rfl, rfl⟩)
end Go.Proofs.Ytlejgdjkdbamkaa
