/-
  What turning a number to the right answers: RotateLeft32, rotr, the reference's rotr. Conditions: by 1 to 31 bits.
-/
import Derived.Test.YtdbmngbinhemeabDoorCHSha
import Derived.Test.YtdbmngbinhemeabDoorRows
import Derived.Lib.Tables
import Derived.Lib.BitFns
namespace Go.Proofs.YtdbmngbinhemeabDoor
open Go.RowKit

/-- A number of 32 bits as the program's. -/
def u (x : UInt32) : Int := (x.toNat : Int)

theorem u_nat (x : UInt32) : u x = (x.toNat : Int) := rfl
theorem u_lt (x : UInt32) : x.toNat < 4294967296 := x.toNat_lt
theorem u_or (x y : UInt32) : bits .or .u32 (u x) (u y) = u (x ||| y) := by
  unfold u
  rw [u32_or_nat _ _ (u_lt x) (u_lt y), UInt32.toNat_or]
theorem u_xor (x y : UInt32) : bits .xor .u32 (u x) (u y) = u (x ^^^ y) := by
  unfold u
  rw [u32_xor_nat _ _ (u_lt x) (u_lt y), UInt32.toNat_xor]
theorem u_and (x y : UInt32) : bits .and .u32 (u x) (u y) = u (x &&& y) := by
  unfold u
  rw [u32_and_nat _ _ (u_lt x) (u_lt y), UInt32.toNat_and]
theorem u_not (x : UInt32) : bits .xor .u32 IntKind.u32.max (u x) = u (4294967295 ^^^ x) := by
  have := u_xor 4294967295 x
  rw [← this]
  rfl
theorem u_add (x y : UInt32) : (u x + u y) % 4294967296 = u (x + y) := by
  unfold u
  rw [UInt32.toNat_add]
  omega
theorem u_shl (x n : UInt32) (k : Nat) (hk : n.toNat = k) (h : k < 32) : u x * 2 ^ k % 4294967296 = u (x <<< n) := by
  unfold u
  rw [UInt32.toNat_shiftLeft, hk, Nat.mod_eq_of_lt h, Nat.shiftLeft_eq, show ((2 : Int) ^ k) = ((2 ^ k : Nat) : Int) from by simp, ← Int.natCast_mul]
  omega
theorem u_shr (x n : UInt32) (k : Nat) (hk : n.toNat = k) (h : k < 32) : u x / 2 ^ k = u (x >>> n) := by
  unfold u
  rw [UInt32.toNat_shiftRight, hk, Nat.mod_eq_of_lt h, Nat.shiftRight_eq_div_pow, show ((2 : Int) ^ k) = ((2 ^ k : Nat) : Int) from by simp, ← Int.natCast_ediv]
theorem u32_sub (n : UInt32) (k : Nat) (hk : n.toNat = k) (h : k < 32) : (32 - n).toNat = 32 - k := by
  rw [UInt32.toNat_sub, hk]
  simp
  omega
theorem u_rotr (x n : UInt32) (k : Nat) (hk : n.toNat = k) (h0 : 0 < k) (h : k < 32) : bits .or .u32 (u x * 2 ^ (32 - k) % 4294967296) (u x / 2 ^ k) = u (rotr x n) := by
  rw [u_shl x (32 - n) (32 - k) (u32_sub n k hk h) (by omega), u_shr x n k hk h, u_or]
  rfl
theorem u_rotr' (x n : UInt32) (k : Nat) (hk : n.toNat = k) (h0 : 0 < k) (h : k < 32) : bits .or .u32 (u x / 2 ^ k) (u x * 2 ^ (32 - k) % 4294967296) = u (rotr x n) := by
  rw [u_shl x (32 - n) (32 - k) (u32_sub n k hk h) (by omega), u_shr x n k hk h, u_or, UInt32.or_comm]
  rfl

theorem and31 : ∀ k : Fin 32, 0 < k.val → bits .and .u64 (IntKind.u64.wrap (-(k.val : Int))) 31 = ((32 - k.val : Nat) : Int) := by decide +kernel

theorem ret_int {k : IntKind} {a b : Int} (h : a = b) : Ending.returned (.int k a) = .returned (.int k b) := by rw [h]

theorem rotl_any (w : World) (x n : UInt32) (k : Nat) (hk : n.toNat = k) (h0 : 0 < k) (h1 : k < 32) :
    Calls Tryd.prog 151 #[.int .u32 (u x), .int .i64 (-(k : Int))] w fun e w' => e = .returned (.int .u32 (u (rotr x n))) ∧ w' = w := by
  have ha := and31 ⟨k, h1⟩ h0
  simp only at ha
  have hr := u_rotr x n k hk h0 h1
  obtain ⟨j, hj⟩ : ∃ j, j = 32 - k := ⟨_, rfl⟩
  rw [← hj] at hr ha
  have hj1 : j < 32 := by omega
  have hj0 : 0 < j := by omega
  have HJ := hide hj
  have HR := hide hr
  have HK := hide hk
  clear hj hr hk
  go_enter Tryd.func151, Tryd.ntmps151
  go_wp2
  go_ret
  exact ⟨ret_int (by rw [show 32 - j = k from by have := HJ.out; omega]; exact HR.out), rfl⟩
theorem rrotr_any (w : World) (x n : UInt32) (i : Int) (hi : i = n.toNat) (h0 : 0 < i) (h1 : i < 32) :
    Calls Tryd.prog 141 #[.int .u32 (u x), .int .u32 i] w fun e w' => e = .returned (.int .u32 (u (rotr x n))) ∧ w' = w := by
  obtain ⟨k, rfl⟩ := Int.eq_ofNat_of_zero_le (show 0 ≤ i by omega)
  have hr := u_rotr' x n k (by omega) (by omega) (by omega)
  have HR := hide hr
  clear hr hi
  go_enter Tryd.func141, Tryd.ntmps141
  go_wp2
  go_ret
  exact ⟨ret_int HR.out, rfl⟩
theorem protr_any (w : World) (x n : UInt32) (i : Int) (hi : i = n.toNat) (h0 : 0 < i) (h1 : i < 32) :
    Calls Tryd.prog 150 #[.int .u32 (u x), .int .i64 i] w fun e w' => e = .returned (.int .u32 (u (rotr x n))) ∧ w' = w := by
  obtain ⟨k, rfl⟩ := Int.eq_ofNat_of_zero_le (show 0 ≤ i by omega)
  have HI : Hid (n.toNat = k) := by show _ = _; omega
  clear hi
  go_enter Tryd.func150, Tryd.ntmps150
  go_wp2_with fail
  refine (rotl_any _ x n k HI.out (by omega) (by omega)).mono ?_
  rintro e w1 ⟨rfl, rfl⟩
  go_wp2
  go_ret
  exact ⟨rfl, rfl⟩
theorem pr6 (w : World) (x : UInt32) : Calls Tryd.prog 150 #[.int .u32 (u x), .int .i64 6] w fun e w' => e = .returned (.int .u32 (u (rotr x 6))) ∧ w' = w := protr_any w x 6 6 (by decide) (by decide) (by decide)
theorem rr6 (w : World) (x : UInt32) : Calls Tryd.prog 141 #[.int .u32 (u x), .int .u32 6] w fun e w' => e = .returned (.int .u32 (u (rotr x 6))) ∧ w' = w := rrotr_any w x 6 6 (by decide) (by decide) (by decide)
theorem pr11 (w : World) (x : UInt32) : Calls Tryd.prog 150 #[.int .u32 (u x), .int .i64 11] w fun e w' => e = .returned (.int .u32 (u (rotr x 11))) ∧ w' = w := protr_any w x 11 11 (by decide) (by decide) (by decide)
theorem rr11 (w : World) (x : UInt32) : Calls Tryd.prog 141 #[.int .u32 (u x), .int .u32 11] w fun e w' => e = .returned (.int .u32 (u (rotr x 11))) ∧ w' = w := rrotr_any w x 11 11 (by decide) (by decide) (by decide)
theorem pr25 (w : World) (x : UInt32) : Calls Tryd.prog 150 #[.int .u32 (u x), .int .i64 25] w fun e w' => e = .returned (.int .u32 (u (rotr x 25))) ∧ w' = w := protr_any w x 25 25 (by decide) (by decide) (by decide)
theorem rr25 (w : World) (x : UInt32) : Calls Tryd.prog 141 #[.int .u32 (u x), .int .u32 25] w fun e w' => e = .returned (.int .u32 (u (rotr x 25))) ∧ w' = w := rrotr_any w x 25 25 (by decide) (by decide) (by decide)
theorem pr2 (w : World) (x : UInt32) : Calls Tryd.prog 150 #[.int .u32 (u x), .int .i64 2] w fun e w' => e = .returned (.int .u32 (u (rotr x 2))) ∧ w' = w := protr_any w x 2 2 (by decide) (by decide) (by decide)
theorem rr2 (w : World) (x : UInt32) : Calls Tryd.prog 141 #[.int .u32 (u x), .int .u32 2] w fun e w' => e = .returned (.int .u32 (u (rotr x 2))) ∧ w' = w := rrotr_any w x 2 2 (by decide) (by decide) (by decide)
theorem pr13 (w : World) (x : UInt32) : Calls Tryd.prog 150 #[.int .u32 (u x), .int .i64 13] w fun e w' => e = .returned (.int .u32 (u (rotr x 13))) ∧ w' = w := protr_any w x 13 13 (by decide) (by decide) (by decide)
theorem rr13 (w : World) (x : UInt32) : Calls Tryd.prog 141 #[.int .u32 (u x), .int .u32 13] w fun e w' => e = .returned (.int .u32 (u (rotr x 13))) ∧ w' = w := rrotr_any w x 13 13 (by decide) (by decide) (by decide)
theorem pr22 (w : World) (x : UInt32) : Calls Tryd.prog 150 #[.int .u32 (u x), .int .i64 22] w fun e w' => e = .returned (.int .u32 (u (rotr x 22))) ∧ w' = w := protr_any w x 22 22 (by decide) (by decide) (by decide)
theorem rr22 (w : World) (x : UInt32) : Calls Tryd.prog 141 #[.int .u32 (u x), .int .u32 22] w fun e w' => e = .returned (.int .u32 (u (rotr x 22))) ∧ w' = w := rrotr_any w x 22 22 (by decide) (by decide) (by decide)
theorem pr7 (w : World) (x : UInt32) : Calls Tryd.prog 150 #[.int .u32 (u x), .int .i64 7] w fun e w' => e = .returned (.int .u32 (u (rotr x 7))) ∧ w' = w := protr_any w x 7 7 (by decide) (by decide) (by decide)
theorem rr7 (w : World) (x : UInt32) : Calls Tryd.prog 141 #[.int .u32 (u x), .int .u32 7] w fun e w' => e = .returned (.int .u32 (u (rotr x 7))) ∧ w' = w := rrotr_any w x 7 7 (by decide) (by decide) (by decide)
theorem pr18 (w : World) (x : UInt32) : Calls Tryd.prog 150 #[.int .u32 (u x), .int .i64 18] w fun e w' => e = .returned (.int .u32 (u (rotr x 18))) ∧ w' = w := protr_any w x 18 18 (by decide) (by decide) (by decide)
theorem rr18 (w : World) (x : UInt32) : Calls Tryd.prog 141 #[.int .u32 (u x), .int .u32 18] w fun e w' => e = .returned (.int .u32 (u (rotr x 18))) ∧ w' = w := rrotr_any w x 18 18 (by decide) (by decide) (by decide)
theorem pr17 (w : World) (x : UInt32) : Calls Tryd.prog 150 #[.int .u32 (u x), .int .i64 17] w fun e w' => e = .returned (.int .u32 (u (rotr x 17))) ∧ w' = w := protr_any w x 17 17 (by decide) (by decide) (by decide)
theorem rr17 (w : World) (x : UInt32) : Calls Tryd.prog 141 #[.int .u32 (u x), .int .u32 17] w fun e w' => e = .returned (.int .u32 (u (rotr x 17))) ∧ w' = w := rrotr_any w x 17 17 (by decide) (by decide) (by decide)
theorem pr19 (w : World) (x : UInt32) : Calls Tryd.prog 150 #[.int .u32 (u x), .int .i64 19] w fun e w' => e = .returned (.int .u32 (u (rotr x 19))) ∧ w' = w := protr_any w x 19 19 (by decide) (by decide) (by decide)
theorem rr19 (w : World) (x : UInt32) : Calls Tryd.prog 141 #[.int .u32 (u x), .int .u32 19] w fun e w' => e = .returned (.int .u32 (u (rotr x 19))) ∧ w' = w := rrotr_any w x 19 19 (by decide) (by decide) (by decide)
end Go.Proofs.YtdbmngbinhemeabDoor
