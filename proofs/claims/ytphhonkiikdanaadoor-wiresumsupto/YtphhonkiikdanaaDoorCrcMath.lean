/-
  Plain facts on the sum: bit by bit and by fours are one; it is linear; bits turned within 32 side by side make it another one. No condition.
-/
import Derived.Test.YtphhonkiikdanaaDoorCrc
namespace Go.Proofs.YtphhonkiikdanaaDoor.Pl

def bs (x : Nat) : Nat := if x % 2 = 1 then x / 2 ^^^ 3988292384 else x / 2
def bsN : Nat → Nat → Nat
  | 0, x => x
  | n + 1, x => bsN n (bs x)

theorem bsN_zero : ∀ n, bsN n 0 = 0
  | 0 => rfl
  | n + 1 => bsN_zero n

theorem xor_half (a b : Nat) : (a ^^^ b) / 2 = a / 2 ^^^ b / 2 := by
  have := Nat.shiftRight_xor_distrib (a := a) (b := b) (i := 1)
  simpa [Nat.shiftRight_eq_div_pow] using this
theorem xor_par (a b : Nat) : (a ^^^ b) % 2 = (a % 2 + b % 2) % 2 := by
  have h := Nat.xor_mod_two_pow (a := a) (b := b) (n := 1)
  rw [Nat.pow_one] at h
  rw [h]
  rcases Nat.mod_two_eq_zero_or_one a with ha | ha <;> rcases Nat.mod_two_eq_zero_or_one b with hb | hb <;> rw [ha, hb] <;> rfl
theorem xor_same {a b c : Nat} (h : a ^^^ b = a ^^^ c) : b = c := by
  have := congrArg (fun z => a ^^^ z) h
  simp only [← Nat.xor_assoc, Nat.xor_self, Nat.zero_xor] at this
  exact this
theorem bs_xor (a b : Nat) : bs (a ^^^ b) = bs a ^^^ bs b := by
  unfold bs
  have hp := xor_par a b
  rw [xor_half]
  rcases Nat.mod_two_eq_zero_or_one a with ha | ha <;> rcases Nat.mod_two_eq_zero_or_one b with hb | hb
  · rw [if_neg (by omega), if_neg (by omega), if_neg (by omega)]
  · rw [if_pos (by omega), if_neg (by omega), if_pos (by omega), Nat.xor_assoc]
  · rw [if_pos (by omega), if_pos (by omega), if_neg (by omega)]
    rw [Nat.xor_assoc, Nat.xor_assoc, Nat.xor_comm (b / 2)]
  · rw [if_neg (by omega), if_pos (by omega), if_pos (by omega)]
    rw [Nat.xor_assoc, ← Nat.xor_assoc (3988292384) (b / 2), Nat.xor_comm 3988292384 (b / 2), Nat.xor_assoc (b / 2), Nat.xor_self, Nat.xor_zero]
theorem bsN_xor : ∀ (n a b : Nat), bsN n (a ^^^ b) = bsN n a ^^^ bsN n b
  | 0, _, _ => rfl
  | n + 1, a, b => by simp only [bsN]; rw [bs_xor, bsN_xor n]
theorem bsN_add : ∀ (m n x : Nat), bsN (m + n) x = bsN n (bsN m x)
  | 0, n, x => by rw [Nat.zero_add]; rfl
  | m + 1, n, x => by rw [show m + 1 + n = (m + n) + 1 by omega]; simp only [bsN]; exact bsN_add m n (bs x)
theorem bs_two (z : Nat) : bs (2 * z) = z := by unfold bs; rw [if_neg (by omega)]; omega
theorem bsN_pow : ∀ (t z : Nat), bsN t (2 ^ t * z) = z
  | 0, z => by simp [bsN]
  | t + 1, z => by
    simp only [bsN]
    rw [show 2 ^ (t + 1) * z = 2 * (2 ^ t * z) by rw [Nat.pow_succ]; rw [Nat.mul_comm (2 ^ t) 2, Nat.mul_assoc], bs_two, bsN_pow t z]

theorem nib_small : ∀ r : Fin 16, bsN 4 r.val = tabL.getD r.val 0 := by decide +kernel
theorem nib_bs (x : Nat) : nib x = bsN 4 x := by
  have hx : x = 2 ^ 4 * (x / 16) ^^^ x % 16 := by
    have h : x % 16 < 2 ^ 4 := Nat.mod_lt _ (by decide)
    have := Nat.two_pow_add_eq_or_of_lt h (x / 16)
    have hxor : 2 ^ 4 * (x / 16) ^^^ x % 16 = 2 ^ 4 * (x / 16) + x % 16 := by
      rw [this]
      apply Nat.eq_of_testBit_eq
      intro i
      rw [Nat.testBit_xor, Nat.testBit_or]
      by_cases hi : i < 4
      · have : (2 ^ 4 * (x / 16)).testBit i = false := by
          rw [Nat.testBit_two_pow_mul]
          simp; omega
        simp [this]
      · have : (x % 16).testBit i = false := Nat.testBit_lt_two_pow (Nat.lt_of_lt_of_le h (Nat.pow_le_pow_right (by decide) (by omega)))
        simp [this]
    rw [hxor]
    omega
  conv => rhs; rw [hx]
  rw [bsN_xor, bsN_pow, nib_small ⟨x % 16, by omega⟩]
  rfl
theorem crcB_bs (s : Nat) (c : UInt8) : crcB s c = bsN 8 (s ^^^ c.toNat) := by
  unfold crcB
  rw [nib_bs, nib_bs, ← bsN_add]

theorem bs_lt (x : Nat) (h : x < 4294967296) : bs x < 4294967296 := by
  unfold bs
  split
  · exact Nat.xor_lt_two_pow (n := 32) (by omega) (by decide)
  · omega
theorem bs_ne (x : Nat) (h : x < 4294967296) (h0 : x ≠ 0) : bs x ≠ 0 := by
  unfold bs
  split
  · intro e
    have e2 : x / 2 = 3988292384 := by
      have h1 : 3988292384 ^^^ (x / 2) = 3988292384 ^^^ 3988292384 := by rw [Nat.xor_comm, e, Nat.xor_self]
      exact xor_same h1
    omega
  · omega
theorem bsN_ne : ∀ (n x : Nat), x < 4294967296 → x ≠ 0 → bsN n x ≠ 0
  | 0, _, _, h => h
  | n + 1, x, h, h0 => bsN_ne n (bs x) (bs_lt x h) (bs_ne x h h0)

theorem crcL_xor (r : List UInt8) : ∀ x d : Nat, crcL (x ^^^ d) r = crcL x r ^^^ bsN (8 * r.length) d := by
  induction r with
  | nil => intro x d; rfl
  | cons c r ih =>
    intro x d
    have e : crcB (x ^^^ d) c = crcB x c ^^^ bsN 8 d := by
      rw [crcB_bs, crcB_bs, Nat.xor_assoc, Nat.xor_comm d, ← Nat.xor_assoc, bsN_xor]
    show crcL (crcB (x ^^^ d) c) r = crcL (crcB x c) r ^^^ _
    rw [e, ih, ← bsN_add]
    congr 2
    simp; omega

/-- One bit turned. -/
theorem crcL_flip (s : Nat) (l : List UInt8) (j t : Nat) (hj : j < l.length) (ht : t < 8) (c' : UInt8) (hc : c'.toNat = l[j].toNat ^^^ 2 ^ t) :
    crcL s (l.set j c') = crcL s l ^^^ bsN (8 * (l.length - j) - t) 1 := by
  have h1 : l = l.take j ++ l[j] :: l.drop (j + 1) := by rw [List.getElem_cons_drop, List.take_append_drop]
  have h2 : l.set j c' = l.take j ++ c' :: l.drop (j + 1) := by rw [List.set_eq_take_append_cons_drop, if_pos hj]
  have hlen : (l.drop (j + 1)).length = l.length - j - 1 := by simp; omega
  rw [h2]
  conv => rhs; lhs; rw [h1]
  rw [crcL_append, crcL_append]
  generalize crcL s (l.take j) = a
  show crcL (crcB a c') _ = crcL (crcB a l[j]) _ ^^^ _
  have e : crcB a c' = crcB a l[j] ^^^ bsN (8 - t) 1 := by
    rw [crcB_bs, crcB_bs, hc, ← Nat.xor_assoc, bsN_xor]
    congr 1
    conv => lhs; rw [show 8 = t + (8 - t) by omega, bsN_add, ← Nat.mul_one (2 ^ t), bsN_pow]
  rw [e, crcL_xor, ← bsN_add, hlen]
  congr 2
  omega

theorem bsN_bit (n i : Nat) (h : i ≤ n) : bsN n (2 ^ i) = bsN (n - i) 1 := by
  conv => lhs; rw [show n = i + (n - i) by omega, bsN_add, ← Nat.mul_one (2 ^ i), bsN_pow]
theorem mod_next (p i : Nat) : p % 2 ^ (i + 1) = p % 2 ^ i ^^^ (p / 2 ^ i % 2) * 2 ^ i := by
  have h1 : p % 2 ^ (i + 1) = 2 ^ i * (p / 2 ^ i % 2) + p % 2 ^ i := by
    rw [Nat.pow_succ, Nat.mod_mul]; omega
  have h2 : p % 2 ^ i < 2 ^ i := Nat.mod_lt _ (Nat.two_pow_pos _)
  rw [h1, Nat.mul_comm (p / 2 ^ i % 2)]
  rw [Nat.two_pow_add_eq_or_of_lt h2]
  apply Nat.eq_of_testBit_eq
  intro k
  rw [Nat.testBit_or, Nat.testBit_xor]
  by_cases hk : k < i
  · have : (2 ^ i * (p / 2 ^ i % 2)).testBit k = false := by
      rw [Nat.testBit_two_pow_mul]
      simp; omega
    simp [this]
  · have : (p % 2 ^ i).testBit k = false := Nat.testBit_lt_two_pow (Nat.lt_of_lt_of_le h2 (Nat.pow_le_pow_right (by decide) (by omega)))
    simp [this]
/-- What turning the pattern's bits does. -/
theorem crc_other (a b : List UInt8) (n p : Nat) (h : crcL 4294967295 b = crcL 4294967295 a ^^^ bsN n p) (hp : p < 4294967296) (h0 : p ≠ 0) : crc b ≠ crc a := by
  intro e
  unfold crc at e
  have e2 : crcL 4294967295 b = crcL 4294967295 a := xor_same e
  rw [e2] at h
  have : bsN n p = 0 := by
    have := congrArg (fun z => crcL 4294967295 a ^^^ z) h
    simp only [Nat.xor_self, ← Nat.xor_assoc, Nat.zero_xor] at this
    exact this.symm
  exact bsN_ne n p hp h0 this
end Go.Proofs.YtphhonkiikdanaaDoor.Pl
