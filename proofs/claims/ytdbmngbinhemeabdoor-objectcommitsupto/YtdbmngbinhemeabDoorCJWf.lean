/-
  Plain facts on numbers' bytes, without any program: the bytes of a number by sevens, what bytes say, and that the two are one to one. No condition.
  What the program's small functions on numbers answer: fold, unfold, Len64, width. Conditions: arguments within their kinds.
-/
import Derived.Test.YtdbmngbinhemeabDoorRows
import Derived.WalkKit
import Derived.ProofKit
import Derived.Lib.BitFns
namespace Go.Proofs.YtdbmngbinhemeabDoor.Pl

def zz (n : Int) : Nat := if 0 ≤ n then (2 * n).toNat else (-2 * n - 1).toNat
def unzz (u : Nat) : Int := if u % 2 = 0 then ((u / 2 : Nat) : Int) else -((u / 2 : Nat) : Int) - 1

def encF : Nat → Nat → List UInt8
  | 0, u => [UInt8.ofNat u]
  | k + 1, u => if u < 128 then [UInt8.ofNat u] else UInt8.ofNat (u % 128 + 128) :: encF k (u / 128)
def enc (u : Nat) : List UInt8 := encF 9 u

def dec : List UInt8 → Nat → Nat → Option (Nat × Nat)
  | [], _, _ => none
  | c :: r, k, acc =>
    if k = 9 ∧ 1 < c.toNat then none
    else if 0 < k ∧ c.toNat = 0 then none
    else if c.toNat < 128 then some (acc + c.toNat * 2 ^ (7 * k), k + 1)
    else dec r (k + 1) (acc + (c.toNat - 128) * 2 ^ (7 * k))

theorem zz_lt (n : Int) (h0 : -9223372036854775808 ≤ n) (h1 : n ≤ 9223372036854775807) : zz n < 18446744073709551616 := by
  unfold zz; split <;> omega
theorem unzz_zz (n : Int) : unzz (zz n) = n := by
  unfold unzz zz
  by_cases h : 0 ≤ n
  · rw [if_pos h, if_pos (by omega)]; omega
  · rw [if_neg h, if_neg (by omega)]; omega
theorem zz_unzz (u : Nat) : zz (unzz u) = u := by
  unfold unzz zz
  by_cases h : u % 2 = 0
  · rw [if_pos h, if_pos (by omega)]; omega
  · rw [if_neg h, if_neg (by omega)]; omega
theorem unzz_bd (u : Nat) (h : u < 18446744073709551616) : -9223372036854775808 ≤ unzz u ∧ unzz u ≤ 9223372036854775807 := by
  unfold unzz; split <;> omega

theorem byte_small {u : Nat} (h : u < 256) : (UInt8.ofNat u).toNat = u := by
  rw [UInt8.toNat_ofNat']; exact Nat.mod_eq_of_lt h

theorem encF_length (f : Nat) : ∀ u, 1 ≤ (encF f u).length ∧ (encF f u).length ≤ f + 1 := by
  induction f with
  | zero => intro u; simp [encF]
  | succ f ih =>
    intro u
    unfold encF
    split
    · simp
    · have := ih (u / 128); simp; omega
theorem enc_length (u : Nat) : 1 ≤ (enc u).length ∧ (enc u).length ≤ 10 := encF_length 9 u

theorem encF_fits (f : Nat) : ∀ u m : Nat, 1 ≤ m → u < 2 ^ (7 * m) → (encF f u).length ≤ m := by
  induction f with
  | zero => intro u m h _; simpa [encF] using h
  | succ f ih =>
    intro u m h hu
    unfold encF
    split
    · simpa using h
    · rename_i h1
      cases m with
      | zero => omega
      | succ m =>
        have hm : 1 ≤ m := by
          cases m with
          | zero => simp at hu; omega
          | succ m => omega
        have := ih (u / 128) m hm (by rw [Nat.mul_add, Nat.pow_add] at hu; omega)
        simp; omega
theorem enc_fits (u m : Nat) (h : 1 ≤ m) (hu : u < 2 ^ (7 * m)) : (enc u).length ≤ m := encF_fits 9 u m h hu

theorem p7 (k : Nat) : 2 ^ (7 * (k + 1)) = 128 * 2 ^ (7 * k) := by
  rw [Nat.mul_add, Nat.pow_add]; omega

theorem dec_encF (f : Nat) : ∀ (u k acc : Nat) (r : List UInt8), f + k = 9 → u * 2 ^ (7 * k) < 18446744073709551616 → (0 < k → 0 < u) →
    dec (encF f u ++ r) k acc = some (acc + u * 2 ^ (7 * k), k + (encF f u).length) := by
  induction f with
  | zero =>
    intro u k acc r hk hu hp
    obtain rfl : k = 9 := by omega
    have hu2 : u < 2 := by
      have : (2 : Nat) ^ (7 * 9) = 9223372036854775808 := by decide
      rw [this] at hu; omega
    have hb : (UInt8.ofNat u).toNat = u := byte_small (by omega)
    have h0 : 0 < u := hp (by omega)
    simp only [encF, List.cons_append, dec, hb]
    rw [if_neg (by omega), if_neg (by omega), if_pos (by omega)]
    rfl
  | succ f ih =>
    intro u k acc r hk hu hp
    unfold encF
    by_cases h : u < 128
    · have hb : (UInt8.ofNat u).toNat = u := byte_small (by omega)
      rw [if_pos h]
      simp only [List.cons_append, dec, hb]
      rw [if_neg (by omega), if_neg (by omega), if_pos h]
      rfl
    · have hb : (UInt8.ofNat (u % 128 + 128)).toNat = u % 128 + 128 := byte_small (by omega)
      rw [if_neg h]
      simp only [List.cons_append, dec, hb]
      have hsp : u * 2 ^ (7 * k) = (u % 128) * 2 ^ (7 * k) + (u / 128) * 2 ^ (7 * (k + 1)) := by
        rw [p7, ← Nat.mul_assoc, ← Nat.add_mul]; congr 1; omega
      rw [if_neg (by omega), if_neg (by omega), if_neg (by omega), ih (u / 128) (k + 1) _ r (by omega) (by omega) (by omega)]
      simp only [List.length_cons, Option.some.injEq, Prod.mk.injEq]
      refine ⟨?_, by omega⟩
      rw [hsp, Nat.add_sub_cancel, Nat.add_assoc]
theorem dec_enc (u : Nat) (r : List UInt8) (h : u < 18446744073709551616) : dec (enc u ++ r) 0 0 = some (u, (enc u).length) := by
  have := dec_encF 9 u 0 0 r (by omega) (by simpa using h) (by omega)
  simpa [enc] using this

theorem encF_small (f u : Nat) (h : u < 128) : encF f u = [UInt8.ofNat u] := by
  cases f with
  | zero => rfl
  | succ f => unfold encF; rw [if_pos h]

theorem dec_sound : ∀ (l : List UInt8) (k acc u c : Nat), k ≤ 9 → dec l k acc = some (u, c) →
    ∃ x m, u = acc + x * 2 ^ (7 * k) ∧ c = k + m ∧ m ≤ l.length ∧ l.take m = encF (9 - k) x ∧ (0 < k → 0 < x) ∧ x * 2 ^ (7 * k) < 18446744073709551616 := by
  intro l
  induction l with
  | nil => intro k acc u c _ h; simp [dec] at h
  | cons b r ih =>
    intro k acc u c hk h
    have hb : b.toNat < 256 := b.toNat_lt
    simp only [dec] at h
    split at h
    · cases h
    split at h
    · cases h
    split at h
    · rename_i h1 h2 h3
      simp only [Option.some.injEq, Prod.mk.injEq] at h
      refine ⟨b.toNat, 1, h.1.symm, h.2.symm, by simp, ?_, by omega, ?_⟩
      · rw [encF_small _ _ h3]; simp
      · by_cases e : k = 9
        · subst e; have e2 : (2 : Nat) ^ (7 * 9) = 9223372036854775808 := by decide
          rw [e2]; omega
        · have : (2 : Nat) ^ (7 * k) ≤ 2 ^ 56 := Nat.pow_le_pow_right (by omega) (by omega)
          have e3 : (2 : Nat) ^ 56 = 72057594037927936 := by decide
          rw [e3] at this
          have := Nat.mul_le_mul (show b.toNat ≤ 127 by omega) this
          omega
    · rename_i h1 h2 h3
      obtain ⟨x, m, hu, hc, hm, ht, hx, hlt⟩ := ih (k + 1) _ u c (by omega) h
      have hx0 := hx (by omega)
      refine ⟨b.toNat - 128 + 128 * x, m + 1, ?_, by omega, by simp; omega, ?_, by omega, ?_⟩
      · rw [hu, p7, Nat.add_mul, Nat.add_assoc]; congr 2; rw [Nat.mul_comm 128 x, Nat.mul_assoc]
      · rw [List.take_succ_cons, ht, show 9 - k = (9 - (k + 1)) + 1 from by omega]
        conv => rhs; unfold encF
        rw [if_neg (by omega)]
        have e1 : (b.toNat - 128 + 128 * x) % 128 + 128 = b.toNat := by omega
        have e2 : (b.toNat - 128 + 128 * x) / 128 = x := by omega
        rw [e1, e2]
        simp
      · rw [p7] at hlt
        have e : (b.toNat - 128 + 128 * x) * 2 ^ (7 * k) = (b.toNat - 128) * 2 ^ (7 * k) + x * (128 * 2 ^ (7 * k)) := by
          rw [Nat.add_mul]; congr 1; rw [Nat.mul_comm 128 x, Nat.mul_assoc]
        have hk8 : k ≤ 8 := by omega
        have key : (b.toNat - 128) * 2 ^ (7 * k) < 128 * 2 ^ (7 * k) := Nat.mul_lt_mul_of_pos_right (by omega) (Nat.two_pow_pos _)
        rw [e]
        have hd : x * (128 * 2 ^ (7 * k)) + 128 * 2 ^ (7 * k) ≤ 18446744073709551616 := by
          have hpw : 18446744073709551616 = 2 ^ (64 - 7 * (k + 1)) * (128 * 2 ^ (7 * k)) := by
            rw [← p7, ← Nat.pow_add, show 64 - 7 * (k + 1) + 7 * (k + 1) = 64 from by omega]
          rw [hpw] at hlt ⊢
          have := Nat.lt_of_mul_lt_mul_right hlt
          rw [← Nat.succ_mul]
          exact Nat.mul_le_mul_right _ this
        omega

theorem dec_take {l : List UInt8} {u c : Nat} (h : dec l 0 0 = some (u, c)) : u < 18446744073709551616 ∧ c ≤ l.length ∧ l.take c = enc u ∧ c = (enc u).length := by
  obtain ⟨x, m, hu, hc, hm, ht, _, hlt⟩ := dec_sound l 0 0 u c (by omega) h
  simp at hu hc hlt
  subst hu hc
  refine ⟨hlt, hm, ht, ?_⟩
  have := congrArg List.length ht
  simp at this
  unfold enc
  omega

/-- No number's bytes are the beginning of another one's. -/
theorem enc_prefix {u v : Nat} {r : List UInt8} (hu : u < 18446744073709551616) (hv : v < 18446744073709551616) (h : enc v = enc u ++ r) : u = v ∧ r = [] := by
  have h1 := dec_enc v [] hv
  rw [List.append_nil, h, dec_enc u r hu] at h1
  simp only [Option.some.injEq, Prod.mk.injEq] at h1
  refine ⟨h1.1, ?_⟩
  have := h1.2
  simp at this
  exact this

theorem dec_cut {u j : Nat} (hu : u < 18446744073709551616) (hj : j < (enc u).length) : dec ((enc u).take j) 0 0 = none := by
  cases h : dec ((enc u).take j) 0 0 with
  | none => rfl
  | some p =>
    obtain ⟨v, c⟩ := p
    obtain ⟨hv, hc, ht, he⟩ := dec_take h
    have hc' : c ≤ j := by simp at hc; omega
    rw [List.take_take, Nat.min_eq_left hc'] at ht
    have e : enc u = enc v ++ (enc u).drop c := by rw [← ht, List.take_append_drop]
    have := (enc_prefix hv hu e).2
    simp at this
    omega

end Go.Proofs.YtdbmngbinhemeabDoor.Pl
namespace Go.Proofs.YtdbmngbinhemeabDoor
open Go.RowKit

theorem xor_ones64 (b : Nat) (hb : b < 18446744073709551616) : 18446744073709551615 ^^^ b = 18446744073709551615 - b := by
  have hb' : b < 2 ^ 64 := by simpa using hb
  have e : ((2 ^ 64 - 1 : Nat)) ^^^ b = 2 ^ 64 - 1 - b := by
    apply Nat.eq_of_testBit_eq
    intro i
    rw [Nat.testBit_xor, Nat.testBit_two_pow_sub_one, show 2 ^ 64 - 1 - b = 2 ^ 64 - (b + 1) by omega, Nat.testBit_two_pow_sub_succ hb']
    by_cases hi : i < 64
    · simp [hi]
    · have : b.testBit i = false := Nat.testBit_lt_two_pow (Nat.lt_of_lt_of_le hb' (Nat.pow_le_pow_right (by decide) (by omega)))
      simp [hi, this]
  simpa using e

theorem fold_eq (n : Int) (h0 : -9223372036854775808 ≤ n) (h1 : n ≤ 9223372036854775807) :
    bits .xor .u64 (IntKind.u64.wrap (IntKind.u64.wrap n * 2)) (IntKind.u64.wrap (n / 9223372036854775808)) = ((Pl.zz n : Nat) : Int) := by
  by_cases h : 0 ≤ n
  · have e1 : IntKind.u64.wrap (IntKind.u64.wrap n * 2) = ((2 * n).toNat : Int) := by
      rw [IntKind.wrap_u64, IntKind.wrap_u64]; omega
    have e2 : IntKind.u64.wrap (n / 9223372036854775808) = ((0 : Nat) : Int) := by
      rw [IntKind.wrap_u64]; omega
    rw [e1, e2, bits_xor_u64_nat _ _ (by omega) (by omega), Nat.xor_zero]
    unfold Pl.zz; rw [if_pos h]
  · have e1 : IntKind.u64.wrap (IntKind.u64.wrap n * 2) = ((2 * n + 18446744073709551616).toNat : Int) := by
      rw [IntKind.wrap_u64, IntKind.wrap_u64]; omega
    have e2 : IntKind.u64.wrap (n / 9223372036854775808) = ((18446744073709551615 : Nat) : Int) := by
      rw [IntKind.wrap_u64]; omega
    rw [e1, e2, bits_xor_u64_nat _ _ (by omega) (by omega), Nat.xor_comm, xor_ones64 _ (by omega)]
    unfold Pl.zz; rw [if_neg h]
    omega

theorem ret_intW {k : IntKind} {a b : Int} (h : a = b) : Ending.returned (.int k a) = .returned (.int k b) := by rw [h]

theorem fold_any (n : Int) (w : World) (h0 : -9223372036854775808 ≤ n) (h1 : n ≤ 9223372036854775807) :
    Calls Tryd.prog 126 #[.int .i64 n] w fun e w' => e = .returned (.int .u64 (Pl.zz n)) ∧ w' = w := by
  go_enter Tryd.func126, Tryd.ntmps126
  go_wp2
  go_ret
  exact ⟨ret_intW (fold_eq n h0 h1), rfl⟩

theorem i64_not (x : Nat) (hx : x < 9223372036854775808) : bits .xor .i64 (x : Int) (-1) = -(x : Int) - 1 := by
  show IntKind.i64.wrap ((BitVec.ofInt 64 (x : Int) ^^^ BitVec.ofInt 64 (-1)).toNat : Int) = _
  have h1 : (BitVec.ofInt 64 (-1)).toNat = 18446744073709551615 := by decide
  have h2 : (BitVec.ofInt 64 (x : Int)).toNat = x := by
    rw [BitVec.ofInt_natCast, BitVec.toNat_ofNat]; exact Nat.mod_eq_of_lt (by omega)
  rw [BitVec.toNat_xor, h1, h2, Nat.xor_comm, xor_ones64 x (by omega), IntKind.wrap_i64]
  omega
theorem i64_xor0 (x : Nat) (hx : x < 9223372036854775808) : bits .xor .i64 (x : Int) 0 = (x : Int) := by
  show IntKind.i64.wrap ((BitVec.ofInt 64 (x : Int) ^^^ BitVec.ofInt 64 0).toNat : Int) = _
  have h1 : (BitVec.ofInt 64 0).toNat = 0 := by decide
  have h2 : (BitVec.ofInt 64 (x : Int)).toNat = x := by
    rw [BitVec.ofInt_natCast, BitVec.toNat_ofNat]; exact Nat.mod_eq_of_lt (by omega)
  rw [BitVec.toNat_xor, h1, h2, Nat.xor_zero, IntKind.wrap_i64]
  omega
theorem wraps_u64 (n : Int) (h₀ : 0 ≤ n) (h₁ : n < 2 ^ 64) : IntKind.u64.wrap n = n := by rw [IntKind.wrap_u64]; omega
theorem u64_and1 (x : Int) (h₀ : 0 ≤ x) (h₁ : x < 18446744073709551616) : bits .and .u64 x 1 = x % 2 := by
  have h := bits_mask .u64 64 (by decide) wraps_u64 1 (by decide) x h₀ (by omega)
  simpa using h

theorem unfold_eq (u : Nat) (h1 : u < 18446744073709551616) :
    bits .xor .i64 ((u : Int) / 2) (wrap64 (-wrap64 (bits .and .u64 (u : Int) 1))) = Pl.unzz u := by
  rw [u64_and1 _ (by omega) (by omega)]
  have e0 : ((u : Int) / 2) = ((u / 2 : Nat) : Int) := by omega
  unfold Pl.unzz
  by_cases h : u % 2 = 0
  · have e : ((u : Int) % 2) = 0 := by omega
    rw [if_pos h, e, show wrap64 (-wrap64 0) = 0 from by unfold wrap64; omega, e0, i64_xor0 _ (by omega)]
  · have e : ((u : Int) % 2) = 1 := by omega
    rw [if_neg h, e, show wrap64 (-wrap64 1) = -1 from by unfold wrap64; omega, e0, i64_not _ (by omega)]

theorem unfold_any (u : Nat) (w : World) (h1 : u < 18446744073709551616) :
    Calls Tryd.prog 136 #[.int .u64 u] w fun e w' => e = .returned (.int .i64 (Pl.unzz u)) ∧ w' = w := by
  go_enter Tryd.func136, Tryd.ntmps136
  go_wp2
  go_ret
  exact ⟨ret_intW (unfold_eq u h1), rfl⟩

theorem len8_at (y : Int) (h : y.toNat < Lib.len8tab.size) : ((Lib.len8tab[y.toNat]'h).toNat : Int) = Lib.len8 y := by
  unfold Lib.len8
  rw [getElem?_pos Lib.len8tab y.toNat h]
  rfl
theorem bitLenAux_gt : ∀ f x : Nat, x < 2 ^ f → x < 2 ^ Lib.bitLenAux f x := by
  intro f
  induction f with
  | zero => intro x h; simpa [Lib.bitLenAux] using h
  | succ f ih =>
    intro x h
    unfold Lib.bitLenAux
    split
    · subst_vars; simp
    · have := ih (x / 2) (by rw [Nat.pow_succ] at h; omega)
      rw [Nat.add_comm, Nat.pow_succ]
      omega
theorem tab_fact (y : Int) (h0 : 0 ≤ y) (h1 : y ≤ 255) (h : y.toNat < Lib.len8tab.size) : ∃ m : Nat, ((Lib.len8tab[y.toNat]'h).toNat : Int) = (m : Int) ∧ m ≤ 8 ∧ y + 1 ≤ 2 ^ m := by
  have e := (len8_at y h).trans (Lib.len8_of y h0 h1)
  have f1 := Lib.bitLen_le8' y h0 h1
  have f2 : y.toNat < 2 ^ Lib.bitLen y.toNat := bitLenAux_gt 64 _ (by omega)
  generalize Lib.bitLen y.toNat = m at *
  refine ⟨m, e, f1, ?_⟩
  clear e
  have h3 : ((y.toNat : Nat) : Int) < ((2 ^ m : Nat) : Int) := by omega
  rw [Int.natCast_pow] at h3
  have h4 : (((2 : Nat) : Int)) = 2 := rfl
  rw [h4] at h3
  omega
theorem len_end (x y : Int) (b : Nat) (w : World) (hb : b ≤ 56) (h0 : 0 ≤ y) (h1 : y ≤ 255) (h : y.toNat < Lib.len8tab.size) (hx : x < (y + 1) * 2 ^ b) :
    ∃ n : Nat, Ending.returned (.int .i64 (wrap64 ((b : Int) + wrap64 ((Lib.len8tab[y.toNat]'h).toNat : Int)))) = Ending.returned (.int .i64 n) ∧ n ≤ 64 ∧ x < 2 ^ n ∧ w = w := by
  obtain ⟨m, e, f1, f2⟩ := tab_fact y h0 h1 h
  rw [e]
  clear e
  refine ⟨b + m, ret_intW ?_, by omega, ?_, rfl⟩
  · unfold wrap64; omega
  · rw [Int.pow_add]
    have hp : (0 : Int) ≤ 2 ^ b := Int.pow_nonneg (by omega)
    have := Int.mul_le_mul_of_nonneg_right f2 hp
    rw [Int.mul_comm (2 ^ b)]
    omega
theorem len_end0 (x : Int) (w : World) (h0 : 0 ≤ x) (h1 : x ≤ 255) (h : x.toNat < Lib.len8tab.size) :
    ∃ n : Nat, Ending.returned (.int .i64 (wrap64 (wrap64 ((Lib.len8tab[x.toNat]'h).toNat : Int)))) = Ending.returned (.int .i64 n) ∧ n ≤ 64 ∧ x < 2 ^ n ∧ w = w := by
  obtain ⟨m, e, f1, f2⟩ := tab_fact x h0 h1 h
  rw [e]
  clear e
  refine ⟨m, ret_intW ?_, by omega, by omega, rfl⟩
  unfold wrap64; omega

set_option maxRecDepth 100000 in
set_option maxHeartbeats 1000000 in
theorem len64_any (x : Int) (w : World) (h0 : 0 ≤ x) (h1 : x ≤ 18446744073709551615) :
    Calls Tryd.prog 142 #[.int .u64 x] w fun e w' => ∃ n : Nat, e = .returned (.int .i64 n) ∧ n ≤ 64 ∧ x < 2 ^ n ∧ w' = w := by
  have hsz : (Lib.len8tab.size : Int) = 256 := by rw [Lib.len8tab_size]; rfl
  have HS : Hid ((Lib.len8tab.size : Int) = 256) := hsz
  clear hsz
  go_enter Tryd.func142, Tryd.ntmps142
  go_wp2
  · go_ret; exact len_end x (x / 4294967296 / 65536 / 256) 56 _ (by omega) (by omega) (by omega) _ (by omega)
  · exfalso; have hs := HS.out; omega
  · go_ret; exact len_end x (x / 4294967296 / 65536) 48 _ (by omega) (by omega) (by omega) _ (by omega)
  · exfalso; have hs := HS.out; omega
  · go_ret; exact len_end x (x / 4294967296 / 256) 40 _ (by omega) (by omega) (by omega) _ (by omega)
  · exfalso; have hs := HS.out; omega
  · go_ret; exact len_end x (x / 4294967296) 32 _ (by omega) (by omega) (by omega) _ (by omega)
  · exfalso; have hs := HS.out; omega
  · go_ret; exact len_end x (x / 65536 / 256) 24 _ (by omega) (by omega) (by omega) _ (by omega)
  · exfalso; have hs := HS.out; omega
  · go_ret; exact len_end x (x / 65536) 16 _ (by omega) (by omega) (by omega) _ (by omega)
  · exfalso; have hs := HS.out; omega
  · go_ret; exact len_end x (x / 256) 8 _ (by omega) (by omega) (by omega) _ (by omega)
  · exfalso; have hs := HS.out; omega
  · go_ret; exact len_end0 x _ (by omega) (by omega) _

theorem or1_le (x : Int) (h0 : 0 ≤ x) (h1 : x ≤ 18446744073709551615) : x ≤ bits .or .u64 x 1 ∧ bits .or .u64 x 1 ≤ 18446744073709551615 := by
  have e := u64_or x 1 h0 (by omega) (by omega) (by omega)
  rw [e]
  have h2 : x.toNat ≤ x.toNat ||| (1 : Int).toNat := Nat.left_le_or
  have h3 : x.toNat ||| (1 : Int).toNat < 2 ^ 64 := Nat.or_lt_two_pow (by omega) (by decide)
  omega
theorem or1_pos (x : Int) (h0 : 0 ≤ x) (h1 : x ≤ 18446744073709551615) : 1 ≤ bits .or .u64 x 1 := by
  have e := u64_or x 1 h0 (by omega) (by omega) (by omega)
  rw [e]
  have h2 : (1 : Int).toNat ≤ x.toNat ||| (1 : Int).toNat := Nat.right_le_or
  have h3 : (1 : Int).toNat = 1 := rfl
  omega

theorem width_end (x y : Int) (n : Nat) (w : World) (hb : x ≤ y) (hp : 1 ≤ y) (hn : n ≤ 64) (hx : y < 2 ^ n) :
    ∃ m : Nat, Ending.returned (.int .i64 (((n : Int) + 7 - 1) / 7)) = Ending.returned (.int .i64 m) ∧ 1 ≤ m ∧ m ≤ 10 ∧ x.toNat < 2 ^ (7 * m) ∧ w = w := by
  have h0 : n ≠ 0 := by rintro rfl; simp at hx; omega
  have h2 : y.toNat < 2 ^ n := by
    have e : ((2 ^ n : Nat) : Int) = 2 ^ n := Int.natCast_pow 2 n
    rw [← e] at hx
    omega
  have h3 : (2 : Nat) ^ n ≤ 2 ^ (7 * ((n + 6) / 7)) := Nat.pow_le_pow_right (by omega) (by omega)
  exact ⟨(n + 6) / 7, ret_intW (by omega), by omega, by omega, by omega, rfl⟩
theorem width_any (x : Int) (w : World) (h0 : 0 ≤ x) (h1 : x ≤ 18446744073709551615) :
    Calls Tryd.prog 129 #[.int .u64 x] w fun e w' => ∃ n : Nat, e = .returned (.int .i64 n) ∧ 1 ≤ n ∧ n ≤ 10 ∧ x.toNat < 2 ^ (7 * n) ∧ w' = w := by
  have hb := or1_le x h0 h1
  have hp := or1_pos x h0 h1
  go_enter Tryd.func129, Tryd.ntmps129
  go_wp2_with fail
  refine (len64_any _ _ (by omega) hb.2).mono ?_
  rintro e w' ⟨n, rfl, hn, hx, rfl⟩
  go_wp2
  go_ret
  exact width_end x _ n _ hb.1 hp hn hx
end Go.Proofs.YtdbmngbinhemeabDoor
