/-
  Plain facts on the document's way to read a number: the first so many bytes that are their own number's bytes are what is read. No condition.
-/
import Derived.Test.YtimbleaafoiidaaGreatDoorF0WPlain
namespace Go.Proofs.YtimbleaafoiidaaGreatDoor.Pl

/-- What the first bytes say, seven bits each. -/
def val (l : List UInt8) : Nat → Nat
  | 0 => 0
  | i + 1 => val l i ||| ((l.getD i 0).toNat % 128 * 2 ^ (7 * i)) % 18446744073709551616

theorem val_lt (l : List UInt8) : ∀ i, val l i < 18446744073709551616
  | 0 => by simp [val]
  | i + 1 => by
    have h1 := val_lt l i
    unfold val
    exact Nat.or_lt_two_pow (n := 64) h1 (Nat.mod_lt _ (by decide))

theorem val_small (l : List UInt8) : ∀ i, i ≤ 9 → val l i < 2 ^ (7 * i)
  | 0, _ => by simp [val]
  | i + 1, h => by
    have h1 := val_small l i (by omega)
    have hc : (l.getD i 0).toNat % 128 < 128 := Nat.mod_lt _ (by decide)
    have h2 : (l.getD i 0).toNat % 128 * 2 ^ (7 * i) < 2 ^ (7 * (i + 1)) := by
      rw [p7]; exact Nat.mul_lt_mul_of_pos_right hc (Nat.two_pow_pos _)
    have h3 : (2 : Nat) ^ (7 * i) ≤ 2 ^ (7 * (i + 1)) := Nat.pow_le_pow_right (by omega) (by omega)
    unfold val
    exact Nat.or_lt_two_pow (by omega) (Nat.lt_of_le_of_lt (Nat.mod_le _ _) h2)

theorem val_add (l : List UInt8) (i c : Nat) (hi : i ≤ 9) (hc : (l.getD i 0).toNat % 128 = c) (hlt : c * 2 ^ (7 * i) < 18446744073709551616) : val l (i + 1) = val l i + c * 2 ^ (7 * i) := by
  have h1 := val_small l i hi
  conv => lhs; unfold val
  rw [hc, Nat.mod_eq_of_lt hlt, Nat.or_comm, Nat.mul_comm c, ← Nat.two_pow_add_eq_or_of_lt h1 c, Nat.add_comm]

theorem dec_val (l : List UInt8) : ∀ (m k u c : Nat), l.length - k = m → k ≤ 9 → dec (l.drop k) k (val l k) = some (u, c) → val l c = u := by
  intro m
  induction m with
  | zero =>
    intro k u c hm hk h
    rw [List.drop_eq_nil_of_le (by omega)] at h
    simp [dec] at h
  | succ m ih =>
    intro k u c hm hk h
    have hkl : k < l.length := by omega
    rw [List.drop_eq_getElem_cons hkl] at h
    have hg : l.getD k 0 = l[k] := by simp [List.getD, List.getElem?_eq_getElem hkl]
    have hb : l[k].toNat < 256 := l[k].toNat_lt
    simp only [dec] at h
    split at h
    · cases h
    split at h
    · cases h
    split at h
    · rename_i h1 h2 h3
      simp only [Option.some.injEq, Prod.mk.injEq] at h
      rw [← h.1, ← h.2]
      refine val_add l k _ hk (by rw [hg]; exact Nat.mod_eq_of_lt h3) ?_
      by_cases e : k = 9
      · have e2 : (2 : Nat) ^ (7 * k) = 9223372036854775808 := by rw [e]
        have h1' : l[k].toNat ≤ 1 := by omega
        rw [e2]
        omega
      · have : (2 : Nat) ^ (7 * k) ≤ 2 ^ 56 := Nat.pow_le_pow_right (by omega) (by omega)
        have e3 : (2 : Nat) ^ 56 = 72057594037927936 := by decide
        rw [e3] at this
        have := Nat.mul_le_mul (show l[k].toNat ≤ 127 by omega) this
        omega
    · rename_i h1 h2 h3
      have hk8 : k ≤ 8 := by omega
      have : (2 : Nat) ^ (7 * k) ≤ 2 ^ 56 := Nat.pow_le_pow_right (by omega) (by omega)
      have e3 : (2 : Nat) ^ 56 = 72057594037927936 := by decide
      rw [e3] at this
      have := Nat.mul_le_mul (show l[k].toNat - 128 ≤ 127 by omega) this
      rw [← val_add l k (l[k].toNat - 128) hk (by rw [hg]; omega) (by omega)] at h
      exact ih (k + 1) u c (by omega) (by omega) h

/-- What is read is met at its own length. -/
theorem dec_hit {l : List UInt8} {u c : Nat} (h : dec l 0 0 = some (u, c)) : val l c = u ∧ enc (val l c) = l.take c := by
  have h1 := dec_val l l.length 0 u c (by omega) (by omega) (by simpa [val] using h)
  refine ⟨h1, ?_⟩
  rw [h1, (dec_take h).2.2.1]
/-- What is met is what is read. -/
theorem hit_dec {l : List UInt8} {k : Nat} (hk : k ≤ l.length) (h : enc (val l k) = l.take k) : dec l 0 0 = some (val l k, k) := by
  have h1 := dec_enc (val l k) (l.drop k) (val_lt l k)
  rw [h, List.take_append_drop] at h1
  rw [h1]
  simp; omega
end Go.Proofs.YtimbleaafoiidaaGreatDoor.Pl
