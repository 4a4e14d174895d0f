/-
  Plain facts on numbers' bytes, without any program: the bytes of a number by sevens, what bytes say, and that the two are one to one. No condition.
-/
namespace Go.Proofs.YtmlfonmdiimdfaaDoor.Pl

def zz (n : Int) : Nat := if 0 ≤ n then (2 * n).toNat else (-2 * n - 1).toNat
def unzz (u : Nat) : Int := if u % 2 = 0 then ((u / 2 : Nat) : Int) else -((u / 2 : Nat) : Int) - 1

def encF : Nat → Nat → List UInt8
  | 0, u => [UInt8.ofNat u]
  | k + 1, u => if u < 128 then [UInt8.ofNat u] else UInt8.ofNat (u % 128 + 128) :: encF k (u / 128)
def enc (u : Nat) : List UInt8 := encF 9 u

def dec : List UInt8 → Nat → Nat → Option (Nat × Nat)
  | [], _, _ => none
  | c :: r, k, acc =>
    if k = 9 ∧ 1 < c.toNat then none
    else if 0 < k ∧ c.toNat = 0 then none
    else if c.toNat < 128 then some (acc + c.toNat * 2 ^ (7 * k), k + 1)
    else dec r (k + 1) (acc + (c.toNat - 128) * 2 ^ (7 * k))

theorem zz_lt (n : Int) (h0 : -9223372036854775808 ≤ n) (h1 : n ≤ 9223372036854775807) : zz n < 18446744073709551616 := by
  unfold zz; split <;> omega
theorem unzz_zz (n : Int) : unzz (zz n) = n := by
  unfold unzz zz
  by_cases h : 0 ≤ n
  · rw [if_pos h, if_pos (by omega)]; omega
  · rw [if_neg h, if_neg (by omega)]; omega
theorem zz_unzz (u : Nat) : zz (unzz u) = u := by
  unfold unzz zz
  by_cases h : u % 2 = 0
  · rw [if_pos h, if_pos (by omega)]; omega
  · rw [if_neg h, if_neg (by omega)]; omega
theorem unzz_bd (u : Nat) (h : u < 18446744073709551616) : -9223372036854775808 ≤ unzz u ∧ unzz u ≤ 9223372036854775807 := by
  unfold unzz; split <;> omega

theorem byte_small {u : Nat} (h : u < 256) : (UInt8.ofNat u).toNat = u := by
  rw [UInt8.toNat_ofNat']; exact Nat.mod_eq_of_lt h

theorem encF_length (f : Nat) : ∀ u, 1 ≤ (encF f u).length ∧ (encF f u).length ≤ f + 1 := by
  induction f with
  | zero => intro u; simp [encF]
  | succ f ih =>
    intro u
    unfold encF
    split
    · simp
    · have := ih (u / 128); simp; omega
theorem enc_length (u : Nat) : 1 ≤ (enc u).length ∧ (enc u).length ≤ 10 := encF_length 9 u

theorem encF_fits (f : Nat) : ∀ u m : Nat, 1 ≤ m → u < 2 ^ (7 * m) → (encF f u).length ≤ m := by
  induction f with
  | zero => intro u m h _; simpa [encF] using h
  | succ f ih =>
    intro u m h hu
    unfold encF
    split
    · simpa using h
    · rename_i h1
      cases m with
      | zero => omega
      | succ m =>
        have hm : 1 ≤ m := by
          cases m with
          | zero => simp at hu; omega
          | succ m => omega
        have := ih (u / 128) m hm (by rw [Nat.mul_add, Nat.pow_add] at hu; omega)
        simp; omega
theorem enc_fits (u m : Nat) (h : 1 ≤ m) (hu : u < 2 ^ (7 * m)) : (enc u).length ≤ m := encF_fits 9 u m h hu

theorem p7 (k : Nat) : 2 ^ (7 * (k + 1)) = 128 * 2 ^ (7 * k) := by
  rw [Nat.mul_add, Nat.pow_add]; omega

theorem dec_encF (f : Nat) : ∀ (u k acc : Nat) (r : List UInt8), f + k = 9 → u * 2 ^ (7 * k) < 18446744073709551616 → (0 < k → 0 < u) →
    dec (encF f u ++ r) k acc = some (acc + u * 2 ^ (7 * k), k + (encF f u).length) := by
  induction f with
  | zero =>
    intro u k acc r hk hu hp
    obtain rfl : k = 9 := by omega
    have hu2 : u < 2 := by
      have : (2 : Nat) ^ (7 * 9) = 9223372036854775808 := by decide
      rw [this] at hu; omega
    have hb : (UInt8.ofNat u).toNat = u := byte_small (by omega)
    have h0 : 0 < u := hp (by omega)
    simp only [encF, List.cons_append, dec, hb]
    rw [if_neg (by omega), if_neg (by omega), if_pos (by omega)]
    rfl
  | succ f ih =>
    intro u k acc r hk hu hp
    unfold encF
    by_cases h : u < 128
    · have hb : (UInt8.ofNat u).toNat = u := byte_small (by omega)
      rw [if_pos h]
      simp only [List.cons_append, dec, hb]
      rw [if_neg (by omega), if_neg (by omega), if_pos h]
      rfl
    · have hb : (UInt8.ofNat (u % 128 + 128)).toNat = u % 128 + 128 := byte_small (by omega)
      rw [if_neg h]
      simp only [List.cons_append, dec, hb]
      have hsp : u * 2 ^ (7 * k) = (u % 128) * 2 ^ (7 * k) + (u / 128) * 2 ^ (7 * (k + 1)) := by
        rw [p7, ← Nat.mul_assoc, ← Nat.add_mul]; congr 1; omega
      rw [if_neg (by omega), if_neg (by omega), if_neg (by omega), ih (u / 128) (k + 1) _ r (by omega) (by omega) (by omega)]
      simp only [List.length_cons, Option.some.injEq, Prod.mk.injEq]
      refine ⟨?_, by omega⟩
      rw [hsp, Nat.add_sub_cancel, Nat.add_assoc]
theorem dec_enc (u : Nat) (r : List UInt8) (h : u < 18446744073709551616) : dec (enc u ++ r) 0 0 = some (u, (enc u).length) := by
  have := dec_encF 9 u 0 0 r (by omega) (by simpa using h) (by omega)
  simpa [enc] using this

theorem encF_small (f u : Nat) (h : u < 128) : encF f u = [UInt8.ofNat u] := by
  cases f with
  | zero => rfl
  | succ f => unfold encF; rw [if_pos h]

theorem dec_sound : ∀ (l : List UInt8) (k acc u c : Nat), k ≤ 9 → dec l k acc = some (u, c) →
    ∃ x m, u = acc + x * 2 ^ (7 * k) ∧ c = k + m ∧ m ≤ l.length ∧ l.take m = encF (9 - k) x ∧ (0 < k → 0 < x) ∧ x * 2 ^ (7 * k) < 18446744073709551616 := by
  intro l
  induction l with
  | nil => intro k acc u c _ h; simp [dec] at h
  | cons b r ih =>
    intro k acc u c hk h
    have hb : b.toNat < 256 := b.toNat_lt
    simp only [dec] at h
    split at h
    · cases h
    split at h
    · cases h
    split at h
    · rename_i h1 h2 h3
      simp only [Option.some.injEq, Prod.mk.injEq] at h
      refine ⟨b.toNat, 1, h.1.symm, h.2.symm, by simp, ?_, by omega, ?_⟩
      · rw [encF_small _ _ h3]; simp
      · by_cases e : k = 9
        · subst e; have e2 : (2 : Nat) ^ (7 * 9) = 9223372036854775808 := by decide
          rw [e2]; omega
        · have : (2 : Nat) ^ (7 * k) ≤ 2 ^ 56 := Nat.pow_le_pow_right (by omega) (by omega)
          have e3 : (2 : Nat) ^ 56 = 72057594037927936 := by decide
          rw [e3] at this
          have := Nat.mul_le_mul (show b.toNat ≤ 127 by omega) this
          omega
    · rename_i h1 h2 h3
      obtain ⟨x, m, hu, hc, hm, ht, hx, hlt⟩ := ih (k + 1) _ u c (by omega) h
      have hx0 := hx (by omega)
      refine ⟨b.toNat - 128 + 128 * x, m + 1, ?_, by omega, by simp; omega, ?_, by omega, ?_⟩
      · rw [hu, p7, Nat.add_mul, Nat.add_assoc]; congr 2; rw [Nat.mul_comm 128 x, Nat.mul_assoc]
      · rw [List.take_succ_cons, ht, show 9 - k = (9 - (k + 1)) + 1 from by omega]
        conv => rhs; unfold encF
        rw [if_neg (by omega)]
        have e1 : (b.toNat - 128 + 128 * x) % 128 + 128 = b.toNat := by omega
        have e2 : (b.toNat - 128 + 128 * x) / 128 = x := by omega
        rw [e1, e2]
        simp
      · rw [p7] at hlt
        have e : (b.toNat - 128 + 128 * x) * 2 ^ (7 * k) = (b.toNat - 128) * 2 ^ (7 * k) + x * (128 * 2 ^ (7 * k)) := by
          rw [Nat.add_mul]; congr 1; rw [Nat.mul_comm 128 x, Nat.mul_assoc]
        have hk8 : k ≤ 8 := by omega
        have key : (b.toNat - 128) * 2 ^ (7 * k) < 128 * 2 ^ (7 * k) := Nat.mul_lt_mul_of_pos_right (by omega) (Nat.two_pow_pos _)
        rw [e]
        have hd : x * (128 * 2 ^ (7 * k)) + 128 * 2 ^ (7 * k) ≤ 18446744073709551616 := by
          have hpw : 18446744073709551616 = 2 ^ (64 - 7 * (k + 1)) * (128 * 2 ^ (7 * k)) := by
            rw [← p7, ← Nat.pow_add, show 64 - 7 * (k + 1) + 7 * (k + 1) = 64 from by omega]
          rw [hpw] at hlt ⊢
          have := Nat.lt_of_mul_lt_mul_right hlt
          rw [← Nat.succ_mul]
          exact Nat.mul_le_mul_right _ this
        omega

theorem dec_take {l : List UInt8} {u c : Nat} (h : dec l 0 0 = some (u, c)) : u < 18446744073709551616 ∧ c ≤ l.length ∧ l.take c = enc u ∧ c = (enc u).length := by
  obtain ⟨x, m, hu, hc, hm, ht, _, hlt⟩ := dec_sound l 0 0 u c (by omega) h
  simp at hu hc hlt
  subst hu hc
  refine ⟨hlt, hm, ht, ?_⟩
  have := congrArg List.length ht
  simp at this
  unfold enc
  omega

/-- No number's bytes are the beginning of another one's. -/
theorem enc_prefix {u v : Nat} {r : List UInt8} (hu : u < 18446744073709551616) (hv : v < 18446744073709551616) (h : enc v = enc u ++ r) : u = v ∧ r = [] := by
  have h1 := dec_enc v [] hv
  rw [List.append_nil, h, dec_enc u r hu] at h1
  simp only [Option.some.injEq, Prod.mk.injEq] at h1
  refine ⟨h1.1, ?_⟩
  have := h1.2
  simp at this
  exact this

theorem dec_cut {u j : Nat} (hu : u < 18446744073709551616) (hj : j < (enc u).length) : dec ((enc u).take j) 0 0 = none := by
  cases h : dec ((enc u).take j) 0 0 with
  | none => rfl
  | some p =>
    obtain ⟨v, c⟩ := p
    obtain ⟨hv, hc, ht, he⟩ := dec_take h
    have hc' : c ≤ j := by simp at hc; omega
    rw [List.take_take, Nat.min_eq_left hc'] at ht
    have e : enc u = enc v ++ (enc u).drop c := by rw [← ht, List.take_append_drop]
    have := (enc_prefix hv hu e).2
    simp at this
    omega

end Go.Proofs.YtmlfonmdiimdfaaDoor.Pl
