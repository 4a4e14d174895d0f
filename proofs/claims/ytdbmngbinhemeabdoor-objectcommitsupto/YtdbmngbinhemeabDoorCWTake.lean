/-
  What taking numbers and texts answers: takeBits, TakeInt, TakeText, at any place of any bytes. Conditions: a slice of bytes; a place that is an int.
-/
import Derived.Test.YtdbmngbinhemeabDoorCWPut
import Derived.WalkMore
import Derived.Deep.LoopGhost
namespace Go.Proofs.YtdbmngbinhemeabDoor
open Go.RowKit

def tk (a : Nat) : Option (Nat × Nat) → Value
  | none => .tuple #[.int .u64 0, .int .i64 0, .bool false]
  | some (u, c) => .tuple #[.int .u64 u, .int .i64 ((a + c : Nat) : Int), .bool true]

theorem ret_tk {x y : Int} {a u c : Nat} (hx : x = (u : Int)) (hy : y = ((a + c : Nat) : Int)) :
    Ending.returned (.tuple #[.int .u64 x, .int .i64 y, .bool true]) = .returned (tk a (some (u, c))) := by
  rw [hx, hy]; rfl
theorem or_sh (acc c k : Nat) (hk : k ≤ 9) (hacc : acc < 2 ^ (7 * k)) (hlt : c * 2 ^ (7 * k) < 18446744073709551616) :
    bits .or .u64 (acc : Int) (IntKind.u64.wrap ((c : Int) * 2 ^ (7 * k))) = ((acc + c * 2 ^ (7 * k) : Nat) : Int) := by
  have e0 : ((c : Int) * 2 ^ (7 * k)) = ((c * 2 ^ (7 * k) : Nat) : Int) := by rw [Int.natCast_mul, Int.natCast_pow]; rfl
  have h63 : (2 : Nat) ^ (7 * k) ≤ 2 ^ 63 := Nat.pow_le_pow_right (by omega) (by omega)
  have e63 : (2 : Nat) ^ 63 = 9223372036854775808 := by decide
  have e1 : IntKind.u64.wrap ((c * 2 ^ (7 * k) : Nat) : Int) = ((c * 2 ^ (7 * k) : Nat) : Int) := by
    generalize c * 2 ^ (7 * k) = t at *
    rw [IntKind.wrap_u64]; omega
  rw [e0, e1, u64_or_nat _ _ (by omega) hlt, Nat.or_comm, Nat.mul_comm c, ← Nat.two_pow_add_eq_or_of_lt hacc c, Nat.add_comm]
theorem or_sh63 (acc c k : Nat) (hk : 7 * (k : Int) = 63) (hacc : acc < 2 ^ (7 * k)) (hc : c ≤ 1) :
    bits .or .u64 (acc : Int) ((c : Int) * 9223372036854775808) = ((acc + c * 2 ^ (7 * k) : Nat) : Int) := by
  obtain rfl : k = 9 := by omega
  have e63 : (2 : Nat) ^ (7 * 9) = 9223372036854775808 := by decide
  have h := or_sh acc c 9 (by omega) hacc (by rw [e63]; omega)
  have e : IntKind.u64.wrap ((c : Int) * 2 ^ (7 * 9)) = (c : Int) * 9223372036854775808 := by
    rw [IntKind.wrap_u64]; omega
  rw [e] at h
  exact h
theorem andNot128 (c : Nat) (h0 : 128 ≤ c) (h1 : c < 256) : IntKind.u64.wrap (bits .andNot .u8 (c : Int) 128) = ((c - 128 : Nat) : Int) := by
  have h : ∀ a : Fin 256, a.val &&& (255 - 128) = a.val % 128 := by decide +kernel
  have e := u8_andNot_nat c 128 h1 (by omega)
  have e2 := h ⟨c, h1⟩
  simp only at e2
  rw [show (128 : Int) = ((128 : Nat) : Int) from rfl, e, e2, IntKind.wrap_u64]
  omega
theorem small_sh (c k : Nat) (hk : k ≤ 8) (hc : c < 128) : c * 2 ^ (7 * k) < 18446744073709551616 := by
  have : (2 : Nat) ^ (7 * k) ≤ 2 ^ 56 := Nat.pow_le_pow_right (by omega) (by omega)
  have e3 : (2 : Nat) ^ 56 = 72057594037927936 := by decide
  rw [e3] at this
  have := Nat.mul_le_mul (show c ≤ 127 by omega) this
  omega
theorem acc_next (acc c k : Nat) (hacc : acc < 2 ^ (7 * k)) (hc : c < 128) : acc + c * 2 ^ (7 * k) < 2 ^ (7 * (k + 1)) := by
  rw [Pl.p7]
  have := Nat.mul_le_mul_right (2 ^ (7 * k)) (show c ≤ 127 by omega)
  omega

set_option maxHeartbeats 400000 in
theorem takeBits_neg (w : World) (v : Value) (at_ : Int) (h : at_ < 0) :
    Calls Tryd.prog 135 #[v, .int .i64 at_] w fun e w' => e = .returned (.tuple #[.int .u64 0, .int .i64 0, .bool false]) ∧ w' = w := by
  go_enter Tryd.func135, Tryd.ntmps135
  go_wp2
  go_step3
  go_wp2
  rw [Exit.noGoto_ret]
  go_ret3
  exact ⟨rfl, rfl⟩

set_option maxRecDepth 20000 in
set_option maxHeartbeats 800000 in
theorem takeBits_at (w : World) (v : Value) (l : List UInt8) (a : Nat) (h : Sl w v l) (ha : (a : Int) ≤ 9223372036854775807) :
    Calls Tryd.prog 135 #[v, .int .i64 a] w fun e w' => e = .returned (tk a (Pl.dec (l.drop a) 0 0)) ∧ w' = w := by
  obtain ⟨ao, cap, rfl, h1, h2, h3, h4⟩ := h
  go_enter Tryd.func135, Tryd.ntmps135
  go_wp2
  go_step3
  go_wp2
  go_step3
  go_wp2
  go_loop [7, 8, 9] (fun x sh i => ∃ (k acc : Nat), k ≤ 9 ∧ x = .int .u64 acc ∧ sh = .int .i64 ((7 * k : Nat) : Int) ∧ i = .int .i64 ((a + k : Nat) : Int) ∧ acc < 2 ^ (7 * k) ∧ Pl.dec (l.drop a) 0 0 = Pl.dec (l.drop (a + k)) k acc)
    (fun _ _ i => l.length - (intOf i).toNat)
  case atStart => exact ⟨0, 0, by omega, rfl, rfl, rfl, by simp, rfl⟩
  case round =>
    obtain ⟨k, acc, hk, rfl, rfl, rfl, hacc, hd⟩ := hrel
    unfold maxLen at h2
    by_cases hlt : a + k < l.length
    · obtain ⟨b, off, rfl, hb, hc⟩ := h4 (by rintro rfl; simp at hlt)
      have hcell := hc (a + k) hlt
      have hdrop : l.drop (a + k) = l[a + k] :: l.drop (a + k + 1) := List.drop_eq_getElem_cons hlt
      rw [hdrop] at hd
      have hc256 := UInt8.toNat_lt l[a + k]
      simp only [Pl.dec] at hd
      generalize (l[a + k]).toNat = c at *
      have HD := hide hd
      have HA := hide hacc
      clear hd hacc hdrop hc h4
      by_cases c1 : k = 9 ∧ 1 < c
      · have hd' : Pl.dec (l.drop a) 0 0 = none := by rw [HD.out, if_pos c1]
        have HN := hide hd'
        clear hd' HD HA
        obtain ⟨rfl, c1⟩ := c1
        go_wp2
        all_goals (go_ret3; exact ⟨by rw [HN.out]; rfl, rfl⟩)
      · by_cases c2 : 0 < k ∧ c = 0
        · have hd' : Pl.dec (l.drop a) 0 0 = none := by rw [HD.out, if_neg c1, if_pos c2]
          have HN := hide hd'
          clear hd' HD HA c1
          obtain ⟨c2, rfl⟩ := c2
          go_wp2
          all_goals (go_ret3; exact ⟨by rw [HN.out]; rfl, rfl⟩)
        · by_cases c3 : c < 128
          · have hd' : Pl.dec (l.drop a) 0 0 = some (acc + c * 2 ^ (7 * k), k + 1) := by rw [HD.out, if_neg c1, if_neg c2, if_pos c3]
            have HN := hide hd'
            clear hd' HD
            have hk9 : k = 9 → c ≤ 1 := by omega
            go_wp2
            · go_ret3
              rw [HN.out]
              exact ⟨ret_tk (or_sh63 acc c k (by assumption) HA.out (by omega)) (by omega), rfl⟩
            · go_ret3
              rw [HN.out]
              exact ⟨ret_tk (or_sh acc c k hk HA.out (small_sh c k (by omega) c3)) (by omega), rfl⟩
            · go_ret3
              rw [HN.out]
              exact ⟨ret_tk (or_sh acc c k hk HA.out (small_sh c k (by omega) c3)) (by omega), rfl⟩
          · have hd' : Pl.dec (l.drop a) 0 0 = Pl.dec (l.drop (a + k + 1)) (k + 1) (acc + (c - 128) * 2 ^ (7 * k)) := by rw [HD.out, if_neg c1, if_neg c2, if_neg c3]
            have HN := hide hd'
            clear hd' HD
            have HB : Hid (bits .or .u64 (acc : Int) (IntKind.u64.wrap (IntKind.u64.wrap (bits .andNot .u8 (c : Int) 128) * 2 ^ (7 * k))) = ((acc + (c - 128) * 2 ^ (7 * k) : Nat) : Int)) := by
              rw [andNot128 c (by omega) (by omega)]
              exact or_sh acc (c - 128) k hk HA.out (small_sh _ k (by omega) (by omega))
            go_wp2
            all_goals go_round
            all_goals first
              | (case rel => exact ⟨k + 1, _, by omega, congrArg (Value.int .u64) HB.out, by go_num, by go_num, acc_next acc (c - 128) k HA.out (by omega), HN.out⟩)
              | (case measure => simp [intOf]; omega)
    · have hd' : Pl.dec (l.drop a) 0 0 = none := by rw [hd, List.drop_eq_nil_of_le (by omega)]; rfl
      have HN := hide hd'
      clear hd' hd hacc h4
      go_wp2
      go_ret3
      exact ⟨by rw [HN.out]; rfl, rfl⟩

/-- What stands at a place: a number, and the place behind it. -/
def takeI (l : List UInt8) (p : Int) : Option (Int × Nat) := if p < 0 then none else (Pl.dec (l.drop p.toNat) 0 0).map fun x => (Pl.unzz x.1, p.toNat + x.2)

theorem takeI_some {l : List UInt8} {p : Int} {n : Int} {q : Nat} (h : takeI l p = some (n, q)) :
    ∃ u c, 0 ≤ p ∧ Pl.dec (l.drop p.toNat) 0 0 = some (u, c) ∧ n = Pl.unzz u ∧ q = p.toNat + c ∧ u < 18446744073709551616 ∧ p.toNat + c ≤ l.length := by
  unfold takeI at h
  split at h
  · cases h
  · cases hd : Pl.dec (l.drop p.toNat) 0 0 with
    | none => rw [hd] at h; cases h
    | some x =>
      rw [hd] at h
      simp only [Option.map_some, Option.some.injEq, Prod.mk.injEq] at h
      obtain ⟨u, c⟩ := x
      have := Pl.dec_take hd
      have h2 := this.2.1
      have h3 := (Pl.enc_length u).1
      have h4 := this.2.2.2
      rw [List.length_drop] at h2
      exact ⟨u, c, by omega, rfl, h.1.symm, h.2.symm, this.1, by omega⟩

theorem takeBits_none (w : World) (v : Value) (l : List UInt8) (p : Int) (h : Sl w v l) (hp : p ≤ 9223372036854775807) (hn : takeI l p = none) :
    Calls Tryd.prog 135 #[v, .int .i64 p] w fun e w' => e = .returned (.tuple #[.int .u64 0, .int .i64 0, .bool false]) ∧ w' = w := by
  by_cases h0 : p < 0
  · exact takeBits_neg w v p h0
  · obtain ⟨a, rfl⟩ := Int.eq_ofNat_of_zero_le (show 0 ≤ p by omega)
    have hd : Pl.dec (l.drop a) 0 0 = none := by
      unfold takeI at hn
      rw [if_neg h0] at hn
      simpa using hn
    have := takeBits_at w v l a h hp
    rw [hd] at this
    exact this
theorem takeBits_some (w : World) (v : Value) (l : List UInt8) (p : Int) (u c q : Nat) (h : Sl w v l) (h0 : 0 ≤ p) (hp : p ≤ 9223372036854775807) (hd : Pl.dec (l.drop p.toNat) 0 0 = some (u, c)) (hq : q = p.toNat + c) :
    Calls Tryd.prog 135 #[v, .int .i64 p] w fun e w' => e = .returned (.tuple #[.int .u64 u, .int .i64 (q : Int), .bool true]) ∧ w' = w := by
  subst hq
  obtain ⟨a, rfl⟩ := Int.eq_ofNat_of_zero_le h0
  have := takeBits_at w v l a h hp
  simp only [Int.toNat_natCast] at hd ⊢
  rw [hd] at this
  exact this

set_option maxHeartbeats 400000 in
theorem takeInt_none (w : World) (v : Value) (l : List UInt8) (p : Int) (h : Sl w v l) (hp : p ≤ 9223372036854775807) (hn : takeI l p = none) :
    Calls Tryd.prog 121 #[v, .int .i64 p] w fun e w' => e = .returned (.tuple #[.int .i64 0, .int .i64 0, .bool false]) ∧ w' = w := by
  have HN := hide hn
  clear hn
  go_enter Tryd.func121, Tryd.ntmps121
  go_wp2_with fail
  refine (takeBits_none _ _ l p h hp HN.out).mono ?_
  rintro e w1 ⟨rfl, rfl⟩
  go_wp2_with fail
  refine (unfold_any 0 _ (by omega)).mono ?_
  rintro e w1 ⟨rfl, rfl⟩
  go_wp2
  go_ret3
  exact ⟨rfl, rfl⟩
set_option maxHeartbeats 400000 in
theorem takeInt_some (w : World) (v : Value) (l : List UInt8) (p n : Int) (q : Nat) (h : Sl w v l) (hp : p ≤ 9223372036854775807) (hn : takeI l p = some (n, q)) :
    Calls Tryd.prog 121 #[v, .int .i64 p] w fun e w' => e = .returned (.tuple #[.int .i64 n, .int .i64 (q : Int), .bool true]) ∧ w' = w := by
  obtain ⟨u, c, h0, hd, rfl, hq, hu, _⟩ := takeI_some hn
  have HD := hide hd
  have HQ := hide hq
  clear hq
  have HU := hide hu
  clear hn hd hu
  go_enter Tryd.func121, Tryd.ntmps121
  go_wp2_with fail
  refine (takeBits_some _ _ l p u c q h h0 hp HD.out HQ.out).mono ?_
  rintro e w1 ⟨rfl, rfl⟩
  go_wp2_with fail
  refine (unfold_any u _ HU.out).mono ?_
  rintro e w1 ⟨rfl, rfl⟩
  go_wp2
  go_ret3
  exact ⟨rfl, rfl⟩

end Go.Proofs.YtdbmngbinhemeabDoor
