/-
  What taking numbers and texts answers: takeBits, TakeInt, TakeText, at any place of any bytes. Conditions: a slice of bytes; a place that is an int.
  What taking texts answers, at any place of any bytes. Conditions: a slice of bytes; a place that is an int.
  Plain facts: what was put is taken as it was, at whatever place; what is taken, put again, has just those bytes; a beginning is none. Condition: numbers within 64 bits.
-/
import Derived.Test.YtdbmngbinhemeabGreatDoorRW1
import Derived.WalkMore
import Derived.Deep.LoopGhost
namespace Go.Proofs.YtdbmngbinhemeabGreatDoor
open Go.RowKit

def tk (a : Nat) : Option (Nat × Nat) → Value
  | none => .tuple #[.int .u64 0, .int .i64 0, .bool false]
  | some (u, c) => .tuple #[.int .u64 u, .int .i64 ((a + c : Nat) : Int), .bool true]

theorem ret_tk {x y : Int} {a u c : Nat} (hx : x = (u : Int)) (hy : y = ((a + c : Nat) : Int)) :
    Ending.returned (.tuple #[.int .u64 x, .int .i64 y, .bool true]) = .returned (tk a (some (u, c))) := by
  rw [hx, hy]; rfl
theorem or_sh (acc c k : Nat) (hk : k ≤ 9) (hacc : acc < 2 ^ (7 * k)) (hlt : c * 2 ^ (7 * k) < 18446744073709551616) :
    bits .or .u64 (acc : Int) (IntKind.u64.wrap ((c : Int) * 2 ^ (7 * k))) = ((acc + c * 2 ^ (7 * k) : Nat) : Int) := by
  have e0 : ((c : Int) * 2 ^ (7 * k)) = ((c * 2 ^ (7 * k) : Nat) : Int) := by rw [Int.natCast_mul, Int.natCast_pow]; rfl
  have h63 : (2 : Nat) ^ (7 * k) ≤ 2 ^ 63 := Nat.pow_le_pow_right (by omega) (by omega)
  have e63 : (2 : Nat) ^ 63 = 9223372036854775808 := by decide
  have e1 : IntKind.u64.wrap ((c * 2 ^ (7 * k) : Nat) : Int) = ((c * 2 ^ (7 * k) : Nat) : Int) := by
    generalize c * 2 ^ (7 * k) = t at *
    rw [IntKind.wrap_u64]; omega
  rw [e0, e1, u64_or_nat _ _ (by omega) hlt, Nat.or_comm, Nat.mul_comm c, ← Nat.two_pow_add_eq_or_of_lt hacc c, Nat.add_comm]
theorem or_sh63 (acc c k : Nat) (hk : 7 * (k : Int) = 63) (hacc : acc < 2 ^ (7 * k)) (hc : c ≤ 1) :
    bits .or .u64 (acc : Int) ((c : Int) * 9223372036854775808) = ((acc + c * 2 ^ (7 * k) : Nat) : Int) := by
  obtain rfl : k = 9 := by omega
  have e63 : (2 : Nat) ^ (7 * 9) = 9223372036854775808 := by decide
  have h := or_sh acc c 9 (by omega) hacc (by rw [e63]; omega)
  have e : IntKind.u64.wrap ((c : Int) * 2 ^ (7 * 9)) = (c : Int) * 9223372036854775808 := by
    rw [IntKind.wrap_u64]; omega
  rw [e] at h
  exact h
theorem andNot128 (c : Nat) (h0 : 128 ≤ c) (h1 : c < 256) : IntKind.u64.wrap (bits .andNot .u8 (c : Int) 128) = ((c - 128 : Nat) : Int) := by
  have h : ∀ a : Fin 256, a.val &&& (255 - 128) = a.val % 128 := by decide +kernel
  have e := u8_andNot_nat c 128 h1 (by omega)
  have e2 := h ⟨c, h1⟩
  simp only at e2
  rw [show (128 : Int) = ((128 : Nat) : Int) from rfl, e, e2, IntKind.wrap_u64]
  omega
theorem small_sh (c k : Nat) (hk : k ≤ 8) (hc : c < 128) : c * 2 ^ (7 * k) < 18446744073709551616 := by
  have : (2 : Nat) ^ (7 * k) ≤ 2 ^ 56 := Nat.pow_le_pow_right (by omega) (by omega)
  have e3 : (2 : Nat) ^ 56 = 72057594037927936 := by decide
  rw [e3] at this
  have := Nat.mul_le_mul (show c ≤ 127 by omega) this
  omega
theorem acc_next (acc c k : Nat) (hacc : acc < 2 ^ (7 * k)) (hc : c < 128) : acc + c * 2 ^ (7 * k) < 2 ^ (7 * (k + 1)) := by
  rw [Pl.p7]
  have := Nat.mul_le_mul_right (2 ^ (7 * k)) (show c ≤ 127 by omega)
  omega

set_option maxHeartbeats 400000 in
theorem takeBits_neg (w : World) (v : Value) (at_ : Int) (h : at_ < 0) :
    Calls Tryz.prog 124 #[v, .int .i64 at_] w fun e w' => e = .returned (.tuple #[.int .u64 0, .int .i64 0, .bool false]) ∧ w' = w := by
  go_enter Tryz.func124, Tryz.ntmps124
  go_wp2
  go_step3
  go_wp2
  rw [Exit.noGoto_ret]
  go_ret3
  exact ⟨rfl, rfl⟩

set_option maxRecDepth 20000 in
set_option maxHeartbeats 800000 in
theorem takeBits_at (w : World) (v : Value) (l : List UInt8) (a : Nat) (h : Sl w v l) (ha : (a : Int) ≤ 9223372036854775807) :
    Calls Tryz.prog 124 #[v, .int .i64 a] w fun e w' => e = .returned (tk a (Pl.dec (l.drop a) 0 0)) ∧ w' = w := by
  obtain ⟨ao, cap, rfl, h1, h2, h3, h4⟩ := h
  go_enter Tryz.func124, Tryz.ntmps124
  go_wp2
  go_step3
  go_wp2
  go_step3
  go_wp2
  go_loop [7, 8, 9] (fun x sh i => ∃ (k acc : Nat), k ≤ 9 ∧ x = .int .u64 acc ∧ sh = .int .i64 ((7 * k : Nat) : Int) ∧ i = .int .i64 ((a + k : Nat) : Int) ∧ acc < 2 ^ (7 * k) ∧ Pl.dec (l.drop a) 0 0 = Pl.dec (l.drop (a + k)) k acc)
    (fun _ _ i => l.length - (intOf i).toNat)
  case atStart => exact ⟨0, 0, by omega, rfl, rfl, rfl, by simp, rfl⟩
  case round =>
    obtain ⟨k, acc, hk, rfl, rfl, rfl, hacc, hd⟩ := hrel
    unfold maxLen at h2
    by_cases hlt : a + k < l.length
    · obtain ⟨b, off, rfl, hb, hc⟩ := h4 (by rintro rfl; simp at hlt)
      have hcell := hc (a + k) hlt
      have hdrop : l.drop (a + k) = l[a + k] :: l.drop (a + k + 1) := List.drop_eq_getElem_cons hlt
      rw [hdrop] at hd
      have hc256 := UInt8.toNat_lt l[a + k]
      simp only [Pl.dec] at hd
      generalize (l[a + k]).toNat = c at *
      have HD := hide hd
      have HA := hide hacc
      clear hd hacc hdrop hc h4
      by_cases c1 : k = 9 ∧ 1 < c
      · have hd' : Pl.dec (l.drop a) 0 0 = none := by rw [HD.out, if_pos c1]
        have HN := hide hd'
        clear hd' HD HA
        obtain ⟨rfl, c1⟩ := c1
        go_wp2
        all_goals (go_ret3; exact ⟨by rw [HN.out]; rfl, rfl⟩)
      · by_cases c2 : 0 < k ∧ c = 0
        · have hd' : Pl.dec (l.drop a) 0 0 = none := by rw [HD.out, if_neg c1, if_pos c2]
          have HN := hide hd'
          clear hd' HD HA c1
          obtain ⟨c2, rfl⟩ := c2
          go_wp2
          all_goals (go_ret3; exact ⟨by rw [HN.out]; rfl, rfl⟩)
        · by_cases c3 : c < 128
          · have hd' : Pl.dec (l.drop a) 0 0 = some (acc + c * 2 ^ (7 * k), k + 1) := by rw [HD.out, if_neg c1, if_neg c2, if_pos c3]
            have HN := hide hd'
            clear hd' HD
            have hk9 : k = 9 → c ≤ 1 := by omega
            go_wp2
            · go_ret3
              rw [HN.out]
              exact ⟨ret_tk (or_sh63 acc c k (by assumption) HA.out (by omega)) (by omega), rfl⟩
            · go_ret3
              rw [HN.out]
              exact ⟨ret_tk (or_sh acc c k hk HA.out (small_sh c k (by omega) c3)) (by omega), rfl⟩
            · go_ret3
              rw [HN.out]
              exact ⟨ret_tk (or_sh acc c k hk HA.out (small_sh c k (by omega) c3)) (by omega), rfl⟩
          · have hd' : Pl.dec (l.drop a) 0 0 = Pl.dec (l.drop (a + k + 1)) (k + 1) (acc + (c - 128) * 2 ^ (7 * k)) := by rw [HD.out, if_neg c1, if_neg c2, if_neg c3]
            have HN := hide hd'
            clear hd' HD
            have HB : Hid (bits .or .u64 (acc : Int) (IntKind.u64.wrap (IntKind.u64.wrap (bits .andNot .u8 (c : Int) 128) * 2 ^ (7 * k))) = ((acc + (c - 128) * 2 ^ (7 * k) : Nat) : Int)) := by
              rw [andNot128 c (by omega) (by omega)]
              exact or_sh acc (c - 128) k hk HA.out (small_sh _ k (by omega) (by omega))
            go_wp2
            all_goals go_round
            all_goals first
              | (case rel => exact ⟨k + 1, _, by omega, congrArg (Value.int .u64) HB.out, by go_num, by go_num, acc_next acc (c - 128) k HA.out (by omega), HN.out⟩)
              | (case measure => simp [intOf]; omega)
    · have hd' : Pl.dec (l.drop a) 0 0 = none := by rw [hd, List.drop_eq_nil_of_le (by omega)]; rfl
      have HN := hide hd'
      clear hd' hd hacc h4
      go_wp2
      go_ret3
      exact ⟨by rw [HN.out]; rfl, rfl⟩

/-- What stands at a place: a number, and the place behind it. -/
def takeI (l : List UInt8) (p : Int) : Option (Int × Nat) := if p < 0 then none else (Pl.dec (l.drop p.toNat) 0 0).map fun x => (Pl.unzz x.1, p.toNat + x.2)

theorem takeI_some {l : List UInt8} {p : Int} {n : Int} {q : Nat} (h : takeI l p = some (n, q)) :
    ∃ u c, 0 ≤ p ∧ Pl.dec (l.drop p.toNat) 0 0 = some (u, c) ∧ n = Pl.unzz u ∧ q = p.toNat + c ∧ u < 18446744073709551616 ∧ p.toNat + c ≤ l.length := by
  unfold takeI at h
  split at h
  · cases h
  · cases hd : Pl.dec (l.drop p.toNat) 0 0 with
    | none => rw [hd] at h; cases h
    | some x =>
      rw [hd] at h
      simp only [Option.map_some, Option.some.injEq, Prod.mk.injEq] at h
      obtain ⟨u, c⟩ := x
      have := Pl.dec_take hd
      have h2 := this.2.1
      have h3 := (Pl.enc_length u).1
      have h4 := this.2.2.2
      rw [List.length_drop] at h2
      exact ⟨u, c, by omega, rfl, h.1.symm, h.2.symm, this.1, by omega⟩

theorem takeBits_none (w : World) (v : Value) (l : List UInt8) (p : Int) (h : Sl w v l) (hp : p ≤ 9223372036854775807) (hn : takeI l p = none) :
    Calls Tryz.prog 124 #[v, .int .i64 p] w fun e w' => e = .returned (.tuple #[.int .u64 0, .int .i64 0, .bool false]) ∧ w' = w := by
  by_cases h0 : p < 0
  · exact takeBits_neg w v p h0
  · obtain ⟨a, rfl⟩ := Int.eq_ofNat_of_zero_le (show 0 ≤ p by omega)
    have hd : Pl.dec (l.drop a) 0 0 = none := by
      unfold takeI at hn
      rw [if_neg h0] at hn
      simpa using hn
    have := takeBits_at w v l a h hp
    rw [hd] at this
    exact this
theorem takeBits_some (w : World) (v : Value) (l : List UInt8) (p : Int) (u c q : Nat) (h : Sl w v l) (h0 : 0 ≤ p) (hp : p ≤ 9223372036854775807) (hd : Pl.dec (l.drop p.toNat) 0 0 = some (u, c)) (hq : q = p.toNat + c) :
    Calls Tryz.prog 124 #[v, .int .i64 p] w fun e w' => e = .returned (.tuple #[.int .u64 u, .int .i64 (q : Int), .bool true]) ∧ w' = w := by
  subst hq
  obtain ⟨a, rfl⟩ := Int.eq_ofNat_of_zero_le h0
  have := takeBits_at w v l a h hp
  simp only [Int.toNat_natCast] at hd ⊢
  rw [hd] at this
  exact this

set_option maxHeartbeats 400000 in
theorem takeInt_none (w : World) (v : Value) (l : List UInt8) (p : Int) (h : Sl w v l) (hp : p ≤ 9223372036854775807) (hn : takeI l p = none) :
    Calls Tryz.prog 112 #[v, .int .i64 p] w fun e w' => e = .returned (.tuple #[.int .i64 0, .int .i64 0, .bool false]) ∧ w' = w := by
  have HN := hide hn
  clear hn
  go_enter Tryz.func112, Tryz.ntmps112
  go_wp2_with fail
  refine (takeBits_none _ _ l p h hp HN.out).mono ?_
  rintro e w1 ⟨rfl, rfl⟩
  go_wp2_with fail
  refine (unfold_any 0 _ (by omega)).mono ?_
  rintro e w1 ⟨rfl, rfl⟩
  go_wp2
  go_ret3
  exact ⟨rfl, rfl⟩
set_option maxHeartbeats 400000 in
theorem takeInt_some (w : World) (v : Value) (l : List UInt8) (p n : Int) (q : Nat) (h : Sl w v l) (hp : p ≤ 9223372036854775807) (hn : takeI l p = some (n, q)) :
    Calls Tryz.prog 112 #[v, .int .i64 p] w fun e w' => e = .returned (.tuple #[.int .i64 n, .int .i64 (q : Int), .bool true]) ∧ w' = w := by
  obtain ⟨u, c, h0, hd, rfl, hq, hu, _⟩ := takeI_some hn
  have HD := hide hd
  have HQ := hide hq
  clear hq
  have HU := hide hu
  clear hn hd hu
  go_enter Tryz.func112, Tryz.ntmps112
  go_wp2_with fail
  refine (takeBits_some _ _ l p u c q h h0 hp HD.out HQ.out).mono ?_
  rintro e w1 ⟨rfl, rfl⟩
  go_wp2_with fail
  refine (unfold_any u _ HU.out).mono ?_
  rintro e w1 ⟨rfl, rfl⟩
  go_wp2
  go_ret3
  exact ⟨rfl, rfl⟩

end Go.Proofs.YtdbmngbinhemeabGreatDoor
namespace Go.Proofs.YtdbmngbinhemeabGreatDoor
open Go.RowKit

/-- What stands at a place: a text of at most so many bytes, and the place behind it. -/
def takeT (l : List UInt8) (p most : Int) : Option (List UInt8 × Nat) :=
  match takeI l p with
  | none => none
  | some (n, q) => if n < 0 ∨ most < n ∨ (l.length : Int) - q < n then none else some ((l.drop q).take n.toNat, q + n.toNat)

set_option maxRecDepth 20000 in
set_option maxHeartbeats 400000 in
theorem takeText_none (w : World) (v : Value) (l : List UInt8) (p most : Int) (h : Sl w v l) (hp : p ≤ 9223372036854775807) (hn : takeT l p most = none) :
    Calls Tryz.prog 97 #[v, .int .i64 p, .int .i64 most] w fun e w' => e = .returned (.tuple #[.string ⟨#[]⟩, .int .i64 0, .bool false]) ∧ w' = w := by
  have h' := h
  obtain ⟨ao, cap, rfl, h1, h2, h3, h4⟩ := h'
  clear h4 h3
  unfold maxLen at h2
  cases ht : takeI l p with
  | none =>
    have HT := hide ht
    clear ht hn
    go_enter Tryz.func97, Tryz.ntmps97
    go_wp2_with fail
    refine (takeInt_none _ _ l p h hp HT.out).mono ?_
    rintro e w1 ⟨rfl, rfl⟩
    clear h
    go_wp2
    go_ret3
    exact ⟨rfl, rfl⟩
  | some x =>
    obtain ⟨n, q⟩ := x
    obtain ⟨u, c, h0, hd, hnu, hq, hu, hql⟩ := takeI_some ht
    have hc : n < 0 ∨ most < n ∨ (l.length : Int) - q < n := by
      unfold takeT at hn
      rw [ht] at hn
      simp only at hn
      split at hn
      · assumption
      · cases hn
    have hq1 : (q : Int) ≤ (l.length : Int) := by omega
    have HT := hide ht
    clear hn hd hnu hq hu hql
    go_enter Tryz.func97, Tryz.ntmps97
    go_wp2_with fail
    refine (takeInt_some _ _ l p n q h hp HT.out).mono ?_
    rintro e w1 ⟨rfl, rfl⟩
    clear h
    go_wp2
    all_goals (go_ret3; exact ⟨rfl, rfl⟩)

/-- 'string(b)'. -/
theorem run_str (w : World) (v : Value) (l : List UInt8) (h : Sl w v l) : (convert 28 9 v).run Tryz.prog w = .ok (.string ⟨l.toArray⟩) w := by
  obtain ⟨ao, cap, rfl, h1, h2, h3, h4⟩ := h
  by_cases hl : l = []
  · subst hl
    cases ao with
    | none =>
      rw [run_convert_bytes_string w 28 9 5 none _ cap Tryz.underlying28 Tryz.underlying5 Tryz.underlying9]
      rfl
    | some a => exact run_convert_bytes_back w 28 9 5 a cap [] Tryz.underlying28 Tryz.underlying5 Tryz.underlying9 (fun j hj => by simp at hj)
  · obtain ⟨b, off, rfl, hb, hc⟩ := h4 hl
    refine run_convert_bytes_back w 28 9 5 ⟨b, off, none⟩ cap l Tryz.underlying28 Tryz.underlying5 Tryz.underlying9 (fun j hj => ?_)
    rw [Addr.add_lit]
    exact hc j hj

theorem wpList_str (w : World) {ops : Array Oper} {rest : List Oper} {o : Oper} {a : Act} {Q : Exit → Act → World → Prop} (hg : o.guard = none) (x : Operand) (hop : o.op = Op.convert 28 9 x)
    {v : Value} {l : List UInt8} (h : Sl w v l) (hx : a.eval x = v) (hK : wpList Tryz.prog ops Q rest (a.put o.dst (.string ⟨l.toArray⟩)) w) : wpList Tryz.prog ops Q (o :: rest) a w := by
  refine wpList_plain hg fun K hK' => ?_
  have hr := run_str w v l h
  unfold Oper.wp
  simp [execOp, hop, hx, hr, Result.andThen]
  exact hK' _ _ hK

/-- 'b[i:j]' of such a slice. -/
theorem Sl.cut {w : World} {ao : Option Addr} {n cap : Nat} {l : List UInt8} (h : Sl w (.slice ao n cap) l) (i j : Nat) (hij : i ≤ j) (hj : j ≤ l.length) :
    ∀ ao', (i < j → ∀ b off, ao = some ⟨b, off, none⟩ → ao' = some ⟨b, off + i, none⟩) → (ao' = none → cap - i = 0) → Sl w (.slice ao' (j - i) (cap - i)) ((l.drop i).take (j - i)) := by
  intro ao' ha' hn'
  obtain ⟨ao0, cap0, hv, h1, h2, h3, h4⟩ := h
  injection hv with e1 e2 e3
  subst e1 e2 e3
  have hlen : ((l.drop i).take (j - i)).length = j - i := by simp; omega
  refine ⟨ao', cap - i, by rw [hlen], by omega, by omega, hn', fun hne => ?_⟩
  have hlt : i < j := by
    rcases Nat.lt_or_ge i j with h | h
    · exact h
    · exfalso; apply hne; rw [show j - i = 0 by omega]; simp
  obtain ⟨b, off, ha, hb, hc⟩ := h4 (by rintro rfl; simp at hj; omega)
  refine ⟨b, off + i, ha' hlt b off ha, hb, fun k hk => ?_⟩
  rw [hlen] at hk
  have := hc (i + k) (by omega)
  rw [Nat.add_assoc, this]
  simp

theorem Sl.cutEnd {w : World} {ao : Option Addr} {n r m : Nat} {l : List UInt8} (hm : r + m ≤ l.length) (h : Sl w (.slice ao n r) l) : Sl w (.slice ao m 0) ((l.drop r).take m) := by
  obtain ⟨ao0, cap0, hv, h1, h2, h3, h4⟩ := h
  injection hv with e1 e2 e3
  obtain rfl : m = 0 := by omega
  rw [List.take_zero]
  exact ⟨ao, 0, rfl, by simp, by simp, fun _ => rfl, fun hl => absurd rfl hl⟩
theorem Sl.cutAt {w : World} {ao : Option Addr} {n cap r m : Nat} {l : List UInt8} (hm : r + m ≤ l.length) (hr : r < cap) (h : Sl w (.slice ao n cap) l) :
    Sl w (.slice (Option.map (fun x => x.add r) ao) m (cap - r)) ((l.drop r).take m) := by
  have := h.cut r (r + m) (by omega) hm (Option.map (fun x => x.add r) ao) (fun _ b off ha => by rw [ha]; simp [Addr.add_lit]) (fun hn => by
    obtain ⟨ao0, cap0, hv, h1, h2, h3, h4⟩ := h
    injection hv with e1 e2 e3
    subst e1 e3
    have := h3 (by simpa using hn)
    omega)
  rw [show r + m - r = m from by omega] at this
  exact this

set_option maxRecDepth 20000 in
set_option maxHeartbeats 400000 in
theorem takeText_some (w : World) (v : Value) (l : List UInt8) (p most : Int) (t : List UInt8) (q : Nat) (h : Sl w v l) (hp : p ≤ 9223372036854775807) (hn : takeT l p most = some (t, q)) :
    Calls Tryz.prog 97 #[v, .int .i64 p, .int .i64 most] w fun e w' => e = .returned (.tuple #[.string ⟨t.toArray⟩, .int .i64 (q : Int), .bool true]) ∧ w' = w := by
  have h' := h
  obtain ⟨ao, cap, rfl, h1, h2, h3, h4⟩ := h'
  clear h4 h3
  unfold maxLen at h2
  cases ht : takeI l p with
  | none => unfold takeT at hn; rw [ht] at hn; cases hn
  | some x =>
    obtain ⟨n, r⟩ := x
    obtain ⟨u, c, h0, hd, hnu, hq, hu, hql⟩ := takeI_some ht
    unfold takeT at hn
    rw [ht] at hn
    simp only at hn
    split at hn
    · cases hn
    rename_i hc
    simp only [Option.some.injEq, Prod.mk.injEq] at hn
    obtain ⟨ht1, ht2⟩ := hn
    have c1 : 0 ≤ n := by omega
    have c2 : n ≤ most := by omega
    have c3 : n ≤ (l.length : Int) - r := by omega
    have hq1 : (r : Int) ≤ (l.length : Int) := by omega
    have HT := hide ht
    have H1 := hide ht1
    have H2 := hide ht2
    obtain ⟨m, rfl⟩ := Int.eq_ofNat_of_zero_le c1
    clear hc ht hd hnu hq hu hql ht1 ht2
    go_enter Tryz.func97, Tryz.ntmps97
    go_wp2_with fail
    refine (takeInt_some _ _ l p m r h hp HT.out).mono ?_
    rintro e w1 ⟨rfl, rfl⟩
    rw [show (m : Int).toNat = m from rfl] at H1 H2
    rcases Nat.lt_or_ge r cap with hrc | hrc
    · have hs := Sl.cutAt (show r + m ≤ l.length by omega) hrc h
      clear h
      go_wp2_with (refine wpList_str _ rfl (.tmp 45) rfl hs (by first | rfl | (simp [go_sem]; done)) ?_)
      go_ret3
      rw [← H1.out, ← H2.out]
      exact ⟨rfl, rfl⟩
    · obtain rfl : cap = r := by omega
      have hs := Sl.cutEnd (show cap + m ≤ l.length by omega) h
      clear h
      go_wp2_with (refine wpList_str _ rfl (.tmp 45) rfl hs (by first | rfl | (simp [go_sem]; done)) ?_)
      go_ret3
      rw [← H1.out, ← H2.out]
      exact ⟨rfl, rfl⟩
end Go.Proofs.YtdbmngbinhemeabGreatDoor
namespace Go.Proofs.YtdbmngbinhemeabGreatDoor
open Go.RowKit

def num (n : Int) : List UInt8 := Pl.enc (Pl.zz n)
def txt (t : List UInt8) : List UInt8 := num t.length ++ t

theorem num_length (n : Int) : 1 ≤ (num n).length ∧ (num n).length ≤ 10 := Pl.enc_length _

theorem takeI_put (p r : List UInt8) (n : Int) (h0 : -9223372036854775808 ≤ n) (h1 : n ≤ 9223372036854775807) :
    takeI (p ++ (num n ++ r)) p.length = some (n, p.length + (num n).length) := by
  unfold takeI num
  rw [if_neg (by omega), Int.toNat_natCast, List.drop_left, Pl.dec_enc _ r (Pl.zz_lt n h0 h1)]
  simp [Pl.unzz_zz]

theorem takeT_put (p r t : List UInt8) (most : Int) (hm : (t.length : Int) ≤ most) (h1 : (t.length : Int) ≤ 9223372036854775807) :
    takeT (p ++ (txt t ++ r)) p.length most = some (t, p.length + (txt t).length) := by
  unfold takeT txt
  rw [List.append_assoc, takeI_put p (t ++ r) t.length (by omega) h1]
  simp only
  rw [if_neg (by simp; omega)]
  have e : p ++ (num t.length ++ (t ++ r)) = (p ++ num t.length) ++ (t ++ r) := by simp
  have e2 : p.length + (num t.length).length = (p ++ num t.length).length := by simp
  rw [e, e2, List.drop_left, Int.toNat_natCast, List.take_left]
  simp; omega

theorem takeI_sound {l : List UInt8} {p n : Int} {q : Nat} (h : takeI l p = some (n, q)) :
    0 ≤ p ∧ p.toNat ≤ q ∧ q ≤ l.length ∧ (l.drop p.toNat).take (q - p.toNat) = num n ∧ -9223372036854775808 ≤ n ∧ n ≤ 9223372036854775807 ∧ q = p.toNat + (num n).length := by
  obtain ⟨u, c, h0, hd, rfl, rfl, hu, hc⟩ := takeI_some h
  obtain ⟨_, h2, h3, h4⟩ := Pl.dec_take hd
  have hb := Pl.unzz_bd u hu
  have e : num (Pl.unzz u) = Pl.enc u := by unfold num; rw [Pl.zz_unzz]
  rw [e]
  refine ⟨h0, by omega, hc, ?_, hb.1, hb.2, by omega⟩
  rw [show p.toNat + c - p.toNat = c from by omega]
  exact h3

theorem takeT_sound {l t : List UInt8} {p most : Int} {q : Nat} (h : takeT l p most = some (t, q)) :
    0 ≤ p ∧ p.toNat ≤ q ∧ q ≤ l.length ∧ (l.drop p.toNat).take (q - p.toNat) = txt t ∧ (t.length : Int) ≤ most := by
  unfold takeT at h
  cases ht : takeI l p with
  | none => rw [ht] at h; cases h
  | some x =>
    obtain ⟨n, r⟩ := x
    rw [ht] at h
    simp only at h
    split at h
    · cases h
    rename_i hc
    simp only [Option.some.injEq, Prod.mk.injEq] at h
    obtain ⟨rfl, rfl⟩ := h
    obtain ⟨h0, h1, h2, h3, h4, h5, h6⟩ := takeI_sound ht
    obtain ⟨k, rfl⟩ := Int.eq_ofNat_of_zero_le (show 0 ≤ n by omega)
    have hl : ((l.drop r).take k).length = k := by simp; omega
    refine ⟨h0, by omega, by omega, ?_, by simp only [Int.toNat_natCast]; omega⟩
    unfold txt
    simp only [Int.toNat_natCast]
    rw [hl]
    rw [show r + k - p.toNat = (r - p.toNat) + k from by omega, List.take_add, h3, List.drop_drop, show p.toNat + (r - p.toNat) = r from by omega]

theorem takeI_short (n : Int) (j : Nat) (hj : j < (num n).length) (h0 : -9223372036854775808 ≤ n) (h1 : n ≤ 9223372036854775807) : takeI ((num n).take j) 0 = none := by
  unfold takeI
  rw [if_neg (by omega)]
  have := Pl.dec_cut (Pl.zz_lt n h0 h1) hj
  unfold num
  simp [this]
theorem takeI_end (l : List UInt8) : takeI l l.length = none := by
  unfold takeI
  rw [if_neg (by omega)]
  simp [Pl.dec]
theorem takeT_less (t : List UInt8) (h1 : (t.length : Int) ≤ 9223372036854775807) : takeT (txt t) 0 ((t.length : Int) - 1) = none := by
  have := takeI_put [] t t.length (by omega) h1
  simp only [List.nil_append, List.length_nil] at this
  unfold takeT txt
  rw [show ((0 : Int)) = ((0 : Nat) : Int) from rfl, this]
  simp only
  rw [if_pos (by omega)]
theorem takeT_short (t : List UInt8) (j : Nat) (most : Int) (hj : j < (txt t).length) (h1 : (t.length : Int) ≤ 9223372036854775807) : takeT ((txt t).take j) 0 most = none := by
  by_cases hlt : j < (num t.length).length
  · have e : (txt t).take j = (num t.length).take j := by
      unfold txt; rw [List.take_append_of_le_length (by omega)]
    unfold takeT
    rw [e, takeI_short _ j hlt (by omega) h1]
  · have e : (txt t).take j = num t.length ++ t.take (j - (num t.length).length) := by
      unfold txt; rw [List.take_append, List.take_of_length_le (by omega)]
    have hi := takeI_put [] (t.take (j - (num t.length).length)) t.length (by omega) h1
    simp only [List.nil_append, List.length_nil, Nat.zero_add] at hi
    unfold takeT
    rw [e, show ((0 : Int)) = ((0 : Nat) : Int) from rfl, hi]
    simp only
    rw [if_pos]
    right; right
    unfold txt at hj
    simp at hj ⊢
    omega

theorem putNum_any (w : World) (n : Int) (h0 : -9223372036854775808 ≤ n) (h1 : n ≤ 9223372036854775807) :
    Calls Tryz.prog 93 #[.slice none 0 0, .int .i64 n] w fun e w' => ∃ g m cap, e = .returned (.slice (some ⟨g, 0, none⟩) m cap) ∧ Hid (m = (num n).length) ∧ m ≤ cap ∧
      Sl w' (.slice (some ⟨g, 0, none⟩) m cap) (num n) ∧ Below w.heap.size w w' := putInt_any w _ [] n (Sl.nil _) h0 h1 (by simp)
theorem putTxt_any (w : World) (s : ByteArray) (hl : s.size ≤ 281474976710646) :
    Calls Tryz.prog 94 #[.slice none 0 0, .string s] w fun e w' => ∃ g m cap, e = .returned (.slice (some ⟨g, 0, none⟩) m cap) ∧ Hid (m = (txt s.data.toList).length) ∧ m ≤ cap ∧
      Sl w' (.slice (some ⟨g, 0, none⟩) m cap) (txt s.data.toList) ∧ Below w.heap.size w w' := putText_any w _ [] s (Sl.nil _) (by simpa using hl)

/-- A text of these bytes. -/
def strB (l : List UInt8) : ByteArray := ⟨l.toArray⟩
theorem strB_list (l : List UInt8) : (strB l).data.toList = l := by simp [strB]
theorem strB_size (l : List UInt8) : (strB l).size = l.length := by simp [strB, ByteArray.size]
theorem strB_of (s : ByteArray) : strB s.data.toList = s := by simp [strB]
theorem strB_inj {a b : List UInt8} (h : strB a = strB b) : a = b := by rw [← strB_list a, h, strB_list]

theorem takeText_str (w : World) (v : Value) (l : List UInt8) (p most : Int) (s : ByteArray) (q : Nat) (h : Sl w v l) (hp : p ≤ 9223372036854775807) (hn : takeT l p most = some (s.data.toList, q)) :
    Calls Tryz.prog 97 #[v, .int .i64 p, .int .i64 most] w fun e w' => e = .returned (.tuple #[.string s, .int .i64 (q : Int), .bool true]) ∧ w' = w := by
  have := takeText_some w v l p most _ q h hp hn
  have e : (⟨s.data.toList.toArray⟩ : ByteArray) = s := strB_of s
  rw [e] at this
  exact this

theorem wpList_strB (w : World) {ops : Array Oper} {rest : List Oper} {o : Oper} {a : Act} {Q : Exit → Act → World → Prop} (hg : o.guard = none) (x : Operand) (hop : o.op = Op.convert 28 9 x)
    {v : Value} {l : List UInt8} (h : Sl w v l) (hx : a.eval x = v) (hK : wpList Tryz.prog ops Q rest (a.put o.dst (.string (strB l))) w) : wpList Tryz.prog ops Q (o :: rest) a w :=
  wpList_str w hg x hop h hx hK
end Go.Proofs.YtdbmngbinhemeabGreatDoor
