/-
  Texts joined: WPlain, WFold, WPut, WTake, WText, WFacts, HSha, HRot, HMem.
-/
import Derived.Test.YtldfjpgcemfpjaaRows
import Derived.WalkKit
import Derived.ProofKit
import Derived.Lib.BitFns
import Derived.Lib.AppendStr
import Derived.Laws.IdiomStrings
import Derived.WalkMore
import Derived.Deep.LoopGhost
import Derived.Lib.Tables
import Derived.Deep.MidRow
import Derived.Deep.WholeRow
import Derived.BigQuiet
import Derived.Deep.RegionWith
import Derived.WalkSmall
/-
  Plain facts on numbers' bytes, without any program: the bytes of a number by sevens, what bytes say, and that the two are one to one. No condition.
-/
namespace Go.Proofs.Ytldfjpgcemfpjaa.Pl

def zz (n : Int) : Nat := if 0 ≤ n then (2 * n).toNat else (-2 * n - 1).toNat
def unzz (u : Nat) : Int := if u % 2 = 0 then ((u / 2 : Nat) : Int) else -((u / 2 : Nat) : Int) - 1

def encF : Nat → Nat → List UInt8
  | 0, u => [UInt8.ofNat u]
  | k + 1, u => if u < 128 then [UInt8.ofNat u] else UInt8.ofNat (u % 128 + 128) :: encF k (u / 128)
def enc (u : Nat) : List UInt8 := encF 9 u

def dec : List UInt8 → Nat → Nat → Option (Nat × Nat)
  | [], _, _ => none
  | c :: r, k, acc =>
    if k = 9 ∧ 1 < c.toNat then none
    else if 0 < k ∧ c.toNat = 0 then none
    else if c.toNat < 128 then some (acc + c.toNat * 2 ^ (7 * k), k + 1)
    else dec r (k + 1) (acc + (c.toNat - 128) * 2 ^ (7 * k))

theorem zz_lt (n : Int) (h0 : -9223372036854775808 ≤ n) (h1 : n ≤ 9223372036854775807) : zz n < 18446744073709551616 := by
  unfold zz; split <;> omega
theorem unzz_zz (n : Int) : unzz (zz n) = n := by
  unfold unzz zz
  by_cases h : 0 ≤ n
  · rw [if_pos h, if_pos (by omega)]; omega
  · rw [if_neg h, if_neg (by omega)]; omega
theorem zz_unzz (u : Nat) : zz (unzz u) = u := by
  unfold unzz zz
  by_cases h : u % 2 = 0
  · rw [if_pos h, if_pos (by omega)]; omega
  · rw [if_neg h, if_neg (by omega)]; omega
theorem unzz_bd (u : Nat) (h : u < 18446744073709551616) : -9223372036854775808 ≤ unzz u ∧ unzz u ≤ 9223372036854775807 := by
  unfold unzz; split <;> omega

theorem byte_small {u : Nat} (h : u < 256) : (UInt8.ofNat u).toNat = u := by
  rw [UInt8.toNat_ofNat']; exact Nat.mod_eq_of_lt h

theorem encF_length (f : Nat) : ∀ u, 1 ≤ (encF f u).length ∧ (encF f u).length ≤ f + 1 := by
  induction f with
  | zero => intro u; simp [encF]
  | succ f ih =>
    intro u
    unfold encF
    split
    · simp
    · have := ih (u / 128); simp; omega
theorem enc_length (u : Nat) : 1 ≤ (enc u).length ∧ (enc u).length ≤ 10 := encF_length 9 u

theorem p7 (k : Nat) : 2 ^ (7 * (k + 1)) = 128 * 2 ^ (7 * k) := by
  rw [Nat.mul_add, Nat.pow_add]; omega

theorem dec_encF (f : Nat) : ∀ (u k acc : Nat) (r : List UInt8), f + k = 9 → u * 2 ^ (7 * k) < 18446744073709551616 → (0 < k → 0 < u) →
    dec (encF f u ++ r) k acc = some (acc + u * 2 ^ (7 * k), k + (encF f u).length) := by
  induction f with
  | zero =>
    intro u k acc r hk hu hp
    obtain rfl : k = 9 := by omega
    have hu2 : u < 2 := by
      have : (2 : Nat) ^ (7 * 9) = 9223372036854775808 := by decide
      rw [this] at hu; omega
    have hb : (UInt8.ofNat u).toNat = u := byte_small (by omega)
    have h0 : 0 < u := hp (by omega)
    simp only [encF, List.cons_append, dec, hb]
    rw [if_neg (by omega), if_neg (by omega), if_pos (by omega)]
    rfl
  | succ f ih =>
    intro u k acc r hk hu hp
    unfold encF
    by_cases h : u < 128
    · have hb : (UInt8.ofNat u).toNat = u := byte_small (by omega)
      rw [if_pos h]
      simp only [List.cons_append, dec, hb]
      rw [if_neg (by omega), if_neg (by omega), if_pos h]
      rfl
    · have hb : (UInt8.ofNat (u % 128 + 128)).toNat = u % 128 + 128 := byte_small (by omega)
      rw [if_neg h]
      simp only [List.cons_append, dec, hb]
      have hsp : u * 2 ^ (7 * k) = (u % 128) * 2 ^ (7 * k) + (u / 128) * 2 ^ (7 * (k + 1)) := by
        rw [p7, ← Nat.mul_assoc, ← Nat.add_mul]; congr 1; omega
      rw [if_neg (by omega), if_neg (by omega), if_neg (by omega), ih (u / 128) (k + 1) _ r (by omega) (by omega) (by omega)]
      simp only [List.length_cons, Option.some.injEq, Prod.mk.injEq]
      refine ⟨?_, by omega⟩
      rw [hsp, Nat.add_sub_cancel, Nat.add_assoc]
theorem dec_enc (u : Nat) (r : List UInt8) (h : u < 18446744073709551616) : dec (enc u ++ r) 0 0 = some (u, (enc u).length) := by
  have := dec_encF 9 u 0 0 r (by omega) (by simpa using h) (by omega)
  simpa [enc] using this

theorem encF_small (f u : Nat) (h : u < 128) : encF f u = [UInt8.ofNat u] := by
  cases f with
  | zero => rfl
  | succ f => unfold encF; rw [if_pos h]

theorem dec_sound : ∀ (l : List UInt8) (k acc u c : Nat), k ≤ 9 → dec l k acc = some (u, c) →
    ∃ x m, u = acc + x * 2 ^ (7 * k) ∧ c = k + m ∧ m ≤ l.length ∧ l.take m = encF (9 - k) x ∧ (0 < k → 0 < x) ∧ x * 2 ^ (7 * k) < 18446744073709551616 := by
  intro l
  induction l with
  | nil => intro k acc u c _ h; simp [dec] at h
  | cons b r ih =>
    intro k acc u c hk h
    have hb : b.toNat < 256 := b.toNat_lt
    simp only [dec] at h
    split at h
    · cases h
    split at h
    · cases h
    split at h
    · rename_i h1 h2 h3
      simp only [Option.some.injEq, Prod.mk.injEq] at h
      refine ⟨b.toNat, 1, h.1.symm, h.2.symm, by simp, ?_, by omega, ?_⟩
      · rw [encF_small _ _ h3]; simp
      · by_cases e : k = 9
        · subst e; have e2 : (2 : Nat) ^ (7 * 9) = 9223372036854775808 := by decide
          rw [e2]; omega
        · have : (2 : Nat) ^ (7 * k) ≤ 2 ^ 56 := Nat.pow_le_pow_right (by omega) (by omega)
          have e3 : (2 : Nat) ^ 56 = 72057594037927936 := by decide
          rw [e3] at this
          have := Nat.mul_le_mul (show b.toNat ≤ 127 by omega) this
          omega
    · rename_i h1 h2 h3
      obtain ⟨x, m, hu, hc, hm, ht, hx, hlt⟩ := ih (k + 1) _ u c (by omega) h
      have hx0 := hx (by omega)
      refine ⟨b.toNat - 128 + 128 * x, m + 1, ?_, by omega, by simp; omega, ?_, by omega, ?_⟩
      · rw [hu, p7, Nat.add_mul, Nat.add_assoc]; congr 2; rw [Nat.mul_comm 128 x, Nat.mul_assoc]
      · rw [List.take_succ_cons, ht, show 9 - k = (9 - (k + 1)) + 1 from by omega]
        conv => rhs; unfold encF
        rw [if_neg (by omega)]
        have e1 : (b.toNat - 128 + 128 * x) % 128 + 128 = b.toNat := by omega
        have e2 : (b.toNat - 128 + 128 * x) / 128 = x := by omega
        rw [e1, e2]
        simp
      · rw [p7] at hlt
        have e : (b.toNat - 128 + 128 * x) * 2 ^ (7 * k) = (b.toNat - 128) * 2 ^ (7 * k) + x * (128 * 2 ^ (7 * k)) := by
          rw [Nat.add_mul]; congr 1; rw [Nat.mul_comm 128 x, Nat.mul_assoc]
        have hk8 : k ≤ 8 := by omega
        have key : (b.toNat - 128) * 2 ^ (7 * k) < 128 * 2 ^ (7 * k) := Nat.mul_lt_mul_of_pos_right (by omega) (Nat.two_pow_pos _)
        rw [e]
        have hd : x * (128 * 2 ^ (7 * k)) + 128 * 2 ^ (7 * k) ≤ 18446744073709551616 := by
          have hpw : 18446744073709551616 = 2 ^ (64 - 7 * (k + 1)) * (128 * 2 ^ (7 * k)) := by
            rw [← p7, ← Nat.pow_add, show 64 - 7 * (k + 1) + 7 * (k + 1) = 64 from by omega]
          rw [hpw] at hlt ⊢
          have := Nat.lt_of_mul_lt_mul_right hlt
          rw [← Nat.succ_mul]
          exact Nat.mul_le_mul_right _ this
        omega

theorem dec_take {l : List UInt8} {u c : Nat} (h : dec l 0 0 = some (u, c)) : u < 18446744073709551616 ∧ c ≤ l.length ∧ l.take c = enc u ∧ c = (enc u).length := by
  obtain ⟨x, m, hu, hc, hm, ht, _, hlt⟩ := dec_sound l 0 0 u c (by omega) h
  simp at hu hc hlt
  subst hu hc
  refine ⟨hlt, hm, ht, ?_⟩
  have := congrArg List.length ht
  simp at this
  unfold enc
  omega

end Go.Proofs.Ytldfjpgcemfpjaa.Pl

/-
  What the program's small functions on numbers answer: fold, unfold, Len64, width. Conditions: arguments within their kinds.
-/
namespace Go.Proofs.Ytldfjpgcemfpjaa
open Go.RowKit

theorem xor_ones64 (b : Nat) (hb : b < 18446744073709551616) : 18446744073709551615 ^^^ b = 18446744073709551615 - b := by
  have hb' : b < 2 ^ 64 := by simpa using hb
  have e : ((2 ^ 64 - 1 : Nat)) ^^^ b = 2 ^ 64 - 1 - b := by
    apply Nat.eq_of_testBit_eq
    intro i
    rw [Nat.testBit_xor, Nat.testBit_two_pow_sub_one, show 2 ^ 64 - 1 - b = 2 ^ 64 - (b + 1) by omega, Nat.testBit_two_pow_sub_succ hb']
    by_cases hi : i < 64
    · simp [hi]
    · have : b.testBit i = false := Nat.testBit_lt_two_pow (Nat.lt_of_lt_of_le hb' (Nat.pow_le_pow_right (by decide) (by omega)))
      simp [hi, this]
  simpa using e

theorem ret_intW {k : IntKind} {a b : Int} (h : a = b) : Ending.returned (.int k a) = .returned (.int k b) := by rw [h]

theorem i64_not (x : Nat) (hx : x < 9223372036854775808) : bits .xor .i64 (x : Int) (-1) = -(x : Int) - 1 := by
  show IntKind.i64.wrap ((BitVec.ofInt 64 (x : Int) ^^^ BitVec.ofInt 64 (-1)).toNat : Int) = _
  have h1 : (BitVec.ofInt 64 (-1)).toNat = 18446744073709551615 := by decide
  have h2 : (BitVec.ofInt 64 (x : Int)).toNat = x := by
    rw [BitVec.ofInt_natCast, BitVec.toNat_ofNat]; exact Nat.mod_eq_of_lt (by omega)
  rw [BitVec.toNat_xor, h1, h2, Nat.xor_comm, xor_ones64 x (by omega), IntKind.wrap_i64]
  omega
theorem i64_xor0 (x : Nat) (hx : x < 9223372036854775808) : bits .xor .i64 (x : Int) 0 = (x : Int) := by
  show IntKind.i64.wrap ((BitVec.ofInt 64 (x : Int) ^^^ BitVec.ofInt 64 0).toNat : Int) = _
  have h1 : (BitVec.ofInt 64 0).toNat = 0 := by decide
  have h2 : (BitVec.ofInt 64 (x : Int)).toNat = x := by
    rw [BitVec.ofInt_natCast, BitVec.toNat_ofNat]; exact Nat.mod_eq_of_lt (by omega)
  rw [BitVec.toNat_xor, h1, h2, Nat.xor_zero, IntKind.wrap_i64]
  omega
theorem wraps_u64 (n : Int) (h₀ : 0 ≤ n) (h₁ : n < 2 ^ 64) : IntKind.u64.wrap n = n := by rw [IntKind.wrap_u64]; omega
theorem u64_and1 (x : Int) (h₀ : 0 ≤ x) (h₁ : x < 18446744073709551616) : bits .and .u64 x 1 = x % 2 := by
  have h := bits_mask .u64 64 (by decide) wraps_u64 1 (by decide) x h₀ (by omega)
  simpa using h

theorem unfold_eq (u : Nat) (h1 : u < 18446744073709551616) :
    bits .xor .i64 ((u : Int) / 2) (wrap64 (-wrap64 (bits .and .u64 (u : Int) 1))) = Pl.unzz u := by
  rw [u64_and1 _ (by omega) (by omega)]
  have e0 : ((u : Int) / 2) = ((u / 2 : Nat) : Int) := by omega
  unfold Pl.unzz
  by_cases h : u % 2 = 0
  · have e : ((u : Int) % 2) = 0 := by omega
    rw [if_pos h, e, show wrap64 (-wrap64 0) = 0 from by unfold wrap64; omega, e0, i64_xor0 _ (by omega)]
  · have e : ((u : Int) % 2) = 1 := by omega
    rw [if_neg h, e, show wrap64 (-wrap64 1) = -1 from by unfold wrap64; omega, e0, i64_not _ (by omega)]

theorem unfold_any (u : Nat) (w : World) (h1 : u < 18446744073709551616) :
    Calls Try.prog 112 #[.int .u64 u] w fun e w' => e = .returned (.int .i64 (Pl.unzz u)) ∧ w' = w := by
  go_enter Try.func112, Try.ntmps112
  go_wp2
  go_ret
  exact ⟨ret_intW (unfold_eq u h1), rfl⟩

end Go.Proofs.Ytldfjpgcemfpjaa

/-
  What putting numbers and texts answers: withRoom, putBits, PutInt, PutText. Conditions: bytes that are together within what make takes.
-/
namespace Go.Proofs.Ytldfjpgcemfpjaa
open Go.RowKit

theorem hide {p : Prop} (h : p) : Hid p := h

/-- A text's bytes as cells. -/
def bc (l : List UInt8) : List Value := l.map fun c => Value.int .u8 (c.toNat : Int)
theorem bc_length (l : List UInt8) : (bc l).length = l.length := by simp [bc]
theorem bc_append (a b : List UInt8) : bc (a ++ b) = bc a ++ bc b := by simp [bc]
theorem bc_one (l : List UInt8) : ∀ u ∈ bc l, u.oneCell' = true := by
  intro u hu
  obtain ⟨_, _, rfl⟩ := List.mem_map.1 hu
  rfl
theorem bc_get (l : List UInt8) (j : Nat) (h : j < l.length) : (bc l)[j]? = some (.int .u8 ((l[j]'h).toNat : Int)) := by
  simp [bc, List.getElem?_map, List.getElem?_eq_getElem h]

/-- The slice v has the bytes l, in the world w. -/
def Sl (w : World) (v : Value) (l : List UInt8) : Prop :=
  ∃ ao cap, v = .slice ao l.length cap ∧ l.length ≤ cap ∧ cap ≤ maxLen ∧ (ao = none → cap = 0) ∧
    (l ≠ [] → ∃ b off, ao = some ⟨b, off, none⟩ ∧ b < w.heap.size ∧ ∀ j (h : j < l.length), w.cell? ⟨b, off + j, none⟩ = some (.int .u8 ((l[j]'h).toNat : Int)))

theorem Sl.nil (w : World) : Sl w (.slice none 0 0) [] := ⟨none, 0, rfl, Nat.le_refl _, by simp, fun _ => rfl, fun h => absurd rfl h⟩

theorem Sl.keep {w w' : World} {v : Value} {l : List UInt8} (h : Sl w v l) (hb : Below w.heap.size w w') : Sl w' v l := by
  obtain ⟨ao, cap, hv, h1, h2, h3, h4⟩ := h
  refine ⟨ao, cap, hv, h1, h2, h3, fun hl => ?_⟩
  obtain ⟨b, off, ha, hlt, hc⟩ := h4 hl
  exact ⟨b, off, ha, Nat.lt_of_lt_of_le hlt hb.size, fun j hj => (hb.cell (p := ⟨b, off + j, none⟩) hlt).trans (hc j hj)⟩

theorem Sl.cells {w w' : World} {ao : Option Addr} {n cap : Nat} {l : List UInt8} (h : Sl w (.slice ao n cap) l) (hb : Below w.heap.size w w') :
    ∀ ad, ao = some ad → ∀ j u, (bc l)[j]? = some u → w'.cell? (ad.add j) = some u := by
  intro ad had j u hu
  obtain ⟨ao', cap', hv, _, _, _, h4⟩ := h.keep hb
  have hj : j < l.length := by
    have := (List.getElem?_eq_some_iff.1 hu).1
    rwa [bc_length] at this
  obtain ⟨b, off, ha, _, hc⟩ := h4 (by rintro rfl; simp at hj)
  injection hv with e1 e2 e3
  rw [← e1, had] at ha
  injection ha with ha
  subst ha
  rw [bc_get l j hj] at hu
  injection hu with hu
  subst hu
  rw [Addr.add_lit]
  exact hc j hj

/-- What the call owns is a slice with these bytes. -/
theorem sl_of_own {w : World} {base : Nat} {v : Value} {l : List UInt8} (h : w.ownsRow base 5 1 v l.length (bc l)) : Sl w v l := by
  obtain ⟨h1, h2⟩ := h
  rcases h2 with ⟨rfl, hn⟩ | ⟨g, cap, cur, rfl, hg, hh, hc, hm, hs, ht⟩
  · obtain rfl : l = [] := List.eq_nil_of_length_eq_zero hn
    exact Sl.nil w
  · refine ⟨_, _, rfl, hc, hm, (fun h => by cases h), fun _ => ⟨g, 0, rfl, ?_, fun j hj => ?_⟩⟩
    · exact (Array.getElem?_eq_some_iff.1 hh).1
    · have := World.ownsRow.cells (w := w) (base := base) (e := 5) (size := 1) (v := .slice (some ⟨g, 0, none⟩) l.length cap) (n := l.length) (xs := bc l) ⟨h1, Or.inr ⟨g, cap, cur, rfl, hg, hh, hc, hm, hs, ht⟩⟩ (g := g) rfl j _ (bc_get l j hj)
      rw [Addr.add_lit] at this
      exact this

theorem Try.infoB : (Try.prog.info? 5).map (fun i => (i.zero, i.size, i.bytes)) = some (some (.int .u8 0), 1, 1) := by kernel_rfl

theorem or128 (x : Nat) : bits .or .u8 ((x : Int) % 256) 128 = (((UInt8.ofNat (x % 128 + 128)).toNat : Nat) : Int) := by
  have e : (x : Int) % 256 = ((x % 256 : Nat) : Int) := by omega
  rw [e, show (128 : Int) = ((128 : Nat) : Int) from rfl, u8_or_nat _ _ (by omega) (by omega), Pl.byte_small (by omega)]
  have h : ∀ a : Fin 256, a.val ||| 128 = a.val % 128 + 128 := by decide +kernel
  have := h ⟨x % 256, by omega⟩
  simp only at this
  omega
end Go.Proofs.Ytldfjpgcemfpjaa

/-
  What taking numbers and texts answers: takeBits, TakeInt, TakeText, at any place of any bytes. Conditions: a slice of bytes; a place that is an int.
-/
namespace Go.Proofs.Ytldfjpgcemfpjaa
open Go.RowKit

def tk (a : Nat) : Option (Nat × Nat) → Value
  | none => .tuple #[.int .u64 0, .int .i64 0, .bool false]
  | some (u, c) => .tuple #[.int .u64 u, .int .i64 ((a + c : Nat) : Int), .bool true]

theorem ret_tk {x y : Int} {a u c : Nat} (hx : x = (u : Int)) (hy : y = ((a + c : Nat) : Int)) :
    Ending.returned (.tuple #[.int .u64 x, .int .i64 y, .bool true]) = .returned (tk a (some (u, c))) := by
  rw [hx, hy]; rfl
theorem or_sh (acc c k : Nat) (hk : k ≤ 9) (hacc : acc < 2 ^ (7 * k)) (hlt : c * 2 ^ (7 * k) < 18446744073709551616) :
    bits .or .u64 (acc : Int) (IntKind.u64.wrap ((c : Int) * 2 ^ (7 * k))) = ((acc + c * 2 ^ (7 * k) : Nat) : Int) := by
  have e0 : ((c : Int) * 2 ^ (7 * k)) = ((c * 2 ^ (7 * k) : Nat) : Int) := by rw [Int.natCast_mul, Int.natCast_pow]; rfl
  have h63 : (2 : Nat) ^ (7 * k) ≤ 2 ^ 63 := Nat.pow_le_pow_right (by omega) (by omega)
  have e63 : (2 : Nat) ^ 63 = 9223372036854775808 := by decide
  have e1 : IntKind.u64.wrap ((c * 2 ^ (7 * k) : Nat) : Int) = ((c * 2 ^ (7 * k) : Nat) : Int) := by
    generalize c * 2 ^ (7 * k) = t at *
    rw [IntKind.wrap_u64]; omega
  rw [e0, e1, u64_or_nat _ _ (by omega) hlt, Nat.or_comm, Nat.mul_comm c, ← Nat.two_pow_add_eq_or_of_lt hacc c, Nat.add_comm]
theorem or_sh63 (acc c k : Nat) (hk : 7 * (k : Int) = 63) (hacc : acc < 2 ^ (7 * k)) (hc : c ≤ 1) :
    bits .or .u64 (acc : Int) ((c : Int) * 9223372036854775808) = ((acc + c * 2 ^ (7 * k) : Nat) : Int) := by
  obtain rfl : k = 9 := by omega
  have e63 : (2 : Nat) ^ (7 * 9) = 9223372036854775808 := by decide
  have h := or_sh acc c 9 (by omega) hacc (by rw [e63]; omega)
  have e : IntKind.u64.wrap ((c : Int) * 2 ^ (7 * 9)) = (c : Int) * 9223372036854775808 := by
    rw [IntKind.wrap_u64]; omega
  rw [e] at h
  exact h
theorem andNot128 (c : Nat) (h0 : 128 ≤ c) (h1 : c < 256) : IntKind.u64.wrap (bits .andNot .u8 (c : Int) 128) = ((c - 128 : Nat) : Int) := by
  have h : ∀ a : Fin 256, a.val &&& (255 - 128) = a.val % 128 := by decide +kernel
  have e := u8_andNot_nat c 128 h1 (by omega)
  have e2 := h ⟨c, h1⟩
  simp only at e2
  rw [show (128 : Int) = ((128 : Nat) : Int) from rfl, e, e2, IntKind.wrap_u64]
  omega
theorem small_sh (c k : Nat) (hk : k ≤ 8) (hc : c < 128) : c * 2 ^ (7 * k) < 18446744073709551616 := by
  have : (2 : Nat) ^ (7 * k) ≤ 2 ^ 56 := Nat.pow_le_pow_right (by omega) (by omega)
  have e3 : (2 : Nat) ^ 56 = 72057594037927936 := by decide
  rw [e3] at this
  have := Nat.mul_le_mul (show c ≤ 127 by omega) this
  omega
theorem acc_next (acc c k : Nat) (hacc : acc < 2 ^ (7 * k)) (hc : c < 128) : acc + c * 2 ^ (7 * k) < 2 ^ (7 * (k + 1)) := by
  rw [Pl.p7]
  have := Nat.mul_le_mul_right (2 ^ (7 * k)) (show c ≤ 127 by omega)
  omega

set_option maxHeartbeats 400000 in
theorem takeBits_neg (w : World) (v : Value) (at_ : Int) (h : at_ < 0) :
    Calls Try.prog 111 #[v, .int .i64 at_] w fun e w' => e = .returned (.tuple #[.int .u64 0, .int .i64 0, .bool false]) ∧ w' = w := by
  go_enter Try.func111, Try.ntmps111
  go_wp2
  go_step3
  go_wp2
  rw [Exit.noGoto_ret]
  go_ret3
  exact ⟨rfl, rfl⟩

set_option maxRecDepth 20000 in
set_option maxHeartbeats 800000 in
theorem takeBits_at (w : World) (v : Value) (l : List UInt8) (a : Nat) (h : Sl w v l) (ha : (a : Int) ≤ 9223372036854775807) :
    Calls Try.prog 111 #[v, .int .i64 a] w fun e w' => e = .returned (tk a (Pl.dec (l.drop a) 0 0)) ∧ w' = w := by
  obtain ⟨ao, cap, rfl, h1, h2, h3, h4⟩ := h
  go_enter Try.func111, Try.ntmps111
  go_wp2
  go_step3
  go_wp2
  go_step3
  go_wp2
  go_loop [7, 8, 9] (fun x sh i => ∃ (k acc : Nat), k ≤ 9 ∧ x = .int .u64 acc ∧ sh = .int .i64 ((7 * k : Nat) : Int) ∧ i = .int .i64 ((a + k : Nat) : Int) ∧ acc < 2 ^ (7 * k) ∧ Pl.dec (l.drop a) 0 0 = Pl.dec (l.drop (a + k)) k acc)
    (fun _ _ i => l.length - (intOf i).toNat)
  case atStart => exact ⟨0, 0, by omega, rfl, rfl, rfl, by simp, rfl⟩
  case round =>
    obtain ⟨k, acc, hk, rfl, rfl, rfl, hacc, hd⟩ := hrel
    unfold maxLen at h2
    by_cases hlt : a + k < l.length
    · obtain ⟨b, off, rfl, hb, hc⟩ := h4 (by rintro rfl; simp at hlt)
      have hcell := hc (a + k) hlt
      have hdrop : l.drop (a + k) = l[a + k] :: l.drop (a + k + 1) := List.drop_eq_getElem_cons hlt
      rw [hdrop] at hd
      have hc256 := UInt8.toNat_lt l[a + k]
      simp only [Pl.dec] at hd
      generalize (l[a + k]).toNat = c at *
      have HD := hide hd
      have HA := hide hacc
      clear hd hacc hdrop hc h4
      by_cases c1 : k = 9 ∧ 1 < c
      · have hd' : Pl.dec (l.drop a) 0 0 = none := by rw [HD.out, if_pos c1]
        have HN := hide hd'
        clear hd' HD HA
        obtain ⟨rfl, c1⟩ := c1
        go_wp2
        all_goals (go_ret3; exact ⟨by rw [HN.out]; rfl, rfl⟩)
      · by_cases c2 : 0 < k ∧ c = 0
        · have hd' : Pl.dec (l.drop a) 0 0 = none := by rw [HD.out, if_neg c1, if_pos c2]
          have HN := hide hd'
          clear hd' HD HA c1
          obtain ⟨c2, rfl⟩ := c2
          go_wp2
          all_goals (go_ret3; exact ⟨by rw [HN.out]; rfl, rfl⟩)
        · by_cases c3 : c < 128
          · have hd' : Pl.dec (l.drop a) 0 0 = some (acc + c * 2 ^ (7 * k), k + 1) := by rw [HD.out, if_neg c1, if_neg c2, if_pos c3]
            have HN := hide hd'
            clear hd' HD
            have hk9 : k = 9 → c ≤ 1 := by omega
            go_wp2
            · go_ret3
              rw [HN.out]
              exact ⟨ret_tk (or_sh63 acc c k (by assumption) HA.out (by omega)) (by omega), rfl⟩
            · go_ret3
              rw [HN.out]
              exact ⟨ret_tk (or_sh acc c k hk HA.out (small_sh c k (by omega) c3)) (by omega), rfl⟩
            · go_ret3
              rw [HN.out]
              exact ⟨ret_tk (or_sh acc c k hk HA.out (small_sh c k (by omega) c3)) (by omega), rfl⟩
          · have hd' : Pl.dec (l.drop a) 0 0 = Pl.dec (l.drop (a + k + 1)) (k + 1) (acc + (c - 128) * 2 ^ (7 * k)) := by rw [HD.out, if_neg c1, if_neg c2, if_neg c3]
            have HN := hide hd'
            clear hd' HD
            have HB : Hid (bits .or .u64 (acc : Int) (IntKind.u64.wrap (IntKind.u64.wrap (bits .andNot .u8 (c : Int) 128) * 2 ^ (7 * k))) = ((acc + (c - 128) * 2 ^ (7 * k) : Nat) : Int)) := by
              rw [andNot128 c (by omega) (by omega)]
              exact or_sh acc (c - 128) k hk HA.out (small_sh _ k (by omega) (by omega))
            go_wp2
            all_goals go_round
            all_goals first
              | (case rel => exact ⟨k + 1, _, by omega, congrArg (Value.int .u64) HB.out, by go_num, by go_num, acc_next acc (c - 128) k HA.out (by omega), HN.out⟩)
              | (case measure => simp [intOf]; omega)
    · have hd' : Pl.dec (l.drop a) 0 0 = none := by rw [hd, List.drop_eq_nil_of_le (by omega)]; rfl
      have HN := hide hd'
      clear hd' hd hacc h4
      go_wp2
      go_ret3
      exact ⟨by rw [HN.out]; rfl, rfl⟩

/-- What stands at a place: a number, and the place behind it. -/
def takeI (l : List UInt8) (p : Int) : Option (Int × Nat) := if p < 0 then none else (Pl.dec (l.drop p.toNat) 0 0).map fun x => (Pl.unzz x.1, p.toNat + x.2)

theorem takeI_some {l : List UInt8} {p : Int} {n : Int} {q : Nat} (h : takeI l p = some (n, q)) :
    ∃ u c, 0 ≤ p ∧ Pl.dec (l.drop p.toNat) 0 0 = some (u, c) ∧ n = Pl.unzz u ∧ q = p.toNat + c ∧ u < 18446744073709551616 ∧ p.toNat + c ≤ l.length := by
  unfold takeI at h
  split at h
  · cases h
  · cases hd : Pl.dec (l.drop p.toNat) 0 0 with
    | none => rw [hd] at h; cases h
    | some x =>
      rw [hd] at h
      simp only [Option.map_some, Option.some.injEq, Prod.mk.injEq] at h
      obtain ⟨u, c⟩ := x
      have := Pl.dec_take hd
      have h2 := this.2.1
      have h3 := (Pl.enc_length u).1
      have h4 := this.2.2.2
      rw [List.length_drop] at h2
      exact ⟨u, c, by omega, rfl, h.1.symm, h.2.symm, this.1, by omega⟩

theorem takeBits_none (w : World) (v : Value) (l : List UInt8) (p : Int) (h : Sl w v l) (hp : p ≤ 9223372036854775807) (hn : takeI l p = none) :
    Calls Try.prog 111 #[v, .int .i64 p] w fun e w' => e = .returned (.tuple #[.int .u64 0, .int .i64 0, .bool false]) ∧ w' = w := by
  by_cases h0 : p < 0
  · exact takeBits_neg w v p h0
  · obtain ⟨a, rfl⟩ := Int.eq_ofNat_of_zero_le (show 0 ≤ p by omega)
    have hd : Pl.dec (l.drop a) 0 0 = none := by
      unfold takeI at hn
      rw [if_neg h0] at hn
      simpa using hn
    have := takeBits_at w v l a h hp
    rw [hd] at this
    exact this
theorem takeBits_some (w : World) (v : Value) (l : List UInt8) (p : Int) (u c q : Nat) (h : Sl w v l) (h0 : 0 ≤ p) (hp : p ≤ 9223372036854775807) (hd : Pl.dec (l.drop p.toNat) 0 0 = some (u, c)) (hq : q = p.toNat + c) :
    Calls Try.prog 111 #[v, .int .i64 p] w fun e w' => e = .returned (.tuple #[.int .u64 u, .int .i64 (q : Int), .bool true]) ∧ w' = w := by
  subst hq
  obtain ⟨a, rfl⟩ := Int.eq_ofNat_of_zero_le h0
  have := takeBits_at w v l a h hp
  simp only [Int.toNat_natCast] at hd ⊢
  rw [hd] at this
  exact this

set_option maxHeartbeats 400000 in
theorem takeInt_none (w : World) (v : Value) (l : List UInt8) (p : Int) (h : Sl w v l) (hp : p ≤ 9223372036854775807) (hn : takeI l p = none) :
    Calls Try.prog 108 #[v, .int .i64 p] w fun e w' => e = .returned (.tuple #[.int .i64 0, .int .i64 0, .bool false]) ∧ w' = w := by
  have HN := hide hn
  clear hn
  go_enter Try.func108, Try.ntmps108
  go_wp2_with fail
  refine (takeBits_none _ _ l p h hp HN.out).mono ?_
  rintro e w1 ⟨rfl, rfl⟩
  go_wp2_with fail
  refine (unfold_any 0 _ (by omega)).mono ?_
  rintro e w1 ⟨rfl, rfl⟩
  go_wp2
  go_ret3
  exact ⟨rfl, rfl⟩
set_option maxHeartbeats 400000 in
theorem takeInt_some (w : World) (v : Value) (l : List UInt8) (p n : Int) (q : Nat) (h : Sl w v l) (hp : p ≤ 9223372036854775807) (hn : takeI l p = some (n, q)) :
    Calls Try.prog 108 #[v, .int .i64 p] w fun e w' => e = .returned (.tuple #[.int .i64 n, .int .i64 (q : Int), .bool true]) ∧ w' = w := by
  obtain ⟨u, c, h0, hd, rfl, hq, hu, _⟩ := takeI_some hn
  have HD := hide hd
  have HQ := hide hq
  clear hq
  have HU := hide hu
  clear hn hd hu
  go_enter Try.func108, Try.ntmps108
  go_wp2_with fail
  refine (takeBits_some _ _ l p u c q h h0 hp HD.out HQ.out).mono ?_
  rintro e w1 ⟨rfl, rfl⟩
  go_wp2_with fail
  refine (unfold_any u _ HU.out).mono ?_
  rintro e w1 ⟨rfl, rfl⟩
  go_wp2
  go_ret3
  exact ⟨rfl, rfl⟩

end Go.Proofs.Ytldfjpgcemfpjaa

/-
  What taking texts answers, at any place of any bytes. Conditions: a slice of bytes; a place that is an int.
-/
namespace Go.Proofs.Ytldfjpgcemfpjaa
open Go.RowKit

/-- What stands at a place: a text of at most so many bytes, and the place behind it. -/
def takeT (l : List UInt8) (p most : Int) : Option (List UInt8 × Nat) :=
  match takeI l p with
  | none => none
  | some (n, q) => if n < 0 ∨ most < n ∨ (l.length : Int) - q < n then none else some ((l.drop q).take n.toNat, q + n.toNat)

set_option maxRecDepth 20000 in
set_option maxHeartbeats 400000 in
theorem takeText_none (w : World) (v : Value) (l : List UInt8) (p most : Int) (h : Sl w v l) (hp : p ≤ 9223372036854775807) (hn : takeT l p most = none) :
    Calls Try.prog 107 #[v, .int .i64 p, .int .i64 most] w fun e w' => e = .returned (.tuple #[.string ⟨#[]⟩, .int .i64 0, .bool false]) ∧ w' = w := by
  have h' := h
  obtain ⟨ao, cap, rfl, h1, h2, h3, h4⟩ := h'
  clear h4 h3
  unfold maxLen at h2
  cases ht : takeI l p with
  | none =>
    have HT := hide ht
    clear ht hn
    go_enter Try.func107, Try.ntmps107
    go_wp2_with fail
    refine (takeInt_none _ _ l p h hp HT.out).mono ?_
    rintro e w1 ⟨rfl, rfl⟩
    clear h
    go_wp2
    go_ret3
    exact ⟨rfl, rfl⟩
  | some x =>
    obtain ⟨n, q⟩ := x
    obtain ⟨u, c, h0, hd, hnu, hq, hu, hql⟩ := takeI_some ht
    have hc : n < 0 ∨ most < n ∨ (l.length : Int) - q < n := by
      unfold takeT at hn
      rw [ht] at hn
      simp only at hn
      split at hn
      · assumption
      · cases hn
    have hq1 : (q : Int) ≤ (l.length : Int) := by omega
    have HT := hide ht
    clear hn hd hnu hq hu hql
    go_enter Try.func107, Try.ntmps107
    go_wp2_with fail
    refine (takeInt_some _ _ l p n q h hp HT.out).mono ?_
    rintro e w1 ⟨rfl, rfl⟩
    clear h
    go_wp2
    all_goals (go_ret3; exact ⟨rfl, rfl⟩)

/-- 'string(b)'. -/
theorem run_str (w : World) (v : Value) (l : List UInt8) (h : Sl w v l) : (convert 93 9 v).run Try.prog w = .ok (.string ⟨l.toArray⟩) w := by
  obtain ⟨ao, cap, rfl, h1, h2, h3, h4⟩ := h
  by_cases hl : l = []
  · subst hl
    cases ao with
    | none =>
      rw [run_convert_bytes_string w 93 9 5 none _ cap Try.underlying93 Try.underlying5 Try.underlying9]
      rfl
    | some a => exact run_convert_bytes_back w 93 9 5 a cap [] Try.underlying93 Try.underlying5 Try.underlying9 (fun j hj => by simp at hj)
  · obtain ⟨b, off, rfl, hb, hc⟩ := h4 hl
    refine run_convert_bytes_back w 93 9 5 ⟨b, off, none⟩ cap l Try.underlying93 Try.underlying5 Try.underlying9 (fun j hj => ?_)
    rw [Addr.add_lit]
    exact hc j hj

theorem wpList_str (w : World) {ops : Array Oper} {rest : List Oper} {o : Oper} {a : Act} {Q : Exit → Act → World → Prop} (hg : o.guard = none) (x : Operand) (hop : o.op = Op.convert 93 9 x)
    {v : Value} {l : List UInt8} (h : Sl w v l) (hx : a.eval x = v) (hK : wpList Try.prog ops Q rest (a.put o.dst (.string ⟨l.toArray⟩)) w) : wpList Try.prog ops Q (o :: rest) a w := by
  refine wpList_plain hg fun K hK' => ?_
  have hr := run_str w v l h
  unfold Oper.wp
  simp [execOp, hop, hx, hr, Result.andThen]
  exact hK' _ _ hK

/-- 'b[i:j]' of such a slice. -/
theorem Sl.cut {w : World} {ao : Option Addr} {n cap : Nat} {l : List UInt8} (h : Sl w (.slice ao n cap) l) (i j : Nat) (hij : i ≤ j) (hj : j ≤ l.length) :
    ∀ ao', (i < j → ∀ b off, ao = some ⟨b, off, none⟩ → ao' = some ⟨b, off + i, none⟩) → (ao' = none → cap - i = 0) → Sl w (.slice ao' (j - i) (cap - i)) ((l.drop i).take (j - i)) := by
  intro ao' ha' hn'
  obtain ⟨ao0, cap0, hv, h1, h2, h3, h4⟩ := h
  injection hv with e1 e2 e3
  subst e1 e2 e3
  have hlen : ((l.drop i).take (j - i)).length = j - i := by simp; omega
  refine ⟨ao', cap - i, by rw [hlen], by omega, by omega, hn', fun hne => ?_⟩
  have hlt : i < j := by
    rcases Nat.lt_or_ge i j with h | h
    · exact h
    · exfalso; apply hne; rw [show j - i = 0 by omega]; simp
  obtain ⟨b, off, ha, hb, hc⟩ := h4 (by rintro rfl; simp at hj; omega)
  refine ⟨b, off + i, ha' hlt b off ha, hb, fun k hk => ?_⟩
  rw [hlen] at hk
  have := hc (i + k) (by omega)
  rw [Nat.add_assoc, this]
  simp

theorem Sl.cutEnd {w : World} {ao : Option Addr} {n r m : Nat} {l : List UInt8} (hm : r + m ≤ l.length) (h : Sl w (.slice ao n r) l) : Sl w (.slice ao m 0) ((l.drop r).take m) := by
  obtain ⟨ao0, cap0, hv, h1, h2, h3, h4⟩ := h
  injection hv with e1 e2 e3
  obtain rfl : m = 0 := by omega
  rw [List.take_zero]
  exact ⟨ao, 0, rfl, by simp, by simp, fun _ => rfl, fun hl => absurd rfl hl⟩
theorem Sl.cutAt {w : World} {ao : Option Addr} {n cap r m : Nat} {l : List UInt8} (hm : r + m ≤ l.length) (hr : r < cap) (h : Sl w (.slice ao n cap) l) :
    Sl w (.slice (Option.map (fun x => x.add r) ao) m (cap - r)) ((l.drop r).take m) := by
  have := h.cut r (r + m) (by omega) hm (Option.map (fun x => x.add r) ao) (fun _ b off ha => by rw [ha]; simp [Addr.add_lit]) (fun hn => by
    obtain ⟨ao0, cap0, hv, h1, h2, h3, h4⟩ := h
    injection hv with e1 e2 e3
    subst e1 e3
    have := h3 (by simpa using hn)
    omega)
  rw [show r + m - r = m from by omega] at this
  exact this

set_option maxRecDepth 20000 in
set_option maxHeartbeats 400000 in
theorem takeText_some (w : World) (v : Value) (l : List UInt8) (p most : Int) (t : List UInt8) (q : Nat) (h : Sl w v l) (hp : p ≤ 9223372036854775807) (hn : takeT l p most = some (t, q)) :
    Calls Try.prog 107 #[v, .int .i64 p, .int .i64 most] w fun e w' => e = .returned (.tuple #[.string ⟨t.toArray⟩, .int .i64 (q : Int), .bool true]) ∧ w' = w := by
  have h' := h
  obtain ⟨ao, cap, rfl, h1, h2, h3, h4⟩ := h'
  clear h4 h3
  unfold maxLen at h2
  cases ht : takeI l p with
  | none => unfold takeT at hn; rw [ht] at hn; cases hn
  | some x =>
    obtain ⟨n, r⟩ := x
    obtain ⟨u, c, h0, hd, hnu, hq, hu, hql⟩ := takeI_some ht
    unfold takeT at hn
    rw [ht] at hn
    simp only at hn
    split at hn
    · cases hn
    rename_i hc
    simp only [Option.some.injEq, Prod.mk.injEq] at hn
    obtain ⟨ht1, ht2⟩ := hn
    have c1 : 0 ≤ n := by omega
    have c2 : n ≤ most := by omega
    have c3 : n ≤ (l.length : Int) - r := by omega
    have hq1 : (r : Int) ≤ (l.length : Int) := by omega
    have HT := hide ht
    have H1 := hide ht1
    have H2 := hide ht2
    obtain ⟨m, rfl⟩ := Int.eq_ofNat_of_zero_le c1
    clear hc ht hd hnu hq hu hql ht1 ht2
    go_enter Try.func107, Try.ntmps107
    go_wp2_with fail
    refine (takeInt_some _ _ l p m r h hp HT.out).mono ?_
    rintro e w1 ⟨rfl, rfl⟩
    rw [show (m : Int).toNat = m from rfl] at H1 H2
    rcases Nat.lt_or_ge r cap with hrc | hrc
    · have hs := Sl.cutAt (show r + m ≤ l.length by omega) hrc h
      clear h
      go_wp2_with (refine wpList_str _ rfl (.tmp 45) rfl hs (by first | rfl | (simp [go_sem]; done)) ?_)
      go_ret3
      rw [← H1.out, ← H2.out]
      exact ⟨rfl, rfl⟩
    · obtain rfl : cap = r := by omega
      have hs := Sl.cutEnd (show cap + m ≤ l.length by omega) h
      clear h
      go_wp2_with (refine wpList_str _ rfl (.tmp 45) rfl hs (by first | rfl | (simp [go_sem]; done)) ?_)
      go_ret3
      rw [← H1.out, ← H2.out]
      exact ⟨rfl, rfl⟩
end Go.Proofs.Ytldfjpgcemfpjaa

/-
  Plain facts: what was put is taken as it was, at whatever place; what is taken, put again, has just those bytes; a beginning is none. Condition: numbers within 64 bits.
-/
namespace Go.Proofs.Ytldfjpgcemfpjaa
open Go.RowKit

def num (n : Int) : List UInt8 := Pl.enc (Pl.zz n)
def txt (t : List UInt8) : List UInt8 := num t.length ++ t

theorem num_length (n : Int) : 1 ≤ (num n).length ∧ (num n).length ≤ 10 := Pl.enc_length _

theorem takeI_put (p r : List UInt8) (n : Int) (h0 : -9223372036854775808 ≤ n) (h1 : n ≤ 9223372036854775807) :
    takeI (p ++ (num n ++ r)) p.length = some (n, p.length + (num n).length) := by
  unfold takeI num
  rw [if_neg (by omega), Int.toNat_natCast, List.drop_left, Pl.dec_enc _ r (Pl.zz_lt n h0 h1)]
  simp [Pl.unzz_zz]

theorem takeT_put (p r t : List UInt8) (most : Int) (hm : (t.length : Int) ≤ most) (h1 : (t.length : Int) ≤ 9223372036854775807) :
    takeT (p ++ (txt t ++ r)) p.length most = some (t, p.length + (txt t).length) := by
  unfold takeT txt
  rw [List.append_assoc, takeI_put p (t ++ r) t.length (by omega) h1]
  simp only
  rw [if_neg (by simp; omega)]
  have e : p ++ (num t.length ++ (t ++ r)) = (p ++ num t.length) ++ (t ++ r) := by simp
  have e2 : p.length + (num t.length).length = (p ++ num t.length).length := by simp
  rw [e, e2, List.drop_left, Int.toNat_natCast, List.take_left]
  simp; omega

theorem takeI_sound {l : List UInt8} {p n : Int} {q : Nat} (h : takeI l p = some (n, q)) :
    0 ≤ p ∧ p.toNat ≤ q ∧ q ≤ l.length ∧ (l.drop p.toNat).take (q - p.toNat) = num n ∧ -9223372036854775808 ≤ n ∧ n ≤ 9223372036854775807 ∧ q = p.toNat + (num n).length := by
  obtain ⟨u, c, h0, hd, rfl, rfl, hu, hc⟩ := takeI_some h
  obtain ⟨_, h2, h3, h4⟩ := Pl.dec_take hd
  have hb := Pl.unzz_bd u hu
  have e : num (Pl.unzz u) = Pl.enc u := by unfold num; rw [Pl.zz_unzz]
  rw [e]
  refine ⟨h0, by omega, hc, ?_, hb.1, hb.2, by omega⟩
  rw [show p.toNat + c - p.toNat = c from by omega]
  exact h3

theorem takeT_sound {l t : List UInt8} {p most : Int} {q : Nat} (h : takeT l p most = some (t, q)) :
    0 ≤ p ∧ p.toNat ≤ q ∧ q ≤ l.length ∧ (l.drop p.toNat).take (q - p.toNat) = txt t ∧ (t.length : Int) ≤ most := by
  unfold takeT at h
  cases ht : takeI l p with
  | none => rw [ht] at h; cases h
  | some x =>
    obtain ⟨n, r⟩ := x
    rw [ht] at h
    simp only at h
    split at h
    · cases h
    rename_i hc
    simp only [Option.some.injEq, Prod.mk.injEq] at h
    obtain ⟨rfl, rfl⟩ := h
    obtain ⟨h0, h1, h2, h3, h4, h5, h6⟩ := takeI_sound ht
    obtain ⟨k, rfl⟩ := Int.eq_ofNat_of_zero_le (show 0 ≤ n by omega)
    have hl : ((l.drop r).take k).length = k := by simp; omega
    refine ⟨h0, by omega, by omega, ?_, by simp only [Int.toNat_natCast]; omega⟩
    unfold txt
    simp only [Int.toNat_natCast]
    rw [hl]
    rw [show r + k - p.toNat = (r - p.toNat) + k from by omega, List.take_add, h3, List.drop_drop, show p.toNat + (r - p.toNat) = r from by omega]

theorem takeI_end (l : List UInt8) : takeI l l.length = none := by
  unfold takeI
  rw [if_neg (by omega)]
  simp [Pl.dec]
/-- A text of these bytes. -/
def strB (l : List UInt8) : ByteArray := ⟨l.toArray⟩
theorem strB_list (l : List UInt8) : (strB l).data.toList = l := by simp [strB]
theorem strB_size (l : List UInt8) : (strB l).size = l.length := by simp [strB, ByteArray.size]
theorem wpList_strB (w : World) {ops : Array Oper} {rest : List Oper} {o : Oper} {a : Act} {Q : Exit → Act → World → Prop} (hg : o.guard = none) (x : Operand) (hop : o.op = Op.convert 93 9 x)
    {v : Value} {l : List UInt8} (h : Sl w v l) (hx : a.eval x = v) (hK : wpList Try.prog ops Q rest (a.put o.dst (.string (strB l))) w) : wpList Try.prog ops Q (o :: rest) a w :=
  wpList_str w hg x hop h hx hK
end Go.Proofs.Ytldfjpgcemfpjaa

/-
  SHA-256 as a plain function on bytes, and hexadecimal digits; what it answers at the document's example. No program, no condition.
-/
namespace Go.Proofs.Ytldfjpgcemfpjaa

def rotr (x n : UInt32) : UInt32 := x <<< (32 - n) ||| x >>> n
def kL : List UInt32 := [
  0x428a2f98, 0x71374491, 0xb5c0fbcf, 0xe9b5dba5, 0x3956c25b, 0x59f111f1, 0x923f82a4, 0xab1c5ed5,
  0xd807aa98, 0x12835b01, 0x243185be, 0x550c7dc3, 0x72be5d74, 0x80deb1fe, 0x9bdc06a7, 0xc19bf174,
  0xe49b69c1, 0xefbe4786, 0x0fc19dc6, 0x240ca1cc, 0x2de92c6f, 0x4a7484aa, 0x5cb0a9dc, 0x76f988da,
  0x983e5152, 0xa831c66d, 0xb00327c8, 0xbf597fc7, 0xc6e00bf3, 0xd5a79147, 0x06ca6351, 0x14292967,
  0x27b70a85, 0x2e1b2138, 0x4d2c6dfc, 0x53380d13, 0x650a7354, 0x766a0abb, 0x81c2c92e, 0x92722c85,
  0xa2bfe8a1, 0xa81a664b, 0xc24b8b70, 0xc76c51a3, 0xd192e819, 0xd6990624, 0xf40e3585, 0x106aa070,
  0x19a4c116, 0x1e376c08, 0x2748774c, 0x34b0bcb5, 0x391c0cb3, 0x4ed8aa4a, 0x5b9cca4f, 0x682e6ff3,
  0x748f82ee, 0x78a5636f, 0x84c87814, 0x8cc70208, 0x90befffa, 0xa4506ceb, 0xbef9a3f7, 0xc67178f2]
/-- The eight numbers. -/
structure St where
  a : UInt32
  b : UInt32
  c : UInt32
  d : UInt32
  e : UInt32
  f : UInt32
  g : UInt32
  h : UInt32
def st0 : St := ⟨0x6a09e667, 0xbb67ae85, 0x3c6ef372, 0xa54ff53a, 0x510e527f, 0x9b05688c, 0x1f83d9ab, 0x5be0cd19⟩
def St.list (s : St) : List UInt32 := [s.a, s.b, s.c, s.d, s.e, s.f, s.g, s.h]
def St.add (s t : St) : St := ⟨s.a + t.a, s.b + t.b, s.c + t.c, s.d + t.d, s.e + t.e, s.f + t.f, s.g + t.g, s.h + t.h⟩
def t1 (s : St) (k w : UInt32) : UInt32 := s.h + (rotr s.e 6 ^^^ rotr s.e 11 ^^^ rotr s.e 25) + (s.e &&& s.f ^^^ (4294967295 ^^^ s.e) &&& s.g) + k + w
def t2 (s : St) : UInt32 := (rotr s.a 2 ^^^ rotr s.a 13 ^^^ rotr s.a 22) + (s.a &&& s.b ^^^ s.a &&& s.c ^^^ s.b &&& s.c)
def rd (s : St) (k w : UInt32) : St := ⟨t1 s k w + t2 s, s.a, s.b, s.c, s.d + t1 s k w, s.e, s.f, s.g⟩
def rds (W : List UInt32) (s : St) : Nat → St
  | 0 => s
  | t + 1 => rd (rds W s t) (kL.getD t 0) (W.getD t 0)
def s0 (x : UInt32) : UInt32 := rotr x 7 ^^^ rotr x 18 ^^^ x >>> 3
def s1 (y : UInt32) : UInt32 := rotr y 17 ^^^ rotr y 19 ^^^ y >>> 10
def next (l : List UInt32) : UInt32 := s1 (l.getD (l.length - 2) 0) + l.getD (l.length - 7) 0 + s0 (l.getD (l.length - 15) 0) + l.getD (l.length - 16) 0
def ext (l : List UInt32) : Nat → List UInt32
  | 0 => l
  | n + 1 => ext l n ++ [next (ext l n)]
def word (a b c d : UInt8) : UInt32 := a.toUInt32 <<< 24 ||| b.toUInt32 <<< 16 ||| c.toUInt32 <<< 8 ||| d.toUInt32
def wordAt (l : List UInt8) (t : Nat) : UInt32 := word (l.getD (4 * t) 0) (l.getD (4 * t + 1) 0) (l.getD (4 * t + 2) 0) (l.getD (4 * t + 3) 0)
def words (l : List UInt8) : List UInt32 := (List.range 16).map (wordAt l)
def comp (s : St) (l : List UInt8) : St := s.add (rds (ext (words l) 48) s 64)
/-- What so many blocks make of the numbers. -/
def mix (s : St) (l : List UInt8) : Nat → St
  | 0 => s
  | n + 1 => comp (mix s l n) ((l.drop (64 * n)).take 64)
def be4 (n : UInt32) : List UInt8 := [(n >>> 24).toUInt8, (n >>> 16).toUInt8, (n >>> 8).toUInt8, n.toUInt8]
/-- What stands behind so many bytes. -/
def tail (size : Nat) : List UInt8 := 128 :: List.replicate ((119 - size % 64) % 64) 0 ++ (be4 (UInt32.ofNat (size * 8 % 18446744073709551616 / 4294967296)) ++ be4 (UInt32.ofNat (size * 8 % 18446744073709551616)))
def out (s : St) : List UInt8 := s.list.flatMap be4
def sha (l : List UInt8) : List UInt8 := out (mix st0 (l ++ tail l.length) ((l ++ tail l.length).length / 64))

end Go.Proofs.Ytldfjpgcemfpjaa

/-
  What turning a number to the right answers: RotateLeft32, rotr, the reference's rotr. Conditions: by 1 to 31 bits.
-/
namespace Go.Proofs.Ytldfjpgcemfpjaa
open Go.RowKit

/-- A number of 32 bits as the program's. -/
def u (x : UInt32) : Int := (x.toNat : Int)

theorem u_lt (x : UInt32) : x.toNat < 4294967296 := x.toNat_lt
theorem u_or (x y : UInt32) : bits .or .u32 (u x) (u y) = u (x ||| y) := by
  unfold u
  rw [u32_or_nat _ _ (u_lt x) (u_lt y), UInt32.toNat_or]
theorem u_xor (x y : UInt32) : bits .xor .u32 (u x) (u y) = u (x ^^^ y) := by
  unfold u
  rw [u32_xor_nat _ _ (u_lt x) (u_lt y), UInt32.toNat_xor]
theorem u_and (x y : UInt32) : bits .and .u32 (u x) (u y) = u (x &&& y) := by
  unfold u
  rw [u32_and_nat _ _ (u_lt x) (u_lt y), UInt32.toNat_and]
theorem u_not (x : UInt32) : bits .xor .u32 IntKind.u32.max (u x) = u (4294967295 ^^^ x) := by
  have := u_xor 4294967295 x
  rw [← this]
  rfl
theorem u_add (x y : UInt32) : (u x + u y) % 4294967296 = u (x + y) := by
  unfold u
  rw [UInt32.toNat_add]
  omega
theorem u_shl (x n : UInt32) (k : Nat) (hk : n.toNat = k) (h : k < 32) : u x * 2 ^ k % 4294967296 = u (x <<< n) := by
  unfold u
  rw [UInt32.toNat_shiftLeft, hk, Nat.mod_eq_of_lt h, Nat.shiftLeft_eq, show ((2 : Int) ^ k) = ((2 ^ k : Nat) : Int) from by simp, ← Int.natCast_mul]
  omega
theorem u_shr (x n : UInt32) (k : Nat) (hk : n.toNat = k) (h : k < 32) : u x / 2 ^ k = u (x >>> n) := by
  unfold u
  rw [UInt32.toNat_shiftRight, hk, Nat.mod_eq_of_lt h, Nat.shiftRight_eq_div_pow, show ((2 : Int) ^ k) = ((2 ^ k : Nat) : Int) from by simp, ← Int.natCast_ediv]
theorem u32_sub (n : UInt32) (k : Nat) (hk : n.toNat = k) (h : k < 32) : (32 - n).toNat = 32 - k := by
  rw [UInt32.toNat_sub, hk]
  simp
  omega
theorem u_rotr' (x n : UInt32) (k : Nat) (hk : n.toNat = k) (h0 : 0 < k) (h : k < 32) : bits .or .u32 (u x / 2 ^ k) (u x * 2 ^ (32 - k) % 4294967296) = u (rotr x n) := by
  rw [u_shl x (32 - n) (32 - k) (u32_sub n k hk h) (by omega), u_shr x n k hk h, u_or, UInt32.or_comm]
  rfl

theorem ret_int {k : IntKind} {a b : Int} (h : a = b) : Ending.returned (.int k a) = .returned (.int k b) := by rw [h]

theorem rrotr_any (w : World) (x n : UInt32) (i : Int) (hi : i = n.toNat) (h0 : 0 < i) (h1 : i < 32) :
    Calls Try.prog 66 #[.int .u32 (u x), .int .u32 i] w fun e w' => e = .returned (.int .u32 (u (rotr x n))) ∧ w' = w := by
  obtain ⟨k, rfl⟩ := Int.eq_ofNat_of_zero_le (show 0 ≤ i by omega)
  have hr := u_rotr' x n k (by omega) (by omega) (by omega)
  have HR := hide hr
  clear hr hi
  go_enter Try.func66, Try.ntmps66
  go_wp2
  go_ret
  exact ⟨ret_int HR.out, rfl⟩
theorem rr6 (w : World) (x : UInt32) : Calls Try.prog 66 #[.int .u32 (u x), .int .u32 6] w fun e w' => e = .returned (.int .u32 (u (rotr x 6))) ∧ w' = w := rrotr_any w x 6 6 (by decide) (by decide) (by decide)
theorem rr11 (w : World) (x : UInt32) : Calls Try.prog 66 #[.int .u32 (u x), .int .u32 11] w fun e w' => e = .returned (.int .u32 (u (rotr x 11))) ∧ w' = w := rrotr_any w x 11 11 (by decide) (by decide) (by decide)
theorem rr25 (w : World) (x : UInt32) : Calls Try.prog 66 #[.int .u32 (u x), .int .u32 25] w fun e w' => e = .returned (.int .u32 (u (rotr x 25))) ∧ w' = w := rrotr_any w x 25 25 (by decide) (by decide) (by decide)
theorem rr2 (w : World) (x : UInt32) : Calls Try.prog 66 #[.int .u32 (u x), .int .u32 2] w fun e w' => e = .returned (.int .u32 (u (rotr x 2))) ∧ w' = w := rrotr_any w x 2 2 (by decide) (by decide) (by decide)
theorem rr13 (w : World) (x : UInt32) : Calls Try.prog 66 #[.int .u32 (u x), .int .u32 13] w fun e w' => e = .returned (.int .u32 (u (rotr x 13))) ∧ w' = w := rrotr_any w x 13 13 (by decide) (by decide) (by decide)
theorem rr22 (w : World) (x : UInt32) : Calls Try.prog 66 #[.int .u32 (u x), .int .u32 22] w fun e w' => e = .returned (.int .u32 (u (rotr x 22))) ∧ w' = w := rrotr_any w x 22 22 (by decide) (by decide) (by decide)
theorem rr7 (w : World) (x : UInt32) : Calls Try.prog 66 #[.int .u32 (u x), .int .u32 7] w fun e w' => e = .returned (.int .u32 (u (rotr x 7))) ∧ w' = w := rrotr_any w x 7 7 (by decide) (by decide) (by decide)
theorem rr18 (w : World) (x : UInt32) : Calls Try.prog 66 #[.int .u32 (u x), .int .u32 18] w fun e w' => e = .returned (.int .u32 (u (rotr x 18))) ∧ w' = w := rrotr_any w x 18 18 (by decide) (by decide) (by decide)
theorem rr17 (w : World) (x : UInt32) : Calls Try.prog 66 #[.int .u32 (u x), .int .u32 17] w fun e w' => e = .returned (.int .u32 (u (rotr x 17))) ∧ w' = w := rrotr_any w x 17 17 (by decide) (by decide) (by decide)
theorem rr19 (w : World) (x : UInt32) : Calls Try.prog 66 #[.int .u32 (u x), .int .u32 19] w fun e w' => e = .returned (.int .u32 (u (rotr x 19))) ∧ w' = w := rrotr_any w x 19 19 (by decide) (by decide) (by decide)
end Go.Proofs.Ytldfjpgcemfpjaa

/-
  Laws of my own on whole arrays in memory: stored, loaded, handed back. No condition.
-/
namespace Go.Proofs.Ytldfjpgcemfpjaa
open Go.RowKit

/-- A whole array into the block that holds it. -/
theorem wp_store_arr {P : Program} (w : World) {o : Oper} {a : Act} {K : Act → World → Prop} {Q : Exit → Act → World → Prop} (ty : TypeId) (x y : Operand) (ho : o.op = .store ty x y)
    (g : Nat) (c : Array Value) (hx : a.eval x = .pointer (some ⟨g, 0, none⟩)) (hy : a.eval y = .agg c) (t : TypeId) (old : Array Value) (hg : w.heap[g]? = some (.cells old t (0, 0)))
    (hi : (P.info? ty).map (·.size) = some c.size) (hs : old.size = c.size) (h1 : c.all (·.oneCell') = true)
    (h : ∀ w', w'.heap[g]? = some (.cells c t (0, 0)) → w.grownBy w' (some g) → K (a.put o.dst undef) w') : o.wp P a w K Q := by
  unfold Oper.wp execOp
  simp only [ho, hx, hy, Instr.storeAt, Instr.sureAddr, Sem.run_bind, Sem.run_pure, Result.andThen_ok, run_storeVar_row w g t ty old c hg hi hs h1]
  exact h _ (setRow_heap w g old c t (0, 0) hg) ⟨rfl, rfl, rfl, by simp, fun k _ hk => setRow_other w g k _ (fun e => hk (by simp [e]))⟩
theorem wpList_store_arr {P : Program} (w : World) {ops : Array Oper} {rest : List Oper} {o : Oper} {a : Act} {Q : Exit → Act → World → Prop} (hgd : o.guard = none) (ty : TypeId) (x y : Operand) (ho : o.op = .store ty x y)
    (g : Nat) (c : Array Value) (hx : a.eval x = .pointer (some ⟨g, 0, none⟩)) (hy : a.eval y = .agg c) (t : TypeId) (old : Array Value) (hg : w.heap[g]? = some (.cells old t (0, 0)))
    (hi : (P.info? ty).map (·.size) = some c.size) (hs : old.size = c.size) (h1 : c.all (·.oneCell') = true)
    (h : ∀ w', w'.heap[g]? = some (.cells c t (0, 0)) → w.grownBy w' (some g) → wpList P ops Q rest (a.put o.dst undef) w') : wpList P ops Q (o :: rest) a w :=
  wpList_plain hgd fun _ hK => wp_store_arr w ty x y ho g c hx hy t old hg hi hs h1 (fun w' h1 h2 => hK _ _ (h w' h1 h2))
theorem heap_last (w : World) (o : Obj) (n : Nat) (h : n = w.heap.size) : (w.alloc o).heap[n]? = some o := by
  subst h
  show (w.heap.push o)[w.heap.size]? = some o
  simp
theorem heap_past (w : World) (o : Obj) (n : Nat) (h : n < w.heap.size) : (w.alloc o).heap[n]? = w.heap[n]? := by
  show (w.heap.push o)[n]? = _
  rw [Array.getElem?_push_lt h]
  simp [h]
theorem lt_of_heap {w : World} {n : Nat} {o : Obj} (h : w.heap[n]? = some o) : n < w.heap.size := (Array.getElem?_eq_some_iff.1 h).1

/-- Numbers as cells. -/
def uc (l : List UInt32) : Array Value := (l.map fun x => Value.int .u32 (u x)).toArray
theorem uc_size (l : List UInt32) : (uc l).size = l.length := by simp [uc]
theorem uc_get (l : List UInt32) (t : Nat) (h : t < l.length) : (uc l)[t]? = some (.int .u32 (u (l.getD t 0))) := by
  simp [uc, List.getD, h]
theorem uc_one (l : List UInt32) : (uc l).all (·.oneCell') = true := by
  simp [uc, Value.oneCell']
theorem u_add' (x y : UInt32) : IntKind.u32.wrap (u x + u y) = u (x + y) := by rw [IntKind.wrap_u32, u_add]

theorem u_add4 (x y z v : UInt32) : (u x + u y + u z + u v) % 4294967296 = u (x + y + z + v) := by
  rw [← u_add (x + y + z) v, ← u_add (x + y) z, ← u_add x y]
  omega

/-- The table's cells hold its numbers. -/
def TabW (w : World) : Prop := 0 < w.heap.size ∧ ∀ j, j < 64 → w.cell? ⟨0, j, none⟩ = some (.int .u32 (u (kL.getD j 0)))
theorem TabW.keep {w w' : World} {B : Nat} (h : TabW w) (hb : Below B w w') (hB : 0 < B) : TabW w' :=
  ⟨Nat.lt_of_lt_of_le h.1 hb.size, fun j hj => (hb.cell (p := ⟨0, j, none⟩) hB).trans (h.2 j hj)⟩

theorem ret_agg {a b : Array Value} (h : a = b) : Ending.returned (.agg a) = .returned (.agg b) := by rw [h]
theorem Try.infoA8 : (Try.prog.info? 136).map (·.size) = some 8 := by kernel_rfl
theorem Try.infoA64 : (Try.prog.info? 134).map (·.size) = some 64 := by kernel_rfl
end Go.Proofs.Ytldfjpgcemfpjaa
