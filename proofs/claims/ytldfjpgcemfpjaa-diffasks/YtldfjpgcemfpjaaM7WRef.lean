/-
  Texts joined: WRef, WVal.
-/
import Derived.Test.YtldfjpgcemfpjaaM0WPlain
/-
  What the document's answer says: a number's bytes and a text's bytes (the reference's Int and Text). Conditions: numbers within 64 bits; a text within the reach.
-/
namespace Go.Proofs.Ytldfjpgcemfpjaa
open Go.RowKit

theorem ref_neg (n : Int) (h0 : -9223372036854775808 ≤ n) (h1 : n < 0) : bits .xor .u64 IntKind.u64.max (IntKind.u64.wrap (IntKind.u64.wrap n * 2)) = ((Pl.zz n : Nat) : Int) := by
  have e1 : IntKind.u64.wrap (IntKind.u64.wrap n * 2) = ((2 * n + 18446744073709551616).toNat : Int) := by
    rw [IntKind.wrap_u64, IntKind.wrap_u64]; omega
  rw [e1, show IntKind.u64.max = ((18446744073709551615 : Nat) : Int) from by decide, bits_xor_u64_nat _ _ (by omega) (by omega), xor_ones64 _ (by omega)]
  unfold Pl.zz; rw [if_neg (by omega)]
  omega

set_option maxRecDepth 20000 in
set_option maxHeartbeats 800000 in
theorem refInt_any (w : World) (n : Int) (h0 : -9223372036854775808 ≤ n) (h1 : n ≤ 9223372036854775807) :
    Calls Try.prog 53 #[.int .i64 n] w fun e w' => ∃ v, e = .returned v ∧ w'.ownsRow w.heap.size 5 1 v (num n).length (bc (num n)) ∧ Below w.heap.size w w' := by
  obtain ⟨i0, hi, hz0, hz1, hz2⟩ := info_parts Try.infoB
  have HZ : Hid (Pl.zz n < 18446744073709551616) := Pl.zz_lt n h0 h1
  have HP : Hid (0 ≤ n → n * 2 = ((Pl.zz n : Nat) : Int)) := fun h => by unfold Pl.zz; rw [if_pos h]; omega
  rcases (show n < 0 ∨ 0 ≤ n by omega) with hn | hn
  · have e1 := ref_neg n h0 hn
    go_enter Try.func53, Try.ntmps53
    go_wp2
    go_loopw [3, 4] (fun x v wr => ∃ (pre : List UInt8) (y f : Nat), x = .int .u64 y ∧ y < 2 ^ (7 * f + 1) ∧ f ≤ 9 ∧ Pl.enc (Pl.zz n) = pre ++ Pl.encF f y ∧
        wr.ownsRow w.heap.size 5 1 v pre.length (bc pre) ∧ Below w.heap.size w wr ∧ pre.length ≤ 9 - f)
      (fun x _ _ => (intOf x).toNat)
    case atStart => exact ⟨[], Pl.zz n, 9, rfl, by simpa using HZ.out, by omega, rfl, World.ownsRow_nil _ _ _ _, Below.refl _ _, by simp⟩
    case round =>
      obtain ⟨pre, y, f, rfl, hy, hf, he, hown', hbel, hpl⟩ := hrel
      have hsz := hbel.size
      by_cases hlt : 128 ≤ y
      · obtain ⟨f, rfl⟩ : ∃ f', f = f' + 1 := ⟨f - 1, by cases f with | zero => simp at hy; omega | succ f => omega⟩
        have he' : Pl.enc (Pl.zz n) = (pre ++ [UInt8.ofNat (y % 128 + 128)]) ++ Pl.encF f (y / 128) := by
          rw [he]; conv => lhs; unfold Pl.encF
          rw [if_neg (by omega)]; simp
        have hy' : y / 128 < 2 ^ (7 * f + 1) := by
          rw [show 7 * (f + 1) + 1 = (7 * f + 1) + 7 from by omega, Nat.pow_add] at hy; omega
        have HE := hide he'
        have HY := hide hy'
        clear he he' hy hy'
        go_wp2_with (at_builtin; refine wpList_append_own _ rfl (.tmp 14) (.tmp 18) 93 rfl w.heap.size 5 i0 (.int .u8 0) 1 1 Try.underlying93 hi hz0 hz1 hz2 rfl (by decide) _ _ _ rfl (hown'.alloc _) ⟨wr.heap.size, 0, none⟩ 1 1 (bc [UInt8.ofNat (y % 128 + 128)]) rfl rfl ?c1 (bc_one _) ?c3 ?c4 ?c5 ?_)
        case c1 =>
          intro j x hj
          match j, hj with
          | 0, hj => simp [bc] at hj; subst hj; simp [Addr.add_lit, or128]
        case c3 => unfold maxLen; omega
        case c4 => omega
        case c5 => simp; omega
        intro v2 w2 hown2 hgrow2 _
        have hb2 : Below w.heap.size w w2 := (hbel.alloc hsz _).grown hgrow2 (by simp; omega) (fun k hk => (hown'.lt k hk).1)
        rw [← bc_append] at hown2
        clear hgrow2 hown' hbel
        go_wp2
        go_roundw
        case rel => exact ⟨pre ++ [UInt8.ofNat (y % 128 + 128)], y / 128, f, by go_num, HY.out, by omega, HE.out, by simpa using hown2, hb2, by simp; omega⟩
        case measure => simp [intOf]; omega
      · have HE : Hid (Pl.enc (Pl.zz n) = pre ++ [UInt8.ofNat y]) := by rw [he, Pl.encF_small f y (by omega)]; rfl
        clear hy he
        go_wp2_with (at_builtin; refine wpList_append_own _ rfl (.tmp 22) (.tmp 25) 93 rfl w.heap.size 5 i0 (.int .u8 0) 1 1 Try.underlying93 hi hz0 hz1 hz2 rfl (by decide) _ _ _ rfl (hown'.alloc _) ⟨wr.heap.size, 0, none⟩ 1 1 (bc [UInt8.ofNat y]) rfl rfl ?c1 (bc_one _) ?c3 ?c4 ?c5 ?_)
        case c1 =>
          intro j x hj
          match j, hj with
          | 0, hj => simp [bc] at hj; subst hj; simp [Addr.add_lit]; omega
        case c3 => unfold maxLen; omega
        case c4 => omega
        case c5 => simp; omega
        intro v2 w2 hown2 hgrow2 _
        have hb2 : Below w.heap.size w w2 := (hbel.alloc hsz _).grown hgrow2 (by simp; omega) (fun k hk => (hown'.lt k hk).1)
        rw [← bc_append] at hown2
        clear hgrow2 hown' hbel
        go_wp2
        go_ret
        have e : pre.length + 1 = (pre ++ [UInt8.ofNat y]).length := by simp
        rw [e, ← HE.out] at hown2
        exact ⟨v2, rfl, hown2, hb2⟩
  · go_enter Try.func53, Try.ntmps53
    go_wp2
    go_loopw [3, 4] (fun x v wr => ∃ (pre : List UInt8) (y f : Nat), x = .int .u64 y ∧ y < 2 ^ (7 * f + 1) ∧ f ≤ 9 ∧ Pl.enc (Pl.zz n) = pre ++ Pl.encF f y ∧
        wr.ownsRow w.heap.size 5 1 v pre.length (bc pre) ∧ Below w.heap.size w wr ∧ pre.length ≤ 9 - f)
      (fun x _ _ => (intOf x).toNat)
    case atStart => exact ⟨[], Pl.zz n, 9, congrArg (Value.int .u64) (HP.out hn), by simpa using HZ.out, by omega, rfl, World.ownsRow_nil _ _ _ _, Below.refl _ _, by simp⟩
    case round =>
      obtain ⟨pre, y, f, rfl, hy, hf, he, hown', hbel, hpl⟩ := hrel
      have hsz := hbel.size
      by_cases hlt : 128 ≤ y
      · obtain ⟨f, rfl⟩ : ∃ f', f = f' + 1 := ⟨f - 1, by cases f with | zero => simp at hy; omega | succ f => omega⟩
        have he' : Pl.enc (Pl.zz n) = (pre ++ [UInt8.ofNat (y % 128 + 128)]) ++ Pl.encF f (y / 128) := by
          rw [he]; conv => lhs; unfold Pl.encF
          rw [if_neg (by omega)]; simp
        have hy' : y / 128 < 2 ^ (7 * f + 1) := by
          rw [show 7 * (f + 1) + 1 = (7 * f + 1) + 7 from by omega, Nat.pow_add] at hy; omega
        have HE := hide he'
        have HY := hide hy'
        clear he he' hy hy'
        go_wp2_with (at_builtin; refine wpList_append_own _ rfl (.tmp 14) (.tmp 18) 93 rfl w.heap.size 5 i0 (.int .u8 0) 1 1 Try.underlying93 hi hz0 hz1 hz2 rfl (by decide) _ _ _ rfl (hown'.alloc _) ⟨wr.heap.size, 0, none⟩ 1 1 (bc [UInt8.ofNat (y % 128 + 128)]) rfl rfl ?c1 (bc_one _) ?c3 ?c4 ?c5 ?_)
        case c1 =>
          intro j x hj
          match j, hj with
          | 0, hj => simp [bc] at hj; subst hj; simp [Addr.add_lit, or128]
        case c3 => unfold maxLen; omega
        case c4 => omega
        case c5 => simp; omega
        intro v2 w2 hown2 hgrow2 _
        have hb2 : Below w.heap.size w w2 := (hbel.alloc hsz _).grown hgrow2 (by simp; omega) (fun k hk => (hown'.lt k hk).1)
        rw [← bc_append] at hown2
        clear hgrow2 hown' hbel
        go_wp2
        go_roundw
        case rel => exact ⟨pre ++ [UInt8.ofNat (y % 128 + 128)], y / 128, f, by go_num, HY.out, by omega, HE.out, by simpa using hown2, hb2, by simp; omega⟩
        case measure => simp [intOf]; omega
      · have HE : Hid (Pl.enc (Pl.zz n) = pre ++ [UInt8.ofNat y]) := by rw [he, Pl.encF_small f y (by omega)]; rfl
        clear hy he
        go_wp2_with (at_builtin; refine wpList_append_own _ rfl (.tmp 22) (.tmp 25) 93 rfl w.heap.size 5 i0 (.int .u8 0) 1 1 Try.underlying93 hi hz0 hz1 hz2 rfl (by decide) _ _ _ rfl (hown'.alloc _) ⟨wr.heap.size, 0, none⟩ 1 1 (bc [UInt8.ofNat y]) rfl rfl ?c1 (bc_one _) ?c3 ?c4 ?c5 ?_)
        case c1 =>
          intro j x hj
          match j, hj with
          | 0, hj => simp [bc] at hj; subst hj; simp [Addr.add_lit]; omega
        case c3 => unfold maxLen; omega
        case c4 => omega
        case c5 => simp; omega
        intro v2 w2 hown2 hgrow2 _
        have hb2 : Below w.heap.size w w2 := (hbel.alloc hsz _).grown hgrow2 (by simp; omega) (fun k hk => (hown'.lt k hk).1)
        rw [← bc_append] at hown2
        clear hgrow2 hown' hbel
        go_wp2
        go_ret
        have e : pre.length + 1 = (pre ++ [UInt8.ofNat y]).length := by simp
        rw [e, ← HE.out] at hown2
        exact ⟨v2, rfl, hown2, hb2⟩

set_option maxRecDepth 20000 in
set_option maxHeartbeats 400000 in
theorem refText_any (w : World) (s : ByteArray) (hs : s.size ≤ 140737488355318) :
    Calls Try.prog 54 #[.string s] w fun e w' => ∃ v, e = .returned v ∧ w'.ownsRow w.heap.size 5 1 v (txt s.data.toList).length (bc (txt s.data.toList)) ∧ Below w.heap.size w w' := by
  obtain ⟨i0, hi, hz0, hz1, hz2⟩ := info_parts Try.infoB
  have hnl := num_length s.size
  go_enter Try.func54, Try.ntmps54
  go_wp2_with fail
  refine (refInt_any _ _ (by omega) (by omega)).mono ?_
  rintro e w1 ⟨v, rfl, hown, hb⟩
  generalize hq : (num s.size).length = q at hown hnl
  have HQ := hide hq
  clear hq
  have hz := hb.size
  go_wp2_with (at_builtin; refine Lib.wpList_append_own_string _ rfl _ _ 93 9 rfl w.heap.size 5 i0 Try.underlying93 Try.underlying9 hi hz0 hz1 hz2 v q (bc (num s.size)) rfl hown s rfl (by unfold maxLen; omega) (by omega) hz ?_; intro v2 w2 hown2 hgrow2 _)
  go_ret
  have e : Lib.strCells s = bc s.data.toList := rfl
  rw [e, ← bc_append] at hown2
  have e2 : q + s.size = (txt s.data.toList).length := by rw [← HQ.out]; unfold txt; simp
  have e3 : num (s.size : Int) ++ s.data.toList = txt s.data.toList := by unfold txt; simp
  rw [e2, e3] at hown2
  exact ⟨v2, rfl, hown2, hb.grown hgrow2 hz (fun k hk => (hown.lt k hk).1)⟩
end Go.Proofs.Ytldfjpgcemfpjaa

/-
  Plain facts on the document's way to read a number: the first so many bytes that are their own number's bytes are what is read. No condition.
-/
namespace Go.Proofs.Ytldfjpgcemfpjaa.Pl

/-- What the first bytes say, seven bits each. -/
def val (l : List UInt8) : Nat → Nat
  | 0 => 0
  | i + 1 => val l i ||| ((l.getD i 0).toNat % 128 * 2 ^ (7 * i)) % 18446744073709551616

theorem val_lt (l : List UInt8) : ∀ i, val l i < 18446744073709551616
  | 0 => by simp [val]
  | i + 1 => by
    have h1 := val_lt l i
    unfold val
    exact Nat.or_lt_two_pow (n := 64) h1 (Nat.mod_lt _ (by decide))

theorem val_small (l : List UInt8) : ∀ i, i ≤ 9 → val l i < 2 ^ (7 * i)
  | 0, _ => by simp [val]
  | i + 1, h => by
    have h1 := val_small l i (by omega)
    have hc : (l.getD i 0).toNat % 128 < 128 := Nat.mod_lt _ (by decide)
    have h2 : (l.getD i 0).toNat % 128 * 2 ^ (7 * i) < 2 ^ (7 * (i + 1)) := by
      rw [p7]; exact Nat.mul_lt_mul_of_pos_right hc (Nat.two_pow_pos _)
    have h3 : (2 : Nat) ^ (7 * i) ≤ 2 ^ (7 * (i + 1)) := Nat.pow_le_pow_right (by omega) (by omega)
    unfold val
    exact Nat.or_lt_two_pow (by omega) (Nat.lt_of_le_of_lt (Nat.mod_le _ _) h2)

theorem val_add (l : List UInt8) (i c : Nat) (hi : i ≤ 9) (hc : (l.getD i 0).toNat % 128 = c) (hlt : c * 2 ^ (7 * i) < 18446744073709551616) : val l (i + 1) = val l i + c * 2 ^ (7 * i) := by
  have h1 := val_small l i hi
  conv => lhs; unfold val
  rw [hc, Nat.mod_eq_of_lt hlt, Nat.or_comm, Nat.mul_comm c, ← Nat.two_pow_add_eq_or_of_lt h1 c, Nat.add_comm]

theorem dec_val (l : List UInt8) : ∀ (m k u c : Nat), l.length - k = m → k ≤ 9 → dec (l.drop k) k (val l k) = some (u, c) → val l c = u := by
  intro m
  induction m with
  | zero =>
    intro k u c hm hk h
    rw [List.drop_eq_nil_of_le (by omega)] at h
    simp [dec] at h
  | succ m ih =>
    intro k u c hm hk h
    have hkl : k < l.length := by omega
    rw [List.drop_eq_getElem_cons hkl] at h
    have hg : l.getD k 0 = l[k] := by simp [List.getD, List.getElem?_eq_getElem hkl]
    have hb : l[k].toNat < 256 := l[k].toNat_lt
    simp only [dec] at h
    split at h
    · cases h
    split at h
    · cases h
    split at h
    · rename_i h1 h2 h3
      simp only [Option.some.injEq, Prod.mk.injEq] at h
      rw [← h.1, ← h.2]
      refine val_add l k _ hk (by rw [hg]; exact Nat.mod_eq_of_lt h3) ?_
      by_cases e : k = 9
      · have e2 : (2 : Nat) ^ (7 * k) = 9223372036854775808 := by rw [e]
        have h1' : l[k].toNat ≤ 1 := by omega
        rw [e2]
        omega
      · have : (2 : Nat) ^ (7 * k) ≤ 2 ^ 56 := Nat.pow_le_pow_right (by omega) (by omega)
        have e3 : (2 : Nat) ^ 56 = 72057594037927936 := by decide
        rw [e3] at this
        have := Nat.mul_le_mul (show l[k].toNat ≤ 127 by omega) this
        omega
    · rename_i h1 h2 h3
      have hk8 : k ≤ 8 := by omega
      have : (2 : Nat) ^ (7 * k) ≤ 2 ^ 56 := Nat.pow_le_pow_right (by omega) (by omega)
      have e3 : (2 : Nat) ^ 56 = 72057594037927936 := by decide
      rw [e3] at this
      have := Nat.mul_le_mul (show l[k].toNat - 128 ≤ 127 by omega) this
      rw [← val_add l k (l[k].toNat - 128) hk (by rw [hg]; omega) (by omega)] at h
      exact ih (k + 1) u c (by omega) (by omega) h

/-- What is read is met at its own length. -/
theorem dec_hit {l : List UInt8} {u c : Nat} (h : dec l 0 0 = some (u, c)) : val l c = u ∧ enc (val l c) = l.take c := by
  have h1 := dec_val l l.length 0 u c (by omega) (by omega) (by simpa [val] using h)
  refine ⟨h1, ?_⟩
  rw [h1, (dec_take h).2.2.1]
/-- What is met is what is read. -/
theorem hit_dec {l : List UInt8} {k : Nat} (hk : k ≤ l.length) (h : enc (val l k) = l.take k) : dec l 0 0 = some (val l k, k) := by
  have h1 := dec_enc (val l k) (l.drop k) (val_lt l k)
  rw [h, List.take_append_drop] at h1
  rw [h1]
  simp; omega
end Go.Proofs.Ytldfjpgcemfpjaa.Pl
