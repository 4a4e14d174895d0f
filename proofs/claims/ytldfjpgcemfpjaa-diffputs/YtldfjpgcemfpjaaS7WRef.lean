/-
  Texts joined: WRef, WVal.
-/
import Derived.Test.YtldfjpgcemfpjaaS0WPlain
/-
  What the document's answer says: a number's bytes and a text's bytes (the reference's Int and Text). Conditions: numbers within 64 bits; a text within the reach.
-/
namespace Go.Proofs.Ytldfjpgcemfpjaa
open Go.RowKit

theorem ref_neg (n : Int) (h0 : -9223372036854775808 ≤ n) (h1 : n < 0) : bits .xor .u64 IntKind.u64.max (IntKind.u64.wrap (IntKind.u64.wrap n * 2)) = ((Pl.zz n : Nat) : Int) := by
  have e1 : IntKind.u64.wrap (IntKind.u64.wrap n * 2) = ((2 * n + 18446744073709551616).toNat : Int) := by
    rw [IntKind.wrap_u64, IntKind.wrap_u64]; omega
  rw [e1, show IntKind.u64.max = ((18446744073709551615 : Nat) : Int) from by decide, bits_xor_u64_nat _ _ (by omega) (by omega), xor_ones64 _ (by omega)]
  unfold Pl.zz; rw [if_neg (by omega)]
  omega

set_option maxRecDepth 20000 in
set_option maxHeartbeats 800000 in
theorem refInt_any (w : World) (n : Int) (h0 : -9223372036854775808 ≤ n) (h1 : n ≤ 9223372036854775807) :
    Calls Try.prog 53 #[.int .i64 n] w fun e w' => ∃ v, e = .returned v ∧ w'.ownsRow w.heap.size 5 1 v (num n).length (bc (num n)) ∧ Below w.heap.size w w' := by
  obtain ⟨i0, hi, hz0, hz1, hz2⟩ := info_parts Try.infoB
  have HZ : Hid (Pl.zz n < 18446744073709551616) := Pl.zz_lt n h0 h1
  have HP : Hid (0 ≤ n → n * 2 = ((Pl.zz n : Nat) : Int)) := fun h => by unfold Pl.zz; rw [if_pos h]; omega
  rcases (show n < 0 ∨ 0 ≤ n by omega) with hn | hn
  · have e1 := ref_neg n h0 hn
    go_enter Try.func53, Try.ntmps53
    go_wp2
    go_loopw [3, 4] (fun x v wr => ∃ (pre : List UInt8) (y f : Nat), x = .int .u64 y ∧ y < 2 ^ (7 * f + 1) ∧ f ≤ 9 ∧ Pl.enc (Pl.zz n) = pre ++ Pl.encF f y ∧
        wr.ownsRow w.heap.size 5 1 v pre.length (bc pre) ∧ Below w.heap.size w wr ∧ pre.length ≤ 9 - f)
      (fun x _ _ => (intOf x).toNat)
    case atStart => exact ⟨[], Pl.zz n, 9, rfl, by simpa using HZ.out, by omega, rfl, World.ownsRow_nil _ _ _ _, Below.refl _ _, by simp⟩
    case round =>
      obtain ⟨pre, y, f, rfl, hy, hf, he, hown', hbel, hpl⟩ := hrel
      have hsz := hbel.size
      by_cases hlt : 128 ≤ y
      · obtain ⟨f, rfl⟩ : ∃ f', f = f' + 1 := ⟨f - 1, by cases f with | zero => simp at hy; omega | succ f => omega⟩
        have he' : Pl.enc (Pl.zz n) = (pre ++ [UInt8.ofNat (y % 128 + 128)]) ++ Pl.encF f (y / 128) := by
          rw [he]; conv => lhs; unfold Pl.encF
          rw [if_neg (by omega)]; simp
        have hy' : y / 128 < 2 ^ (7 * f + 1) := by
          rw [show 7 * (f + 1) + 1 = (7 * f + 1) + 7 from by omega, Nat.pow_add] at hy; omega
        have HE := hide he'
        have HY := hide hy'
        clear he he' hy hy'
        go_wp2_with (at_builtin; refine wpList_append_own _ rfl (.tmp 14) (.tmp 18) 93 rfl w.heap.size 5 i0 (.int .u8 0) 1 1 Try.underlying93 hi hz0 hz1 hz2 rfl (by decide) _ _ _ rfl (hown'.alloc _) ⟨wr.heap.size, 0, none⟩ 1 1 (bc [UInt8.ofNat (y % 128 + 128)]) rfl rfl ?c1 (bc_one _) ?c3 ?c4 ?c5 ?_)
        case c1 =>
          intro j x hj
          match j, hj with
          | 0, hj => simp [bc] at hj; subst hj; simp [Addr.add_lit, or128]
        case c3 => unfold maxLen; omega
        case c4 => omega
        case c5 => simp; omega
        intro v2 w2 hown2 hgrow2 _
        have hb2 : Below w.heap.size w w2 := (hbel.alloc hsz _).grown hgrow2 (by simp; omega) (fun k hk => (hown'.lt k hk).1)
        rw [← bc_append] at hown2
        clear hgrow2 hown' hbel
        go_wp2
        go_roundw
        case rel => exact ⟨pre ++ [UInt8.ofNat (y % 128 + 128)], y / 128, f, by go_num, HY.out, by omega, HE.out, by simpa using hown2, hb2, by simp; omega⟩
        case measure => simp [intOf]; omega
      · have HE : Hid (Pl.enc (Pl.zz n) = pre ++ [UInt8.ofNat y]) := by rw [he, Pl.encF_small f y (by omega)]; rfl
        clear hy he
        go_wp2_with (at_builtin; refine wpList_append_own _ rfl (.tmp 22) (.tmp 25) 93 rfl w.heap.size 5 i0 (.int .u8 0) 1 1 Try.underlying93 hi hz0 hz1 hz2 rfl (by decide) _ _ _ rfl (hown'.alloc _) ⟨wr.heap.size, 0, none⟩ 1 1 (bc [UInt8.ofNat y]) rfl rfl ?c1 (bc_one _) ?c3 ?c4 ?c5 ?_)
        case c1 =>
          intro j x hj
          match j, hj with
          | 0, hj => simp [bc] at hj; subst hj; simp [Addr.add_lit]; omega
        case c3 => unfold maxLen; omega
        case c4 => omega
        case c5 => simp; omega
        intro v2 w2 hown2 hgrow2 _
        have hb2 : Below w.heap.size w w2 := (hbel.alloc hsz _).grown hgrow2 (by simp; omega) (fun k hk => (hown'.lt k hk).1)
        rw [← bc_append] at hown2
        clear hgrow2 hown' hbel
        go_wp2
        go_ret
        have e : pre.length + 1 = (pre ++ [UInt8.ofNat y]).length := by simp
        rw [e, ← HE.out] at hown2
        exact ⟨v2, rfl, hown2, hb2⟩
  · go_enter Try.func53, Try.ntmps53
    go_wp2
    go_loopw [3, 4] (fun x v wr => ∃ (pre : List UInt8) (y f : Nat), x = .int .u64 y ∧ y < 2 ^ (7 * f + 1) ∧ f ≤ 9 ∧ Pl.enc (Pl.zz n) = pre ++ Pl.encF f y ∧
        wr.ownsRow w.heap.size 5 1 v pre.length (bc pre) ∧ Below w.heap.size w wr ∧ pre.length ≤ 9 - f)
      (fun x _ _ => (intOf x).toNat)
    case atStart => exact ⟨[], Pl.zz n, 9, congrArg (Value.int .u64) (HP.out hn), by simpa using HZ.out, by omega, rfl, World.ownsRow_nil _ _ _ _, Below.refl _ _, by simp⟩
    case round =>
      obtain ⟨pre, y, f, rfl, hy, hf, he, hown', hbel, hpl⟩ := hrel
      have hsz := hbel.size
      by_cases hlt : 128 ≤ y
      · obtain ⟨f, rfl⟩ : ∃ f', f = f' + 1 := ⟨f - 1, by cases f with | zero => simp at hy; omega | succ f => omega⟩
        have he' : Pl.enc (Pl.zz n) = (pre ++ [UInt8.ofNat (y % 128 + 128)]) ++ Pl.encF f (y / 128) := by
          rw [he]; conv => lhs; unfold Pl.encF
          rw [if_neg (by omega)]; simp
        have hy' : y / 128 < 2 ^ (7 * f + 1) := by
          rw [show 7 * (f + 1) + 1 = (7 * f + 1) + 7 from by omega, Nat.pow_add] at hy; omega
        have HE := hide he'
        have HY := hide hy'
        clear he he' hy hy'
        go_wp2_with (at_builtin; refine wpList_append_own _ rfl (.tmp 14) (.tmp 18) 93 rfl w.heap.size 5 i0 (.int .u8 0) 1 1 Try.underlying93 hi hz0 hz1 hz2 rfl (by decide) _ _ _ rfl (hown'.alloc _) ⟨wr.heap.size, 0, none⟩ 1 1 (bc [UInt8.ofNat (y % 128 + 128)]) rfl rfl ?c1 (bc_one _) ?c3 ?c4 ?c5 ?_)
        case c1 =>
          intro j x hj
          match j, hj with
          | 0, hj => simp [bc] at hj; subst hj; simp [Addr.add_lit, or128]
        case c3 => unfold maxLen; omega
        case c4 => omega
        case c5 => simp; omega
        intro v2 w2 hown2 hgrow2 _
        have hb2 : Below w.heap.size w w2 := (hbel.alloc hsz _).grown hgrow2 (by simp; omega) (fun k hk => (hown'.lt k hk).1)
        rw [← bc_append] at hown2
        clear hgrow2 hown' hbel
        go_wp2
        go_roundw
        case rel => exact ⟨pre ++ [UInt8.ofNat (y % 128 + 128)], y / 128, f, by go_num, HY.out, by omega, HE.out, by simpa using hown2, hb2, by simp; omega⟩
        case measure => simp [intOf]; omega
      · have HE : Hid (Pl.enc (Pl.zz n) = pre ++ [UInt8.ofNat y]) := by rw [he, Pl.encF_small f y (by omega)]; rfl
        clear hy he
        go_wp2_with (at_builtin; refine wpList_append_own _ rfl (.tmp 22) (.tmp 25) 93 rfl w.heap.size 5 i0 (.int .u8 0) 1 1 Try.underlying93 hi hz0 hz1 hz2 rfl (by decide) _ _ _ rfl (hown'.alloc _) ⟨wr.heap.size, 0, none⟩ 1 1 (bc [UInt8.ofNat y]) rfl rfl ?c1 (bc_one _) ?c3 ?c4 ?c5 ?_)
        case c1 =>
          intro j x hj
          match j, hj with
          | 0, hj => simp [bc] at hj; subst hj; simp [Addr.add_lit]; omega
        case c3 => unfold maxLen; omega
        case c4 => omega
        case c5 => simp; omega
        intro v2 w2 hown2 hgrow2 _
        have hb2 : Below w.heap.size w w2 := (hbel.alloc hsz _).grown hgrow2 (by simp; omega) (fun k hk => (hown'.lt k hk).1)
        rw [← bc_append] at hown2
        clear hgrow2 hown' hbel
        go_wp2
        go_ret
        have e : pre.length + 1 = (pre ++ [UInt8.ofNat y]).length := by simp
        rw [e, ← HE.out] at hown2
        exact ⟨v2, rfl, hown2, hb2⟩

set_option maxRecDepth 20000 in
set_option maxHeartbeats 400000 in
theorem refText_any (w : World) (s : ByteArray) (hs : s.size ≤ 140737488355318) :
    Calls Try.prog 54 #[.string s] w fun e w' => ∃ v, e = .returned v ∧ w'.ownsRow w.heap.size 5 1 v (txt s.data.toList).length (bc (txt s.data.toList)) ∧ Below w.heap.size w w' := by
  obtain ⟨i0, hi, hz0, hz1, hz2⟩ := info_parts Try.infoB
  have hnl := num_length s.size
  go_enter Try.func54, Try.ntmps54
  go_wp2_with fail
  refine (refInt_any _ _ (by omega) (by omega)).mono ?_
  rintro e w1 ⟨v, rfl, hown, hb⟩
  generalize hq : (num s.size).length = q at hown hnl
  have HQ := hide hq
  clear hq
  have hz := hb.size
  go_wp2_with (at_builtin; refine Lib.wpList_append_own_string _ rfl _ _ 93 9 rfl w.heap.size 5 i0 Try.underlying93 Try.underlying9 hi hz0 hz1 hz2 v q (bc (num s.size)) rfl hown s rfl (by unfold maxLen; omega) (by omega) hz ?_; intro v2 w2 hown2 hgrow2 _)
  go_ret
  have e : Lib.strCells s = bc s.data.toList := rfl
  rw [e, ← bc_append] at hown2
  have e2 : q + s.size = (txt s.data.toList).length := by rw [← HQ.out]; unfold txt; simp
  have e3 : num (s.size : Int) ++ s.data.toList = txt s.data.toList := by unfold txt; simp
  rw [e2, e3] at hown2
  exact ⟨v2, rfl, hown2, hb.grown hgrow2 hz (fun k hk => (hown.lt k hk).1)⟩
end Go.Proofs.Ytldfjpgcemfpjaa

/-
  Plain facts on the document's way to read a number: the first so many bytes that are their own number's bytes are what is read. No condition.
-/
namespace Go.Proofs.Ytldfjpgcemfpjaa.Pl

/-- What the first bytes say, seven bits each. -/
def val (l : List UInt8) : Nat → Nat
  | 0 => 0
  | i + 1 => val l i ||| ((l.getD i 0).toNat % 128 * 2 ^ (7 * i)) % 18446744073709551616

end Go.Proofs.Ytldfjpgcemfpjaa.Pl
