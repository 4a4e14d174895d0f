/-
  What the reference's Hex and Unhex answer. Conditions: a text within the reach (Hex), within what make takes (Unhex).
-/
import Derived.Test.YtbdepocmepkanaaDoorUnhex
namespace Go.Proofs.YtbdepocmepkanaaDoor
open Go.RowKit

theorem add16 (x y : Nat) (hx : x < 16) (hy : y < 16) : 16 * (x : Int) + (y : Int) = (((UInt8.ofNat (16 * x + y)).toNat : Nat) : Int) := by
  rw [UInt8.toNat_ofNat']
  omega
theorem tdiv16 (c : UInt8) : ((c.toNat : Nat) : Int).tdiv 16 = ((c.toNat / 16 : Nat) : Int) := by rw [Int.tdiv_eq_ediv_of_nonneg (by omega)]; omega
theorem tmod16 (c : UInt8) : ((c.toNat : Nat) : Int).tmod 16 = ((c.toNat % 16 : Nat) : Int) := by rw [Int.tmod_eq_emod_of_nonneg (by omega)]; omega

set_option maxRecDepth 20000 in
set_option maxHeartbeats 800000 in
theorem refHex_any (w : World) (l : List UInt8) (hl : l.length ≤ 140737488351232) :
    Calls Tryd.prog 14 #[.string (strB l)] w fun e w' => e = .returned (.string (strB (hex l))) ∧ Below w.heap.size w w' := by
  obtain ⟨i0, hi, hz0, hz1, hz2⟩ := info_parts Tryd.info5
  have hss := strB_size l
  go_enter Tryd.func14, Tryd.ntmps14
  go_wp2_with (at_make; refine wpList_make_own _ rfl _ _ 25 rfl w.heap.size 5 i0 (.int .u8 0) 1 Tryd.underlying25 hi hz0 hz1 .i64 .i64 _ (2 * l.length) rfl rfl (by omega) (by rw [hz2]; omega) (by unfold maxLen; omega) (Nat.le_refl _) ?_; intro w1 hown1 hgrow1)
  have hb1 : Below w.heap.size w w1 := (Below.refl _ _).grown hgrow1 (Nat.le_refl _) (by intro k hk; cases hk)
  clear hgrow1
  go_loopw [4, 5] (fun v t wr => ∃ k : Nat, k ≤ l.length ∧ t = .int .i64 k ∧ v = .slice (some ⟨w.heap.size, 0, none⟩) (2 * k) (2 * l.length) ∧
      wr.ownsRow w.heap.size 5 1 (.slice (some ⟨w.heap.size, 0, none⟩) (2 * k) (2 * l.length)) (2 * k) (bc (hex (l.take k))) ∧ Below w.heap.size w wr)
    (fun _ t _ => l.length - (intOf t).toNat)
  case atStart => exact ⟨0, by omega, rfl, rfl, hown1, hb1⟩
  case round =>
    clear hown1 hb1
    obtain ⟨k, hk, rfl, rfl, hown, hb⟩ := hrel
    have hlen : (hex (l.take k)).length = 2 * k := by rw [hex_length]; simp; omega
    by_cases hlt : k < l.length
    · have hS := hide (hex_take l k hlt)
      have hix := fun W => index9 W l .i64 k hlt
      have hc := (l.getD k 0).toNat_lt
      have ha := tmod16 (l.getD k 0)
      have hs := tdiv16 (l.getD k 0)
      have hd1 := fun W => digAt W ((l.getD k 0).toNat / 16) (by omega)
      have hd2 := fun W => digAt W ((l.getD k 0).toNat % 16) (by omega)
      obtain ⟨w2, hap, hown2, hb2⟩ := append2 wr w.heap.size w.heap.size (2 * l.length) (2 * k) _ (dig ((l.getD k 0).toNat / 16)) (dig ((l.getD k 0).toNat % 16)) hlen hb.size hown (by omega)
      have HO := hide hown2
      have HB := hide (hb.trans hb2)
      have hc0 : (0 : Int) ≤ ((l.getD k 0).toNat : Int) := by omega
      have hc1 : ((l.getD k 0).toNat : Int) ≤ 255 := by omega
      clear hlen hown hb hown2 hb2 hc
      generalize l.getD k 0 = c at *
      generalize hj1 : c.toNat / 16 = j1 at *
      generalize hj2 : c.toNat % 16 = j2 at *
      have HAP := hide hap
      have hw1 : IntKind.u8.wrap (j1 : Int) = (j1 : Int) := by rw [IntKind.wrap_u8]; have := c.toNat_lt; omega
      clear hj1 hj2 hap
      go_wp2_with fail
      go_region_law (refine step_append_run rfl (.tmp 16) (.tmp 29) 25 rfl (by simp [Act.eval]) (by simp [Act.eval]) HAP.out ?_)
      all_goals go_wp2
      all_goals exact ⟨⟨k + 1, by omega, by go_num, rfl, by rw [hS.out]; exact HO.out, HB.out⟩, by simp [intOf]; omega⟩
    · obtain rfl : k = l.length := by omega
      have hsl := sl_at hlen hown
      rw [List.take_length] at hsl
      clear hlen hown
      go_wp2_with (refine wpList_strB _ rfl (.tmp 31) rfl hsl rfl ?_)
      go_ret
      exact ⟨rfl, hb⟩


set_option maxRecDepth 20000 in
set_option maxHeartbeats 800000 in
theorem refUnhex_any (w : World) (l : List UInt8) (hl : l.length ≤ 281474976702464) :
    Calls Tryd.prog 12 #[.string (strB l)] w fun e w' => e = .returned (.tuple #[.string (strB ((unhex l).getD [])), .bool (unhex l).isSome]) ∧ Below w.heap.size w w' := by
  obtain ⟨i0, hi, hz0, hz1, hz2⟩ := info_parts Tryd.info5
  have hss := strB_size l
  by_cases hodd : l.length % 2 = 1
  · have hN := hide (unhex_odd l hodd)
    have hm : ((l.length : Nat) : Int).tmod 2 = 1 := by rw [Int.tmod_eq_emod_of_nonneg (by omega)]; omega
    go_enter Tryd.func12, Tryd.ntmps12
    go_wp2
    go_ret2
    exact ⟨ret_un (by rw [hN.out]; rfl) (by rw [hN.out]; rfl), Below.refl _ _⟩
  · have hm : ((l.length : Nat) : Int).tmod 2 = 0 := by rw [Int.tmod_eq_emod_of_nonneg (by omega)]; omega
    have hd : ((l.length : Nat) : Int).tdiv 2 = ((l.length / 2 : Nat) : Int) := by rw [Int.tdiv_eq_ediv_of_nonneg (by omega)]; omega
    obtain ⟨q, hq⟩ : ∃ q, q = l.length / 2 := ⟨_, rfl⟩
    rw [← hq] at hd
    have HQ : Hid (2 * q = l.length) := by show _ = _; omega
    have hq' : q ≤ 140737488351232 := by omega
    clear hq
    go_enter Tryd.func12, Tryd.ntmps12
    go_wp2_with (at_make; refine wpList_make_own _ rfl _ _ 25 rfl w.heap.size 5 i0 (.int .u8 0) 1 Tryd.underlying25 hi hz0 hz1 .i64 .i64 _ q rfl rfl (by omega) (by rw [hz2]; omega) (by unfold maxLen; omega) (Nat.le_refl _) ?_; intro w1 hown1 hgrow1)
    have hb1 : Below w.heap.size w w1 := (Below.refl _ _).grown hgrow1 (Nat.le_refl _) (by intro k hk; cases hk)
    clear hgrow1 hm hd
    go_loopw [4, 5] (fun v t wr => ∃ (i m : Nat) (D : List UInt8), i ≤ l.length ∧ i = 2 * m ∧ D.length = m ∧ t = .int .i64 i ∧ v = .slice (some ⟨w.heap.size, 0, none⟩) m q ∧
        wr.ownsRow w.heap.size 5 1 (.slice (some ⟨w.heap.size, 0, none⟩) m q) m (bc D) ∧ unhex l = (unhex (l.drop i)).map (D ++ ·) ∧ Below w.heap.size w wr)
      (fun _ t _ => l.length - (intOf t).toNat)
    case atStart => exact ⟨0, 0, [], by omega, rfl, rfl, rfl, rfl, hown1, by simp, hb1⟩
    case round =>
      clear hown1 hb1
      obtain ⟨i, m, D, hil, him, hDm, rfl, rfl, hown, hu, hb⟩ := hrel
      by_cases hlt : i < l.length
      · have hlt1 : i + 1 < l.length := by omega
        have hix := fun W => index9i W l .i64 i i rfl hlt
        have hiy := fun W => index9i W l .i64 ((i : Int) + 1) (i + 1) (by omega) hlt1
        have ha := UInt8.toNat_lt (l.getD i 0)
        have hb' := UInt8.toNat_lt (l.getD (i + 1) 0)
        have HU := hide hu
        have HB := hide hb
        have HM := hide him
        have HD := hide hDm
        have HO := hide hown
        clear hu hb him hDm hown
        cases hx : undig (l.getD i 0).toNat with
        | none =>
          have hN := hide (unhex_none HU.out hlt1 (.inl hx))
          have HX := hide hx
          clear hx
          cases hy : undig (l.getD (i + 1) 0).toNat with
          | none =>
            have HY := hide hy
            clear hy
            generalize (l.getD i 0).toNat = a at *
            generalize (l.getD (i + 1) 0).toNat = b at *
            go_wp2_with fail
            refine (digit_none _ a ha HX.out).mono ?_
            rintro e1 w2 ⟨rfl, rfl⟩
            go_wp2_with fail
            refine (digit_none _ b hb' HY.out).mono ?_
            rintro e1 w2 ⟨rfl, rfl⟩
            go_wp2
            go_ret2
            exact ⟨ret_un (by rw [hN.out]; rfl) (by rw [hN.out]; rfl), HB.out⟩
          | some y =>
            have HY := hide hy
            clear hy
            generalize (l.getD i 0).toNat = a at *
            generalize (l.getD (i + 1) 0).toNat = b at *
            go_wp2_with fail
            refine (digit_none _ a ha HX.out).mono ?_
            rintro e1 w2 ⟨rfl, rfl⟩
            go_wp2_with fail
            refine (digit_some _ b y hb' HY.out).mono ?_
            rintro e1 w2 ⟨rfl, rfl⟩
            go_wp2
            go_ret2
            exact ⟨ret_un (by rw [hN.out]; rfl) (by rw [hN.out]; rfl), HB.out⟩
        | some x =>
          have HX := hide hx
          cases hy : undig (l.getD (i + 1) 0).toNat with
          | none =>
            have hN := hide (unhex_none HU.out hlt1 (.inr hy))
            clear hx
            have HY := hide hy
            clear hy
            generalize (l.getD i 0).toNat = a at *
            generalize (l.getD (i + 1) 0).toNat = b at *
            go_wp2_with fail
            refine (digit_some _ a x ha HX.out).mono ?_
            rintro e1 w2 ⟨rfl, rfl⟩
            go_wp2_with fail
            refine (digit_none _ b hb' HY.out).mono ?_
            rintro e1 w2 ⟨rfl, rfl⟩
            go_wp2
            go_ret2
            exact ⟨ret_un (by rw [hN.out]; rfl) (by rw [hN.out]; rfl), HB.out⟩
          | some y =>
            have HS := hide (unhex_step HU.out hlt1 hx hy)
            clear hx
            have HY := hide hy
            clear hy
            generalize (l.getD i 0).toNat = a at *
            generalize (l.getD (i + 1) 0).toNat = b at *
            go_wp2_with fail
            refine (digit_some _ a x ha HX.out).mono ?_
            rintro e1 w2 ⟨rfl, rfl⟩
            go_wp2_with fail
            refine (digit_some _ b y hb' HY.out).mono ?_
            rintro e1 w2 ⟨rfl, rfl⟩
            have hx16 := undig_lt HX.out
            have hy16 := undig_lt HY.out
            have hor := add16 x y hx16 hy16
            generalize UInt8.ofNat (16 * x + y) = zz at *
            have hown := HO.out
            have hmq : m + 1 ≤ q := by have := HM.out; have := HQ.out; omega
            go_wp2_with (at_builtin; refine wpList_append_fits _ rfl (.tmp 37) (.tmp 43) 25 rfl w.heap.size 5 i0 1 Tryd.underlying25 hi hz1 w.heap.size m q (bc D) rfl (hown.alloc _) ⟨w2.heap.size, 0, none⟩ 1 1 (bc [zz]) rfl rfl ?c1 (bc_one _) hmq ?_)
            case c1 =>
              intro j z hj
              match j, hj with
              | 0, hj => simp [bc] at hj; subst hj; simp [Addr.add_lit]
            intro w3 hown3 hgrow3
            have HB3 := hide ((HB.out.alloc HB.out.size (.cells #[.int .u8 ((zz.toNat : Nat) : Int)] 5)).grown hgrow3 (by have := HB.out.size; simp; omega) (by intro k hk; injection hk with hk; omega))
            rw [← bc_append] at hown3
            have HO3 := hide hown3
            clear hgrow3 hown3 hown
            go_wp2
            go_roundw
            case rel => exact ⟨i + 2, m + 1, D ++ [zz], by omega, by have := HM.out; omega, by simp; exact HD.out, by go_num, rfl, HO3.out, HS.out, HB3.out⟩
            case measure => simp [intOf]; omega
      · have hsl := sl_at hDm hown
        rw [List.drop_eq_nil_of_le (by omega)] at hu
        have HU : Hid (unhex l = some D) := by show _ = _; rw [hu]; simp [unhex]
        clear hu hown
        go_wp2_with (refine wpList_strB _ rfl (.tmp 45) rfl hsl rfl ?_)
        go_ret2
        exact ⟨ret_un (by rw [HU.out]; rfl) (by rw [HU.out]; rfl), hb⟩
end Go.Proofs.YtbdepocmepkanaaDoor
