/-
  What the document's answer says of the sum (the reference's Crc, bit by bit): the same function of the bytes. Condition: a slice of bytes.
-/
import Derived.Test.YtphhonkiikdanaaDoorCrcMath
import Derived.Test.YtphhonkiikdanaaDoorFacts
namespace Go.Proofs.YtphhonkiikdanaaDoor
open Go.RowKit

theorem bsN_snoc (k x : Nat) : Pl.bs (Pl.bsN k x) = Pl.bsN (k + 1) x := by rw [Pl.bsN_add k 1]; rfl
theorem bsN_lt : ∀ (k x : Nat), x < 4294967296 → Pl.bsN k x < 4294967296
  | 0, _, h => h
  | k + 1, x, h => bsN_lt k (Pl.bs x) (Pl.bs_lt x h)
theorem and1_u32 (x : Nat) (h : x < 4294967296) : bits .and .u32 (x : Int) 1 = ((x % 2 : Nat) : Int) := by
  rw [show (1 : Int) = ((1 : Nat) : Int) from rfl, u32_and_nat x 1 h (by omega), Nat.and_one_is_mod]

set_option maxRecDepth 20000 in
set_option maxHeartbeats 800000 in
theorem refCrc_any (w : World) (v : Value) (l : List UInt8) (h : Sl w v l) :
    Calls Tryd.prog 21 #[v] w fun e w' => e = .returned (.int .u32 (crc l : Nat)) ∧ w' = w := by
  obtain ⟨ao, cap, rfl, h1, h2, h3, h4⟩ := h
  unfold maxLen at h2
  go_enter Tryd.func21, Tryd.ntmps21
  go_wp2
  go_loop [3, 4] (fun x i => ∃ k : Nat, k ≤ l.length ∧ i = .int .i64 k ∧ x = .int .u32 ((crcL 4294967295 (l.take k) : Nat) : Int)) (fun _ i => l.length - (intOf i).toNat)
  case atStart => exact ⟨0, by omega, rfl, rfl⟩
  case round =>
    obtain ⟨k, hk, rfl, rfl⟩ := hrel
    by_cases hlt : k < l.length
    · obtain ⟨b, off, rfl, hb, hc⟩ := h4 (by rintro rfl; simp at hlt)
      have hcell := hc k hlt
      have hn : crcL 4294967295 (l.take (k + 1)) = Pl.bsN 8 (crcL 4294967295 (l.take k) ^^^ l[k].toNat) := by rw [← Pl.crcB_bs, ← crcL_snoc, List.take_succ_eq_append_getElem hlt]
      have hA := crcL_lt (l.take k) 4294967295 (by omega)
      have hc256 := UInt8.toNat_lt l[k]
      generalize (l[k]).toNat = c at *
      generalize crcL 4294967295 (l.take k) = A at *
      have hxl : A ^^^ c < 4294967296 := Nat.xor_lt_two_pow (n := 32) hA (by omega)
      have e1 : bits .xor .u32 (A : Int) (c : Int) = ((A ^^^ c : Nat) : Int) := u32_xor_nat A c hA (by omega)
      generalize A ^^^ c = x at *
      have HN := hide hn
      have HX := hide hxl
      have HA := hide hA
      clear hn hc h4 hxl hA
      go_wp2
      go_loop [3, 5] (fun y i => ∃ j : Nat, j ≤ 8 ∧ i = .int .i64 j ∧ y = .int .u32 ((Pl.bsN j x : Nat) : Int)) (fun _ i => 8 - (intOf i).toNat)
      case atStart => exact ⟨0, by omega, rfl, rfl⟩
      case round =>
        obtain ⟨j, hj, rfl, rfl⟩ := hrel
        have hyl := bsN_lt j x HX.out
        have hs := bsN_snoc j x
        generalize hy : Pl.bsN j x = y at *
        have HY := hide hy
        clear hy
        have f1 := and1_u32 y hyl
        by_cases hlt2 : j < 8
        · rcases Nat.mod_two_eq_zero_or_one y with hp | hp
          · have f2 : bits .and .u32 (y : Int) 1 = 0 := by rw [f1, hp]; rfl
            have hy2 : Pl.bs y = y / 2 := by unfold Pl.bs; rw [if_neg (by omega)]
            rw [hy2] at hs
            have HS := hide hs
            clear f1 hs hy2 hp hyl
            go_wp2
            go_round
            case rel => exact ⟨j + 1, by omega, by go_num, by rw [← HS.out]; go_num⟩
            case measure => simp [intOf]; omega
          · have f2 : bits .and .u32 (y : Int) 1 = 1 := by rw [f1, hp]; rfl
            have hy2 : Pl.bs y = y / 2 ^^^ 3988292384 := by unfold Pl.bs; rw [if_pos hp]
            have f3 : bits .xor .u32 ((y : Int) / 2) 3988292384 = ((y / 2 ^^^ 3988292384 : Nat) : Int) := by
              rw [show ((y : Int) / 2) = ((y / 2 : Nat) : Int) from by omega, show (3988292384 : Int) = ((3988292384 : Nat) : Int) from rfl, u32_xor_nat _ _ (by omega) (by omega)]
            rw [hy2] at hs
            generalize y / 2 ^^^ 3988292384 = z at *
            have HS := hide hs
            clear f1 hs hy2 hp hyl
            go_wp2
            go_round
            case rel => exact ⟨j + 1, by omega, by go_num, by rw [← HS.out]⟩
            case measure => simp [intOf]; omega
        · obtain rfl : j = 8 := by omega
          clear f1 hs hyl
          go_wp2
          go_round
          case rel => exact ⟨k + 1, by omega, by go_num, by rw [HN.out, HY.out]⟩
          case measure => simp [intOf]; omega
    · clear h4
      have hA := crcL_lt (l.take k) 4294967295 (by omega)
      have e : l.take k = l := List.take_of_length_le (by omega)
      rw [e] at hA ⊢
      have hx : bits .xor .u32 IntKind.u32.max ((crcL 4294967295 l : Nat) : Int) = ((crc l : Nat) : Int) := by
        rw [show IntKind.u32.max = ((4294967295 : Nat) : Int) from by decide, u32_xor_nat _ _ (by omega) hA]; rfl
      have HX := hide hx
      clear hx hA e
      go_wp2
      go_ret
      exact ⟨ret_int HX.out, rfl⟩
end Go.Proofs.YtphhonkiikdanaaDoor
