/-
  The statement WireSums answers true, and leaves all that was there. Conditions: parts of at most 1048576 bytes together; an int; a number of 32 bits; the table's sixteen numbers.
-/
import Derived.Test.YtphhonkiikdanaaDoorShown
import Derived.Test.YtphhonkiikdanaaDoorRefCrc
namespace Go.Proofs.YtphhonkiikdanaaDoor
open Go.RowKit

/-- 'append(x, y...)', x nil or the call's own, y any slice of bytes. -/
theorem wpList_append_sl (w : World) {ops : Array Oper} {rest : List Oper} {o : Oper} {a : Act} {Q : Exit → Act → World → Prop} (hg : o.guard = none) (x y : Operand)
    (hop : o.op = Op.call { callee := .builtin .append, args := #[x, y], argTypes := #[22, 22] })
    (base : Nat) (hbase : base ≤ w.heap.size) {v u : Value} {l r : List UInt8} (h : w.ownsRow base 5 1 v l.length (bc l)) (hu : Sl w u r) (hx : a.eval x = v) (hy : a.eval y = u) (hb : l.length + r.length ≤ 140737488355328)
    (hK : ∀ v' w', w'.ownsRow base 5 1 v' (l ++ r).length (bc (l ++ r)) → w.grownBy w' v.ownBlock → wpList Tryd.prog ops Q rest (a.put o.dst v') w') : wpList Tryd.prog ops Q (o :: rest) a w := by
  obtain ⟨i0, hi, hz0, hz1, hz2⟩ := info_parts Tryd.info5
  have hu' := hu
  obtain ⟨ao, cap, rfl, h1, h2, h3, h4⟩ := hu'
  cases ao with
  | some ad =>
    refine wpList_append_own w hg x y 22 hop base 5 i0 (.int .u8 0) 1 1 Tryd.underlying22 hi hz0 hz1 hz2 rfl (by decide) v l.length (bc l) hx h ad r.length cap (bc r) hy (by rw [bc_length, Nat.mul_one]) (hu.cells (Below.refl _ _) ad rfl) (bc_one r) (by unfold maxLen; omega) (by omega) hbase ?_
    intro v' w' hown hgrow _
    rw [← bc_append, ← List.length_append] at hown
    exact hK v' w' hown hgrow
  | none =>
    have hc := h3 rfl
    subst hc
    obtain rfl : r = [] := List.eq_nil_of_length_eq_zero (by omega)
    refine wpList_plain hg fun K hK' => ?_
    have hrun := run_append_owned_none (P := Tryd.prog) w base 22 o.type 5 i0 1 Tryd.underlying22 hi _ l.length (bc l) h
    unfold Oper.wp
    simp [execOp, hop, resolve, invoke, builtin, hx, hy, hrun, Result.andThen]
    exact hK' _ _ (hK v w (by simpa using h) (World.grownBy.refl _ _))

theorem pow_mod256 (m : Nat) (h : 2 ^ m < 256) : ((2 : Int) ^ m % 256) = ((2 ^ m : Nat) : Int) := by
  have e2 : ((2 : Int) ^ m) = ((2 ^ m : Nat) : Int) := (Int.natCast_pow 2 m).symm
  rw [e2]
  generalize 2 ^ m = z at *
  omega

theorem ssOne (w : World) (u : Value) (a : List UInt8) (n : Nat) (hn : n = w.heap.size) (ha : Sl w u a) : Ss (w.alloc (.cells #[u] 22)) (.slice (some ⟨n, 0, none⟩) 1 1) [a] := by
  subst hn
  refine ⟨_, _, rfl, Nat.le_refl _, by decide, fun _ => ⟨w.heap.size, 0, rfl, by simp, fun j hj => ?_⟩⟩
  rw [Nat.zero_add, cell_new]
  match j, hj with
  | 0, _ => exact ⟨u, rfl, ha.keep ((Below.refl _ _).alloc (Nat.le_refl _) _)⟩

set_option maxRecDepth 20000 in
set_option maxHeartbeats 2000000 in
theorem sums_any (w : World) (v : Value) (ls : List (List UInt8)) (p b : Int) (hT : TabW w) (h : Ss w v ls) (hl : ls.flatten.length ≤ 1048576) (hp0 : -9223372036854775808 ≤ p) (hp1 : p ≤ 9223372036854775807) (hb0 : 0 ≤ b) (hb1 : b ≤ 4294967295) :
    Calls Tryd.prog 5 #[v, .int .i64 p, .int .u32 b] w fun e w' => e = .returned (.bool true) ∧ Below w.heap.size w w' := by
  have hss := h
  have HT := hide hT
  clear hT
  obtain ⟨ao, cap, rfl, h1, h2, h4⟩ := h
  unfold maxLen at h2
  go_enter Tryd.func5, Tryd.ntmps5
  go_wp2_with fail
  refine (shown_any _ HT.out).mono ?_
  rintro e w1 ⟨rfl, hb1'⟩
  have hss1 := hss.keep hb1'
  have HS1 := hide hss1
  clear hss hss1 h4
  go_wp2_with fail
  go_loopw [8, 9] (fun u i wr => ∃ k : Nat, k ≤ ls.length ∧ i = .int .i64 k ∧ wr.ownsRow w1.heap.size 5 1 u (ls.take k).flatten.length (bc (ls.take k).flatten) ∧ Below w1.heap.size w1 wr)
    (fun _ i _ => ls.length - (intOf i).toNat)
  case atStart => exact ⟨0, by omega, rfl, World.ownsRow_nil _ _ _ _, Below.refl _ _⟩
  case round =>
    obtain ⟨k, hk, rfl, hown, hbel⟩ := hrel
    have hssr := HS1.out.keep hbel
    by_cases hlt : k < ls.length
    · obtain ⟨ao2, cap2, hv2, _, _, h4⟩ := hssr
      injection hv2 with ea eb ec
      subst ea ec
      obtain ⟨bk, off, rfl, hbk, hcell⟩ := h4 (by rintro rfl; simp at hlt)
      obtain ⟨u, hc, hsl⟩ := hcell k hlt
      have hfl : (ls.take (k + 1)).flatten = (ls.take k).flatten ++ ls[k] := by rw [List.take_succ_eq_append_getElem hlt, List.flatten_append]; simp
      have hle : (ls.take (k + 1)).flatten.length ≤ ls.flatten.length := by
        conv => rhs; rw [← List.take_append_drop (k + 1) ls, List.flatten_append, List.length_append]
        omega
      rw [hfl, List.length_append] at hle
      have HF := hide hfl
      have hz := hbel.size
      have hu := hsl
      obtain ⟨ao3, cap3, rfl, _, _, _, _⟩ := hu
      clear hfl hcell h4
      go_wp2_with (at_builtin; refine wpList_append_sl _ rfl (.tmp 21) (.tmp 25) rfl w1.heap.size hz hown hsl rfl rfl (by omega) ?_; intro v2 w2 hown2 hgrow2)
      have hb2 := hbel.grown hgrow2 hz (fun k hk => (hown.lt k hk).1)
      rw [← HF.out] at hown2
      clear hown hgrow2 hsl hbel
      go_roundw
      case rel => exact ⟨k + 1, by omega, by go_num, hown2, hb2⟩
      case measure => simp [intOf]; omega
    · have e : ls.take k = ls := List.take_of_length_le (by omega)
      rw [e] at hown
      clear e
      have hcrc := crc_any wr _ ls hssr (HT.out.keep (hb1'.trans (hbel.mono hb1'.size)))
      generalize ls.flatten = L at *
      generalize hC : crc L = C at *
      have HC := hide hC
      have HCR := hide hcrc
      clear hC hcrc
      have hTr : TabW wr := HT.out.keep (hb1'.trans (hbel.mono hb1'.size))
      have HTR := hide hTr
      have hsl := sl_of_own hown
      have hu := hsl
      obtain ⟨ao2, cap2, rfl, hlc, hcm, _, _⟩ := hu
      unfold maxLen at hcm
      have hbw := hb1'.trans (hbel.mono hb1'.size)
      clear hTr hssr
      go_wp2_with fail
      refine HCR.out.mono ?_
      rintro e wr ⟨rfl, rfl⟩
      go_wp2_with fail
      refine (refCrc_any _ _ L hsl).mono ?_
      rintro e wr ⟨rfl, rfl⟩
      rw [HC.out]
      go_wp2_with fail
      refine (crc_any _ _ [L] (by exact ssOne wr _ L _ rfl hsl) (by exact HTR.out.keep ((Below.refl _ _).alloc (Nat.le_refl _) _))).mono ?_
      rintro e w3 ⟨rfl, rfl⟩
      have e1 : crc [L].flatten = C := by simpa using HC.out
      rw [e1]
      clear e1
      by_cases hshort : L.length < 4 ∨ b = 0
      · rcases (show L.length < 4 ∨ (¬ L.length < 4 ∧ b = 0) by omega) with hs | ⟨hs, rfl⟩
        all_goals
          go_wp2
          go_ret
          exact ⟨rfl, hbw.alloc (Nat.le_trans hb1'.size hbel.size) _⟩
      · have hn4 : ¬ L.length < 4 := fun h => hshort (Or.inl h)
        have hbz : (b == 0) = false := by simp; exact fun h => hshort (Or.inr h)
        obtain ⟨B, rfl⟩ := Int.eq_ofNat_of_zero_le hb0
        have hB : B ≠ 0 := fun h => hshort (Or.inr (by omega))
        obtain ⟨g, hga, hgb⟩ : ∃ g, ao2 = some ⟨g, 0, none⟩ ∧ w1.heap.size ≤ g := by
          rcases hown.2 with ⟨h0, hn0⟩ | ⟨g, cp, cur, h0, hg, _⟩
          · omega
          · injection h0 with ha _ _
            exact ⟨g, ha, hg⟩
        subst hga
        have hownA := hown.alloc (.cells #[.slice (some ⟨g, 0, none⟩) L.length cap2] 22)
        have hbA : Below w1.heap.size w1 (wr.alloc (.cells #[.slice (some ⟨g, 0, none⟩) L.length cap2] 22)) := hbel.alloc hbel.size _
        have hlen : L.length ≤ 1048576 := hl
        clear hshort hown hsl
        obtain ⟨c, hc0, hc1, hpc⟩ : ∃ c : Int, 0 ≤ c ∧ c ≤ 9223372036854775807 ∧ (p = -c - 1 ∨ c = p) := by
          by_cases h : p < 0
          · exact ⟨-p - 1, by omega, by omega, Or.inl (by omega)⟩
          · exact ⟨p, by omega, by omega, Or.inr rfl⟩
        obtain ⟨t, ht, htl⟩ : ∃ t : Nat, c % (8 * (L.length : Int) - 31) = (t : Int) ∧ t + 31 < 8 * L.length := by
          have a1 := Int.emod_nonneg c (show (8 * (L.length : Int) - 31) ≠ 0 by omega)
          have a2 := Int.emod_lt_of_pos c (show 0 < (8 * (L.length : Int) - 31) by omega)
          exact ⟨(c % (8 * (L.length : Int) - 31)).toNat, by omega, by omega⟩
        rcases hpc with rfl | rfl
        all_goals
          go_wp2_with fail
          go_loopw [12] (fun i wx => ∃ (j : Nat) (M : List UInt8), j ≤ 32 ∧ i = .int .i64 j ∧ M.length = L.length ∧ wx.ownsRow w1.heap.size 5 1 (.slice (some ⟨g, 0, none⟩) L.length cap2) L.length (bc M) ∧
              crcL 4294967295 M = crcL 4294967295 L ^^^ Pl.bsN (8 * L.length - t) (B % 2 ^ j) ∧ Below w1.heap.size w1 wx)
            (fun i _ => 32 - (intOf i).toNat)
          case atStart => exact ⟨0, L, by omega, rfl, rfl, hownA, by rw [Nat.pow_zero, Nat.mod_one, Pl.bsN_zero, Nat.xor_zero], hbA⟩
          case round =>
            obtain ⟨j, M, hj, rfl, hM, hownM, hcr, hbM⟩ := hrel
            by_cases hlt : j < 32
            · have hmod := Pl.mod_next B j
              have hBj : ((B : Int) / 2 ^ j) = ((B / 2 ^ j : Nat) : Int) := by
                have e : ((2 : Int) ^ j) = ((2 ^ j : Nat) : Int) := (Int.natCast_pow 2 j).symm
                rw [e]; rfl
              have hBl : B / 2 ^ j < 4294967296 := Nat.lt_of_le_of_lt (Nat.div_le_self _ _) (by omega)
              have hand : bits .and .u32 ((B : Int) / 2 ^ j) 1 = ((B / 2 ^ j % 2 : Nat) : Int) := by rw [hBj]; exact and1_u32 _ hBl
              obtain ⟨q, m, hqm, hm8⟩ : ∃ q m : Nat, t + j = 8 * q + m ∧ m < 8 := ⟨(t + j) / 8, (t + j) % 8, by omega, by omega⟩
              have hq : ((t : Int) + (j : Int)) / 8 = (q : Int) := by omega
              have hm : ((t : Int) + (j : Int)) % 8 = (m : Int) := by omega
              have hqn : q < M.length := by omega
              rcases Nat.mod_two_eq_zero_or_one (B / 2 ^ j) with hbit | hbit
              · have f1 : bits .and .u32 ((B : Int) / 2 ^ j) 1 = 0 := by rw [hand, hbit]; rfl
                rw [hbit, Nat.zero_mul, Nat.xor_zero] at hmod
                rw [← hmod] at hcr
                have HCR := hide hcr
                clear hcr hownA hbA hand hBj hBl hmod hbit
                go_wp2
                go_roundw
                case rel => exact ⟨j + 1, M, by omega, by go_num, hM, hownM, HCR.out, hbM⟩
                case measure => simp [intOf]; omega
              · have f1 : bits .and .u32 ((B : Int) / 2 ^ j) 1 = 1 := by rw [hand, hbit]; rfl
                have hcell : wr.cell? ⟨g, q, none⟩ = some (.int .u8 ((M[q]'hqn).toNat : Int)) := by rw [hownM.cellAt q (by omega), bc_get M q hqn]
                have hfz := hownM.frozenAt q
                obtain ⟨c', hc'⟩ : ∃ c' : UInt8, c'.toNat = (M[q]'hqn).toNat ^^^ 2 ^ m := by
                  have h1 : (M[q]'hqn).toNat ^^^ 2 ^ m < 256 := Nat.xor_lt_two_pow (n := 8) (UInt8.toNat_lt _) (Nat.pow_lt_pow_right (by decide) hm8)
                  exact ⟨UInt8.ofNat ((M[q]'hqn).toNat ^^^ 2 ^ m), Pl.byte_small h1⟩
                have hflip := Pl.crcL_flip 4294967295 M q m hqn hm8 c' hc'
                have hpow : 2 ^ m < 256 := Nat.pow_lt_pow_right (n := 8) (by decide) hm8
                have hxor : bits .xor .u8 ((M[q]'hqn).toNat : Int) (2 ^ m % 256) = (c'.toNat : Int) := by
                  rw [pow_mod256 m hpow, u8_xor_nat _ _ (UInt8.toNat_lt _) hpow, hc']
                have hnew : crcL 4294967295 (M.set q c') = crcL 4294967295 L ^^^ Pl.bsN (8 * L.length - t) (B % 2 ^ (j + 1)) := by
                  rw [hflip, hcr, hmod, hbit, Nat.one_mul, Pl.bsN_xor, Pl.bsN_bit _ j (by omega), hM, ← Nat.xor_assoc]
                  congr 2
                  omega
                have hstored := hownM.stored q (.int .u8 (c'.toNat : Int))
                have hset : (bc M).set q (.int .u8 (c'.toNat : Int)) = bc (M.set q c') := by simp [bc, List.map_set]
                rw [hset] at hstored
                have hbS := hbM.grown hstored.2 hbM.size (by intro k hk; injection hk with hk; omega)
                have hst := hstored.1
                have hM' : (M.set q c').length = L.length := by simpa using hM
                have HNW := hide hnew
                have HM' := hide hM'
                have hqi : (q : Int) < (L.length : Int) := by omega
                have hc256 := UInt8.toNat_lt (M[q]'hqn)
                clear hcr hownA hbA hand hBj hBl hbit hnew hM' hflip hstored hset hmod hc'
                generalize (M[q]'hqn).toNat = d at *
                go_wp2_with fail
                go_region
                go_wp2
                go_roundw
                case rel => exact ⟨j + 1, M.set q c', by omega, by go_num, HM'.out, hst, HNW.out, hbS.drew⟩
                case measure => simp [intOf]; omega
            · obtain rfl : j = 32 := by omega
              have hB32 : B % 2 ^ 32 = B := Nat.mod_eq_of_lt (by omega)
              rw [hB32] at hcr
              have hne := Pl.crc_other L M (8 * L.length - t) B hcr (by omega) hB
              have hTx : TabW wr := HT.out.keep (hb1'.trans (hbM.mono hb1'.size))
              have hslM : Sl wr (.slice (some ⟨g, 0, none⟩) L.length cap2) M := by
                rw [← hM] at hownM ⊢
                exact sl_of_own hownM
              have HSM := hide hslM
              have HTX := hide hTx
              rw [HC.out] at hne
              have fne : (((crc M : Nat) : Int) != (C : Int)) = true := by simp; omega
              have hM1 : crc [M].flatten = crc M := by simp
              have HM1 := hide hM1
              clear hcr hownA hbA hne hTx hslM hM1 hB32
              go_wp2_with fail
              refine (crc_any _ _ [M] (by exact ssOne wr _ M _ rfl HSM.out) (by exact HTX.out.keep ((Below.refl _ _).alloc (Nat.le_refl _) _))).mono ?_
              rintro e w5 ⟨rfl, rfl⟩
              rw [HM1.out]
              go_wp2
              go_ret
              exact ⟨rfl, (hb1'.trans (hbM.mono hb1'.size)).alloc (Nat.le_trans hb1'.size hbM.size) _⟩
end Go.Proofs.YtphhonkiikdanaaDoor
