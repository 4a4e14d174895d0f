/-
  What the reference's padding answers. Condition: at most 1048576 bytes.
-/
import Derived.Test.YtdbmngbinhemeabDoorCHSum
import Derived.Deep.RegionLaw
namespace Go.Proofs.YtdbmngbinhemeabDoor
open Go.RowKit

theorem step_append_run {P : Program} {ops : Array Oper} {o : Oper} {a : Act} {w : World} {K : Act → World → Prop} {Q : Exit → Act → World → Prop} {E : Prop}
    (hg : o.guard = none) (s x : Operand) (t : TypeId) (hop : o.op = Op.call { callee := Callee.builtin Builtin.append, args := #[s, x], argTypes := #[t, t] })
    {v1 v2 v' : Value} {w' : World} (hs : a.eval s = v1) (hx : a.eval x = v2) (hrun : (Builtin.append_ #[t, t] o.type #[v1, v2]).run P w = .ok v' w')
    (hK : K (a.put o.dst v') w') : if Region.wanted o (yielded ops a.tmps) = true then Oper.wp P o a w K Q else E := by
  have hw : Region.wanted o (yielded ops a.tmps) = true := by simp [Region.wanted, hg]
  rw [if_pos hw]
  unfold Oper.wp
  simp [execOp, hop, resolve, invoke, builtin, hs, hx, hrun, Result.andThen]
  exact hK
/-- A slice's length. -/
def lenV : Value → Nat
  | .slice _ n _ => n
  | _ => 0
/-- The length's eight bytes. -/
def be8 (size : Nat) : List UInt8 := be4 (UInt32.ofNat (size * 8 % 18446744073709551616 / 4294967296)) ++ be4 (UInt32.ofNat (size * 8 % 18446744073709551616))
theorem tail_eq (size : Nat) : tail size = 128 :: (List.replicate ((119 - size % 64) % 64) 0 ++ be8 size) := by
  unfold tail be8
  rw [List.cons_append]
theorem be8_length (size : Nat) : (be8 size).length = 8 := rfl

theorem be8_get (size : Nat) (hs : size ≤ 1048576) : ∀ k, k < 8 → ((size : Int) * 8) / 2 ^ (56 - 8 * k) % 256 = (((be8 size).getD k 0).toNat : Int)
  | 0, _ => by simp [be8, be4, Nat.shiftRight_eq_div_pow]; omega
  | 1, _ => by simp [be8, be4, Nat.shiftRight_eq_div_pow]; omega
  | 2, _ => by simp [be8, be4, Nat.shiftRight_eq_div_pow]; omega
  | 3, _ => by simp [be8, be4]; omega
  | 4, _ => by simp [be8, be4, Nat.shiftRight_eq_div_pow]; omega
  | 5, _ => by simp [be8, be4, Nat.shiftRight_eq_div_pow]; omega
  | 6, _ => by simp [be8, be4, Nat.shiftRight_eq_div_pow]; omega
  | 7, _ => by simp [be8, be4]
  | k + 8, h => by omega

set_option maxRecDepth 20000 in
set_option maxHeartbeats 800000 in
theorem padded_any (w : World) (v : Value) (l : List UInt8) (h : Sl w v l) (hl : l.length ≤ 1048576) :
    Calls Tryd.prog 139 #[v] w fun e w' => ∃ m, m = (l ++ tail l.length).length ∧ e = .returned (.slice (some ⟨w.heap.size, 0, none⟩) m (l.length + 72)) ∧
      w'.ownsRow w.heap.size 5 1 (.slice (some ⟨w.heap.size, 0, none⟩) m (l.length + 72)) m (bc (l ++ tail l.length)) ∧ Below w.heap.size w w' ∧ w.heap.size < w'.heap.size := by
  have h' := h
  obtain ⟨ao, cap, rfl, h1, h2, h3, h4⟩ := h'
  clear h4
  obtain ⟨i0, hi, hz0, hz1, hz2⟩ := info_parts Tryd.infoB
  go_enter Tryd.func139, Tryd.ntmps139
  go_wp2_with (first
    | (at_make; refine wpList_make_own _ rfl _ _ 71 rfl w.heap.size 5 i0 (.int .u8 0) 1 Tryd.underlying71 hi hz0 hz1 .i64 .i64 _ (l.length + 72) rfl rfl (by omega) (by rw [hz2]; omega) (by unfold maxLen; omega) (Nat.le_refl _) ?_; intro w1 hown1 hgrow1)
    | (at_builtin; refine wpList_append_fits_any _ rfl (.tmp 10) (.tmp 11) 71 rfl w.heap.size 5 i0 1 Tryd.underlying71 hi hz1 w.heap.size 0 (l.length + 72) [] rfl hown1 ao l.length cap (bc l) rfl (by rw [bc_length, Nat.mul_one]) (by intro hn; have := h3 hn; omega) (h.cells ((Below.refl _ _).grown hgrow1 (Nat.le_refl _) (by intro k hk; cases hk))) (bc_one l) (by omega) ?_; intro w2 hown2 hgrow2; simp only [Nat.zero_add, List.nil_append] at hown2)
    | (at_builtin; refine wpList_append_fits _ rfl (.tmp 13) (.tmp 14) 71 rfl w.heap.size 5 i0 1 Tryd.underlying71 hi hz1 w.heap.size l.length (l.length + 72) (bc l) rfl (hown2.alloc _) ⟨w2.heap.size, 0, none⟩ 1 1 (bc [128]) rfl rfl ?c1 (bc_one _) (by omega) ?_))
  case c1 =>
    intro j x hj
    match j, hj with
    | 0, hj => simp [bc] at hj; subst hj; simp [Addr.add_lit]
  intro w3 hown3 hgrow3
  have hb3 : Below w.heap.size w w3 := ((((Below.refl _ _).grown hgrow1 (Nat.le_refl _) (by intro k hk; cases hk)).grown hgrow2 hgrow1.size (by intro k hk; injection hk with hk; omega)).alloc (Nat.le_trans hgrow1.size hgrow2.size) _).grown hgrow3 (by have := hgrow1.size; have := hgrow2.size; simp; omega) (by intro k hk; injection hk with hk; omega)
  rw [← bc_append] at hown3
  clear hgrow1 hgrow2 hgrow3 hown1 hown2
  go_wp2_with fail
  obtain ⟨N, hN⟩ : ∃ N, N = (119 - l.length % 64) % 64 := ⟨_, rfl⟩
  have hT := tail_eq l.length
  rw [← hN] at hT
  have HT := hide hT
  have HN := hide hN
  have hN64 : N < 64 := by omega
  clear hT hN h
  go_loopw [3] (fun v wr => ∃ z m : Nat, z ≤ N ∧ m = l.length + 1 + z ∧ v = .slice (some ⟨w.heap.size, 0, none⟩) m (l.length + 72) ∧
      wr.ownsRow w.heap.size 5 1 (.slice (some ⟨w.heap.size, 0, none⟩) m (l.length + 72)) m (bc (l ++ 128 :: List.replicate z 0)) ∧ Below w.heap.size w wr)
    (fun v _ => l.length + 65 - lenV v)
  case atStart => exact ⟨0, l.length + 1, by omega, rfl, rfl, hown3, hb3⟩
  case round =>
    clear hown3 hb3
    obtain ⟨z, m, hz, hm, rfl, hown, hb⟩ := hrel
    have hmod : ((m : Nat) : Int).tmod 64 = ((m % 64 : Nat) : Int) := by rw [Int.tmod_eq_emod_of_nonneg (by omega)]; omega
    by_cases hlt : z < N
    · have hne : m % 64 ≠ 56 := by have := HN.out; omega
      have hm64 : m % 64 < 64 := Nat.mod_lt _ (by omega)
      generalize m % 64 = r at *
      have HM := hide hm
      have hmc : m + 1 ≤ l.length + 72 := by omega
      have hml : m < 2000000 := by omega
      clear hm
      go_wp2_with (at_builtin; refine wpList_append_fits _ rfl (.tmp 20) (.tmp 21) 71 rfl w.heap.size 5 i0 1 Tryd.underlying71 hi hz1 w.heap.size m (l.length + 72) _ rfl (hown.alloc _) ⟨wr.heap.size, 0, none⟩ 1 1 (bc [0]) rfl rfl ?c1 (bc_one _) hmc ?_)
      case c1 =>
        intro j x hj
        match j, hj with
        | 0, hj => simp [bc] at hj; subst hj; simp [Addr.add_lit]
      intro w4 hown4 hgrow4
      have hb4 := (hb.alloc hb.size (.cells #[.int .u8 0] 5)).grown hgrow4 (by have := hb.size; simp; omega) (by intro k hk; injection hk with hk; omega)
      have hown4' : w4.ownsRow w.heap.size 5 1 (.slice (some ⟨w.heap.size, 0, none⟩) (m + 1) (l.length + 72)) (m + 1) (bc (l ++ 128 :: List.replicate (z + 1) 0)) := by
        rw [List.replicate_succ', ← List.cons_append, ← List.append_assoc, bc_append]
        exact hown4
      have HO := hide hown4'
      have HB := hide hb4
      clear hown hgrow4 hown4 hown4' hb hb4
      go_wp2
      go_roundw
      case rel => exact ⟨z + 1, m + 1, by omega, by have := HM.out; omega, rfl, HO.out, HB.out⟩
      case measure => simp [lenV]; have := HM.out; omega
    · obtain rfl : z = N := by omega
      have h56 : m % 64 = 56 := by have := HN.out; omega
      rw [h56] at hmod
      have HM := hide hm
      have hml : m + 8 ≤ l.length + 72 := by omega
      have hml2 : m < 2000000 := by omega
      have HO := hide hown
      have HB := hide hb
      clear hm h56 hown hb
      have hX : l ++ tail l.length = (l ++ 128 :: List.replicate z 0) ++ be8 l.length := by rw [HT.out]; simp
      have hXl : (l ++ 128 :: List.replicate z 0).length = m := by have := HM.out; simp; omega
      have HX := hide hX
      have HXL := hide hXl
      clear hX hXl
      generalize l ++ 128 :: List.replicate z 0 = X at *
      go_wp2_with fail
      go_loopw [3, 5] (fun v t wr => ∃ k mk : Nat, k ≤ 8 ∧ mk = m + k ∧ t = .int .i64 k ∧ v = .slice (some ⟨w.heap.size, 0, none⟩) mk (l.length + 72) ∧
          wr.ownsRow w.heap.size 5 1 (.slice (some ⟨w.heap.size, 0, none⟩) mk (l.length + 72)) mk (bc (X ++ (be8 l.length).take k)) ∧ Below w.heap.size w wr)
        (fun _ t _ => 8 - (intOf t).toNat)
      case atStart => exact ⟨0, m, by omega, rfl, rfl, rfl, by simpa using HO.out, HB.out⟩
      case round =>
        clear HO HB
        obtain ⟨k, mk, hk, hmk, rfl, rfl, hown, hb⟩ := hrel
        by_cases hlt : k < 8
        · have hv := be8_get l.length hl k hlt
          have htk : (be8 l.length).take (k + 1) = (be8 l.length).take k ++ [(be8 l.length).getD k 0] := by
            have hlt' : k < (be8 l.length).length := by rw [be8_length]; exact hlt
            rw [List.take_succ_eq_append_getElem hlt', List.getD_eq_getElem?_getD, List.getElem?_eq_getElem hlt']
            rfl
          have HTK := hide htk
          clear htk
          generalize (be8 l.length).getD k 0 = c at *
          have hmc : mk + 1 ≤ l.length + 72 := by omega
          have HMK := hide hmk
          clear hmk
          go_wp2_with (at_builtin; refine wpList_append_fits _ rfl (.tmp 31) (.tmp 38) 71 rfl w.heap.size 5 i0 1 Tryd.underlying71 hi hz1 w.heap.size mk (l.length + 72) _ rfl (hown.alloc _) ⟨wr.heap.size, 0, none⟩ 1 1 (bc [c]) rfl rfl ?c1 (bc_one _) hmc ?_)
          case c1 =>
            intro j x hj
            match j, hj with
            | 0, hj => simp [bc] at hj; subst hj; simp [Addr.add_lit]
          intro w4 hown4 hgrow4
          have hb4 := (hb.alloc hb.size (.cells #[.int .u8 (c.toNat : Int)] 5)).grown hgrow4 (by have := hb.size; simp; omega) (by intro k hk; injection hk with hk; omega)
          rw [← bc_append, List.append_assoc, ← HTK.out] at hown4
          have HO := hide hown4
          have HB := hide hb4
          clear hown hgrow4 hown4 hb hb4 hv
          go_wp2
          go_roundw
          case rel => exact ⟨k + 1, mk + 1, by omega, by have := HMK.out; omega, by go_num, rfl, HO.out, HB.out⟩
          case measure => simp [intOf]; omega
        · obtain rfl : k = 8 := by omega
          rw [List.take_of_length_le (by rw [be8_length]; omega), ← HX.out] at hown
          have HMK := hide hmk
          have HO := hide hown
          have hls : w.heap.size < wr.heap.size := by
            obtain ⟨_, hv⟩ := hown.lt w.heap.size rfl
            exact hv
          clear hmk hown
          go_wp2
          go_ret
          exact ⟨mk, by rw [HX.out, List.length_append, HXL.out, be8_length]; exact HMK.out, rfl, HO.out, hb, hls⟩
end Go.Proofs.YtdbmngbinhemeabDoor
