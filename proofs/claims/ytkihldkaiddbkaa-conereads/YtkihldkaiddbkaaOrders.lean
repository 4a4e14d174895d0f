/-
  The document's own order, and PathOrders' walk. Conditions: lengths within reach.
-/
import Derived.Test.YtkihldkaiddbkaaOrder
namespace Go.Proofs.Ytkihldkaiddbkaa
open Go.RowKit

theorem rank_lo (c : UInt8) : -1 ≤ Pt.rank c ∧ Pt.rank c < 256 := by
  unfold Pt.rank
  have := c.toNat_lt
  split <;> omega
set_option maxRecDepth 20000 in
theorem rrank_any (w : World) (c : UInt8) : Calls Try.prog 54 #[.int .u8 (c.toNat : Int)] w fun e w' => e = .returned (.int .i64 (Pt.rank c)) ∧ w' = w := by
  unfold Pt.rank
  have hc3 := c.toNat_lt
  by_cases hc : c = 47
  · subst hc
    go_enter Try.func54, Try.ntmps54
    go_wp2
    go_ret
    exact ⟨rfl, rfl⟩
  · have hc2 : ¬ (c.toNat : Int) = 47 := fun e => hc (UInt8.toNat_inj.1 (by simpa using Int.ofNat.inj e))
    rw [if_neg hc]
    go_enter Try.func54, Try.ntmps54
    go_wp2
    go_ret
    exact ⟨rfl, rfl⟩

theorem ord_bytes {k : Nat} {a b : List UInt8} (ha : k < a.length) (hb : k < b.length) (he : ∀ j, j < k → a[j]? = b[j]?) (hne : Pt.rank a[k] ≠ Pt.rank b[k]) : Pt.order a b = if Pt.rank a[k] < Pt.rank b[k] then -1 else 1 := by
  have h := Pt.order_at k a b (by omega) (by omega) he (fun _ _ e => hne (by simp [ha, hb] at e; rw [e]))
  have r1 : Pt.rk a k = Pt.rank a[k] := by simp [Pt.rk, ha]
  have r2 : Pt.rk b k = Pt.rank b[k] := by simp [Pt.rk, hb]
  rw [← h, r1, r2]
  unfold Lib.compareInt
  by_cases hl : Pt.rank a[k] < Pt.rank b[k]
  · rw [if_pos hl, if_pos hl]
  · rw [if_neg hl, if_neg hl, if_pos (by omega)]
theorem ord_end {k : Nat} {a b : List UInt8} (ha : k ≤ a.length) (hb : k ≤ b.length) (he : ∀ j, j < k → a[j]? = b[j]?) (hn : ¬ (k < a.length ∧ k < b.length)) :
    Pt.order a b = if a.length < b.length then -1 else if b.length < a.length then 1 else 0 := by
  have h := Pt.order_at k a b ha hb he (fun x y => absurd ⟨x, y⟩ hn)
  rw [← h]
  unfold Lib.compareInt
  by_cases h1 : k < a.length
  · have h2 : b.length = k := by omega
    have r1 : Pt.rk a k = Pt.rank a[k] := by simp [Pt.rk, h1]
    have r2 : Pt.rk b k = -2 := by simp [Pt.rk, h2]
    have := rank_lo a[k]
    rw [r1, r2, if_neg (by omega), if_pos (by omega), if_neg (by omega), if_pos (by omega)]
  · have h1' : a.length = k := by omega
    have r1 : Pt.rk a k = -2 := by simp [Pt.rk, h1']
    by_cases h2 : k < b.length
    · have r2 : Pt.rk b k = Pt.rank b[k] := by simp [Pt.rk, h2]
      have := rank_lo b[k]
      rw [r1, r2, if_pos (by omega), if_pos (by omega)]
    · have r2 : Pt.rk b k = -2 := by simp [Pt.rk, show b.length = k by omega]
      rw [r1, r2, if_neg (by omega), if_neg (by omega), if_neg (by omega), if_neg (by omega)]

set_option maxRecDepth 20000 in
theorem rcompare_any (w : World) (a b : List UInt8) (ha : a.length ≤ 4611686018427387904) (hb : b.length ≤ 4611686018427387904) :
    Calls Try.prog 33 #[.string (strB a), .string (strB b)] w fun e w' => e = .returned (.int .i64 (Pt.order a b)) ∧ w' = w := by
  have ea := strB_size a
  have eb := strB_size b
  go_enter Try.func33, Try.ntmps33
  go_wp2
  go_loopw [5, 4] (fun v r wr => ∃ k : Nat, v = .int .i64 (k : Int) ∧ r = .int .i64 0 ∧ k ≤ a.length ∧ k ≤ b.length ∧ (∀ j, j < k → a[j]? = b[j]?) ∧ wr = w)
    (fun v _ _ => a.length - (intOf v).toNat)
  case atStart => exact ⟨0, rfl, rfl, by omega, by omega, (fun j hj => by omega), rfl⟩
  case round =>
    obtain ⟨k, rfl, rfl, h1, h2, h3, rfl⟩ := hrel
    by_cases hlt : k < a.length ∧ k < b.length
    · obtain ⟨ka, kb⟩ := hlt
      have hia := fun W => index_str 9 (.inl rfl) W a .i64 k ka
      have hib := fun W => index_str 9 (.inl rfl) W b .i64 k kb
      have na : a[k]? = some a[k] := by simp [ka]
      have nb : b[k]? = some b[k] := by simp [kb]
      have ho := ord_bytes ka kb h3
      generalize a[k] = c at *
      generalize b[k] = d at *
      rcases Int.lt_trichotomy (Pt.rank c) (Pt.rank d) with hcd | hcd | hcd
      · have ho := ho (by omega)
        rw [if_pos hcd] at ho
        go_wp2_with fail
        refine (rrank_any _ c).mono ?_
        rintro e w1 ⟨rfl, rfl⟩
        go_wp2_with fail
        refine (rrank_any _ d).mono ?_
        rintro e w2 ⟨rfl, rfl⟩
        go_wp2
        go_ret
        exact ⟨ret_int ho.symm, rfl⟩
      · have hcc : c = d := Pt.rank_inj hcd
        subst hcc
        clear ho hcd
        go_wp2_with fail
        refine (rrank_any _ c).mono ?_
        rintro e w1 ⟨rfl, rfl⟩
        go_wp2_with fail
        refine (rrank_any _ c).mono ?_
        rintro e w2 ⟨rfl, rfl⟩
        go_wp2_with fail
        refine ⟨⟨k + 1, by go_num, rfl, by omega, by omega, (fun j hj => ?_), trivial⟩, by simp [intOf]; omega⟩
        by_cases hjk : j = k
        · subst hjk; rw [na, nb]
        · exact h3 j (by omega)
      · have ho := ho (by omega)
        rw [if_neg (by omega)] at ho
        go_wp2_with fail
        refine (rrank_any _ c).mono ?_
        rintro e w1 ⟨rfl, rfl⟩
        go_wp2_with fail
        refine (rrank_any _ d).mono ?_
        rintro e w2 ⟨rfl, rfl⟩
        go_wp2
        go_ret
        exact ⟨ret_int ho.symm, rfl⟩
    · have ho := ord_end h1 h2 h3 hlt
      rcases Nat.lt_trichotomy a.length b.length with hab | hab | hab
      · rw [if_pos hab] at ho
        go_wp2
        go_ret
        exact ⟨ret_int ho.symm, rfl⟩
      · rw [if_neg (by omega), if_neg (by omega)] at ho
        have hab2 : (a.length : Int) = (b.length : Int) := by omega
        go_wp2
        go_ret
        exact ⟨ret_int ho.symm, rfl⟩
      · rw [if_neg (by omega), if_pos hab] at ho
        go_wp2
        go_ret
        exact ⟨ret_int ho.symm, rfl⟩
end Go.Proofs.Ytkihldkaiddbkaa
