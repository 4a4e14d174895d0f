/-
  What rank and Compare answer. Conditions: lengths within reach.
-/
import Derived.Test.YtkihldkaiddbkabSmall
namespace Go.Proofs.Ytkihldkaiddbkab
open Go.RowKit

set_option maxRecDepth 20000 in
theorem rank_any (w : World) (l : List UInt8) (k : Nat) (hk : k ≤ l.length) :
    Calls Try.prog 23 #[.string (strB l), .int .i64 (k : Int)] w fun e w' => e = .returned (.int .i64 (Pt.rk l k)) ∧ w' = w := by
  have hsz := strB_size l
  by_cases h1 : k = l.length
  · subst h1
    go_enter Try.func23, Try.ntmps23
    go_wp2
    go_ret
    exact ⟨ret_int (by simp [Pt.rk]), rfl⟩
  · have h2 : k < l.length := by omega
    have h3 : ¬ (k : Int) = (l.length : Int) := by omega
    have hix := index_str 46 (.inr rfl) w l .i64 k h2
    have hrk : Pt.rk l k = Pt.rank l[k] := by simp [Pt.rk, h2]
    rw [hrk]
    unfold Pt.rank
    generalize l[k] = c at *
    by_cases hc : c = 47
    · subst hc
      go_enter Try.func23, Try.ntmps23
      go_wp2
      go_ret
      exact ⟨rfl, rfl⟩
    · have hc2 : ¬ (c.toNat : Int) = 47 := fun e => hc (UInt8.toNat_inj.1 (by simpa using Int.ofNat.inj e))
      have hc3 := c.toNat_lt
      go_enter Try.func23, Try.ntmps23
      go_wp2
      go_ret
      exact ⟨ret_int (by first | rfl | rw [if_neg hc]), rfl⟩
set_option maxRecDepth 20000 in
theorem compare_any (w : World) (a b : List UInt8) (ha : a.length ≤ 4611686018427387904) (hb : b.length ≤ 4611686018427387904) :
    Calls Try.prog 13 #[.string (strB a), .string (strB b)] w fun e w' => e = .returned (.int .i64 (Pt.order a b)) ∧ Below w.heap.size w w' := by
  have ea := strB_size a
  have eb := strB_size b
  go_enter Try.func13, Try.ntmps13
  go_wp2
  go_loopw [5] (fun v wr => ∃ k : Nat, v = .int .i64 (k : Int) ∧ k ≤ a.length ∧ k ≤ b.length ∧ (∀ j, j < k → a[j]? = b[j]?) ∧ Below w.heap.size w wr)
    (fun v _ => a.length - (intOf v).toNat)
  case atStart => exact ⟨0, rfl, by omega, by omega, (fun j hj => by omega), Below.refl _ _⟩
  case round =>
    obtain ⟨k, rfl, h1, h2, h3, h4⟩ := hrel
    by_cases hlt : k < a.length ∧ k < b.length
    · obtain ⟨ka, kb⟩ := hlt
      have hia := fun W => index_str 9 (.inl rfl) W a .i64 k ka
      have hib := fun W => index_str 9 (.inl rfl) W b .i64 k kb
      have na : a[k]? = some a[k] := by simp [ka]
      have nb : b[k]? = some b[k] := by simp [kb]
      have hm : ((k : Nat) : Int) < min (a.length : Int) (b.length : Int) := by omega
      generalize a[k] = c at *
      generalize b[k] = d at *
      by_cases hcd : c = d
      · subst hcd
        go_wp2_with fail
        go_region
        go_wp2_with fail
        refine ⟨⟨k + 1, by go_num, by omega, by omega, (fun j hj => ?_), h4.drew⟩, by simp [intOf]; omega⟩
        by_cases hjk : j = k
        · subst hjk; rw [na, nb]
        · exact h3 j (by omega)
      · have HO := Pt.order_at k a b h1 h2 h3 (fun _ _ => by rw [na, nb]; simpa using hcd)
        have hcd2 : ¬ (c.toNat : Int) = (d.toNat : Int) := fun e => hcd (UInt8.toNat_inj.1 (Int.ofNat.inj e))
        go_wp2_with fail
        go_region
        go_wp2_with fail
        refine (rank_any _ a k h1).mono ?_
        rintro e w1 ⟨rfl, rfl⟩
        go_wp2_with fail
        refine (rank_any _ b k h2).mono ?_
        rintro e w2 ⟨rfl, rfl⟩
        go_wp2_with fail
        refine (Try.cmp_Compare_int _ _ _).mono ?_
        rintro e w3 ⟨rfl, rfl⟩
        go_wp2
        go_ret
        exact ⟨rfl, h4.drew⟩
    · have HO := Pt.order_at k a b h1 h2 h3 (fun x y => absurd ⟨x, y⟩ hlt)
      have hm : decide (((k : Nat) : Int) < min (a.length : Int) (b.length : Int)) = false := decide_eq_false (by omega)
      go_wp2_with fail
      go_region
      go_wp2_with fail
      refine (rank_any _ a k h1).mono ?_
      rintro e w1 ⟨rfl, rfl⟩
      go_wp2_with fail
      refine (rank_any _ b k h2).mono ?_
      rintro e w2 ⟨rfl, rfl⟩
      go_wp2_with fail
      refine (Try.cmp_Compare_int _ _ _).mono ?_
      rintro e w3 ⟨rfl, rfl⟩
      go_wp2
      go_ret
      exact ⟨rfl, h4.drew⟩
end Go.Proofs.Ytkihldkaiddbkab
