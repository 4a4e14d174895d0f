/-
  What the laws' shown and few answer. Conditions: the texts lie there.
-/
import Derived.Test.YtkihldkaiddbkaaCIns
namespace Go.Proofs.Ytkihldkaiddbkaa
open Go.RowKit

/-- Where a slice's texts lie. -/
theorem Ts.allS {w : World} {ao : Option Addr} {n cap : Nat} {xs : List Bs} (h : Ts w (.slice ao n cap) xs) (hne : 0 < xs.length) :
    ∃ b off, ao = some ⟨b, off, none⟩ ∧ b < w.heap.size ∧ ∀ k (hk : k < xs.length), w.cell? ⟨b, off + k, none⟩ = some (.string (strB xs[k])) := by
  obtain ⟨ao', cap', e, h1, h2, h4⟩ := h
  injection e with e1 e2 e3
  subst e1
  exact h4 (by rintro rfl; simp at hne)
/-- Four texts, laid anew. -/
theorem ts_four (w : World) (a b c d : Bs) : Ts (w.alloc (.cells #[.string (strB a), .string (strB b), .string (strB c), .string (strB d)] 9)) (.slice (some ⟨w.heap.size, 0, none⟩) 4 4) [a, b, c, d] := by
  refine ⟨_, 4, rfl, by simp, by unfold maxLen; omega, fun _ => ⟨_, _, rfl, by simp, fun j hj => ?_⟩⟩
  have h := heap_last w (.cells #[.string (strB a), .string (strB b), .string (strB c), .string (strB d)] 9)
  rw [cell_of h]
  have hj' : j < 4 := by simpa using hj
  rcases j with _ | _ | _ | _ | j
  · rfl
  · rfl
  · rfl
  · rfl
  · omega
theorem shown_form : Pt.ofM [[98], [97, 47, 99], [97, 47, 99, 47, 100], [98]] = ([[97, 47, 99], [98]], 0) := by decide +kernel
theorem shown_has : Pt.hasM [[97, 47, 99], [98]] [97, 47, 120] = true := by decide +kernel
theorem shown_not : Pt.hasM [[97, 47, 99], [98]] [97, 47, 98, 47, 120] = false := by decide +kernel

set_option maxRecDepth 20000 in
theorem shown_any (w : World) : Calls Try.prog 9 #[] w fun e w' => e = .returned (.bool true) ∧ Below w.heap.size w w' := by
  have hT := ts_four w [98] [97, 47, 99] [97, 47, 99, 47, 100] [98]
  have hb0 : Below w.heap.size w (w.alloc (.cells #[.string (strB [98]), .string (strB [97, 47, 99]), .string (strB [97, 47, 99, 47, 100]), .string (strB [98])] 9)) := (Below.refl _ w).alloc (Nat.le_refl _) _
  have hO := of_any _ _ _ hT (by simp) (by intro x hx; simp at hx; rcases hx with rfl | rfl | rfl | rfl <;> simp)
  rw [shown_form] at hO
  have HO := hide hO
  clear hO hT
  go_enter Try.func9, Try.ntmps9
  go_wp2_with fail
  refine (HO.out).mono ?_
  rintro e w1 ⟨u, rfl, hu, hb1⟩
  have hB1 := hb0.trans (hb1.mono hb0.size)
  have ht := ts_of_own hu
  have h1 := fun W (hW : Below w1.heap.size w1 W) => has_any W u _ [97, 47, 120] (ht.keep hW) (by simp) (by intro x hx; simp at hx; rcases hx with rfl | rfl <;> simp)
  have h2 := fun W (hW : Below w1.heap.size w1 W) => has_any W u _ [97, 47, 98, 47, 120] (ht.keep hW) (by simp) (by intro x hx; simp at hx; rcases hx with rfl | rfl <;> simp)
  rw [shown_has] at h1
  rw [shown_not] at h2
  obtain ⟨uo, uc, rfl⟩ := own_shape hu
  obtain ⟨b, off, rfl, hb, hc⟩ := Ts.allS ht (by simp)
  have c0 := hc 0 (by simp)
  have c1 := hc 1 (by simp)
  simp only [List.getElem_cons_zero, List.getElem_cons_succ, Nat.add_zero] at c0 c1
  have t0 := toL [97, 47, 99]
  have t1 := toL [98]
  clear hc ht hu
  go_wp2_with fail
  refine (h1 _ (Below.refl _ _)).mono ?_
  rintro e w2 ⟨rfl, hb2⟩
  go_wp2_with fail
  refine (h2 _ hb2).mono ?_
  rintro e w3 ⟨rfl, hb3⟩
  have HB := hide (hB1.trans ((hb2.trans (hb3.mono hb2.size)).mono hB1.size))
  clear hb2 hb3 h1 h2
  go_wp2
  go_ret
  exact ⟨rfl, HB.out⟩

/-- The first two hundred. -/
theorem few_le (xs : List Bs) : (xs.take 200).length ≤ 200 := by rw [List.length_take]; omega
theorem ts_few {w : World} {ao : Option Addr} {cap : Nat} {xs : List Bs} (hT : Ts w (.slice ao xs.length cap) xs) : Ts w (.slice ao (min xs.length 200) cap) (xs.take 200) := by
  have h3 := hT.takeT (z := min xs.length 200) (by omega)
  have : xs.take (min xs.length 200) = xs.take 200 := by
    by_cases hle : xs.length ≤ 200
    · rw [List.take_of_length_le (by omega), List.take_of_length_le (by omega)]
    · rw [show min xs.length 200 = 200 by omega]
  rwa [this] at h3
set_option maxRecDepth 20000 in
/-- The same part, wherever the texts lie. -/
theorem lfew2_any (w : World) (v : Value) (xs : List Bs) (h : Ts w v xs) (hx : xs.length ≤ 4611686018427387904) :
    Calls Try.prog 10 #[v] w fun e w' => ∃ uo uc, e = .returned (.slice uo (xs.take 200).length uc) ∧ (∀ V, Ts V v xs → Ts V (.slice uo (xs.take 200).length uc) (xs.take 200)) ∧ w' = w := by
  obtain ⟨ao, cap, rfl, h1, h2, -⟩ := h
  have hall : ∀ V, Ts V (.slice ao xs.length cap) xs → Ts V (.slice ao (min xs.length 200) cap) (xs.take 200) := fun V hV => ts_few hV
  have hlen : (xs.take 200).length = min xs.length 200 := by rw [List.length_take]; omega
  rw [hlen]
  obtain ⟨n, hn⟩ : ∃ n, n = min xs.length 200 := ⟨_, rfl⟩
  rw [← hn] at hall ⊢
  have HA := hide hall
  have hni : min (xs.length : Int) 200 = (n : Int) := by omega
  have hnc : n ≤ cap := by omega
  clear hall hn hlen
  go_enter Try.func10, Try.ntmps10
  go_wp2_with fail
  go_ret
  exact ⟨_, _, rfl, HA.out, rfl⟩
theorem lfew_any (w : World) (v : Value) (xs : List Bs) (h : Ts w v xs) (hx : xs.length ≤ 4611686018427387904) :
    Calls Try.prog 10 #[v] w fun e w' => ∃ u, e = .returned u ∧ Ts w u (xs.take 200) ∧ w' = w :=
  (lfew2_any w v xs h hx).mono fun _ _ ⟨_, _, he, hT, hw⟩ => ⟨_, he, hT w h, hw⟩
theorem mem_few {xs : List Bs} (hl : ∀ x ∈ xs, x.length ≤ 4611686018427387000) : ∀ x ∈ xs.take 200, x.length ≤ 4611686018427387000 := fun x hx => hl x (List.mem_of_mem_take hx)
end Go.Proofs.Ytkihldkaiddbkaa
