/-
  A fan, looked at by the reference. Conditions: its parts lie there.
-/
import Derived.Test.YtokebnkgjchfaaaGreatDoorS13OEntry2
namespace Go.Proofs.YtokebnkgjchfaaaGreatDoor
open Go.RowKit

/-- A part, as the reference looks at it. -/
def rpartOk (p : Part) : Bool := isIdB p.1 && decide (1 ≤ p.2) && decide (p.2 ≤ 262144)
theorem sum_ge {xs : List Int} (h : ∀ x ∈ xs, 1 ≤ x) : ∀ x ∈ xs, x ≤ xs.sum := by
  induction xs with
  | nil => intro x hx; simp at hx
  | cons y ys ih =>
    have h1 := ih (fun x hx => h x (by simp [hx]))
    have hy := h y (by simp)
    have h0 : ∀ zs : List Int, (∀ x ∈ zs, 1 ≤ x) → 0 ≤ zs.sum := by
      intro zs
      induction zs with
      | nil => intro _; simp
      | cons z zs ih2 => intro g; have g1 := ih2 (fun x hx => g x (by simp [hx])); have g2 := g z (by simp); simp; omega
    have h2 := h0 ys (fun x hx => h x (by simp [hx]))
    intro x hx
    rw [List.sum_cons]
    rcases List.mem_cons.1 hx with rfl | hx
    · omega
    · have := h1 x hx; omega
theorem within_alike (xs : List Int) (m : Int) (hm : 0 ≤ m) : within xs m = (xs.all (fun n => decide (1 ≤ n) && decide (n ≤ m)) && decide (xs.sum ≤ m)) := by
  rw [Bool.eq_iff_iff, within_iff xs m hm]
  simp only [Bool.and_eq_true, List.all_eq_true, decide_eq_true_eq]
  constructor
  · rintro ⟨h1, h2⟩
    exact ⟨fun x hx => ⟨h1 x hx, by have := sum_ge h1 x hx; omega⟩, h2⟩
  · rintro ⟨h1, h2⟩
    exact ⟨fun x hx => (h1 x hx).1, h2⟩
theorem fanOk_alike (f : Fan) (h : levelB f.1 = true) (h1 : 1 ≤ f.2.length) (h2 : f.2.length ≤ 32) : fanOk f = (f.2.all rpartOk && decide ((f.2.map (·.2)).sum ≤ 262144)) := by
  unfold fanOk
  rw [within_alike _ _ (by omega), h, decide_eq_true (show 1 ≤ f.2.length ∧ f.2.length ≤ 32 from ⟨h1, h2⟩)]
  rw [Bool.eq_iff_iff]
  simp only [rpartOk, Bool.and_eq_true, List.all_eq_true, decide_eq_true_eq, List.mem_map, forall_exists_index, and_imp]
  constructor
  · rintro ⟨⟨_, g1⟩, g2, g3⟩
    exact ⟨fun x hx => ⟨⟨g1 x hx, (g2 _ x hx rfl).1⟩, (g2 _ x hx rfl).2⟩, g3⟩
  · rintro ⟨g1, g2⟩
    exact ⟨⟨by simp, fun x hx => (g1 x hx).1.1⟩, fun n x hx e => by subst e; exact ⟨(g1 x hx).1.2, (g1 x hx).2⟩, g2⟩
theorem sum_step (xs : List Part) (k : Nat) (h : k < xs.length) : ((xs.take (k + 1)).map (·.2)).sum = ((xs.take k).map (·.2)).sum + xs[k].2 := by
  rw [List.take_succ_eq_append_getElem h, List.map_append, List.sum_append]
  simp only [List.map_cons, List.map_nil, List.sum_cons, List.sum_nil, Int.add_zero]
theorem sum_small (xs : List Part) (k : Nat) (hk : k ≤ 32) (h : (xs.take k).all rpartOk = true) : 0 ≤ ((xs.take k).map (·.2)).sum ∧ ((xs.take k).map (·.2)).sum ≤ 262144 * 32 := by
  have key : ∀ ys : List Part, ys.all rpartOk = true → 0 ≤ (ys.map (·.2)).sum ∧ (ys.map (·.2)).sum ≤ 262144 * ys.length := by
    intro ys
    induction ys with
    | nil => intro _; simp
    | cons y ys ih =>
      intro g
      simp only [List.all_cons, Bool.and_eq_true] at g
      have g1 := ih g.2
      have g2 := g.1
      unfold rpartOk at g2
      simp only [Bool.and_eq_true, decide_eq_true_eq] at g2
      simp only [List.map_cons, List.sum_cons, List.length_cons]
      omega
  have h1 := key _ h
  have h2 : (xs.take k).length ≤ k := by rw [List.length_take]; omega
  omega
set_option maxRecDepth 20000 in
set_option maxHeartbeats 1600000 in
theorem rfanRight_any (w : World) (f : Fan) (v : Value) (hv : Ls w.heap.size w 2 partC v f.2) :
    Calls Tryz.prog 58 #[.agg #[.int .i64 f.1, v]] w fun e w' => e = .returned (.bool (fanOk f)) ∧ Below w.heap.size w w' := by
  have hb0 : Below w.heap.size w (w.alloc (.cells #[.int .i64 f.1, v] 90)) := (Below.refl _ _).alloc (Nat.le_refl _) _
  have x0 := heap_last w (.cells #[.int .i64 f.1, v] 90) _ rfl
  have hv0 := hv.keep hb0
  obtain ⟨lv, xs⟩ := f
  simp only at *
  obtain ⟨ao, cap, rfl, g1, g2, h4⟩ := hv0
  unfold maxLen at g2
  have c0 := rc (i := 0) x0 rfl
  have c1 := rc (i := 1) x0 rfl
  clear hv
  generalize hw0 : w.alloc (.cells #[.int .i64 lv, .slice ao xs.length cap] 90) = w0 at *
  have HW := hide hw0
  clear hw0
  by_cases ha : lv < 1
  · have hok : fanOk (lv, xs) = false := by unfold fanOk levelB; simp; omega
    rw [hok]
    go_enter Tryz.func58, Tryz.ntmps58
    go_wp2_with fail
    try rw [HW.out]
    go_wp2
    go_ret
    exact ⟨rfl, hb0⟩
  by_cases hb : 20 < lv
  · have hok : fanOk (lv, xs) = false := by unfold fanOk levelB; simp; omega
    rw [hok]
    go_enter Tryz.func58, Tryz.ntmps58
    go_wp2_with fail
    try rw [HW.out]
    go_wp2
    go_ret
    exact ⟨rfl, hb0⟩
  by_cases hc : xs.length < 1
  · have hok : fanOk (lv, xs) = false := by unfold fanOk levelB; simp; omega
    rw [hok]
    go_enter Tryz.func58, Tryz.ntmps58
    go_wp2_with fail
    try rw [HW.out]
    go_wp2
    go_ret
    exact ⟨rfl, hb0⟩
  by_cases hd : 32 < xs.length
  · have hok : fanOk (lv, xs) = false := by unfold fanOk levelB; simp; omega
    rw [hok]
    go_enter Tryz.func58, Tryz.ntmps58
    go_wp2_with fail
    try rw [HW.out]
    go_wp2
    go_ret
    exact ⟨rfl, hb0⟩
  have hok := fanOk_alike (lv, xs) (by unfold levelB; simp; omega) (by simp only; omega) (by simp only; omega)
  simp only at hok
  rw [hok]
  clear hok
  go_enter Tryz.func58, Tryz.ntmps58
  go_wp2_with fail
  try rw [HW.out]
  go_wp2_with fail
  go_loopw [3, 4] (fun s t wr => ∃ k : Nat, k ≤ xs.length ∧ t = .int .i64 k ∧ s = .int .i64 ((xs.take k).map (·.2)).sum ∧ (xs.take k).all rpartOk = true ∧ wr = w0)
    (fun _ t _ => xs.length - (intOf t).toNat)
  case atStart => exact ⟨0, by omega, rfl, by simp, by simp, rfl⟩
  case round =>
    obtain ⟨k, hk, rfl, rfl, hall, rfl⟩ := hrel
    have HA := hide hall
    by_cases hlt : k < xs.length
    · obtain ⟨b, off, rfl, hbB, hcl⟩ := h4 (by rintro rfl; simp at hlt)
      have hst := all_step rpartOk xs k hlt HA.out
      have hno := all_false rpartOk xs k hlt
      have hsm := sum_small xs k (by omega) HA.out
      have hss := sum_step xs k hlt
      have k0 := hcl k hlt 0 _ rfl
      have k1 := hcl k hlt 1 _ rfl
      simp only [Nat.add_zero] at k0
      have SS := hide hss
      clear hss hcl h4 hall
      generalize xs[k] = x at *
      generalize ((xs.take k).map (·.2)).sum = S at *
      have HST := hide hst
      have HNO := hide hno
      clear hst hno
      have hbad : (isIdB x.1 = false ∨ x.2 < 1 ∨ 262144 < x.2) → rpartOk x = false := by
        intro h
        unfold rpartOk
        rcases h with h | h | h
        · rw [h]; rfl
        · rw [decide_eq_false (by omega : ¬ 1 ≤ x.2)]; simp
        · rw [decide_eq_false (by omega : ¬ x.2 ≤ 262144)]; simp
      by_cases q0 : isIdB x.1 = true
      · by_cases q1 : x.2 < 1
        · have hf := hbad (.inr (.inl q1))
          clear hbad
          go_wp2_with fail
          refine (risId_any _ x.1).mono ?_
          rintro e w2 ⟨rfl, rfl⟩
          rw [q0]
          go_wp2
          go_ret
          exact ⟨ret_bool (by rw [← HNO.out hf]; rfl), hb0⟩
        · by_cases q2 : 262144 < x.2
          · have hf := hbad (.inr (.inr q2))
            clear hbad
            go_wp2_with fail
            refine (risId_any _ x.1).mono ?_
            rintro e w2 ⟨rfl, rfl⟩
            rw [q0]
            go_wp2
            go_ret
            exact ⟨ret_bool (by rw [← HNO.out hf]; rfl), hb0⟩
          · have hf : rpartOk x = true := by unfold rpartOk; rw [q0, decide_eq_true (by omega : 1 ≤ x.2), decide_eq_true (by omega : x.2 ≤ 262144)]; rfl
            clear hbad
            have hwr : IntKind.i64.wrap (S + x.2) = S + x.2 := by rw [IntKind.wrap_i64]; omega
            go_wp2_with fail
            refine (risId_any _ x.1).mono ?_
            rintro e w2 ⟨rfl, rfl⟩
            rw [q0]
            go_wp2
            go_roundw
            case rel => exact ⟨k + 1, by omega, by go_num, by rw [SS.out], HST.out hf, trivial⟩
            case measure => simp [intOf]; omega
      · have q0 := Bool.eq_false_iff.2 q0
        have hf := hbad (.inl q0)
        clear hbad
        go_wp2_with fail
        refine (risId_any _ x.1).mono ?_
        rintro e w2 ⟨rfl, rfl⟩
        rw [q0]
        go_wp2
        go_ret
        exact ⟨ret_bool (by rw [← HNO.out hf]; rfl), hb0⟩
    · obtain rfl : k = xs.length := by omega
      have ht := HA.out
      rw [List.take_length] at ht
      clear hall
      rw [List.take_length]
      go_wp2
      go_ret
      exact ⟨ret_bool (by rw [ht]; simp), hb0⟩
end Go.Proofs.YtokebnkgjchfaaaGreatDoor
