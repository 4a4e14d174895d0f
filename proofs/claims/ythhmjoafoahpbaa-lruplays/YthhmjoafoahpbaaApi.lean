/-
  keys; Get, Put, Drop, Keys, Bytes, New of a cache, and of none. Conditions: lengths within reach, few texts.
-/
import Derived.Test.YthhmjoafoahpbaaKeys
namespace Go.Proofs.Ythhmjoafoahpbaa
open Go.RowKit

theorem neq_of_eql {P : Program} {t : TypeId} {x y : Nat} {w : World} {b : Bool} (h : (binOp .eql t (pt x) (pt y)).run P w = .ok (.bool b) w) : (binOp .neq t (pt x) (pt y)).run P w = .ok (.bool (!b)) w := by
  unfold pt at *
  simp only [binOp] at h ⊢
  cases h' : (Op.equal t (.pointer (some ⟨x, 0, none⟩)) (.pointer (some ⟨y, 0, none⟩))).run P w with
  | ok v w' =>
    simp [h', Result.andThen] at h ⊢
    exact h
  | _ => simp [h', Result.andThen] at h
theorem ns_get (ts : List Ht) (i : Nat) (h : i < ts.length) : (ns ts).getD i 0 = (ts[i]).1 := by
  unfold ns
  rw [List.getD_eq_getElem?_getD, List.getElem?_map, List.getElem?_eq_getElem h]
  rfl
theorem kv_get (ts : List Ht) (i : Nat) (h : i < ts.length) : ((kv ts).map (·.1))[i]? = some (ts[i]).2.1 := by
  unfold kv
  rw [List.getElem?_map, List.getElem?_map, List.getElem?_eq_getElem h]
  rfl
theorem take_more {l : List Bs} {j : Nat} (h : j < l.length) : l.take j ++ [l[j]] = l.take (j + 1) := by
  rw [List.take_add_one, List.getElem?_eq_getElem h]
  rfl

set_option maxRecDepth 20000 in
set_option maxHeartbeats 1000000 in
/-- keys. -/
theorem keys_ring (w : World) (c : Nat) (ts : List Ht) (bud tx : Value) (o p : Nat → Nat) (h : RingL w c ts bud tx o p) :
    Calls Try.prog 31 #[pt c] w fun r w' => ∃ v, r = .returned v ∧ Own w' w.heap.size v ((kv ts).map (·.1)) ∧ Chg (fun _ => False) w w' := by
  obtain ⟨i0, hi, hz0, hz1, hz2⟩ := info_parts Try.info9
  have c0 := cell_of h.cache 0
  have hfew := h.few
  cases ts with
  | nil =>
    simp [lastv] at c0
    clear h
    unfold pt
    go_enter Try.func31, Try.ntmps31
    go_wp2
    go_ret
    exact ⟨_, rfl, World.ownsRow_nil _ _ _ _, Chg.refl _ _⟩
  | cons x r =>
    simp [lastv, pt] at c0
    have k0 := cell_of (h.cell x (by simp)) 0
    have w1c := heap_past (.cells #[.string (strB x.2.1)] 9) h.cache
    have w1x := heap_past (.cells #[.string (strB x.2.1)] 9) (h.cell x (by simp))
    have d0 := cell_of w1c 0
    have d2 := cell_of w1x 2
    simp [lastv, pt] at k0 d0 d2
    obtain ⟨n, hn⟩ : ∃ n, n = (x :: r).length := ⟨_, rfl⟩
    have hnl : (ns (x :: r)).length = n := by rw [hn]; simp [ns]
    have hkl : ((kv (x :: r)).map (·.1)).length = n := by rw [hn]; simp [kv]
    have hox : o x.1 = (ns (x :: r)).getD (nx n 0) 0 := by
      have := (h.cyc 0 (by simp [ns])).1
      rw [hnl] at this
      exact this
    rw [hox] at d2
    have hown0 : Own (w.alloc (.cells #[.string (strB x.2.1)] 9)) w.heap.size (.slice (some ⟨w.heap.size, 0, none⟩) 1 1) (((kv (x :: r)).map (·.1)).take 1) := World.ownsRow_lit w #[.string (strB x.2.1)] 1 (Nat.le_refl _) (by unfold maxLen; omega) rfl
    have hn1 : 1 ≤ n := by rw [hn]; simp
    have hn2 : n ≤ 1000 := by rw [hn]; exact hfew
    clear hfew
    have HH := hide h
    have HO := hide hown0
    have HN := hide hn
    have HNL := hide hnl
    have HKL := hide hkl
    clear h w1c w1x hown0 hn hnl hkl hox
    generalize hvv : (ns (x :: r)).getD (nx n 0) 0 = nx0 at *
    have HV := hide hvv
    clear hvv
    unfold pt
    go_enter Try.func31, Try.ntmps31
    go_wp2
    go_loopw [3, 4] (fun v t wr => ∃ j, 1 ≤ j ∧ j ≤ n ∧ t = .pointer (some ⟨(ns (x :: r)).getD (nx n (j - 1)) 0, 0, none⟩) ∧ Own wr w.heap.size v (((kv (x :: r)).map (·.1)).take j) ∧ Chg (fun _ => False) w wr)
      (fun v _ _ => n - slen v)
    case atStart => exact ⟨1, Nat.le_refl _, hn1, by rw [HV.out], HO.out, (Chg.refl _ _).alloc _⟩
    case round =>
      obtain ⟨j, hj1, hj2, rfl, hown, hg⟩ := hrel
      obtain ⟨va, vc, rfl⟩ := own_shape hown
      have hlen : (((kv (x :: r)).map (·.1)).take j).length = j := by rw [List.length_take, HKL.out]; omega
      have hr := HH.out.keep hg (fun h => h) (fun _ _ h => h)
      have e0 := cell_of hr.cache 0
      simp [lastv, pt] at e0
      by_cases hjn : j = n
      · subst hjn
        have hz : (ns (x :: r)).getD (nx j (j - 1)) 0 = x.1 := by
          unfold nx
          rw [if_pos (by omega)]
          rfl
        rw [hz]
        have q := neq_of_eql (eql_same wr x.1)
        unfold pt at q
        simp only [Bool.not_true] at q
        have hall : ((kv (x :: r)).map (·.1)).take j = (kv (x :: r)).map (·.1) := List.take_of_length_le (by rw [HKL.out]; exact Nat.le_refl _)
        rw [hall] at hown hlen ⊢
        have HOW := hide hown
        clear hr hown hall hz hlen
        go_wp2
        go_ret
        exact ⟨_, rfl, HOW.out, hg⟩
      · have hjl : j < n := by omega
        have hz : nx n (j - 1) = j := by
          unfold nx
          rw [if_neg (by omega)]
          omega
        rw [hz]
        have hji : j < (ns (x :: r)).length := by rw [HNL.out]; exact hjl
        have hjt : j < (x :: r).length := by rw [← HN.out]; exact hjl
        obtain ⟨e, hE⟩ : ∃ e, e = (x :: r)[j]'hjt := ⟨_, rfl⟩
        have he : e ∈ x :: r := by rw [hE]; exact List.getElem_mem _
        have hej : e.1 = (ns (x :: r)).getD j 0 := by rw [ns_get _ _ hjt, hE]
        have hne : e.1 ≠ x.1 := fun ee => by
          rw [hej] at ee
          have := getD_inj hr.nodup hji (by simp [ns]) (j := 0) ee
          omega
        rw [← hej]
        have q := neq_of_eql (eql_other wr hne (hr.cell e he) (hr.cell x (by simp)))
        unfold pt at q
        simp only [Bool.not_false] at q
        have ke := cell_of (hr.cell e he) 0
        have hkj : ((kv (x :: r)).map (·.1))[j]'(by rw [HKL.out]; exact hjl) = e.2.1 := by
          have h1 := kv_get _ _ hjt
          rw [List.getElem?_eq_getElem (by rw [HKL.out]; exact hjl)] at h1
          rw [hE]
          exact Option.some.inj h1
        have htk := take_more (l := (kv (x :: r)).map (·.1)) (j := j) (by rw [HKL.out]; exact hjl)
        rw [hkj] at htk
        simp at ke
        have oe : o e.1 = (ns (x :: r)).getD (nx n j) 0 := by
          have := (hr.cyc j hji).1
          rw [HNL.out, ← hej] at this
          exact this
        have HRR := hide hr
        have HOW := hide hown
        have HTK := hide htk
        have HE := hide he
        have HOE := hide oe
        have hown2 := hown
        unfold Own at hown2
        rw [hlen] at hown2
        rw [hlen]
        clear hr hown htk he hej hkj oe hz hlen hE
        generalize ((kv (x :: r)).map (·.1)).take j = pre at *
        go_wp2_with (at_builtin; refine wpList_append_own_at _ rfl (.tmp 35) (.tmp 40) 28 rfl w.heap.size 9 i0 (.string ⟨#[]⟩) 1 16 Try.underlying28 hi hz0 hz1 hz2 rfl (by decide) _ _ _ rfl (hown2.alloc _) ⟨wr.heap.size, 0, none⟩ 1 1 [.string (strB e.2.1)] rfl rfl (cell_one_new _ _ _) (by simp [Value.oneCell']) (by unfold maxLen; omega) (by omega) (by have := hg.size; simp; omega) ?_)
        intro v4 w4 hown4 hgrow4 _ _
        have hg4 := grown_chg hown2 hgrow4
        obtain ⟨g4, c4, rfl⟩ := own_shape hown4
        have hg5 : Chg (fun _ => False) w w4 := hg.trans hg4 (fun i hi h => absurd hi (Nat.not_lt.2 h))
        have hr4 := HH.out.keep hg5 (fun h => h) (fun _ _ h => h)
        have oc := cell_of (hr4.cell e HE.out) 2
        simp [pt] at oc
        rw [HOE.out] at oc
        have hown5 : w4.ownsRow w.heap.size 9 1 (.slice g4 (j + 1) c4) (j + 1) (tc pre ++ [.string (strB e.2.1)]) := hown4
        rw [tc_snoc, HTK.out] at hown5
        clear hgrow4 hown4 hown2 hr4
        go_wp2
        go_roundw
        case rel =>
          refine ⟨j + 1, by omega, by omega, by rw [Nat.add_sub_cancel, List.getD_eq_getElem?_getD], ?_, hg5⟩
          unfold Own
          rw [show (((kv (x :: r)).map (·.1)).take (j + 1)).length = j + 1 by rw [List.length_take, HKL.out]; omega]
          exact hown5
        case measure => simp [slen]; omega
end Go.Proofs.Ythhmjoafoahpbaa
