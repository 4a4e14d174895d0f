/-
  Each text once. Conditions: lists lie there, and are short.
-/
import Derived.Test.YtdbmngbinhemeabDoorCOShown
namespace Go.Proofs.YtdbmngbinhemeabDoor
open Go.RowKit

theorem once_snoc : ∀ (xs acc : List Bs) (x : Bs), once acc (xs ++ [x]) = if (once acc xs).contains x then once acc xs else once acc xs ++ [x]
  | [], acc, x => by simp [once]
  | y :: r, acc, x => by
    simp only [List.cons_append, once]
    exact once_snoc r _ x
theorem once_le : ∀ (xs acc : List Bs), (once acc xs).length ≤ acc.length + xs.length
  | [], acc => by simp [once]
  | y :: r, acc => by
    simp only [once]
    by_cases h : acc.contains y = true
    · have := once_le r acc
      rw [if_pos h, List.length_cons]
      omega
    · have := once_le r (acc ++ [y])
      rw [List.length_append] at this
      rw [if_neg h, List.length_cons]
      simp at this
      omega
set_option maxRecDepth 20000 in
theorem index_any (w : World) (v : Value) (xs : List Bs) (x : Bs) (hv : Ls w.heap.size w 1 idC v xs) :
    Calls Tryd.prog 145 #[v, .string (strB x)] w fun e w' => ∃ r : Int, e = .returned (.int .i64 r) ∧ decide (0 ≤ r) = xs.contains x ∧ w' = w := by
  obtain ⟨ao, cap, rfl, h1, h2, h4⟩ := hv
  unfold maxLen at h2
  have hx := toL x
  go_enter Tryd.func145, Tryd.ntmps145
  go_wp2_with fail
  go_loopw [8] (fun t wr => ∃ k : Nat, k ≤ xs.length ∧ t = .int .i64 k ∧ (xs.take k).contains x = false ∧ wr = w)
    (fun t _ => xs.length - (intOf t).toNat)
  case atStart => exact ⟨0, by omega, rfl, by simp, rfl⟩
  case round =>
    obtain ⟨k, hk, rfl, hno, rfl⟩ := hrel
    by_cases hlt : k < xs.length
    · obtain ⟨b, off, rfl, hbB, hc⟩ := h4 (by rintro rfl; simp at hlt)
      have c0 := hc k hlt 0 _ rfl
      simp only [Nat.mul_one, Nat.add_zero] at c0
      have hy := toL xs[k]
      by_cases he : x = xs[k]
      · have hbe : (x == xs[k]) = true := by simpa using he
        have hcon : xs.contains x = true := by rw [List.contains_iff_mem]; rw [he]; exact List.getElem_mem hlt
        generalize xs[k] = y at *
        go_wp2
        go_ret
        exact ⟨_, rfl, by rw [hcon]; simp, rfl⟩
      · have hbe : (x == xs[k]) = false := by simpa using he
        have hno2 : (xs.take (k + 1)).contains x = false := by
          rw [List.take_succ_eq_append_getElem hlt, Bool.eq_false_iff]
          intro hm
          rw [List.contains_iff_mem] at hm
          rcases List.mem_append.1 hm with hm | hm
          · rw [← List.contains_iff_mem, hno] at hm
            cases hm
          · exact he (by simpa using hm)
        generalize xs[k] = y at *
        go_wp2
        go_roundw
        case rel => exact ⟨k + 1, by omega, by go_num, hno2, trivial⟩
        case measure => simp [intOf]; omega
    · obtain rfl : k = xs.length := by omega
      rw [List.take_length] at hno
      go_wp2
      go_ret
      exact ⟨_, rfl, by rw [hno]; decide, rfl⟩
theorem contains_any (w : World) (v : Value) (xs : List Bs) (x : Bs) (hv : Ls w.heap.size w 1 idC v xs) :
    Calls Tryd.prog 134 #[v, .string (strB x)] w fun e w' => e = .returned (.bool (xs.contains x)) ∧ w' = w := by
  go_enter Tryd.func134, Tryd.ntmps134
  go_wp2_with fail
  refine (index_any w v xs x hv).mono ?_
  rintro e w1 ⟨r, rfl, hr, rfl⟩
  have HR := hide hr
  clear hr
  go_wp2
  go_ret
  exact ⟨ret_bool HR.out, rfl⟩
set_option maxRecDepth 20000 in
theorem eachOnce_any (w : World) (v : Value) (xs : List Bs) (hv : Ls w.heap.size w 1 idC v xs) (hn : xs.length ≤ 1000) :
    Calls Tryd.prog 117 #[v] w fun e w' => ∃ v', e = .returned v' ∧ w'.ownsRow w.heap.size 9 1 v' (once [] xs).length ((once [] xs).flatMap idC) ∧ Below w.heap.size w w' := by
  obtain ⟨i0, hi, hz0, hz1, hz2⟩ := info_parts Tryd.zStr
  obtain ⟨ao, cap, rfl, h1, h2, h4⟩ := hv
  unfold maxLen at h2
  go_enter Tryd.func117, Tryd.ntmps117
  go_wp2_with fail
  go_loopw [8, 3] (fun t v wr => ∃ k : Nat, k ≤ xs.length ∧ t = .int .i64 k ∧ wr.ownsRow w.heap.size 9 1 v (once [] (xs.take k)).length ((once [] (xs.take k)).flatMap idC) ∧ Below w.heap.size w wr)
    (fun t _ _ => xs.length - (intOf t).toNat)
  case atStart => exact ⟨0, by omega, rfl, World.ownsRow_nil _ _ _ _, Below.refl _ _⟩
  case round =>
    obtain ⟨k, hk, rfl, hown, hb⟩ := hrel
    have HB := hide hb
    have HO := hide hown
    clear hb
    have hle := once_le (xs.take k) []
    rw [List.length_take, List.length_nil] at hle
    by_cases hlt : k < xs.length
    · obtain ⟨b, off, rfl, hbB, hc⟩ := h4 (by rintro rfl; simp at hlt)
      have c0 := (HB.out.cell (p := ⟨b, off + k * 1 + 0, none⟩) hbB).trans (hc k hlt 0 _ rfl)
      simp only [Nat.mul_one, Nat.add_zero] at c0
      have hst : once [] (xs.take (k + 1)) = if (once [] (xs.take k)).contains xs[k] then once [] (xs.take k) else once [] (xs.take k) ++ [xs[k]] := by
        rw [List.take_succ_eq_append_getElem hlt, once_snoc]
      have hcon := fun y => contains_any wr _ (once [] (xs.take k)) y (ls_of_own idC_length hown)
      have hcy := hcon xs[k]
      generalize xs[k] = y at *
      generalize once [] (xs.take k) = A at *
      have HST := hide hst
      obtain ⟨a3, c3, rfl, -⟩ := own_form hown
      clear hown hst hcon
      by_cases hc1 : A.contains y = true
      · rw [hc1] at hcy
        go_wp2_with fail
        refine hcy.mono ?_
        rintro e w1 ⟨rfl, rfl⟩
        go_wp2
        go_roundw
        case rel => exact ⟨k + 1, by omega, by go_num, by rw [HST.out, if_pos hc1]; exact HO.out, HB.out⟩
        case measure => simp [intOf]; omega
      · have hc1 := Bool.eq_false_iff.2 hc1
        rw [hc1] at hcy
        have hnw := news_at wr [.string (strB y)] 9
        have HOA := hide (HO.out.alloc (.cells #[.string (strB y)] 9))
        have HBA := hide (HB.out.alloc HB.out.size (.cells #[.string (strB y)] 9))
        have hszr := HB.out.size
        go_wp2_with fail
        refine hcy.mono ?_
        rintro e w1 ⟨rfl, rfl⟩
        go_wp2_with (at_builtin; refine wpList_append_own _ rfl (.tmp 16) (.tmp 18) 52 rfl w.heap.size 9 i0 (.string ⟨#[]⟩) 1 16 Tryd.underlying52 hi hz0 hz1 hz2 rfl (by decide) _ _ _ rfl HOA.out ⟨w1.heap.size, 0, none⟩ 1 1 [.string (strB y)] rfl rfl hnw (by simp [Value.oneCell']) (by unfold maxLen; omega) (by omega) (by simp; omega) ?_; intro v3 w3 hown3 hgr3 _; have HO3 := hide hown3; obtain ⟨a4, c4, rfl, -⟩ := own_form hown3; clear hown3)
        have hb3 := HBA.out.grown hgr3 HBA.out.size (fun q hq => (HOA.out.lt q hq).1)
        have HB3 := hide hb3
        clear hgr3 hb3 hnw
        go_wp2
        go_roundw
        case rel =>
          refine ⟨k + 1, by omega, by go_num, ?_, HB3.out⟩
          rw [HST.out, if_neg (by rw [hc1]; decide), flat_one, List.length_append]
          exact HO3.out
        case measure => simp [intOf]; omega
    · obtain rfl : k = xs.length := by omega
      rw [List.take_length] at hown
      clear HO
      have HO := hide hown
      obtain ⟨a3, c3, rfl, -⟩ := own_form hown
      clear hown
      go_wp2
      go_ret
      exact ⟨_, rfl, HO.out, HB.out⟩
end Go.Proofs.YtdbmngbinhemeabDoor
