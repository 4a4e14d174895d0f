/-
  What bytes say, told plainly; what the statements show first. Condition: the table holds its numbers.
  Each text once. Conditions: lists lie there, and are short.
-/
import Derived.Test.YtdbmngbinhemeabGreatDoorROTop3
namespace Go.Proofs.YtdbmngbinhemeabGreatDoor
open Go.RowKit

theorem takenLeaf_iff (b : Bs) (hb : b.length ≤ 140737488355328) (f : List Pair) : takenLeaf b = some f ↔ leafOk ltB f = true ∧ b = 76 :: leafB f :=
  taken_iff (enc := leafB) rfl (fun l hl x => leaf_iff ltB l (by omega) x) f
theorem takenFan_iff (b : Bs) (f : Fan) : takenFan b = some f ↔ fanOk f = true ∧ b = 70 :: fanB f :=
  taken_iff (enc := fanB) rfl (fun l _ x => fan_iff l x) f
theorem takenBranch_iff (b : Bs) (hb : b.length ≤ 140737488355328) (f : Branch) : takenBranch b = some f ↔ branchOk ltB f = true ∧ b = 66 :: branchB f :=
  taken_iff (enc := branchB) rfl (fun l hl x => branch_iff ltB l (by omega) x) f
theorem out_length (s : St) : (out s).length = 32 := rfl
theorem sha_length (l : List UInt8) : (sha l).length = 32 := out_length _
theorem ls_pair (w : World) (x : Pair) (n : Nat) (hn : n = w.heap.size) : Ls (w.alloc (.cells #[.string (strB x.1), .string (strB x.2)] 37)).heap.size (w.alloc (.cells #[.string (strB x.1), .string (strB x.2)] 37)) 2 pairC (.slice (some ⟨n, 0, none⟩) 1 1) [x] := by
  subst hn
  refine ⟨_, 1, rfl, Nat.le_refl _, by unfold maxLen; omega, fun _ => ⟨w.heap.size, 0, rfl, by simp, fun j hj i u hu => ?_⟩⟩
  obtain rfl : j = 0 := by simpa using hj
  rw [cell_of_row _ _ _ _ _ _ (heap_last w _ _ rfl)]
  simp only [Nat.zero_mul, Nat.zero_add, List.getElem?_toArray]
  exact hu
theorem leaf_kv : leafOk ltB [([107], [118])] = true ∧ 76 :: leafB [([107], [118])] = [76, 2, 2, 107, 2, 118] := by decide +kernel
theorem taken_kv : takenLeaf [76, 2, 2, 107, 2, 118] = some [([107], [118])] := (takenLeaf_iff _ (by simp) _).2 ⟨leaf_kv.1, leaf_kv.2.symm⟩
set_option maxRecDepth 20000 in
set_option maxHeartbeats 800000 in
theorem shown_any (w : World) (hT : TabW w) : Calls Tryz.prog 4 #[] w fun e w' => e = .returned (.bool true) ∧ Below w.heap.size w w' := by
  have h0 := hT.1
  have hls := ls_pair w ([107], [118]) _ rfl
  have hbA : Below w.heap.size w (w.alloc (.cells #[.string (strB [107]), .string (strB [118])] 37)) := (Below.refl _ _).alloc (Nat.le_refl _) _
  have hlf := leaf_any _ [([107], [118])] _ hls (hT.keep hbA h0)
  rw [leaf_kv.1, leaf_kv.2, show made true [76, 2, 2, 107, 2, 118] = .tuple #[objV [76, 2, 2, 107, 2, 118], .int .i64 0] from rfl, objV_def] at hlf
  have hsl := sha_length [76, 2, 2, 107, 2, 118]
  generalize sha [76, 2, 2, 107, 2, 118] = S at *
  have hSs := strB_size S
  rw [hsl] at hSs
  have htl : ∀ W : World, Calls Tryz.prog 11 #[.string (strB [76, 2, 2, 107, 2, 118])] W fun e w' => (∃ v, e = .returned (.tuple #[v, .int .i64 0]) ∧ w'.ownsRow W.heap.size 37 2 v 1 [.string (strB [107]), .string (strB [118])]) ∧ Below W.heap.size W w' := fun W => by
    have := takeLeaf_any W [76, 2, 2, 107, 2, 118] (by simp)
    unfold LeafSaid at this
    rw [taken_kv] at this
    exact this
  generalize hwA : w.alloc (.cells #[.string (strB [107]), .string (strB [118])] 37) = wA at *
  clear hls hT
  go_enter Tryz.func4, Tryz.ntmps4
  go_wp2_with fail
  try rw [show (w.alloc (.cells #[.string ⟨#[107]⟩, .string ⟨#[118]⟩] 37)) = wA from hwA]
  refine hlf.mono ?_
  rintro e w1 ⟨rfl, hb1⟩
  have hbB := hbA.trans (hb1.mono hbA.size)
  have hbC := hbB.alloc hbB.size (.cells #[.string (strB S), .string (strB [76, 2, 2, 107, 2, 118])] 30)
  have hx1 := heap_last w1 (.cells #[.string (strB S), .string (strB [76, 2, 2, 107, 2, 118])] 30) _ rfl
  have hsz1 := hbB.size
  clear hlf hb1
  go_wp2_with fail
  refine (htl _).mono ?_
  rintro e w2 ⟨⟨v, rfl, hown⟩, hb2⟩
  have hx2 := (hb2.block _ (by simp)).trans hx1
  have c0 := cell_of_row w2 w1.heap.size 0 _ _ _ hx2
  have c1 := cell_of_row w2 w1.heap.size 1 _ _ _ hx2
  simp only [List.getElem?_toArray, List.getElem?_cons_zero, List.getElem?_cons_succ] at c0 c1
  have hbD := hbC.trans (hb2.mono hbC.size)
  obtain ⟨gv, cap, rfl⟩ : ∃ gv cap, v = .slice (some ⟨gv, 0, none⟩) 1 cap := by
    rcases hown.2 with ⟨rfl, h⟩ | ⟨g, cap, cur, rfl, _⟩
    · cases h
    · exact ⟨_, _, rfl⟩
  have d1 := hown.cellAt 1 (by omega)
  simp only [List.getElem?_cons_zero, List.getElem?_cons_succ] at d1
  have e1 : (strB [76, 2, 2, 107, 2, 118]).toList = [76, 2, 2, 107, 2, 118] := toL _
  have e2 : (strB [118]).toList = [118] := toL _
  have HD := hide hbD
  clear hown hb2 hx1 hx2 htl hbD hbC hbB
  go_wp2
  go_ret
  exact ⟨ret_bool (by first | rfl | simp), HD.out⟩
end Go.Proofs.YtdbmngbinhemeabGreatDoor
namespace Go.Proofs.YtdbmngbinhemeabGreatDoor
open Go.RowKit

theorem once_snoc : ∀ (xs acc : List Bs) (x : Bs), once acc (xs ++ [x]) = if (once acc xs).contains x then once acc xs else once acc xs ++ [x]
  | [], acc, x => by simp [once]
  | y :: r, acc, x => by
    simp only [List.cons_append, once]
    exact once_snoc r _ x
theorem once_le : ∀ (xs acc : List Bs), (once acc xs).length ≤ acc.length + xs.length
  | [], acc => by simp [once]
  | y :: r, acc => by
    simp only [once]
    by_cases h : acc.contains y = true
    · have := once_le r acc
      rw [if_pos h, List.length_cons]
      omega
    · have := once_le r (acc ++ [y])
      rw [List.length_append] at this
      rw [if_neg h, List.length_cons]
      simp at this
      omega
set_option maxRecDepth 20000 in
theorem index_any (w : World) (v : Value) (xs : List Bs) (x : Bs) (hv : Ls w.heap.size w 1 idC v xs) :
    Calls Tryz.prog 83 #[v, .string (strB x)] w fun e w' => ∃ r : Int, e = .returned (.int .i64 r) ∧ decide (0 ≤ r) = xs.contains x ∧ w' = w := by
  obtain ⟨ao, cap, rfl, h1, h2, h4⟩ := hv
  unfold maxLen at h2
  have hx := toL x
  go_enter Tryz.func83, Tryz.ntmps83
  go_wp2_with fail
  go_loopw [8] (fun t wr => ∃ k : Nat, k ≤ xs.length ∧ t = .int .i64 k ∧ (xs.take k).contains x = false ∧ wr = w)
    (fun t _ => xs.length - (intOf t).toNat)
  case atStart => exact ⟨0, by omega, rfl, by simp, rfl⟩
  case round =>
    obtain ⟨k, hk, rfl, hno, rfl⟩ := hrel
    by_cases hlt : k < xs.length
    · obtain ⟨b, off, rfl, hbB, hc⟩ := h4 (by rintro rfl; simp at hlt)
      have c0 := hc k hlt 0 _ rfl
      simp only [Nat.mul_one, Nat.add_zero] at c0
      have hy := toL xs[k]
      by_cases he : x = xs[k]
      · have hbe : (x == xs[k]) = true := by simpa using he
        have hcon : xs.contains x = true := by rw [List.contains_iff_mem]; rw [he]; exact List.getElem_mem hlt
        generalize xs[k] = y at *
        go_wp2
        go_ret
        exact ⟨_, rfl, by rw [hcon]; simp, rfl⟩
      · have hbe : (x == xs[k]) = false := by simpa using he
        have hno2 : (xs.take (k + 1)).contains x = false := by
          rw [List.take_succ_eq_append_getElem hlt, Bool.eq_false_iff]
          intro hm
          rw [List.contains_iff_mem] at hm
          rcases List.mem_append.1 hm with hm | hm
          · rw [← List.contains_iff_mem, hno] at hm
            cases hm
          · exact he (by simpa using hm)
        generalize xs[k] = y at *
        go_wp2
        go_roundw
        case rel => exact ⟨k + 1, by omega, by go_num, hno2, trivial⟩
        case measure => simp [intOf]; omega
    · obtain rfl : k = xs.length := by omega
      rw [List.take_length] at hno
      go_wp2
      go_ret
      exact ⟨_, rfl, by rw [hno]; decide, rfl⟩
theorem contains_any (w : World) (v : Value) (xs : List Bs) (x : Bs) (hv : Ls w.heap.size w 1 idC v xs) :
    Calls Tryz.prog 41 #[v, .string (strB x)] w fun e w' => e = .returned (.bool (xs.contains x)) ∧ w' = w := by
  go_enter Tryz.func41, Tryz.ntmps41
  go_wp2_with fail
  refine (index_any w v xs x hv).mono ?_
  rintro e w1 ⟨r, rfl, hr, rfl⟩
  have HR := hide hr
  clear hr
  go_wp2
  go_ret
  exact ⟨ret_bool HR.out, rfl⟩
set_option maxRecDepth 20000 in
theorem eachOnce_any (w : World) (v : Value) (xs : List Bs) (hv : Ls w.heap.size w 1 idC v xs) (hn : xs.length ≤ 1000) :
    Calls Tryz.prog 13 #[v] w fun e w' => ∃ v', e = .returned v' ∧ w'.ownsRow w.heap.size 9 1 v' (once [] xs).length ((once [] xs).flatMap idC) ∧ Below w.heap.size w w' := by
  obtain ⟨i0, hi, hz0, hz1, hz2⟩ := info_parts Tryz.zStr
  obtain ⟨ao, cap, rfl, h1, h2, h4⟩ := hv
  unfold maxLen at h2
  go_enter Tryz.func13, Tryz.ntmps13
  go_wp2_with fail
  go_loopw [8, 3] (fun t v wr => ∃ k : Nat, k ≤ xs.length ∧ t = .int .i64 k ∧ wr.ownsRow w.heap.size 9 1 v (once [] (xs.take k)).length ((once [] (xs.take k)).flatMap idC) ∧ Below w.heap.size w wr)
    (fun t _ _ => xs.length - (intOf t).toNat)
  case atStart => exact ⟨0, by omega, rfl, World.ownsRow_nil _ _ _ _, Below.refl _ _⟩
  case round =>
    obtain ⟨k, hk, rfl, hown, hb⟩ := hrel
    have HB := hide hb
    have HO := hide hown
    clear hb
    have hle := once_le (xs.take k) []
    rw [List.length_take, List.length_nil] at hle
    by_cases hlt : k < xs.length
    · obtain ⟨b, off, rfl, hbB, hc⟩ := h4 (by rintro rfl; simp at hlt)
      have c0 := (HB.out.cell (p := ⟨b, off + k * 1 + 0, none⟩) hbB).trans (hc k hlt 0 _ rfl)
      simp only [Nat.mul_one, Nat.add_zero] at c0
      have hst : once [] (xs.take (k + 1)) = if (once [] (xs.take k)).contains xs[k] then once [] (xs.take k) else once [] (xs.take k) ++ [xs[k]] := by
        rw [List.take_succ_eq_append_getElem hlt, once_snoc]
      have hcon := fun y => contains_any wr _ (once [] (xs.take k)) y (ls_of_own idC_length hown)
      have hcy := hcon xs[k]
      generalize xs[k] = y at *
      generalize once [] (xs.take k) = A at *
      have HST := hide hst
      obtain ⟨a3, c3, rfl, -⟩ := own_form hown
      clear hown hst hcon
      by_cases hc1 : A.contains y = true
      · rw [hc1] at hcy
        go_wp2_with fail
        refine hcy.mono ?_
        rintro e w1 ⟨rfl, rfl⟩
        go_wp2
        go_roundw
        case rel => exact ⟨k + 1, by omega, by go_num, by rw [HST.out, if_pos hc1]; exact HO.out, HB.out⟩
        case measure => simp [intOf]; omega
      · have hc1 := Bool.eq_false_iff.2 hc1
        rw [hc1] at hcy
        have hnw := news_at wr [.string (strB y)] 9
        have HOA := hide (HO.out.alloc (.cells #[.string (strB y)] 9))
        have HBA := hide (HB.out.alloc HB.out.size (.cells #[.string (strB y)] 9))
        have hszr := HB.out.size
        go_wp2_with fail
        refine hcy.mono ?_
        rintro e w1 ⟨rfl, rfl⟩
        go_wp2_with (at_builtin; refine wpList_append_own _ rfl (.tmp 16) (.tmp 18) 22 rfl w.heap.size 9 i0 (.string ⟨#[]⟩) 1 16 Tryz.underlying22 hi hz0 hz1 hz2 rfl (by decide) _ _ _ rfl HOA.out ⟨w1.heap.size, 0, none⟩ 1 1 [.string (strB y)] rfl rfl hnw (by simp [Value.oneCell']) (by unfold maxLen; omega) (by omega) (by simp; omega) ?_; intro v3 w3 hown3 hgr3 _; have HO3 := hide hown3; obtain ⟨a4, c4, rfl, -⟩ := own_form hown3; clear hown3)
        have hb3 := HBA.out.grown hgr3 HBA.out.size (fun q hq => (HOA.out.lt q hq).1)
        have HB3 := hide hb3
        clear hgr3 hb3 hnw
        go_wp2
        go_roundw
        case rel =>
          refine ⟨k + 1, by omega, by go_num, ?_, HB3.out⟩
          rw [HST.out, if_neg (by rw [hc1]; decide), flat_one, List.length_append]
          exact HO3.out
        case measure => simp [intOf]; omega
    · obtain rfl : k = xs.length := by omega
      rw [List.take_length] at hown
      clear HO
      have HO := hide hown
      obtain ⟨a3, c3, rfl, -⟩ := own_form hown
      clear hown
      go_wp2
      go_ret
      exact ⟨_, rfl, HO.out, HB.out⟩
end Go.Proofs.YtdbmngbinhemeabGreatDoor
