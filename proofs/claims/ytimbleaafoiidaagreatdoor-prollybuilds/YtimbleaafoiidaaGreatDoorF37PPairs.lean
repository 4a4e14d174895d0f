/-
  Texts joined: PPairs, PList.
-/
import Derived.Test.YtimbleaafoiidaaGreatDoorF23PRow
import Derived.Test.YtimbleaafoiidaaGreatDoorF36PRRight
import Derived.Test.YtimbleaafoiidaaGreatDoorF27PRMany
/-
  Which pairs are right, by the program. Conditions: the pairs lie there.
-/
namespace Go.Proofs.YtimbleaafoiidaaGreatDoor
open Go.RowKit

theorem ltB_le : ∀ (a b : Bs), (ltB a b || a == b) = !ltB b a
  | [], [] => by rw [ltB_nil]; rfl
  | [], b :: m => by rw [ltB_nil_cons, ltB_nil]; rfl
  | a :: l, [] => by rw [ltB_nil_cons, ltB_nil]; rfl
  | a :: l, b :: m => by
    have ih := ltB_le l m
    rw [ltB_cons, ltB_cons]
    by_cases h : a = b
    · subst h
      have h1 : ¬ a < a := UInt8.lt_irrefl a
      simp [h1, ih]
    · have h1 : (a == b) = false := by simpa using h
      have h2 : (b == a) = false := by simpa using fun e => h e.symm
      have h3 : (a :: l == b :: m) = false := by simp [h]
      rw [h1, h2, h3]
      by_cases h4 : a < b
      · have h5 : ¬ b < a := UInt8.lt_asymm h4
        simp [h4, h5]
      · have h5 : b < a := by
          rcases UInt8.lt_or_lt_of_ne h with q | q
          · exact absurd q h4
          · exact q
        simp [h4, h5]
theorem leq_str (t : TypeId) (a b : Bs) : binOp .leq t (.string (strB a)) (.string (strB b)) = pure (.bool (!ltB b a)) := by
  have := ltB_le a b
  unfold ltB at this
  simp [binOp, Op.stringOp, toLr, ltB, this]
theorem lastP_take (l : List Pair) (k : Nat) (hk : k < l.length) : lastP (l.take (k + 1)) = l[k].1 := by
  unfold lastP
  rw [List.take_succ_eq_append_getElem hk, List.getLast?_concat]
  rfl
theorem nextOk_last {l : List Pair} {k : Nat} {x : Pair} (hx : pairOk x = true) (hk : k ≤ l.length) : nextOk l k x = ltB (lastP (l.take k)) x.1 := by
  unfold nextOk
  rw [hx]
  cases k with
  | zero =>
    have : 1 ≤ x.1.length := by
      unfold pairOk isKeyB at hx
      simp at hx
      omega
    cases hq : x.1 with
    | nil => rw [hq] at this; simp at this
    | cons a r => simp [lastP, ltB_nil_cons]
  | succ k =>
    rw [lastP_take l k (by omega)]
    have : (k + 1 - 1) = k := by omega
    simp [this, List.getElem?_eq_getElem (show k < l.length by omega)]
theorem pairsOk_no {l : List Pair} {k : Nat} (hk : k < l.length) (h : nextOk l k l[k] = false) : pairsOk l = false := by
  have h1 := pairsOk_step l k hk
  rw [h, Bool.and_false] at h1
  cases hq : pairsOk l with
  | false => rfl
  | true => rw [pairsOk_take hq (k + 1)] at h1; cases h1
set_option maxRecDepth 20000 in
set_option maxHeartbeats 800000 in
theorem pairsAreRight_any (w : World) (l : List Pair) (v : Value) (hv : Ls w.heap.size w 2 pairC v l) :
    Calls Tryz.prog 26 #[v] w fun e w' => e = .returned (.bool (pairsOk l)) ∧ Below w.heap.size w w' := by
  obtain ⟨ao, cap, rfl, h1, h2, h4⟩ := hv
  unfold maxLen at h2
  have hnil : strB (lastP (l.take 0)) = ⟨#[]⟩ := rfl
  go_enter Tryz.func26, Tryz.ntmps26
  go_wp2_with fail
  go_loopw [8, 3] (fun t u wr => ∃ k : Nat, k ≤ l.length ∧ t = .int .i64 k ∧ u = .string (strB (lastP (l.take k))) ∧ pairsOk (l.take k) = true ∧ Below w.heap.size w wr)
    (fun t _ _ => l.length - (intOf t).toNat)
  case atStart => exact ⟨0, by omega, rfl, rfl, rfl, Below.refl _ _⟩
  case round =>
    obtain ⟨k, hk, rfl, rfl, hok, hb⟩ := hrel
    have HB := hide hb
    have HOK := hide hok
    clear hok
    by_cases hlt : k < l.length
    · obtain ⟨b, off, rfl, hbB, hc⟩ := h4 (by rintro rfl; simp at hlt)
      have c0 := (hb.cell (p := ⟨b, off + k * 2 + 0, none⟩) hbB).trans (hc k hlt 0 _ rfl)
      have c1 := (hb.cell (p := ⟨b, off + k * 2 + 1, none⟩) hbB).trans (hc k hlt 1 _ rfl)
      simp only [Nat.add_zero] at c0
      have hstep := pairsOk_step l k hlt
      have hno := fun h => pairsOk_no (l := l) hlt h
      have hlast := lastP_take l k hlt
      have hnx := fun (h : pairOk (l[k]'hlt) = true) => nextOk_last (l := l) (k := k) h hk
      have HB1 := hide (HB.out.alloc HB.out.size (.cells #[.string (strB l[k].1), .string (strB l[k].2)] 60))
      generalize l[k] = x at *
      have HX := hide (And.intro hstep (And.intro hno (And.intro hlast hnx)))
      have hx2 := strB_size x.2
      have hleq := leq_str 9 x.1 (lastP (l.take k))
      generalize lastP (l.take k) = last at *
      clear hstep hno hlast hnx hc hb
      cases hkey : isKeyB x.1 with
      | false =>
        have HN := hide (HX.out.2.1 (nextOk_no (pairOk_no (.inl hkey))))
        go_wp2_with fail
        refine (pisKey_any _ x.1).mono ?_
        rintro e w1 ⟨rfl, rfl⟩
        rw [hkey]
        go_wp2
        go_ret
        exact ⟨ret_bool HN.out.symm, HB1.out⟩
      | true =>
        by_cases hv : 128 < x.2.length
        · have HN := hide (HX.out.2.1 (nextOk_no (pairOk_no (.inr hv))))
          have hgt : decide ((128 : Int) < (x.2.length : Int)) = true := by simp; omega
          cases hlb : ltB last x.1 with
          | false =>
            rw [hlb] at hleq
            go_wp2_with fail
            refine (pisKey_any _ x.1).mono ?_
            rintro e w1 ⟨rfl, rfl⟩
            rw [hkey]
            go_wp2
            go_ret
            exact ⟨ret_bool HN.out.symm, HB1.out⟩
          | true =>
            rw [hlb] at hleq
            go_wp2_with fail
            refine (pisKey_any _ x.1).mono ?_
            rintro e w1 ⟨rfl, rfl⟩
            rw [hkey]
            go_wp2
            go_ret
            exact ⟨ret_bool HN.out.symm, HB1.out⟩
        · have hpo : pairOk x = true := by unfold pairOk; rw [hkey]; simp; omega
          have hgt : decide ((128 : Int) < (x.2.length : Int)) = false := by simp; omega
          have hnx := HX.out.2.2.2 hpo
          have HPO := hide hpo
          clear hpo
          cases hlb : ltB last x.1 with
          | false =>
            rw [hlb] at hnx hleq
            have HN := hide (HX.out.2.1 hnx)
            clear hnx
            go_wp2_with fail
            refine (pisKey_any _ x.1).mono ?_
            rintro e w1 ⟨rfl, rfl⟩
            rw [hkey]
            go_wp2
            go_ret
            exact ⟨ret_bool HN.out.symm, HB1.out⟩
          | true =>
            rw [hlb] at hnx hleq
            have HN := hide (show pairsOk (l.take (k + 1)) = true by rw [HX.out.1, HOK.out, hnx]; rfl)
            clear hnx
            go_wp2_with fail
            refine (pisKey_any _ x.1).mono ?_
            rintro e w1 ⟨rfl, rfl⟩
            rw [hkey]
            go_wp2
            go_roundw
            case rel => exact ⟨k + 1, by omega, by go_num, by rw [HX.out.2.2.1], HN.out, HB1.out⟩
            case measure => simp [intOf]; omega
    · obtain rfl : k = l.length := by omega
      rw [List.take_length] at HOK
      clear hb
      go_wp2
      go_ret
      exact ⟨ret_bool HOK.out.symm, HB.out⟩
end Go.Proofs.YtimbleaafoiidaaGreatDoor

/-
  Going to the pairs of a map between two keys, plainly. No program here.
-/
namespace Go.Proofs.YtimbleaafoiidaaGreatDoor
open Go.RowKit

/-- What was asked, told so far; the first error. -/
structure LsS where
  asked : List Bs
  out : List Pair
  bad : Int
def GrowM (s t : LsS) (n m : Nat) : Prop := t.asked.length ≤ s.asked.length + n ∧ t.out.length ≤ s.out.length + m
theorem GrowM.refl (s : LsS) : GrowM s s 0 0 := ⟨by omega, by omega⟩
theorem GrowM.trans {s t u : LsS} {n m n' m' : Nat} (h : GrowM s t n m) (k : GrowM t u n' m') : GrowM s u (n + n') (m + m') := ⟨by have := h.1; have := k.1; omega, by have := h.2; have := k.2; omega⟩
theorem GrowM.le {s t : LsS} {n m n' m' : Nat} (h : GrowM s t n m) (h1 : n ≤ n') (h2 : m ≤ m') : GrowM s t n' m' := ⟨by have := h.1; omega, by have := h.2; omega⟩
theorem fitsM_count {n : NodeM} {k : Link} {level : Int} (h : fitsM n k level = true) : n.1 = level ∧ countM n = k.2.2 := by
  unfold fitsM at h
  simp only [Bool.and_eq_true, decide_eq_true_eq] at h
  exact h.1
end Go.Proofs.YtimbleaafoiidaaGreatDoor
