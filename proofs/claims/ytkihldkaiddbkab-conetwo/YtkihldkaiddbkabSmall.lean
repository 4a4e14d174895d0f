/-
  What the smallest functions answer: IsName, strings.Cut at a byte, below. Conditions: lengths within reach.
-/
import Derived.Test.YtkihldkaiddbkabPlain
import Derived.Test.YtkihldkaiddbkabShelf
import Derived.Laws.IdiomStrings
namespace Go.Proofs.Ytkihldkaiddbkab
open Go.RowKit

theorem toL (l : List UInt8) : (strB l).toList = l := by rw [ByteArray.toList_eq]; exact strB_list l
theorem ret_bool {a b : Bool} (h : a = b) : Ending.returned (.bool a) = .returned (.bool b) := by rw [h]
theorem ret_int {a b : Int} (h : a = b) : Ending.returned (.int .i64 a) = .returned (.int .i64 b) := by rw [h]

set_option maxRecDepth 20000 in
theorem isName_any (w : World) (l : List UInt8) :
    Calls Try.prog 35 #[.string (strB l)] w fun e w' => e = .returned (.bool (Pt.name l)) ∧ w' = w := by
  have hsz := strB_size l
  have hl := toL l
  by_cases h1 : l.length < 1
  · go_enter Try.func35, Try.ntmps35
    go_wp2
    go_ret
    exact ⟨ret_bool (by simp [Pt.name]; omega), rfl⟩
  by_cases h2 : 64 < l.length
  · go_enter Try.func35, Try.ntmps35
    go_wp2
    go_ret
    exact ⟨ret_bool (by simp [Pt.name]; omega), rfl⟩
  by_cases h3 : l = [46]
  · subst h3
    go_enter Try.func35, Try.ntmps35
    go_wp2
    go_ret
    exact ⟨ret_bool (by simp [Pt.name]), rfl⟩
  by_cases h4 : l = [46, 46]
  · subst h4
    go_enter Try.func35, Try.ntmps35
    go_wp2
    go_ret
    exact ⟨ret_bool (by simp [Pt.name]), rfl⟩
  have e1 : Lib.indexByte (strB l).data.toList (47 : Int).toNat.toUInt8 = Lib.indexByte l 47 := by rw [strB_list]; rfl
  have e2 : Lib.indexByte (strB l).data.toList (0 : Int).toNat.toUInt8 = Lib.indexByte l 0 := by rw [strB_list]; rfl
  have b3 : (l == [46]) = false := by simp [h3]
  have b4 : (l == [46, 46]) = false := by simp [h4]
  have n1 := Pt.indexByte_neg l 47
  have n2 := Pt.indexByte_neg l 0
  by_cases h5 : 47 ∈ l
  · have h6 : ¬ Lib.indexByte l 47 < 0 := by simpa [h5] using n1
    go_enter Try.func35, Try.ntmps35
    go_wp2_with fail
    refine (Try.strings_IndexByte (strB l) 47 w).mono ?_
    rintro e w' ⟨rfl, rfl⟩
    rw [e1]
    go_wp2
    go_ret
    exact ⟨ret_bool (by simp [Pt.name, h5]), rfl⟩
  · have h6 : Lib.indexByte l 47 < 0 := by simpa [h5] using n1
    go_enter Try.func35, Try.ntmps35
    go_wp2_with fail
    refine (Try.strings_IndexByte (strB l) 47 w).mono ?_
    rintro e w' ⟨rfl, rfl⟩
    rw [e1]
    go_wp2_with fail
    refine (Try.strings_IndexByte (strB l) 0 w').mono ?_
    rintro e w ⟨rfl, rfl⟩
    rw [e2]
    go_wp2
    go_ret
    refine ⟨ret_bool ?_, rfl⟩
    have q1 : 1 ≤ l.length := by omega
    have q2 : l.length ≤ 64 := by omega
    simp [Pt.name, h3, h4, h5, q1, q2]

/-! ### strings.Cut at a slash -/
theorem index_str (t : TypeId) (ht : t = 9 ∨ t = 46) (w : World) (l : List UInt8) (kd : IntKind) (k : Nat) (h : k < l.length) : (Instr.index t (.string (strB l)) (.int kd (k : Int))).run Try.prog w = .ok (.int .u8 ((l[k]'h).toNat : Int)) w := by
  have a1 : (0 : Int) ≤ (k : Int) := by omega
  have h1 : (strB l)[k]? = some (l[k]'h) := by
    have hs : k < (strB l).size := by rw [strB_size]; exact h
    rw [getElem?_pos (strB l) k hs]
    rfl
  unfold Instr.index
  rcases ht with rfl | rfl
  · simp only [asIntOf, Sem.run_bind, Sem.run_pure, Result.andThen_ok, run_underlying Try.underlying9 w]
    rw [if_pos a1, Int.toNat_natCast, h1]
    rfl
  · simp only [asIntOf, Sem.run_bind, Sem.run_pure, Result.andThen_ok, run_underlying Try.underlying46 w]
    rw [if_pos a1, Int.toNat_natCast, h1]
    rfl
theorem ext_strB (l : List UInt8) (i j : Nat) : (strB l).extract i j = strB ((l.take j).drop i) := by
  apply ByteArray.ext
  simp [strB, List.drop_take]

set_option maxRecDepth 20000 in
theorem cut_none (c : UInt8) (w : World) (l : List UInt8) (h : c ∉ l) :
    Calls Try.prog 50 #[.string (strB l), .string ⟨#[c]⟩] w fun e w' => e = .returned (.tuple #[.string (strB l), .string (strB []), .bool false]) ∧ w' = w := by
  have e1 : Lib.indexByte (strB l).data.toList c = -1 := by rw [strB_list]; exact Pt.indexByte_none h
  go_enter Try.func50, Try.ntmps50
  go_wp2_with fail
  refine (Try.stringslite_Index_one (strB l) c w).mono ?_
  rintro e w' ⟨rfl, rfl⟩
  rw [e1]
  go_wp2
  go_ret3
  exact ⟨rfl, rfl⟩
set_option maxRecDepth 20000 in
theorem cut_some (c : UInt8) (w : World) (p r : List UInt8) (h : c ∉ p) (hb : (p ++ c :: r).length ≤ 4611686018427387904) :
    Calls Try.prog 50 #[.string (strB (p ++ c :: r)), .string ⟨#[c]⟩] w fun e w' => e = .returned (.tuple #[.string (strB p), .string (strB r), .bool true]) ∧ w' = w.drew := by
  have e1 : Lib.indexByte (strB (p ++ c :: r)).data.toList c = p.length := by rw [strB_list]; exact Pt.indexByte_app h
  have hs := strB_size (p ++ c :: r)
  have hlen : (p ++ c :: r).length = p.length + 1 + r.length := by simp; omega
  have x1 : (strB (p ++ c :: r)).extract 0 p.length = strB p := by rw [ext_strB]; simp
  have x2 : (strB (p ++ c :: r)).extract (p.length + 1) (p.length + 1 + r.length) = strB r := by rw [← hlen, ext_strB, List.take_length, show p.length + 1 = (p ++ [c]).length by simp, show p ++ c :: r = (p ++ [c]) ++ r by simp, List.drop_left]
  generalize hS : strB (p ++ c :: r) = S at *
  go_enter Try.func50, Try.ntmps50
  go_wp2_with fail
  refine (Try.stringslite_Index_one S c w).mono ?_
  rintro e w' ⟨rfl, rfl⟩
  rw [e1]
  go_wp2_with fail
  go_region
  go_wp2_with fail
  go_ret3
  exact ⟨rfl, rfl⟩
set_option maxRecDepth 20000 in
theorem scut_none (c : UInt8) (w : World) (l : List UInt8) (h : c ∉ l) :
    Calls Try.prog 36 #[.string (strB l), .string ⟨#[c]⟩] w fun e w' => e = .returned (.tuple #[.string (strB l), .string (strB []), .bool false]) ∧ w' = w := by
  go_enter Try.func36, Try.ntmps36
  go_wp2_with fail
  refine (cut_none c w l h).mono ?_
  rintro e w' ⟨rfl, rfl⟩
  go_wp2
  go_ret3
  exact ⟨rfl, rfl⟩
set_option maxRecDepth 20000 in
theorem scut_some (c : UInt8) (w : World) (p r : List UInt8) (h : c ∉ p) (hb : (p ++ c :: r).length ≤ 4611686018427387904) :
    Calls Try.prog 36 #[.string (strB (p ++ c :: r)), .string ⟨#[c]⟩] w fun e w' => e = .returned (.tuple #[.string (strB p), .string (strB r), .bool true]) ∧ w' = w.drew := by
  go_enter Try.func36, Try.ntmps36
  go_wp2_with fail
  refine (cut_some c w p r h hb).mono ?_
  rintro e w' ⟨rfl, rfl⟩
  go_wp2
  go_ret3
  exact ⟨rfl, rfl⟩

/-! ### where a byte stands; below -/
set_option maxRecDepth 20000 in
theorem below_any (w : World) (l d : List UInt8) :
    Calls Try.prog 26 #[.string (strB l), .string (strB d)] w fun e w' => e = .returned (.bool (Pt.below l d)) ∧ w' = w := by
  have hd := toL d
  have c1 := Try.strings_CutPrefix (strB l) (strB d) w
  rw [strB_list, strB_list] at c1
  by_cases h1 : d.isPrefixOf l = true
  · have h1' : Lib.hasPrefix l d = true := h1
    have e1 : Lib.trimPrefix l d = l.drop d.length := by unfold Lib.trimPrefix; rw [if_pos h1']
    rw [h1', e1] at c1
    have hr := toL (l.drop d.length)
    have hix := fun h => index_str 9 (.inl rfl) w (l.drop d.length) .i64 0 h
    unfold Pt.below
    rw [h1]
    change Calls _ _ _ _ fun e w' => e = .returned (.tuple #[.string (strB (l.drop d.length)), .bool true]) ∧ w' = w at c1
    generalize l.drop d.length = r at *
    by_cases h2 : d = []
    · subst h2
      go_enter Try.func26, Try.ntmps26
      go_wp2_with fail
      refine c1.mono ?_
      rintro e w' ⟨rfl, rfl⟩
      go_wp2
      go_ret
      exact ⟨ret_bool (by simp), rfl⟩
    by_cases h3 : r = []
    · subst h3
      have b2 : (d == []) = false := by simp [h2]
      go_enter Try.func26, Try.ntmps26
      go_wp2_with fail
      refine c1.mono ?_
      rintro e w' ⟨rfl, rfl⟩
      go_wp2
      go_ret
      exact ⟨ret_bool (by simp), rfl⟩
    · have b2 : (d == []) = false := by simp [h2]
      have b3 : (r == []) = false := by simp [h3]
      have hlr : 0 < r.length := List.length_pos_iff.2 h3
      have hix' := hix hlr
      have hh : r.head? = some (r[0]'hlr) := by rw [List.head?_eq_getElem?]; simp [hlr]
      rw [hh]
      clear hix
      have hz : ∀ h : 0 < (strB r).size, (strB r)[0]'h = r[0]'hlr := fun h => rfl
      generalize r[0]'hlr = c at *
      go_enter Try.func26, Try.ntmps26
      go_wp2_with fail
      refine c1.mono ?_
      rintro e w' ⟨rfl, rfl⟩
      go_wp2
      go_ret
      refine ⟨ret_bool ?_, rfl⟩
      by_cases hc : c = 47
      · subst hc; simp [h2, h3]
      · have hc2 : ¬ (c.toNat : Int) = 47 := fun e => hc (UInt8.toNat_inj.1 (by simpa using Int.ofNat.inj e))
        simp [h2, h3, hc, hc2]
  · have h1' : Lib.hasPrefix l d = false := eq_false_of_ne_true h1
    have hb : Pt.below l d = false := by unfold Pt.below; rw [show d.isPrefixOf l = false from eq_false_of_ne_true h1]; rfl
    rw [h1'] at c1
    rw [hb]
    go_enter Try.func26, Try.ntmps26
    go_wp2_with fail
    refine c1.mono ?_
    rintro e w' ⟨rfl, rfl⟩
    go_wp2
    go_ret
    exact ⟨rfl, rfl⟩
end Go.Proofs.Ytkihldkaiddbkab
