/-
  What the smallest functions answer: isName, strings.Clone, slices.Clone. Conditions: lengths within reach.
-/
import Derived.Test.YtlejgdjkdbamkaaPure
import Derived.Test.YtlejgdjkdbamkaaChg
import Derived.Lib.AppendStr
import Derived.Laws.IdiomStrings
namespace Go.Proofs.Ytlejgdjkdbamkaa
open Go.RowKit

/-- A text of these bytes. -/
def strB (l : List UInt8) : ByteArray := ⟨l.toArray⟩
theorem strB_list (l : List UInt8) : (strB l).data.toList = l := by simp [strB]
theorem strB_size (l : List UInt8) : (strB l).size = l.length := by simp [strB, ByteArray.size]
theorem strB_of (s : ByteArray) : strB s.data.toList = s := by simp [strB]
theorem strB_inj {a b : List UInt8} (h : strB a = strB b) : a = b := by rw [← strB_list a, h, strB_list]
/-- A text's bytes as cells. -/
def bc (l : List UInt8) : List Value := l.map fun c => Value.int .u8 (c.toNat : Int)
theorem bc_length (l : List UInt8) : (bc l).length = l.length := by simp [bc]
theorem bc_append (a b : List UInt8) : bc (a ++ b) = bc a ++ bc b := by simp [bc]
theorem bc_take (a : List UInt8) (n : Nat) : bc (a.take n) = (bc a).take n := by simp [bc]
theorem bc_get (l : List UInt8) (j : Nat) (h : j < l.length) : (bc l)[j]? = some (.int .u8 ((l[j]'h).toNat : Int)) := by simp [bc, h]
theorem bc_one (l : List UInt8) : ∀ u ∈ bc l, u.oneCell' = true := by
  intro u hu
  obtain ⟨c, _, rfl⟩ := List.mem_map.1 hu
  rfl

theorem index_str (w : World) (l : List UInt8) (kd : IntKind) (k : Nat) (h : k < l.length) : (Instr.index 9 (.string (strB l)) (.int kd (k : Int))).run Try.prog w = .ok (.int .u8 ((l.getD k 0).toNat : Int)) w := by
  have a1 : (0 : Int) ≤ (k : Int) := by omega
  have h1 : (strB l)[k]? = some (l.getD k 0) := by
    have hs : k < (strB l).size := by rw [strB_size]; exact h
    rw [getElem?_pos (strB l) k hs]
    simp only [strB, List.getD, List.getElem?_eq_getElem h]
    rfl
  unfold Instr.index
  simp only [asIntOf, Sem.run_bind, Sem.run_pure, Result.andThen_ok, run_underlying Try.underlying9 w]
  rw [if_pos a1, Int.toNat_natCast, h1]
  rfl
theorem ret_bool {a b : Bool} (h : a = b) : Ending.returned (.bool a) = .returned (.bool b) := by rw [h]
theorem ret_int {a b : Int} (h : a = b) : Ending.returned (.int .i64 a) = .returned (.int .i64 b) := by rw [h]
theorem isNm_false {l : List UInt8} {k : Nat} (h : k < l.length) (hc : (l.getD k 0).toNat < 33 ∨ 126 < (l.getD k 0).toNat) : isNm l = false := by
  have hin : l.getD k 0 ∈ l := by simp [List.getD, List.getElem?_eq_getElem h]
  cases hb : isNm l with
  | false => rfl
  | true =>
    exfalso
    simp only [isNm, Bool.and_eq_true, decide_eq_true_eq, List.all_eq_true] at hb
    have := hb.2 _ hin
    omega
theorem isNm_true {l : List UInt8} (h1 : 1 ≤ l.length) (h2 : l.length ≤ 80) (h : ∀ j, j < l.length → 33 ≤ (l.getD j 0).toNat ∧ (l.getD j 0).toNat ≤ 126) : isNm l = true := by
  simp only [isNm, Bool.and_eq_true, decide_eq_true_eq, List.all_eq_true]
  refine ⟨⟨h1, h2⟩, fun x hx => ?_⟩
  obtain ⟨j, hj, rfl⟩ := List.getElem_of_mem hx
  have := h j hj
  simpa [List.getD, List.getElem?_eq_getElem hj] using this
theorem isNm_len {l : List UInt8} (h : isNm l = true) : 1 ≤ l.length ∧ l.length ≤ 80 := by
  simp only [isNm, Bool.and_eq_true, decide_eq_true_eq] at h
  exact h.1

set_option maxRecDepth 20000 in
theorem isName_any (w : World) (l : List UInt8) :
    Calls Try.prog 46 #[.string (strB l)] w fun e w' => e = .returned (.bool (isNm l)) ∧ w' = w := by
  have hsz := strB_size l
  by_cases h1 : l.length < 1
  · have : isNm l = false := by simp [isNm]; omega
    rw [this]
    go_enter Try.func46, Try.ntmps46
    go_wp2
    go_ret
    exact ⟨rfl, rfl⟩
  by_cases h2 : 80 < l.length
  · have : isNm l = false := by simp [isNm]; omega
    rw [this]
    go_enter Try.func46, Try.ntmps46
    go_wp2
    go_ret
    exact ⟨rfl, rfl⟩
  go_enter Try.func46, Try.ntmps46
  go_wp2
  go_loop [14] (fun x => ∃ k : Nat, k ≤ l.length ∧ x = .int .i64 (k : Int) ∧ ∀ j, j < k → 33 ≤ (l.getD j 0).toNat ∧ (l.getD j 0).toNat ≤ 126) (fun x => l.length - (intOf x).toNat)
  case atStart => exact ⟨0, Nat.zero_le _, rfl, fun j hj => absurd hj (Nat.not_lt_zero j)⟩
  case round =>
    obtain ⟨k, hk, rfl, hall⟩ := hrel
    by_cases hlt : k < l.length
    · have hi := index_str w l .i64 k hlt
      have hc := (l.getD k 0).toNat_lt
      by_cases hlo : (l.getD k 0).toNat < 33
      · have hf := isNm_false hlt (Or.inl hlo)
        have HF := hide hf
        clear hf
        generalize l.getD k 0 = c at *
        go_wp2
        go_ret
        exact ⟨ret_bool HF.out.symm, rfl⟩
      by_cases hhi : 126 < (l.getD k 0).toNat
      · have hf := isNm_false hlt (Or.inr hhi)
        have HF := hide hf
        clear hf
        generalize l.getD k 0 = c at *
        go_wp2
        go_ret
        exact ⟨ret_bool HF.out.symm, rfl⟩
      have HK : Hid (33 ≤ (l.getD k 0).toNat ∧ (l.getD k 0).toNat ≤ 126) := ⟨by omega, by omega⟩
      have HA := hide hall
      clear hall
      generalize hcc : l.getD k 0 = c at *
      have HCC := hide hcc
      clear hcc
      go_wp2
      go_round
      case rel =>
        refine ⟨k + 1, by omega, by go_num, fun j hj => ?_⟩
        by_cases e : j = k
        · subst e; rw [HCC.out]; exact HK.out
        · exact HA.out j (by omega)
      case measure => simp [intOf]; omega
    · have hkl : k = l.length := by omega
      subst hkl
      have HF := hide (isNm_true (by omega) (by omega) hall)
      clear hall
      go_wp2
      go_ret
      exact ⟨ret_bool HF.out.symm, rfl⟩
end Go.Proofs.Ytlejgdjkdbamkaa
