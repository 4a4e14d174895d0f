/-
  Entries' values made; what the reference says of entries. Conditions: lengths within reach.
-/
import Derived.Test.YtmlfonmdiimdfaaDoorOReader
namespace Go.Proofs.YtmlfonmdiimdfaaDoor
open Go.RowKit
variable {N : Nat}

theorem index_str (w : World) (l : List UInt8) (kd : IntKind) (k : Nat) (h : k < l.length) : (Instr.index 9 (.string (strB l)) (.int kd (k : Int))).run Tryd.prog w = .ok (.int .u8 ((l[k]'h).toNat : Int)) w := by
  have a1 : (0 : Int) ≤ (k : Int) := by omega
  have h1 : (strB l)[k]? = some (l[k]'h) := by
    have hs : k < (strB l).size := by rw [strB_size]; exact h
    rw [getElem?_pos (strB l) k hs]
    rfl
  unfold Instr.index
  simp only [asIntOf, Sem.run_bind, Sem.run_pure, Result.andThen_ok, run_underlying Tryd.underlying9 w]
  rw [if_pos a1, Int.toNat_natCast, h1]
  rfl
theorem name_false {l : List UInt8} {k : Nat} (hk : k < l.length) (h : l[k] = 47 ∨ l[k] = 0) : Pt.name l = false := by
  have hm := List.getElem_mem hk
  unfold Pt.name
  refine decide_eq_false ?_
  rintro ⟨_, _, _, _, h1, h2⟩
  rcases h with h | h
  · exact h1 (h ▸ hm)
  · exact h2 (h ▸ hm)
theorem name_true {l : List UInt8} (h1 : 1 ≤ l.length) (h2 : l.length ≤ 64) (h3 : l ≠ [46]) (h4 : l ≠ [46, 46]) (h : ∀ j (hj : j < l.length), l[j] ≠ 47 ∧ l[j] ≠ 0) : Pt.name l = true := by
  unfold Pt.name
  refine decide_eq_true ⟨h1, h2, h3, h4, fun hm => ?_, fun hm => ?_⟩
  · obtain ⟨j, hj, e⟩ := List.getElem_of_mem hm
    exact (h j hj).1 e
  · obtain ⟨j, hj, e⟩ := List.getElem_of_mem hm
    exact (h j hj).2 e
set_option maxRecDepth 20000 in
theorem rname_any (w : World) (l : List UInt8) :
    Calls Tryd.prog 124 #[.string (strB l)] w fun e w' => e = .returned (.bool (Pt.name l)) ∧ w' = w := by
  have hsz := strB_size l
  have hl := toL l
  by_cases h1 : l.length < 1
  · go_enter Tryd.func124, Tryd.ntmps124
    go_wp2
    go_ret
    exact ⟨ret_bool (by simp [Pt.name]; omega), rfl⟩
  by_cases h2 : 64 < l.length
  · go_enter Tryd.func124, Tryd.ntmps124
    go_wp2
    go_ret
    exact ⟨ret_bool (by simp [Pt.name]; omega), rfl⟩
  by_cases h3 : l = [46]
  · subst h3
    go_enter Tryd.func124, Tryd.ntmps124
    go_wp2
    go_ret
    exact ⟨ret_bool (by simp [Pt.name]), rfl⟩
  by_cases h4 : l = [46, 46]
  · subst h4
    go_enter Tryd.func124, Tryd.ntmps124
    go_wp2
    go_ret
    exact ⟨ret_bool (by simp [Pt.name]), rfl⟩
  have b3 : (l == [46]) = false := by simp [h3]
  have b4 : (l == [46, 46]) = false := by simp [h4]
  have q1 : 1 ≤ l.length := by omega
  have q2 : l.length ≤ 64 := by omega
  go_enter Tryd.func124, Tryd.ntmps124
  go_wp2
  go_loopw [3, 2] (fun v r wr => ∃ k : Nat, v = .int .i64 (k : Int) ∧ r = .bool false ∧ k ≤ l.length ∧ (∀ j (hj : j < l.length), j < k → l[j] ≠ 47 ∧ l[j] ≠ 0) ∧ wr = w)
    (fun v _ _ => l.length - (intOf v).toNat)
  case atStart => exact ⟨0, rfl, rfl, by omega, (fun j _ hj => by omega), rfl⟩
  case round =>
    obtain ⟨k, rfl, rfl, hk, hn, rfl⟩ := hrel
    by_cases hlt : k < l.length
    · have hix := fun W => index_str W l .i64 k hlt
      have hf := name_false hlt
      by_cases c1 : l[k] = 47
      · have hf := hf (.inl c1)
        rw [c1] at hix
        go_wp2
        go_ret
        exact ⟨ret_bool hf.symm, rfl⟩
      by_cases c2 : l[k] = 0
      · have hf := hf (.inr c2)
        rw [c2] at hix
        go_wp2
        go_ret
        exact ⟨ret_bool hf.symm, rfl⟩
      · have c1' : ¬ (l[k].toNat : Int) = 47 := fun e => c1 (UInt8.toNat_inj.1 (by simpa using Int.ofNat.inj e))
        have c2' : ¬ (l[k].toNat : Int) = 0 := fun e => c2 (UInt8.toNat_inj.1 (by simpa using Int.ofNat.inj e))
        have c1'' : ((l[k].toNat : Int) == 47) = false := by simpa using c1'
        have c2'' : ((l[k].toNat : Int) == 0) = false := beq_eq_false_iff_ne.2 c2'
        clear hf c1' c2'
        have hstep : ∀ j (hj : j < l.length), j < k + 1 → l[j] ≠ 47 ∧ l[j] ≠ 0 := fun j hj hjk => by
          by_cases e : j = k
          · subst e; exact ⟨c1, c2⟩
          · exact hn j hj (by omega)
        generalize l[k] = c at *
        go_wp2_with fail
        exact ⟨⟨k + 1, by go_num, rfl, by omega, hstep, trivial⟩, by simp [intOf]; omega⟩
    · have ht := name_true q1 q2 h3 h4 (fun j hj => hn j hj (by omega))
      have : k = l.length := by omega
      subst this
      go_wp2
      go_ret
      exact ⟨ret_bool ht.symm, rfl⟩
theorem risId_any (w : World) (s : Bs) : Calls Tryd.prog 95 #[.string (strB s)] w fun e w' => e = .returned (.bool (isIdB s)) ∧ w' = w := by
  have hs := strB_size s
  go_enter Tryd.func95, Tryd.ntmps95
  go_wp2
  go_ret
  refine ⟨ret_bool ?_, rfl⟩
  unfold isIdB
  (try rw [Bool.eq_iff_iff]); simp <;> omega
set_option maxRecDepth 20000 in
set_option maxHeartbeats 800000 in
theorem rentryRight_any (w : World) (name : Bs) (v : Val) :
    Calls Tryd.prog 85 #[.agg #[.string (strB name), .int .i64 v.1, .string (strB v.2.1), .int .i64 v.2.2]] w fun e w' => e = .returned (.bool (entryOk name v)) ∧ Below w.heap.size w w' := by
  have hb : Below w.heap.size w (w.alloc (.cells #[.string (strB name), .int .i64 v.1, .string (strB v.2.1), .int .i64 v.2.2] 61)) := (Below.refl _ _).alloc (Nat.le_refl _) _
  have hn := fun W => rname_any W name
  have hi := fun W => risId_any W v.2.1
  unfold entryOk valOk
  obtain ⟨k, i, n⟩ := v
  simp only at *
  generalize Pt.name name = q0 at *
  generalize isIdB i = q1 at *
  cases q0
  · go_enter Tryd.func85, Tryd.ntmps85
    go_wp2_with fail
    refine (hn _).mono ?_
    rintro e w1 ⟨rfl, rfl⟩
    go_wp2_with fail
    refine (hi _).mono ?_
    rintro e w1 ⟨rfl, rfl⟩
    go_wp2
    go_ret
    exact ⟨ret_bool (by simp), hb⟩
  cases q1
  · go_enter Tryd.func85, Tryd.ntmps85
    go_wp2_with fail
    refine (hn _).mono ?_
    rintro e w1 ⟨rfl, rfl⟩
    go_wp2_with fail
    refine (hi _).mono ?_
    rintro e w1 ⟨rfl, rfl⟩
    go_wp2
    go_ret
    exact ⟨ret_bool (by simp), hb⟩
  by_cases h1 : k = 1
  · subst h1
    by_cases h2 : 0 ≤ n
    · by_cases h3 : n ≤ 262144
      all_goals
        go_enter Tryd.func85, Tryd.ntmps85
        go_wp2_with fail
        refine (hn _).mono ?_
        rintro e w1 ⟨rfl, rfl⟩
        go_wp2_with fail
        refine (hi _).mono ?_
        rintro e w1 ⟨rfl, rfl⟩
        go_wp2
        go_ret
        exact ⟨ret_bool (by simp [sizeOk, h2, h3]), hb⟩
    · go_enter Tryd.func85, Tryd.ntmps85
      go_wp2_with fail
      refine (hn _).mono ?_
      rintro e w1 ⟨rfl, rfl⟩
      go_wp2_with fail
      refine (hi _).mono ?_
      rintro e w1 ⟨rfl, rfl⟩
      go_wp2
      go_ret
      exact ⟨ret_bool (by simp [sizeOk]; omega), hb⟩
  · have b1 : (k == 1) = false := by simpa using h1
    by_cases h2 : k = 2
    · subst h2
      by_cases h3 : 1 ≤ n
      · by_cases h4 : n ≤ 4096
        all_goals
          go_enter Tryd.func85, Tryd.ntmps85
          go_wp2_with fail
          refine (hn _).mono ?_
          rintro e w1 ⟨rfl, rfl⟩
          go_wp2_with fail
          refine (hi _).mono ?_
          rintro e w1 ⟨rfl, rfl⟩
          go_wp2
          go_ret
          exact ⟨ret_bool (by simp [sizeOk, h3, h4]), hb⟩
      · go_enter Tryd.func85, Tryd.ntmps85
        go_wp2_with fail
        refine (hn _).mono ?_
        rintro e w1 ⟨rfl, rfl⟩
        go_wp2_with fail
        refine (hi _).mono ?_
        rintro e w1 ⟨rfl, rfl⟩
        go_wp2
        go_ret
        exact ⟨ret_bool (by simp [sizeOk]; omega), hb⟩
    · have b2 : (k == 2) = false := by simpa using h2
      go_enter Tryd.func85, Tryd.ntmps85
      go_wp2_with fail
      refine (hn _).mono ?_
      rintro e w1 ⟨rfl, rfl⟩
      go_wp2_with fail
      refine (hi _).mono ?_
      rintro e w1 ⟨rfl, rfl⟩
      go_wp2
      go_ret
      exact ⟨ret_bool (by simp [sizeOk, h1, h2]), hb⟩
theorem rnumber_any (w : World) (n : Int) (h : In64 n) : Calls Tryd.prog 46 #[.int .i64 n] w fun e w' => ∃ v, e = .returned v ∧ w'.ownsRow w.heap.size 5 1 v (num n).length (bc (num n)) ∧ Below w.heap.size w w' := by
  go_enter Tryd.func46, Tryd.ntmps46
  go_wp2_with fail
  refine (refInt_any w n h.1 h.2).mono ?_
  rintro e w1 ⟨v, rfl, hown, hb⟩
  have HO := hide hown
  obtain ⟨a, c, rfl, -⟩ := own_form hown
  clear hown
  go_wp2
  go_ret
  exact ⟨_, rfl, HO.out, hb⟩
/-- What Entry answers. -/
def entryV (ok : Bool) (v : Val) : Value := if ok then .tuple #[.string (strB (valB v)), .int .i64 0] else .tuple #[.string (strB []), .int .i64 80]
theorem entryOk_64 {name : Bs} {v : Val} (h : entryOk name v = true) : In64 v.1 ∧ In64 v.2.2 ∧ v.2.1.length = 32 := by
  unfold entryOk valOk at h
  simp only [Bool.and_eq_true, isIdB, decide_eq_true_eq] at h
  obtain ⟨_, h1, h2⟩ := h
  unfold sizeOk at h2
  unfold In64
  split at h2
  · rename_i h3
    simp only [decide_eq_true_eq] at h2
    exact ⟨by omega, by omega, h1⟩
  · split at h2
    · rename_i h3
      simp only [decide_eq_true_eq] at h2
      exact ⟨by omega, by omega, h1⟩
    · cases h2
end Go.Proofs.YtmlfonmdiimdfaaDoor
