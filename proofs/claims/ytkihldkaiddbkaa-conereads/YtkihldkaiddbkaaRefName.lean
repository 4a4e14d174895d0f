/-
  What the document's own IsName answers. Conditions: none.
-/
import Derived.Test.YtkihldkaiddbkaaPath
namespace Go.Proofs.Ytkihldkaiddbkaa
open Go.RowKit

theorem name_false {l : List UInt8} {k : Nat} (hk : k < l.length) (h : l[k] = 47 ∨ l[k] = 0) : Pt.name l = false := by
  have hm := List.getElem_mem hk
  unfold Pt.name
  refine decide_eq_false ?_
  rintro ⟨_, _, _, _, h1, h2⟩
  rcases h with h | h
  · exact h1 (h ▸ hm)
  · exact h2 (h ▸ hm)
theorem name_true {l : List UInt8} (h1 : 1 ≤ l.length) (h2 : l.length ≤ 64) (h3 : l ≠ [46]) (h4 : l ≠ [46, 46]) (h : ∀ j (hj : j < l.length), l[j] ≠ 47 ∧ l[j] ≠ 0) : Pt.name l = true := by
  unfold Pt.name
  refine decide_eq_true ⟨h1, h2, h3, h4, fun hm => ?_, fun hm => ?_⟩
  · obtain ⟨j, hj, e⟩ := List.getElem_of_mem hm
    exact (h j hj).1 e
  · obtain ⟨j, hj, e⟩ := List.getElem_of_mem hm
    exact (h j hj).2 e
set_option maxRecDepth 20000 in
theorem rname_any (w : World) (l : List UInt8) :
    Calls Try.prog 53 #[.string (strB l)] w fun e w' => e = .returned (.bool (Pt.name l)) ∧ w' = w := by
  have hsz := strB_size l
  have hl := toL l
  by_cases h1 : l.length < 1
  · go_enter Try.func53, Try.ntmps53
    go_wp2
    go_ret
    exact ⟨ret_bool (by simp [Pt.name]; omega), rfl⟩
  by_cases h2 : 64 < l.length
  · go_enter Try.func53, Try.ntmps53
    go_wp2
    go_ret
    exact ⟨ret_bool (by simp [Pt.name]; omega), rfl⟩
  by_cases h3 : l = [46]
  · subst h3
    go_enter Try.func53, Try.ntmps53
    go_wp2
    go_ret
    exact ⟨ret_bool (by simp [Pt.name]), rfl⟩
  by_cases h4 : l = [46, 46]
  · subst h4
    go_enter Try.func53, Try.ntmps53
    go_wp2
    go_ret
    exact ⟨ret_bool (by simp [Pt.name]), rfl⟩
  have b3 : (l == [46]) = false := by simp [h3]
  have b4 : (l == [46, 46]) = false := by simp [h4]
  have q1 : 1 ≤ l.length := by omega
  have q2 : l.length ≤ 64 := by omega
  go_enter Try.func53, Try.ntmps53
  go_wp2
  go_loopw [3, 2] (fun v r wr => ∃ k : Nat, v = .int .i64 (k : Int) ∧ r = .bool false ∧ k ≤ l.length ∧ (∀ j (hj : j < l.length), j < k → l[j] ≠ 47 ∧ l[j] ≠ 0) ∧ wr = w)
    (fun v _ _ => l.length - (intOf v).toNat)
  case atStart => exact ⟨0, rfl, rfl, by omega, (fun j _ hj => by omega), rfl⟩
  case round =>
    obtain ⟨k, rfl, rfl, hk, hn, rfl⟩ := hrel
    by_cases hlt : k < l.length
    · have hix := fun W => index_str 9 (.inl rfl) W l .i64 k hlt
      have hf := name_false hlt
      by_cases c1 : l[k] = 47
      · have hf := hf (.inl c1)
        rw [c1] at hix
        go_wp2
        go_ret
        exact ⟨ret_bool hf.symm, rfl⟩
      by_cases c2 : l[k] = 0
      · have hf := hf (.inr c2)
        rw [c2] at hix
        go_wp2
        go_ret
        exact ⟨ret_bool hf.symm, rfl⟩
      · have c1' : ¬ (l[k].toNat : Int) = 47 := fun e => c1 (UInt8.toNat_inj.1 (by simpa using Int.ofNat.inj e))
        have c2' : ¬ (l[k].toNat : Int) = 0 := fun e => c2 (UInt8.toNat_inj.1 (by simpa using Int.ofNat.inj e))
        have c1'' : ((l[k].toNat : Int) == 47) = false := by simpa using c1'
        have c2'' : ((l[k].toNat : Int) == 0) = false := beq_eq_false_iff_ne.2 c2'
        clear hf c1' c2'
        have hstep : ∀ j (hj : j < l.length), j < k + 1 → l[j] ≠ 47 ∧ l[j] ≠ 0 := fun j hj hjk => by
          by_cases e : j = k
          · subst e; exact ⟨c1, c2⟩
          · exact hn j hj (by omega)
        generalize l[k] = c at *
        go_wp2_with fail
        exact ⟨⟨k + 1, by go_num, rfl, by omega, hstep, trivial⟩, by simp [intOf]; omega⟩
    · have ht := name_true q1 q2 h3 h4 (fun j hj => hn j hj (by omega))
      have : k = l.length := by omega
      subst this
      go_wp2
      go_ret
      exact ⟨ret_bool ht.symm, rfl⟩
end Go.Proofs.Ytkihldkaiddbkaa
