/-
  Texts, made and read by the reference. Conditions: lengths within reach.
-/
import Derived.Test.YtldfjpgcemfpjaaS13ORTakeF
namespace Go.Proofs.Ytldfjpgcemfpjaa
open Go.RowKit
variable {N : Nat}

theorem rtext_any (w : World) (s : Bs) (h : s.length ≤ 140737488355318) : Calls Try.prog 41 #[.string (strB s)] w fun e w' => ∃ v, e = .returned v ∧ Ow w.heap.size w' v (txt s) ∧ Below w.heap.size w w' := by
  have hT := refText_any w (strB s) (by rw [strB_size]; exact h)
  rw [strB_list] at hT
  go_enter Try.func41, Try.ntmps41
  go_wp2_with fail
  refine hT.mono ?_
  rintro e w1 ⟨v, rfl, hown, hb⟩
  have HO := hide hown
  obtain ⟨a, c, rfl, -⟩ := own_form hown
  clear hown
  go_wp2
  go_ret
  exact ⟨_, rfl, HO.out, hb⟩
theorem txt_pos (t : Bs) : 1 ≤ (txt t).length ∧ (txt t).length ≤ 10 + t.length := by
  have := num_length (t.length : Int)
  unfold txt
  rw [List.length_append]
  omega
end Go.Proofs.Ytldfjpgcemfpjaa
