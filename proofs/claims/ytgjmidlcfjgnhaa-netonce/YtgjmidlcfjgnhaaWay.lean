/-
  A way: what comes of a frame that goes on it. Conditions: what it holds lies there; frames within reach, not empty.
-/
import Derived.Test.YtgjmidlcfjgnhaaTurned
import Derived.Laws.EntriesVeiled
namespace Go.Proofs.Ytgjmidlcfjgnhaa
open Go.RowKit

/-- A frame within reach. -/
def Fr (s : Bs) : Prop := s ≠ [] ∧ s.length ≤ 140737488355328
theorem Fr.turn {s : Bs} (h : Fr s) (f : Ft) : Fr (turnP f s) := by
  have := turnP_length f s
  refine ⟨fun e => h.1 (List.eq_nil_of_length_eq_zero (by rw [← this, e]; rfl)), by rw [this]; exact h.2⟩
theorem own_lit (w : World) (xs : List Bs) (hx : xs.length ≤ 1000) : Own (w.alloc (.cells (tc xs).toArray 9)) w.heap.size (.slice (some ⟨w.heap.size, 0, none⟩) xs.length xs.length) xs := by
  refine ⟨by rw [tc_length, Nat.mul_one], Or.inr ⟨w.heap.size, xs.length, (tc xs).toArray, rfl, Nat.le_refl _, heap_last w _, Nat.le_refl _, by unfold maxLen; omega, by simp [tc_length], ?_⟩⟩
  rw [Nat.mul_one, List.take_of_length_le (by simp [tc_length])]

set_option maxRecDepth 20000 in
set_option maxHeartbeats 1000000 in
theorem comingNow_any (w : World) (s : Bs) (f : Ft) (hs : Fr s) (ht : I64 f.2.1) :
    Calls Try.prog 26 #[.string (strB s), fv f] w fun e w' => ∃ v, e = .returned v ∧ Own w' w.heap.size v (comeP s f) ∧ Below w.heap.size w w' := by
  have htu := fun W => turned_any W s f hs.1 hs.2 ht
  have hb0 : Below w.heap.size w (w.alloc (.cells #[.int .i64 f.1, .int .i64 f.2.1, .int .u8 (f.2.2.toNat : Int)] 35)) := (Below.refl _ _).alloc (Nat.le_refl _) _
  have hf0 := heap_last w (.cells #[.int .i64 f.1, .int .i64 f.2.1, .int .u8 (f.2.2.toNat : Int)] 35)
  have hn0 : (w.alloc (.cells #[.int .i64 f.1, .int .i64 f.2.1, .int .u8 (f.2.2.toNat : Int)] 35)).heap.size = w.heap.size + 1 := by simp
  have c0 := cell_of hf0 0
  have c1 := cell_of hf0 1
  have c2 := cell_of hf0 2
  simp only [List.getElem?_toArray, List.getElem?_cons_zero, List.getElem?_cons_succ] at c0 c1 c2
  have HN := hide hn0
  unfold comeP
  unfold fv at htu ⊢
  obtain ⟨k, t, b⟩ := f
  simp only at *
  generalize hw0 : w.alloc (.cells #[.int .i64 k, .int .i64 t, .int .u8 (b.toNat : Int)] 35) = w0 at *
  clear hn0
  by_cases h1 : k = 0
  · rw [if_pos h1]
    subst h1
    go_enter Try.func26, Try.ntmps26
    go_wp2
    go_ret
    refine ⟨_, rfl, own_down (own_lit _ [s] (by simp)) (by rw [HN.out]; omega), hb0.alloc (by rw [HN.out]; omega) _⟩
  · rw [if_neg h1]
    by_cases h2 : k = 2
    · rw [if_pos h2]
      subst h2
      go_enter Try.func26, Try.ntmps26
      go_wp2_with fail
      refine (htu _).mono ?_
      rintro e w1 ⟨rfl, hb1⟩
      go_wp2
      go_ret
      have hb2 := hb0.trans (hb1.mono hb0.size)
      refine ⟨_, rfl, own_down (own_lit _ [_] (by simp)) hb2.size, hb2.alloc hb2.size _⟩
    · rw [if_neg h2]
      by_cases h4 : k = 4
      · rw [if_pos h4]
        subst h4
        go_enter Try.func26, Try.ntmps26
        go_wp2
        go_ret
        refine ⟨_, rfl, own_down (own_lit _ [s, s] (by simp)) (by rw [HN.out]; omega), hb0.alloc (by rw [HN.out]; omega) _⟩
      · rw [if_neg h4]
        have b1 : (k == 0) = false := by simp [h1]
        have b2 : (k == 2) = false := by simp [h2]
        have b4 : (k == 4) = false := by simp [h4]
        go_enter Try.func26, Try.ntmps26
        go_wp2
        go_ret
        exact ⟨_, rfl, World.ownsRow_nil _ _ _ _, hb0⟩
end Go.Proofs.Ytgjmidlcfjgnhaa
