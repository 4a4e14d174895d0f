/-
  What the chunk under way does: highest, full, take. Conditions: it lies there; nothing ended within it.
-/
import Derived.Test.YthkhmjdenenikaaBase
import Derived.Test.YthkhmjdenenikaaSteps
namespace Go.Proofs.Ythkhmjdenenikaa
open Go.RowKit

/-- At g lies a chunk that has h; r lies behind it. -/
def KAt (w : World) (g : Nat) (t : TypeId) (n : Int) (s : UInt64) (r : List Value) : Prop :=
  w.heap[g]? = some (.cells (.int .i64 n :: .int .u64 (u s) :: r).toArray t (0, 0))
def CkAt (w : World) (g : Nat) (t : TypeId) (h : List UInt8) (r : List Value) : Prop := KAt w g t (h.length : Int) (sm h) r
theorem KAt.size {w : World} {g : Nat} {t : TypeId} {n : Int} {s : UInt64} {r : List Value} (h : KAt w g t n s r) : w.cell? ⟨g, 0, none⟩ = some (.int .i64 n) := by
  rw [cell_of h]; rfl
theorem KAt.sum {w : World} {g : Nat} {t : TypeId} {n : Int} {s : UInt64} {r : List Value} (h : KAt w g t n s r) : w.cell? ⟨g, 1, none⟩ = some (.int .u64 (u s)) := by
  rw [cell_of h]; rfl
theorem KAt.setSize {w : World} {g : Nat} {t : TypeId} {n : Int} {s : UInt64} {r : List Value} (h : KAt w g t n s r) (m : Int) : KAt (w.setCell ⟨g, 0, none⟩ (.int .i64 m)) g t m s r := by
  unfold KAt; rw [heap_set h]; rfl
theorem KAt.setSum {w : World} {g : Nat} {t : TypeId} {n : Int} {s : UInt64} {r : List Value} (h : KAt w g t n s r) (m : UInt64) : KAt (w.setCell ⟨g, 1, none⟩ (.int .u64 (u m))) g t n m r := by
  unfold KAt; rw [heap_set h]; rfl

set_option maxRecDepth 20000 in
theorem highest10 (w : World) (g : Nat) (t : TypeId) (n : Int) (s : UInt64) (r : List Value) (h : KAt w g t n s r) :
    Calls Try.prog 24 #[.pointer (some ⟨g, 0, none⟩), .int .i64 10] w fun e w' => e = .returned (.int .u64 (u (s >>> 54))) ∧ w' = w := by
  have hs := h.sum
  clear h
  go_enter Try.func24, Try.ntmps24
  go_wp2
  go_ret
  exact ⟨ret_int (u_shr' s 54 54 _ rfl (by decide) rfl), rfl⟩
set_option maxRecDepth 20000 in
theorem highest6 (w : World) (g : Nat) (t : TypeId) (n : Int) (s : UInt64) (r : List Value) (h : KAt w g t n s r) :
    Calls Try.prog 24 #[.pointer (some ⟨g, 0, none⟩), .int .i64 6] w fun e w' => e = .returned (.int .u64 (u (s >>> 58))) ∧ w' = w := by
  have hs := h.sum
  clear h
  go_enter Try.func24, Try.ntmps24
  go_wp2
  go_ret
  exact ⟨ret_int (u_shr' s 58 58 _ rfl (by decide) rfl), rfl⟩
theorem u_zero (x : UInt64) : (u x == 0) = (x == 0) := by
  rcases Bool.eq_false_or_eq_true (x == 0) with h | h
  · rw [h]; have := eq_of_beq h; subst this; rfl
  · rw [h]
    refine beq_eq_false_iff_ne.2 (fun e => ?_)
    have : x = 0 := u_inj e
    rw [this] at h
    cases h
set_option maxRecDepth 20000 in
theorem full_any (w : World) (g : Nat) (t : TypeId) (n : Nat) (s : UInt64) (r : List Value) (h : KAt w g t (n : Int) s r) :
    Calls Try.prog 23 #[.pointer (some ⟨g, 0, none⟩)] w fun e w' => e = .returned (.bool (full n s)) ∧ w' = w := by
  have hz := h.size
  have H := hide h
  clear h
  by_cases h1 : n ≤ 64
  · have hf : full n s = false := by unfold full; rw [if_pos h1]
    go_enter Try.func23, Try.ntmps23
    go_wp2
    go_ret
    exact ⟨ret_bool hf.symm, rfl⟩
  by_cases h2 : n ≤ 256
  · have hf : full n s = (s >>> 54 == 0) := by unfold full; rw [if_neg h1, if_pos h2]
    go_enter Try.func23, Try.ntmps23
    go_wp2_with fail
    refine (highest10 _ g t n s r H.out).mono ?_
    rintro e w1 ⟨rfl, rfl⟩
    go_wp2
    go_ret
    exact ⟨ret_bool (by rw [hf, u_zero]), rfl⟩
  by_cases h3 : n < 1024
  · have hf : full n s = (s >>> 58 == 0) := by unfold full; rw [if_neg h1, if_neg h2, if_pos h3]
    go_enter Try.func23, Try.ntmps23
    go_wp2_with fail
    refine (highest6 _ g t n s r H.out).mono ?_
    rintro e w1 ⟨rfl, rfl⟩
    go_wp2
    go_ret
    exact ⟨ret_bool (by rw [hf, u_zero]), rfl⟩
  · have hf : full n s = true := by unfold full; rw [if_neg h1, if_neg h2, if_neg h3]
    go_enter Try.func23, Try.ntmps23
    go_wp2
    go_ret
    exact ⟨ret_bool hf.symm, rfl⟩

theorem info_chunk : (Try.prog.info? 44).map (·.size) = some 2 := by kernel_rfl
theorem w_two (s : UInt64) : IntKind.u64.wrap (2 * u s) = u (2 * s) := by rw [Int.mul_comm, w_mul s 2 2 rfl, UInt64.mul_comm]

set_option maxRecDepth 20000 in
theorem take_any (w : World) (g : Nat) (t : TypeId) (h : List UInt8) (r : List Value) (c : UInt8) (k : CkAt w g t h r) (kh : Hd h) :
    Calls Try.prog 20 #[.pointer (some ⟨g, 0, none⟩), .int .u8 (c.toNat : Int)] w fun e w' => e = .returned (.bool (ended (h ++ [c]))) ∧ CkAt w' g t (if ended (h ++ [c]) then [] else h ++ [c]) r ∧ Chg (fun j => j = g) w w' := by
  have hlt := kh.lt
  have hz := KAt.size k
  have hf0 := thawed k 0
  have e1 := sm_snoc h c
  have el : (h ++ [c]).length = h.length + 1 := by simp
  have k1 := KAt.setSize k ((h.length : Int) + 1)
  have C1 : Chg (fun j => j = g) w (w.setCell ⟨g, 0, none⟩ (.int .i64 ((h.length : Int) + 1))) := Chg.setCell (F := fun j => j = g) (Chg.refl _ w) (p := ⟨g, 0, none⟩) (.inl rfl) _
  unfold ended
  rw [el]
  obtain ⟨b, hb⟩ : ∃ b, b = full (h.length + 1) (sm (h ++ [c])) := ⟨_, rfl⟩
  obtain ⟨h', hh'⟩ : ∃ h', h' = if b = true then [] else h ++ [c] := ⟨_, rfl⟩
  rw [← hb, ← hh']
  have HB := hide hb
  have HH := hide hh'
  clear hb hh'
  generalize hw1 : w.setCell ⟨g, 0, none⟩ (.int .i64 ((h.length : Int) + 1)) = w1 at *
  have hz1 := k1.size
  have hs1 := k1.sum
  have hf1 := thawed k1 1
  by_cases h64 : h.length + 1 > 64
  · rw [if_pos h64] at e1
    have k2 := k1.setSum (nxt (sm h) c)
    have C2 : Chg (fun j => j = g) w (w1.setCell ⟨g, 1, none⟩ (.int .u64 (u (nxt (sm h) c)))) := C1.setCell (p := ⟨g, 1, none⟩) (.inl rfl) _
    have ew := w_two (sm h)
    have ea := w_add (2 * sm h) (tab c)
    have K1 := hide k1
    have K2 := hide (And.intro k2 C2)
    clear k1 k2 C1 C2 k
    go_enter Try.func20, Try.ntmps20
    go_wp2_with fail
    refine wp_region_held_drew (S := fun _ => True) (by kernel_rfl) (trivial) (fun hHeld => ?_)
    refine takeH (i := 0) (v := ?_) rfl (by kernel_rfl) (by kernel_rfl) (by kernel_rfl) (fun _ _ _ h => h) rfl ?_ hHeld ?_
    rotate_left
    · intro w _; go_simp; first | done | (with_reducible rfl)
    try simp only [Act.put, List.setIfInBounds_toArray, List.set_cons_zero, List.set_cons_succ]
    refine takeH (i := 1) (v := ?_) rfl (by kernel_rfl) (by kernel_rfl) (by kernel_rfl) (fun _ _ _ h => h) rfl ?_ hHeld ?_
    rotate_left
    · intro w _; go_simp; first | done | (with_reducible rfl)
    try simp only [Act.put, List.setIfInBounds_toArray, List.set_cons_zero, List.set_cons_succ]
    refine takeH (i := 2) (v := ?_) rfl (by kernel_rfl) (by kernel_rfl) (by kernel_rfl) (fun _ _ _ h => h) rfl ?_ hHeld ?_
    rotate_left
    · intro w _; go_simp; first | done | (with_reducible rfl)
    try simp only [Act.put, List.setIfInBounds_toArray, List.set_cons_zero, List.set_cons_succ]
    refine takeH (i := 3) (v := ?_) rfl (by kernel_rfl) (by kernel_rfl) (by kernel_rfl) (fun _ _ _ h => h) rfl ?_ hHeld ?_
    rotate_left
    · intro w _; go_simp; first | done | (with_reducible rfl)
    try simp only [Act.put, List.setIfInBounds_toArray, List.set_cons_zero, List.set_cons_succ]
    refine takeH (i := 6) (v := ?_) rfl (by kernel_rfl) (by kernel_rfl) (by kernel_rfl) (fun _ _ _ h => h) rfl ?_ hHeld ?_
    rotate_left
    · intro w _; go_simp; first | done | (with_reducible rfl)
    try simp only [Act.put, List.setIfInBounds_toArray, List.set_cons_zero, List.set_cons_succ]
    refine twoH (i := 4) (j := 7) rfl rfl (by kernel_rfl) rfl rfl (fun K hK => ?_) (fun K hK => ?_)
    · go_simp
      refine hK.out _ _ (trivial) (fun hHeld => ?_)
      clear hK K
      try simp only [Act.put, List.setIfInBounds_toArray, List.set_cons_zero, List.set_cons_succ]
      refine takeH (i := 5) (v := ?_) rfl (by kernel_rfl) (by kernel_rfl) (by kernel_rfl) (fun _ _ _ h => h) rfl ?_ hHeld ?_
      rotate_left
      · intro w _; go_simp; first | done | (with_reducible rfl)
      try simp only [Act.put, List.setIfInBounds_toArray, List.set_cons_zero, List.set_cons_succ]
      refine onlyH (i := 7) rfl (by kernel_rfl) rfl (fun K hK => ?_)
      go_simp
      refine (table_any _ c).mono ?_
      rintro e w2 ⟨rfl, rfl⟩
      go_simp
      refine hK.out _ _ (trivial) (fun hHeld => ?_)
      clear hK K
      try simp only [Act.put, List.setIfInBounds_toArray, List.set_cons_zero, List.set_cons_succ]
      refine takeH (i := 8) (v := ?_) rfl (by kernel_rfl) (by kernel_rfl) (by kernel_rfl) (fun _ _ _ h => h) rfl ?_ hHeld ?_
      rotate_left
      · intro w _; go_simp; first | done | (with_reducible rfl)
      try simp only [Act.put, List.setIfInBounds_toArray, List.set_cons_zero, List.set_cons_succ]
      refine takeH (i := 9) (v := ?_) rfl (by kernel_rfl) (by kernel_rfl) (by kernel_rfl) (fun _ _ _ h => h) rfl ?_ hHeld ?_
      rotate_left
      · intro w _; go_simp; first | done | (with_reducible rfl)
      try simp only [Act.put, List.setIfInBounds_toArray, List.set_cons_zero, List.set_cons_succ]
      refine takeH (i := 10) (v := ?_) rfl (by kernel_rfl) (by kernel_rfl) (by kernel_rfl) (fun _ _ _ h => h) rfl ?_ hHeld ?_
      rotate_left
      · intro w _; go_simp; first | done | (with_reducible rfl)
      try simp only [Act.put, List.setIfInBounds_toArray, List.set_cons_zero, List.set_cons_succ]
      refine onlyH (i := 11) rfl (by kernel_rfl) rfl (fun K hK => ?_)
      go_simp
      refine hK.out _ _ (trivial) (fun hHeld => ?_)
      clear hK K
      try simp only [Act.put, List.setIfInBounds_toArray, List.set_cons_zero, List.set_cons_succ]
      refine wpAnyH_done (by kernel_rfl) ?_ _
      have k3 : KAt (w1.setCell ⟨g, 1, none⟩ (.int .u64 (u (2 * sm h + tab c)))).drew g t ((h.length + 1 : Nat) : Int) (nxt (sm h) c) r := K2.out.1
      have C3 : Chg (fun j => j = g) w (w1.setCell ⟨g, 1, none⟩ (.int .u64 (u (2 * sm h + tab c)))).drew := K2.out.2.drew
      generalize (w1.setCell ⟨g, 1, none⟩ (.int .u64 (u (2 * sm h + tab c)))).drew = w2 at *
      have hfn := full_any _ _ _ _ _ _ k3
      have K3 := hide k3
      have C4 := hide C3
      clear k3 C3 K2
      go_wp2_with fail
      refine hfn.mono ?_
      rintro e w3 ⟨rfl, rfl⟩
      cases hfu : full (h.length + 1) (nxt (sm h) c) with
      | false =>
        have hb2 : b = false := by rw [HB.out, e1, hfu]
        go_wp2
        go_ret
        refine ⟨ret_bool hb2.symm, ?_, C4.out⟩
        unfold CkAt
        rw [HH.out, hb2, if_neg (by simp), e1, el]
        exact K3.out
      | true =>
        have hb2 : b = true := by rw [HB.out, e1, hfu]
        have hz3 := KAt.size K3.out
        have hf3 := thawed K3.out 0
        have k4 := KAt.setSize K3.out 0
        have hs4 := k4.sum
        have hf4 := thawed k4 1
        have k5 := k4.setSum 0
        have C5 : Chg (fun j => j = g) w ((w3.setCell ⟨g, 0, none⟩ (.int .i64 0)).setCell ⟨g, 1, none⟩ (.int .u64 (u 0))) := (C4.out.setCell (p := ⟨g, 0, none⟩) (.inl rfl) _).setCell (p := ⟨g, 1, none⟩) (.inl rfl) _
        have K5 := hide k5
        have C6 := hide C5
        clear k4 k5 C5 hfn
        go_wp2
        go_ret
        refine ⟨ret_bool hb2.symm, ?_, C6.out⟩
        unfold CkAt
        rw [HH.out, hb2, if_pos rfl]
        exact K5.out

    · go_simp
      refine (table_any _ c).mono ?_
      rintro e w2 ⟨rfl, rfl⟩
      go_simp
      refine hK.out _ _ (trivial) (fun hHeld => ?_)
      clear hK K
      try simp only [Act.put, List.setIfInBounds_toArray, List.set_cons_zero, List.set_cons_succ]
      refine onlyH (i := 4) rfl (by kernel_rfl) rfl (fun K hK => ?_)
      go_simp
      refine hK.out _ _ (trivial) (fun hHeld => ?_)
      clear hK K
      try simp only [Act.put, List.setIfInBounds_toArray, List.set_cons_zero, List.set_cons_succ]
      refine takeH (i := 5) (v := ?_) rfl (by kernel_rfl) (by kernel_rfl) (by kernel_rfl) (fun _ _ _ h => h) rfl ?_ hHeld ?_
      rotate_left
      · intro w _; go_simp; first | done | (with_reducible rfl)
      try simp only [Act.put, List.setIfInBounds_toArray, List.set_cons_zero, List.set_cons_succ]
      refine takeH (i := 8) (v := ?_) rfl (by kernel_rfl) (by kernel_rfl) (by kernel_rfl) (fun _ _ _ h => h) rfl ?_ hHeld ?_
      rotate_left
      · intro w _; go_simp; first | done | (with_reducible rfl)
      try simp only [Act.put, List.setIfInBounds_toArray, List.set_cons_zero, List.set_cons_succ]
      refine takeH (i := 9) (v := ?_) rfl (by kernel_rfl) (by kernel_rfl) (by kernel_rfl) (fun _ _ _ h => h) rfl ?_ hHeld ?_
      rotate_left
      · intro w _; go_simp; first | done | (with_reducible rfl)
      try simp only [Act.put, List.setIfInBounds_toArray, List.set_cons_zero, List.set_cons_succ]
      refine takeH (i := 10) (v := ?_) rfl (by kernel_rfl) (by kernel_rfl) (by kernel_rfl) (fun _ _ _ h => h) rfl ?_ hHeld ?_
      rotate_left
      · intro w _; go_simp; first | done | (with_reducible rfl)
      try simp only [Act.put, List.setIfInBounds_toArray, List.set_cons_zero, List.set_cons_succ]
      refine onlyH (i := 11) rfl (by kernel_rfl) rfl (fun K hK => ?_)
      go_simp
      refine hK.out _ _ (trivial) (fun hHeld => ?_)
      clear hK K
      try simp only [Act.put, List.setIfInBounds_toArray, List.set_cons_zero, List.set_cons_succ]
      refine wpAnyH_done (by kernel_rfl) ?_ _
      have k3 : KAt (w1.setCell ⟨g, 1, none⟩ (.int .u64 (u (2 * sm h + tab c)))).drew g t ((h.length + 1 : Nat) : Int) (nxt (sm h) c) r := K2.out.1
      have C3 : Chg (fun j => j = g) w (w1.setCell ⟨g, 1, none⟩ (.int .u64 (u (2 * sm h + tab c)))).drew := K2.out.2.drew
      generalize (w1.setCell ⟨g, 1, none⟩ (.int .u64 (u (2 * sm h + tab c)))).drew = w2 at *
      have hfn := full_any _ _ _ _ _ _ k3
      have K3 := hide k3
      have C4 := hide C3
      clear k3 C3 K2
      go_wp2_with fail
      refine hfn.mono ?_
      rintro e w3 ⟨rfl, rfl⟩
      cases hfu : full (h.length + 1) (nxt (sm h) c) with
      | false =>
        have hb2 : b = false := by rw [HB.out, e1, hfu]
        go_wp2
        go_ret
        refine ⟨ret_bool hb2.symm, ?_, C4.out⟩
        unfold CkAt
        rw [HH.out, hb2, if_neg (by simp), e1, el]
        exact K3.out
      | true =>
        have hb2 : b = true := by rw [HB.out, e1, hfu]
        have hz3 := KAt.size K3.out
        have hf3 := thawed K3.out 0
        have k4 := KAt.setSize K3.out 0
        have hs4 := k4.sum
        have hf4 := thawed k4 1
        have k5 := k4.setSum 0
        have C5 : Chg (fun j => j = g) w ((w3.setCell ⟨g, 0, none⟩ (.int .i64 0)).setCell ⟨g, 1, none⟩ (.int .u64 (u 0))) := (C4.out.setCell (p := ⟨g, 0, none⟩) (.inl rfl) _).setCell (p := ⟨g, 1, none⟩) (.inl rfl) _
        have K5 := hide k5
        have C6 := hide C5
        clear k4 k5 C5 hfn
        go_wp2
        go_ret
        refine ⟨ret_bool hb2.symm, ?_, C6.out⟩
        unfold CkAt
        rw [HH.out, hb2, if_pos rfl]
        exact K5.out

  · rw [if_neg h64] at e1
    have hfl : full (h.length + 1) (sm h) = false := by unfold full; rw [if_pos (by omega)]
    have hfn := full_any _ _ _ (h.length + 1) _ _ k1
    rw [hfl] at hfn
    have hb2 : b = false := by rw [HB.out, e1, hfl]
    have K1 := hide k1
    have D1 := hide C1
    clear k1 C1 k
    go_enter Try.func20, Try.ntmps20
    go_wp2_with fail
    refine hfn.mono ?_
    rintro e w3 ⟨rfl, rfl⟩
    go_wp2
    go_ret
    refine ⟨ret_bool hb2.symm, ?_, D1.out⟩
    unfold CkAt
    rw [HH.out, hb2, if_neg (by simp), e1, el]
    exact K1.out
end Go.Proofs.Ythkhmjdenenikaa
