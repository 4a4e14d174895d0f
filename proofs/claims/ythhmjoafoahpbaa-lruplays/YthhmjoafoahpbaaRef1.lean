/-
  The reference's list of texts: find, Bytes, Keys, out, first, New. Conditions: the list lies there; few texts.
-/
import Derived.Test.YthhmjoafoahpbaaLast1
namespace Go.Proofs.Ythhmjoafoahpbaa
open Go.RowKit

theorem infoText : (Try.prog.info? 62).map (fun i => (i.zero, i.size, i.bytes)) = some (some (.agg #[.string ⟨#[]⟩, .string ⟨#[]⟩]), 2, 32) := by kernel_rfl
theorem sizeText (w : World) : (sizeOf 62).run Try.prog w = .ok 2 w := by kernel_rfl
/-- Texts as cells. -/
def kc : List Tx → List Value
  | [] => []
  | p :: r => .string (strB p.1) :: .string (strB p.2) :: kc r
theorem kc_append (l m : List Tx) : kc (l ++ m) = kc l ++ kc m := by
  induction l with
  | nil => rfl
  | cons p r ih => simp [kc, ih]
theorem kc_length (l : List Tx) : (kc l).length = l.length * 2 := by
  induction l with
  | nil => rfl
  | cons p r ih => simp [kc, ih]; omega
theorem kc_at : ∀ (l : List Tx) (j : Nat) (h : j < l.length), (kc l)[j * 2]? = some (.string (strB l[j].1)) ∧ (kc l)[j * 2 + 1]? = some (.string (strB l[j].2))
  | p :: r, 0, _ => ⟨rfl, rfl⟩
  | p :: r, j + 1, h => by
    have := kc_at r j (by simpa using h)
    rw [show (j + 1) * 2 = j * 2 + 1 + 1 by omega]
    simpa [kc] using this
theorem kc_one (l : List Tx) : ∀ u ∈ kc l, u.oneCell' = true := by
  induction l with
  | nil => intro u hu; cases hu
  | cons p r ih =>
    intro u hu
    simp only [kc, List.mem_cons] at hu
    rcases hu with rfl | rfl | hu
    · rfl
    · rfl
    · exact ih u hu
theorem own_pos {w : World} {base e size n cap : Nat} {ao : Option Addr} {xs : List Value} (h : w.ownsRow base e size (.slice ao n cap) n xs) (hn : 0 < n) :
    ∃ g, ao = some ⟨g, 0, none⟩ ∧ base ≤ g ∧ g < w.heap.size ∧ n ≤ cap ∧ ∀ j u, xs[j]? = some u → w.cell? ⟨g, j, none⟩ = some u := by
  have h0 := h
  rcases h.2 with ⟨hv, hn0⟩ | ⟨g, cap', cur, hv, hg, hh, hnc, -⟩
  · omega
  · injection hv with e1 e2 e3
    subst e1 e3
    refine ⟨g, rfl, hg, lt_of_heap hh, hnc, fun j u hu => ?_⟩
    have := World.ownsRow.cells h0 (g := g) rfl j u hu
    rw [Addr.add_lit, Nat.zero_add] at this
    exact this

/-- The reference S lies at r, in blocks of G. -/
structure Rf (w : World) (G : Nat → Prop) (r : Nat) (S : Lr) : Prop where
  lies : ∃ lv, w.heap[r]? = some (.cells #[lv, .int .i64 (S.budget : Int)] 54) ∧ w.ownsRow 0 62 2 lv S.l.length (kc S.l) ∧ ∀ k, lv.ownBlock = some k → G k
  here : G r
  inn : ∀ k, G k → k < w.heap.size
  few : S.l.length ≤ 1000
  short : ∀ p ∈ S.l, Short p
theorem Rf.keep {F G : Nat → Prop} {w w' : World} {r : Nat} {S : Lr} (h : Rf w G r S) (hc : Chg F w w') (hd : ∀ k, G k → ¬ F k) : Rf w' G r S := by
  obtain ⟨lv, h1, h2, h3⟩ := h.lies
  exact ⟨⟨lv, hc.keep h1 (hd r h.here), own_keep h2 hc (fun k hk => hd k (h3 k hk)), h3⟩, h.here, fun k hk => Nat.lt_of_lt_of_le (h.inn k hk) hc.size, h.few, h.short⟩
theorem Rf.quiet {G : Nat → Prop} {w w' : World} {r : Nat} {S : Lr} (h : Rf w G r S) (hc : Chg (fun _ => False) w w') : Rf w' G r S := h.keep hc (fun _ _ h => h)

theorem slice_to (W : World) (ao : Option Addr) (n cap i : Nat) (hi : i ≤ cap) : (Instr.slice 52 (.slice ao n cap) none (some (.int .i64 (i : Int))) none).run Try.prog W = .ok (.slice ao i cap) W := by
  have a1 : (i : Int) ≤ (cap : Int) := by omega
  simp [Instr.slice, run_underlying Try.underlying52, Instr.sliceBounds, run_sliceBound, a1, Result.andThen]
  intro _
  cases ao <;> simp [Addr.add]
theorem slice_from (g n cap i : Nat) (hi : i ≤ n) (hn : n ≤ cap) : ∃ off, (∀ W : World, (Instr.slice 52 (.slice (some ⟨g, 0, none⟩) n cap) (some (.int .i64 (i : Int))) none none).run Try.prog W = .ok (.slice (some ⟨g, off, none⟩) (n - i) (cap - i)) W) ∧ (i < n → off = i * 2) := by
  have a1 : (i : Int) ≤ (n : Int) := by omega
  by_cases hc : i < cap
  · refine ⟨i * 2, fun W => ?_, fun _ => rfl⟩
    have e : ¬ cap - i = 0 := by omega
    have e2 : ¬ cap = i := by omega
    simp [Instr.slice, run_underlying Try.underlying52, Instr.sliceBounds, run_sliceBound, a1, e2, Result.andThen, Addr.add]
    try (intro h; omega)
  · refine ⟨0, fun W => ?_, fun h => by omega⟩
    have e2 : cap = i := by omega
    have e3 : n = i := by omega
    subst e2 e3
    simp [Instr.slice, run_underlying Try.underlying52, Instr.sliceBounds, run_sliceBound, Result.andThen]

/-- Where a key's text is. -/
def idx (k : Bs) (l : List Tx) : Int := match l with
  | [] => -1
  | p :: r => if p.1 = k then 0 else if idx k r < 0 then -1 else idx k r + 1
theorem idx_none {k : Bs} {l : List Tx} (h : ∀ q ∈ l, q.1 ≠ k) : idx k l = -1 := by
  induction l with
  | nil => rfl
  | cons p r ih =>
    unfold idx
    rw [if_neg (h p (by simp)), ih (fun q hq => h q (by simp [hq]))]
    rfl
theorem idx_mid {k : Bs} {a b : List Tx} {v : Bs} (h : ∀ q ∈ a, q.1 ≠ k) : idx k (a ++ (k, v) :: b) = (a.length : Int) := by
  induction a with
  | nil => simp [idx]
  | cons p r ih =>
    rw [List.cons_append]
    unfold idx
    rw [if_neg (h p (by simp)), ih (fun q hq => h q (by simp [hq]))]
    rw [if_neg (by omega)]
    simp

set_option maxRecDepth 20000 in
set_option maxHeartbeats 800000 in
theorem find_any {w : World} {G : Nat → Prop} {r : Nat} {S : Lr} (h : Rf w G r S) (k : Bs) :
    Calls Try.prog 27 #[pt r, .string (strB k)] w fun e w' => e = .returned (.int .i64 (idx k S.l)) ∧ w' = w := by
  obtain ⟨lv, h1, h2, h3⟩ := h.lies
  have hfew := h.few
  obtain ⟨ao, cap, rfl⟩ := own_shape h2
  have c0 := cell_of h1 0
  simp at c0
  have tk := toL k
  unfold pt
  go_enter Try.func27, Try.ntmps27
  go_wp2_with fail
  go_loopw [5] (fun i wr => ∃ j : Nat, i = .int .i64 (j : Int) ∧ j ≤ S.l.length ∧ (∀ i (hi : i < S.l.length), i < j → S.l[i].1 ≠ k) ∧ w = wr)
    (fun i _ => S.l.length - (intOf i).toNat)
  case atStart => exact ⟨0, rfl, by omega, (fun i hi h => by omega), rfl⟩
  case round =>
    obtain ⟨j, rfl, hj, hall, rfl⟩ := hrel
    by_cases hlt : j < S.l.length
    · obtain ⟨g, rfl, -, -, -, hc⟩ := own_pos h2 (by omega)
      have h1 := hc _ _ (kc_at S.l j hlt).1
      have hj0 : ∀ i (hi : i < S.l.length), i < j + 1 → S.l[j].1 ≠ k → S.l[i].1 ≠ k := fun i hi hij hn => by
        by_cases e : i = j
        · subst e; exact hn
        · exact hall i hi (by omega)
      have hfd : S.l[j].1 = k → idx k S.l = (j : Int) := fun e => by
        have hs : S.l = S.l.take j ++ (k, S.l[j].2) :: S.l.drop (j + 1) := by
          conv => lhs; rw [← List.take_append_drop j S.l, List.drop_eq_getElem_cons hlt]
          rw [← e]
        rw [hs, idx_mid]
        · simp; omega
        · intro q hq
          obtain ⟨i, hi, rfl⟩ := List.getElem_of_mem hq
          rw [List.getElem_take]
          rw [List.length_take] at hi
          exact hall i (by omega) (by omega)
      have HF := hide hfd
      have HJ := hide hj0
      have H2 := hide h2
      clear hc hall h2 hfd hj0
      generalize hkx : S.l[j].1 = kx at *
      clear hkx
      have tx := toL kx
      by_cases hn : kx = k
      · have hfi := HF.out hn
        have HFI := hide hfi
        subst hn
        clear hfi
        go_wp2
        go_ret
        exact ⟨ret_int HFI.out.symm, rfl⟩
      · have hb := str_ne hn
        have HN := hide hn
        go_wp2
        exact ⟨⟨j + 1, by go_num, by omega, (fun i hi hij => HJ.out i hi hij HN.out), trivial⟩, by simp [intOf]; omega⟩
    · have hno : idx k S.l = -1 := idx_none fun q hq => by
        obtain ⟨i, hi, rfl⟩ := List.getElem_of_mem hq
        exact hall i hi (by omega)
      have HNO := hide hno
      clear hno hall
      go_wp2
      go_ret
      exact ⟨ret_int HNO.out.symm, rfl⟩

theorem tot_take_more {l : List Tx} {j : Nat} (h : j < l.length) : tot (l.take (j + 1)) = tot (l.take j) + wt l[j] := by
  have : l.take (j + 1) = l.take j ++ [l[j]] := by rw [List.take_add_one, List.getElem?_eq_getElem h]; rfl
  rw [this, tot_append]
  simp [tot]
theorem tot_take_le (l : List Tx) (j : Nat) : tot (l.take j) ≤ tot l := by
  have : tot l = tot (l.take j ++ l.drop j) := by rw [List.take_append_drop]
  rw [this, tot_append]
  omega
theorem Rf.tot_le {w : World} {G : Nat → Prop} {r : Nat} {S : Lr} (h : Rf w G r S) : tot S.l ≤ 281474976702464000 := by
  have h1 := tot_small h.short
  have := Nat.mul_le_mul_right 281474976702464 h.few
  omega

set_option maxRecDepth 20000 in
set_option maxHeartbeats 800000 in
theorem rbytes_any {w : World} {G : Nat → Prop} {r : Nat} {S : Lr} (h : Rf w G r S) :
    Calls Try.prog 20 #[pt r] w fun e w' => e = .returned (.int .i64 (tot S.l : Int)) ∧ Chg (fun _ => False) w w' := by
  obtain ⟨lv, h1, h2, h3⟩ := h.lies
  have hfew := h.few
  have htot := h.tot_le
  obtain ⟨ao, cap, rfl⟩ := own_shape h2
  unfold pt
  have c0' := cell_of h1 0
  simp at c0'
  go_enter Try.func20, Try.ntmps20
  go_wp2_with fail
  go_loopw [3, 4] (fun n i wr => ∃ j : Nat, i = .int .i64 (j : Int) ∧ j ≤ S.l.length ∧ n = .int .i64 (tot (S.l.take j) : Int) ∧ Chg (fun _ => False) w wr)
    (fun _ i _ => S.l.length - (intOf i).toNat)
  case atStart => exact ⟨0, rfl, by omega, rfl, Chg.refl _ _⟩
  case round =>
    obtain ⟨j, rfl, hj, rfl, hcr⟩ := hrel
    have c0 := cell_of (hcr.keep h1 (fun h => h)) 0
    simp at c0
    by_cases hlt : j < S.l.length
    · obtain ⟨g, rfl, -, -, -, hc⟩ := own_pos (own_keep h2 hcr (fun _ _ h => h)) (by omega)
      have k1 := hc _ _ (kc_at S.l j hlt).1
      have k2 := hc _ _ (kc_at S.l j hlt).2
      have htm := tot_take_more hlt
      have htl := tot_take_le S.l (j + 1)
      have hsh := h.short _ (List.getElem_mem hlt)
      generalize S.l[j] = p at *
      obtain ⟨pk, pv⟩ := p
      dsimp only at k1 k2
      obtain ⟨m1, m2⟩ := hsh
      simp only [wt] at htm m1 m2
      have z1 := strB_size pk
      have z2 := strB_size pv
      have HTM := hide htm
      rw [htm] at htl
      generalize hT : tot (S.l.take j) = T at *
      have hw1 : IntKind.i64.wrap ((T : Int) + (pk.length : Int)) = (T : Int) + (pk.length : Int) := by rw [IntKind.wrap_i64]; omega
      have hw2 : IntKind.i64.wrap ((T : Int) + (pk.length : Int) + (pv.length : Int)) = (T : Int) + (pk.length : Int) + (pv.length : Int) := by rw [IntKind.wrap_i64]; omega
      clear htm hc hT
      go_wp2_with fail
      refine wp_region_held_drew (S := fun W => W.cell? ⟨r, 0, none⟩ = some (.slice (some ⟨g, 0, none⟩) S.l.length cap) ∧ W.cell? ⟨g, j * 2, none⟩ = some (.string (strB pk)) ∧ W.cell? ⟨g, j * 2 + 1, none⟩ = some (.string (strB pv))) (by kernel_rfl) (⟨c0, k1, k2⟩) (fun hHeld => ?_)
      refine takeH (i := 0) (v := ?_) rfl (by kernel_rfl) (by kernel_rfl) (by kernel_rfl) (fun _ _ _ h => h) rfl ?_ hHeld ?_
      rotate_left
      · intro w hS; (try dsimp only at hS); obtain ⟨hS0, hS1, hS2⟩ := hS; go_simp; first | done | (with_reducible rfl)
      try simp only [Act.put, List.setIfInBounds_toArray, List.set_cons_zero, List.set_cons_succ]
      refine takeH (i := 1) (v := ?_) rfl (by kernel_rfl) (by kernel_rfl) (by kernel_rfl) (fun _ _ _ h => h) rfl ?_ hHeld ?_
      rotate_left
      · intro w hS; (try dsimp only at hS); obtain ⟨hS0, hS1, hS2⟩ := hS; go_simp; first | done | (with_reducible rfl)
      try simp only [Act.put, List.setIfInBounds_toArray, List.set_cons_zero, List.set_cons_succ]
      refine takeH (i := 2) (v := ?_) rfl (by kernel_rfl) (by kernel_rfl) (by kernel_rfl) (fun _ _ _ h => h) rfl ?_ hHeld ?_
      rotate_left
      · intro w hS; (try dsimp only at hS); obtain ⟨hS0, hS1, hS2⟩ := hS; go_simp; first | done | (with_reducible rfl)
      try simp only [Act.put, List.setIfInBounds_toArray, List.set_cons_zero, List.set_cons_succ]
      refine takeH (i := 3) (v := ?_) rfl (by kernel_rfl) (by kernel_rfl) (by kernel_rfl) (fun _ _ _ h => h) rfl ?_ hHeld ?_
      rotate_left
      · intro w hS; (try dsimp only at hS); obtain ⟨hS0, hS1, hS2⟩ := hS; go_simp; first | done | (with_reducible rfl)
      try simp only [Act.put, List.setIfInBounds_toArray, List.set_cons_zero, List.set_cons_succ]
      refine takeH (i := 4) (v := ?_) rfl (by kernel_rfl) (by kernel_rfl) (by kernel_rfl) (fun _ _ _ h => h) rfl ?_ hHeld ?_
      rotate_left
      · intro w hS; (try dsimp only at hS); obtain ⟨hS0, hS1, hS2⟩ := hS; go_simp; first | done | (with_reducible rfl)
      try simp only [Act.put, List.setIfInBounds_toArray, List.set_cons_zero, List.set_cons_succ]
      refine takeH (i := 5) (v := ?_) rfl (by kernel_rfl) (by kernel_rfl) (by kernel_rfl) (fun _ _ _ h => h) rfl ?_ hHeld ?_
      rotate_left
      · intro w hS; (try dsimp only at hS); obtain ⟨hS0, hS1, hS2⟩ := hS; go_simp; first | done | (with_reducible rfl)
      try simp only [Act.put, List.setIfInBounds_toArray, List.set_cons_zero, List.set_cons_succ]
      refine takeH (i := 6) (v := ?_) rfl (by kernel_rfl) (by kernel_rfl) (by kernel_rfl) (fun _ _ _ h => h) rfl ?_ hHeld ?_
      rotate_left
      · intro w hS; (try dsimp only at hS); obtain ⟨hS0, hS1, hS2⟩ := hS; go_simp; first | done | (with_reducible rfl)
      try simp only [Act.put, List.setIfInBounds_toArray, List.set_cons_zero, List.set_cons_succ]
      refine takeH (i := 7) (v := ?_) rfl (by kernel_rfl) (by kernel_rfl) (by kernel_rfl) (fun _ _ _ h => h) rfl ?_ hHeld ?_
      rotate_left
      · intro w hS; (try dsimp only at hS); obtain ⟨hS0, hS1, hS2⟩ := hS; go_simp; first | done | (with_reducible rfl)
      try simp only [Act.put, List.setIfInBounds_toArray, List.set_cons_zero, List.set_cons_succ]
      refine takeH (i := 8) (v := ?_) rfl (by kernel_rfl) (by kernel_rfl) (by kernel_rfl) (fun _ _ _ h => h) rfl ?_ hHeld ?_
      rotate_left
      · intro w hS; (try dsimp only at hS); obtain ⟨hS0, hS1, hS2⟩ := hS; go_simp; first | done | (with_reducible rfl)
      try simp only [Act.put, List.setIfInBounds_toArray, List.set_cons_zero, List.set_cons_succ]
      refine takeH (i := 9) (v := ?_) rfl (by kernel_rfl) (by kernel_rfl) (by kernel_rfl) (fun _ _ _ h => h) rfl ?_ hHeld ?_
      rotate_left
      · intro w hS; (try dsimp only at hS); obtain ⟨hS0, hS1, hS2⟩ := hS; go_simp; first | done | (with_reducible rfl)
      try simp only [Act.put, List.setIfInBounds_toArray, List.set_cons_zero, List.set_cons_succ]
      refine takeH (i := 10) (v := ?_) rfl (by kernel_rfl) (by kernel_rfl) (by kernel_rfl) (fun _ _ _ h => h) rfl ?_ hHeld ?_
      rotate_left
      · intro w hS; (try dsimp only at hS); obtain ⟨hS0, hS1, hS2⟩ := hS; go_simp; first | done | (with_reducible rfl)
      try simp only [Act.put, List.setIfInBounds_toArray, List.set_cons_zero, List.set_cons_succ]
      refine takeH (i := 11) (v := ?_) rfl (by kernel_rfl) (by kernel_rfl) (by kernel_rfl) (fun _ _ _ h => h) rfl ?_ hHeld ?_
      rotate_left
      · intro w hS; (try dsimp only at hS); obtain ⟨hS0, hS1, hS2⟩ := hS; go_simp; first | done | (with_reducible rfl)
      try simp only [Act.put, List.setIfInBounds_toArray, List.set_cons_zero, List.set_cons_succ]
      refine takeH (i := 12) (v := ?_) rfl (by kernel_rfl) (by kernel_rfl) (by kernel_rfl) (fun _ _ _ h => h) rfl ?_ hHeld ?_
      rotate_left
      · intro w hS; (try dsimp only at hS); obtain ⟨hS0, hS1, hS2⟩ := hS; go_simp; first | done | (with_reducible rfl)
      try simp only [Act.put, List.setIfInBounds_toArray, List.set_cons_zero, List.set_cons_succ]
      refine takeH (i := 13) (v := ?_) rfl (by kernel_rfl) (by kernel_rfl) (by kernel_rfl) (fun _ _ _ h => h) rfl ?_ hHeld ?_
      rotate_left
      · intro w hS; (try dsimp only at hS); obtain ⟨hS0, hS1, hS2⟩ := hS; go_simp; first | done | (with_reducible rfl)
      try simp only [Act.put, List.setIfInBounds_toArray, List.set_cons_zero, List.set_cons_succ]
      refine takeH (i := 14) (v := ?_) rfl (by kernel_rfl) (by kernel_rfl) (by kernel_rfl) (fun _ _ _ h => h) rfl ?_ hHeld ?_
      rotate_left
      · intro w hS; (try dsimp only at hS); obtain ⟨hS0, hS1, hS2⟩ := hS; go_simp; first | done | (with_reducible rfl)
      try simp only [Act.put, List.setIfInBounds_toArray, List.set_cons_zero, List.set_cons_succ]
      refine takeH (i := 15) (v := ?_) rfl (by kernel_rfl) (by kernel_rfl) (by kernel_rfl) (fun _ _ _ h => h) rfl ?_ hHeld ?_
      rotate_left
      · intro w hS; (try dsimp only at hS); obtain ⟨hS0, hS1, hS2⟩ := hS; go_simp; first | done | (with_reducible rfl)
      try simp only [Act.put, List.setIfInBounds_toArray, List.set_cons_zero, List.set_cons_succ]
      refine takeH (i := 16) (v := ?_) rfl (by kernel_rfl) (by kernel_rfl) (by kernel_rfl) (fun _ _ _ h => h) rfl ?_ hHeld ?_
      rotate_left
      · intro w hS; (try dsimp only at hS); obtain ⟨hS0, hS1, hS2⟩ := hS; go_simp; first | done | (with_reducible rfl)
      try simp only [Act.put, List.setIfInBounds_toArray, List.set_cons_zero, List.set_cons_succ]
      refine takeH (i := 17) (v := ?_) rfl (by kernel_rfl) (by kernel_rfl) (by kernel_rfl) (fun _ _ _ h => h) rfl ?_ hHeld ?_
      rotate_left
      · intro w hS; (try dsimp only at hS); obtain ⟨hS0, hS1, hS2⟩ := hS; go_simp; first | done | (with_reducible rfl)
      try simp only [Act.put, List.setIfInBounds_toArray, List.set_cons_zero, List.set_cons_succ]
      refine takeH (i := 18) (v := ?_) rfl (by kernel_rfl) (by kernel_rfl) (by kernel_rfl) (fun _ _ _ h => h) rfl ?_ hHeld ?_
      rotate_left
      · intro w hS; (try dsimp only at hS); obtain ⟨hS0, hS1, hS2⟩ := hS; go_simp; first | done | (with_reducible rfl)
      try simp only [Act.put, List.setIfInBounds_toArray, List.set_cons_zero, List.set_cons_succ]
      refine takeH (i := 19) (v := ?_) rfl (by kernel_rfl) (by kernel_rfl) (by kernel_rfl) (fun _ _ _ h => h) rfl ?_ hHeld ?_
      rotate_left
      · intro w hS; (try dsimp only at hS); obtain ⟨hS0, hS1, hS2⟩ := hS; go_simp; first | done | (with_reducible rfl)
      try simp only [Act.put, List.setIfInBounds_toArray, List.set_cons_zero, List.set_cons_succ]
      refine takeH (i := 20) (v := ?_) rfl (by kernel_rfl) (by kernel_rfl) (by kernel_rfl) (fun _ _ _ h => h) rfl ?_ hHeld ?_
      rotate_left
      · intro w hS; (try dsimp only at hS); obtain ⟨hS0, hS1, hS2⟩ := hS; go_simp; first | done | (with_reducible rfl)
      try simp only [Act.put, List.setIfInBounds_toArray, List.set_cons_zero, List.set_cons_succ]
      refine takeH (i := 21) (v := ?_) rfl (by kernel_rfl) (by kernel_rfl) (by kernel_rfl) (fun _ _ _ h => h) rfl ?_ hHeld ?_
      rotate_left
      · intro w hS; (try dsimp only at hS); obtain ⟨hS0, hS1, hS2⟩ := hS; go_simp; first | done | (with_reducible rfl)
      try simp only [Act.put, List.setIfInBounds_toArray, List.set_cons_zero, List.set_cons_succ]
      refine wpAnyH_done (by kernel_rfl) ?_ _
      clear hHeld
      go_wp2_with fail
      exact ⟨⟨j + 1, by go_num, by omega, by rw [HTM.out]; simp [Int.add_assoc], hcr.drew⟩, by simp [intOf]; omega⟩
    · obtain rfl : j = S.l.length := by omega
      rw [List.take_length]
      go_wp2
      go_ret
      exact ⟨rfl, hcr⟩

set_option maxRecDepth 20000 in
set_option maxHeartbeats 800000 in
theorem rkeys_any {w : World} {G : Nat → Prop} {r : Nat} {S : Lr} (h : Rf w G r S) :
    Calls Try.prog 22 #[pt r] w fun e w' => ∃ v, e = .returned v ∧ Own w' w.heap.size v (S.l.map (·.1)) ∧ Chg (fun _ => False) w w' := by
  obtain ⟨i0, hi, hz0, hz1, hz2⟩ := info_parts Try.info9
  obtain ⟨lv, h1, h2, h3⟩ := h.lies
  have hfew := h.few
  obtain ⟨ao, cap, rfl⟩ := own_shape h2
  unfold pt
  have c0' := cell_of h1 0
  simp at c0'
  go_enter Try.func22, Try.ntmps22
  go_wp2_with fail
  go_loopw [3, 4] (fun v i wr => ∃ j : Nat, i = .int .i64 (j : Int) ∧ j ≤ S.l.length ∧ Own wr w.heap.size v ((S.l.take j).map (·.1)) ∧ Chg (fun _ => False) w wr)
    (fun _ i _ => S.l.length - (intOf i).toNat)
  case atStart => exact ⟨0, rfl, by omega, World.ownsRow_nil _ _ _ _, Chg.refl _ _⟩
  case round =>
    obtain ⟨j, rfl, hj, hown, hcr⟩ := hrel
    have c0 := cell_of (hcr.keep h1 (fun h => h)) 0
    simp at c0
    by_cases hlt : j < S.l.length
    · obtain ⟨g, rfl, -, -, -, hc⟩ := own_pos (own_keep h2 hcr (fun _ _ h => h)) (by omega)
      have k1 := hc _ _ (kc_at S.l j hlt).1
      have htk : (S.l.take (j + 1)).map (·.1) = (S.l.take j).map (·.1) ++ [S.l[j].1] := by
        have e : S.l.take (j + 1) = S.l.take j ++ [S.l[j]] := by rw [List.take_add_one, List.getElem?_eq_getElem hlt]; rfl
        rw [e, List.map_append]
        rfl
      have hpl : ((S.l.take j).map (·.1)).length = j := by simp; omega
      have HTK := hide htk
      generalize hkx : S.l[j].1 = kx at *
      clear hkx hc htk
      generalize hpre : (S.l.take j).map (·.1) = pre at *
      obtain ⟨va, vc, rfl⟩ := own_shape hown
      have hown2 : wr.ownsRow w.heap.size 9 1 (.slice va pre.length vc) pre.length (tc pre) := hown
      rw [hpl] at hown2 ⊢
      clear hpre hown
      go_wp2_with (at_builtin; refine wpList_append_own_at _ rfl (.tmp 14) (.tmp 23) 28 rfl w.heap.size 9 i0 (.string ⟨#[]⟩) 1 16 Try.underlying28 hi hz0 hz1 hz2 rfl (by decide) _ _ _ rfl (hown2.alloc _) ⟨wr.heap.size, 0, none⟩ 1 1 [.string (strB kx)] rfl rfl (cell_one_new _ _ _) (by simp [Value.oneCell']) (by unfold maxLen; omega) (by omega) (by have := hcr.size; simp; omega) ?_)
      intro v4 w4 hown4 hgrow4 _ _
      have hg4 := grown_chg hown2 hgrow4
      obtain ⟨g4, c4, rfl⟩ := own_shape hown4
      have hg5 : Chg (fun _ => False) w w4 := hcr.trans hg4 (fun i hi h => absurd hi (Nat.not_lt.2 h))
      have hown5 : w4.ownsRow w.heap.size 9 1 (.slice g4 (j + 1) c4) (j + 1) (tc pre ++ [.string (strB kx)]) := hown4
      rw [tc_snoc, ← HTK.out] at hown5
      clear hgrow4 hown4 hown2
      go_wp2_with fail
      refine ⟨⟨j + 1, by go_num, by omega, ?_, hg5⟩, by simp [intOf]; omega⟩
      unfold Own
      rw [show ((S.l.take (j + 1)).map (·.1)).length = j + 1 by simp; omega]
      exact hown5
    · obtain rfl : j = S.l.length := by omega
      rw [List.take_length] at hown
      obtain ⟨va, vc, rfl⟩ := own_shape hown
      go_wp2
      go_ret
      exact ⟨_, rfl, hown, hcr⟩
end Go.Proofs.Ythhmjoafoahpbaa
