/-
  GearAlike is true. Conditions: lengths within reach.
-/
import Derived.Test.YthkhmjdenenikaaBehind
namespace Go.Proofs.Ythkhmjdenenikaa
open Go.RowKit

theorem first_long : ∀ (l h c : List UInt8) (r : List (List UInt8)), (spl ⟨[], h⟩ l).t = c :: r → h.length < c.length
  | [], h, c, r, e => by simp [spl_nil] at e
  | b :: l, h, c, r, e => by
    rw [spl_cons] at e
    cases he : ended (h ++ [b]) with
    | true =>
      have ea : adv ⟨[], h⟩ b = ⟨[h ++ [b]], []⟩ := by unfold adv; simp [he]
      rw [ea, spl_told] at e
      simp at e
      rw [← e.1]
      simp
    | false =>
      have ea : adv ⟨[], h⟩ b = ⟨[], h ++ [b]⟩ := by unfold adv; simp [he]
      rw [ea] at e
      have := first_long l _ c r e
      simp at this
      omega
theorem pre_left (T U : List (List UInt8)) {k : Nat} (h : k ≤ T.length) : pre (T ++ U) k = pre T k := by
  unfold pre
  rw [List.take_append_of_le_length h]
/-- Where a text goes on behind s, its chunks are those that are sure in s, and others. -/
theorem chunks_more (s a : List UInt8) : ∃ U, chunks (s ++ a) = (spl ⟨[], []⟩ s).t ++ U := by
  unfold chunks
  rw [spl_append, show spl ⟨[], []⟩ s = ⟨(spl ⟨[], []⟩ s).t, (spl ⟨[], []⟩ s).h⟩ from rfl, spl_told]
  exact ⟨_, by unfold Sp.all; simp only [List.append_assoc]; rfl⟩
theorem pre_mono (R : List (List UInt8)) {a b : Nat} (h : a ≤ b) : pre R a ≤ pre R b := by
  obtain ⟨c, rfl⟩ := Nat.exists_eq_add_of_le h
  rw [pre_drop]
  omega
theorem alike_at {s a : List UInt8} {k : Nat} (hk : k < (chunks (s ++ a)).length) (h1 : pre (chunks (s ++ a)) (k + 1) ≤ s.length) (h2 : pre (chunks (s ++ a)) (k + 1) ≠ (s ++ a).length) : k < (spl ⟨[], []⟩ s).t.length := by
  rcases Nat.lt_or_ge k (spl ⟨[], []⟩ s).t.length with h | h
  · exact h
  · exfalso
    have hs := spl_all s ⟨[], []⟩
    simp only [List.flatten_nil, List.nil_append] at hs
    have hsl := congrArg List.length hs
    rw [List.length_append] at hsl
    have e : spl ⟨[], []⟩ (s ++ a) = ⟨(spl ⟨[], []⟩ s).t ++ (spl ⟨[], (spl ⟨[], []⟩ s).h⟩ a).t, (spl ⟨[], (spl ⟨[], []⟩ s).h⟩ a).h⟩ := by
      rw [spl_append, show spl ⟨[], []⟩ s = ⟨(spl ⟨[], []⟩ s).t, (spl ⟨[], []⟩ s).h⟩ from rfl, spl_told]
    have hfl := flat_len (s ++ a)
    cases hT : (spl ⟨[], (spl ⟨[], []⟩ s).h⟩ a).t with
    | nil =>
      rw [hT, List.append_nil] at e
      have hc : (chunks (s ++ a)).length ≤ (spl ⟨[], []⟩ s).t.length + 1 := by
        unfold chunks Sp.all
        rw [e]
        simp only
        split <;> simp
      have : k + 1 = (chunks (s ++ a)).length := by omega
      rw [this, pre_all, hfl] at h2
      exact h2 rfl
    | cons c r =>
      have hlong := first_long _ _ _ _ hT
      have hm := pre_mono (chunks (s ++ a)) (show (spl ⟨[], []⟩ s).t.length + 1 ≤ k + 1 by omega)
      have ep : pre (chunks (s ++ a)) ((spl ⟨[], []⟩ s).t.length + 1) = (spl ⟨[], []⟩ s).t.flatten.length + c.length := by
        unfold chunks Sp.all
        rw [e, hT]
        simp only
        rw [List.append_assoc, pre_drop, pre_left _ _ (Nat.le_refl _), pre_all]
        simp [pre]
      omega

set_option maxRecDepth 20000 in
set_option maxHeartbeats 1000000 in
theorem alike_any (w : World) (ls la lb : List UInt8) (hls : ls.length ≤ 140737488351232) (hla : la.length ≤ 140737488351232) (hlb : lb.length ≤ 140737488351232) :
    Calls Try.prog 8 #[.string (strB ls), .string (strB la), .string (strB lb)] w fun e w' => e = .returned (.bool true) ∧ Below w.heap.size w w' := by
  have hsn := shown_any w
  have hcs := fun W => cut_any W ls hls
  have hca := fun W => cut_any W la hla
  have hcb := fun W => cut_any W lb hlb
  have hs0 : (ls.take 1000000).length ≤ 1000000 := by simp; omega
  have ha0 : (la.take 1000000).length ≤ 1000000 := by simp; omega
  have hb0 : (lb.take 1000000).length ≤ 1000000 := by simp; omega
  generalize ls.take 1000000 = s at *
  generalize la.take 1000000 = a at *
  generalize lb.take 1000000 = b at *
  clear hls hla hlb
  have happ : ∀ x y : List UInt8, (strB x).append (strB y) = strB (x ++ y) := fun x y => by
    apply ByteArray.ext
    simp [strB]
  have hpp : ∀ x y : List UInt8, strB x ++ strB y = strB (x ++ y) := happ
  have hxl : (s ++ a).length ≤ 2000000 := by simp; omega
  have hyl : (s ++ b).length ≤ 2000000 := by simp; omega
  have hX := fun W => cuts_any W (s ++ a) (by omega)
  have hY := fun W => cuts_any W (s ++ b) (by omega)
  have hal : ∀ k, k < (chunks (s ++ a)).length → pre (chunks (s ++ a)) (k + 1) ≤ s.length → pre (chunks (s ++ a)) (k + 1) ≠ (s ++ a).length → k < (chunks (s ++ b)).length ∧ pre (chunks (s ++ b)) (k + 1) = pre (chunks (s ++ a)) (k + 1) := fun k h0 h1 h2 => by
    have h3 := alike_at h0 h1 h2
    obtain ⟨U, hU⟩ := chunks_more s a
    obtain ⟨V, hV⟩ := chunks_more s b
    rw [hU, hV]
    refine ⟨by simp; omega, ?_⟩
    rw [pre_left _ _ h3, pre_left _ _ h3]
  have hs := strB_size s
  have hsa := strB_size a
  have hsb := strB_size b
  have hx := strB_size (s ++ a)
  have hpx := pre_le (chunks (s ++ a))
  rw [flat_len] at hpx
  have HAL := hide hal
  have ox := fun (W : World) (B : Nat) (u : Value) (h : W.ownsRow B 3 1 u (cuts (s ++ a)).length (ic (cuts (s ++ a)))) => own_cut h
  have oy := fun (W : World) (B : Nat) (u : Value) (h : W.ownsRow B 3 1 u (cuts (s ++ b)).length (ic (cuts (s ++ b)))) => own_cut h
  have hcx : (chunks (s ++ a)).length ≤ 2000000 := by
    have := (chunks_tail (s ++ a)).count
    rw [flat_len] at this
    omega
  have hcy : (chunks (s ++ b)).length ≤ 2000000 := by
    have := (chunks_tail (s ++ b)).count
    rw [flat_len] at this
    omega
  have OX := hide ox
  have OY := hide oy
  clear hal ox oy happ
  go_enter Try.func8, Try.ntmps8
  go_wp2_with fail
  refine hsn.mono ?_
  rintro e w1 ⟨rfl, hb1⟩
  go_wp2_with fail
  refine (hcs _).mono ?_
  rintro e w2 ⟨rfl, rfl⟩
  go_wp2_with fail
  refine (hca _).mono ?_
  rintro e w3 ⟨rfl, rfl⟩
  go_wp2_with fail
  refine (hcb _).mono ?_
  rintro e w4 ⟨rfl, rfl⟩
  go_wp2_with fail
  refine (hX _).mono ?_
  rintro e w5 ⟨v, rfl, hv, hb5⟩
  have hB5 := hb1.trans (hb5.mono hb1.size)
  obtain ⟨ao, cap, rfl, c1, c2, hvx⟩ := OX.out _ _ _ hv
  clear hv
  go_wp2_with fail
  refine (hY _).mono ?_
  rintro e w6 ⟨v, rfl, hv, hb6⟩
  have hB6 := hB5.trans (hb6.mono hB5.size)
  obtain ⟨ao', cap', rfl, d1, d2, hvy⟩ := OY.out _ _ _ hv
  have HVX := hide hvx
  have HVY := hide hvy
  clear hv hX hY hcs hca hcb hsn hvx hvy hpp
  generalize chunks (s ++ a) = R at *
  generalize chunks (s ++ b) = R' at *
  generalize hxx : s ++ a = x at *
  have HPX := hide hpx
  clear hpx
  go_wp2_with fail
  go_loopw [12] (fun i wr => ∃ k : Nat, i = .int .i64 (k : Int) ∧ k ≤ R.length ∧ Below w6.heap.size w6 wr)
    (fun i _ => R.length - (intOf i).toNat)
  case atStart => exact ⟨0, rfl, Nat.zero_le _, Below.refl _ _⟩
  case round =>
    obtain ⟨k, rfl, hk, hbw⟩ := hrel
    have hBf : Below w.heap.size w wr := hB6.trans (hbw.mono hB6.size)
    by_cases hlt : k < R.length
    · obtain ⟨g, rfl, g1, g2, hc⟩ := HVX.out (by omega)
      have g3 : g < w6.heap.size := Nat.lt_of_lt_of_le g2 hb6.size
      have hck := (hbw.cell (p := ⟨g, k, none⟩) g3).trans ((hb6.cell (p := ⟨g, k, none⟩) g2).trans (hc k hlt))
      have hal := HAL.out k hlt
      have hpl := HPX.out (k + 1)
      clear hc
      generalize hp : pre R (k + 1) = p at *
      by_cases q1 : p ≤ s.length
      · by_cases q2 : p = x.length
        · clear hal
          subst q2
          go_wp2_with fail
          go_ret
          exact ⟨rfl, hBf⟩
        · obtain ⟨r1, r2⟩ := hal q1 q2
          obtain ⟨g', rfl, k1, k2, hc'⟩ := HVY.out (by omega)
          have hck' := (hbw.cell (p := ⟨g', k, none⟩) k2).trans (hc' k r1)
          rw [r2] at hck'
          have q3 : ((p : Int) == (x.length : Int)) = false := beq_eq_false_iff_ne.2 (by omega)
          have HBW := hide hbw.drew
          have hge : decide (R'.length ≤ k) = false := decide_eq_false (by omega)
          clear hc' hal q2
          go_wp2_with fail
          refine wp_region_held_drew (S := fun W => W.cell? ⟨g, k, none⟩ = some (.int .i64 (p : Int)) ∧ W.cell? ⟨g', k, none⟩ = some (.int .i64 (p : Int))) (by kernel_rfl) (⟨hck, hck'⟩) (fun hHeld => ?_)
          refine takeH (i := 0) (v := ?_) rfl (by kernel_rfl) (by kernel_rfl) (by kernel_rfl) (fun _ _ _ h => h) rfl ?_ hHeld ?_
          rotate_left
          · intro w hS; (try dsimp only at hS); obtain ⟨hS0, hS1⟩ := hS; go_simp; first | done | (with_reducible rfl)
          try simp only [Act.put, List.setIfInBounds_toArray, List.set_cons_zero, List.set_cons_succ]
          refine takeH (i := 1) (v := ?_) rfl (by kernel_rfl) (by kernel_rfl) (by kernel_rfl) (fun _ _ _ h => h) rfl ?_ hHeld ?_
          rotate_left
          · intro w hS; (try dsimp only at hS); obtain ⟨hS0, hS1⟩ := hS; go_simp; first | done | (with_reducible rfl)
          try simp only [Act.put, List.setIfInBounds_toArray, List.set_cons_zero, List.set_cons_succ]
          refine takeH (i := 2) (v := ?_) rfl (by kernel_rfl) (by kernel_rfl) (by kernel_rfl) (fun _ _ _ h => h) rfl ?_ hHeld ?_
          rotate_left
          · intro w hS; (try dsimp only at hS); obtain ⟨hS0, hS1⟩ := hS; go_simp; first | done | (with_reducible rfl)
          try simp only [Act.put, List.setIfInBounds_toArray, List.set_cons_zero, List.set_cons_succ]
          refine takeH (i := 3) (v := ?_) rfl (by kernel_rfl) (by kernel_rfl) (by kernel_rfl) (fun _ _ _ h => h) rfl ?_ hHeld ?_
          rotate_left
          · intro w hS; (try dsimp only at hS); obtain ⟨hS0, hS1⟩ := hS; go_simp; first | done | (with_reducible rfl)
          try simp only [Act.put, List.setIfInBounds_toArray, List.set_cons_zero, List.set_cons_succ]
          refine takeH (i := 4) (v := ?_) rfl (by kernel_rfl) (by kernel_rfl) (by kernel_rfl) (fun _ _ _ h => h) rfl ?_ hHeld ?_
          rotate_left
          · intro w hS; (try dsimp only at hS); obtain ⟨hS0, hS1⟩ := hS; go_simp; first | done | (with_reducible rfl)
          try simp only [Act.put, List.setIfInBounds_toArray, List.set_cons_zero, List.set_cons_succ]
          refine takeH (i := 5) (v := ?_) rfl (by kernel_rfl) (by kernel_rfl) (by kernel_rfl) (fun _ _ _ h => h) rfl ?_ hHeld ?_
          rotate_left
          · intro w hS; (try dsimp only at hS); obtain ⟨hS0, hS1⟩ := hS; go_simp; first | done | (with_reducible rfl)
          try simp only [Act.put, List.setIfInBounds_toArray, List.set_cons_zero, List.set_cons_succ]
          refine takeH (i := 6) (v := ?_) rfl (by kernel_rfl) (by kernel_rfl) (by kernel_rfl) (fun _ _ _ h => h) rfl ?_ hHeld ?_
          rotate_left
          · intro w hS; (try dsimp only at hS); obtain ⟨hS0, hS1⟩ := hS; go_simp; first | done | (with_reducible rfl)
          try simp only [Act.put, List.setIfInBounds_toArray, List.set_cons_zero, List.set_cons_succ]
          refine takeH (i := 7) (v := ?_) rfl (by kernel_rfl) (by kernel_rfl) (by kernel_rfl) (fun _ _ _ h => h) rfl ?_ hHeld ?_
          rotate_left
          · intro w hS; (try dsimp only at hS); obtain ⟨hS0, hS1⟩ := hS; go_simp; first | done | (with_reducible rfl)
          try simp only [Act.put, List.setIfInBounds_toArray, List.set_cons_zero, List.set_cons_succ]
          refine takeH (i := 8) (v := ?_) rfl (by kernel_rfl) (by kernel_rfl) (by kernel_rfl) (fun _ _ _ h => h) rfl ?_ hHeld ?_
          rotate_left
          · intro w hS; (try dsimp only at hS); obtain ⟨hS0, hS1⟩ := hS; go_simp; first | done | (with_reducible rfl)
          try simp only [Act.put, List.setIfInBounds_toArray, List.set_cons_zero, List.set_cons_succ]
          refine takeH (i := 9) (v := ?_) rfl (by kernel_rfl) (by kernel_rfl) (by kernel_rfl) (fun _ _ _ h => h) rfl ?_ hHeld ?_
          rotate_left
          · intro w hS; (try dsimp only at hS); obtain ⟨hS0, hS1⟩ := hS; go_simp; first | done | (with_reducible rfl)
          try simp only [Act.put, List.setIfInBounds_toArray, List.set_cons_zero, List.set_cons_succ]
          refine takeH (i := 10) (v := ?_) rfl (by kernel_rfl) (by kernel_rfl) (by kernel_rfl) (fun _ _ _ h => h) rfl ?_ hHeld ?_
          rotate_left
          · intro w hS; (try dsimp only at hS); obtain ⟨hS0, hS1⟩ := hS; go_simp; first | done | (with_reducible rfl)
          try simp only [Act.put, List.setIfInBounds_toArray, List.set_cons_zero, List.set_cons_succ]
          refine takeH (i := 11) (v := ?_) rfl (by kernel_rfl) (by kernel_rfl) (by kernel_rfl) (fun _ _ _ h => h) rfl ?_ hHeld ?_
          rotate_left
          · intro w hS; (try dsimp only at hS); obtain ⟨hS0, hS1⟩ := hS; go_simp; first | done | (with_reducible rfl)
          try simp only [Act.put, List.setIfInBounds_toArray, List.set_cons_zero, List.set_cons_succ]
          refine takeH (i := 12) (v := ?_) rfl (by kernel_rfl) (by kernel_rfl) (by kernel_rfl) (fun _ _ _ h => h) rfl ?_ hHeld ?_
          rotate_left
          · intro w hS; (try dsimp only at hS); obtain ⟨hS0, hS1⟩ := hS; go_simp; first | done | (with_reducible rfl)
          try simp only [Act.put, List.setIfInBounds_toArray, List.set_cons_zero, List.set_cons_succ]
          refine takeH (i := 13) (v := ?_) rfl (by kernel_rfl) (by kernel_rfl) (by kernel_rfl) (fun _ _ _ h => h) rfl ?_ hHeld ?_
          rotate_left
          · intro w hS; (try dsimp only at hS); obtain ⟨hS0, hS1⟩ := hS; go_simp; first | done | (with_reducible rfl)
          try simp only [Act.put, List.setIfInBounds_toArray, List.set_cons_zero, List.set_cons_succ]
          refine takeH (i := 14) (v := ?_) rfl (by kernel_rfl) (by kernel_rfl) (by kernel_rfl) (fun _ _ _ h => h) rfl ?_ hHeld ?_
          rotate_left
          · intro w hS; (try dsimp only at hS); obtain ⟨hS0, hS1⟩ := hS; go_simp; first | done | (with_reducible rfl)
          try simp only [Act.put, List.setIfInBounds_toArray, List.set_cons_zero, List.set_cons_succ]
          refine wpAnyH_done (by kernel_rfl) ?_ _
          go_wp2_with fail
          exact ⟨⟨k + 1, by go_num, by omega, HBW.out⟩, by simp [intOf]; omega⟩
      · clear hal
        go_wp2_with fail
        go_ret
        exact ⟨rfl, hBf⟩
    · obtain rfl : k = R.length := by omega
      go_wp2
      go_ret
      exact ⟨rfl, hBf⟩
end Go.Proofs.Ythkhmjdenenikaa
