/-
  GearBehind and GearAlike are true. Conditions: lengths within reach.
-/
import Derived.Test.YthkhmjdenenikaaSizes
namespace Go.Proofs.Ythkhmjdenenikaa
open Go.RowKit

theorem pre_drop (R : List (List UInt8)) (a b : Nat) : pre R (a + b) = pre R a + pre (R.drop a) b := by
  unfold pre
  rw [List.take_add, List.flatten_append, List.length_append]
theorem drop_flat (R : List (List UInt8)) (a : Nat) : (R.drop a).flatten = R.flatten.drop (pre R a) := by
  have : R.flatten = (R.take a).flatten ++ (R.drop a).flatten := by rw [← List.flatten_append, List.take_append_drop]
  rw [this]
  unfold pre
  simp
theorem chunks_drop (l : List UInt8) (a : Nat) : chunks (l.drop (pre (chunks l) a)) = (chunks l).drop a := by
  have h := ((chunks_tail l).drop a).chunks
  rw [drop_flat, chunks_flat] at h
  exact h

set_option maxRecDepth 20000 in
theorem behind_any (w : World) (l : List UInt8) (n : Int) (hl : l.length ≤ 140737488351232) (hn0 : -9223372036854775808 ≤ n) (hn1 : n ≤ 9223372036854775807) :
    Calls Try.prog 7 #[.string (strB l), .int .i64 n] w fun e w' => e = .returned (.bool true) ∧ Below w.heap.size w w' := by
  have hsn := shown_any w
  have hct := fun W => cut_any W l hl
  have hs0 : (l.take 1000000).length ≤ 1000000 := by simp; omega
  generalize l.take 1000000 = s at *
  have hs := strB_size s
  clear hl
  go_enter Try.func7, Try.ntmps7
  go_wp2_with fail
  refine hsn.mono ?_
  rintro e w1 ⟨rfl, hb1⟩
  go_wp2_with fail
  refine (hct _).mono ?_
  rintro e w2 ⟨rfl, rfl⟩
  go_wp2_with fail
  refine (cuts_any _ s (by omega)).mono ?_
  rintro e w3 ⟨v, rfl, hv, hb3⟩
  have hB : Below w.heap.size w w3 := hb1.trans (hb3.mono hb1.size)
  obtain ⟨ao, cap, rfl, c1, c2, hx⟩ := own_cut hv
  have hfl := flat_len s
  have hT := chunks_tail s
  have hcl : (chunks s).length ≤ s.length := by rw [← hfl]; exact hT.count
  have hpl := pre_le (chunks s)
  have hdr := chunks_drop s
  have hpd := pre_drop (chunks s)
  generalize chunks s = R at *
  clear hv hct hsn hb1 hb3 hT
  by_cases hneg : n < 0
  · go_wp2
    go_ret
    exact ⟨rfl, hB⟩
  by_cases hbig : (R.length : Int) ≤ n
  · go_wp2
    go_ret
    exact ⟨rfl, hB⟩
  obtain ⟨j, rfl⟩ := Int.eq_ofNat_of_zero_le (show 0 ≤ n by omega)
  have hj : j < R.length := by omega
  obtain ⟨g, rfl, g1, g2, hc⟩ := hx (by omega)
  have hcj := hc j hj
  have hpj := hpl (j + 1)
  have hdj := hdr (j + 1)
  have hpd := hpd (j + 1)
  have hex := ext_strB s (pre R (j + 1)) s.length
  rw [List.take_length] at hex
  have hsd : (s.drop (pre R (j + 1))).length ≤ 1000000 := by simp; omega
  have hcut := fun W => cuts_any W (s.drop (pre R (j + 1))) (by omega)
  have hPR : ∀ k, pre (R.drop (j + 1)) k ≤ 1000000 := fun k => by
    have := pre_le (R.drop (j + 1)) k
    have e : (R.drop (j + 1)).flatten.length = (s.drop (pre R (j + 1))).length := by rw [← hdj, flat_len]
    omega
  have hoc := fun (W : World) (B : Nat) (u : Value) (h : W.ownsRow B 3 1 u (cuts (s.drop (pre R (j + 1)))).length (ic (cuts (s.drop (pre R (j + 1)))))) => own_cut h
  rw [hdj] at hoc
  have hlen : (R.drop (j + 1)).length = R.length - (j + 1) := List.length_drop ..
  generalize hP : pre R (j + 1) = P at *
  have HX := hide hx
  have HC := hide hc
  have HPR := hide hPR
  have HPD := hide hpd
  have HOC := hide hoc
  clear hx hc hPR hpd hpl hdr hdj hoc
  go_wp2_with fail
  refine (hcut _).mono ?_
  rintro e w4 ⟨v, rfl, hv, hb4⟩
  obtain ⟨ao', cap', rfl, d1, d2, hy⟩ := HOC.out _ _ _ hv
  have hB4 : Below w.heap.size w w4 := hB.trans (hb4.mono hB.size)
  have HY := hide hy
  have HB4 := hide hb4
  clear hv hy hcut hb4
  generalize hR' : R.drop (j + 1) = R' at *
  have hcj' : w4.cell? ⟨g, j, none⟩ = some (.int .i64 (P : Int)) := (HB4.out.cell (p := ⟨g, j, none⟩) g2).trans hcj
  clear hcj
  go_wp2_with fail
  go_loopw [8] (fun i wr => ∃ k : Nat, i = .int .i64 (k : Int) ∧ k ≤ R'.length ∧ Below w4.heap.size w4 wr)
    (fun i _ => R'.length - (intOf i).toNat)
  case atStart => exact ⟨0, rfl, Nat.zero_le _, Below.refl _ _⟩
  case round =>
    obtain ⟨k, rfl, hk, hbw⟩ := hrel
    by_cases hlt : k < R'.length
    · obtain ⟨g', rfl, k1, k2, hc'⟩ := HY.out (by omega)
      have hck' := hc' k hlt
      have hc2 := (HB4.out.cell (p := ⟨g, j + 1 + k, none⟩) g2).trans (HC.out (j + 1 + k) (by omega))
      have e2 := HPD.out (k + 1)
      rw [show j + 1 + (k + 1) = j + 1 + k + 1 by omega] at e2
      rw [e2, Int.natCast_add] at hc2
      have hle := HPR.out (k + 1)
      generalize hq : pre R' (k + 1) = q at *
      have g4 : g < w4.heap.size := Nat.lt_of_lt_of_le g2 HB4.out.size
      have hcj2 := (hbw.cell (p := ⟨g, j, none⟩) g4).trans hcj'
      have hck2 := (hbw.cell (p := ⟨g', k, none⟩) k2).trans hck'
      have hc3 := (hbw.cell (p := ⟨g, j + 1 + k, none⟩) g4).trans hc2
      have HBW := hide hbw.drew
      clear hc' hc2 hck' hcj'
      go_wp2_with fail
      go_region
      go_wp2_with fail
      exact ⟨⟨k + 1, by go_num, by omega, HBW.out⟩, by simp [intOf]; omega⟩
    · obtain rfl : k = R'.length := by omega
      go_wp2
      go_ret
      exact ⟨rfl, hB4.trans (hbw.mono hB4.size)⟩
end Go.Proofs.Ythkhmjdenenikaa
