/-
  GearSizes is true. Conditions: lengths within reach.
-/
import Derived.Test.YthkhmjdenenikaaShown
namespace Go.Proofs.Ythkhmjdenenikaa
open Go.RowKit

/-- How many bytes the first k chunks have. -/
def pre (R : List (List UInt8)) (k : Nat) : Nat := (R.take k).flatten.length
theorem pre_zero (R : List (List UInt8)) : pre R 0 = 0 := by simp [pre]
theorem pre_succ {R : List (List UInt8)} {k : Nat} (h : k < R.length) : pre R (k + 1) = pre R k + R[k].length := by
  unfold pre
  rw [List.take_add_one, List.getElem?_eq_getElem h]
  simp only [List.flatten_append, List.length_append, Option.toList_some, List.flatten_cons, List.flatten_nil, List.append_nil]
theorem Tail.count : ∀ {R : List (List UInt8)}, Tail R → R.length ≤ R.flatten.length
  | [], _ => by simp
  | c :: R, h => by
    have h1 := h.rest.count
    have h2 := (h.size (j := 0) (by simp)).1
    simp only [List.getElem_cons_zero] at h2
    simp only [List.length_cons, List.flatten_cons, List.length_append]
    omega
theorem pre_all (R : List (List UInt8)) : pre R R.length = R.flatten.length := by simp [pre]
theorem pre_le (R : List (List UInt8)) (k : Nat) : pre R k ≤ R.flatten.length := by
  unfold pre
  have := congrArg (fun x => x.flatten.length) (List.take_append_drop k R)
  simp only [List.flatten_append, List.length_append] at this
  omega
theorem cuts_at {l : List UInt8} {k : Nat} (h : k < (chunks l).length) : (cuts l)[k]? = some (pre (chunks l) (k + 1)) := by
  unfold cuts pre
  rw [sums_get 0 _ k h, Nat.zero_add]
theorem cuts_len (l : List UInt8) : (cuts l).length = (chunks l).length := sums_length _ _
theorem flat_len (l : List UInt8) : (chunks l).flatten.length = l.length := by rw [chunks_flat]
/-- The place behind the k-th chunk, as it lies in memory. -/
theorem own_cut {w : World} {base : Nat} {v : Value} {l : List UInt8} (h : w.ownsRow base 3 1 v (cuts l).length (ic (cuts l))) : ∃ ao cap, v = .slice ao (chunks l).length cap ∧ (chunks l).length ≤ cap ∧ cap ≤ maxLen ∧
    (0 < (chunks l).length → ∃ g, ao = some ⟨g, 0, none⟩ ∧ base ≤ g ∧ g < w.heap.size ∧ ∀ k, k < (chunks l).length → w.cell? ⟨g, k, none⟩ = some (.int .i64 (pre (chunks l) (k + 1) : Int))) := by
  obtain ⟨ao, cap, rfl, c1, c2, hx⟩ := own_form h
  rw [cuts_len] at *
  refine ⟨ao, cap, rfl, c1, c2, fun hp => ?_⟩
  obtain ⟨g, rfl, g1, g2, hc⟩ := hx hp
  refine ⟨g, rfl, g1, g2, fun k hk => hc k _ ?_⟩
  unfold ic
  rw [List.getElem?_map, cuts_at hk]
  rfl

set_option maxRecDepth 20000 in
theorem cut_any (w : World) (l : List UInt8) (hl : l.length ≤ 140737488351232) :
    Calls Try.prog 10 #[.string (strB l)] w fun e w' => e = .returned (.string (strB (l.take 1000000))) ∧ w' = w := by
  have hs := strB_size l
  have ee := fun n => ext_strB l 0 n
  by_cases h : l.length ≤ 1000000
  · have ht : l.take 1000000 = l := List.take_of_length_le h
    have hx : (strB l).extract 0 l.length = strB l := by rw [ee]; simp
    rw [ht]
    clear ee
    go_enter Try.func10, Try.ntmps10
    go_wp2
    go_ret
    exact ⟨rfl, rfl⟩
  · have hx : (strB l).extract 0 1000000 = strB (l.take 1000000) := by rw [ee]; simp
    clear ee
    go_enter Try.func10, Try.ntmps10
    go_wp2
    go_ret
    exact ⟨rfl, rfl⟩

set_option maxRecDepth 20000 in
theorem sizes_any (w : World) (l : List UInt8) (hl : l.length ≤ 140737488351232) :
    Calls Try.prog 6 #[.string (strB l)] w fun e w' => e = .returned (.bool true) ∧ Below w.heap.size w w' := by
  have hsn := shown_any w
  have hct := fun W => cut_any W l hl
  have hs0 : (l.take 1000000).length ≤ 1000000 := by simp; omega
  generalize l.take 1000000 = s at *
  have hs := strB_size s
  clear hl
  go_enter Try.func6, Try.ntmps6
  go_wp2_with fail
  refine hsn.mono ?_
  rintro e w1 ⟨rfl, hb1⟩
  go_wp2_with fail
  refine (hct _).mono ?_
  rintro e w2 ⟨rfl, rfl⟩
  go_wp2_with fail
  refine (cuts_any _ s (by omega)).mono ?_
  rintro e w3 ⟨v, rfl, hv, hb3⟩
  have hB : Below w.heap.size w w3 := hb1.trans (hb3.mono hb1.size)
  obtain ⟨ao, cap, rfl, c1, c2, hx⟩ := own_cut hv
  have hfl := flat_len s
  have hT := chunks_tail s
  have hcl : (chunks s).length ≤ s.length := by rw [← hfl]; exact hT.count
  have hpl := pre_le (chunks s)
  generalize chunks s = R at *
  clear hv hct hsn hb1 hb3
  go_wp2_with fail
  go_loopw [6, 5] (fun i f wr => ∃ k : Nat, i = .int .i64 (k : Int) ∧ k ≤ R.length ∧ f = .int .i64 (pre R k : Int) ∧ wr = w3)
    (fun i _ _ => R.length - (intOf i).toNat)
  case atStart => exact ⟨0, rfl, Nat.zero_le _, by rw [pre_zero]; rfl, rfl⟩
  case round =>
    obtain ⟨k, rfl, hk, rfl, rfl⟩ := hrel
    by_cases hlt : k < R.length
    · obtain ⟨g, rfl, g1, g2, hc⟩ := hx (by omega)
      have hck := hc k hlt
      have ⟨t1, t2, t3⟩ := hT.size hlt
      have hps := pre_succ hlt
      have hple := hpl (k + 1)
      rw [hps] at hck hple
      rw [Int.natCast_add] at hck
      generalize R[k].length = m at *
      have hps' := hide hps
      clear hc hps hpl hT hx
      generalize hp : pre R k = p at *
      by_cases hlast : k + 1 < R.length
      · have t3 := t3 hlast
        go_wp2_with fail
        exact ⟨⟨k + 1, by go_num, by omega, by rw [hps'.out, Int.natCast_add], trivial⟩, by simp [intOf]; omega⟩
      · clear t3
        go_wp2_with fail
        exact ⟨⟨k + 1, by go_num, by omega, by rw [hps'.out, Int.natCast_add], trivial⟩, by simp [intOf]; omega⟩
    · obtain rfl : k = R.length := by omega
      have hpa : pre R R.length = s.length := by rw [pre_all, hfl]
      rw [hpa]
      go_wp2
      go_ret
      exact ⟨rfl, hB⟩
end Go.Proofs.Ythkhmjdenenikaa
