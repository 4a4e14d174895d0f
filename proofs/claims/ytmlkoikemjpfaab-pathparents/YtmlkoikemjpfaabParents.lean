/-
  PathParents' own walk: from a path one comes to the root by directories, in as many steps as it has parts. Conditions: lengths within reach.
-/
import Derived.Test.YtmlkoikemjpfaabShown
namespace Go.Proofs.Ytmlkoikemjpfaab
open Go.RowKit

theorem few_take {ps : List (List UInt8)} (h : Pt.few ps = true) (k : Nat) : Pt.few (ps.take k) = true := Pt.few_prefix (t := ps.drop k) (by rw [List.take_append_drop]; exact h)
theorem up_path {ps : List (List UInt8)} (h : Pt.few ps = true) (k : Nat) : Pt.path (Pt.joined (ps.take k)) = true := by
  unfold Pt.path
  rw [Pt.parts_joined (few_take h k)]
  exact few_take h k
theorem up_ne {ps : List (List UInt8)} (h : Pt.few ps = true) {k : Nat} (hk : k < ps.length) : Pt.joined (ps.take (k + 1)) ≠ [] := by
  intro e
  have := congrArg Pt.parts e
  rw [Pt.parts_joined (few_take h _)] at this
  have hl := congrArg List.length this
  rw [List.length_take, show (Pt.parts []).length = 0 from rfl] at hl
  omega
theorem up_dir {ps : List (List UInt8)} (h : Pt.few ps = true) {k : Nat} (hk : k < ps.length) : Pt.dir (Pt.joined (ps.take (k + 1))) = Pt.joined (ps.take k) ∧ Pt.last (Pt.joined (ps.take (k + 1))) = ps[k] := by
  unfold Pt.dir Pt.last
  rw [Pt.parts_joined (few_take h _)]
  have e : ps.take (k + 1) = ps.take k ++ [ps[k]] := by rw [List.take_add_one]; simp [hk]
  rw [e, List.dropLast_concat, List.getLast?_concat]
  exact ⟨rfl, rfl⟩
theorem up_within {l : List UInt8} (h : Pt.path l = true) (k : Nat) : Pt.within (Pt.joined ((Pt.parts l).take k)) l = true := by
  unfold Pt.within
  rw [up_path h k, h, Pt.parts_joined (few_take h k)]
  simp only [Bool.true_and, List.isPrefixOf_iff_prefix]
  exact List.take_prefix _ _

set_option maxRecDepth 20000 in
theorem parents_any (w : World) (l : List UInt8) (hl : l.length ≤ 4611686018427387000) :
    Calls Try.prog 3 #[.string (strB l)] w fun e w' => e = .returned (.bool true) ∧ Below w.heap.size w w' := by
  cases hp : Pt.path l with
  | false =>
    go_enter Try.func3, Try.ntmps3
    go_wp2_with fail
    refine (shown_any w).mono ?_
    rintro e w1 ⟨rfl, hb1⟩
    go_wp2_with fail
    refine (parse_bad w1 l hl hp).mono ?_
    rintro e w2 ⟨rfl, hb2⟩
    go_wp2
    go_ret
    exact ⟨rfl, hb1.trans (hb2.mono hb1.size)⟩
  | true =>
    go_enter Try.func3, Try.ntmps3
    go_wp2_with fail
    refine (shown_any w).mono ?_
    rintro e w1 ⟨rfl, hb1⟩
    go_wp2_with fail
    refine (parse_ok w1 l hl hp).mono ?_
    rintro e w2 ⟨v, rfl, hv, hb2⟩
    have hB2 := hb1.trans (hb2.mono hb1.size)
    have ht := ts_of_own hv
    obtain ⟨ao, cap, rfl, q1, q2, q4⟩ := ts_of_own hv
    have hlen := Pt.few_len hp
    clear hv ht
    go_wp2
    go_loopw [2, 6, 7, 8, 9, 10] (fun r at_ i u8 u9 u10 wr => ∃ k : Nat, k ≤ (Pt.parts l).length ∧ i = .int .i64 ((k : Int) - 1) ∧ at_ = .string (strB (Pt.joined ((Pt.parts l).take k))) ∧ r = .bool false ∧ Below w.heap.size w wr ∧ Below w2.heap.size w2 wr)
      (fun r at_ i u8 u9 u10 _ => (intOf i + 1).toNat)
    case atStart => exact ⟨(Pt.parts l).length, Nat.le_refl _, rfl, by rw [List.take_length, Pt.joined_parts], rfl, hB2, Below.refl _ _⟩
    case round =>
      obtain ⟨k, hk, rfl, rfl, rfl, hB, hR⟩ := hrel
      cases k with
      | zero =>
        have t0 := toL []
        rw [show (Pt.parts l).take 0 = [] from rfl, show Pt.joined [] = [] from rfl]
        go_wp2_with fail
        go_ret
        exact ⟨rfl, hB⟩
      | succ j =>
        have hj : j < (Pt.parts l).length := by omega
        have hsz := few_length (few_take hp (j + 1))
        have hsz2 := few_length (few_take hp j)
        have hs := fun W => split_any W (Pt.joined ((Pt.parts l).take (j + 1))) (by omega)
        unfold splitA at hs
        rw [if_pos ⟨up_ne hp hj, up_path hp (j + 1)⟩, (up_dir hp hj).1, (up_dir hp hj).2] at hs
        have hw1 := fun W => within_any W (Pt.joined ((Pt.parts l).take j)) l hl
        rw [up_within hp j] at hw1
        have hw2 := fun W => within_any W (Pt.joined ((Pt.parts l).take j)) (Pt.joined ((Pt.parts l).take (j + 1))) (by omega)
        have hwd := Pt.within_dir (up_path hp (j + 1))
        rw [(up_dir hp hj).1] at hwd
        rw [hwd] at hw2
        obtain ⟨b, off, rfl, hbl, hc⟩ := q4 (by intro e; rw [e] at hj; simp at hj)
        have hcell := hc j hj
        have hi : ((j + 1 : Nat) : Int) - 1 = (j : Int) := by omega
        rw [hi]
        have t1 := toL (Pt.parts l)[j]
        generalize Pt.joined ((Pt.parts l).take (j + 1)) = at1 at *
        generalize hat2 : Pt.joined ((Pt.parts l).take j) = at2 at *
        generalize (Pt.parts l)[j] = nm at *
        clear hc q4
        go_wp2_with fail
        refine (hs wr).mono ?_
        rintro e w3 ⟨rfl, hb3⟩
        have hR3 := hR.trans (hb3.mono hR.size)
        have hB3 := hB.trans (hb3.mono hB.size)
        have hcell3 := (hR3.cell (p := ⟨b, off + j, none⟩) hbl).trans hcell
        go_wp2_with fail
        refine (hw1 w3).mono ?_
        rintro e w4 ⟨rfl, hb4⟩
        have hR4 := hR3.trans (hb4.mono hR3.size)
        have hB4 := hB3.trans (hb4.mono hB3.size)
        go_wp2_with fail
        refine (hw2 w4).mono ?_
        rintro e w5 ⟨rfl, hb5⟩
        have hR5 := hR4.trans (hb5.mono hR4.size)
        have hB5 := hB4.trans (hb5.mono hB4.size)
        go_wp2_with fail
        refine ⟨⟨j, by omega, by go_num, by rw [hat2], rfl, hB5, hR5⟩, by simp [intOf]⟩
end Go.Proofs.Ytmlkoikemjpfaab
