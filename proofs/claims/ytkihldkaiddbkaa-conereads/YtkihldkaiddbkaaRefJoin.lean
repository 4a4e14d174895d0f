/-
  What the document's own Join answers. Conditions: lengths within reach.
-/
import Derived.Test.YtkihldkaiddbkaaRefName
namespace Go.Proofs.Ytkihldkaiddbkaa
open Go.RowKit

theorem cat_strB (a b : List UInt8) : strB a ++ strB b = strB (a ++ b) := by
  apply ByteArray.ext
  simp [strB]
theorem joined_next {ps : List (List UInt8)} {k : Nat} (hk : k < ps.length) (h0 : k ≠ 0) : Pt.joined (ps.take (k + 1)) = (Pt.joined (ps.take k) ++ [47]) ++ ps[k] := by
  have e : ps.take (k + 1) = ps.take k ++ [ps[k]] := by rw [List.take_add_one]; simp [hk]
  rw [e, Pt.joined_app (by intro h; have := congrArg List.length h; rw [List.length_take, List.length_nil] at this; omega) (by simp)]
  simp [Pt.joined]
theorem joined_first {ps : List (List UInt8)} (hk : 0 < ps.length) : Pt.joined (ps.take 1) = ps[0] := by
  have e : ps.take 1 = [ps[0]] := by
    cases ps with
    | nil => simp at hk
    | cons p q => rfl
  rw [e]
  rfl

set_option maxRecDepth 20000 in
theorem rjoin_any (w : World) (v : Value) (ps : List (List UInt8)) (h : Ts w v ps) (hx : ps.length ≤ 4611686018427387904) :
    Calls Try.prog 60 #[v] w fun e w' => (e = .returned (if Pt.few ps = true then .tuple #[.string (strB (Pt.joined ps)), .int .i64 0] else .tuple #[.string (strB []), .int .i64 40])) ∧ w' = w := by
  obtain ⟨ao, cap, rfl, h1, h2, h4⟩ := h
  by_cases hl : 16 < ps.length
  · have hf := few_long hl
    go_enter Try.func60, Try.ntmps60
    go_wp2
    all_goals (go_ret2; exact ⟨rfl, rfl⟩)
  go_enter Try.func60, Try.ntmps60
  go_wp2
  go_loopw [2, 3, 4, 5] (fun r2 r3 out i wr => ∃ k : Nat, r2 = .string (strB []) ∧ r3 = .int .i64 0 ∧ i = .int .i64 (k : Int) ∧ out = .string (strB (Pt.joined (ps.take k))) ∧ k ≤ ps.length ∧ (∀ j (hj : j < ps.length), j < k → Pt.name ps[j] = true) ∧ wr = w)
    (fun _ _ _ i _ => ps.length - (intOf i).toNat)
  case atStart => exact ⟨0, rfl, rfl, rfl, rfl, by omega, (fun j _ hj => by omega), rfl⟩
  case round =>
    obtain ⟨k, rfl, rfl, rfl, rfl, hk, hn, rfl⟩ := hrel
    by_cases hlt : k < ps.length
    · obtain ⟨b, off, rfl, hb, hc⟩ := h4 (by rintro rfl; simp at hlt)
      have hcell := hc k hlt
      clear hc h4
      cases hnm : Pt.name ps[k] with
      | false =>
        have hf := few_bad hlt hnm
        have hr := fun W => rname_any W ps[k]
        rw [hnm] at hr
        generalize ps[k] = p at *
        go_wp2_with fail
        refine (hr _).mono ?_
        rintro e w1 ⟨rfl, rfl⟩
        go_wp2
        all_goals (go_ret2; exact ⟨rfl, rfl⟩)
      | true =>
        have hr := fun W => rname_any W ps[k]
        rw [hnm] at hr
        have hstep : ∀ j (hj : j < ps.length), j < k + 1 → Pt.name ps[j] = true := fun j hj hjk => by
          by_cases e : j = k
          · subst e; exact hnm
          · exact hn j hj (by omega)
        have hle := Pt.name_le hnm
        by_cases h0 : k = 0
        · subst h0
          have e1 := joined_first hlt
          rw [Nat.add_zero] at hcell
          have x0 : strB [] ++ strB ps[0] = strB ps[0] := cat_strB [] _
          have y0 := strB_size []
          have y1 := strB_size ps[0]
          rw [show ps.take 0 = [] from rfl, show Pt.joined [] = [] from rfl]
          generalize ps[0] = p at *
          go_wp2_with fail
          refine (hr _).mono ?_
          rintro e w1 ⟨rfl, rfl⟩
          go_wp2_with fail
          exact ⟨⟨1, rfl, rfl, by go_num, by rw [e1], by omega, hstep, trivial⟩, by simp [intOf]; omega⟩
        · have e1 := joined_next hlt h0
          have hln := joined_length (ps := ps.take k) (fun p hp => by
            obtain ⟨j, hj, rfl⟩ := List.getElem_of_mem hp
            have hj' : j < k ∧ j < ps.length := by rw [List.length_take] at hj; omega
            rw [List.getElem_take]
            exact Pt.name_le (hn j hj'.2 hj'.1))
          have hln2 : (Pt.joined (ps.take k)).length ≤ 1040 := by
            have : (ps.take k).length ≤ 16 := by simp; omega
            omega
          clear hln
          have x1 : strB (Pt.joined (ps.take k)) ++ (ByteArray.mk #[47]) = strB (Pt.joined (ps.take k) ++ [47]) := cat_strB _ [47]
          have x2 : strB (Pt.joined (ps.take k) ++ [47]) ++ strB ps[k] = strB (Pt.joined (ps.take (k + 1))) := by rw [cat_strB, e1]
          have y0 := strB_size (Pt.joined (ps.take k))
          have y1 := strB_size (Pt.joined (ps.take k) ++ [47])
          have y2 := strB_size ps[k]
          have y3 : (Pt.joined (ps.take k) ++ [47]).length = (Pt.joined (ps.take k)).length + 1 := by simp
          have h0' : (0 : Int) < (k : Int) := by omega
          clear e1
          generalize ps[k] = p at *
          generalize Pt.joined (ps.take k) = out at *
          go_wp2_with fail
          refine (hr _).mono ?_
          rintro e w1 ⟨rfl, rfl⟩
          go_wp2_with fail
          exact ⟨⟨k + 1, rfl, rfl, by go_num, rfl, by omega, hstep, trivial⟩, by simp [intOf]; omega⟩
    · obtain rfl : k = ps.length := by omega
      have hf : Pt.few ps = true := few_true (by omega) (fun j hj => hn j hj hj)
      rw [List.take_length]
      go_wp2
      all_goals (go_ret2; exact ⟨rfl, rfl⟩)
end Go.Proofs.Ytkihldkaiddbkaa
