/-
  The two iterators: what stands between slashes; a slice's texts. Conditions: lengths within reach.
-/
import Derived.Test.YtkihldkaiddbkaaSmall
import Derived.Test.YtkihldkaiddbkaaEach
namespace Go.Proofs.Ytkihldkaiddbkaa
open Go.RowKit
attribute [local go_sem] Oper.semAt_some

def seqLeft : Value → Value → Nat
  | .string s, .bool true => s.size + 1
  | _, _ => 0

set_option maxRecDepth 100000 in
set_option maxHeartbeats 1000000 in
/-- What stands between slashes comes, part by part. -/
theorem parts_gives (l : List UInt8) (hl : l.length ≤ 4611686018427387904) (w : World) : Gives Try.prog 43 #[.string (strB l)] #[] ((Pt.parts l).map strB) w := by
  intro L J Jx W hW hdr h0 hY
  have hll := toL l
  refine callsIn_of_wp Try.func43 rfl trivial ?_ rfl
  simp only [Try.ntmps43, List.size_toArray, List.length_cons, List.length_nil, Nat.reduceAdd, Nat.reduceSub, Array.replicate_succ, Array.replicate_zero, List.push_toArray, List.append_toArray, List.nil_append, List.cons_append]
  gi_wp2
  gi_loopw [4, 5, 6] (fun rest more part wr => ∃ (k : Nat) (r : List UInt8), rest = .string (strB r) ∧ r.length ≤ l.length ∧ k ≤ (Pt.parts l).length ∧ J k wr ∧
      ((more = .bool true ∧ (Pt.parts l).drop k = Pt.cut r) ∨ (more = .bool false ∧ k = (Pt.parts l).length)))
    (fun rest more _ _ => seqLeft rest more)
  case atStart =>
    by_cases he : l = []
    · subst he
      exact ⟨0, [], rfl, by simp, by simp, h0, .inr ⟨by simp, rfl⟩⟩
    · refine ⟨0, l, rfl, Nat.le_refl _, by simp, h0, .inl ⟨by simp [he], ?_⟩⟩
      simp [Pt.parts, he]
  case round =>
    obtain ⟨k, r, rfl, hr, hk, hJ, ⟨rfl, hd⟩ | ⟨rfl, rfl⟩⟩ := hrel
    · rcases Pt.first_slash r with hn | ⟨p, r', rfl, hp⟩
      · rw [Pt.cut_no hn] at hd
        have hlt : k < (Pt.parts l).length := by
          have := congrArg List.length hd
          simp at this
          omega
        have hx : ((Pt.parts l).map strB)[k]'(by simpa using hlt) = strB r := by
          have := congrArg (·[0]?) hd
          simp [hlt] at this
          simp [this]
        obtain ⟨fn, tmps, assign, body, hy, hR⟩ := hY k wr (by simpa using hlt) hJ
        rw [hx] at hy
        gi_wp2_with fail
        refine ⟨trivial, rfl, ?_⟩
        refine (callsIn_wide.2 (scut_none 47 _ r hn)).mono ?_
        rintro e w' ⟨rfl, rfl⟩
        gi_wp2
        refine ⟨rfl, hR.mono ?_⟩
        rintro e W3 (⟨rfl, hJ3, hk3⟩ | ⟨rfl, hJx3⟩)
        · gi_wp2
          go_roundw
          case rel => exact ⟨k + 1, [], rfl, by simp, by omega, hJ3, .inr ⟨rfl, by have := congrArg List.length hd; simp at this; omega⟩⟩
          case measure => simp [seqLeft]
        · gi_wp2
          refine bodyPost_ret (results_none rfl _ _ _) rfl ?_
          exact ⟨⟨_, rfl⟩, .inr ⟨k, by simpa using hlt, hJx3⟩⟩
      · rw [Pt.cut_app _ hp] at hd
        have hlt : k < (Pt.parts l).length := by
          have := congrArg List.length hd
          simp at this
          omega
        have hx : ((Pt.parts l).map strB)[k]'(by simpa using hlt) = strB p := by
          have := congrArg (·[0]?) hd
          simp [hlt] at this
          simp [this]
        have hd2 : (Pt.parts l).drop (k + 1) = Pt.cut r' := by
          rw [← List.drop_drop, hd]
          rfl
        obtain ⟨fn, tmps, assign, body, hy, hR⟩ := hY k wr.drew (by simpa using hlt) (hdr k wr hJ)
        rw [hx] at hy
        gi_wp2_with fail
        refine ⟨trivial, rfl, ?_⟩
        refine (callsIn_wide.2 (scut_some 47 _ p r' hp (by omega))).mono ?_
        rintro e w' ⟨rfl, rfl⟩
        gi_wp2
        refine ⟨rfl, hR.mono ?_⟩
        rintro e W3 (⟨rfl, hJ3, hk3⟩ | ⟨rfl, hJx3⟩)
        · gi_wp2
          go_roundw
          case rel => exact ⟨k + 1, r', rfl, by simp at hr; omega, by omega, hJ3, .inl ⟨rfl, hd2⟩⟩
          case measure => simp [seqLeft, strB_size]; omega
        · gi_wp2
          refine bodyPost_ret (results_none rfl _ _ _) rfl ?_
          exact ⟨⟨_, rfl⟩, .inr ⟨k, by simpa using hlt, hJx3⟩⟩
    · gi_wp2
      go_end0
      exact ⟨⟨_, rfl⟩, .inl (by simpa using hJ)⟩

/-- The slice v holds the texts xs, in the world w. -/
def Ts (w : World) (v : Value) (xs : List (List UInt8)) : Prop :=
  ∃ ao cap, v = .slice ao xs.length cap ∧ xs.length ≤ cap ∧ cap ≤ maxLen ∧
    (xs ≠ [] → ∃ b off, ao = some ⟨b, off, none⟩ ∧ b < w.heap.size ∧ ∀ j (h : j < xs.length), w.cell? ⟨b, off + j, none⟩ = some (.string (strB xs[j])))
theorem Ts.nil (w : World) : Ts w (.slice none 0 0) [] := ⟨none, 0, rfl, Nat.le_refl _, by simp, fun h => absurd rfl h⟩
theorem Ts.keep {w w' : World} {v : Value} {xs : List (List UInt8)} (h : Ts w v xs) (hb : Below w.heap.size w w') : Ts w' v xs := by
  obtain ⟨ao, cap, hv, h1, h2, h4⟩ := h
  refine ⟨ao, cap, hv, h1, h2, fun hl => ?_⟩
  obtain ⟨b, off, ha, hlt, hc⟩ := h4 hl
  exact ⟨b, off, ha, Nat.lt_of_lt_of_le hlt hb.size, fun j hj => (hb.cell (p := ⟨b, off + j, none⟩) hlt).trans (hc j hj)⟩

set_option maxRecDepth 100000 in
set_option maxHeartbeats 1000000 in
/-- A slice's texts come, one by one. -/
theorem values_gives (w : World) (B : Nat) (v : Value) (xs : List (List UInt8)) (hB : B < w.heap.size) (hv : w.cell? ⟨B, 0, none⟩ = some v) (h : Ts w v xs) (hx : xs.length ≤ 4611686018427387904) :
    Gives Try.prog 48 #[] #[.pointer (some ⟨B, 0, none⟩)] (xs.map strB) w := by
  intro L J Jx W hW hdr h0 hY
  have hv' := (hW.cell (p := ⟨B, 0, none⟩) hB).trans hv
  obtain ⟨ao, cap, rfl, h1, h2, h4⟩ := h
  refine callsIn_of_wp Try.func48 rfl trivial ?_ rfl
  simp only [Try.ntmps48, List.size_toArray, List.length_cons, List.length_nil, Nat.reduceAdd, Nat.reduceSub, Array.replicate_succ, Array.replicate_zero, List.push_toArray, List.append_toArray, List.nil_append, List.cons_append]
  gi_wp2
  gi_loopw [7] (fun i wr => ∃ k : Nat, k ≤ xs.length ∧ i = .int .i64 k ∧ J k wr ∧ Below w.heap.size W wr)
    (fun i _ => xs.length - (intOf i).toNat)
  case atStart => exact ⟨0, Nat.zero_le _, rfl, h0, Below.refl _ _⟩
  case round =>
    obtain ⟨k, hk, rfl, hJ, hnx⟩ := hrel
    by_cases hlt : k < xs.length
    · obtain ⟨b, off, rfl, hb, hc⟩ := h4 (by rintro rfl; simp at hlt)
      have hcx : wr.cell? ⟨b, off + k, none⟩ = some (.string (strB xs[k])) := (hnx.cell (p := ⟨b, off + k, none⟩) hb).trans ((hW.cell (p := ⟨b, off + k, none⟩) hb).trans (hc k hlt))
      obtain ⟨fn, tmps, assign, body, hy, hR⟩ := hY k wr (by simpa using hlt) hJ
      rw [show (xs.map strB)[k]'(by simpa using hlt) = strB xs[k] by simp] at hy
      clear hc h4
      gi_wp2
      refine ⟨rfl, hR.mono ?_⟩
      rintro e W3 (⟨rfl, hJ3, hk3⟩ | ⟨rfl, hJx3⟩)
      · gi_wp2
        go_roundw
        case rel => exact ⟨k + 1, by omega, by simp, hJ3, hnx.trans hk3⟩
        case measure => simp [intOf]; omega
      · gi_wp2
        refine bodyPost_ret (results_none rfl _ _ _) rfl ?_
        exact ⟨⟨_, rfl⟩, .inr ⟨k, by simpa using hlt, hJx3⟩⟩
    · obtain rfl : k = xs.length := by omega
      gi_wp2
      go_end0
      exact ⟨⟨_, rfl⟩, .inl (by simpa using hJ)⟩

set_option maxRecDepth 20000 in
/-- slices.Values: the slice is boxed; the function value has the box. -/
theorem values_any (w : World) (a : Option Addr) (len cap : Nat) :
    Calls Try.prog 27 #[.slice a len cap] w fun e w' => e = .returned (.func (.func 48) #[] #[.pointer (some ⟨w.heap.size, 0, none⟩)]) ∧ w' = w.alloc (.cells #[.slice a len cap] 22) := by
  go_enter Try.func27, Try.ntmps27
  go_wp2
  go_ret
  exact ⟨rfl, rfl⟩
end Go.Proofs.Ytkihldkaiddbkaa
