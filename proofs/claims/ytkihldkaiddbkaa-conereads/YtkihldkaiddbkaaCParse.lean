/-
  What cone.Parse answers. Conditions: the text not too long.
-/
import Derived.Test.YtkihldkaiddbkaaCEach2
import Derived.Test.YtkihldkaiddbkaaSeq
namespace Go.Proofs.Ytkihldkaiddbkaa
open Go.RowKit Go.Shelf
attribute [local go_sem] Oper.semAt_some

set_option maxRecDepth 100000 in
set_option maxHeartbeats 1600000 in
/-- The lines that say something come, with their numbers. -/
theorem said_gives (B : Nat) (l : Bs) (hl : l.length ≤ 4611686018427387000) :
    Gives2 Try.prog 57 #[] #[.pointer (some ⟨B, 0, none⟩)] (sayL 1 (cutN l)) (fun W => W.cell? ⟨B, 0, none⟩ = some (.string (strB l))) := by
  intro L J Jx W hW hdr h0 hY
  generalize hxs : sayL 1 (cutN l) = xs at *
  have HXS := hide hxs
  clear hxs
  refine callsIn_of_wp Try.func57 rfl trivial ?_ rfl
  simp only [Try.ntmps57, List.size_toArray, List.length_cons, List.length_nil, Nat.reduceAdd, Nat.reduceSub, Array.replicate_succ, Array.replicate_zero, List.push_toArray, List.append_toArray, List.nil_append, List.cons_append]
  gi_wp2
  gi_loopw [3, 4, 5] (fun rest more at_ wr => ∃ (k n : Nat) (r : Bs), rest = .string (strB r) ∧ at_ = .int .i64 (n : Int) ∧ r.length ≤ l.length ∧ n + r.length ≤ l.length + 2 ∧ k ≤ xs.length ∧ J k wr ∧
      ((more = .bool true ∧ n + r.length ≤ l.length + 1 ∧ xs.drop k = sayL n (cutN r)) ∨ (more = .bool false ∧ k = xs.length)))
    (fun rest more _ _ => seqLeft rest more)
  case atStart => exact ⟨0, 1, l, rfl, rfl, Nat.le_refl _, by omega, by omega, h0, .inl ⟨rfl, by omega, HXS.out.symm⟩⟩
  case round =>
    obtain ⟨k, n, r, rfl, rfl, hr, hnr, hk, hJ, ⟨rfl, hn2, hd⟩ | ⟨rfl, rfl⟩⟩ := hrel
    · rcases first_nl r with hno | ⟨p, r', rfl, hp⟩
      · rw [cutN_no hno] at hd
        have hs := fun V => silent_any V r
        cases hsl : silM r with
        | true =>
          simp only [hsl] at hs
          have hkx : k = xs.length := by
            have : xs.drop k = [] := by rw [hd]; simp [sayL, hsl]
            have := congrArg List.length this
            simp only [List.length_drop, List.length_nil] at this
            omega
          clear hd
          gi_wp2_with fail
          refine ⟨trivial, rfl, ?_⟩
          refine (callsIn_wide.2 (scut_none 10 _ r hno)).mono ?_
          rintro e w' ⟨rfl, rfl⟩
          gi_wp2_with fail
          refine ⟨trivial, rfl, ?_⟩
          refine (callsIn_wide.2 (hs _)).mono ?_
          rintro e w' ⟨rfl, rfl⟩
          gi_wp2
          refine ⟨(fun f h => by cases h), ?_⟩
          gi_wp2
          go_roundw
          case rel => exact ⟨k, n + 1, [], rfl, by go_num, by simp, by simp; omega, by omega, hJ, .inr ⟨rfl, hkx⟩⟩
          case measure => simp [seqLeft]
        | false =>
          simp only [hsl] at hs
          have hd' : xs.drop k = [(n, r)] := by rw [hd]; simp [sayL, hsl]
          have hlt : k < xs.length := by
            have := congrArg List.length hd'
            simp at this
            omega
          have hx : xs[k] = (n, r) := by
            have := congrArg (·[0]?) hd'
            simp [hlt] at this
            exact this
          have hkx : k + 1 = xs.length := by
            have := congrArg List.length hd'
            simp at this
            omega
          obtain ⟨fn, tmps, assign, body, hy, hR⟩ := hY k wr hlt hJ
          rw [hx] at hy
          clear hd hd'
          gi_wp2_with fail
          refine ⟨trivial, rfl, ?_⟩
          refine (callsIn_wide.2 (scut_none 10 _ r hno)).mono ?_
          rintro e w' ⟨rfl, rfl⟩
          gi_wp2_with fail
          refine ⟨trivial, rfl, ?_⟩
          refine (callsIn_wide.2 (hs _)).mono ?_
          rintro e w' ⟨rfl, rfl⟩
          gi_wp2
          refine ⟨rfl, hR.mono ?_⟩
          rintro e W3 (⟨rfl, hJ3⟩ | ⟨rfl, hJx3⟩)
          · gi_wp2
            go_roundw
            case rel => exact ⟨k + 1, n + 1, [], rfl, by go_num, by simp, by simp; omega, by omega, hJ3, .inr ⟨rfl, hkx⟩⟩
            case measure => simp [seqLeft]
          · gi_wp2
            refine bodyPost_ret (results_none rfl _ _ _) rfl ?_
            exact ⟨⟨_, rfl⟩, .inr ⟨k, hlt, hJx3⟩⟩
      · rw [cutN_app _ hp] at hd
        have hs := fun V => silent_any V p
        have hlen : (p ++ 10 :: r').length = p.length + 1 + r'.length := by simp; omega
        rw [hlen] at hr hnr hn2
        cases hsl : silM p with
        | true =>
          simp only [hsl] at hs
          have hd' : xs.drop k = sayL (n + 1) (cutN r') := by rw [hd]; show (if silM p then _ else _) = _; rw [hsl]; rfl
          have HD := hide hd'
          clear hd hd'
          gi_wp2_with fail
          refine ⟨trivial, rfl, ?_⟩
          refine (callsIn_wide.2 (scut_some 10 _ p r' hp (by omega))).mono ?_
          rintro e w' ⟨rfl, rfl⟩
          gi_wp2_with fail
          refine ⟨trivial, rfl, ?_⟩
          refine (callsIn_wide.2 (hs _)).mono ?_
          rintro e w' ⟨rfl, rfl⟩
          gi_wp2
          refine ⟨(fun f h => by cases h), ?_⟩
          gi_wp2
          go_roundw
          case rel => exact ⟨k, n + 1, r', rfl, by go_num, by omega, by omega, by omega, hdr k wr hJ, .inl ⟨rfl, by omega, HD.out⟩⟩
          case measure => simp [seqLeft, strB_size]; omega
        | false =>
          simp only [hsl] at hs
          have hd' : xs.drop k = (n, p) :: sayL (n + 1) (cutN r') := by rw [hd]; show (if silM p then _ else _) = _; rw [hsl]; rfl
          have hlt : k < xs.length := by
            have := congrArg List.length hd'
            simp at this
            omega
          have hx : xs[k] = (n, p) := by
            have := congrArg (·[0]?) hd'
            simp [hlt] at this
            exact this
          have HD := hide (show xs.drop (k + 1) = sayL (n + 1) (cutN r') by rw [← List.drop_drop, hd']; rfl)
          obtain ⟨fn, tmps, assign, body, hy, hR⟩ := hY k wr.drew hlt (hdr k wr hJ)
          rw [hx] at hy
          clear hd hd'
          gi_wp2_with fail
          refine ⟨trivial, rfl, ?_⟩
          refine (callsIn_wide.2 (scut_some 10 _ p r' hp (by omega))).mono ?_
          rintro e w' ⟨rfl, rfl⟩
          gi_wp2_with fail
          refine ⟨trivial, rfl, ?_⟩
          refine (callsIn_wide.2 (hs _)).mono ?_
          rintro e w' ⟨rfl, rfl⟩
          gi_wp2
          refine ⟨rfl, hR.mono ?_⟩
          rintro e W3 (⟨rfl, hJ3⟩ | ⟨rfl, hJx3⟩)
          · gi_wp2
            go_roundw
            case rel => exact ⟨k + 1, n + 1, r', rfl, by go_num, by omega, by omega, by omega, hJ3, .inl ⟨rfl, by omega, HD.out⟩⟩
            case measure => simp [seqLeft, strB_size]; omega
          · gi_wp2
            refine bodyPost_ret (results_none rfl _ _ _) rfl ?_
            exact ⟨⟨_, rfl⟩, .inr ⟨k, hlt, hJx3⟩⟩
    · gi_wp2
      go_end0
      exact ⟨⟨_, rfl⟩, .inl hJ⟩
set_option maxRecDepth 20000 in
theorem said_any (w : World) (l : Bs) :
    Calls Try.prog 37 #[.string (strB l)] w fun e w' => e = .returned (.func (.func 57) #[] #[.pointer (some ⟨w.heap.size, 0, none⟩)]) ∧ w' = w.alloc (.cells #[.string (strB l)] 9) := by
  go_enter Try.func37, Try.ntmps37
  go_wp2
  go_ret
  exact ⟨rfl, rfl⟩
theorem enter_said : ∀ args w, (callFunc 57 args).run Try.prog w = .ok (.enter 57 args) w := enters_own Try.func57 (by kernel_rfl) rfl
end Go.Proofs.Ytkihldkaiddbkaa
