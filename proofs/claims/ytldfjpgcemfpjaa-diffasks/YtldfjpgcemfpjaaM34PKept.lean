/-
  Objects, each id once, by the reference. Conditions: they lie there, not too many.
-/
import Derived.Test.YtldfjpgcemfpjaaM19PRow
import Derived.Laws.MakeOwn
namespace Go.Proofs.Ytldfjpgcemfpjaa
open Go.RowKit

theorem app_nil_obj (W : World) (a : Addr) (n c : Nat) (hnc : n ≤ c) : (Builtin.append_ #[22, 22] 22 #[.slice (some a) n c, .slice none 0 0]).run Try.prog W = .ok (.slice (some a) n c) W := by
  obtain ⟨i0, hi0, hz0, hz1, hz2⟩ := info_parts Try.zObj
  simp [Builtin.append_, run_underlying Try.underlying22, sizeOf, typeInfo, zeroValue, hi0, Builtin.lenOf, run_firstCells_none, hnc, storeCells, Result.andThen]
theorem any_take_step (os : List Pair) (id : Bs) (k : Nat) (h : k < os.length) : (os.take (k + 1)).any (fun o => o.1 == id) = ((os.take k).any (fun o => o.1 == id) || os[k].1 == id) := by
  rw [List.take_succ_eq_append_getElem h, List.any_append]
  simp
set_option maxRecDepth 40000 in
set_option maxHeartbeats 1600000 in
theorem kept_any (w : World) (raw : List Pair) (v : Value) (hv : Ls w.heap.size w 2 pairC v raw) (hn : raw.length ≤ 1000000) :
    Calls Try.prog 19 #[.slice none 0 0, v] w fun e w' => ∃ u, e = .returned u ∧ Rw w.heap.size w' 73 2 pairC u (keptP [] raw) ∧ Below w.heap.size w w' := by
  obtain ⟨i0, hi0, hz0, hz1, hz2⟩ := info_parts Try.zObj
  obtain ⟨ao, cap, rfl, hcap, hcap2, h4⟩ := hv
  unfold maxLen at hcap2
  obtain ⟨m, hm⟩ : ∃ m, m = raw.length := ⟨_, rfl⟩
  rw [← hm] at hcap hn ⊢
  obtain ⟨w1, hmk, hown1, hgr1⟩ := run_make_own (P := Try.prog) w w.heap.size 22 73 i0 _ 2 Try.underlying22 hi0 hz0 hz1 .i64 .i64 m (by rw [hz2]; omega) (by unfold maxLen; omega) (Nat.le_refl _)
  have hb1 : Below w.heap.size w w1 := (Below.refl _ w).grown hgr1 (Nat.le_refl _) (by intro k hk; cases hk)
  have R1 := hide (app_nil_obj w1 ⟨w.heap.size, 0, none⟩ 0 m (Nat.zero_le _))
  have HM := hide hm
  have H1 := hide (And.intro hown1 hb1)
  clear hm hown1 hb1 hgr1 hi0 hz0 hz1 hz2
  go_enter Try.func19, Try.ntmps19
  go_wp2_with (at_builtin; refine wpList_plain rfl (fun K hK => wp_append_run (.tmp 14) (.tmp 15) 22 rfl rfl rfl R1.out (hK _ _ ?_)))
  go_loopw [5, 6] (fun t u wr => ∃ i : Nat, i ≤ m ∧ u = .int .i64 i ∧ Rw w.heap.size wr 73 2 pairC t (keptP [] (raw.take i)) ∧ Below w.heap.size w wr)
    (fun _ u _ => m - (intOf u).toNat)
  case atStart => exact ⟨0, by omega, rfl, H1.out.1, H1.out.2⟩
  case round =>
    obtain ⟨i, him, rfl, hrow, hbw⟩ := hrel
    obtain ⟨os, hos⟩ : ∃ os, os = keptP [] (raw.take i) := ⟨_, rfl⟩
    have hosl : os.length ≤ 1000000 := by have := keptP_le (raw.take i) []; rw [hos]; simp at this; omega
    rw [← hos] at hrow
    obtain ⟨oa, oc, hov, ho1, ho2⟩ := own_form hrow
    obtain ⟨n, hn2⟩ : ∃ n, n = os.length := ⟨_, rfl⟩
    rw [← hn2] at hov ho1 hosl
    subst hov
    by_cases hlt : i < m
    · have hlt2 : i < raw.length := by have := HM.out; omega
      obtain ⟨b, off, rfl, hbB, hcell⟩ := h4 (by rintro rfl; simp at hlt2)
      have hstep := keptP_step [] raw i hlt2
      rw [← hos] at hstep
      have k0 : ∀ W, Below w.heap.size w W → W.cell? ⟨b, off + i * 2, none⟩ = some (.string (strB raw[i].1)) := fun W hW => (hW.cell (p := ⟨b, off + i * 2 + 0, none⟩) hbB).trans (hcell i hlt2 0 _ rfl)
      have k1 : ∀ W, Below w.heap.size w W → W.cell? ⟨b, off + i * 2 + 1, none⟩ = some (.string (strB raw[i].2)) := fun W hW => (hW.cell (p := ⟨b, off + i * 2 + 1, none⟩) hbB).trans (hcell i hlt2 1 _ rfl)
      generalize raw[i] = x at *
      have HS := hide (And.intro hrow (And.intro hbw (And.intro hstep hn2)))
      have HK := hide (And.intro k0 k1)
      have hx := toL x.1
      clear hrow hbw hstep hn2 k0 k1 hos h4 hcell
      obtain ⟨wo, rfl⟩ : ∃ wo, wo = wr := ⟨wr, rfl⟩
      go_wp2_with fail
      go_loopw [7, 8] (fun t u wi => ∃ k : Nat, k ≤ n ∧ u = .int .i64 k ∧ t = .bool ((os.take k).any (fun o => o.1 == x.1)) ∧ Below wo.heap.size wo wi)
        (fun _ u _ => n - (intOf u).toNat)
      case atStart => exact ⟨0, by omega, rfl, rfl, Below.refl _ _⟩
      case round =>
        obtain ⟨k, hk, rfl, rfl, hbi⟩ := hrel
        have hB2 := HS.out.2.1.trans (hbi.mono HS.out.2.1.size)
        have x0 := HK.out.1 wr hB2
        have x1 := HK.out.2 wr hB2
        have hrow2 := own_below HS.out.1 hbi
        have HR := hide (And.intro hrow2 (And.intro hB2 hbi))
        by_cases hlk : k < n
        · have hlk2 : k < os.length := by have := HS.out.2.2.2; omega
          have hls := ls_of_own pairC_length hrow2
          obtain ⟨oa', oc', he1, -, -, hc⟩ := hls
          obtain ⟨ob, oo, rfl, hob, hoc⟩ := hc (by rintro rfl; simp at hlk2)
          injection he1 with he1 _ he2
          subst he1 he2
          have y0 := hoc k hlk2 0 _ rfl
          have hst := any_take_step os x.1 k hlk2
          generalize os[k] = y at *
          simp only [Nat.add_zero] at y0
          have hy := toL y.1
          have HST := hide hst
          clear hst hoc hc hrow2 hB2 hbi
          generalize hth : (os.take k).any (fun o => o.1 == x.1) = th at *
          generalize hye : (y.1 == x.1) = ye at *
          go_wp2_with fail
          cases th with
          | true =>
            refine wp_region_held_drew (S := fun W => W.cell? ⟨ob, oo + k * 2, none⟩ = some (.string (strB y.1)) ∧ W.cell? ⟨b, off + i * 2, none⟩ = some (.string (strB x.1))) (by kernel_rfl) (⟨y0, x0⟩) (fun hHeld => ?_)
            refine takeK 0 hHeld ?_
            refine takeK 1 hHeld ?_
            refine skipK 2 hHeld ?_
            refine skipK 3 hHeld ?_
            refine skipK 4 hHeld ?_
            refine skipK 5 hHeld ?_
            refine skipK 6 hHeld ?_
            refine skipK 7 hHeld ?_
            refine skipK 8 hHeld ?_
            refine skipK 9 hHeld ?_
            refine skipK 10 hHeld ?_
            refine skipK 11 hHeld ?_
            refine skipK 12 hHeld ?_
            refine takeK 13 hHeld ?_
            refine takeK 14 hHeld ?_
            refine wpAnyH_done (by kernel_rfl) ?_ _
            clear hHeld
            go_wp2
            go_roundw
            case rel => exact ⟨k + 1, by omega, by go_num, by rw [HST.out]; rfl, HR.out.2.2.drew⟩
            case measure => simp [intOf]; omega
          | false =>
            refine wp_region_held_drew (S := fun W => W.cell? ⟨ob, oo + k * 2, none⟩ = some (.string (strB y.1)) ∧ W.cell? ⟨b, off + i * 2, none⟩ = some (.string (strB x.1))) (by kernel_rfl) (⟨y0, x0⟩) (fun hHeld => ?_)
            refine takeK 0 hHeld ?_
            refine takeK 1 hHeld ?_
            refine takeK 2 hHeld ?_
            refine takeK 3 hHeld ?_
            refine takeK 4 hHeld ?_
            refine takeK 5 hHeld ?_
            refine takeK 6 hHeld ?_
            refine takeK 7 hHeld ?_
            refine takeK 8 hHeld ?_
            refine takeK 9 hHeld ?_
            refine takeK 10 hHeld ?_
            refine takeK 11 hHeld ?_
            refine takeK 12 hHeld ?_
            refine takeK 13 hHeld ?_
            refine takeK 14 hHeld ?_
            refine wpAnyH_done (by kernel_rfl) ?_ _
            clear hHeld
            go_wp2
            go_roundw
            case rel => exact ⟨k + 1, by omega, by go_num, by rw [HST.out]; rfl, HR.out.2.2.drew⟩
            case measure => simp [intOf]; omega
        · obtain rfl : k = n := by omega
          have htk : os.take k = os := by rw [HS.out.2.2.2, List.take_length]
          rw [htk]
          obtain ⟨vn, w3, run3, row3, gr3, -⟩ := app_obj wr w.heap.size _ os x hrow2 hB2.size (by have := HS.out.2.2.2; omega)
          have hrA : Rw w.heap.size (wr.alloc (.cells #[.string (strB x.1), .string (strB x.2)] 73)) 73 2 pairC (.slice oa k oc) os := World.ownsRow.alloc hrow2 _
          have hb3 : Below w.heap.size w w3 := (hB2.alloc hB2.size _).trans ((Below.refl _ _).grown gr3 (by have := hB2.size; simp; omega) (fun q hq => (World.ownsRow.lt hrA q hq).1))
          have R3 := hide run3
          have H3 := hide (And.intro row3 hb3)
          obtain ⟨na, nm, nc, rfl⟩ := row_form row3
          have hst := HS.out.2.2.1
          unfold layP at hst
          clear htk hrow2 hB2 hbi run3 row3 gr3 hrA hb3
          generalize hth : os.any (fun o => o.1 == x.1) = th at *
          cases th with
          | true =>
            rw [if_pos rfl] at hst
            have HST := hide hst
            clear hst
            go_wp2
            go_roundw
            case rel => exact ⟨i + 1, by omega, by go_num, by rw [HST.out]; exact HR.out.1, HR.out.2.1⟩
            case measure => simp [intOf]; omega
          | false =>
            rw [if_neg (by simp)] at hst
            have HST := hide hst
            clear hst
            go_wp2_with (at_builtin; refine wpList_plain rfl (fun K hK => wp_append_run (.tmp 45) (.tmp 50) 22 rfl rfl rfl R3.out (hK _ _ ?_)))
            go_wp2
            go_roundw
            case rel => exact ⟨i + 1, by omega, by go_num, by rw [HST.out]; exact H3.out.1, H3.out.2⟩
            case measure => simp [intOf]; omega
    · obtain rfl : i = m := by omega
      have htk : raw.take i = raw := by rw [HM.out, List.take_length]
      rw [hos, htk] at hrow
      have HS := hide (And.intro hrow hbw)
      clear hrow hbw hos hn2 htk
      go_wp2
      go_ret
      exact ⟨_, rfl, HS.out.1, HS.out.2⟩
end Go.Proofs.Ytldfjpgcemfpjaa
