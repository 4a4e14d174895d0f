/-
  Texts joined: DShownP, DShown, DShown2, DShown3, DAsked, DSame, DDoor.
-/
import Derived.Test.YtldfjpgcemfpjaaS28DThrough
import Derived.Test.YtldfjpgcemfpjaaS29DKey
import Derived.Test.YtldfjpgcemfpjaaS34PRBuild
import Derived.Test.YtldfjpgcemfpjaaS33PKept
import Derived.Test.YtldfjpgcemfpjaaS17PPlain
import Derived.Test.YtldfjpgcemfpjaaS6ORise
import Derived.Test.YtldfjpgcemfpjaaS19PRow
import Derived.OpenShut
import Derived.ShutString
import Derived.ChangeOld
import Derived.SizedLaws
import Derived.Deep.DeepHandedRow
import Derived.Deep.Slices
import Derived.Deep.Strs
import Derived.Lib.LaidTab
/-
  What the statements show first, plainly: two maps of two pairs that differ in one value. No condition.
-/
namespace Go.Proofs.Ytldfjpgcemfpjaa
open Go.RowKit

def twoV (v : UInt8) : List Pair := [([97], [49]), ([98], [v])]
theorem twoV_ends : ends12 1 [97] 0 = false := by kernel_rfl
theorem twoV_leaf (v : UInt8) : leafG (twoV v) = [twoV v] := by
  unfold leafG twoV
  rw [gath, if_neg (by rw [show ([] : List Pair).length + 1 = 1 from rfl, twoV_ends]; simp), gath]
  split
  · rfl
  · rfl
theorem twoV_build (v : UInt8) (h : pairsOk (twoV v) = true) : buildM (twoV v) = ((leafO (twoV v)).1, [leafO (twoV v)], 0) := by
  rw [buildM_some (by unfold twoV; simp) h (by unfold twoV; simp)]
  unfold mapR
  rw [twoV_leaf, riseL_one (by simp)]
  rfl
theorem two_ok (v : UInt8) (h : leafOk ltB (twoV v) = true) (hlen : (leafB (twoV v)).length ≤ 1000) : (leafO (twoV v)).2.length ≤ 140737488351232 ∧ nodeM (leafO (twoV v)).2 = some (0, twoV v, []) := by
  have e : (leafO (twoV v)).2 = 76 :: leafB (twoV v) := rfl
  rw [e]
  exact ⟨by simp; omega, nodeM_leaf ((takenLeaf_iff (76 :: leafB (twoV v)) (by simp; omega) (twoV v)).2 ⟨h, rfl⟩)⟩
theorem ids_ne : (leafO (twoV 50)).1 ≠ (leafO (twoV 53)).1 := by decide +kernel
section
variable {fd : Bs → Option Bs} {x y : Bs} {n m : NodeM}
/-- A node that nobody knew is met. -/
theorem meetM_fresh {σ : Cm} {i : Nat} {k : Link} {l : Nat} {body : Option NodeM} (hid : k.2.1 ∉ σ.met) : ∃ τ, meetM σ i k l body = (0, τ) ∧ τ.met = σ.met ++ [k.2.1] ∧ τ.nd k.2.1 = setOn ⟨k, l, (false, false), body⟩ i ∧ (∀ z, z ≠ k.2.1 → τ.nd z = σ.nd z) ∧ τ.lev = updL σ.lev i l (σ.lev i l ++ [k.2.1]) ∧ τ.prs = σ.prs ∧ τ.asked = σ.asked := by
  have hkn : knowM σ k l body = ⟨σ.met ++ [k.2.1], updN σ.nd k.2.1 ⟨k, l, (false, false), body⟩, σ.lev, σ.prs, σ.asked⟩ := by unfold knowM; rw [if_neg hid]
  have hod : oddM ((knowM σ k l body).nd k.2.1) i k l = false := by
    rw [hkn]
    simp only [updN_same]
    unfold oddM onAt
    by_cases hi : i = 0 <;> simp [hi]
  refine ⟨hangM (knowM σ k l body) i k.2.1, by unfold meetM; rw [hod]; simp, ?_, ?_, fun z hz => ?_, ?_, ?_, ?_⟩
  · rw [hkn]; rfl
  · rw [hkn]
    show updN _ k.2.1 (setOn (updN σ.nd k.2.1 ⟨k, l, (false, false), body⟩ k.2.1) i) k.2.1 = _
    rw [updN_same, updN_same]
  · rw [hkn]
    show updN _ k.2.1 _ z = _
    rw [updN_other hz]
    exact updN_other hz
  · rw [hkn]
    show updL σ.lev i (updN σ.nd k.2.1 ⟨k, l, (false, false), body⟩ k.2.1).level.toNat _ = _
    simp only [updN_same]
    rfl
  · rw [hkn]; rfl
  · rw [hkn]; rfl
theorem downM_skip {σ : Cm} (h : ∀ k, 1 ≤ k → σ.lev 0 k = [] ∧ σ.lev 1 k = []) : ∀ l, downM fd (l + 1) σ = downM fd 1 σ
  | 0 => rfl
  | l + 1 => by
    have hb : bothM fd (l + 1) σ = (0, σ) := by
      unfold bothM
      rw [(h (l + 1) (by omega)).1, throughM, if_neg (by simp), (h (l + 1) (by omega)).2, throughM]
    rw [downM, hb, if_neg (by simp)]
    exact downM_skip h l
/-- A leaf that is known whole is gone into. -/
theorem throughM_leaf {σ : Cm} {i : Nat} {z : Bs} {q : NodeM} (hb : (σ.nd z).body = some q) (hs : isSh (σ.nd z) = false) (hq : q.2.2 = []) (hp : σ.prs i = []) : throughM fd i [z] σ = (0, pairsM σ i q.2.1) := by
  rw [throughM_cons]
  have : stepM fd i σ z = (0, pairsM σ i q.2.1) := by
    unfold stepM
    rw [hs]
    simp only [Bool.false_eq_true, if_false]
    unfold intoM
    rw [readM_have (by rw [hb]; rfl), if_neg (by simp)]
    unfold tellM
    rw [show bodyOf (σ.nd z) = q by unfold bodyOf; rw [hb]; rfl, hp, hq]
    rw [if_neg (by unfold fitP; simp)]
    rfl
  rw [this, if_neg (by simp), throughM]
/-- Two leaves that are not one. -/
theorem leaves_down (hxy : x ≠ y) (hx : askM fd (rootK x) (-1) = (0, n)) (hy : askM fd (rootK y) (-1) = (0, m)) (hn : n.1 = 0) (hm : m.1 = 0) (hn2 : n.2.2 = []) (hm2 : m.2.2 = []) : ∃ σ, goDownM fd x y = (0, σ) ∧ σ.prs 0 = n.2.1 ∧ σ.prs 1 = m.2.1 ∧ σ.asked = [x, y] := by
  have hyx : y ≠ x := fun h => hxy h.symm
  obtain ⟨σa, a0, a1, a2, a3, a4, a5, a6⟩ := meetM_fresh (σ := askedM cm0 x) (i := 0) (k := linkM x n) (l := 0) (body := some n) (by simp [askedM, cm0])
  have hba : beginM fd cm0 0 x = (0, σa) := by
    unfold beginM
    rw [hx, if_neg (by simp), hn]
    exact a0
  have ha1 : σa.met = [x] := a1
  obtain ⟨σb, b0, b1, b2, b3, b4, b5, b6⟩ := meetM_fresh (σ := askedM σa y) (i := 1) (k := linkM y m) (l := 0) (body := some m) (by
    show y ∉ σa.met
    rw [ha1]
    simpa using hyx)
  have hbb : beginM fd σa 1 y = (0, σb) := by
    unfold beginM
    rw [hy, if_neg (by simp), hm]
    exact b0
  have hroots : rootsM fd x y = (0, σb) := by
    unfold rootsM
    rw [hba, if_neg (by simp)]
    exact hbb
  have hlev : ∀ i k, σb.lev i k = if i = 1 ∧ k = 0 then [y] else if i = 0 ∧ k = 0 then [x] else [] := fun i k => by
    rw [b4]
    show updL σa.lev 1 0 (σa.lev 1 0 ++ [y]) i k = _
    rw [a4]
    unfold updL
    by_cases h1 : i = 1 ∧ k = 0
    · simp [h1, askedM, cm0]
    · rw [if_neg h1, if_neg h1]
      by_cases h2 : i = 0 ∧ k = 0
      · simp [h2, askedM, cm0, linkM]
      · rw [if_neg h2, if_neg h2]; rfl
  have hndx : σb.nd x = setOn ⟨linkM x n, 0, (false, false), some n⟩ 0 := by
    rw [b3 x hxy]
    exact a2
  have hndy : σb.nd y = setOn ⟨linkM y m, 0, (false, false), some m⟩ 1 := b2
  have hprs : ∀ i, σb.prs i = [] := fun i => by
    rw [b5]
    show σa.prs i = []
    rw [a5]
    rfl
  have hask : σb.asked = [x, y] := by
    rw [b6]
    show σa.asked ++ [y] = _
    rw [a6]
    rfl
  have h1 : throughM fd 0 (σb.lev 0 0) σb = (0, pairsM σb 0 n.2.1) := by
    rw [hlev 0 0]
    exact throughM_leaf (by rw [hndx]; rfl) (by rw [hndx]; rfl) hn2 (hprs 0)
  have h2 : throughM fd 1 ((pairsM σb 0 n.2.1).lev 1 0) (pairsM σb 0 n.2.1) = (0, pairsM (pairsM σb 0 n.2.1) 1 m.2.1) := by
    rw [show (pairsM σb 0 n.2.1).lev 1 0 = [y] from hlev 1 0]
    refine throughM_leaf ?_ ?_ hm2 ?_
    · show (σb.nd y).body = _
      rw [hndy]; rfl
    · show isSh (σb.nd y) = _
      rw [hndy]; rfl
    · show updP σb.prs 0 (σb.prs 0 ++ n.2.1) 1 = []
      unfold updP
      rw [if_neg (by omega)]
      exact hprs 1
  have hboth : bothM fd 0 σb = (0, pairsM (pairsM σb 0 n.2.1) 1 m.2.1) := by
    unfold bothM
    rw [h1, if_neg (by simp)]
    exact h2
  refine ⟨pairsM (pairsM σb 0 n.2.1) 1 m.2.1, ?_, ?_, ?_, hask⟩
  · unfold goDownM
    rw [hroots, if_neg (by simp), downM_skip (fun k hk => ⟨by rw [hlev, if_neg (by omega), if_neg (by omega)], by rw [hlev, if_neg (by omega), if_neg (by omega)]⟩) 20, downM, hboth, if_neg (by simp), downM]
  · show updP (updP σb.prs 0 (σb.prs 0 ++ n.2.1)) 1 (updP σb.prs 0 (σb.prs 0 ++ n.2.1) 1 ++ m.2.1) 0 = n.2.1
    unfold updP
    rw [if_neg (by omega), if_pos rfl, hprs]
    rfl
  · show updP (updP σb.prs 0 (σb.prs 0 ++ n.2.1)) 1 (updP σb.prs 0 (σb.prs 0 ++ n.2.1) 1 ++ m.2.1) 1 = m.2.1
    unfold updP
    rw [if_pos rfl, if_neg (by omega), hprs]
    rfl
end
/-- The two maps that are shown have one change. -/
theorem shown_maps : ∃ asks, mapsM (findO [leafO (twoV 50), leafO (twoV 53)]) (leafO (twoV 50)).1 (leafO (twoV 53)).1 = (0, ([([98], (some [50], some [53]))], asks)) := by
  have hne := ids_ne
  obtain ⟨-, hn⟩ := two_ok 50 (by decide) (by decide +kernel)
  obtain ⟨-, hm⟩ := two_ok 53 (by decide) (by decide +kernel)
  have hf1 : findO [leafO (twoV 50), leafO (twoV 53)] (leafO (twoV 50)).1 = some (leafO (twoV 50)).2 := by unfold findO; simp
  have hf2 : findO [leafO (twoV 50), leafO (twoV 53)] (leafO (twoV 53)).1 = some (leafO (twoV 53)).2 := by
    unfold findO
    have : ((leafO (twoV 50)).1 == (leafO (twoV 53)).1) = false := by simpa using hne
    simp [this]
  obtain ⟨σ, h1, h2, h3, h4⟩ := leaves_down hne (askM_root_ok hf1 hn) (askM_root_ok hf2 hm) rfl rfl rfl rfl
  refine ⟨σ.asked, ?_⟩
  unfold mapsM
  rw [if_neg hne, h1, if_neg (by simp), h2, h3]
  rfl
end Go.Proofs.Ytldfjpgcemfpjaa

/-
  What the statements show first. No condition.
-/
namespace Go.Proofs.Ytldfjpgcemfpjaa
open Go.RowKit

set_option maxRecDepth 40000 in
set_option maxHeartbeats 1600000 in
theorem kept2_any (w : World) (os0 raw : List Pair) (v0 v : Value) (B0 : Nat) (h0 : Rw B0 w 73 2 pairC v0 os0) (hos0 : 1 ≤ os0.length) (hv : Ls w.heap.size w 2 pairC v raw) (hn : os0.length + raw.length ≤ 1000000) :
    Calls Try.prog 19 #[v0, v] w fun e w' => ∃ u, e = .returned u ∧ Rw w.heap.size w' 73 2 pairC u (keptP os0 raw) ∧ Below w.heap.size w w' := by
  obtain ⟨i0, hi0, hz0, hz1, hz2⟩ := info_parts Try.zObj
  obtain ⟨ao, cap, rfl, hcap, hcap2, h4⟩ := hv
  unfold maxLen at hcap2
  obtain ⟨m, hm⟩ : ∃ m, m = raw.length := ⟨_, rfl⟩
  rw [← hm] at hcap hn ⊢
  obtain ⟨c0, hc0, n0, rfl⟩ : ∃ c0 hc0 n0, v0 = .slice c0 hc0 n0 := row_form h0
  obtain ⟨z0, hz⟩ : ∃ z0, z0 = os0.length := ⟨_, rfl⟩
  have hv0 : hc0 = z0 := by
    obtain ⟨q1, q2, q3, -⟩ := own_form h0
    injection q3 with _ q3 _
    rw [q3, hz]
  subst hv0
  obtain ⟨M, hM⟩ : ∃ M, M = hc0 + m := ⟨_, rfl⟩
  obtain ⟨w1, hmk, hown1, hgr1⟩ := run_make_own (P := Try.prog) w w.heap.size 22 73 i0 _ 2 Try.underlying22 hi0 hz0 hz1 .i64 .i64 M (by rw [hz2]; omega) (by unfold maxLen; omega) (Nat.le_refl _)
  have hb1 : Below w.heap.size w w1 := (Below.refl _ w).grown hgr1 (Nat.le_refl _) (by intro k hk; cases hk)
  have h01 : Rw B0 w1 73 2 pairC (.slice c0 hc0 n0) os0 := own_below h0 hb1
  obtain ⟨v5, w5, hrun5, hown5, hb5, -⟩ := app_objs w1 w.heap.size B0 _ _ ([] : List Pair) os0 hown1 h01 hos0 hb1.size (by simp; omega)
  obtain ⟨v5a, v5n, v5c, rfl⟩ := row_form hown5
  rw [List.nil_append] at hown5
  have R1 := hide hrun5
  have hwr : IntKind.i64.wrap ((hc0 : Int) + (m : Int)) = (M : Int) := by rw [IntKind.wrap_i64]; omega
  have hMs : (hc0 : Int) + (m : Int) = (M : Int) := by omega
  clear hM
  have hb15 := hb1.trans hb5
  have HM := hide hm
  have H1 := hide (And.intro hown5 hb15)
  have HZ0 := hide hz
  have hz0n : hc0 ≤ 1000000 := by omega
  clear hm hown1 hb1 hgr1 hi0 hz0 hz1 hz2 h01 hrun5 hown5 hb5 hb15 h0 hz
  go_enter Try.func19, Try.ntmps19
  go_wp2_with (at_builtin; refine wpList_plain rfl (fun K hK => wp_append_run (.tmp 14) (.tmp 15) 22 rfl rfl rfl R1.out (hK _ _ ?_)))
  go_loopw [5, 6] (fun t u wr => ∃ i : Nat, i ≤ m ∧ u = .int .i64 i ∧ Rw w.heap.size wr 73 2 pairC t (keptP os0 (raw.take i)) ∧ Below w.heap.size w wr)
    (fun _ u _ => m - (intOf u).toNat)
  case atStart => exact ⟨0, by omega, rfl, by simpa [keptP] using H1.out.1, H1.out.2⟩
  case round =>
    obtain ⟨i, him, rfl, hrow, hbw⟩ := hrel
    obtain ⟨os, hos⟩ : ∃ os, os = keptP os0 (raw.take i) := ⟨_, rfl⟩
    have hosl : os.length ≤ 1000000 := by have := keptP_le (raw.take i) os0; rw [hos]; have hq := HZ0.out; simp at this; omega
    rw [← hos] at hrow
    obtain ⟨oa, oc, hov, ho1, ho2⟩ := own_form hrow
    obtain ⟨n, hn2⟩ : ∃ n, n = os.length := ⟨_, rfl⟩
    rw [← hn2] at hov ho1 hosl
    subst hov
    by_cases hlt : i < m
    · have hlt2 : i < raw.length := by have := HM.out; omega
      obtain ⟨b, off, rfl, hbB, hcell⟩ := h4 (by rintro rfl; simp at hlt2)
      have hstep := keptP_step os0 raw i hlt2
      rw [← hos] at hstep
      have k0 : ∀ W, Below w.heap.size w W → W.cell? ⟨b, off + i * 2, none⟩ = some (.string (strB raw[i].1)) := fun W hW => (hW.cell (p := ⟨b, off + i * 2 + 0, none⟩) hbB).trans (hcell i hlt2 0 _ rfl)
      have k1 : ∀ W, Below w.heap.size w W → W.cell? ⟨b, off + i * 2 + 1, none⟩ = some (.string (strB raw[i].2)) := fun W hW => (hW.cell (p := ⟨b, off + i * 2 + 1, none⟩) hbB).trans (hcell i hlt2 1 _ rfl)
      generalize raw[i] = x at *
      have HS := hide (And.intro hrow (And.intro hbw (And.intro hstep hn2)))
      have HK := hide (And.intro k0 k1)
      have hx := toL x.1
      clear hrow hbw hstep hn2 k0 k1 hos h4 hcell
      obtain ⟨wo, rfl⟩ : ∃ wo, wo = wr := ⟨wr, rfl⟩
      go_wp2_with fail
      go_loopw [7, 8] (fun t u wi => ∃ k : Nat, k ≤ n ∧ u = .int .i64 k ∧ t = .bool ((os.take k).any (fun o => o.1 == x.1)) ∧ Below wo.heap.size wo wi)
        (fun _ u _ => n - (intOf u).toNat)
      case atStart => exact ⟨0, by omega, rfl, rfl, Below.refl _ _⟩
      case round =>
        obtain ⟨k, hk, rfl, rfl, hbi⟩ := hrel
        have hB2 := HS.out.2.1.trans (hbi.mono HS.out.2.1.size)
        have x0 := HK.out.1 wr hB2
        have x1 := HK.out.2 wr hB2
        have hrow2 := own_below HS.out.1 hbi
        have HR := hide (And.intro hrow2 (And.intro hB2 hbi))
        by_cases hlk : k < n
        · have hlk2 : k < os.length := by have := HS.out.2.2.2; omega
          have hls := ls_of_own pairC_length hrow2
          obtain ⟨oa', oc', he1, -, -, hc⟩ := hls
          obtain ⟨ob, oo, rfl, hob, hoc⟩ := hc (by rintro rfl; simp at hlk2)
          injection he1 with he1 _ he2
          subst he1 he2
          have y0 := hoc k hlk2 0 _ rfl
          have hst := any_take_step os x.1 k hlk2
          generalize os[k] = y at *
          simp only [Nat.add_zero] at y0
          have hy := toL y.1
          have HST := hide hst
          clear hst hoc hc hrow2 hB2 hbi
          generalize hth : (os.take k).any (fun o => o.1 == x.1) = th at *
          generalize hye : (y.1 == x.1) = ye at *
          go_wp2_with fail
          cases th with
          | true =>
            refine wp_region_held_drew (S := fun W => W.cell? ⟨ob, oo + k * 2, none⟩ = some (.string (strB y.1)) ∧ W.cell? ⟨b, off + i * 2, none⟩ = some (.string (strB x.1))) (by kernel_rfl) (⟨y0, x0⟩) (fun hHeld => ?_)
            refine takeK 0 hHeld ?_
            refine takeK 1 hHeld ?_
            refine skipK 2 hHeld ?_
            refine skipK 3 hHeld ?_
            refine skipK 4 hHeld ?_
            refine skipK 5 hHeld ?_
            refine skipK 6 hHeld ?_
            refine skipK 7 hHeld ?_
            refine skipK 8 hHeld ?_
            refine skipK 9 hHeld ?_
            refine skipK 10 hHeld ?_
            refine skipK 11 hHeld ?_
            refine skipK 12 hHeld ?_
            refine takeK 13 hHeld ?_
            refine takeK 14 hHeld ?_
            refine wpAnyH_done (by kernel_rfl) ?_ _
            clear hHeld
            go_wp2
            go_roundw
            case rel => exact ⟨k + 1, by omega, by go_num, by rw [HST.out]; rfl, HR.out.2.2.drew⟩
            case measure => simp [intOf]; omega
          | false =>
            refine wp_region_held_drew (S := fun W => W.cell? ⟨ob, oo + k * 2, none⟩ = some (.string (strB y.1)) ∧ W.cell? ⟨b, off + i * 2, none⟩ = some (.string (strB x.1))) (by kernel_rfl) (⟨y0, x0⟩) (fun hHeld => ?_)
            refine takeK 0 hHeld ?_
            refine takeK 1 hHeld ?_
            refine takeK 2 hHeld ?_
            refine takeK 3 hHeld ?_
            refine takeK 4 hHeld ?_
            refine takeK 5 hHeld ?_
            refine takeK 6 hHeld ?_
            refine takeK 7 hHeld ?_
            refine takeK 8 hHeld ?_
            refine takeK 9 hHeld ?_
            refine takeK 10 hHeld ?_
            refine takeK 11 hHeld ?_
            refine takeK 12 hHeld ?_
            refine takeK 13 hHeld ?_
            refine takeK 14 hHeld ?_
            refine wpAnyH_done (by kernel_rfl) ?_ _
            clear hHeld
            go_wp2
            go_roundw
            case rel => exact ⟨k + 1, by omega, by go_num, by rw [HST.out]; rfl, HR.out.2.2.drew⟩
            case measure => simp [intOf]; omega
        · obtain rfl : k = n := by omega
          have htk : os.take k = os := by rw [HS.out.2.2.2, List.take_length]
          rw [htk]
          obtain ⟨vn, w3, run3, row3, gr3, -⟩ := app_obj wr w.heap.size _ os x hrow2 hB2.size (by have := HS.out.2.2.2; omega)
          have hrA : Rw w.heap.size (wr.alloc (.cells #[.string (strB x.1), .string (strB x.2)] 73)) 73 2 pairC (.slice oa k oc) os := World.ownsRow.alloc hrow2 _
          have hb3 : Below w.heap.size w w3 := (hB2.alloc hB2.size _).trans ((Below.refl _ _).grown gr3 (by have := hB2.size; simp; omega) (fun q hq => (World.ownsRow.lt hrA q hq).1))
          have R3 := hide run3
          have H3 := hide (And.intro row3 hb3)
          obtain ⟨na, nm, nc, rfl⟩ := row_form row3
          have hst := HS.out.2.2.1
          unfold layP at hst
          clear htk hrow2 hB2 hbi run3 row3 gr3 hrA hb3
          generalize hth : os.any (fun o => o.1 == x.1) = th at *
          cases th with
          | true =>
            rw [if_pos rfl] at hst
            have HST := hide hst
            clear hst
            go_wp2
            go_roundw
            case rel => exact ⟨i + 1, by omega, by go_num, by rw [HST.out]; exact HR.out.1, HR.out.2.1⟩
            case measure => simp [intOf]; omega
          | false =>
            rw [if_neg (by simp)] at hst
            have HST := hide hst
            clear hst
            go_wp2_with (at_builtin; refine wpList_plain rfl (fun K hK => wp_append_run (.tmp 45) (.tmp 50) 22 rfl rfl rfl R3.out (hK _ _ ?_)))
            go_wp2
            go_roundw
            case rel => exact ⟨i + 1, by omega, by go_num, by rw [HST.out]; exact H3.out.1, H3.out.2⟩
            case measure => simp [intOf]; omega
    · obtain rfl : i = m := by omega
      have htk : raw.take i = raw := by rw [HM.out, List.take_length]
      rw [hos, htk] at hrow
      have HS := hide (And.intro hrow hbw)
      clear hrow hbw hos hn2 htk
      go_wp2
      go_ret
      exact ⟨_, rfl, HS.out.1, HS.out.2⟩
end Go.Proofs.Ytldfjpgcemfpjaa

/-
  What the statements show first: the walk. No condition.
-/
namespace Go.Proofs.Ytldfjpgcemfpjaa
open Go.RowKit

theorem enters_ownD {P : Program} {f : FuncId} {fn : Func} {c : Code} (h1 : P.funcs[f]? = some fn) (h2 : (fn.name == "runtime.NumGoroutine") = false) (h3 : fn.body = some c) (args : Array Value) (w : World) : (callFunc f args).run P w = .ok (.enter f args) w := by
  have h4 : fn.name ≠ "runtime.NumGoroutine" := by simpa using h2
  simp [callFunc, h1, h4, h3, mark]
/-- The get of a list that lies there. -/
theorem get_fromD {w2 : World} {c : Nat} {v : Value} {objs : List Pair} (hc : w2.heap[c]? = some (.cells #[v] 22)) (hv : Ls w2.heap.size w2 2 pairC v objs) (hs : ∀ o ∈ objs, o.2.length ≤ 140737488351232) :
    GetD 22 #[.pointer (some ⟨c, 0, none⟩)] (findO objs) w2.heap.size (fun W _ => Below w2.heap.size w2 W) where
  eg := enters_ownD Try.func22 (by kernel_rfl) rfl
  le W a h := h.size
  mv h hm := h.trans hm.b
  call W a id h _ := (from1_any W c v objs id ((h.block c (lt_of_heap hc)).trans hc) ((hv.keep h).up h.size)).mono fun e w' hq => ⟨hq.1, hq.2 ▸ h, hq.2 ▸ Below.refl _ _, hq.2 ▸ Kp.refl _⟩
  short id b h := findO_short hs id b h
set_option maxRecDepth 20000 in
theorem fromD_any (w : World) (ao : Option Addr) (m c : Nat) : Calls Try.prog 9 #[.slice ao m c] w fun e w' => e = .returned (.func (.func 22) #[] #[.pointer (some ⟨w.heap.size, 0, none⟩)]) ∧ w' = w.alloc (.cells #[.slice ao m c] 22) := by
  have hmf : ∀ (fn : Fn) (first cap : Array Value) (w : World), (Instr.makeFunc fn first cap).run Try.prog w = .ok (.func fn first cap) w := fun _ _ _ _ => rfl
  go_enter Try.func9, Try.ntmps9
  go_wp2
  go_ret
  exact ⟨rfl, rfl⟩
theorem ls_twoV (w : World) (v : UInt8) : Ls (w.alloc (.cells #[.string ⟨#[97]⟩, .string ⟨#[49]⟩, .string ⟨#[98]⟩, .string ⟨#[v]⟩] 48)).heap.size (w.alloc (.cells #[.string ⟨#[97]⟩, .string ⟨#[49]⟩, .string ⟨#[98]⟩, .string ⟨#[v]⟩] 48)) 2 pairC (.slice (some ⟨w.heap.size, 0, none⟩) 2 2) (twoV v) := by
  have hx := heap_last w (.cells #[.string ⟨#[97]⟩, .string ⟨#[49]⟩, .string ⟨#[98]⟩, .string ⟨#[v]⟩] 48) _ rfl
  refine ⟨_, 2, rfl, Nat.le_refl _, by unfold maxLen; omega, fun _ => ⟨w.heap.size, 0, rfl, by simp, fun j hj i u hu => ?_⟩⟩
  rw [cell_of_row _ _ _ _ _ _ hx]
  match j, hj with
  | 0, _ =>
    match i with
    | 0 => exact hu
    | 1 => exact hu
    | _ + 2 => simp [twoV, pairC] at hu
  | 1, _ =>
    match i with
    | 0 => exact hu
    | 1 => exact hu
    | _ + 2 => simp [twoV, pairC] at hu
theorem Try.eqChange : Try.prog.underlying 52 = some (.struct (Try.prog.fieldsOf 52)) ∧ Try.prog.stoodInHeld 52 = false := ⟨by kernel_rfl, by kernel_rfl⟩
theorem equal_Change (W : World) (x y : Ch5) : (Op.equalIn 10000 52 (.agg (ch5C x).toArray) (.agg (ch5C y).toArray)).run Try.prog W = .ok (decide (x = y)) W := by
  obtain ⟨h1, h2⟩ := Try.eqChange
  rw [run_equalIn_agg _ _ _ _ _ h1 h2]
  simp only [Program.fieldsOf, Try.underlying52]
  obtain ⟨x0, x1, x2, x3, x4⟩ := x
  obtain ⟨y0, y1, y2, y3, y4⟩ := y
  by_cases q0 : x0 = y0 <;> by_cases q1 : x1 = y1 <;> by_cases q2 : x2 = y2 <;> by_cases q3 : x3 = y3 <;> by_cases q4 : x4 = y4 <;> simp [ch5C, Op.eqFields, go_sem, Try.underlying9, Try.underlying4, toL, q0, q1, q2, q3, q4]
end Go.Proofs.Ytldfjpgcemfpjaa

/-
  What the statements show first is as it should be. No condition.
-/
namespace Go.Proofs.Ytldfjpgcemfpjaa
open Go.RowKit

set_option maxRecDepth 40000 in
set_option maxHeartbeats 3200000 in
theorem dshown_any (w : World) : Calls Try.prog 7 #[] w fun e w' => e = .returned (.bool true) ∧ Below w.heap.size w w' := by
  have hbA : Below w.heap.size w (w.alloc (.cells #[.string ⟨#[97]⟩, .string ⟨#[49]⟩, .string ⟨#[98]⟩, .string ⟨#[50]⟩] 48)) := (Below.refl _ _).alloc (Nat.le_refl _) _
  have hbd1 := build12_any (w.alloc (.cells #[.string ⟨#[97]⟩, .string ⟨#[49]⟩, .string ⟨#[98]⟩, .string ⟨#[50]⟩] 48)) (twoV 50) _ (ls_twoV w 50)
  rw [twoV_build 50 (by decide)] at hbd1
  have hne := ids_ne
  obtain ⟨asks, hsm⟩ := shown_maps
  obtain ⟨hs1, -⟩ := two_ok 50 (by decide) (by decide +kernel)
  obtain ⟨hs2, -⟩ := two_ok 53 (by decide) (by decide +kernel)
  have hbl2 := twoV_build 53 (by decide)
  obtain ⟨o, ho⟩ : ∃ o, o = leafO (twoV 50) := ⟨_, rfl⟩
  obtain ⟨q, hq⟩ : ∃ q, q = leafO (twoV 53) := ⟨_, rfl⟩
  rw [← ho] at hbd1 hne hsm hs1
  rw [← hq] at hbl2 hne hsm hs2
  simp only at hbd1
  have hkp : keptP [o] [q] = [o, q] := by
    have hb : (o.1 == q.1) = false := by simpa using hne
    simp [keptP, layP, hb]
  have HH := hide (And.intro hbA (And.intro hsm (And.intro hs1 (And.intro hs2 (And.intro hkp hbl2)))))
  clear hbA hne hsm hs1 hs2 hkp hbl2 ho hq
  go_enter Try.func7, Try.ntmps7
  go_wp2_with fail
  refine hbd1.mono ?_
  rintro e w1 ⟨u1, rfl, hr1, hb1⟩
  have hB1 := HH.out.1.trans (hb1.mono HH.out.1.size)
  have hbB : Below w1.heap.size w1 (w1.alloc (.cells #[.string ⟨#[97]⟩, .string ⟨#[49]⟩, .string ⟨#[98]⟩, .string ⟨#[53]⟩] 48)) := (Below.refl _ _).alloc (Nat.le_refl _) _
  have hbd2 := build12_any (w1.alloc (.cells #[.string ⟨#[97]⟩, .string ⟨#[49]⟩, .string ⟨#[98]⟩, .string ⟨#[53]⟩] 48)) (twoV 53) _ (ls_twoV w1 53)
  rw [HH.out.2.2.2.2.2] at hbd2
  simp only at hbd2
  obtain ⟨ua, um, uc', rfl⟩ := row_form hr1
  have H1 := hide (And.intro hr1 (And.intro hB1 hbB))
  clear hbd1 hr1 hb1 hB1 hbB
  go_wp2_with fail
  refine hbd2.mono ?_
  rintro e w2 ⟨u2, rfl, hr2, hb2⟩
  have hB12 : Below w1.heap.size w1 w2 := H1.out.2.2.trans (hb2.mono H1.out.2.2.size)
  have hB2 := H1.out.2.1.trans (hB12.mono H1.out.2.1.size)
  have hr12 : Rw _ w2 73 2 pairC _ [o] := own_below H1.out.1 hB12
  have hkt := kept2_any w2 [o] [q] _ _ _ hr12 (by simp) (ls_of_own pairC_length hr2) (by simp)
  rw [HH.out.2.2.2.2.1] at hkt
  obtain ⟨ua2, um2, uc2, rfl⟩ := row_form hr2
  have H2 := hide hB2
  clear hbd2 hr2 hb2 hB12 hB2 hr12
  go_wp2_with fail
  refine hkt.mono ?_
  rintro e w3 ⟨u3, rfl, hr3, hb3⟩
  have hB3 := H2.out.trans (hb3.mono H2.out.size)
  obtain ⟨ua3, um3, uc3, rfl⟩ := row_form hr3
  have hfr := fromD_any w3 ua3 um3 uc3
  have hb4 : Below w3.heap.size w3 (w3.alloc (.cells #[.slice ua3 um3 uc3] 22)) := (Below.refl _ _).alloc (Nat.le_refl _) _
  have hc4 := heap_last w3 (.cells #[.slice ua3 um3 uc3] 22) _ rfl
  have hr4 := own_below hr3 hb4
  have hG := get_fromD (w2 := w3.alloc (.cells #[.slice ua3 um3 uc3] 22)) hc4 (ls_of_own (cs := pairC) (xs := [o, q]) pairC_length hr4) (by
    intro p hp
    rcases List.mem_cons.1 hp with rfl | hp
    · exact HH.out.2.2.1
    · rw [List.mem_singleton.1 hp]; exact HH.out.2.2.2.1)
  have hmp := maps_any hG (Nat.le_refl _) o.1 q.1 (Below.refl _ _) (fun σ hσ => room_all hG.short hσ) (fun σ hσ => by
    have hbn := goDownM_bnd hG.short hσ
    have h1 := hbn.wt 0
    have h2 := hbn.wt 1
    omega)
  rw [HH.out.2.1] at hmp
  simp only [List.map_cons, List.map_nil] at hmp
  have H4 := hide (hB3.trans (hb4.mono hB3.size))
  clear hkt hr3 hb3 hB3 hb4 hc4 hr4 hG
  go_wp2_with fail
  refine hfr.mono ?_
  rintro e w4 ⟨rfl, rfl⟩
  go_wp2_with fail
  refine hmp.mono ?_
  rintro e w5 ⟨⟨v5, rfl, hr5⟩, -, hb5⟩
  have H5 := hide (H4.out.trans (hb5.mono H4.out.size))
  obtain ⟨a5, c5, hv5, -, -, h5⟩ := ls_of_own (cs := ch5C) (k := 5) (fun _ => rfl) hr5
  obtain ⟨b5, off5, rfl, -, hc5⟩ := h5 (by simp)
  subst hv5
  have y0 := hc5 0 (by simp) 0 _ rfl
  have y1 := hc5 0 (by simp) 1 _ rfl
  have y2 := hc5 0 (by simp) 2 _ rfl
  have y3 := hc5 0 (by simp) 3 _ rfl
  have y4 := hc5 0 (by simp) 4 _ rfl
  simp only [Nat.add_zero, Nat.zero_mul, List.getElem_cons_zero, ch5, Option.getD_some, Option.isSome_some] at y0 y1 y2 y3 y4
  have heq := equal_Change w5 ([98], ([50], ([53], (true, true)))) ([98], ([50], ([53], (true, true))))
  have e98 : strB [98] = ⟨#[98]⟩ := rfl
  have e50 : strB [50] = ⟨#[50]⟩ := rfl
  have e53 : strB [53] = ⟨#[53]⟩ := rfl
  simp only [ch5C, e98, e50, e53, decide_true] at heq y0 y1 y2
  simp only [List.length_singleton]
  clear hmp hfr hr5 hb5 h5 hc5
  go_wp2
  go_ret
  exact ⟨rfl, H5.out⟩
end Go.Proofs.Ytldfjpgcemfpjaa

/-
  The get that notes what is asked. Conditions: what it holds lies there; not too much was asked.
-/
namespace Go.Proofs.Ytldfjpgcemfpjaa
open Go.RowKit

theorem Kp.grown {a b c : World} (h : Kp a b) {v : Value} {n k B : Nat} {xs : List Value} {e : TypeId} (hown : b.ownsRow B e k v n xs) (hgr : b.grownBy c v.ownBlock) (he : ats.contains e = true) : Kp a c := fun i ob hi ho => by
  have h1 := h i ob hi ho
  refine (hgr.block i (lt_of_heap h1) fun hq => ?_).trans h1
  obtain ⟨cs, fz, h2⟩ := Lib.ownsRow_kind hown i hq.symm
  rw [h1] at h2
  injection h2 with h2
  subst h2
  have : (!(ats.contains e)) = true := ho
  rw [he] at this
  cases this
theorem Kp.set {a b : World} (h : Kp a b) {g j : Nat} {cs : Array Value} {t : TypeId} {fr : Nat × Nat} (hh : b.heap[g]? = some (.cells cs t fr)) (ht : ats.contains t = true) (u : Value) : Kp a (b.setCell ⟨g, j, none⟩ u) := fun k ob hk ho => by
  have h1 := h k ob hk ho
  refine (heap_setOther ?_).trans h1
  rintro rfl
  rw [hh] at h1
  injection h1 with h1
  subst h1
  have : (!(ats.contains t)) = true := ho
  rw [ht] at this
  cases this
set_option maxRecDepth 20000 in
theorem asked1_kp (B : Nat) (w : World) (ci cl ga : Nat) (objs : List Pair) (asked : List Bs) (id : Bs) (h : AskW B w ci cl ga objs asked) (hn : asked.length ≤ 4294967296) :
    Calls Try.prog 27 #[.string (strB id), .pointer (some ⟨ci, 0, none⟩), .pointer (some ⟨cl, 0, none⟩)] w fun e w' => e = .returned (foundV (findO objs id)) ∧ AskW B w' ci cl ga objs (asked ++ [id]) ∧ Mv B ats none w w' ∧ Kp w w' := by
  have hB := h.le
  have hgaB := h.base
  obtain ⟨vl, hl, hv⟩ := h.list
  obtain ⟨va, ha, hw⟩ := h.row
  have hi := h.ids
  obtain ⟨v', w1, hrun, hrow1, hgr, -⟩ := app_id w.drew B va asked id hw hB hn
  rw [drew_alloc] at hrun hgr
  rw [show w.drew.heap.size = w.heap.size from rfl] at hrun
  have hb0 : Below w.heap.size w (w.alloc (.cells #[.string (strB id)] 9)) := (Below.refl _ _).alloc (Nat.le_refl _) _
  have hw0 : Rw B (w.alloc (.cells #[.string (strB id)] 9)).drew 9 1 idC va asked := World.ownsRow.alloc hw _
  have hi0 := heap_past w (.cells #[.string (strB id)] 9) _ (lt_of_heap hi) |>.trans hi
  have hl0 := heap_past w (.cells #[.string (strB id)] 9) _ (lt_of_heap hl) |>.trans hl
  have ha0 := heap_past w (.cells #[.string (strB id)] 9) _ (lt_of_heap ha) |>.trans ha
  have hi1 := grow_keep hw0 hgr (show (w.alloc _).drew.heap[ci]? = _ from hi0) (by decide)
  have hl1 := grow_keep hw0 hgr (show (w.alloc _).drew.heap[cl]? = _ from hl0) (by decide)
  have ha1 := grow_keep hw0 hgr (show (w.alloc _).drew.heap[ga]? = _ from ha0) (by decide)
  have hne : ci ≠ ga := ne_type hi1 ha1 (by decide)
  have hne2 : cl ≠ ga := ne_type hl1 ha1 (by decide)
  have hm1 : Mv B ats none w w1 := ((Mv.refl B ats none w).alloc hB _).drew.grown hw0 hgr (by decide) (by simp; omega)
  have hm2 : Mv B ats none w (w1.setCell ⟨ga, 0, none⟩ v') := hm1.set ha1 (by decide) hgaB _
  have hi2 : (w1.setCell ⟨ga, 0, none⟩ v').heap[ci]? = some (.cells #[.pointer (some ⟨ga, 0, none⟩)] 36) := (heap_setOther hne).trans hi1
  have hl2 : (w1.setCell ⟨ga, 0, none⟩ v').heap[cl]? = some (.cells #[vl] 22) := (heap_setOther hne2).trans hl1
  have hv2 : Ls B (w1.setCell ⟨ga, 0, none⟩ v') 2 pairC vl objs := hv.keep hm2.b
  have hA : AskW B (w1.setCell ⟨ga, 0, none⟩ v') ci cl ga objs (asked ++ [id]) := ⟨hi2, ⟨vl, hl2, hv2⟩, ⟨v', heap_set0 ha1, own_setCell hrow1 ha1 (by decide) _⟩, hgaB⟩
  have hf := find_any (w1.setCell ⟨ga, 0, none⟩ v') vl objs id (hv2.up (Nat.le_trans hB hm2.size))
  have c0 := cell_of_row w ci 0 _ _ _ hi
  have c1 := cell_of_row w ga 0 _ _ _ ha
  have d0 := cell_of_row _ ci 0 _ _ _ hi0
  have d1 := cell_of_row _ ga 0 _ _ _ ha0
  have e0 := cell_of_row _ ci 0 _ _ _ hi1
  have g0 := cell_of_row _ ci 0 _ _ _ hi2
  have g1 := cell_of_row _ cl 0 _ _ _ hl2
  have c2 := cell_of_row w1 ga 0 _ _ _ ha1
  simp only [List.getElem?_toArray, List.getElem?_cons_zero] at c0 c1 c2 d0 d1 e0 g0 g1
  have f2 := frozen0 (j := 0) ha1
  have hko : Kp w (w1.setCell ⟨ga, 0, none⟩ v') := ((Kp.of (hb0.drew)).grown hw0 hgr (by decide)).set ha1 (by decide) _
  have HA := hide (And.intro hA (And.intro hm2 hko))
  obtain ⟨ao', m', ca', rfl⟩ := row_form hrow1
  obtain ⟨al, cap, rfl, -⟩ := hv
  obtain ⟨s, k, hfv⟩ := foundV_form (findO objs id)
  rw [hfv] at hf ⊢
  clear hko hm1 hi hl ha hw hgr hrow1 hb0 hw0 hi0 hl0 ha0 hi1 hl1 ha1 hi2 hl2 hv2 h hfv hA hm2
  go_enter Try.func27, Try.ntmps27
  go_wp2_with fail
  refine wp_region_held_drew (S := fun W => W.cell? ⟨ci, 0, none⟩ = some (.pointer (some ⟨ga, 0, none⟩))) (by kernel_rfl) (c0) (fun hHeld => ?_)
  refine takeK 0 hHeld ?_
  refine takeK 1 hHeld ?_
  refine takeK 2 hHeld ?_
  refine takeK 4 hHeld ?_
  refine twoH (i := 3) (j := 5) rfl rfl (by kernel_rfl) rfl rfl (fun K hK => ?_) (fun K hK => ?_)
  · go_simp
    refine hK.out _ _ (c0) (fun hHeld => ?_)
    clear hK K
    try simp only [Act.put, List.setIfInBounds_toArray, List.set_cons_zero, List.set_cons_succ]
    refine onlyH (i := 5) rfl (by kernel_rfl) rfl (fun K hK => ?_)
    go_simp
    refine hK.out _ _ (d0) (fun hHeld => ?_)
    clear hK K
    try simp only [Act.put, List.setIfInBounds_toArray, List.set_cons_zero, List.set_cons_succ]
    refine onlyH (i := 6) rfl (by kernel_rfl) rfl (fun K hK => ?_)
    refine wp_append_run (.tmp 9) (.tmp 11) 34 rfl rfl rfl hrun ?_
    refine hK.out _ _ (e0) (fun hHeld => ?_)
    clear hK K
    try simp only [Act.put, List.setIfInBounds_toArray, List.set_cons_zero, List.set_cons_succ]
    refine takeK 7 hHeld ?_
    refine onlyH (i := 8) rfl (by kernel_rfl) rfl (fun K hK => ?_)
    go_simp
    refine hK.out _ _ (g0) (fun hHeld => ?_)
    clear hK K
    try simp only [Act.put, List.setIfInBounds_toArray, List.set_cons_zero, List.set_cons_succ]
    refine wpAnyH_done (by kernel_rfl) ?_ _
    clear hHeld
    go_wp2_with fail
    refine hf.mono ?_
    rintro e w1 ⟨rfl, rfl⟩
    go_wp2
    go_ret2
    exact ⟨rfl, HA.out.1, HA.out.2.1, HA.out.2.2⟩
  · go_simp
    refine hK.out _ _ (d0) (fun hHeld => ?_)
    clear hK K
    try simp only [Act.put, List.setIfInBounds_toArray, List.set_cons_zero, List.set_cons_succ]
    refine onlyH (i := 3) rfl (by kernel_rfl) rfl (fun K hK => ?_)
    go_simp
    refine hK.out _ _ (d0) (fun hHeld => ?_)
    clear hK K
    try simp only [Act.put, List.setIfInBounds_toArray, List.set_cons_zero, List.set_cons_succ]
    refine onlyH (i := 6) rfl (by kernel_rfl) rfl (fun K hK => ?_)
    refine wp_append_run (.tmp 9) (.tmp 11) 34 rfl rfl rfl hrun ?_
    refine hK.out _ _ (e0) (fun hHeld => ?_)
    clear hK K
    try simp only [Act.put, List.setIfInBounds_toArray, List.set_cons_zero, List.set_cons_succ]
    refine takeK 7 hHeld ?_
    refine onlyH (i := 8) rfl (by kernel_rfl) rfl (fun K hK => ?_)
    go_simp
    refine hK.out _ _ (g0) (fun hHeld => ?_)
    clear hK K
    try simp only [Act.put, List.setIfInBounds_toArray, List.set_cons_zero, List.set_cons_succ]
    refine wpAnyH_done (by kernel_rfl) ?_ _
    clear hHeld
    go_wp2_with fail
    refine hf.mono ?_
    rintro e w1 ⟨rfl, rfl⟩
    go_wp2
    go_ret2
    exact ⟨rfl, HA.out.1, HA.out.2.1, HA.out.2.2⟩
theorem get_askedD (B ci cl ga : Nat) (objs : List Pair) (hs : ∀ o ∈ objs, o.2.length ≤ 140737488351232) :
    GetD 27 #[.pointer (some ⟨ci, 0, none⟩), .pointer (some ⟨cl, 0, none⟩)] (findO objs) B (fun W a => AskW B W ci cl ga objs a) where
  eg := enters_ownD Try.func27 (by kernel_rfl) rfl
  le W a h := h.le
  mv h hm := h.keep hm (Nat.le_refl _) (by decide) (by decide) (by decide) (by decide) (by simp)
  call W a id h hn' := (asked1_kp B W ci cl ga objs a id h hn').mono fun e w' hq => ⟨hq.1, hq.2.1, hq.2.2.1.b, hq.2.2.2⟩
  short id b h := findO_short hs id b h
set_option maxRecDepth 20000 in
theorem askedD_any (w : World) (ao : Option Addr) (m c ga : Nat) : Calls Try.prog 12 #[.slice ao m c, .pointer (some ⟨ga, 0, none⟩)] w fun e w' => e = .returned (.func (.func 27) #[] #[.pointer (some ⟨w.heap.size + 1, 0, none⟩), .pointer (some ⟨w.heap.size, 0, none⟩)]) ∧ w' = (w.alloc (.cells #[.slice ao m c] 22)).alloc (.cells #[.pointer (some ⟨ga, 0, none⟩)] 36) := by
  have hmf : ∀ (fn : Fn) (first cap : Array Value) (w : World), (Instr.makeFunc fn first cap).run Try.prog w = .ok (.func fn first cap) w := fun _ _ _ _ => rfl
  go_enter Try.func12, Try.ntmps12
  go_wp2
  go_ret
  exact ⟨rfl, rfl⟩
end Go.Proofs.Ytldfjpgcemfpjaa

/-
  DiffSame, walked. Conditions: the objects lie there.
-/
namespace Go.Proofs.Ytldfjpgcemfpjaa
open Go.RowKit

theorem mapsM_same (fd : Bs → Option Bs) (a : Bs) : mapsM fd a a = (0, ([], [])) := if_pos rfl
set_option maxRecDepth 40000 in
set_option maxHeartbeats 1600000 in
theorem diffSame_any (w : World) (vo : Value) (objs : List Pair) (hv : Ls w.heap.size w 2 pairC vo objs) (hob : ∀ o ∈ objs, o.2.length ≤ 140737488351232) (a : Bs) :
    Calls Try.prog 6 #[vo, .string (strB a)] w fun e w' => e = .returned (.bool true) ∧ Below w.heap.size w w' := by
  have hvf := hv
  obtain ⟨ao, cap, hvv, -⟩ := hvf
  obtain ⟨m, hm⟩ : ∃ m, m = objs.length := ⟨_, rfl⟩
  rw [← hm] at hvv
  subst hvv
  clear hm
  have HV := hide hv
  have hsh := dshown_any w
  clear hv
  go_enter Try.func6, Try.ntmps6
  go_wp2_with fail
  refine hsh.mono ?_
  rintro e w1 ⟨rfl, hb1⟩
  have hb2 : Below w1.heap.size w1 (w1.alloc (.cells #[.slice none 0 0] 34)) := (Below.refl _ _).alloc (Nat.le_refl _) _
  have hg2 := heap_last w1 (.cells #[.slice none 0 0] 34) _ rfl
  have hB2 := hb1.trans (hb2.mono hb1.size)
  have hs1 : w.heap.size ≤ w1.heap.size := hb1.size
  generalize hw2 : w1.alloc (.cells #[.slice none 0 0] 34) = w2 at *
  have hak := askedD_any w2 ao m cap w1.heap.size
  have hb3 : Below w2.heap.size w2 ((w2.alloc (.cells #[.slice ao m cap] 22)).alloc (.cells #[.pointer (some ⟨w1.heap.size, 0, none⟩)] 36)) := ((Below.refl _ _).alloc (Nat.le_refl _) _).alloc (by simp) _
  have hg3 := (hb3.block _ (lt_of_heap hg2)).trans hg2
  have hB3 := hB2.trans (hb3.mono hB2.size)
  have hA3 : AskW w.heap.size ((w2.alloc (.cells #[.slice ao m cap] 22)).alloc (.cells #[.pointer (some ⟨w1.heap.size, 0, none⟩)] 36)) (w2.heap.size + 1) w2.heap.size w1.heap.size objs [] :=
    ⟨heap_last (w2.alloc (.cells #[.slice ao m cap] 22)) _ _ (by simp), ⟨_, (heap_past (w2.alloc (.cells #[.slice ao m cap] 22)) _ _ (by simp)).trans (heap_last w2 _ _ rfl), HV.out.keep hB3⟩, ⟨_, hg3, World.ownsRow_nil _ _ _ _⟩, hs1⟩
  have hG := get_askedD w.heap.size (w2.heap.size + 1) w2.heap.size w1.heap.size objs hob
  have hmp := maps_any hG hB3.size a a hA3 (fun σ hσ => room_all hG.short hσ) (fun σ hσ => by
    have hbn := goDownM_bnd hG.short hσ
    have h1 := hbn.wt 0
    have h2 := hbn.wt 1
    omega)
  rw [mapsM_same] at hmp
  simp only [List.map_nil] at hmp
  have H3 := hide hB3
  clear hsh hb1 hb2 hg2 hB2 hb3 hg3 hB3 hA3 hG
  go_wp2_with fail
  refine hak.mono ?_
  rintro e w3 ⟨rfl, rfl⟩
  go_wp2_with fail
  refine hmp.mono ?_
  rintro e w4 ⟨⟨v4, rfl, hr4⟩, hA4, hb4⟩
  obtain ⟨-, -, ⟨vk, hk4, hkr⟩, -⟩ := hA4 trivial
  have k0 := cell_of_row w4 w1.heap.size 0 _ _ _ hk4
  simp only [List.getElem?_toArray, List.getElem?_cons_zero] at k0
  have H4 := hide (H3.out.trans hb4)
  obtain ⟨ra, rc, rfl, -⟩ := own_form hr4
  obtain ⟨ka, kc, rfl, -⟩ := own_form hkr
  simp only [List.length_nil] at k0 ⊢
  clear hmp hak hr4 hb4 hk4 hkr
  go_wp2
  go_ret
  exact ⟨rfl, H4.out⟩
end Go.Proofs.Ytldfjpgcemfpjaa

/-
  What came in, out of its reading: objects, texts. No condition.
-/
namespace Go.Proofs.Ytldfjpgcemfpjaa
open Go.ChangeShapes Go.WideShapes Go.ChangeAt Go.RowKit
open Go.ChangeMaps (open_string shut_string)

theorem dstrB_of (b : ByteArray) : strB b.data.toList = b := by
  unfold strB
  simp
theorem own : ownKnob Try.prog.godebug = none := by kernel_rfl
theorem laidOut : laidOutB Try.prog = true := by kernel_rfl
theorem block_lt {w : World} {p : Addr} {v : Value} (h : w.cell? p = some v) : p.block < w.heap.size := by
  rcases Nat.lt_or_ge p.block w.heap.size with h1 | h1
  · exact h1
  · unfold World.cell? at h
    rw [Array.getElem?_eq_none h1] at h
    simp at h
theorem choose_list {α : Type} {p : Nat → α → Prop} : ∀ n : Nat, (∀ i, i < n → ∃ a, p i a) → ∃ l : List α, l.length = n ∧ ∀ i (h : i < l.length), p i l[i]
  | 0, _ => ⟨[], rfl, fun i h => by simp at h⟩
  | n + 1, h => by
    obtain ⟨l, hl, hp⟩ := choose_list n (fun i hi => h i (by omega))
    obtain ⟨a, ha⟩ := h n (by omega)
    refine ⟨l ++ [a], by simp [hl], fun i hi => ?_⟩
    simp at hi
    by_cases hin : i < l.length
    · rw [List.getElem_append_left hin]; exact hp i hin
    · obtain rfl : i = n := by omega
      subst hl
      rw [List.getElem_append_right (by omega)]
      simpa using ha
theorem cellsS : Try.prog.cellsOf 9 = 1 := by kernel_rfl
theorem cellsObj : Try.prog.cellsOf 73 = 2 := by kernel_rfl
theorem weights_all {H : Type} {P : Program} {e : TypeId} : ∀ {ds : List (DataW H)} {d : DataW H}, d ∈ ds → ∀ n ∈ d.weights P e, n ∈ DataW.weightsAll P e ds
  | [], d, h, _, _ => by simp at h
  | x :: r, d, h, n, hn => by
    simp only [DataW.weightsAll, List.mem_append]
    rcases List.mem_cons.1 h with rfl | h
    · exact .inl hn
    · exact .inr (weights_all h n hn)
set_option maxRecDepth 100000 in
theorem open_Obj1 {H : Type} {enc : TypeId × Value → H} {W : World} {x : Addr} {i n : Nat} {cs : List Value} {y : DataW H × List MemPlace} (h1 : W.cells? 0 (x.add (i * 2)) 2 = some cs)
    (h2 : DataW.trod enc Try.prog W 0 (fun _ => true) true n 73 cs = some y) : ∃ p : Pair, (∀ j u, (pairC p)[j]? = some u → W.cell? (x.add (i * 2 + j)) = some u) ∧ p.2.length ∈ y.1.weights Try.prog 73 := by
  obtain ⟨_, hlen, hc⟩ := World.cells?_some h1
  obtain ⟨xs, k, hk, hxy, _, hxl, hf⟩ := DataW.trod_struct Try.underlying73 h2
  match xs, hxl, cs, hlen with
  | [y0, y1], _, [v0, v1], _ =>
    have g0 := hf 0 _ rfl
    have g1 := hf 1 _ rfl
    simp [cellsS] at g0 g1
    have c0 := hc 0 (by omega)
    have c1 := hc 1 (by omega)
    rw [Deep.add_add] at c0 c1
    simp at c0 c1
    obtain ⟨s0, e0, d0, -⟩ := DataW.trod_string Try.underlying9 g0
    obtain ⟨s1, e1, d1, -⟩ := DataW.trod_string Try.underlying9 g1
    simp at e0 e1
    subst e0 e1
    subst d0 d1
    refine ⟨(s0.data.toList, s1.data.toList), fun j u hu => ?_, ?_⟩
    · match j, hu with
      | 0, hu => simp [pairC, dstrB_of] at hu; subst hu; simpa using c0
      | 1, hu => simp [pairC, dstrB_of] at hu; subst hu; simpa using c1
    · rw [hxy]
      simp [DataW.weights, DataW.weightsEach, Try.underlying73]
set_option maxRecDepth 100000 in
theorem open_objs {H : Type} {enc : TypeId × Value → H} {W : World} {b0 : Nat} {v : Value} {d : DataW H} {ps : List MemPlace} (hval : Value.okWide Try.prog W .any b0 22 v) (h : DataW.Trod enc Try.prog W 0 (fun _ => true) true 22 v d ps) :
    ∃ os : List Pair, Ls W.heap.size W 2 pairC v os ∧ ∀ o ∈ os, o.2.length ∈ d.weights Try.prog 22 := by
  obtain ⟨a, len, cap, rfl⟩ := okWide_slice Try.underlying22 hval
  obtain ⟨fuel, hf⟩ := h
  rcases Deep.open_slice Try.underlying22 hf with ⟨hcs, hx⟩ | ⟨x, len', cap', m, n, D, Pl, hcs, _, hl, hm, hmm, hx, hcell⟩
  · simp [Value.cells] at hcs
    obtain ⟨rfl, rfl, rfl⟩ := hcs
    exact ⟨[], Ls.nil _ _ _ _, by simp⟩
  · simp [Value.cells] at hcs
    obtain ⟨rfl, rfl, rfl⟩ := hcs
    injection hx with hd _
    have hmc : m = cap := by simpa using hmm
    rw [cellsObj] at hcell
    obtain ⟨os, hll, hp⟩ := choose_list (p := fun i (o : Pair) => (∀ j u, (pairC o)[j]? = some u → W.cell? (x.add (i * 2 + j)) = some u) ∧ o.2.length ∈ (D i).weights Try.prog 73) len (fun i hi => by
      obtain ⟨cs, h1, h2⟩ := hcell i (by omega)
      exact open_Obj1 h1 h2)
    refine ⟨os, ⟨some x, cap, by rw [hll], by omega, hm, fun hne => ?_⟩, fun o ho => ?_⟩
    · have hpos : 0 < os.length := List.length_pos_iff.2 hne
      obtain ⟨b, off, spot⟩ := x
      have hc := (hp 0 hpos).1 0 _ rfl
      have hspot : spot = none := by simpa [Addr.add] using World.cell?_spot hc
      subst hspot
      refine ⟨b, off, rfl, ?_, fun j hj i u hu => ?_⟩
      · have := block_lt hc
        rw [Addr.add_lit] at this
        exact this
      · have := (hp j hj).1 i u hu
        rw [Addr.add_lit] at this
        rw [Nat.add_assoc]
        exact this
    · obtain ⟨j, hj, rfl⟩ := List.getElem_of_mem ho
      rw [hd]
      simp only [DataW.weights, Try.underlying22, List.mem_cons, List.mem_append]
      refine .inr (.inl (weights_all (d := D j) ?_ _ (hp j hj).2))
      exact List.mem_map.2 ⟨j, by simp; omega, rfl⟩
theorem objs_le {H : Type} {ts : List TypeId} {ds : List (DataW H)} (hsz : (DataW.weightsEach Try.prog ts ds).all (· ≤ reachBytes) = true) {j : Nat} {d : DataW H} {os : List Pair}
    (ht : ts[j]? = some 22) (hd : ds[j]? = some d) (h : ∀ o ∈ os, o.2.length ∈ d.weights Try.prog 22) : ∀ o ∈ os, o.2.length ≤ 140737488351232 := by
  intro o ho
  have := List.all_eq_true.1 hsz _ (DataW.weights_mem_each ht hd _ (h o ho))
  simp only [reachBytes] at this
  exact of_decide_eq_true this
end Go.Proofs.Ytldfjpgcemfpjaa
