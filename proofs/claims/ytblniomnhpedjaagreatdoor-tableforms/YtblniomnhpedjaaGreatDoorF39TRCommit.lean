/-
  The reference's Commit, Get, All. Conditions: the pairs and the puts lie there; the pairs rise.
-/
import Derived.Test.YtblniomnhpedjaaGreatDoorF38TRDone
namespace Go.Proofs.YtblniomnhpedjaaGreatDoor
open Go.RowKit

theorem doneM_len (l : List Pair) (p : PutM) : (doneM l p).length ≤ l.length + 1 := by
  unfold doneM
  rw [List.length_append, List.length_append, List.length_take, List.length_drop]
  split <;> split <;> simp <;> omega
theorem doneA_take_len (lp : List Pair) (ps : List PutM) : ∀ k, k ≤ ps.length → (doneA lp (ps.take k)).length ≤ lp.length + k
  | 0, _ => by simp [doneA]
  | k + 1, h => by
    rw [doneA_snoc lp ps (by omega)]
    have := doneM_len (doneA lp (ps.take k)) ps[k]
    have := doneA_take_len lp ps k (by omega)
    omega
set_option maxRecDepth 40000 in
set_option maxHeartbeats 1600000 in
theorem rcommit_any (w : World) (r : Nat) (lp : List Pair) (ps : List PutM) (v : Value) (h : RTab w r lp) (hr : Rises lp) (hf : fitT lp = true) (hv : PsT w v ps) (hn : ps.length ≤ 140737488355328) :
    Calls Tryz.prog 20 #[.pointer (some ⟨r, 0, none⟩), v] w fun e w' => ∃ r', e = .returned (.tuple #[.pointer (some ⟨r', 0, none⟩), .int .i64 (ansT lp ps)]) ∧ RTab w' r' (nextT lp ps) ∧ (r' = r ∨ w.heap.size ≤ r') ∧ Below w.heap.size w w' := by
  have hrr := rright_any w ps v hv hn
  obtain ⟨ao, cap, rfl⟩ := hv.form
  have HV := hide hv
  have HR := hide h
  clear hv
  cases hp : rightT ps with
  | false =>
    rw [hp] at hrr
    have ha : ansT lp ps = 130 := ans_form hp
    have hn : nextT lp ps = lp := next_no (by rw [ha]; decide)
    rw [ha, hn]
    clear h
    go_enter Tryz.func20, Tryz.ntmps20
    go_wp2_with fail
    refine hrr.mono ?_
    rintro e w1 ⟨rfl, q1⟩
    have hb1 : Below w.heap.size w w1 := q1.below (fun _ h => h.elim) (Nat.le_refl _)
    have HF := hide (And.intro (HR.out.keepB hb1) hb1)
    clear q1 hb1 hrr
    go_wp2
    go_ret2
    exact ⟨r, rfl, HF.out.1, .inl rfl, HF.out.2⟩
  | true =>
    rw [hp] at hrr
    obtain ⟨hp1, hp2, hp3⟩ := right_all hp
    have hfl := fit_le hf
    have HA := hide (show (fitT (doneA lp ps) = false → ansT lp ps = 131) ∧ (fitT (doneA lp ps) = true → ansT lp ps = 0) from ⟨fun q => ans_full hp q, fun q => ans_ok hp q⟩)
    obtain ⟨u0, hu0, hpu0⟩ := h
    have x0 := cell_of hu0 0
    simp only [List.getElem?_toArray, List.getElem?_cons_zero] at x0
    go_enter Tryz.func20, Tryz.ntmps20
    go_wp2_with fail
    refine hrr.mono ?_
    rintro e w1 ⟨rfl, q1⟩
    have hb1 : Below w.heap.size w w1 := q1.below (fun _ h => h.elim) (Nat.le_refl _)
    have x1 := (hb1.cell (p := ⟨r, 0, none⟩) (lt_of_heap hu0)).trans x0
    have hp1' := hpu0.keepB (B := 0) hb1 (Nat.le_refl _)
    have H1 := hide (And.intro hb1 hp1')
    clear q1 hb1 hrr x0 hpu0 hp1' hu0
    go_wp2_with fail
    go_loopw [8, 7] (fun t u wr => ∃ k : Nat, k ≤ ps.length ∧ t = .int .i64 k ∧ PrT wr u (doneA lp (ps.take k)) ∧ Below w.heap.size w wr)
      (fun t _ _ => ps.length - (intOf t).toNat)
    case atStart => exact ⟨0, by omega, rfl, by rw [List.take_zero]; exact H1.out.2, H1.out.1⟩
    case round =>
      obtain ⟨k, hk, rfl, hpr, hbr⟩ := hrel
      by_cases hlt : k < ps.length
      · obtain ⟨b, off, rfl, hbl, c0, c1, c2⟩ := (HV.out.keepB hbr).at hlt
        have hdn := rdone_any wr _ (doneA lp (ps.take k)) ps[k] hpr (doneA_rises hr _) (by have := doneA_take_len lp ps k (by omega); omega)
        rw [← doneA_snoc lp ps hlt] at hdn
        obtain ⟨ua, uc, rfl⟩ := hpr.form
        generalize ps[k] = p at *
        have HB := hide hbr
        clear hbr hpr
        go_wp2_with fail
        refine hdn.mono ?_
        rintro e w2 ⟨u2, rfl, hp2, hb2⟩
        have HF := hide (And.intro hp2 (HB.out.trans (hb2.mono HB.out.size)))
        obtain ⟨ub, uc2, rfl⟩ := hp2.form
        clear hp2 hb2 hdn
        go_wp2
        go_roundw
        case rel => exact ⟨k + 1, by omega, by go_num, HF.out.1, HF.out.2⟩
        case measure => simp [intOf]; omega
      · have hkl : k = ps.length := by omega
        subst hkl
        rw [List.take_length] at hpr
        have hwl := weight_doneA hr ps
        have hbt := burden_text ps hp
        obtain ⟨ua, uc, rfl⟩ := hpr.form
        have hwt := rweight_any wr _ _ hpr (by omega)
        have HF := hide (And.intro hpr (And.intro hbr (show nextT lp ps = if fitT (doneA lp ps) = true then doneA lp ps else lp from by
          cases q : fitT (doneA lp ps) with
          | true => rw [next_ok (HA.out.2 q)]; rfl
          | false => rw [next_no (by rw [HA.out.1 q]; decide)]; rfl)))
        have HFit := hide (show fitT (doneA lp ps) = (decide ((doneA lp ps).length ≤ 2000) && decide (weightT (doneA lp ps) ≤ 1048576)) from rfl)
        have hll := hpr.len
        generalize doneA lp ps = nx at *
        clear hpr hbr
        by_cases h1 : 2000 < nx.length
        · have q1 : decide ((2000 : Int) < (nx.length : Int)) = true := decide_eq_true (by omega)
          have hft : fitT nx = false := by rw [HFit.out, decide_eq_false (by omega)]; rfl
          have ha := HA.out.1 hft
          have hn : nextT lp ps = lp := by rw [HF.out.2.2, hft]; rfl
          have HAN := hide (And.intro ha hn)
          have HFF := hide (And.intro (HR.out.keepB HF.out.2.1) HF.out.2.1)
          clear hft ha hn h1 hwt
          go_wp2
          go_ret2
          rw [HAN.out.1, HAN.out.2]
          exact ⟨r, rfl, HFF.out.1, .inl rfl, HFF.out.2⟩
        · have q1 : decide ((2000 : Int) < (nx.length : Int)) = false := decide_eq_false (by omega)
          have hle1 : nx.length ≤ 2000 := by omega
          go_wp2_with fail
          refine hwt.mono ?_
          rintro e w3 ⟨rfl, q3⟩
          have hb3 := HF.out.2.1.trans (q3.below (fun _ h => h.elim) HF.out.2.1.size)
          have hp3 := HF.out.1.quiet q3
          generalize weightT nx = wt at *
          by_cases h2 : 1048576 < wt
          · have q2 : decide ((1048576 : Int) < (wt : Int)) = true := decide_eq_true (by omega)
            have hft : fitT nx = false := by rw [HFit.out, decide_eq_false (show ¬ wt ≤ 1048576 by omega)]; simp
            have ha := HA.out.1 hft
            have hn : nextT lp ps = lp := by rw [HF.out.2.2, hft]; rfl
            have HAN := hide (And.intro ha hn)
            have HFF := hide (And.intro (HR.out.keepB hb3) hb3)
            clear hft ha hn h1 hwt hb3 hp3 q3
            go_wp2
            go_ret2
            rw [HAN.out.1, HAN.out.2]
            exact ⟨r, rfl, HFF.out.1, .inl rfl, HFF.out.2⟩
          · have q2 : decide ((1048576 : Int) < (wt : Int)) = false := decide_eq_false (by omega)
            have hft : fitT nx = true := by rw [HFit.out, decide_eq_true hle1, decide_eq_true (show wt ≤ 1048576 by omega)]; rfl
            have ha := HA.out.2 hft
            have hn : nextT lp ps = nx := by rw [HF.out.2.2, hft]; rfl
            have HAN := hide (And.intro ha hn)
            have hrt : RTab (w3.alloc (.cells #[.slice ua nx.length uc] 70)) w3.heap.size nx := ⟨_, heap_last w3 _, hp3.quiet (alloc_quiet w3 _)⟩
            have HFF := hide (And.intro hrt (And.intro hb3.size (hb3.alloc hb3.size (.cells #[.slice ua nx.length uc] 70))))
            clear hft ha hn h1 hwt hb3 hp3 q3 hrt
            go_wp2
            go_ret2
            rw [HAN.out.1, HAN.out.2]
            exact ⟨w3.heap.size, rfl, HFF.out.1, .inr HFF.out.2.1, HFF.out.2.2⟩
end Go.Proofs.YtblniomnhpedjaaGreatDoor
