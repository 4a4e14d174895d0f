/-
  Edit, by the reference. Conditions: the objects lie there; not too many puts.
-/
import Derived.Test.YtimbleaafoiidaaGreatDoorE51PEditP
import Derived.Test.YtimbleaafoiidaaGreatDoorE52PRDone2
import Derived.Test.YtimbleaafoiidaaGreatDoorE44PRBuild
namespace Go.Proofs.YtimbleaafoiidaaGreatDoor
open Go.RowKit

theorem doneA_snoc (l : List Pair) (ps : List PutM) {k : Nat} (h : k < ps.length) : doneA l (ps.take (k + 1)) = doneM (doneA l (ps.take k)) ps[k] := by
  rw [show ps.take (k + 1) = ps.take k ++ [ps[k]] by rw [List.take_add_one]; simp [h]]
  unfold doneA
  rw [List.foldl_append]
  rfl
set_option maxRecDepth 40000 in
set_option maxHeartbeats 3200000 in
theorem edit12_any (w : World) (vo : Value) (objs : List Pair) (ho : Ls w.heap.size w 2 pairC vo objs) (hob : ∀ o ∈ objs, o.2.length ≤ 140737488351232) (root : Bs) (l : List PutM) (v : Value) (hv : Ls w.heap.size w 3 putC v l) (hn : l.length ≤ 1000) (hsh : ∀ id b, findO objs id = some b → b.length ≤ 140737488355328) :
    Calls Tryz.prog 24 #[vo, .string (strB root), v] w fun e w' => ∃ u, e = .returned (.tuple #[.string (strB (editM (listM (findO objs) root [] []) l).1), u, .int .i64 (editM (listM (findO objs) root [] []) l).2.2]) ∧ Rw w.heap.size w' 69 2 pairC u (editM (listM (findO objs) root [] []) l).2.1 ∧ Below w.heap.size w w' := by
  have hfew := listM_few (findO objs) hsh root [] []
  obtain ⟨L, hL⟩ : ∃ L, listM (findO objs) root [] [] = L := ⟨_, rfl⟩
  rw [hL] at hfew ⊢
  obtain ⟨R, hR⟩ : ∃ R, editM L l = R := ⟨_, rfl⟩
  rw [hR]
  have HR := hide hR
  have HF := hide hfew.2
  have HLQ := hide hL
  have HO := hide (And.intro ho hob)
  have HV := hide hv
  obtain ⟨ao, cap, rfl, h1, h2, h4⟩ := hv
  obtain ⟨oo, oc, rfl, -⟩ := ho
  unfold maxLen at h2
  clear hR hL hfew hob hsh
  go_enter Tryz.func24, Tryz.ntmps24
  go_wp2_with fail
  go_loopw [9] (fun t wr => ∃ k : Nat, k ≤ l.length ∧ t = .int .i64 k ∧ (l.take k).all putOkM = true ∧ Below w.heap.size w wr)
    (fun t _ => l.length - (intOf t).toNat)
  case atStart => exact ⟨0, by omega, rfl, rfl, Below.refl _ _⟩
  case round =>
    obtain ⟨k, hk, rfl, hok, hbr⟩ := hrel
    by_cases hlt : k < l.length
    · obtain ⟨b, off, rfl, hbl, hc⟩ := h4 (by intro e; rw [e] at hlt; simp at hlt)
      have c0 := (hbr.cell (p := ⟨b, off + k * 3 + 0, none⟩) hbl).trans (hc k hlt 0 _ rfl)
      have c1 := (hbr.cell (p := ⟨b, off + k * 3 + 1, none⟩) hbl).trans (hc k hlt 1 _ rfl)
      have c2 := (hbr.cell (p := ⟨b, off + k * 3 + 2, none⟩) hbl).trans (hc k hlt 2 _ rfl)
      have hno := fun h => puts_no (l := l) hlt h
      have hst := fun h => puts_step (l := l) hlt hok h
      have hb1 := hbr.alloc hbr.size (putO l[k])
      generalize l[k] = x at *
      have hx1 := strB_size x.1
      have hx2 := strB_size x.2.1
      have hne := neq_empty 9 x.2.1
      have hput : putOkM x = (isKeyB x.1 && !decide (128 < x.2.1.length) && !(x.2.2 && !x.2.1.isEmpty)) := rfl
      have HH := hide (And.intro hno (And.intro hst (And.intro hb1 hput)))
      try simp only [Nat.add_zero] at c0 c1 c2
      have HB1 := hide HH.out.2.2.1
      clear hno hst hb1 hput hc hbr hok
      by_cases hk1 : x.1.length < 1
      · have qa : decide ((x.1.length : Int) < 1) = true := decide_eq_true (by omega)
        have qa2 : decide (x.1.length < 1) = true := decide_eq_true (by omega)
        have HN : Hid (l.all putOkM = false) := hide (HH.out.1 (by rw [HH.out.2.2.2, show isKeyB x.1 = false by unfold isKeyB; simp; omega]; rfl))
        go_wp2
        go_ret3
        have HRN : R = ([], [], 120) := by rw [← HR.out]; unfold editM; rw [HN.out]; rfl
        rw [HRN]
        exact ⟨_, rfl, World.ownsRow_nil _ _ _ _, HB1.out⟩
      have qa : decide ((x.1.length : Int) < 1) = false := decide_eq_false (by omega)
      have qa2 : decide (x.1.length < 1) = false := decide_eq_false (by omega)
      by_cases hk2 : 64 < x.1.length
      · have qb : decide ((64 : Int) < (x.1.length : Int)) = true := decide_eq_true (by omega)
        have qb2 : decide (64 < x.1.length) = true := decide_eq_true (by omega)
        have HN : Hid (l.all putOkM = false) := hide (HH.out.1 (by rw [HH.out.2.2.2, show isKeyB x.1 = false by unfold isKeyB; simp; omega]; rfl))
        go_wp2
        go_ret3
        have HRN : R = ([], [], 120) := by rw [← HR.out]; unfold editM; rw [HN.out]; rfl
        rw [HRN]
        exact ⟨_, rfl, World.ownsRow_nil _ _ _ _, HB1.out⟩
      have qb : decide ((64 : Int) < (x.1.length : Int)) = false := decide_eq_false (by omega)
      have qb2 : decide (64 < x.1.length) = false := decide_eq_false (by omega)
      have hkey : isKeyB x.1 = true := by unfold isKeyB; simp; omega
      by_cases hvl : 128 < x.2.1.length
      · have qc : decide ((128 : Int) < (x.2.1.length : Int)) = true := decide_eq_true (by omega)
        have qc2 : decide (128 < x.2.1.length) = true := decide_eq_true (by omega)
        have HN : Hid (l.all putOkM = false) := hide (HH.out.1 (by rw [HH.out.2.2.2, hkey, decide_eq_true hvl]; rfl))
        go_wp2
        go_ret3
        have HRN : R = ([], [], 120) := by rw [← HR.out]; unfold editM; rw [HN.out]; rfl
        rw [HRN]
        exact ⟨_, rfl, World.ownsRow_nil _ _ _ _, HB1.out⟩
      have qc : decide ((128 : Int) < (x.2.1.length : Int)) = false := decide_eq_false (by omega)
      have qc2 : decide (128 < x.2.1.length) = false := decide_eq_false (by omega)
      cases hgo : x.2.2 with
      | false =>
        rw [hgo] at c2
        have hb1 := HH.out.2.2.1
        simp only [putO, hgo] at hb1
        have HB1 := hide hb1
        clear hb1
        have HN : Hid ((l.take (k + 1)).all putOkM = true) := hide (HH.out.2.1 (by rw [HH.out.2.2.2, hkey, hgo, decide_eq_false hvl]; rfl))
        go_wp2
        go_roundw
        case rel => exact ⟨k + 1, by omega, by go_num, HN.out, HB1.out⟩
        case measure => simp [intOf]; omega
      | true =>
        rw [hgo] at c2
        have hb1 := HH.out.2.2.1
        simp only [putO, hgo] at hb1
        have HB1 := hide hb1
        clear hb1
        cases hem : x.2.1.isEmpty with
        | false =>
          rw [hem] at hne
          have HN : Hid (l.all putOkM = false) := hide (HH.out.1 (by rw [HH.out.2.2.2, hkey, hgo, hem, decide_eq_false hvl]; rfl))
          go_wp2
          go_ret3
          have HRN : R = ([], [], 120) := by rw [← HR.out]; unfold editM; rw [HN.out]; rfl
          rw [HRN]
          exact ⟨_, rfl, World.ownsRow_nil _ _ _ _, HB1.out⟩
        | true =>
          rw [hem] at hne
          have HN : Hid ((l.take (k + 1)).all putOkM = true) := hide (HH.out.2.1 (by rw [HH.out.2.2.2, hkey, hgo, hem, decide_eq_false hvl]; rfl))
          go_wp2
          go_roundw
          case rel => exact ⟨k + 1, by omega, by go_num, HN.out, HB1.out⟩
          case measure => simp [intOf]; omega
    · have hkl : k = l.length := by omega
      subst hkl
      rw [List.take_length] at hok
      have hll := list12_any wr _ objs ((HO.out.1.keep hbr).up hbr.size) HO.out.2 root [] []
      rw [HLQ.out, show strB ([] : Bs) = ⟨#[]⟩ from rfl] at hll
      have HOK := hide hok
      have HB := hide hbr
      clear hok hbr
      go_wp2_with fail
      refine hll.mono ?_
      rintro e w2 ⟨vp, va, rfl, hrow, hra, hb2⟩
      have hB2 := HB.out.trans (hb2.mono HB.out.size)
      obtain ⟨raA, raM, raC, rfl⟩ := row_form hra
      clear hll hra
      by_cases hbad : L.bad = 0
      · have q1 : (L.bad != 0) = false := by simpa using hbad
        have hout : outOf L = L.out := by unfold outOf; rw [if_pos hbad]
        rw [hout] at hrow
        have HRN : Hid (R = buildM (doneA L.out l)) := hide (by rw [← HR.out]; unfold editM; rw [HOK.out, if_neg (by simp), if_neg (by simpa using hbad)])
        have hlow := own_low hrow HB.out.size
        obtain ⟨pa, pm, pc, rfl⟩ := row_form hrow
        have H2 := hide (And.intro hlow hB2)
        clear hbad hout hrow hlow hb2 hB2
        go_wp2_with fail
        go_loopw [14, 11] (fun t u wr => ∃ k : Nat, k ≤ l.length ∧ t = .int .i64 k ∧ Rw w.heap.size wr 60 2 pairC u (doneA L.out (l.take k)) ∧ Below w.heap.size w wr)
          (fun t _ _ => l.length - (intOf t).toNat)
        case atStart => exact ⟨0, by omega, rfl, H2.out.1, H2.out.2⟩
        case round =>
          obtain ⟨k, hk, rfl, hrow, hbr⟩ := hrel
          have hlen := doneA_length (l.take k) L.out
          rw [List.length_take] at hlen
          obtain ⟨ua, um, uc, rfl⟩ := row_form hrow
          by_cases hlt : k < l.length
          · obtain ⟨b, off, rfl, hbl, hc⟩ := h4 (by intro e; rw [e] at hlt; simp at hlt)
            have c0 := (hbr.cell (p := ⟨b, off + k * 3 + 0, none⟩) hbl).trans (hc k hlt 0 _ rfl)
            have c1 := (hbr.cell (p := ⟨b, off + k * 3 + 1, none⟩) hbl).trans (hc k hlt 1 _ rfl)
            have c2 := (hbr.cell (p := ⟨b, off + k * 3 + 2, none⟩) hbl).trans (hc k hlt 2 _ rfl)
            have htk := doneA_snoc L.out l hlt
            have hdn := fun x => done12_any wr _ _ (ls_of_own pairC_length hrow) x (by have := HF.out; omega)
            generalize l[k] = x at *
            have hdx := hdn x
            rw [← htk] at hdx
            try simp only [Nat.add_zero] at c0 c1 c2
            have HB := hide hbr
            clear hdn htk hc hbr hrow hlen
            go_wp2_with fail
            refine hdx.mono ?_
            rintro e w3 ⟨u, rfl, hrow3, hb3⟩
            have H3 := hide (And.intro (own_low hrow3 HB.out.size) (HB.out.trans (hb3.mono HB.out.size)))
            clear hdx hrow3 hb3
            go_wp2_with fail
            go_roundw
            case rel => exact ⟨k + 1, by omega, by go_num, H3.out.1, H3.out.2⟩
            case measure => simp [intOf]; omega
          · have hkl : k = l.length := by omega
            subst hkl
            rw [List.take_length] at hrow hlen
            have hum : um = (doneA L.out l).length := by obtain ⟨_, _, e, -⟩ := ls_of_own pairC_length hrow; injection e
            have hbd := build12_any wr _ _ (ls_of_own pairC_length hrow)
            rw [← HRN.out] at hbd
            by_cases hmany : 4096 < um
            · have q2 : decide ((4096 : Int) < (um : Int)) = true := by simp; omega
              have HRM : Hid (R = ([], [], 121)) := hide (by rw [HRN.out]; unfold buildM; rw [if_pos (by omega)])
              have HB := hide hbr
              clear hbd hum hlen hrow hbr
              go_wp2
              go_ret3
              rw [HRM.out]
              exact ⟨_, rfl, World.ownsRow_nil _ _ _ _, HB.out⟩
            · have q2 : decide ((4096 : Int) < (um : Int)) = false := by simp; omega
              have HB := hide hbr
              clear hum hlen hrow hbr
              go_wp2_with fail
              refine hbd.mono ?_
              rintro e w4 ⟨u, rfl, hrow4, hb4⟩
              have H4 := hide (And.intro (own_low hrow4 HB.out.size) (HB.out.trans (hb4.mono HB.out.size)))
              obtain ⟨xa, xm, xc, rfl⟩ := row_form hrow4
              clear hbd hrow4 hb4
              go_wp2
              go_ret3
              exact ⟨_, rfl, H4.out.1, H4.out.2⟩
      · have q1 : (L.bad != 0) = true := by simpa using hbad
        have HRN : Hid (R = ([], [], L.bad)) := hide (by rw [← HR.out]; unfold editM; rw [HOK.out, if_neg (by simp), if_pos hbad])
        obtain ⟨pa, pm, pc, rfl⟩ := row_form hrow
        have H2 := hide hB2
        clear hbad hrow hb2 hB2
        go_wp2
        go_ret3
        rw [HRN.out]
        exact ⟨_, rfl, World.ownsRow_nil _ _ _ _, H2.out⟩
end Go.Proofs.YtimbleaafoiidaaGreatDoor
