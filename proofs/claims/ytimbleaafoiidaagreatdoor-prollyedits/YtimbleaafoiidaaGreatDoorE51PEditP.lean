/-
  Edit, by the program: are puts right; the pairs behind them, built. Conditions: the get keeps its word; not too many puts.
-/
import Derived.Test.YtimbleaafoiidaaGreatDoorE50PEdited2
import Derived.Test.YtimbleaafoiidaaGreatDoorE45PBuild
namespace Go.Proofs.YtimbleaafoiidaaGreatDoor
open Go.RowKit

/-- Is a put right? -/
def putOkM (p : PutM) : Bool := isKeyB p.1 && !decide (128 < p.2.1.length) && !(p.2.2 && !p.2.1.isEmpty)
theorem neq_empty (t : TypeId) (a : Bs) : binOp .neq t (.string (strB a)) (.string ⟨#[]⟩) = pure (.bool (!a.isEmpty)) := by
  cases a <;> simp [binOp, Op.stringOp, strB]
theorem puts_no {l : List PutM} {k : Nat} (h : k < l.length) (hx : putOkM l[k] = false) : l.all putOkM = false := by
  rw [Bool.eq_false_iff]
  intro hc
  have := List.all_eq_true.1 hc l[k] (List.getElem_mem h)
  rw [hx] at this
  cases this
theorem puts_step {l : List PutM} {k : Nat} (h : k < l.length) (ha : (l.take k).all putOkM = true) (hx : putOkM l[k] = true) : (l.take (k + 1)).all putOkM = true := by
  rw [show l.take (k + 1) = l.take k ++ [l[k]] by rw [List.take_add_one]; simp [h], List.all_append, ha]
  simpa using hx
set_option maxRecDepth 40000 in
set_option maxHeartbeats 1600000 in
theorem putsAreRight_any (w : World) (l : List PutM) (v : Value) (hv : Ls w.heap.size w 3 putC v l) :
    Calls Tryz.prog 45 #[v] w fun e w' => e = .returned (.bool (l.all putOkM)) ∧ Below w.heap.size w w' := by
  obtain ⟨ao, cap, rfl, h1, h2, h4⟩ := hv
  unfold maxLen at h2
  go_enter Tryz.func45, Tryz.ntmps45
  go_wp2_with fail
  go_loopw [7] (fun t wr => ∃ k : Nat, k ≤ l.length ∧ t = .int .i64 k ∧ (l.take k).all putOkM = true ∧ Below w.heap.size w wr)
    (fun t _ => l.length - (intOf t).toNat)
  case atStart => exact ⟨0, by omega, rfl, rfl, Below.refl _ _⟩
  case round =>
    obtain ⟨k, hk, rfl, hok, hbr⟩ := hrel
    by_cases hlt : k < l.length
    · obtain ⟨b, off, rfl, hbl, hc⟩ := h4 (by intro e; rw [e] at hlt; simp at hlt)
      have c0 := (hbr.cell (p := ⟨b, off + k * 3 + 0, none⟩) hbl).trans (hc k hlt 0 _ rfl)
      have c1 := (hbr.cell (p := ⟨b, off + k * 3 + 1, none⟩) hbl).trans (hc k hlt 1 _ rfl)
      have c2 := (hbr.cell (p := ⟨b, off + k * 3 + 2, none⟩) hbl).trans (hc k hlt 2 _ rfl)
      have hno := fun h => puts_no (l := l) hlt h
      have hst := fun h => puts_step (l := l) hlt hok h
      have hb1 := hbr.alloc hbr.size (putO l[k])
      generalize l[k] = x at *
      have hx1 := strB_size x.1
      have hx2 := strB_size x.2.1
      have hne := neq_empty 9 x.2.1
      have hput : putOkM x = (isKeyB x.1 && !decide (128 < x.2.1.length) && !(x.2.2 && !x.2.1.isEmpty)) := rfl
      have HH := hide (And.intro hno (And.intro hst (And.intro hb1 hput)))
      try simp only [Nat.add_zero] at c0 c1 c2
      have HB1 := hide HH.out.2.2.1
      clear hno hst hb1 hput hc hbr hok
      cases hkey : isKeyB x.1 with
      | false =>
        have HN : Hid (l.all putOkM = false) := hide (HH.out.1 (by rw [HH.out.2.2.2, hkey]; rfl))
        go_wp2_with fail
        refine (pisKey_any _ x.1).mono ?_
        rintro e w1 ⟨rfl, rfl⟩
        rw [hkey]
        go_wp2
        go_ret
        exact ⟨ret_bool HN.out.symm, HB1.out⟩
      | true =>
        by_cases hvl : 128 < x.2.1.length
        · have qc : decide ((128 : Int) < (x.2.1.length : Int)) = true := decide_eq_true (by omega)
          have qc2 : decide (128 < x.2.1.length) = true := decide_eq_true (by omega)
          have HN : Hid (l.all putOkM = false) := hide (HH.out.1 (by rw [HH.out.2.2.2, hkey, decide_eq_true hvl]; rfl))
          go_wp2_with fail
          refine (pisKey_any _ x.1).mono ?_
          rintro e w1 ⟨rfl, rfl⟩
          rw [hkey]
          go_wp2
          go_ret
          exact ⟨ret_bool HN.out.symm, HB1.out⟩
        have qc : decide ((128 : Int) < (x.2.1.length : Int)) = false := decide_eq_false (by omega)
        have qc2 : decide (128 < x.2.1.length) = false := decide_eq_false (by omega)
        cases hgo : x.2.2 with
        | false =>
          rw [hgo] at c2
          have hb1 := HH.out.2.2.1
          simp only [putO, hgo] at hb1
          have HB1 := hide hb1
          clear hb1
          have HN : Hid ((l.take (k + 1)).all putOkM = true) := hide (HH.out.2.1 (by rw [HH.out.2.2.2, hkey, hgo, decide_eq_false hvl]; rfl))
          go_wp2_with fail
          refine (pisKey_any _ x.1).mono ?_
          rintro e w1 ⟨rfl, rfl⟩
          rw [hkey]
          go_wp2
          go_roundw
          case rel => exact ⟨k + 1, by omega, by go_num, HN.out, HB1.out⟩
          case measure => simp [intOf]; omega
        | true =>
          rw [hgo] at c2
          have hb1 := HH.out.2.2.1
          simp only [putO, hgo] at hb1
          have HB1 := hide hb1
          clear hb1
          cases hem : x.2.1.isEmpty with
          | false =>
            rw [hem] at hne
            have HN : Hid (l.all putOkM = false) := hide (HH.out.1 (by rw [HH.out.2.2.2, hkey, hgo, hem, decide_eq_false hvl]; rfl))
            go_wp2_with fail
            refine (pisKey_any _ x.1).mono ?_
            rintro e w1 ⟨rfl, rfl⟩
            rw [hkey]
            go_wp2
            go_ret
            exact ⟨ret_bool HN.out.symm, HB1.out⟩
          | true =>
            rw [hem] at hne
            have HN : Hid ((l.take (k + 1)).all putOkM = true) := hide (HH.out.2.1 (by rw [HH.out.2.2.2, hkey, hgo, hem, decide_eq_false hvl]; rfl))
            go_wp2_with fail
            refine (pisKey_any _ x.1).mono ?_
            rintro e w1 ⟨rfl, rfl⟩
            rw [hkey]
            go_wp2
            go_roundw
            case rel => exact ⟨k + 1, by omega, by go_num, HN.out, HB1.out⟩
            case measure => simp [intOf]; omega
    · have hkl : k = l.length := by omega
      subst hkl
      rw [List.take_length] at hok
      have HB := hide (And.intro hok hbr)
      clear hok hbr
      go_wp2
      go_ret
      exact ⟨ret_bool HB.out.1.symm, HB.out.2⟩
/-- What Edit answers: of pairs listed so. -/
def editM (L : LsS) (puts : List PutM) : Bs × List Pair × Int :=
  if puts.all putOkM = false then ([], [], 120) else if L.bad ≠ 0 then ([], [], L.bad) else buildM (doneA L.out puts)
set_option maxRecDepth 40000 in
set_option maxHeartbeats 1600000 in
theorem edit_prog (w : World) (g : Nat) (caps : Array Value) (fd : Bs → Option Bs) (B : Nat) (I : World → List Bs → Prop) (hG : GetOk g caps fd B kts1 I) (root : Bs) (hI : I w []) (l : List PutM) (v : Value) (hv : Ls B w 3 putC v l) (hn : l.length ≤ 1000) (hTB : ∀ W, Below B w W → TabW W) :
    Calls Tryz.prog 23 #[.func (.func g) #[] caps, .string (strB root), v] w fun e w' => ∃ u, e = .returned (.tuple #[.string (strB (editM (listM fd root [] []) l).1), u, .int .i64 (editM (listM fd root [] []) l).2.2]) ∧ Rw B w' 69 2 pairC u (editM (listM fd root [] []) l).2.1 ∧ Below B w w' := by
  have hB := hG.le _ _ hI
  have hpr := putsAreRight_any w l v (hv.up hB)
  have HV := hide hv
  have hfew := listM_few fd hG.short root [] []
  obtain ⟨L, hL⟩ : ∃ L, listM fd root [] [] = L := ⟨_, rfl⟩
  have hris : Rises L.out := by rw [← hL]; exact goM_rises fd [] [] 21 _ _ _ List.Pairwise.nil
  rw [hL] at hfew ⊢
  obtain ⟨R, hR⟩ : ∃ R, editM L l = R := ⟨_, rfl⟩
  rw [hR]
  have HR := hide hR
  have HF := hide (And.intro hfew.2 hris)
  have HLQ := hide hL
  have HGI := hide (And.intro hG (And.intro hI hTB))
  obtain ⟨ao, cap, rfl, -⟩ := hv
  clear hR hL hG hI hfew hris hTB
  go_enter Tryz.func23, Tryz.ntmps23
  go_wp2_with fail
  refine hpr.mono ?_
  rintro e w1 ⟨rfl, hb1⟩
  have hB1 := hb1.mono hB
  clear hpr
  cases hok : l.all putOkM with
  | false =>
    have HRN : Hid (R = ([], [], 120)) := hide (by rw [← HR.out]; unfold editM; rw [hok]; rfl)
    have HB1 := hide hB1
    clear hok hb1 hB1
    go_wp2
    go_ret3
    rw [HRN.out]
    exact ⟨_, rfl, World.ownsRow_nil _ _ _ _, HB1.out⟩
  | true =>
    have hI1 := HGI.out.1.below HGI.out.2.1 hb1
    have hlp := list_prog w1 g caps fd B I HGI.out.1 root [] [] [] hI1 (by simp)
    rw [show goM fd [] [] 21 (rootK root) (-1) ⟨[], [], 0⟩ = L from HLQ.out] at hlp
    rw [show strB ([] : Bs) = ⟨#[]⟩ from rfl] at hlp
    have HB1 := hide hB1
    have HOK := hide hok
    clear hok hb1 hI1 hB1
    go_wp2_with fail
    refine hlp.mono ?_
    rintro e w2 ⟨vp, rfl, hrow, hI2, hM2⟩
    have hB2 := HB1.out.trans hM2.b
    clear hlp
    by_cases hbad : L.bad = 0
    · have q1 : (L.bad != 0) = false := by simpa using hbad
      have hout : outOf L = L.out := by unfold outOf; rw [if_pos hbad]
      rw [hout] at hrow
      have HRN : Hid (R = buildM (doneA L.out l)) := hide (by rw [← HR.out]; unfold editM; rw [HOK.out, if_neg (by simp), if_neg (by simpa using hbad)])
      have hed := edited_any w2 vp _ L.out l (ls_of_own pairC_length hrow) ((HV.out.keep hB2).up (by have := hB2.size; omega)) HF.out.2 (by have := HF.out.1; omega) hn
      obtain ⟨va, vm, vc, rfl⟩ := row_form hrow
      have HB2 := hide hB2
      clear hbad hout hrow hI2 hM2 hB2
      go_wp2_with fail
      refine hed.mono ?_
      rintro e w3 ⟨v3, rfl, hrow3, hb3⟩
      have hB3 := HB2.out.trans (hb3.mono (by have := HB2.out.size; omega))
      have hbd := build_any w3 _ v3 (ls_of_own pairC_length hrow3) (HGI.out.2.2 w3 hB3)
      rw [← HRN.out] at hbd
      obtain ⟨va3, vm3, vc3, rfl⟩ := row_form hrow3
      have HB3 := hide hB3
      clear hed hrow3 hb3 hB3
      go_wp2_with fail
      refine hbd.mono ?_
      rintro e w4 ⟨u, rfl, hrow4, hb4⟩
      have hs3 : B ≤ w3.heap.size := by have := HB3.out.size; omega
      have H4 := hide (And.intro (own_low hrow4 hs3) (HB3.out.trans (hb4.mono hs3)))
      obtain ⟨ua, um, uc, rfl⟩ := row_form hrow4
      clear hbd hrow4 hb4 hs3
      go_wp2
      go_ret3
      exact ⟨_, rfl, H4.out.1, H4.out.2⟩
    · have q1 : (L.bad != 0) = true := by simpa using hbad
      have HRN : Hid (R = ([], [], L.bad)) := hide (by rw [← HR.out]; unfold editM; rw [HOK.out, if_neg (by simp), if_pos hbad])
      obtain ⟨va, vm, vc, rfl⟩ := row_form hrow
      have HB2 := hide hB2
      clear hbad hrow hI2 hM2 hB2
      go_wp2
      go_ret3
      rw [HRN.out]
      exact ⟨_, rfl, World.ownsRow_nil _ _ _ _, HB2.out⟩
end Go.Proofs.YtimbleaafoiidaaGreatDoor
