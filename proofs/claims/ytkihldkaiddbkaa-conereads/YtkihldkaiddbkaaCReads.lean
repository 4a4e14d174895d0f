/-
  What the document's own Parse answers; ConeReads' walk. Conditions: the text not too long.
-/
import Derived.Test.YtkihldkaiddbkaaCParse2
import Derived.Test.YtkihldkaiddbkaaCRef2
import Derived.Test.YtkihldkaiddbkaaCShown
import Derived.Test.YtkihldkaiddbkaaCShow
namespace Go.Proofs.Ytkihldkaiddbkaa
open Go.RowKit

/-- Where the reference stands in a text: these lines are done, from f on nothing. -/
def ScanN (t : Bs) (ls : List Bs) (f k : Nat) : Prop :=
  ls.length ≤ k ∧ badAt 1 ls = none ∧ ((k ≤ t.length ∧ f ≤ k ∧ 10 ∉ (t.drop f).take (k - f) ∧ cutN t = ls ++ cutN (t.drop f)) ∨ (k = t.length + 1 ∧ cutN t = ls))
theorem ScanN.start (t : Bs) : ScanN t [] 0 0 := ⟨by simp, rfl, .inl ⟨by omega, by omega, by simp, by simp⟩⟩
theorem drop_part {t : Bs} {f k : Nat} (hf : f ≤ k) (hk : k < t.length) : t.drop f = (t.drop f).take (k - f) ++ t[k] :: t.drop (k + 1) := by
  have h1 := (List.take_append_drop (k - f) (t.drop f)).symm
  rw [List.drop_drop, show f + (k - f) = k by omega, List.drop_eq_getElem_cons hk] at h1
  exact h1
theorem ScanN.on {t : Bs} {ls : List Bs} {f k : Nat} (h : ScanN t ls f k) (hk : k < t.length) (hc : t[k] ≠ 10) : ScanN t ls f (k + 1) := by
  obtain ⟨h1, h2, ⟨h3, h4, h5, h6⟩ | ⟨h3, h4⟩⟩ := h
  · refine ⟨by omega, h2, .inl ⟨by omega, by omega, ?_, h6⟩⟩
    have e : (t.drop f).take (k + 1 - f) = (t.drop f).take (k - f) ++ [t[k]] := by
      rw [show k + 1 - f = (k - f) + 1 by omega, List.take_add_one]
      have : (t.drop f)[k - f]? = some t[k] := by
        rw [List.getElem?_drop, show f + (k - f) = k by omega, List.getElem?_eq_getElem hk]
      rw [this]
      rfl
    rw [e, List.mem_append, not_or]
    exact ⟨h5, by simpa using fun e => hc e.symm⟩
  · omega
/-- A line ends here. -/
theorem ScanN.line {t : Bs} {ls : List Bs} {f k : Nat} (h : ScanN t ls f k) (hk : k ≤ t.length) (hc : ∀ h : k < t.length, t[k] = 10) :
    f ≤ k ∧ (∃ r, cutN t = ls ++ (t.drop f).take (k - f) :: r) ∧ ((silM ((t.drop f).take (k - f)) || okL ((t.drop f).take (k - f))) = true → ScanN t (ls ++ [(t.drop f).take (k - f)]) (k + 1) (k + 1)) := by
  obtain ⟨h1, h2, ⟨h3, h4, h5, h6⟩ | ⟨h3, h4⟩⟩ := h
  · have hb : (silM ((t.drop f).take (k - f)) || okL ((t.drop f).take (k - f))) = true → badAt 1 (ls ++ [(t.drop f).take (k - f)]) = none := fun hq => by
      rw [badAt_app _ _ _ h2]
      unfold badAt
      rw [if_pos hq]
      rfl
    by_cases hlt : k < t.length
    · have e := drop_part h4 hlt
      rw [hc hlt] at e
      have hcut : cutN (t.drop f) = (t.drop f).take (k - f) :: cutN (t.drop (k + 1)) := by
        conv => lhs; rw [e]
        exact cutN_app _ h5
      refine ⟨h4, ⟨_, by rw [h6, hcut]⟩, fun hq => ⟨by rw [List.length_append, List.length_singleton]; omega, hb hq, .inl ⟨by omega, by omega, by simp, ?_⟩⟩⟩
      rw [h6, hcut]
      simp
    · have hkl : k = t.length := by omega
      have e : (t.drop f).take (k - f) = t.drop f := List.take_of_length_le (by rw [List.length_drop]; omega)
      have hcut : cutN (t.drop f) = [(t.drop f).take (k - f)] := by rw [e]; rw [e] at h5; exact cutN_no h5
      refine ⟨h4, ⟨[], by rw [h6, hcut]⟩, fun hq => ⟨by rw [List.length_append, List.length_singleton]; omega, hb hq, .inr ⟨by omega, ?_⟩⟩⟩
      rw [h6, hcut]
  · omega
theorem dirsL_snoc (ls : List Bs) (p : Bs) : dirsL (ls ++ [p]) = if silM p then dirsL ls else dirsL ls ++ [dirL p] := by
  rw [dirsL_app]
  have e : dirsL [p] = if silM p then [] else [dirL p] := rfl
  rw [e]
  split <;> simp

set_option maxRecDepth 20000 in
set_option maxHeartbeats 1600000 in
theorem crparse_any (w : World) (t : Bs) (hl : t.length ≤ 100000) :
    Calls Try.prog 17 #[.string (strB t)] w fun e w' => ∃ u, e = .returned (.tuple #[u, .int .i64 (parseA t).2.1, .int .i64 (parseA t).2.2]) ∧ w'.ownsRow w.heap.size 9 1 u (parseA t).1.length (tc (parseA t).1) ∧ Below w.heap.size w w' := by
  have HOK := hide (@parseA_ok t)
  have HBAD := hide (fun n (h : badAt 1 (cutN t) = some n) => parseA_bad h)
  have HSH := hide (cutN_short t)
  generalize parseA t = A at *
  have hsz := strB_size t
  have htl := toL t
  go_enter Try.func17, Try.ntmps17
  go_wp2
  go_loopw [5, 6, 7, 8] (fun lv ln fr i wr => Below w.heap.size w wr ∧ ∃ (ls : List Bs) (f k : Nat), ln = .int .i64 ((ls.length : Int) + 1) ∧ fr = .int .i64 (f : Int) ∧ i = .int .i64 (k : Int) ∧ f ≤ t.length + 1 ∧ ScanN t ls f k ∧ OwnT wr w.heap.size lv (dirsL ls)) (fun _ _ _ i _ => t.length + 1 - (intOf i).toNat)
  case atStart => exact ⟨Below.refl _ _, [], 0, 0, rfl, rfl, rfl, by omega, ScanN.start t, World.ownsRow_nil _ _ _ _⟩
  case round =>
    obtain ⟨hb, ls, f, k, rfl, rfl, rfl, hf, hsc, ho⟩ := hrel
    have HB := hide hb
    obtain ⟨lo, lc, rfl⟩ := own_shape ho
    have hlk := hsc.1
    have hld := dirsL_len ls
    by_cases hk : k ≤ t.length
    · by_cases hgo : ∃ h : k < t.length, t[k] ≠ 10
      · obtain ⟨hlt, hc⟩ := hgo
        have hix := fun W => index_str 9 (.inl rfl) W t .i64 k hlt
        have hc2 : ((t[k].toNat : Int) == 10) = false := beq_eq_false_iff_ne.2 (fun e => hc (UInt8.toNat_inj.1 (by simpa using Int.ofNat.inj e)))
        have HSC := hide (hsc.on hlt hc)
        have HO := hide ho
        generalize t[k] = c at *
        clear hsc ho hb
        go_wp2_with fail
        go_roundw
        case rel => exact ⟨HB.out, ls, f, k + 1, rfl, rfl, by go_num, hf, HSC.out, HO.out⟩
        case measure => simp [intOf]; omega
      · have hc : ∀ h : k < t.length, t[k] = 10 := fun h => Decidable.byContradiction fun hne => hgo ⟨h, hne⟩
        obtain ⟨hfk, ⟨r, hr⟩, hnext⟩ := hsc.line hk hc
        have hbd := hsc.2.1
        have x1 := ext_mid t f k
        have hpl : ((t.drop f).take (k - f)).length ≤ t.length := HSH.out _ (by rw [hr]; simp)
        generalize (t.drop f).take (k - f) = p at *
        have HO := hide ho
        have HNX := hide hnext
        have HSN := hide (dirsL_snoc ls p)
        have hlen1 : (ls ++ [p]).length = ls.length + 1 := by simp
        have hbadp : (silM p || okL p) = false → badAt 1 (cutN t) = some (1 + ls.length) := fun hq => by
          rw [hr, badAt_app _ _ _ hbd]
          have e : badAt (1 + ls.length) (p :: r) = if (silM p || okL p) = true then badAt (1 + ls.length + 1) r else some (1 + ls.length) := rfl
          rw [e, hq, if_neg (by simp)]
        have HBP := hide hbadp
        have tp := toL p
        have hzp := strB_size p
        clear hsc ho hb hnext hbadp hbd hr hgo
        by_cases hlt : k < t.length
        · have hix := fun W => index_str 9 (.inl rfl) W t .i64 k hlt
          rw [hc hlt] at hix
          replace hix : ∀ W, (Instr.index 9 (.string (strB t)) (.int .i64 (k : Int))).run Try.prog W = .ok (.int .u8 10) W := hix
          clear hc
          by_cases ha : p = [42]
          · subst ha
            have HNX2 := hide (HNX.out rfl)
            have hs := HB.out.alloc HB.out.size (.cells #[.string (strB [])] 9)
            have hown := own_keep HO.out ((Below.refl _ wr).alloc (Nat.le_refl _) (.cells #[.string (strB [])] 9))
            clear HBP HNX
            go_wp2_with (at_builtin; refine wpList_append_texts rfl (.tmp 36) (.tmp 37) rfl rfl rfl rfl ((dirsL ls).length + 1) (by simp) hown (ts_one wr []) hs.size (by omega) (by simp) ?_)
            intro a2 c2 w2 hown2 hb2
            have HO2 := hide hown2
            have HB2 := hide (hs.trans hb2)
            clear hown2 hb2 hown hs
            go_wp2
            go_roundw
            case rel =>
              refine ⟨HB2.out, ls ++ [[42]], k + 1, k + 1, by rw [hlen1]; go_num, by go_num, by go_num, by omega, HNX2.out, ?_⟩
              rw [HSN.out]
              show OwnT w2 w.heap.size _ (dirsL ls ++ [dirL [42]])
              exact HO2.out
            case measure => simp [intOf]; omega
          have ba : (p == [42]) = false := by simp [ha]
          by_cases he : p = []
          · subst he
            have HNX2 := hide (HNX.out rfl)
            clear HBP HNX
            go_wp2_with fail
            go_roundw
            case rel => exact ⟨HB.out, ls ++ [[]], k + 1, k + 1, by rw [hlen1]; go_num, by go_num, by go_num, by omega, HNX2.out, by rw [HSN.out]; exact HO.out⟩
            case measure => simp [intOf]; omega
          have be : (p == []) = false := by simp [he]
          have hpl0 : 0 < p.length := List.length_pos_iff.2 he
          have hix0 := fun W => index_str 9 (.inl rfl) W p .i64 0 hpl0
          simp only [Int.ofNat_zero] at hix0
          have hhd : p.head? = some (p[0]'hpl0) := by rw [List.head?_eq_getElem?]; simp [hpl0]
          by_cases h35 : p[0]'hpl0 = 35
          · have hsil : silM p = true := by unfold silM; rw [hhd, h35]; simp
            have HNX2 := hide (HNX.out (by rw [hsil]; rfl))
            rw [hsil, if_pos rfl] at HSN
            rw [h35] at hix0
            replace hix0 : ∀ W, (Instr.index 9 (.string (strB p)) (.int .i64 0)).run Try.prog W = .ok (.int .u8 35) W := hix0
            clear HBP HNX hhd h35
            go_wp2_with fail
            go_roundw
            case rel => exact ⟨HB.out, ls ++ [p], k + 1, k + 1, by rw [hlen1]; go_num, by go_num, by go_num, by omega, HNX2.out, by rw [HSN.out]; exact HO.out⟩
            case measure => simp [intOf]; omega
          have hsil : silM p = false := by unfold silM; rw [hhd, decide_eq_false he]; simpa using h35
          have h35i : ((p[0]'hpl0).toNat : Int) ≠ 35 := fun e => h35 (UInt8.toNat_inj.1 (by simpa using Int.ofNat.inj e))
          have hok : okL p = Pt.path p := by unfold okL; rw [decide_eq_false ha, hsil]; simp
          have hdl : dirL p = p := by unfold dirL; rw [if_neg ha]
          rw [hsil, Bool.false_or, hok] at HBP
          rw [hsil, Bool.false_or, hok] at HNX
          rw [hsil, if_neg (by simp), hdl] at HSN
          have hpa := rparse_all wr p (by omega)
          unfold err at hpa
          generalize p[0]'hpl0 = c0 at *
          have h35b : ((c0.toNat : Int) == 35) = false := beq_eq_false_iff_ne.2 h35i
          clear hsil hok hdl hhd
          cases hpp : Pt.path p with
          | false =>
            have HA := hide (HBAD.out _ (HBP.out hpp))
            rw [hpp, if_neg (by simp)] at hpa
            clear HBP HNX
            go_wp2_with fail
            refine hpa.mono ?_
            rintro e w2 ⟨u, rfl, hu, hb2⟩
            obtain ⟨uo, uc, rfl⟩ := own_shape hu
            have HB2 := hide (HB.out.trans (hb2.mono HB.out.size))
            clear hu hb2
            go_wp2
            go_ret3
            rw [HA.out]
            exact ⟨_, by simp; omega, World.ownsRow_nil _ _ _ _, HB2.out⟩
          | true =>
            have HNX2 := hide (HNX.out hpp)
            rw [hpp, if_pos rfl] at hpa
            clear HBP HNX
            go_wp2_with fail
            refine hpa.mono ?_
            rintro e w2 ⟨u, rfl, hu, hb2⟩
            obtain ⟨uo, uc, rfl⟩ := own_shape hu
            have hB2 := HB.out.trans (hb2.mono HB.out.size)
            have hs := hB2.alloc hB2.size (.cells #[.string (strB p)] 9)
            have hown := own_keep (own_keep HO.out hb2) ((Below.refl _ w2).alloc (Nat.le_refl _) (.cells #[.string (strB p)] 9))
            clear hu hb2 hpa
            go_wp2_with (at_builtin; refine wpList_append_texts rfl (.tmp 54) (.tmp 56) rfl rfl rfl rfl ((dirsL ls).length + 1) (by simp) hown (ts_one w2 p) hs.size (by omega) (by simp) ?_)
            intro a3 c3 w3 hown3 hb3
            have HO3 := hide hown3
            have HB3 := hide (hs.trans hb3)
            clear hown3 hb3 hown hs hB2
            go_wp2
            go_roundw
            case rel =>
              refine ⟨HB3.out, ls ++ [p], k + 1, k + 1, by rw [hlen1]; go_num, by go_num, by go_num, by omega, HNX2.out, ?_⟩
              rw [HSN.out]
              have := HO3.out
              unfold OwnT at this ⊢
              rw [List.length_append] at this ⊢
              exact this
            case measure => simp [intOf]; omega
        · have hki : ¬ (k : Int) < (t.length : Int) := by omega
          clear hc
          by_cases ha : p = [42]
          · subst ha
            have HNX2 := hide (HNX.out rfl)
            have hs := HB.out.alloc HB.out.size (.cells #[.string (strB [])] 9)
            have hown := own_keep HO.out ((Below.refl _ wr).alloc (Nat.le_refl _) (.cells #[.string (strB [])] 9))
            clear HBP HNX
            go_wp2_with (at_builtin; refine wpList_append_texts rfl (.tmp 36) (.tmp 37) rfl rfl rfl rfl ((dirsL ls).length + 1) (by simp) hown (ts_one wr []) hs.size (by omega) (by simp) ?_)
            intro a2 c2 w2 hown2 hb2
            have HO2 := hide hown2
            have HB2 := hide (hs.trans hb2)
            clear hown2 hb2 hown hs
            go_wp2
            go_roundw
            case rel =>
              refine ⟨HB2.out, ls ++ [[42]], k + 1, k + 1, by rw [hlen1]; go_num, by go_num, by go_num, by omega, HNX2.out, ?_⟩
              rw [HSN.out]
              show OwnT w2 w.heap.size _ (dirsL ls ++ [dirL [42]])
              exact HO2.out
            case measure => simp [intOf]; omega
          have ba : (p == [42]) = false := by simp [ha]
          by_cases he : p = []
          · subst he
            have HNX2 := hide (HNX.out rfl)
            clear HBP HNX
            go_wp2_with fail
            go_roundw
            case rel => exact ⟨HB.out, ls ++ [[]], k + 1, k + 1, by rw [hlen1]; go_num, by go_num, by go_num, by omega, HNX2.out, by rw [HSN.out]; exact HO.out⟩
            case measure => simp [intOf]; omega
          have be : (p == []) = false := by simp [he]
          have hpl0 : 0 < p.length := List.length_pos_iff.2 he
          have hix0 := fun W => index_str 9 (.inl rfl) W p .i64 0 hpl0
          simp only [Int.ofNat_zero] at hix0
          have hhd : p.head? = some (p[0]'hpl0) := by rw [List.head?_eq_getElem?]; simp [hpl0]
          by_cases h35 : p[0]'hpl0 = 35
          · have hsil : silM p = true := by unfold silM; rw [hhd, h35]; simp
            have HNX2 := hide (HNX.out (by rw [hsil]; rfl))
            rw [hsil, if_pos rfl] at HSN
            rw [h35] at hix0
            replace hix0 : ∀ W, (Instr.index 9 (.string (strB p)) (.int .i64 0)).run Try.prog W = .ok (.int .u8 35) W := hix0
            clear HBP HNX hhd h35
            go_wp2_with fail
            go_roundw
            case rel => exact ⟨HB.out, ls ++ [p], k + 1, k + 1, by rw [hlen1]; go_num, by go_num, by go_num, by omega, HNX2.out, by rw [HSN.out]; exact HO.out⟩
            case measure => simp [intOf]; omega
          have hsil : silM p = false := by unfold silM; rw [hhd, decide_eq_false he]; simpa using h35
          have h35i : ((p[0]'hpl0).toNat : Int) ≠ 35 := fun e => h35 (UInt8.toNat_inj.1 (by simpa using Int.ofNat.inj e))
          have hok : okL p = Pt.path p := by unfold okL; rw [decide_eq_false ha, hsil]; simp
          have hdl : dirL p = p := by unfold dirL; rw [if_neg ha]
          rw [hsil, Bool.false_or, hok] at HBP
          rw [hsil, Bool.false_or, hok] at HNX
          rw [hsil, if_neg (by simp), hdl] at HSN
          have hpa := rparse_all wr p (by omega)
          unfold err at hpa
          generalize p[0]'hpl0 = c0 at *
          have h35b : ((c0.toNat : Int) == 35) = false := beq_eq_false_iff_ne.2 h35i
          clear hsil hok hdl hhd
          cases hpp : Pt.path p with
          | false =>
            have HA := hide (HBAD.out _ (HBP.out hpp))
            rw [hpp, if_neg (by simp)] at hpa
            clear HBP HNX
            go_wp2_with fail
            refine hpa.mono ?_
            rintro e w2 ⟨u, rfl, hu, hb2⟩
            obtain ⟨uo, uc, rfl⟩ := own_shape hu
            have HB2 := hide (HB.out.trans (hb2.mono HB.out.size))
            clear hu hb2
            go_wp2
            go_ret3
            rw [HA.out]
            exact ⟨_, by simp; omega, World.ownsRow_nil _ _ _ _, HB2.out⟩
          | true =>
            have HNX2 := hide (HNX.out hpp)
            rw [hpp, if_pos rfl] at hpa
            clear HBP HNX
            go_wp2_with fail
            refine hpa.mono ?_
            rintro e w2 ⟨u, rfl, hu, hb2⟩
            obtain ⟨uo, uc, rfl⟩ := own_shape hu
            have hB2 := HB.out.trans (hb2.mono HB.out.size)
            have hs := hB2.alloc hB2.size (.cells #[.string (strB p)] 9)
            have hown := own_keep (own_keep HO.out hb2) ((Below.refl _ w2).alloc (Nat.le_refl _) (.cells #[.string (strB p)] 9))
            clear hu hb2 hpa
            go_wp2_with (at_builtin; refine wpList_append_texts rfl (.tmp 54) (.tmp 56) rfl rfl rfl rfl ((dirsL ls).length + 1) (by simp) hown (ts_one w2 p) hs.size (by omega) (by simp) ?_)
            intro a3 c3 w3 hown3 hb3
            have HO3 := hide hown3
            have HB3 := hide (hs.trans hb3)
            clear hown3 hb3 hown hs hB2
            go_wp2
            go_roundw
            case rel =>
              refine ⟨HB3.out, ls ++ [p], k + 1, k + 1, by rw [hlen1]; go_num, by go_num, by go_num, by omega, HNX2.out, ?_⟩
              rw [HSN.out]
              have := HO3.out
              unfold OwnT at this ⊢
              rw [List.length_append] at this ⊢
              exact this
            case measure => simp [intOf]; omega
    · obtain ⟨h1, h2, ⟨h3, _, _, _⟩ | ⟨h3, h4⟩⟩ := hsc
      · omega
      · have HA := hide (HOK.out (by rw [h4]; exact h2))
        have hO := rof_any wr _ (dirsL ls) (ts_of_own ho) (by omega) (dirsL_short (m := 4611686018427387000) (fun x hx => by
          have := HSH.out x (by rw [h4]; exact hx)
          omega))
        rw [h4] at HA
        have HO := hide hO
        clear ho hb hO h4 h2
        go_wp2_with fail
        refine (HO.out).mono ?_
        rintro e w2 ⟨u, rfl, hu, hb2⟩
        have HF := hide (And.intro (own_down hu HB.out.size) (HB.out.trans (hb2.mono HB.out.size)))
        obtain ⟨uo, uc, rfl⟩ := own_shape hu
        clear hu hb2
        go_wp2
        all_goals (go_ret3; rw [HA.out]; exact ⟨_, rfl, HF.out.1, HF.out.2⟩)
theorem parseA_len (t : Bs) : (parseA t).1.length ≤ 64 := by
  cases h : badAt 1 (cutN t) with
  | none => rw [parseA_ok h]; exact ofM_len1 _
  | some n => rw [parseA_bad h]; simp
set_option maxRecDepth 20000 in
set_option maxHeartbeats 1600000 in
theorem lreads_any (w : World) (t : Bs) (hl : t.length ≤ 4611686018427387000) :
    Calls Try.prog 4 #[.string (strB t)] w fun e w' => e = .returned (.bool true) ∧ Below w.heap.size w w' := by
  have hsz := strB_size t
  obtain ⟨n, hn⟩ : ∃ n, n = min t.length 10000 := ⟨_, rfl⟩
  have hni : min (t.length : Int) 10000 = (n : Int) := by omega
  have hnt : n ≤ t.length := by omega
  have hn4 : n ≤ 10000 := by omega
  have x1 : (strB t).extract 0 n = strB (t.take n) := by rw [ext_strB]; simp
  have htl : (t.take n).length ≤ 10000 := by rw [List.length_take]; omega
  clear hn
  generalize t.take n = s at *
  have c1 := fun W => cparse_any W s (by omega)
  have c2 := fun W => crparse_any W s (by omega)
  have hal := parseA_len s
  generalize parseA s = A at *
  obtain ⟨f, at_, ef⟩ := A
  simp only at c1 c2 hal
  go_enter Try.func4, Try.ntmps4
  go_wp2_with fail
  refine (shown_any w).mono ?_
  rintro e w1 ⟨rfl, hb1⟩
  go_wp2_with fail
  refine (c1 _).mono ?_
  rintro e w2 ⟨u, rfl, hu, hb2⟩
  obtain ⟨uo, uc, rfl⟩ := own_shape hu
  go_wp2_with fail
  refine (c2 w2).mono ?_
  rintro e w3 ⟨v, rfl, hv, hb3⟩
  obtain ⟨vo, vc, rfl⟩ := own_shape hv
  have hs := same_any w3 _ _ f f (ts_of_own (own_keep hu hb3)) (ts_of_own hv) (by omega) (by omega)
  rw [decide_eq_true rfl] at hs
  have HS := hide hs
  have HB := hide (hb1.trans ((hb2.trans (hb3.mono hb2.size)).mono hb1.size))
  clear hs hu hv hb1 hb2 hb3 c1 c2
  go_wp2_with fail
  refine (HS.out).mono ?_
  rintro e w4 ⟨rfl, hb4⟩
  have HB4 := hide (HB.out.trans (hb4.mono HB.out.size))
  clear hb4
  go_wp2
  go_ret
  exact ⟨rfl, HB4.out⟩
end Go.Proofs.Ytkihldkaiddbkaa
