/-
  Texts joined: DChange2, DMaps, PREnds.
-/
import Derived.Test.YtldfjpgcemfpjaaM29DWhole
import Derived.Deep.CutBlock
import Derived.Deep.CutRange
import Derived.Test.YtldfjpgcemfpjaaM0WPlain
import Derived.Test.YtldfjpgcemfpjaaM19PRow
/-
  Two lists of pairs held against each other: the walk. Conditions: the lists lie there; not too many pairs.
-/
namespace Go.Proofs.Ytldfjpgcemfpjaa
open Go.RowKit

set_option maxRecDepth 40000 in
set_option maxHeartbeats 3200000 in
theorem changesOf_any (w : World) (l0 m0 : List Pair) (va vb : Value) (hl : Ls w.heap.size w 2 pairC va l0) (hm : Ls w.heap.size w 2 pairC vb m0) (hn : l0.length + m0.length ≤ 1000000) :
    Calls Try.prog 21 #[va, vb] w fun e w' => ∃ v, e = .returned v ∧ Rw w.heap.size w' 52 5 ch5C v ((chgs l0 m0).map ch5) ∧ Below w.heap.size w w' := by
  unfold chgs
  rw [← progC_eq]
  obtain ⟨N, hN⟩ : ∃ N, N = progC (l0.length + m0.length) l0 m0 := ⟨_, rfl⟩
  rw [← hN]
  have HH := hide (And.intro hl (And.intro hm (And.intro hN hn)))
  have hl' := hl
  have hm' := hm
  obtain ⟨aa, ca, rfl, -, -, -⟩ := hl'
  obtain ⟨ab, cb, rfl, -, -, -⟩ := hm'
  clear hl hm hN
  go_enter Try.func21, Try.ntmps21
  go_wp2_with fail
  go_loopw [0, 1, 5] (fun ta tb t wr => ∃ (l m : List Pair) (n : Nat) (out : List Ch5), l.length + m.length ≤ n ∧ out.length + n ≤ 1000000 ∧ N = out ++ progC n l m ∧ Ls w.heap.size wr 2 pairC ta l ∧ Ls w.heap.size wr 2 pairC tb m ∧ Rw w.heap.size wr 52 5 ch5C t out ∧ Below w.heap.size w wr)
    (fun ta tb _ _ => (match ta with | .slice _ n _ => n | _ => 0) + (match tb with | .slice _ n _ => n | _ => 0))
  case atStart => exact ⟨l0, m0, l0.length + m0.length, [], Nat.le_refl _, by simpa using HH.out.2.2.2, by simpa using HH.out.2.2.1, HH.out.1, HH.out.2.1, World.ownsRow_nil _ _ _ _, Below.refl _ _⟩
  case round =>
    obtain ⟨l, m, n, out, hln, hon, hNe, hl, hm, hrow, hbw⟩ := hrel
    have hl' := hl
    have hm' := hm
    obtain ⟨la, lc, rfl, l1, l2, -⟩ := hl'
    obtain ⟨ma, mc, rfl, m1, m2, -⟩ := hm'
    obtain ⟨oa, om, oc, rfl⟩ := row_form hrow
    unfold maxLen at l2 m2
    have hs := hbw.size
    by_cases hboth : l = [] ∧ m = []
    · obtain ⟨rfl, rfl⟩ := hboth
      rw [progC_nil, List.append_nil] at hNe
      have HR := hide (And.intro hNe (And.intro hrow hbw))
      clear hl hm hrow hbw hNe
      go_wp2
      all_goals
        go_ret
        rw [HR.out.1]
        exact ⟨_, rfl, HR.out.2.1, HR.out.2.2⟩
    · have hne : l ≠ [] ∨ m ≠ [] := by
        by_cases h1 : l = []
        · exact .inr (fun h2 => hboth ⟨h1, h2⟩)
        · exact .inl h1
      have hsl := step_len hboth
      obtain ⟨n', rfl⟩ : ∃ n', n = n' + 1 := ⟨n - 1, by omega⟩
      have hst : progC (n' + 1) l m = (if difC (oneC l m) then [oneC l m] else []) ++ progC n' (takeKM (firstK l m) l).2.2 (takeKM (firstK l m) m).2.2 := by rw [progC, if_neg hboth]
      rw [hst] at hNe
      have hfk := firstKey_any wr w.heap.size l m _ _ hl hm hne
      generalize hkey : firstK l m = key at *
      have ho : oneC l m = (key, ((takeKM key l).1, ((takeKM key m).1, ((takeKM key l).2.1, (takeKM key m).2.1)))) := by unfold oneC; rw [hkey]
      rw [ho] at hNe
      have hcond : decide (0 < l.length) = true ∨ decide (0 < l.length) = false ∧ decide (0 < m.length) = true := by
        rcases hne with h1 | h1
        · exact .inl (decide_eq_true (by cases l with | nil => exact absurd rfl h1 | cons x r => simp))
        · by_cases h2 : 0 < l.length
          · exact .inl (decide_eq_true h2)
          · exact .inr ⟨decide_eq_false h2, decide_eq_true (by cases m with | nil => exact absurd rfl h1 | cons x r => simp)⟩
      have HR := hide (And.intro hNe (And.intro hl (And.intro hm (And.intro hrow (And.intro hbw (And.intro hsl hln))))))
      clear hNe hl hm hrow hbw hst hboth hne ho hsl hkey
      rcases hcond with hd | ⟨hd, hd2⟩
      all_goals
        go_wp2_with fail
        refine hfk.mono ?_
        rintro e w1 ⟨rfl, hb1⟩
        have hbz : Below wr.heap.size wr (w1.alloc (.cells #[.string ⟨#[]⟩, .string ⟨#[]⟩, .string ⟨#[]⟩, .bool false, .bool false] 52)) := hb1.alloc hb1.size _
        have hxz := heap_last w1 (.cells #[.string ⟨#[]⟩, .string ⟨#[]⟩, .string ⟨#[]⟩, .bool false, .bool false] 52) _ rfl
        have hzz : (w1.alloc (.cells #[.string ⟨#[]⟩, .string ⟨#[]⟩, .string ⟨#[]⟩, .bool false, .bool false] 52)).heap.size = w1.heap.size + 1 := by simp
        have hsz1 := hb1.size
        generalize hwz : w1.alloc (.cells #[.string ⟨#[]⟩, .string ⟨#[]⟩, .string ⟨#[]⟩, .bool false, .bool false] 52) = wz at *
        obtain ⟨g, hg⟩ : ∃ g, g = w1.heap.size := ⟨_, rfl⟩
        rw [← hg] at hxz hzz
        have hgr : wr.heap.size ≤ g := by rw [hg]; exact hsz1
        have hgB : w.heap.size ≤ g := Nat.le_trans hs hgr
        have z0 := cell_of_row wz g 0 _ _ _ hxz
        have z1 := cell_of_row wz g 1 _ _ _ hxz
        have z2 := cell_of_row wz g 2 _ _ _ hxz
        have z3 := cell_of_row wz g 3 _ _ _ hxz
        have z4 := cell_of_row wz g 4 _ _ _ hxz
        simp only [List.getElem?_toArray, List.getElem?_cons_zero, List.getElem?_cons_succ] at z0 z1 z2 z3 z4
        have f0 := frozen0 (j := 0) hxz
        have f1 := frozen0 (j := 1) hxz
        have f2 := frozen0 (j := 2) hxz
        have f3 := frozen0 (j := 3) hxz
        have f4 := frozen0 (j := 4) hxz
        have hx2 : (((((wz.setCell ⟨g, 0, none⟩ (.string (strB key))).setCell ⟨g, 1, none⟩ (.string ⟨#[]⟩)).setCell ⟨g, 2, none⟩ (.string ⟨#[]⟩)).setCell ⟨g, 3, none⟩ (.bool false)).setCell ⟨g, 4, none⟩ (.bool false)).heap[g]? = some (.cells #[.string (strB key), .string ⟨#[]⟩, .string ⟨#[]⟩, .bool false, .bool false] 52) := Mp.heap_set (Mp.heap_set (Mp.heap_set (Mp.heap_set (Mp.heap_set hxz 0 _) 1 _) 2 _) 3 _) 4 _
        have hb2 : Below wr.heap.size wr (((((wz.setCell ⟨g, 0, none⟩ (.string (strB key))).setCell ⟨g, 1, none⟩ (.string ⟨#[]⟩)).setCell ⟨g, 2, none⟩ (.string ⟨#[]⟩)).setCell ⟨g, 3, none⟩ (.bool false)).setCell ⟨g, 4, none⟩ (.bool false)) := ((((hbz.setCell (p := ⟨g, 0, none⟩) hgr _).setCell (p := ⟨g, 1, none⟩) hgr _).setCell (p := ⟨g, 2, none⟩) hgr _).setCell (p := ⟨g, 3, none⟩) hgr _).setCell (p := ⟨g, 4, none⟩) hgr _
        have hgw : w1.heap.size = g := hg.symm
        have H2 := hide (And.intro hb2 hx2)
        clear hfk hb1 hb2 hx2 hbz hxz hg hsz1 hzz
        go_wp2_with fail
        try rw [hwz]
        try rw [hgw]
        go_wp2_with fail
        clear z0 z1 z2 z3 z4 f0 f1 f2 f3 f4
        generalize ((((wz.setCell ⟨g, 0, none⟩ (.string (strB key))).setCell ⟨g, 1, none⟩ (.string ⟨#[]⟩)).setCell ⟨g, 2, none⟩ (.string ⟨#[]⟩)).setCell ⟨g, 3, none⟩ (.bool false)).setCell ⟨g, 4, none⟩ (.bool false) = w2 at *
        have htk := takeKey_any w2 w.heap.size key l _ (HR.out.2.1.keep (H2.out.1.mono hs))
        generalize hT : takeKM key l = T at *
        refine htk.mono ?_
        rintro e w3 ⟨vl, rfl, hvl, hb3⟩
        have hx3 := (hb3.block _ (lt_of_heap H2.out.2)).trans H2.out.2
        have hB3 := H2.out.1.trans (hb3.mono H2.out.1.size)
        have a0 := cell_of_row w3 g 0 _ _ _ hx3
        have a1 := cell_of_row w3 g 1 _ _ _ hx3
        have a2 := cell_of_row w3 g 2 _ _ _ hx3
        have a3 := cell_of_row w3 g 3 _ _ _ hx3
        have a4 := cell_of_row w3 g 4 _ _ _ hx3
        simp only [List.getElem?_toArray, List.getElem?_cons_zero, List.getElem?_cons_succ] at a0 a1 a2 a3 a4
        have fa1 := frozen0 (j := 1) hx3
        have fa3 := frozen0 (j := 3) hx3
        have hx3' : ((w3.setCell ⟨g, 1, none⟩ (.string (strB T.1))).setCell ⟨g, 3, none⟩ (.bool T.2.1)).heap[g]? = some (.cells #[.string (strB key), .string (strB T.1), .string ⟨#[]⟩, .bool T.2.1, .bool false] 52) := Mp.heap_set (Mp.heap_set hx3 1 _) 3 _
        have hB3' : Below wr.heap.size wr ((w3.setCell ⟨g, 1, none⟩ (.string (strB T.1))).setCell ⟨g, 3, none⟩ (.bool T.2.1)) := (hB3.setCell (p := ⟨g, 1, none⟩) hgr _).setCell (p := ⟨g, 3, none⟩) hgr _
        have hvl' : Ls w.heap.size ((w3.setCell ⟨g, 1, none⟩ (.string (strB T.1))).setCell ⟨g, 3, none⟩ (.bool T.2.1)) 2 pairC vl T.2.2 := hvl.keep (((Below.refl _ _).setCell (p := ⟨g, 1, none⟩) hgB _).setCell (p := ⟨g, 3, none⟩) hgB _)
        have H3 := hide (And.intro hx3' (And.intro hB3' hvl'))
        clear htk hvl hb3 hx3 hB3 hx3' hB3' hvl' H2
        go_wp2_with fail
        clear a0 a1 a2 a3 a4 fa1 fa3
        generalize (w3.setCell ⟨g, 1, none⟩ (.string (strB T.1))).setCell ⟨g, 3, none⟩ (.bool T.2.1) = w3' at *
        have htm := takeKey_any w3' w.heap.size key m _ (HR.out.2.2.1.keep (H3.out.2.1.mono hs))
        generalize hU : takeKM key m = U at *
        refine htm.mono ?_
        rintro e w4 ⟨vm, rfl, hvm, hb4⟩
        have hx4 := (hb4.block _ (lt_of_heap H3.out.1)).trans H3.out.1
        have hB4 := H3.out.2.1.trans (hb4.mono H3.out.2.1.size)
        have b0 := cell_of_row w4 g 0 _ _ _ hx4
        have b1 := cell_of_row w4 g 1 _ _ _ hx4
        have b2 := cell_of_row w4 g 2 _ _ _ hx4
        have b3 := cell_of_row w4 g 3 _ _ _ hx4
        have b4 := cell_of_row w4 g 4 _ _ _ hx4
        simp only [List.getElem?_toArray, List.getElem?_cons_zero, List.getElem?_cons_succ] at b0 b1 b2 b3 b4
        have fb2 := frozen0 (j := 2) hx4
        have fb4 := frozen0 (j := 4) hx4
        have hx4' : ((w4.setCell ⟨g, 2, none⟩ (.string (strB U.1))).setCell ⟨g, 4, none⟩ (.bool U.2.1)).heap[g]? = some (.cells #[.string (strB key), .string (strB T.1), .string (strB U.1), .bool T.2.1, .bool U.2.1] 52) := Mp.heap_set (Mp.heap_set hx4 2 _) 4 _
        have hB4' : Below wr.heap.size wr ((w4.setCell ⟨g, 2, none⟩ (.string (strB U.1))).setCell ⟨g, 4, none⟩ (.bool U.2.1)) := (hB4.setCell (p := ⟨g, 2, none⟩) hgr _).setCell (p := ⟨g, 4, none⟩) hgr _
        have hkp : Below w.heap.size w4 ((w4.setCell ⟨g, 2, none⟩ (.string (strB U.1))).setCell ⟨g, 4, none⟩ (.bool U.2.1)) := ((Below.refl _ _).setCell (p := ⟨g, 2, none⟩) hgB _).setCell (p := ⟨g, 4, none⟩) hgB _
        have hvl4 := (H3.out.2.2.keep (hb4.mono (by have := H3.out.2.1.size; omega))).keep hkp
        have hvm4 := hvm.keep hkp
        have H4 := hide (And.intro hx4' (And.intro hB4' (And.intro hvl4 hvm4)))
        obtain ⟨vla, vlc, rfl, -⟩ := id hvl4
        obtain ⟨vma, vmc, rfl, -⟩ := id hvm4
        clear htm hvm hb4 hx4 hB4 hx4' hB4' hkp hvl4 hvm4 H3
        obtain ⟨tw, th, tl⟩ := T
        obtain ⟨uw, uh, ul⟩ := U
        simp only at *
        go_upto_region 7 with fail
        clear b0 b1 b2 b3 b4 fb2 fb4
        generalize (w4.setCell ⟨g, 2, none⟩ (.string (strB uw))).setCell ⟨g, 4, none⟩ (.bool uh) = W4 at *
        have htw := toL tw
        have huw := toL uw
        have hrow4 := own_below HR.out.2.2.2.1 H4.out.2.1
        have hB4 : w.heap.size ≤ W4.heap.size := Nat.le_trans hs H4.out.2.1.size
        obtain ⟨v', w5, hrun, hrow5, hgr5, -⟩ := app_change W4 w.heap.size _ out (key, (tw, (uw, (th, uh)))) hrow4 hB4 (by omega)
        have hrowA := World.ownsRow.alloc hrow4 (.cells (ch5C (key, (tw, (uw, (th, uh))))).toArray 52)
        have hb5 : Below w.heap.size W4 w5 := ((Below.refl _ _).alloc hB4 _).trans ((Below.refl _ _).grown hgr5 (Nat.le_trans hB4 (Nat.le_of_lt (by simp))) (fun q hq => (World.ownsRow.lt hrowA q hq).1))
        have hB5 := (HR.out.2.2.2.2.1.trans (H4.out.2.1.mono hs)).trans hb5
        have H5 := hide (And.intro hrow5 (And.intro hB5 (And.intro (H4.out.2.2.1.keep hb5) (H4.out.2.2.2.keep hb5))))
        have HRUN : Hid ((Builtin.append_ #[24, 24] 24 #[.slice oa om oc, .slice (some ⟨W4.heap.size, 0, none⟩) 1 1]).run Try.prog (W4.alloc (.cells #[.string (strB key), .string (strB tw), .string (strB uw), .bool th, .bool uh] 52)) = .ok v' w5) := hrun
        obtain ⟨va5, vm5, vc5, rfl⟩ := row_form hrow5
        have hx4 := H4.out.1
        have y0 := cell_of_row _ g 0 _ _ _ hx4
        have y1 := cell_of_row _ g 1 _ _ _ hx4
        have y2 := cell_of_row _ g 2 _ _ _ hx4
        have y3 := cell_of_row _ g 3 _ _ _ hx4
        have y4 := cell_of_row _ g 4 _ _ _ hx4
        simp only [List.getElem?_toArray, List.getElem?_cons_zero, List.getElem?_cons_succ] at y0 y1 y2 y3 y4
        have HA := hide (And.intro HR.out.2.2.2.2.2.1 (And.intro hln (And.intro hon hs)))
        clear hrun hrow5 hgr5 hrowA hb5 hB5 hrow4 hB4 hx4 hln hon hs hgr hgB l1 l2 m1 m2
        have hcs : (th = true ∧ uh = false) ∨ (th = false ∧ uh = true) ∨ (th = true ∧ uh = true) ∨ (th = false ∧ uh = false) := by cases th <;> cases uh <;> simp
        rcases hcs with ⟨rfl, rfl⟩ | ⟨rfl, rfl⟩ | ⟨rfl, rfl⟩ | ⟨rfl, rfl⟩
        · have HDF := hide (show difC (key, (tw, (uw, (true, false)))) = true from rfl)
          go_wp2_with (at_builtin; refine wpList_plain rfl (fun K hK => wp_append_run (.tmp 51) (.tmp 53) 24 rfl rfl rfl HRUN.out (hK _ _ ?_)))
          go_wp2
          go_roundw
          case rel =>
            have h1 := HA.out.1
            have h2 := HA.out.2.1
            have h3 := HA.out.2.2.1
            refine ⟨tl, ul, n', out ++ [_], by omega, by simp; omega, ?_, H5.out.2.2.1, H5.out.2.2.2, H5.out.1, H5.out.2.1⟩
            rw [HR.out.1, HDF.out]
            simp
          case measure => have h1 := HA.out.1; simp; omega
        · have HDF := hide (show difC (key, (tw, (uw, (false, true)))) = true from rfl)
          go_wp2_with (at_builtin; refine wpList_plain rfl (fun K hK => wp_append_run (.tmp 51) (.tmp 53) 24 rfl rfl rfl HRUN.out (hK _ _ ?_)))
          go_wp2
          go_roundw
          case rel =>
            have h1 := HA.out.1
            have h2 := HA.out.2.1
            have h3 := HA.out.2.2.1
            refine ⟨tl, ul, n', out ++ [_], by omega, by simp; omega, ?_, H5.out.2.2.1, H5.out.2.2.2, H5.out.1, H5.out.2.1⟩
            rw [HR.out.1, HDF.out]
            simp
          case measure => have h1 := HA.out.1; simp; omega
        · cases hq : (tw == uw) with
          | false =>
            have HDF := hide (show difC (key, (tw, (uw, (true, true)))) = true by unfold difC; simpa using hq)
            go_wp2_with (at_builtin; refine wpList_plain rfl (fun K hK => wp_append_run (.tmp 51) (.tmp 53) 24 rfl rfl rfl HRUN.out (hK _ _ ?_)))
            go_wp2
            go_roundw
            case rel =>
              have h1 := HA.out.1
              have h2 := HA.out.2.1
              have h3 := HA.out.2.2.1
              refine ⟨tl, ul, n', out ++ [_], by omega, by simp; omega, ?_, H5.out.2.2.1, H5.out.2.2.2, H5.out.1, H5.out.2.1⟩
              rw [HR.out.1, HDF.out]
              simp
            case measure => have h1 := HA.out.1; simp; omega
          | true =>
            have HDF := hide (show difC (key, (tw, (uw, (true, true)))) = false by unfold difC; simpa using hq)
            go_wp2
            go_roundw
            case rel =>
              have h1 := HA.out.1
              have h2 := HA.out.2.1
              have h3 := HA.out.2.2.1
              refine ⟨tl, ul, n', out, by omega, by omega, ?_, H4.out.2.2.1, H4.out.2.2.2, own_below HR.out.2.2.2.1 H4.out.2.1, HR.out.2.2.2.2.1.trans (H4.out.2.1.mono HA.out.2.2.2)⟩
              rw [HR.out.1, HDF.out]
              simp
            case measure => have h1 := HA.out.1; simp; omega
        · cases hq : (tw == uw) with
          | false =>
            have HDF := hide (show difC (key, (tw, (uw, (false, false)))) = true by unfold difC; simpa using hq)
            go_wp2_with (at_builtin; refine wpList_plain rfl (fun K hK => wp_append_run (.tmp 51) (.tmp 53) 24 rfl rfl rfl HRUN.out (hK _ _ ?_)))
            go_wp2
            go_roundw
            case rel =>
              have h1 := HA.out.1
              have h2 := HA.out.2.1
              have h3 := HA.out.2.2.1
              refine ⟨tl, ul, n', out ++ [_], by omega, by simp; omega, ?_, H5.out.2.2.1, H5.out.2.2.2, H5.out.1, H5.out.2.1⟩
              rw [HR.out.1, HDF.out]
              simp
            case measure => have h1 := HA.out.1; simp; omega
          | true =>
            have HDF := hide (show difC (key, (tw, (uw, (false, false)))) = false by unfold difC; simpa using hq)
            go_wp2
            go_roundw
            case rel =>
              have h1 := HA.out.1
              have h2 := HA.out.2.1
              have h3 := HA.out.2.2.1
              refine ⟨tl, ul, n', out, by omega, by omega, ?_, H4.out.2.2.1, H4.out.2.2.2, own_below HR.out.2.2.2.1 H4.out.2.1, HR.out.2.2.2.2.1.trans (H4.out.2.1.mono HA.out.2.2.2)⟩
              rw [HR.out.1, HDF.out]
              simp
            case measure => have h1 := HA.out.1; simp; omega
end Go.Proofs.Ytldfjpgcemfpjaa

/-
  What two maps do not have in common. Conditions: the get keeps its word; there is room.
-/
namespace Go.Proofs.Ytldfjpgcemfpjaa
open Go.RowKit

/-- What is answered: an error's number, the changes, what was asked. -/
def mapsM (fd : Bs → Option Bs) (a b : Bs) : Int × (List ChangeM × List Bs) :=
  if a = b then (0, ([], []))
  else if (goDownM fd a b).1 ≠ 0 then ((goDownM fd a b).1, ([], (goDownM fd a b).2.asked))
  else (0, (chgs ((goDownM fd a b).2.prs 0) ((goDownM fd a b).2.prs 1), (goDownM fd a b).2.asked))
/-- A comparing's cells, at its beginning. -/
def c46 (f m : Value) : Array Value := (f :: m :: List.replicate 44 (.slice none 0 0)).toArray
theorem c46_size (f m : Value) : (c46 f m).size = 46 := by simp [c46]
theorem c46_row (f m : Value) (k : Nat) (h : k < 44) : (c46 f m)[k + 2]? = some (.slice none 0 0) := by
  unfold c46
  rw [List.getElem?_toArray, List.getElem?_cons_succ, List.getElem?_cons_succ, List.getElem?_replicate, if_pos h]
theorem c46_one (g : Nat) (caps : Array Value) (m : Option Nat) : (c46 (.func (.func g) #[] caps) (.map m)).all (·.oneCell') = true := by
  simp [c46, Value.oneCell']
theorem wpList_build46 {ops : Array Oper} {rest : List Oper} {o : Oper} {a : Act} {Q : Exit → Act → World → Prop} {w : World} {v : Value} (hg : o.guard = none) (_ : o.op = .build 60 #[(0, .tmp 15), (1, .tmp 16)])
    (hr : (execOp a.eval o).run Try.prog w = .ok (.value v) w) (h : wpList Try.prog ops Q rest (a.put o.dst v) w) : wpList Try.prog ops Q (o :: rest) a w :=
  wpList_plain hg fun K hK => by
    unfold Oper.wp
    rw [hr]
    exact hK _ _ h
theorem Try.info46 : (Try.prog.info? 60).map (·.size) = some 46 := by kernel_rfl
section
variable {B : Nat} {w : World} {g : Nat} {caps : Array Value} {fd : Bs → Option Bs} {I : World → List Bs → Prop}
theorem eql_nilFD (W : World) (gf : Nat) (caps : Array Value) : (binOp .eql 28 (.func (.func gf) #[] caps) .nilFunc).run Try.prog W = .ok (.bool false) W := by
  have h : (Op.equal 28 (.func (.func gf) #[] caps) .nilFunc).run Try.prog W = .ok false W := by
    show (Op.equalIn (9999 + 1) 28 _ _).run Try.prog W = _
    unfold Op.equalIn
    simp [run_underlying Try.underlying28, Result.andThen]
  simp only [binOp, Sem.run_bind, h, Result.andThen, Sem.run_pure]
set_option maxRecDepth 40000 in
set_option maxHeartbeats 3200000 in
theorem maps_any (hG : GetD g caps fd B I) (hB : B ≤ w.heap.size) (a b : Bs) (hI : I w []) (hbd : ∀ σ, rootsM fd a b = (0, σ) → RoomAll fd σ) (hpr : ∀ σ, goDownM fd a b = (0, σ) → (σ.prs 0).length + (σ.prs 1).length ≤ 1000000) :
    Calls Try.prog 8 #[.func (.func g) #[] caps, .string (strB a), .string (strB b)] w fun e w' => (∃ v, e = .returned (.tuple #[v, .int .i64 (mapsM fd a b).1]) ∧ Rw B w' 52 5 ch5C v ((mapsM fd a b).2.1.map ch5)) ∧ ((mapsM fd a b).1 = 0 → I w' (mapsM fd a b).2.2) ∧ Below B w w' := by
  have hnf := fun W => eql_nilFD W g caps
  have hta := toL a
  have htb := toL b
  unfold mapsM
  by_cases hab : a = b
  · rw [if_pos hab]
    have hbb : (a == b) = true := by simpa using hab
    have HI := hide hI
    clear hG hI hbd hpr hab
    go_enter Try.func8, Try.ntmps8
    go_wp2
    go_ret2
    exact ⟨⟨_, rfl, World.ownsRow_nil _ _ _ _⟩, fun _ => HI.out, Below.refl _ _⟩
  · rw [if_neg hab]
    obtain ⟨M, hM⟩ : ∃ M : Int × (List ChangeM × List Bs), M = if (goDownM fd a b).1 ≠ 0 then ((goDownM fd a b).1, ([], (goDownM fd a b).2.asked)) else (0, (chgs ((goDownM fd a b).2.prs 0) ((goDownM fd a b).2.prs 1), (goDownM fd a b).2.asked)) := ⟨_, rfl⟩
    rw [← hM]
    have HM := hide hM
    clear hM
    have hbb : (a == b) = false := by simpa using hab
    have HH := hide (And.intro hG (And.intro hI (And.intro hbd hpr)))
    clear hG hI hbd hpr hab
    go_enter Try.func8, Try.ntmps8
    go_upto_region 5 with fail
    have HO := hide (c46_one g caps (some w.heap.size))
    have HZ : Hid ((c46 .nilFunc (.map none)).size = (c46 (.func (.func g) #[] caps) (.map (some w.heap.size))).size) := rfl
    have HI6 := hide Try.info46
    have hmk : (Instr.makeMap 53 none).run Try.prog w = .ok (.map (some w.heap.size)) (w.alloc (.map #[] 0)) := by kernel_rfl
    go_upto_region 6 with (first | (refine wpList_build46 (v := .agg (c46 (.func (.func g) #[] caps) (.map (some w.heap.size)))) rfl rfl (by kernel_rfl) ?_) | (refine wpList_store_arr _ rfl 60 (.tmp 8) (.tmp 17) rfl (w.heap.size + 1) (c46 (.func (.func g) #[] caps) (.map (some w.heap.size))) rfl rfl 60 (c46 .nilFunc (.map none)) (heap_last _ _ _ (by simp)) HI6.out HZ.out HO.out ?_; intro w2 hrow2 hg2))
    have hb2 : Below w.heap.size w w2 := (((Below.refl _ _).alloc (Nat.le_refl _) _).alloc (by simp) _).trans ((Below.refl _ _).grown hg2 (by simp; omega) (fun q hq => by injection hq with hq; omega))
    have hmap2 : w2.heap[w.heap.size]? = some (.map #[] 0) := by
      rw [hg2.block w.heap.size (by simp; omega) (by intro hq; injection hq with hq; omega)]
      exact (heap_past _ _ _ (by simp)).trans (heap_last w _ _ rfl)
    have hC : CmW B w2 (w.heap.size + 1) w.heap.size (.func (.func g) #[] caps) ⟨fun _ => 0, fun _ => 0, fun _ => .slice none 0 0⟩ cm0 :=
      ⟨by omega, ⟨_, hrow2, c46_size _ _, rfl, rfl, fun k hk => c46_row _ _ k hk⟩, fun _ _ _ _ => World.ownsRow_nil _ _ _ _, fun _ _ => World.ownsRow_nil _ _ _ _, fun _ _ q hq => (by cases hq), (fun _ h => nomatch h), ⟨#[], 0, hmap2, MapKept.stamped_empty 0, by simp [metK, cm0]⟩, hB⟩
    have hI2 := HH.out.1.below HH.out.2.1 hb2
    have hdn := down_any HH.out.1 hC a b hI2 HH.out.2.2.1
    obtain ⟨R, hR⟩ : ∃ R, R = goDownM fd a b := ⟨_, rfl⟩
    rw [← hR] at hdn
    have HR := hide (And.intro hR hb2)
    clear hrow2 hg2 hb2 hmap2 hC hI2 hR hmk HO HZ HI6
    have hrr : goDownM fd a b = R := HR.out.1.symm
    by_cases hr : R.1 = 0
    rotate_left
    · have hrb : (R.1 != 0) = true := by simpa using hr
      have HX := hide hr
      clear hr hrr
      go_wp2_with fail
      refine hdn.mono ?_
      rintro e w3 ⟨rfl, -, hb3⟩
      have H3 := hide hb3
      clear hb3 hdn
      go_wp2
      go_ret2
      rw [show M = (R.1, ([], R.2.asked)) by rw [HM.out, ← HR.out.1, if_pos HX.out]]
      exact ⟨⟨_, rfl, World.ownsRow_nil _ _ _ _⟩, fun hx => absurd hx HX.out, (HR.out.2.mono hB).trans H3.out⟩
    · have hrb : (R.1 != 0) = false := by simpa using hr
      have HX := hide hr
      clear hr hrr
      go_wp2_with fail
      refine hdn.mono ?_
      rintro e w3 ⟨rfl, hq, hb3⟩
      obtain ⟨hI3, S3, hC3⟩ := hq HX.out
      have r0 := (hC3.rowAt (k := 21) (by omega)).1
      have r1 := (hC3.rowAt (k := 43) (by omega)).1
      have p0 := hC3.prs 0 (by omega)
      have p1 := hC3.prs 1 (by omega)
      have hB3 := hC3.le
      have hch := changesOf_any w3 (R.2.prs 0) (R.2.prs 1) (S3.rv 21) (S3.rv 43) (ls_of_own pairC_length p0) (ls_of_own pairC_length p1) (HH.out.2.2.2 R.2 (by rw [← HR.out.1, ← HX.out]))
      obtain ⟨x0, y0, z0, hx0⟩ := row_form p0
      obtain ⟨x1, y1, z1, hx1⟩ := row_form p1
      simp only [Nat.mul_zero, Nat.zero_add, Nat.mul_one, Nat.reduceAdd] at hx0 hx1 r0 r1
      rw [hx0, hx1] at hch
      rw [hx0] at r0
      rw [hx1] at r1
      have H3 := hide (And.intro hI3 (And.intro hb3 hB3))
      clear hq hI3 hC3 hb3 hdn p0 p1 hB3 hx0 hx1
      go_wp2_with fail
      refine hch.mono ?_
      rintro e w4 ⟨v, rfl, hv, hb4⟩
      have H4 := hide (And.intro hv hb4)
      obtain ⟨va, vm, vc, rfl⟩ := row_form hv
      clear hch hv hb4
      go_wp2
      go_ret2
      rw [show M = (0, (chgs (R.2.prs 0) (R.2.prs 1), R.2.asked)) by rw [HM.out, ← HR.out.1, if_neg (by simpa using HX.out)]]
      exact ⟨⟨_, rfl, own_down H4.out.1 H3.out.2.2⟩, fun _ => HH.out.1.below H3.out.1 H4.out.2, ((HR.out.2.mono hB).trans H3.out.2.1).trans (H4.out.2.mono H3.out.2.2)⟩
end
end Go.Proofs.Ytldfjpgcemfpjaa

/-
  Where a group ends, which pairs are right, by the reference. Conditions: a key's length; the pairs lie there.
-/
namespace Go.Proofs.Ytldfjpgcemfpjaa
open Go.RowKit

theorem ends12_form (n : Nat) (last : Bs) (level : Nat) (hlv : level ≤ 31) : ∃ c : UInt8, (sha last)[31 - level]? = some c ∧ ends12 n last level = (((c.toNat : Int) % 16 == 0 && (decide (level = 0) || decide (2 ≤ n))) || decide (n = 64)) := by
  have hl := sha_length last
  have : (sha last)[31 - level]? = some ((sha last)[31 - level]'(by omega)) := List.getElem?_eq_getElem (by omega)
  refine ⟨_, this, ?_⟩
  unfold ends12
  rw [this]
  rfl
set_option maxRecDepth 20000 in
set_option maxHeartbeats 800000 in
theorem rends12_any (w : World) (n : Nat) (last : Bs) (level : Nat) (hl : last.length ≤ 1048576) (hn : n ≤ 4294967296) (hlv : level ≤ 31) :
    Calls Try.prog 43 #[.int .i64 (n : Int), .string (strB last), .int .i64 (level : Int)] w fun e w' => e = .returned (.bool (ends12 n last level)) ∧ Below w.heap.size w w' := by
  obtain ⟨c, hc, hen⟩ := ends12_form n last level hlv
  rw [hen]
  clear hen
  have hls := strB_size last
  have hsl := sha_length last
  have hsum := fun W v h => refSum_any W v last h hl
  have hc256 : (c.toNat : Int) < 256 := by have := c.toNat_lt; omega
  generalize hE : ((c.toNat : Int) % 16 == 0) = en at *
  have hL : ((level : Int) == 0) = decide (level = 0) := by rw [Bool.eq_iff_iff]; simp
  have hN : decide ((2 : Int) ≤ (n : Int)) = decide (2 ≤ n) := by rw [Bool.eq_iff_iff]; simp only [decide_eq_true_eq]; omega
  have hN2 : ((n : Int) == 64) = decide (n = 64) := by rw [Bool.eq_iff_iff]; simp; omega
  generalize decide (level = 0) = e0 at *
  generalize decide (2 ≤ n) = e2 at *
  generalize decide (n = 64) = e64 at *
  generalize sha last = S at *
  have HSU := hide (And.intro hsum (And.intro hc hsl))
  clear hsum hc hsl
  go_enter Try.func43, Try.ntmps43
  go_wp2_with (refine wpList_tobytes _ rfl (.tmp 8) rfl (strB last) (by rw [strB_size]; unfold maxLen; omega) rfl ?_; intro v2 w2 hsl2 hb2 _; rw [strB_list] at hsl2; have HS := hide hsl2; have HB := hide hb2; obtain ⟨ao, cap, rfl, -⟩ := hsl2; clear hb2)
  go_wp2_with fail
  refine (HSU.out.1 _ _ HS.out).mono ?_
  rintro e w3 ⟨g, k, rfl, sl3, hb3⟩
  have B3 := HB.out.trans (hb3.mono HB.out.size)
  obtain ⟨ao3, cap3, he3, h31, h32, -, h34⟩ := sl3
  obtain ⟨b, off, hb, hbl, hcc⟩ := h34 (by intro e; have := HSU.out.2.2; rw [e] at this; simp at this)
  injection he3 with he3 he4 he5
  subst he5
  rw [← he3] at hb
  injection hb with hb
  injection hb with hb1 hb2
  subst hb1 hb2
  have hlt : 31 - level < S.length := by have := HSU.out.2.2; omega
  have c0 := hcc (31 - level) hlt
  have hcS : S[31 - level] = c := by have := HSU.out.2.1; rw [List.getElem?_eq_getElem hlt] at this; exact Option.some.inj this
  rw [hcS, Nat.zero_add] at c0
  have hsub : (31 : Int) - (level : Int) = ((31 - level : Nat) : Int) := by omega
  have HB3 := hide B3
  clear hcc hcS hlt B3 hb3 HS HB h34 he3 he4 h31 h32
  generalize 31 - level = i at *
  have hi : i ≤ 31 := by omega
  cases en <;> cases e0 <;> cases e2 <;> cases e64
  all_goals
    go_wp2
    go_ret
    exact ⟨rfl, HB3.out⟩
end Go.Proofs.Ytldfjpgcemfpjaa
