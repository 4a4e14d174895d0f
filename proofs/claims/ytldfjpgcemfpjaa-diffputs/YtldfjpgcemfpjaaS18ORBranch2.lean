/-
  A branch made, a leaf and a branch read by the reference. Conditions: lengths within reach.
-/
import Derived.Test.YtldfjpgcemfpjaaS16ORBranch
namespace Go.Proofs.Ytldfjpgcemfpjaa
open Go.RowKit

set_option maxRecDepth 20000 in
set_option maxHeartbeats 1600000 in
theorem rbranch_any (w : World) (f : Branch) (v : Value) (hv : Ls w.heap.size w 3 linkC v f.2) (hlv : In64 f.1) :
    Calls Try.prog 44 #[.agg #[.int .i64 f.1, v]] w fun e w' => e = .returned (made (branchOk ltB f) (66 :: branchB f)) ∧ Below w.heap.size w w' := by
  have hb0 : Below w.heap.size w ((w.alloc (.cells #[.int .i64 f.1, v] 99)).alloc (.cells #[.string ⟨#[]⟩, .string ⟨#[]⟩] 73)) := ((Below.refl _ _).alloc (Nat.le_refl _) _).alloc (by simp) _
  have z0 := (heap_past (w.alloc (.cells #[.int .i64 f.1, v] 99)) (.cells #[.string ⟨#[]⟩, .string ⟨#[]⟩] 73) w.heap.size (by simp)).trans (heap_last w (.cells #[.int .i64 f.1, v] 99) _ rfl)
  have x0 := heap_last (w.alloc (.cells #[.int .i64 f.1, v] 99)) (.cells #[.string ⟨#[]⟩, .string ⟨#[]⟩] 73) (w.heap.size + 1) (by simp)
  have hn0 : ((w.alloc (.cells #[.int .i64 f.1, v] 99)).alloc (.cells #[.string ⟨#[]⟩, .string ⟨#[]⟩] 73)).heap.size = w.heap.size + 2 := by simp
  have hv0 := hv.keep hb0
  generalize hw0 : (w.alloc (.cells #[.int .i64 f.1, v] 99)).alloc (.cells #[.string ⟨#[]⟩, .string ⟨#[]⟩] 73) = w0 at *
  have HW := hide hw0
  have hR := rbranchRight_any w0 f v (hv0.up (by omega))
  have HV := hide hv0
  obtain ⟨ao, cap, rfl, g1, g2, -⟩ := hv0
  unfold maxLen at g2
  have c0 := rc (i := 0) z0 rfl
  have c1 := rc (i := 1) z0 rfl
  clear hv hw0
  obtain ⟨q, hq⟩ : ∃ q, branchOk ltB f = q := ⟨_, rfl⟩
  rw [hq] at hR ⊢
  obtain ⟨ra, rb, rk, hm⟩ := made_form q (66 :: branchB f)
  rw [hm]
  have HM := hide hm
  clear hm
  go_enter Try.func44, Try.ntmps44
  go_wp2_with fail
  try rw [HW.out]
  refine hR.mono ?_
  rintro e w1 ⟨rfl, hb1⟩
  have z1 := (hb1.block _ (lt_of_heap z0)).trans z0
  have x1 := (hb1.block _ (lt_of_heap x0)).trans x0
  have B1 : Below w0.heap.size w0 w1 := hb1
  have o1 := ow_one w1 66
  rw [show ((66 : UInt8).toNat : Int) = 66 from rfl] at o1
  have hb2 : Below w1.heap.size w1 (w1.alloc (.cells #[.int .u8 66] 5)) := (Below.refl _ _).alloc (Nat.le_refl _) _
  have z2 := (hb2.block _ (lt_of_heap z1)).trans z1
  have x2 := (hb2.block _ (lt_of_heap x1)).trans x1
  have d0 := rc (i := 0) z2 rfl
  have n1 := num_length f.1
  have n2 := num_length f.2.length
  have B2 := B1.trans (hb2.mono B1.size)
  have s1 := lt_of_heap z1
  have y1 := lt_of_heap x1
  have s2 := hb2.size
  clear hR c0 c1 hb1 hb2 z1 x1
  go_wp2_with fail
  generalize hw2 : w1.alloc (.cells #[.int .u8 66] 5) = w2 at *
  clear hw2
  refine (rnum_any w2 f.1 hlv).mono ?_
  rintro e w3 ⟨u3, rfl, own3, hb3⟩
  have s3 := hb3.size
  obtain ⟨v4, w4, run4, o4, hb4⟩ := (o1.keep hb3).app own3 n1.1 (by simp only [List.length_cons, List.length_nil]; omega) (by omega)
  have R4 := hide run4
  have z4 := (hb4.block _ s1).trans ((hb3.block _ (lt_of_heap z2)).trans z2)
  have x4 := (hb4.block _ y1).trans ((hb3.block _ (lt_of_heap x2)).trans x2)
  have B4 := (B2.trans (hb3.mono B2.size)).trans (hb4.mono B1.size)
  have s4 := hb4.size
  have d1 := rc (i := 1) z4 rfl
  clear run4 own3 o1 hb3 hb4 z2 x2 B2 d0
  go_wp2_with (at_builtin; refine wpList_plain rfl (fun K hK => wp_append_run (.tmp 9) (.tmp 12) 93 rfl rfl rfl R4.out (hK _ _ ?_)))
  go_wp2_with fail
  refine (rnum_any w4 (f.2.length : Int) ⟨by omega, by omega⟩).mono ?_
  rintro e w5 ⟨u5, rfl, own5, hb5⟩
  have s5 := hb5.size
  obtain ⟨v6, w6, run6, o6, hb6⟩ := (o4.keep hb5).app own5 n2.1 (by simp only [List.length_append, List.length_cons, List.length_nil]; omega) (by omega)
  have R6 := hide run6
  have z6 := (hb6.block _ s1).trans ((hb5.block _ (lt_of_heap z4)).trans z4)
  have x6 := (hb6.block _ y1).trans ((hb5.block _ (lt_of_heap x4)).trans x4)
  have B6 := (B4.trans (hb5.mono B4.size)).trans (hb6.mono B1.size)
  have s6 := hb6.size
  clear run6 own5 o4 hb5 hb6 z4 x4 B4 d1 R4
  go_wp2_with (at_builtin; refine wpList_plain rfl (fun K hK => wp_append_run (.tmp 14) (.tmp 18) 93 rfl rfl rfl R6.out (hK _ _ ?_)))
  go_wp2_with fail
  clear R6
  cases q with
  | false =>
    go_loopw [5, 6] (fun s t wr => s = v6 ∧ t = .int .i64 0 ∧ wr = w6) (fun _ _ _ => 0)
    case atStart => exact ⟨rfl, rfl, rfl⟩
    case round =>
      obtain ⟨rfl, rfl, rfl⟩ := hrel
      have d1 := rc (i := 1) z6 rfl
      have hp := rput_any _ _ _ false o6.sl (by simp)
      rw [made_no', ← made_no' (66 :: branchB f), HM.out] at hp
      have hcase : f.2.length = 0 ∨ 0 < f.2.length := by omega
      rcases hcase with hl | hl
      all_goals
        go_wp2_with fail
        refine hp.mono ?_
        rintro e w7 ⟨rfl, hb7⟩
        have x7 := (hb7.block _ (lt_of_heap x6)).trans x6
        have B7 := hb0.trans ((B6.mono hb0.size).trans (hb7.mono (Nat.le_trans hb0.size B6.size)))
        have e0 := rc (i := 0) x7 rfl
        have e1 := rc (i := 1) x7 rfl
        have f0 := frozen0 (j := 0) x7
        have f1 := frozen0 (j := 1) x7
        clear hb7
        go_wp2
        refine bodyPost_ret (results_cell_tmp_row rfl _ _ _ _ _ _ _ rfl (heap_set2 x7) Try.underlying73 rfl Try.infoObj) rfl ⟨rfl, ?_⟩
        exact (B7.setCell (p := ⟨w.heap.size + 1, 0, none⟩) (by simp) _).setCell (p := ⟨w.heap.size + 1, 1, none⟩) (by simp) _
  | true =>
    obtain ⟨hlen, hparts⟩ := branchOk_links hq
    have hm : (66 :: branchB f) = [66] ++ num f.1 ++ num f.2.length ++ f.2.flatMap linkB := by simp [branchB, listB]
    have hM := HM.out
    rw [hm] at hM
    have o6' : Ow w1.heap.size w6 v6 ([66] ++ num f.1 ++ num f.2.length ++ (f.2.take 0).flatMap linkB) := by simpa using o6
    generalize hL : [66] ++ num f.1 ++ num f.2.length = L at *
    have hLl : L.length ≤ 21 := by rw [← hL]; simp only [List.length_append, List.length_cons, List.length_nil]; omega
    have HM2 := hide hM
    clear hL hm o6 hM HM
    go_loopw [5, 6] (fun s t wr => ∃ (k : Nat) (a : Option Addr) (n c : Nat), k ≤ f.2.length ∧ s = .slice a n c ∧ t = .int .i64 k ∧ Ow w1.heap.size wr (.slice a n c) (L ++ (f.2.take k).flatMap linkB) ∧ Below w1.heap.size w6 wr) (fun _ t _ => f.2.length - (intOf t).toNat)
    case atStart =>
      obtain ⟨a6, n6, c6, rfl⟩ := o6'.form
      exact ⟨0, a6, n6, c6, by omega, rfl, rfl, o6', Below.refl _ _⟩
    case round =>
      obtain ⟨k, an, nn, cn, hk, rfl, rfl, ok, hbk⟩ := hrel
      have zr := (hbk.block _ s1).trans z6
      have xr := (hbk.block _ y1).trans x6
      have sr := hbk.size
      have d1 := rc (i := 1) zr rfl
      have hfl : ((f.2.take k).flatMap linkB).length ≤ 116 * 64 := by
        have h1 := flatLink_le (f.2.take k) (fun p hp => hparts p (List.mem_of_mem_take hp))
        have h2 : (f.2.take k).length ≤ k := by rw [List.length_take]; omega
        omega
      have HK := hide hbk
      clear hbk
      by_cases hlt : k < f.2.length
      · have hpk := hparts f.2[k] (List.getElem_mem hlt)
        unfold rlinkOk isKeyB isIdB at hpk
        simp only [Bool.and_eq_true, decide_eq_true_eq] at hpk
        obtain ⟨ao', cap', he, -, -, h4⟩ := HV.out
        obtain ⟨b, off, rfl, hbB, hc⟩ := h4 (by intro e; rw [e] at hlt; simp at hlt)
        injection he with he _ he2
        subst he he2
        have hst : (f.2.take (k + 1)).flatMap linkB = (f.2.take k).flatMap linkB ++ (txt f.2[k].1 ++ (f.2[k].2.1 ++ num f.2[k].2.2)) := by
          rw [List.take_succ_eq_append_getElem hlt, List.flatMap_append]
          simp [linkB, partB]
        have hcell : ∀ i u, (linkC f.2[k])[i]? = some u → ∀ W, Below w1.heap.size w6 W → W.cell? ⟨b, off + k * 3 + i, none⟩ = some u := fun i u hu W hW => by
          have sw := hb0.size
          have sw1 := B1.size
          exact (hW.cell (p := ⟨b, off + k * 3 + i, none⟩) (by show b < _; omega)).trans ((B6.cell (p := ⟨b, off + k * 3 + i, none⟩) (by show b < _; omega)).trans (hc k hlt i u hu))
        have HST := hide hst
        generalize f.2[k] = x at *
        have HC1 := hide (hcell 1 _ rfl)
        have HC2 := hide (hcell 2 _ rfl)
        have k0 := hcell 0 _ rfl _ HK.out
        simp only [Nat.add_zero] at k0
        have nt := txt_pos x.1
        have nx := num_length x.2.2
        clear hcell hst hc
        go_wp2_with fail
        refine (rtext_any wr x.1 (by omega)).mono ?_
        rintro e wt ⟨ut, rfl, ownt, hbt⟩
        have st := hbt.size
        obtain ⟨vs1, ws1, runs, os1, hbs⟩ := (ok.keep hbt).app ownt nt.1 (by rw [List.length_append]; omega) (by omega)
        obtain ⟨as1, ns1, cs1, rfl⟩ := os1.form
        obtain ⟨at1, nt1, ct1, rfl⟩ := Ow.form ownt
        have RS := hide runs
        have KS := (HK.out.trans (hbt.mono (by omega))).trans hbs
        have ss := hbs.size
        have k1 := HC1.out _ KS
        have zs := (hbs.block _ s1).trans ((hbt.block _ (lt_of_heap zr)).trans zr)
        have ds := rc (i := 1) zs rfl
        obtain ⟨v7, w7, run7, o7, hb7⟩ := os1.str (m := x.2.1) (by simp only [List.length_append]; omega) (by omega)
        obtain ⟨a7, n7, c7, rfl⟩ := o7.form
        have R7 := hide run7
        have K7 := KS.trans hb7
        have s7 := hb7.size
        have k2 := HC2.out _ K7
        have z7 := (hb7.block _ s1).trans zs
        have d7 := rc (i := 1) z7 rfl
        clear runs ownt ok hbt hbs k0 d1 zr xr run7 os1 hb7
        go_wp2_with (at_builtin; first | refine wpList_plain rfl (fun K hK => wp_append_run (.tmp 30) (.tmp 37) 93 rfl rfl rfl RS.out (hK _ _ ?_)) | refine wpList_plain rfl (fun K hK => wp_append_run2 (.tmp 39) (.tmp 45) 93 9 rfl rfl rfl R7.out (hK _ _ ?_)))
        clear k1 ds zs R7 KS RS
        try go_wp2_with fail
        refine (rnum_any w7 x.2.2 ⟨by omega, by omega⟩).mono ?_
        rintro e w8 ⟨u8, rfl, own8, hb8⟩
        have s8 := hb8.size
        obtain ⟨v9, w9, run9, o9, hb9⟩ := (o7.keep hb8).app own8 nx.1 (by simp only [List.length_append]; omega) (by omega)
        obtain ⟨a9, n9, c9, rfl⟩ := o9.form
        obtain ⟨a8, n8, c8, rfl⟩ := Ow.form own8
        have R9 := hide run9
        have K9 := (K7.trans (hb8.mono (by omega))).trans hb9
        have O9 : Hid (Ow w1.heap.size w9 (.slice a9 n9 c9) (L ++ (f.2.take (k + 1)).flatMap linkB)) := hide (by rw [HST.out]; simpa using o9)
        clear run9 own8 o7 o9 hb8 hb9 K7 z7 d7 k2
        go_wp2_with (at_builtin; refine wpList_plain rfl (fun K hK => wp_append_run (.tmp 47) (.tmp 54) 93 rfl rfl rfl R9.out (hK _ _ ?_)))
        go_wp2
        go_roundw
        case rel => exact ⟨k + 1, a9, n9, c9, by omega, rfl, by go_num, O9.out, K9⟩
        case measure => simp [intOf]; omega
      · obtain rfl : k = f.2.length := by omega
        rw [List.take_length] at ok hfl
        have hp := rput_any _ _ _ true ok.sl (by intro _; rw [List.length_append]; omega)
        rw [HM2.out] at hp
        clear hfl ok
        go_wp2_with fail
        refine hp.mono ?_
        rintro e w7 ⟨rfl, hb7⟩
        have x7 := (hb7.block _ (lt_of_heap xr)).trans xr
        have B6' := B6.trans (HK.out.mono B1.size)
        have B7 := hb0.trans ((B6'.mono hb0.size).trans (hb7.mono (Nat.le_trans hb0.size B6'.size)))
        have e0 := rc (i := 0) x7 rfl
        have e1 := rc (i := 1) x7 rfl
        have f0 := frozen0 (j := 0) x7
        have f1 := frozen0 (j := 1) x7
        clear hb7
        go_wp2
        refine bodyPost_ret (results_cell_tmp_row rfl _ _ _ _ _ _ _ rfl (heap_set2 x7) Try.underlying73 rfl Try.infoObj) rfl ⟨rfl, ?_⟩
        exact (B7.setCell (p := ⟨w.heap.size + 1, 0, none⟩) (by simp) _).setCell (p := ⟨w.heap.size + 1, 1, none⟩) (by simp) _
end Go.Proofs.Ytldfjpgcemfpjaa
