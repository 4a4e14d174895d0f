/-
  A branch made, a leaf and a branch read by the reference. Conditions: lengths within reach.
-/
import Derived.Test.YtldfjpgcemfpjaaM16ORBranch
namespace Go.Proofs.Ytldfjpgcemfpjaa
open Go.RowKit

set_option maxRecDepth 20000 in
set_option maxHeartbeats 1600000 in
theorem rbranch_any (w : World) (f : Branch) (v : Value) (hv : Ls w.heap.size w 3 linkC v f.2) (hlv : In64 f.1) :
    Calls Try.prog 44 #[.agg #[.int .i64 f.1, v]] w fun e w' => e = .returned (made (branchOk ltB f) (66 :: branchB f)) ∧ Below w.heap.size w w' := by
  have hb0 : Below w.heap.size w ((w.alloc (.cells #[.int .i64 f.1, v] 99)).alloc (.cells #[.string ⟨#[]⟩, .string ⟨#[]⟩] 73)) := ((Below.refl _ _).alloc (Nat.le_refl _) _).alloc (by simp) _
  have z0 := (heap_past (w.alloc (.cells #[.int .i64 f.1, v] 99)) (.cells #[.string ⟨#[]⟩, .string ⟨#[]⟩] 73) w.heap.size (by simp)).trans (heap_last w (.cells #[.int .i64 f.1, v] 99) _ rfl)
  have x0 := heap_last (w.alloc (.cells #[.int .i64 f.1, v] 99)) (.cells #[.string ⟨#[]⟩, .string ⟨#[]⟩] 73) (w.heap.size + 1) (by simp)
  have hn0 : ((w.alloc (.cells #[.int .i64 f.1, v] 99)).alloc (.cells #[.string ⟨#[]⟩, .string ⟨#[]⟩] 73)).heap.size = w.heap.size + 2 := by simp
  have hv0 := hv.keep hb0
  generalize hw0 : (w.alloc (.cells #[.int .i64 f.1, v] 99)).alloc (.cells #[.string ⟨#[]⟩, .string ⟨#[]⟩] 73) = w0 at *
  have HW := hide hw0
  have hR := rbranchRight_any w0 f v (hv0.up (by omega))
  have HV := hide hv0
  obtain ⟨ao, cap, rfl, g1, g2, -⟩ := hv0
  unfold maxLen at g2
  have c0 := rc (i := 0) z0 rfl
  have c1 := rc (i := 1) z0 rfl
  clear hv hw0
  obtain ⟨q, hq⟩ : ∃ q, branchOk ltB f = q := ⟨_, rfl⟩
  rw [hq] at hR ⊢
  obtain ⟨ra, rb, rk, hm⟩ := made_form q (66 :: branchB f)
  rw [hm]
  have HM := hide hm
  clear hm
  go_enter Try.func44, Try.ntmps44
  go_wp2_with fail
  try rw [HW.out]
  refine hR.mono ?_
  rintro e w1 ⟨rfl, hb1⟩
  have z1 := (hb1.block _ (lt_of_heap z0)).trans z0
  have x1 := (hb1.block _ (lt_of_heap x0)).trans x0
  have B1 : Below w0.heap.size w0 w1 := hb1
  have o1 := ow_one w1 66
  rw [show ((66 : UInt8).toNat : Int) = 66 from rfl] at o1
  have hb2 : Below w1.heap.size w1 (w1.alloc (.cells #[.int .u8 66] 5)) := (Below.refl _ _).alloc (Nat.le_refl _) _
  have z2 := (hb2.block _ (lt_of_heap z1)).trans z1
  have x2 := (hb2.block _ (lt_of_heap x1)).trans x1
  have d0 := rc (i := 0) z2 rfl
  have n1 := num_length f.1
  have n2 := num_length f.2.length
  have B2 := B1.trans (hb2.mono B1.size)
  have s1 := lt_of_heap z1
  have y1 := lt_of_heap x1
  have s2 := hb2.size
  clear hR c0 c1 hb1 hb2 z1 x1
  go_wp2_with fail
  generalize hw2 : w1.alloc (.cells #[.int .u8 66] 5) = w2 at *
  clear hw2
  refine (rnum_any w2 f.1 hlv).mono ?_
  rintro e w3 ⟨u3, rfl, own3, hb3⟩
  have s3 := hb3.size
  obtain ⟨v4, w4, run4, o4, hb4⟩ := (o1.keep hb3).app own3 n1.1 (by simp only [List.length_cons, List.length_nil]; omega) (by omega)
  have R4 := hide run4
  have z4 := (hb4.block _ s1).trans ((hb3.block _ (lt_of_heap z2)).trans z2)
  have x4 := (hb4.block _ y1).trans ((hb3.block _ (lt_of_heap x2)).trans x2)
  have B4 := (B2.trans (hb3.mono B2.size)).trans (hb4.mono B1.size)
  have s4 := hb4.size
  have d1 := rc (i := 1) z4 rfl
  clear run4 own3 o1 hb3 hb4 z2 x2 B2 d0
  go_wp2_with (at_builtin; refine wpList_plain rfl (fun K hK => wp_append_run (.tmp 9) (.tmp 12) 93 rfl rfl rfl R4.out (hK _ _ ?_)))
  go_wp2_with fail
  refine (rnum_any w4 (f.2.length : Int) ⟨by omega, by omega⟩).mono ?_
  rintro e w5 ⟨u5, rfl, own5, hb5⟩
  have s5 := hb5.size
  obtain ⟨v6, w6, run6, o6, hb6⟩ := (o4.keep hb5).app own5 n2.1 (by simp only [List.length_append, List.length_cons, List.length_nil]; omega) (by omega)
  have R6 := hide run6
  have z6 := (hb6.block _ s1).trans ((hb5.block _ (lt_of_heap z4)).trans z4)
  have x6 := (hb6.block _ y1).trans ((hb5.block _ (lt_of_heap x4)).trans x4)
  have B6 := (B4.trans (hb5.mono B4.size)).trans (hb6.mono B1.size)
  have s6 := hb6.size
  clear run6 own5 o4 hb5 hb6 z4 x4 B4 d1 R4
  go_wp2_with (at_builtin; refine wpList_plain rfl (fun K hK => wp_append_run (.tmp 14) (.tmp 18) 93 rfl rfl rfl R6.out (hK _ _ ?_)))
  go_wp2_with fail
  clear R6
  cases q with
  | false =>
    go_loopw [5, 6] (fun s t wr => s = v6 ∧ t = .int .i64 0 ∧ wr = w6) (fun _ _ _ => 0)
    case atStart => exact ⟨rfl, rfl, rfl⟩
    case round =>
      obtain ⟨rfl, rfl, rfl⟩ := hrel
      have d1 := rc (i := 1) z6 rfl
      have hp := rput_any _ _ _ false o6.sl (by simp)
      rw [made_no', ← made_no' (66 :: branchB f), HM.out] at hp
      have hcase : f.2.length = 0 ∨ 0 < f.2.length := by omega
      rcases hcase with hl | hl
      all_goals
        go_wp2_with fail
        refine hp.mono ?_
        rintro e w7 ⟨rfl, hb7⟩
        have x7 := (hb7.block _ (lt_of_heap x6)).trans x6
        have B7 := hb0.trans ((B6.mono hb0.size).trans (hb7.mono (Nat.le_trans hb0.size B6.size)))
        have e0 := rc (i := 0) x7 rfl
        have e1 := rc (i := 1) x7 rfl
        have f0 := frozen0 (j := 0) x7
        have f1 := frozen0 (j := 1) x7
        clear hb7
        go_wp2
        refine bodyPost_ret (results_cell_tmp_row rfl _ _ _ _ _ _ _ rfl (heap_set2 x7) Try.underlying73 rfl Try.infoObj) rfl ⟨rfl, ?_⟩
        exact (B7.setCell (p := ⟨w.heap.size + 1, 0, none⟩) (by simp) _).setCell (p := ⟨w.heap.size + 1, 1, none⟩) (by simp) _
  | true =>
    obtain ⟨hlen, hparts⟩ := branchOk_links hq
    have hm : (66 :: branchB f) = [66] ++ num f.1 ++ num f.2.length ++ f.2.flatMap linkB := by simp [branchB, listB]
    have hM := HM.out
    rw [hm] at hM
    have o6' : Ow w1.heap.size w6 v6 ([66] ++ num f.1 ++ num f.2.length ++ (f.2.take 0).flatMap linkB) := by simpa using o6
    generalize hL : [66] ++ num f.1 ++ num f.2.length = L at *
    have hLl : L.length ≤ 21 := by rw [← hL]; simp only [List.length_append, List.length_cons, List.length_nil]; omega
    have HM2 := hide hM
    clear hL hm o6 hM HM
    go_loopw [5, 6] (fun s t wr => ∃ (k : Nat) (a : Option Addr) (n c : Nat), k ≤ f.2.length ∧ s = .slice a n c ∧ t = .int .i64 k ∧ Ow w1.heap.size wr (.slice a n c) (L ++ (f.2.take k).flatMap linkB) ∧ Below w1.heap.size w6 wr) (fun _ t _ => f.2.length - (intOf t).toNat)
    case atStart =>
      obtain ⟨a6, n6, c6, rfl⟩ := o6'.form
      exact ⟨0, a6, n6, c6, by omega, rfl, rfl, o6', Below.refl _ _⟩
    case round =>
      obtain ⟨k, an, nn, cn, hk, rfl, rfl, ok, hbk⟩ := hrel
      have zr := (hbk.block _ s1).trans z6
      have xr := (hbk.block _ y1).trans x6
      have sr := hbk.size
      have d1 := rc (i := 1) zr rfl
      have hfl : ((f.2.take k).flatMap linkB).length ≤ 116 * 64 := by
        have h1 := flatLink_le (f.2.take k) (fun p hp => hparts p (List.mem_of_mem_take hp))
        have h2 : (f.2.take k).length ≤ k := by rw [List.length_take]; omega
        omega
      have HK := hide hbk
      clear hbk
      by_cases hlt : k < f.2.length
      · have hpk := hparts f.2[k] (List.getElem_mem hlt)
        unfold rlinkOk isKeyB isIdB at hpk
        simp only [Bool.and_eq_true, decide_eq_true_eq] at hpk
        obtain ⟨ao', cap', he, -, -, h4⟩ := HV.out
        obtain ⟨b, off, rfl, hbB, hc⟩ := h4 (by intro e; rw [e] at hlt; simp at hlt)
        injection he with he _ he2
        subst he he2
        have hst : (f.2.take (k + 1)).flatMap linkB = (f.2.take k).flatMap linkB ++ (txt f.2[k].1 ++ (f.2[k].2.1 ++ num f.2[k].2.2)) := by
          rw [List.take_succ_eq_append_getElem hlt, List.flatMap_append]
          simp [linkB, partB]
        have hcell : ∀ i u, (linkC f.2[k])[i]? = some u → ∀ W, Below w1.heap.size w6 W → W.cell? ⟨b, off + k * 3 + i, none⟩ = some u := fun i u hu W hW => by
          have sw := hb0.size
          have sw1 := B1.size
          exact (hW.cell (p := ⟨b, off + k * 3 + i, none⟩) (by show b < _; omega)).trans ((B6.cell (p := ⟨b, off + k * 3 + i, none⟩) (by show b < _; omega)).trans (hc k hlt i u hu))
        have HST := hide hst
        generalize f.2[k] = x at *
        have HC1 := hide (hcell 1 _ rfl)
        have HC2 := hide (hcell 2 _ rfl)
        have k0 := hcell 0 _ rfl _ HK.out
        simp only [Nat.add_zero] at k0
        have nt := txt_pos x.1
        have nx := num_length x.2.2
        clear hcell hst hc
        go_wp2_with fail
        refine (rtext_any wr x.1 (by omega)).mono ?_
        rintro e wt ⟨ut, rfl, ownt, hbt⟩
        have st := hbt.size
        obtain ⟨vs1, ws1, runs, os1, hbs⟩ := (ok.keep hbt).app ownt nt.1 (by rw [List.length_append]; omega) (by omega)
        obtain ⟨as1, ns1, cs1, rfl⟩ := os1.form
        obtain ⟨at1, nt1, ct1, rfl⟩ := Ow.form ownt
        have RS := hide runs
        have KS := (HK.out.trans (hbt.mono (by omega))).trans hbs
        have ss := hbs.size
        have k1 := HC1.out _ KS
        have zs := (hbs.block _ s1).trans ((hbt.block _ (lt_of_heap zr)).trans zr)
        have ds := rc (i := 1) zs rfl
        obtain ⟨v7, w7, run7, o7, hb7⟩ := os1.str (m := x.2.1) (by simp only [List.length_append]; omega) (by omega)
        obtain ⟨a7, n7, c7, rfl⟩ := o7.form
        have R7 := hide run7
        have K7 := KS.trans hb7
        have s7 := hb7.size
        have k2 := HC2.out _ K7
        have z7 := (hb7.block _ s1).trans zs
        have d7 := rc (i := 1) z7 rfl
        clear runs ownt ok hbt hbs k0 d1 zr xr run7 os1 hb7
        go_wp2_with (at_builtin; first | refine wpList_plain rfl (fun K hK => wp_append_run (.tmp 30) (.tmp 37) 93 rfl rfl rfl RS.out (hK _ _ ?_)) | refine wpList_plain rfl (fun K hK => wp_append_run2 (.tmp 39) (.tmp 45) 93 9 rfl rfl rfl R7.out (hK _ _ ?_)))
        clear k1 ds zs R7 KS RS
        try go_wp2_with fail
        refine (rnum_any w7 x.2.2 ⟨by omega, by omega⟩).mono ?_
        rintro e w8 ⟨u8, rfl, own8, hb8⟩
        have s8 := hb8.size
        obtain ⟨v9, w9, run9, o9, hb9⟩ := (o7.keep hb8).app own8 nx.1 (by simp only [List.length_append]; omega) (by omega)
        obtain ⟨a9, n9, c9, rfl⟩ := o9.form
        obtain ⟨a8, n8, c8, rfl⟩ := Ow.form own8
        have R9 := hide run9
        have K9 := (K7.trans (hb8.mono (by omega))).trans hb9
        have O9 : Hid (Ow w1.heap.size w9 (.slice a9 n9 c9) (L ++ (f.2.take (k + 1)).flatMap linkB)) := hide (by rw [HST.out]; simpa using o9)
        clear run9 own8 o7 o9 hb8 hb9 K7 z7 d7 k2
        go_wp2_with (at_builtin; refine wpList_plain rfl (fun K hK => wp_append_run (.tmp 47) (.tmp 54) 93 rfl rfl rfl R9.out (hK _ _ ?_)))
        go_wp2
        go_roundw
        case rel => exact ⟨k + 1, a9, n9, c9, by omega, rfl, by go_num, O9.out, K9⟩
        case measure => simp [intOf]; omega
      · obtain rfl : k = f.2.length := by omega
        rw [List.take_length] at ok hfl
        have hp := rput_any _ _ _ true ok.sl (by intro _; rw [List.length_append]; omega)
        rw [HM2.out] at hp
        clear hfl ok
        go_wp2_with fail
        refine hp.mono ?_
        rintro e w7 ⟨rfl, hb7⟩
        have x7 := (hb7.block _ (lt_of_heap xr)).trans xr
        have B6' := B6.trans (HK.out.mono B1.size)
        have B7 := hb0.trans ((B6'.mono hb0.size).trans (hb7.mono (Nat.le_trans hb0.size B6'.size)))
        have e0 := rc (i := 0) x7 rfl
        have e1 := rc (i := 1) x7 rfl
        have f0 := frozen0 (j := 0) x7
        have f1 := frozen0 (j := 1) x7
        clear hb7
        go_wp2
        refine bodyPost_ret (results_cell_tmp_row rfl _ _ _ _ _ _ _ rfl (heap_set2 x7) Try.underlying73 rfl Try.infoObj) rfl ⟨rfl, ?_⟩
        exact (B7.setCell (p := ⟨w.heap.size + 1, 0, none⟩) (by simp) _).setCell (p := ⟨w.heap.size + 1, 1, none⟩) (by simp) _
set_option maxRecDepth 20000 in
set_option maxHeartbeats 3200000 in
theorem rtakeLeaf_any (w : World) (b : Bs) (hb : b.length ≤ 140737488351232) :
    Calls Try.prog 61 #[.string (strB b)] w fun e w' => LeafSaid w.heap.size b e w' ∧ Below w.heap.size w w' := by
  obtain ⟨i0, hi, hz0, hz1, hz2⟩ := info_parts Try.zPair
  have htk := rtakenLeaf b (by omega)
  obtain ⟨s0, hs0⟩ : ∃ s, rBegin 76 b = s := ⟨_, rfl⟩
  obtain ⟨c, s2, ht2⟩ : ∃ t s2, rC b 64 s0 = (t, s2) := ⟨_, _, rfl⟩
  have hrc := rC_le b 64 s0 (by omega)
  rw [ht2] at hrc
  obtain ⟨n, rfl⟩ := Int.eq_ofNat_of_zero_le hrc.1
  have hn : n ≤ 64 := by have := hrc.2; simp only at this; omega
  have hF : hLeaf b s0 = ((rN (rPair b 64 128) n s2).1, (rN (rPair b 64 128) n s2).2) := by
    unfold hLeaf rL
    simp only [ht2, Int.toNat_natCast]
  unfold rtaken at htk
  rw [hs0, hF] at htk
  simp only at htk
  have HTK := hide htk
  have H0 := hide hs0
  have H2 := hide ht2
  clear htk hs0 ht2 hF hrc
  have HV := hide hb
  clear hb
  have hB := rbegun_any w b 76 HV.out
  rw [H0.out, show ((76 : UInt8).toNat : Int) = 76 from rfl] at hB
  go_enter Try.func61, Try.ntmps61
  go_wp2_with fail
  refine hB.mono ?_
  rintro e w3 ⟨g, rfl, R3, hg1, B3⟩
  have hglt := R3.lt
  have hFlo := B3.size
  have hT := rcount_any w3 g b s0 64 R3 HV.out
  rw [H2.out] at hT
  simp only at hT
  clear hB
  go_wp2_with fail
  refine hT.mono ?_
  rintro e w4 ⟨rfl, R4, gb4⟩
  have B4 := B3.grown gb4 B3.size (fun k hk => by injection hk with hk; omega)
  have n4 := gb4.size
  clear hT gb4 R3 B3
  generalize hF : w3.heap.size = F at *
  clear hF
  go_wp2_with fail
  go_loopw [5, 7] (fun s t wr => ∃ (k : Nat) (a : Option Addr) (cp : Nat), k ≤ n ∧ s = .slice a k cp ∧ t = .int .i64 k ∧ wr.ownsRow F 48 2 (.slice a k cp) k ((rN (rPair b 64 128) k s2).1.flatMap pairC) ∧ Rr w.heap.size wr g b (rN (rPair b 64 128) k s2).2 ∧ Below w.heap.size w wr ∧ F ≤ wr.heap.size)
    (fun _ t _ => n - (intOf t).toNat)
  case atStart => exact ⟨0, none, 0, by omega, rfl, rfl, World.ownsRow_nil _ _ _ _, R4, B4, by omega⟩
  case round =>
    obtain ⟨k, a, cp, hk, rfl, rfl, own, Rk, Br, sr⟩ := hrel
    clear R4 B4
    obtain ⟨S, hS⟩ : ∃ S, (rN (rPair b 64 128) k s2).2 = S := ⟨_, rfl⟩
    rw [hS] at Rk
    have hbad := Rk.bad
    by_cases hgo : k < n ∧ S ≠ none
    · obtain ⟨hlt, hne⟩ := hgo
      obtain ⟨p, rfl⟩ := Option.ne_none_iff_exists'.1 hne
      simp only [Option.isNone_some] at hbad
      obtain ⟨key, t1, hd⟩ : ∃ t s', rT b 64 (some p) = (t, s') := ⟨_, _, rfl⟩
      obtain ⟨val, t2, hz⟩ : ∃ t s', rT b 128 t1 = (t, s') := ⟨_, _, rfl⟩
      have hsn := rN_snoc (rPair b 64 128) k s2
      rw [hS, show rPair b 64 128 (some p) = ((key, val), t2) from by unfold rPair; simp only [rP, hd, hz]] at hsn
      simp only at hsn
      have HSN := hide hsn
      have hT := rtakeText_any wr g b (some p) 64 Rk HV.out
      rw [hd] at hT
      simp only at hT
      have HZ := hide hz
      obtain ⟨csg, hcsg⟩ := Rk.heap
      have HO := hide own
      clear hsn hd hz hS own hne
      go_wp2_with fail
      refine hT.mono ?_
      rintro e w5 ⟨rfl, R5, gb5⟩
      have B5 := Br.grown gb5 Br.size (fun q hq => by injection hq with hq; omega)
      have O5 := hide (HO.out.kept gb5 (.inr (ne_own' HO.out hcsg (by decide))))
      have n5 := gb5.size
      obtain ⟨csg5, hcsg5⟩ := R5.heap
      have hT2 := rtakeText_any w5 g b t1 128 R5 HV.out
      rw [HZ.out] at hT2
      simp only at hT2
      clear hT gb5 R5 Rk Br HO hcsg hbad
      go_wp2_with fail
      refine hT2.mono ?_
      rintro e w6 ⟨rfl, R6, gb6⟩
      have B6 := B5.grown gb6 B5.size (fun q hq => by injection hq with hq; omega)
      have own6 := O5.out.kept gb6 (.inr (ne_own' O5.out hcsg5 (by decide)))
      have n6 := gb6.size
      have hb7 : Below w6.heap.size w6 (w6.alloc (.cells #[.string (strB key), .string (strB val)] 48)) := (Below.refl _ _).alloc (Nat.le_refl _) _
      have own7 := own6.alloc (.cells #[.string (strB key), .string (strB val)] 48)
      have R7 := R6.keep hb7
      have B7 := B6.trans (hb7.mono B6.size)
      have hnw := news_at w6 [.string (strB key), .string (strB val)] 48
      have O7 := hide own7
      have HR7 := hide R7
      have HB7 := hide B7
      clear hT2 gb6 R6 B5 O5 hcsg5 B6 own6 own7 R7 B7 hb7
      go_wp2_with (at_builtin; refine wpList_append_own _ rfl (.tmp 32) (.tmp 36) 49 rfl F 48 i0 (.agg #[.string ⟨#[]⟩, .string ⟨#[]⟩]) 2 32 Try.underlying49 hi hz0 hz1 hz2 rfl (by decide) _ _ _ rfl O7.out ⟨w6.heap.size, 0, none⟩ 1 1 [.string (strB key), .string (strB val)] rfl rfl hnw (by simp [Value.oneCell']) (by unfold maxLen; omega) (by omega) (by simp; omega) ?_; intro v8 w8 hown8 hgr8 _; have HO8 := hide hown8; obtain ⟨a8, c8, rfl, -⟩ := own_form hown8; clear hown8)
      have R8 := HR7.out.grown hgr8 (fun q hq => by have := (O7.out.lt q hq).1; omega)
      have B8 := HB7.out.grown hgr8 HB7.out.size (fun q hq => by have := (O7.out.lt q hq).1; omega)
      have n8 := hgr8.size
      have n7 : (w6.alloc (.cells #[.string (strB key), .string (strB val)] 48)).heap.size = w6.heap.size + 1 := by simp
      clear hnw
      go_wp2
      go_roundw
      case rel =>
        refine ⟨k + 1, a8, c8, by omega, rfl, by go_num, ?_, ?_, B8, by omega⟩
        · rw [HSN.out, flat_one]
          exact HO8.out
        · rw [HSN.out]
          exact R8
      case measure => simp [intOf]; omega
    · have hdone : k = n ∨ S = none := by
        by_cases h : k < n
        · exact .inr (Classical.not_not.1 (fun h2 => hgo ⟨h, h2⟩))
        · exact .inl (by omega)
      obtain ⟨f, hf⟩ : ∃ f, (rN (rPair b 64 128) k s2).1 = f := ⟨_, rfl⟩
      rw [hf] at own
      have hlf : f.length = k := by rw [← hf, rN_length]
      have hdead : S = none → (rN (rPair b 64 128) n s2).2 = none := fun h => by
        have := rN_dead (one := rPair b 64 128) rfl s2 k (hS.trans h) (n - k)
        rwa [show k + (n - k) = n from by omega] at this
      have htrue : decide (S = some b.length) = true → leafOk ltB f = true → takenLeaf b = some f := fun h1 h2 => by
        have h1 := of_decide_eq_true h1
        rcases hdone with rfl | h
        · rw [← HTK.out, hS, hf, if_pos ⟨h1, h2⟩]
        · rw [h] at h1; cases h1
      have hfalse : (decide (S = some b.length) = false ∨ leafOk ltB f = false) → takenLeaf b = none := fun h => by
        rw [← HTK.out]
        rcases hdone with rfl | h3
        · rw [hS, hf]
          refine if_neg (fun g => ?_)
          rcases h with h | h
          · exact of_decide_eq_false h g.1
          · rw [h] at g; cases g.2
        · rw [hdead h3]
          exact if_neg (fun g => by cases g.1)
      have HTR := hide htrue
      have HFA := hide hfalse
      have hE := rends_any wr g b S Rk
      obtain ⟨q1, hq1⟩ : ∃ q, decide (S = some b.length) = q := ⟨_, rfl⟩
      rw [hq1] at hE HTR HFA
      have HO := hide own
      have HLF := hide hlf
      have hRt : ∀ W : World, W.ownsRow F 48 2 (.slice a k cp) k (f.flatMap pairC) → Calls Try.prog 39 #[.slice a k cp] W fun e w' => e = .returned (.bool (leafOk ltB f)) ∧ Below W.heap.size W w' := fun W hW =>
        rleafRight_any W f (.slice a k cp) (ls_of_own pairC_length (by rw [hlf]; exact hW))
      obtain ⟨q2, hq2⟩ : ∃ q, leafOk ltB f = q := ⟨_, rfl⟩
      rw [hq2] at hRt HTR HFA
      have HRT := hide hRt
      clear htrue hfalse own hdead hRt hq1 hq2 hlf hf hS
      have hcase : k = n ∨ (k < n ∧ S = none) := by
        rcases hdone with h | h
        · exact .inl h
        · by_cases h2 : k < n
          · exact .inr ⟨h2, h⟩
          · exact .inl (by omega)
      clear hdone hgo
      rcases hcase with rfl | ⟨hlt, rfl⟩
      all_goals
        try have hnl : ¬ ((k : Int) < (k : Int)) := by omega
        try simp only [Option.isNone_none] at hbad
        go_wp2_with fail
        refine hE.mono ?_
        rintro e w5 ⟨rfl, hb5⟩
        have B5 := Br.trans (hb5.mono Br.size)
        have O5 := hide (own_below HO.out hb5)
        clear hE hb5 Br HO hbad Rk
        go_wp2_with fail
        refine (HRT.out _ O5.out).mono ?_
        rintro e w6 ⟨rfl, hb6⟩
        have B6 := B5.trans (hb6.mono B5.size)
        have O6 := hide (own_below O5.out hb6)
        clear hb6 B5 O5 HRT
        cases q1 with
        | false =>
          have ht := HFA.out (.inl rfl)
          cases q2
          all_goals
            go_wp2
            go_ret2
            refine ⟨?_, B6⟩
            unfold LeafSaid
            rw [ht]
            rfl
        | true =>
          cases q2 with
          | false =>
            have ht := HFA.out (.inr rfl)
            go_wp2
            go_ret2
            refine ⟨?_, B6⟩
            unfold LeafSaid
            rw [ht]
            rfl
          | true =>
            have ht := HTR.out rfl rfl
            go_wp2
            go_ret2
            refine ⟨?_, B6⟩
            unfold LeafSaid
            rw [ht]
            refine ⟨_, rfl, own_down (B := F) ?_ (by omega)⟩
            rw [HLF.out]
            exact O6.out
set_option maxRecDepth 20000 in
set_option maxHeartbeats 3200000 in
theorem rtakeBranch_any (w : World) (b : Bs) (hb : b.length ≤ 140737488351232) :
    Calls Try.prog 62 #[.string (strB b)] w fun e w' => branchSaid w.heap.size b e w' ∧ Below w.heap.size w w' := by
  obtain ⟨i0, hi, hz0, hz1, hz2⟩ := info_parts Try.zLink
  have htk := rtakenBranch b (by omega)
  obtain ⟨s0, hs0⟩ : ∃ s, rBegin 66 b = s := ⟨_, rfl⟩
  obtain ⟨lev, s1, ht1⟩ : ∃ t s1, rI b s0 = (t, s1) := ⟨_, _, rfl⟩
  obtain ⟨c, s2, ht2⟩ : ∃ t s2, rC b 64 s1 = (t, s2) := ⟨_, _, rfl⟩
  have hrc := rC_le b 64 s1 (by omega)
  rw [ht2] at hrc
  obtain ⟨n, rfl⟩ := Int.eq_ofNat_of_zero_le hrc.1
  have hn : n ≤ 64 := by have := hrc.2; simp only at this; omega
  have hF : hBranch b s0 = ((lev, (rN (rLink b 64) n s2).1), (rN (rLink b 64) n s2).2) := by
    unfold hBranch rL
    simp only [rP, ht1, ht2, Int.toNat_natCast]
  unfold rtaken at htk
  rw [hs0, hF] at htk
  simp only at htk
  have HTK := hide htk
  have H0 := hide hs0
  have H1 := hide ht1
  have H2 := hide ht2
  clear htk hs0 ht1 ht2 hF hrc
  have HV := hide hb
  clear hb
  have hb0 : Below w.heap.size w (w.alloc (.cells #[.int .i64 0, .slice none 0 0] 99)) := (Below.refl _ _).alloc (Nat.le_refl _) _
  have x0 := heap_last w (.cells #[.int .i64 0, .slice none 0 0] 99) _ rfl
  have hn0 : (w.alloc (.cells #[.int .i64 0, .slice none 0 0] 99)).heap.size = w.heap.size + 1 := by simp
  generalize hw0 : w.alloc (.cells #[.int .i64 0, .slice none 0 0] 99) = w0 at *
  have hB := rbegun_any w0 b 66 HV.out
  rw [H0.out, show ((66 : UInt8).toNat : Int) = 66 from rfl] at hB
  go_enter Try.func62, Try.ntmps62
  go_wp2_with fail
  try rw [hw0]
  refine hB.mono ?_
  rintro e w1 ⟨g, rfl, R1, hg1, hb1⟩
  have x1 := (hb1.block _ (lt_of_heap x0)).trans x0
  have B1 := hb0.trans (hb1.mono hb0.size)
  have hT := rint_any w1 g b s0 R1 HV.out
  rw [H1.out] at hT
  simp only at hT
  clear hB hb1 R1 x0 hb0 hw0
  go_wp2_with fail
  refine hT.mono ?_
  rintro e w2 ⟨rfl, R2, gb2⟩
  have x2 := (gb2.block _ (lt_of_heap x1) (fun e => by injection e with e; omega)).trans x1
  have B2 := B1.grown gb2 B1.size (fun k hk => by injection hk with hk; omega)
  have hb3 : Below w2.heap.size w2 (w2.alloc (.cells #[.int .i64 lev, .slice none 0 0] 99)) := (Below.refl _ _).alloc (Nat.le_refl _) _
  have z3 := heap_last w2 (.cells #[.int .i64 lev, .slice none 0 0] 99) _ rfl
  have R3 := R2.keep hb3
  have x3 := (hb3.block _ (lt_of_heap x2)).trans x2
  have B3 := B2.trans (hb3.mono B2.size)
  have g2 := R2.lt
  have y2 := lt_of_heap x2
  have n3 : (w2.alloc (.cells #[.int .i64 lev, .slice none 0 0] 99)).heap.size = w2.heap.size + 1 := by simp
  clear hT gb2 R2 x1 B1 x2 B2 hb3
  go_wp2_with fail
  generalize hw3 : w2.alloc (.cells #[.int .i64 lev, .slice none 0 0] 99) = w3 at *
  generalize hF : w2.heap.size = F at *
  have hT := rcount_any w3 g b s1 64 R3 HV.out
  rw [H2.out] at hT
  simp only at hT
  refine hT.mono ?_
  rintro e w4 ⟨rfl, R4, gb4⟩
  have z4 := (gb4.block _ (lt_of_heap z3) (fun e => by injection e with e; omega)).trans z3
  have x4 := (gb4.block _ (lt_of_heap x3) (fun e => by injection e with e; omega)).trans x3
  have B4 := B3.grown gb4 B3.size (fun k hk => by injection hk with hk; omega)
  have n4 := gb4.size
  clear hT gb4 R3 x3 B3 z3 hw3 hF
  go_wp2_with fail
  go_loopw [7] (fun t wr => ∃ (k : Nat) (a : Option Addr) (cp : Nat), k ≤ n ∧ t = .int .i64 k ∧ wr.heap[F]? = some (.cells #[.int .i64 lev, .slice a k cp] 99) ∧ wr.ownsRow (F + 1) 81 3 (.slice a k cp) k ((rN (rLink b 64) k s2).1.flatMap linkC) ∧ Rr w0.heap.size wr g b (rN (rLink b 64) k s2).2 ∧ wr.heap[w.heap.size]? = some (.cells #[.int .i64 0, .slice none 0 0] 99) ∧ Below w.heap.size w wr ∧ F + 1 ≤ wr.heap.size)
    (fun t _ => n - (intOf t).toNat)
  case atStart => exact ⟨0, none, 0, by omega, rfl, z4, World.ownsRow_nil _ _ _ _, R4, x4, B4, by omega⟩
  case round =>
    obtain ⟨k, a, cp, hk, rfl, zr, own, Rk, xr, Br, sr⟩ := hrel
    clear z4 R4 x4 B4
    obtain ⟨S, hS⟩ : ∃ S, (rN (rLink b 64) k s2).2 = S := ⟨_, rfl⟩
    rw [hS] at Rk
    have hbad := Rk.bad
    by_cases hgo : k < n ∧ S ≠ none
    · obtain ⟨hlt, hne⟩ := hgo
      obtain ⟨p, rfl⟩ := Option.ne_none_iff_exists'.1 hne
      simp only [Option.isNone_some] at hbad
      obtain ⟨key, t0, hkt⟩ : ∃ t s', rT b 64 (some p) = (t, s') := ⟨_, _, rfl⟩
      obtain ⟨id, t1, hd⟩ : ∃ t s', rD b t0 = (t, s') := ⟨_, _, rfl⟩
      obtain ⟨size, t2, hz⟩ : ∃ t s', rI b t1 = (t, s') := ⟨_, _, rfl⟩
      have hsn := rN_snoc (rLink b 64) k s2
      rw [hS, show rLink b 64 (some p) = ((key, (id, size)), t2) from by unfold rLink rPart; simp only [rP, hkt, hd, hz]] at hsn
      simp only at hsn
      have HSN := hide hsn
      have hT0 := rtakeText_any wr g b (some p) 64 Rk HV.out
      rw [hkt] at hT0
      simp only at hT0
      have HZ := hide hz
      have HD := hide hd
      obtain ⟨csg, hcsg⟩ := Rk.heap
      have HO := hide own
      clear hsn hd hz hS own hne hkt
      go_wp2_with fail
      refine hT0.mono ?_
      rintro e w4' ⟨rfl, R4', gb4'⟩
      have z4' := (gb4'.block _ (lt_of_heap zr) (fun e => by injection e with e; omega)).trans zr
      have x4' := (gb4'.block _ (lt_of_heap xr) (fun e => by injection e with e; omega)).trans xr
      have B4' := Br.grown gb4' Br.size (fun q hq => by injection hq with hq; omega)
      have O4' := hide (HO.out.kept gb4' (.inr (ne_own' HO.out hcsg (by decide))))
      have n4' := gb4'.size
      obtain ⟨csg4, hcsg4⟩ := R4'.heap
      have hT := rid_any w4' g b t0 R4' HV.out
      rw [HD.out] at hT
      simp only at hT
      clear hT0 gb4' R4' Rk zr xr Br HO hcsg hbad
      go_wp2_with fail
      refine hT.mono ?_
      rintro e w5 ⟨rfl, R5, gb5⟩
      have z5 := (gb5.block _ (lt_of_heap z4') (fun e => by injection e with e; omega)).trans z4'
      have x5 := (gb5.block _ (lt_of_heap x4') (fun e => by injection e with e; omega)).trans x4'
      have B5 := B4'.grown gb5 B4'.size (fun q hq => by injection hq with hq; omega)
      have O5 := hide (O4'.out.kept gb5 (.inr (ne_own' O4'.out hcsg4 (by decide))))
      have n5 := gb5.size
      obtain ⟨csg5, hcsg5⟩ := R5.heap
      have hT2 := rint_any w5 g b t1 R5 HV.out
      rw [HZ.out] at hT2
      simp only at hT2
      clear hT gb5 R5 z4' x4' B4' O4' hcsg4
      go_wp2_with fail
      refine hT2.mono ?_
      rintro e w6 ⟨rfl, R6, gb6⟩
      have z6 := (gb6.block _ (lt_of_heap z5) (fun e => by injection e with e; omega)).trans z5
      have x6 := (gb6.block _ (lt_of_heap x5) (fun e => by injection e with e; omega)).trans x5
      have B6 := B5.grown gb6 B5.size (fun q hq => by injection hq with hq; omega)
      have own6 := O5.out.kept gb6 (.inr (ne_own' O5.out hcsg5 (by decide)))
      have n6 := gb6.size
      have d6 := rc (i := 1) z6 rfl
      have hb7 : Below w6.heap.size w6 (w6.alloc (.cells #[.string (strB key), .string (strB id), .int .i64 size] 81)) := (Below.refl _ _).alloc (Nat.le_refl _) _
      have own7 := own6.alloc (.cells #[.string (strB key), .string (strB id), .int .i64 size] 81)
      have z7 := (hb7.block _ (lt_of_heap z6)).trans z6
      have x7 := (hb7.block _ (lt_of_heap x6)).trans x6
      have R7 := R6.keep hb7
      have B7 := B6.trans (hb7.mono B6.size)
      have hnw := news_at w6 [.string (strB key), .string (strB id), .int .i64 size] 81
      have hcf : ∀ w1 : World, (w6.alloc (.cells #[.string (strB key), .string (strB id), .int .i64 size] 81)).grownBy w1 (Value.slice a k cp).ownBlock → w1.cell? ⟨F, 1, none⟩ = some (.slice a k cp) ∧ w1.frozen? ⟨F, 1, none⟩ = false := fun w1 hg => by
        have hh := (hg.block F (lt_of_heap z7) (fun e => ne_own' own7 z7 (by decide) e.symm)).trans z7
        exact ⟨rc (i := 1) hh rfl, frozen0 hh⟩
      have O7 := hide own7
      have Z7 := hide z7
      have X7 := hide x7
      have HR7 := hide R7
      have HB7 := hide B7
      clear hT2 gb6 R6 z5 x5 B5 O5 hcsg5 z6 x6 B6 own6 own7 z7 x7 R7 B7 hb7
      go_wp2_with (at_builtin; refine wpList_append_own _ rfl (.tmp 39) (.tmp 44) 76 rfl (F + 1) 81 i0 (.agg #[.string ⟨#[]⟩, .string ⟨#[]⟩, .int .i64 0]) 3 40 Try.underlying76 hi hz0 hz1 hz2 rfl (by decide) _ _ _ rfl O7.out ⟨w6.heap.size, 0, none⟩ 1 1 [.string (strB key), .string (strB id), .int .i64 size] rfl rfl hnw (by simp [Value.oneCell']) (by unfold maxLen; omega) (by omega) (by simp; omega) ?_; intro v8 w8 hown8 hgr8 _; have HO8 := hide hown8; obtain ⟨a8, c8, rfl, -⟩ := own_form hown8; clear hown8; obtain ⟨e8, f8⟩ := hcf w8 hgr8)
      have z8 := (hgr8.block F (lt_of_heap Z7.out) (fun e => ne_own' O7.out Z7.out (by decide) e.symm)).trans Z7.out
      have x8 := (hgr8.block _ (lt_of_heap X7.out) (fun e => ne_own' O7.out X7.out (by decide) e.symm)).trans X7.out
      have R8 := HR7.out.grown hgr8 (fun q hq => by have := (O7.out.lt q hq).1; omega)
      have B8 := HB7.out.grown hgr8 HB7.out.size (fun q hq => by have := (O7.out.lt q hq).1; omega)
      have n8 := hgr8.size
      have n7 : (w6.alloc (.cells #[.string (strB key), .string (strB id), .int .i64 size] 81)).heap.size = w6.heap.size + 1 := by simp
      clear hcf hnw d6
      go_wp2
      go_roundw
      case rel =>
        refine ⟨k + 1, a8, c8, by omega, by go_num, heap_set1 z8, ?_, ?_, ?_, ?_, ?_⟩
        · rw [HSN.out, flat_one]
          exact HO8.out.kept (gb_set w8 F 1 _) (.inr (ne_own' HO8.out z8 (by decide)))
        · rw [HSN.out]
          exact R8.set (.inl (by omega))
        · exact ((gb_set w8 F 1 _).block _ (lt_of_heap x8) (fun e => by injection e with e; omega)).trans x8
        · exact B8.setCell (p := ⟨F, 1, none⟩) (by simp; omega) _
        · have := (gb_set w8 F 1 (.slice a8 (k + 1) c8)).size
          omega
      case measure => simp [intOf]; omega
    · have hdone : k = n ∨ S = none := by
        by_cases h : k < n
        · exact .inr (Classical.not_not.1 (fun h2 => hgo ⟨h, h2⟩))
        · exact .inl (by omega)
      obtain ⟨f, hf⟩ : ∃ f, (rN (rLink b 64) k s2).1 = f := ⟨_, rfl⟩
      rw [hf] at own
      have hlf : f.length = k := by rw [← hf, rN_length]
      have hdead : S = none → (rN (rLink b 64) n s2).2 = none := fun h => by
        have := rN_dead (one := rLink b 64) rfl s2 k (hS.trans h) (n - k)
        rwa [show k + (n - k) = n from by omega] at this
      have htrue : decide (S = some b.length) = true → branchOk ltB (lev, f) = true → takenBranch b = some (lev, f) := fun h1 h2 => by
        have h1 := of_decide_eq_true h1
        rcases hdone with rfl | h
        · rw [← HTK.out, hS, hf, if_pos ⟨h1, h2⟩]
        · rw [h] at h1; cases h1
      have hfalse : (decide (S = some b.length) = false ∨ branchOk ltB (lev, f) = false) → takenBranch b = none := fun h => by
        rw [← HTK.out]
        rcases hdone with rfl | h3
        · rw [hS, hf]
          refine if_neg (fun g => ?_)
          rcases h with h | h
          · exact of_decide_eq_false h g.1
          · rw [h] at g; cases g.2
        · rw [hdead h3]
          exact if_neg (fun g => by cases g.1)
      have HTR := hide htrue
      have HFA := hide hfalse
      have hE := rends_any wr g b S Rk
      obtain ⟨q1, hq1⟩ : ∃ q, decide (S = some b.length) = q := ⟨_, rfl⟩
      rw [hq1] at hE HTR HFA
      have HO := hide own
      have HLF := hide hlf
      have hRt : ∀ W : World, W.ownsRow (F + 1) 81 3 (.slice a k cp) k (f.flatMap linkC) → Calls Try.prog 57 #[.agg #[.int .i64 lev, .slice a k cp]] W fun e w' => e = .returned (.bool (branchOk ltB (lev, f))) ∧ Below W.heap.size W w' := fun W hW =>
        rbranchRight_any W (lev, f) (.slice a k cp) (ls_of_own linkC_length (by rw [hlf]; exact hW))
      obtain ⟨q2, hq2⟩ : ∃ q, branchOk ltB (lev, f) = q := ⟨_, rfl⟩
      rw [hq2] at hRt HTR HFA
      have HRT := hide hRt
      clear htrue hfalse own hdead hRt hq1 hq2 hlf hf hS
      have hcase : k = n ∨ (k < n ∧ S = none) := by
        rcases hdone with h | h
        · exact .inl h
        · by_cases h2 : k < n
          · exact .inr ⟨h2, h⟩
          · exact .inl (by omega)
      clear hdone hgo
      rcases hcase with rfl | ⟨hlt, rfl⟩
      · have hnl : ¬ ((k : Int) < (k : Int)) := by omega
        go_wp2_with fail
        refine hE.mono ?_
        rintro e w5 ⟨rfl, hb5⟩
        have z5 := (hb5.block _ (lt_of_heap zr)).trans zr
        have x5 := (hb5.block _ (lt_of_heap xr)).trans xr
        have B5 := Br.trans (hb5.mono Br.size)
        have O5 := hide (own_below HO.out hb5)
        have c0 := rc (i := 0) z5 rfl
        have c1 := rc (i := 1) z5 rfl
        clear hE hb5 zr xr Br HO hbad Rk
        go_wp2_with fail
        refine (HRT.out _ O5.out).mono ?_
        rintro e w6 ⟨rfl, hb6⟩
        have z6 := (hb6.block _ (lt_of_heap z5)).trans z5
        have x6 := (hb6.block _ (lt_of_heap x5)).trans x5
        have B6 := B5.trans (hb6.mono B5.size)
        have O6 := hide (own_below O5.out hb6)
        have m0 := rc (i := 0) z6 rfl
        have m1 := rc (i := 1) z6 rfl
        have n0 := rc (i := 0) x6 rfl
        have n1 := rc (i := 1) x6 rfl
        have f0 := frozen0 (j := 0) x6
        have f1 := frozen0 (j := 1) x6
        clear hb6 z5 x5 B5 O5 c0 c1 z6 HRT
        cases q1 with
        | false =>
          have ht := HFA.out (.inl rfl)
          cases q2
          all_goals
            go_wp2
            refine bodyPost_ret (results_cell_tmp_row rfl _ _ _ _ _ _ _ rfl (heap_set2 x6) Try.underlying99 rfl Try.infoBranch) rfl ⟨?_, (B6.setCell (p := ⟨w.heap.size, 0, none⟩) (by simp) _).setCell (p := ⟨w.heap.size, 1, none⟩) (by simp) _⟩
            unfold branchSaid
            rw [ht]
            rfl
        | true =>
          cases q2 with
          | false =>
            have ht := HFA.out (.inr rfl)
            go_wp2
            refine bodyPost_ret (results_cell_tmp_row rfl _ _ _ _ _ _ _ rfl (heap_set2 x6) Try.underlying99 rfl Try.infoBranch) rfl ⟨?_, (B6.setCell (p := ⟨w.heap.size, 0, none⟩) (by simp) _).setCell (p := ⟨w.heap.size, 1, none⟩) (by simp) _⟩
            unfold branchSaid
            rw [ht]
            rfl
          | true =>
            have ht := HTR.out rfl rfl
            go_wp2
            refine bodyPost_ret (results_cell_tmp_row rfl _ _ _ _ _ _ _ rfl (heap_set2 x6) Try.underlying99 rfl Try.infoBranch) rfl ⟨?_, (B6.setCell (p := ⟨w.heap.size, 0, none⟩) (by simp) _).setCell (p := ⟨w.heap.size, 1, none⟩) (by simp) _⟩
            unfold branchSaid
            rw [ht]
            refine ⟨_, rfl, own_down (B := F + 1) ?_ (by omega)⟩
            rw [show (lev, f).2.length = k from HLF.out]
            exact O6.out.kept (gb_trans (gb_set w6 w.heap.size 0 _) (gb_set _ w.heap.size 1 _)) (.inr (ne_own' O6.out x6 (by decide)))
      · simp only [Option.isNone_none] at hbad
        go_wp2_with fail
        refine hE.mono ?_
        rintro e w5 ⟨rfl, hb5⟩
        have z5 := (hb5.block _ (lt_of_heap zr)).trans zr
        have x5 := (hb5.block _ (lt_of_heap xr)).trans xr
        have B5 := Br.trans (hb5.mono Br.size)
        have O5 := hide (own_below HO.out hb5)
        have c0 := rc (i := 0) z5 rfl
        have c1 := rc (i := 1) z5 rfl
        clear hE hb5 zr xr Br HO hbad Rk
        go_wp2_with fail
        refine (HRT.out _ O5.out).mono ?_
        rintro e w6 ⟨rfl, hb6⟩
        have z6 := (hb6.block _ (lt_of_heap z5)).trans z5
        have x6 := (hb6.block _ (lt_of_heap x5)).trans x5
        have B6 := B5.trans (hb6.mono B5.size)
        have O6 := hide (own_below O5.out hb6)
        have m0 := rc (i := 0) z6 rfl
        have m1 := rc (i := 1) z6 rfl
        have n0 := rc (i := 0) x6 rfl
        have n1 := rc (i := 1) x6 rfl
        have f0 := frozen0 (j := 0) x6
        have f1 := frozen0 (j := 1) x6
        clear hb6 z5 x5 B5 O5 c0 c1 z6 HRT
        cases q1 with
        | false =>
          have ht := HFA.out (.inl rfl)
          cases q2
          all_goals
            go_wp2
            refine bodyPost_ret (results_cell_tmp_row rfl _ _ _ _ _ _ _ rfl (heap_set2 x6) Try.underlying99 rfl Try.infoBranch) rfl ⟨?_, (B6.setCell (p := ⟨w.heap.size, 0, none⟩) (by simp) _).setCell (p := ⟨w.heap.size, 1, none⟩) (by simp) _⟩
            unfold branchSaid
            rw [ht]
            rfl
        | true =>
          cases q2 with
          | false =>
            have ht := HFA.out (.inr rfl)
            go_wp2
            refine bodyPost_ret (results_cell_tmp_row rfl _ _ _ _ _ _ _ rfl (heap_set2 x6) Try.underlying99 rfl Try.infoBranch) rfl ⟨?_, (B6.setCell (p := ⟨w.heap.size, 0, none⟩) (by simp) _).setCell (p := ⟨w.heap.size, 1, none⟩) (by simp) _⟩
            unfold branchSaid
            rw [ht]
            rfl
          | true =>
            have ht := HTR.out rfl rfl
            go_wp2
            refine bodyPost_ret (results_cell_tmp_row rfl _ _ _ _ _ _ _ rfl (heap_set2 x6) Try.underlying99 rfl Try.infoBranch) rfl ⟨?_, (B6.setCell (p := ⟨w.heap.size, 0, none⟩) (by simp) _).setCell (p := ⟨w.heap.size, 1, none⟩) (by simp) _⟩
            unfold branchSaid
            rw [ht]
            refine ⟨_, rfl, own_down (B := F + 1) ?_ (by omega)⟩
            rw [show (lev, f).2.length = k from HLF.out]
            exact O6.out.kept (gb_trans (gb_set w6 w.heap.size 0 _) (gb_set _ w.heap.size 1 _)) (.inr (ne_own' O6.out x6 (by decide)))
end Go.Proofs.Ytldfjpgcemfpjaa
