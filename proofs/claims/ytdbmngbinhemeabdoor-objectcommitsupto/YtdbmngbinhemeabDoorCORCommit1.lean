/-
  A commit, made and read by the reference. Conditions: lengths within reach; what is made has at most a million bytes.
-/
import Derived.Test.YtdbmngbinhemeabDoorCORCommit
import Derived.Deep.CutBlock
import Derived.Deep.CutRange
import Derived.Test.YtdbmngbinhemeabDoorCJTake
namespace Go.Proofs.YtdbmngbinhemeabDoor
open Go.RowKit

theorem flatId_le (xs : List Bs) (h : ∀ p ∈ xs, isIdB p = true) : (xs.flatMap idB).length ≤ 32 * xs.length := by
  induction xs with
  | nil => simp
  | cons y ys ih =>
    have h1 := ih (fun p hp => h p (by simp [hp]))
    have h2 := h y (by simp)
    unfold isIdB at h2
    have h2 := of_decide_eq_true h2
    rw [List.flatMap_cons, List.length_append, List.length_cons]
    unfold idB at h1 ⊢
    omega
theorem commitOk_ids {c : Commit} (h : commitOk c = true) : c.2.1.length ≤ 8 ∧ ∀ p ∈ c.2.1, isIdB p = true := by
  simp only [commitOk, Bool.and_eq_true, decide_eq_true_eq, List.all_eq_true] at h
  obtain ⟨⟨⟨⟨⟨⟨_, h2⟩, h3⟩, _⟩, _⟩, _⟩, _⟩ := h
  exact ⟨h2, h3⟩
set_option maxRecDepth 20000 in
set_option maxHeartbeats 3200000 in
theorem rcommit_any (w : World) (c : Commit) (v : Value) (hv : Ls w.heap.size w 1 idC v c.2.1) (h64 : In64 c.2.2.2.1) (hsz : c.1.length ≤ 1048576 ∧ c.2.2.1.length ≤ 1048576 ∧ c.2.2.2.2.length ≤ 1048576) :
    Calls Tryd.prog 29 #[.agg #[.string (strB c.1), v, .string (strB c.2.2.1), .int .i64 c.2.2.2.1, .string (strB c.2.2.2.2)]] w fun e w' => e = .returned (made (commitOk c) (75 :: commitB c)) ∧ Below w.heap.size w w' := by
  have hb0 : Below w.heap.size w ((w.alloc (.cells #[.string (strB c.1), v, .string (strB c.2.2.1), .int .i64 c.2.2.2.1, .string (strB c.2.2.2.2)] 54)).alloc (.cells #[.string ⟨#[]⟩, .string ⟨#[]⟩] 27)) := ((Below.refl _ _).alloc (Nat.le_refl _) _).alloc (by simp) _
  have z0 := (heap_past (w.alloc (.cells #[.string (strB c.1), v, .string (strB c.2.2.1), .int .i64 c.2.2.2.1, .string (strB c.2.2.2.2)] 54)) (.cells #[.string ⟨#[]⟩, .string ⟨#[]⟩] 27) w.heap.size (by simp)).trans (heap_last w (.cells #[.string (strB c.1), v, .string (strB c.2.2.1), .int .i64 c.2.2.2.1, .string (strB c.2.2.2.2)] 54) _ rfl)
  have x0 := heap_last (w.alloc (.cells #[.string (strB c.1), v, .string (strB c.2.2.1), .int .i64 c.2.2.2.1, .string (strB c.2.2.2.2)] 54)) (.cells #[.string ⟨#[]⟩, .string ⟨#[]⟩] 27) (w.heap.size + 1) (by simp)
  have hn0 : ((w.alloc (.cells #[.string (strB c.1), v, .string (strB c.2.2.1), .int .i64 c.2.2.2.1, .string (strB c.2.2.2.2)] 54)).alloc (.cells #[.string ⟨#[]⟩, .string ⟨#[]⟩] 27)).heap.size = w.heap.size + 2 := by simp
  have hv0 := hv.keep hb0
  generalize hw0 : (w.alloc (.cells #[.string (strB c.1), v, .string (strB c.2.2.1), .int .i64 c.2.2.2.1, .string (strB c.2.2.2.2)] 54)).alloc (.cells #[.string ⟨#[]⟩, .string ⟨#[]⟩] 27) = w0 at *
  have HW := hide hw0
  have hR := rcommitRight_any w0 c v (hv0.up (by omega))
  have HV := hide hv0
  obtain ⟨ao, cap, rfl, g1, g2, -⟩ := hv0
  unfold maxLen at g2
  have c0 := rc (i := 0) z0 rfl
  have c1 := rc (i := 1) z0 rfl
  have c2 := rc (i := 2) z0 rfl
  have c3 := rc (i := 3) z0 rfl
  have c4 := rc (i := 4) z0 rfl
  clear hv hw0
  obtain ⟨q, hq⟩ : ∃ q, commitOk c = q := ⟨_, rfl⟩
  rw [hq] at hR ⊢
  obtain ⟨ra, rb, rk, hm⟩ := made_form q (75 :: commitB c)
  rw [hm]
  have HM := hide hm
  clear hm
  go_enter Tryd.func29, Tryd.ntmps29
  go_wp2_with fail
  try rw [HW.out]
  refine hR.mono ?_
  rintro e w1 ⟨rfl, hb1⟩
  have z1 := (hb1.block _ (lt_of_heap z0)).trans z0
  have x1 := (hb1.block _ (lt_of_heap x0)).trans x0
  have B1 : Below w0.heap.size w0 w1 := hb1
  have o1 := ow_one w1 75
  rw [show ((75 : UInt8).toNat : Int) = 75 from rfl] at o1
  have hb2 : Below w1.heap.size w1 (w1.alloc (.cells #[.int .u8 75] 5)) := (Below.refl _ _).alloc (Nat.le_refl _) _
  have z2 := (hb2.block _ (lt_of_heap z1)).trans z1
  have x2 := (hb2.block _ (lt_of_heap x1)).trans x1
  have d0 := rc (i := 0) z2 rfl
  have n2 := num_length c.2.1.length
  have n3 := num_length c.2.2.2.1
  have t1 := txt_pos c.2.2.1
  have t2 := txt_pos c.2.2.2.2
  have B2 := B1.trans (hb2.mono B1.size)
  have s1 := lt_of_heap z1
  have y1 := lt_of_heap x1
  have s2 := hb2.size
  obtain ⟨v3, w3, run3, o3, hb3⟩ := o1.str (m := c.1) (by simp only [List.length_cons, List.length_nil]; omega) (by omega)
  have R3 := hide run3
  have z3 := (hb3.block _ s1).trans z2
  have x3 := (hb3.block _ y1).trans x2
  have B3 := B2.trans (hb3.mono B1.size)
  have s3 := hb3.size
  have e1 := rc (i := 1) z3 rfl
  clear hR c0 c1 c2 c3 c4 hb1 hb2 z1 x1 run3 o1 hb3 z2 x2 B2
  go_wp2_with (at_builtin; refine wpList_plain rfl (fun K hK => wp_append_run2 (.tmp 9) (.tmp 11) 71 9 rfl rfl rfl R3.out (hK _ _ ?_)))
  clear R3 d0
  try go_wp2_with fail
  refine (rnum_any w3 (c.2.1.length : Int) ⟨by omega, by omega⟩).mono ?_
  rintro e w5 ⟨u5, rfl, own5, hb5⟩
  have s5 := hb5.size
  obtain ⟨v6, w6, run6, o6, hb6⟩ := (o3.keep hb5).app own5 n2.1 (by simp only [List.length_append, List.length_cons, List.length_nil]; omega) (by omega)
  have R6 := hide run6
  have z6 := (hb6.block _ s1).trans ((hb5.block _ (lt_of_heap z3)).trans z3)
  have x6 := (hb6.block _ y1).trans ((hb5.block _ (lt_of_heap x3)).trans x3)
  have B6 := (B3.trans (hb5.mono B3.size)).trans (hb6.mono B1.size)
  have s6 := hb6.size
  clear run6 own5 o3 hb5 hb6 z3 x3 B3 e1
  have hq2 : q = true → c.2.1.length ≤ 8 ∧ ∀ p ∈ c.2.1, isIdB p = true := fun h => commitOk_ids (hq.trans h)
  go_upto_block 0 with (at_builtin; refine wpList_plain rfl (fun K hK => wp_append_run (.tmp 13) (.tmp 17) 71 rfl rfl rfl R6.out (hK _ _ ?_)))
  clear R6
  go_cut [5] from 19 to 35 (fun s wx => ∃ (a : Option Addr) (n cc : Nat) (l : Bs), s = .slice a n cc ∧ Ow w1.heap.size wx (.slice a n cc) ([75] ++ c.1 ++ num c.2.1.length ++ l) ∧ l.length ≤ 256 ∧ (q = true → l = c.2.1.flatMap idB) ∧ Below w1.heap.size w6 wx)
  case first =>
    go_wp2_with fail
    cases q with
    | false =>
      have o6' : Ow w1.heap.size w6 v6 ([75] ++ c.1 ++ num c.2.1.length ++ []) := by simpa using o6
      obtain ⟨a6, n6, c6, rfl⟩ := o6.form
      go_loopw [5, 6] (fun s t wr => s = .slice a6 n6 c6 ∧ t = .int .i64 0 ∧ wr = w6) (fun _ _ _ => 0)
      case atStart => exact ⟨rfl, rfl, rfl⟩
      case round =>
        obtain ⟨rfl, rfl, rfl⟩ := hrel
        have d1 := rc (i := 1) z6 rfl
        have hcase : c.2.1.length = 0 ∨ 0 < c.2.1.length := by omega
        rcases hcase with hl | hl
        all_goals
          go_wp2
          go_meet
          exact ⟨a6, n6, c6, [], rfl, o6', by simp, fun h => (by cases h), Below.refl _ _⟩
    | true =>
      obtain ⟨hlen, hparts⟩ := hq2 rfl
      have o6' : Ow w1.heap.size w6 v6 ([75] ++ c.1 ++ num c.2.1.length ++ (c.2.1.take 0).flatMap idB) := by simpa using o6
      generalize hL : [75] ++ c.1 ++ num c.2.1.length = L at *
      have hLl : L.length ≤ 1048600 := by rw [← hL]; simp only [List.length_append, List.length_cons, List.length_nil]; omega
      clear hL o6
      go_loopw [5, 6] (fun s t wr => ∃ (k : Nat) (a : Option Addr) (n cc : Nat), k ≤ c.2.1.length ∧ s = .slice a n cc ∧ t = .int .i64 k ∧ Ow w1.heap.size wr (.slice a n cc) (L ++ (c.2.1.take k).flatMap idB) ∧ Below w1.heap.size w6 wr) (fun _ t _ => c.2.1.length - (intOf t).toNat)
      case atStart =>
        obtain ⟨a6, n6, c6, rfl⟩ := o6'.form
        exact ⟨0, a6, n6, c6, by omega, rfl, rfl, o6', Below.refl _ _⟩
      case round =>
        obtain ⟨k, an, nn, cn, hk, rfl, rfl, ok, hbk⟩ := hrel
        have zr := (hbk.block _ s1).trans z6
        have sr := hbk.size
        have d1 := rc (i := 1) zr rfl
        have hfl : ((c.2.1.take k).flatMap idB).length ≤ 256 := by
          have h1 := flatId_le (c.2.1.take k) (fun p hp => hparts p (List.mem_of_mem_take hp))
          have h2 : (c.2.1.take k).length ≤ k := by rw [List.length_take]; omega
          omega
        have HK := hide hbk
        clear hbk
        by_cases hlt : k < c.2.1.length
        · have hpk := hparts c.2.1[k] (List.getElem_mem hlt)
          unfold isIdB at hpk
          have hpk := of_decide_eq_true hpk
          obtain ⟨ao', cap', he, -, -, h4⟩ := HV.out
          obtain ⟨b, off, rfl, hbB, hc⟩ := h4 (by intro e; rw [e] at hlt; simp at hlt)
          injection he with he _ he2
          subst he he2
          have hst : (c.2.1.take (k + 1)).flatMap idB = (c.2.1.take k).flatMap idB ++ c.2.1[k] := by
            rw [List.take_succ_eq_append_getElem hlt, List.flatMap_append]
            simp [idB]
          have k0 : wr.cell? ⟨b, off + k * 1 + 0, none⟩ = some (.string (strB c.2.1[k])) := by
            have sw := hb0.size
            have sw1 := B1.size
            exact (HK.out.cell (p := ⟨b, off + k * 1 + 0, none⟩) (by show b < _; omega)).trans ((B6.cell (p := ⟨b, off + k * 1 + 0, none⟩) (by show b < _; omega)).trans (hc k hlt 0 _ rfl))
          simp only [Nat.add_zero, Nat.mul_one] at k0
          have HST := hide hst
          generalize c.2.1[k] = x at *
          obtain ⟨v7, w7, run7, o7, hb7⟩ := ok.str (m := x) (by rw [List.length_append]; omega) (by omega)
          obtain ⟨a7, n7, c7, rfl⟩ := o7.form
          have R7 := hide run7
          have K7 := HK.out.trans hb7
          have O7 : Hid (Ow w1.heap.size w7 (.slice a7 n7 c7) (L ++ (c.2.1.take (k + 1)).flatMap idB)) := hide (by rw [HST.out]; simpa using o7)
          clear run7 hst ok hc hb7 o7
          go_wp2_with (at_builtin; refine wpList_plain rfl (fun K hK => wp_append_run2 (.tmp 29) (.tmp 34) 71 9 rfl rfl rfl R7.out (hK _ _ ?_)))
          try go_wp2
          go_roundw
          case rel => exact ⟨k + 1, a7, n7, c7, by omega, rfl, by go_num, O7.out, K7⟩
          case measure => simp [intOf]; omega
        · obtain rfl : k = c.2.1.length := by omega
          rw [List.take_length] at ok hfl
          go_wp2
          go_meet
          exact ⟨an, nn, cn, _, rfl, ok, hfl, fun _ => rfl, HK.out⟩
  case rest =>
    obtain ⟨ar, nr, cr, l, rfl, orr, hll, hlt, hbr⟩ := hcut
    generalize hL : [75] ++ c.1 ++ num c.2.1.length ++ l = L at *
    have hLl : L.length ≤ 1048900 := by rw [← hL]; simp only [List.length_append, List.length_cons, List.length_nil]; omega
    have HL := hide hL
    have zr := (hbr.block _ s1).trans z6
    have xr := (hbr.block _ y1).trans x6
    have Br := B6.trans (hbr.mono B1.size)
    have sr := hbr.size
    have d2 := rc (i := 2) zr rfl
    clear hL hbr o6 z6 x6 B6
    go_wp2_with fail
    refine (rtext_any _ c.2.2.1 (by omega)).mono ?_
    rintro e w7 ⟨u7, rfl, own7, hb7⟩
    have s7 := hb7.size
    obtain ⟨v8, w8, run8, o8, hb8⟩ := (orr.keep hb7).app own7 t1.1 (by omega) (by omega)
    have R8 := hide run8
    have z8 := (hb8.block _ s1).trans ((hb7.block _ (lt_of_heap zr)).trans zr)
    have x8 := (hb8.block _ y1).trans ((hb7.block _ (lt_of_heap xr)).trans xr)
    have B8 := (Br.trans (hb7.mono Br.size)).trans (hb8.mono B1.size)
    have s8 := hb8.size
    have d3 := rc (i := 3) z8 rfl
    clear run8 own7 orr hb7 hb8 zr xr Br d2
    go_wp2_with (at_builtin; refine wpList_plain rfl (fun K hK => wp_append_run (.tmp 36) (.tmp 39) 71 rfl rfl rfl R8.out (hK _ _ ?_)))
    clear R8
    try go_wp2_with fail
    refine (rnum_any w8 c.2.2.2.1 h64).mono ?_
    rintro e w9 ⟨u9, rfl, own9, hb9⟩
    have s9 := hb9.size
    obtain ⟨v10, w10, run10, o10, hb10⟩ := (o8.keep hb9).app own9 n3.1 (by rw [List.length_append]; omega) (by omega)
    have R10 := hide run10
    have z10 := (hb10.block _ s1).trans ((hb9.block _ (lt_of_heap z8)).trans z8)
    have x10 := (hb10.block _ y1).trans ((hb9.block _ (lt_of_heap x8)).trans x8)
    have B10 := (B8.trans (hb9.mono B8.size)).trans (hb10.mono B1.size)
    have s10 := hb10.size
    have d4 := rc (i := 4) z10 rfl
    clear run10 own9 o8 hb9 hb10 z8 x8 B8 d3
    go_wp2_with (at_builtin; refine wpList_plain rfl (fun K hK => wp_append_run (.tmp 41) (.tmp 44) 71 rfl rfl rfl R10.out (hK _ _ ?_)))
    clear R10
    try go_wp2_with fail
    refine (rtext_any w10 c.2.2.2.2 (by omega)).mono ?_
    rintro e w11 ⟨u11, rfl, own11, hb11⟩
    have s11 := hb11.size
    obtain ⟨v12, w12, run12, o12, hb12⟩ := (o10.keep hb11).app own11 t2.1 (by simp only [List.length_append]; omega) (by omega)
    have R12 := hide run12
    have x12 := (hb12.block _ y1).trans ((hb11.block _ (lt_of_heap x10)).trans x10)
    have B12 := (B10.trans (hb11.mono B10.size)).trans (hb12.mono B1.size)
    have hp := rput_any _ _ _ q o12.sl (by
      intro hqt
      obtain ⟨h1, h2⟩ := hq2 hqt
      have h3 := hq.trans hqt
      simp only [commitOk, Bool.and_eq_true, decide_eq_true_eq, isIdB] at h3
      obtain ⟨⟨⟨⟨⟨⟨g0, _⟩, _⟩, _⟩, g5⟩, g6⟩, _⟩ := h3
      have g7 : L.length ≤ 400 := by rw [← HL.out]; simp only [List.length_append, List.length_cons, List.length_nil]; omega
      simp only [List.length_append]
      omega)
    have hmq : made q (L ++ txt c.2.2.1 ++ num c.2.2.2.1 ++ txt c.2.2.2.2) = made q (75 :: commitB c) := by
      cases q with
      | false => rw [made_no', made_no']
      | true =>
        rw [← HL.out, hlt rfl]
        simp [commitB, listB]
    rw [hmq, HM.out] at hp
    have HP := hide hp
    clear run12 own11 o10 o12 hb11 hb12 z10 x10 B10 d4 hp hmq
    go_wp2_with (at_builtin; refine wpList_plain rfl (fun K hK => wp_append_run (.tmp 46) (.tmp 49) 71 rfl rfl rfl R12.out (hK _ _ ?_)))
    clear R12
    try go_wp2_with fail
    refine HP.out.mono ?_
    rintro e w13 ⟨rfl, hb13⟩
    have x13 := (hb13.block _ (lt_of_heap x12)).trans x12
    have B13 := hb0.trans ((B12.mono hb0.size).trans (hb13.mono (Nat.le_trans hb0.size B12.size)))
    have f0 := rc (i := 0) x13 rfl
    have f1 := rc (i := 1) x13 rfl
    have f2 := frozen0 (j := 0) x13
    have f3 := frozen0 (j := 1) x13
    clear hb13
    go_wp2
    refine bodyPost_ret (results_cell_tmp_row rfl _ _ _ _ _ _ _ rfl (heap_set2 x13) Tryd.underlying27 rfl Tryd.infoObj) rfl ⟨rfl, ?_⟩
    exact (B13.setCell (p := ⟨w.heap.size + 1, 0, none⟩) (by simp) _).setCell (p := ⟨w.heap.size + 1, 1, none⟩) (by simp) _
end Go.Proofs.YtdbmngbinhemeabDoor
