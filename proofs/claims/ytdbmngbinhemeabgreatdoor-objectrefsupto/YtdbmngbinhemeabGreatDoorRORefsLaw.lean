/-
  ObjectRefs, walked: which ids an object names, and which object bytes are, by the program and by the reference. Conditions: what came in lies there, has at most a million bytes; the table holds its numbers.
-/
import Derived.Test.YtdbmngbinhemeabGreatDoorRORRefs
import Derived.Test.YtdbmngbinhemeabGreatDoorRQ4
import Derived.Test.YtdbmngbinhemeabGreatDoorROSame
import Derived.Test.YtdbmngbinhemeabGreatDoorRP4
import Derived.Test.YtdbmngbinhemeabGreatDoorROChunk
namespace Go.Proofs.YtdbmngbinhemeabGreatDoor
open Go.RowKit

theorem refsSaid_form (b : Bs) : ∃ (xs : List Bs) (k : Int), ∀ B e w', refsSaid B b e w' → ∃ v, e = .returned (.tuple #[v, .int .i64 k]) ∧ w'.ownsRow B 9 1 v xs.length (xs.flatMap idC) := by
  unfold refsSaid
  by_cases h : objB b = true
  · simp only [h, if_true]
    exact ⟨_, 0, fun B e w' ⟨v, he, ho⟩ => ⟨v, he, ho⟩⟩
  · simp only [h]
    exact ⟨[], 81, fun B e w' he => ⟨_, he, World.ownsRow_nil _ _ _ _⟩⟩
theorem O_keep {w : World} {B n g k : Nat} {v u : Value} {xs : List Value} (h : w.ownsRow B 9 1 v n xs) (hg : g < B) : (w.setCell ⟨g, k, none⟩ u).ownsRow B 9 1 v n xs :=
  h.kept (gb_set w g k u) (.inr (fun e => by have := (h.lt g e).1; omega))
set_option maxRecDepth 40000 in
set_option maxHeartbeats 3200000 in
theorem refsLaw_any (w : World) (bs : ByteArray) (vp : Value) (ps : List Bs) (hb : bs.size ≤ 140737488351232) (hp : Ls w.heap.size w 1 idC vp ps) (hsz : ps.flatten.length ≤ 1048576) (hT : TabW w) :
    Calls Tryz.prog 3 #[.string bs, vp] w fun e w' => e = .returned (.bool true) ∧ Below w.heap.size w w' := by
  obtain ⟨b, rfl⟩ : ∃ l, bs = strB l := ⟨_, (strB_of bs).symm⟩
  rw [strB_size] at hb
  obtain ⟨xs, kk, hform⟩ := refsSaid_form b
  have h0 := hT.1
  have hR1 := fun W => refsX_any W b (by omega)
  have hR2 := fun W => rrefs_any W b hb
  have HF := hide hform
  have HP := hide hp
  have HT := hide hT
  obtain ⟨pa, pc, rfl, pl1, pl2, -⟩ := hp
  unfold maxLen at pl2
  have HSZ := hide hsz
  clear hform hT hsz
  go_enter Tryz.func3, Tryz.ntmps3
  go_wp2_with fail
  refine (shown_any w HT.out).mono ?_
  rintro e w1 ⟨rfl, hb1⟩
  go_wp2_with fail
  refine (hR1 w1).mono ?_
  rintro e w2 ⟨he, hb2⟩
  obtain ⟨v2, rfl, own2⟩ := HF.out _ _ _ he
  have B2 := hb1.trans (hb2.mono hb1.size)
  have O2 := hide own2
  obtain ⟨a2, c2, rfl, xl1, xl2⟩ := own_form own2
  unfold maxLen at xl2
  clear he own2
  go_wp2_with fail
  refine (hR2 w2).mono ?_
  rintro e w3 ⟨he, hb3⟩
  obtain ⟨v3, rfl, own3⟩ := HF.out _ _ _ he
  have B3 := B2.trans (hb3.mono B2.size)
  have O3 := hide own3
  have O2' := hide (own_below O2.out hb3)
  obtain ⟨a3, c3, rfl, -⟩ := own_form own3
  clear he own3
  go_wp2_with fail
  refine (sameIds_any w3 xs xs _ _ (ls_of_own idC_length O2'.out) (ls_of_own idC_length O3.out)).mono ?_
  rintro e w4 ⟨rfl, hb4⟩
  rw [decide_eq_true rfl]
  have B4 := B3.trans (hb4.mono B3.size)
  have o2 := own_below O2'.out hb4
  have O3' := hide (own_below O3.out hb4)
  have s2 := hb2.size
  have s3 := hb3.size
  have s4 := hb4.size
  have hw1 := hb1.size
  have hrow : xs.length = 0 ∨ ∃ g cur, a2 = some ⟨g, 0, none⟩ ∧ w1.heap.size ≤ g ∧ g < w2.heap.size ∧ w4.heap[g]? = some (.cells cur 9) ∧ xs.length ≤ cur.size := by
    have hlt2 := fun g hg => (O2.out.lt g hg).2
    rcases o2.2 with ⟨-, e1⟩ | ⟨g, cap, cur, e1, hg1, hg2, hg3, hg4, hg5, hg6⟩
    · exact .inl e1
    · injection e1 with e1 _ e3
      refine .inr ⟨g, cur, e1, hg1, hlt2 g (by rw [e1]; rfl), hg2, ?_⟩
      omega
  clear O2 O2' O3 o2
  go_wp2_with fail
  go_loopw [11] (fun t wr => ∃ (k : Nat), k ≤ xs.length ∧ t = .int .i64 k ∧ (xs.length = 0 ∨ ∃ g cur, a2 = some ⟨g, 0, none⟩ ∧ w1.heap.size ≤ g ∧ g < w2.heap.size ∧ wr.heap[g]? = some (.cells cur 9) ∧ xs.length ≤ cur.size) ∧ wr.ownsRow w2.heap.size 9 1 (.slice a3 xs.length c3) xs.length (xs.flatMap idC) ∧ Below w.heap.size w wr ∧ w4.heap.size ≤ wr.heap.size) (fun t _ => xs.length - (intOf t).toNat)
  case atStart => exact ⟨0, by omega, rfl, hrow, O3'.out, B4, Nat.le_refl _⟩
  case round =>
    obtain ⟨k, hk, rfl, hrw, hown3, bb, ss⟩ := hrel
    clear hrow
    by_cases hlt : k < xs.length
    · rcases hrw with hz | ⟨g, cur, rfl, hg1, hg2, hg3, hg4⟩
      · omega
      have hk2 : k < cur.size := by omega
      obtain ⟨u, hu⟩ : ∃ u, cur[k]? = some u := ⟨_, Array.getElem?_eq_getElem hk2⟩
      have c0 := rc (i := k) hg3 hu
      have f0 := frozen0 (j := k) hg3
      have hO3 := O_keep hown3 hg2 (k := k) (u := .string (strB [109, 105, 110, 101]))
      have hH := heap_setCell_same wr g k cur 9 (.string (strB [109, 105, 110, 101])) hg3
      have hbs := bb.setCell (p := ⟨g, k, none⟩) (by show w.heap.size ≤ g; omega) (.string (strB [109, 105, 110, 101]))
      have hss := (gb_set wr g k (.string (strB [109, 105, 110, 101]))).size
      have hcs : (cur.setIfInBounds k (.string (strB [109, 105, 110, 101]))).size = cur.size := by simp
      have H1 := hide hO3
      have H2 := hide hH
      have H3 := hide hbs
      clear hO3 hH hbs hown3
      go_wp2
      go_roundw
      case rel => exact ⟨k + 1, by omega, by go_num, .inr ⟨g, _, rfl, hg1, hg2, H2.out, by rw [hcs]; exact hg4⟩, H1.out, H3.out, Nat.le_trans ss hss⟩
      case measure => simp [intOf]; omega
    · obtain rfl : k = xs.length := by omega
      have hnl : ¬ ((xs.length : Int) < (xs.length : Int)) := by omega
      have O3 := hide hown3
      clear hrw
      clear hown3
      go_wp2_with fail
      refine (hR1 wr).mono ?_
      rintro e w5 ⟨he, hb5⟩
      obtain ⟨v5, rfl, own5⟩ := HF.out _ _ _ he
      have B5 := bb.trans (hb5.mono bb.size)
      have O5 := hide own5
      have O3' := hide (own_below O3.out hb5)
      obtain ⟨a5, c5, rfl, -⟩ := own_form own5
      clear he own5 O3
      go_wp2_with fail
      go_loopw [14, 15] (fun s t wq => ∃ (k : Nat) (l : Bs), k ≤ ps.length ∧ t = .int .i64 k ∧ l = (ps.take k).flatten ∧ Ow w5.heap.size wq s l ∧ Below w5.heap.size w5 wq) (fun _ t _ => ps.length - (intOf t).toNat)
      case atStart => exact ⟨0, [], by omega, rfl, rfl, World.ownsRow_nil _ _ _ _, Below.refl _ _⟩
      case round =>
        obtain ⟨k, l, hk, rfl, hl, ow, bq⟩ := hrel
        have HL := hide hl
        have hll : l.length ≤ 1048576 := by
          have h1 := HSZ.out
          rw [hl]
          have h2 : ps.flatten = (ps.take k).flatten ++ (ps.drop k).flatten := by rw [← List.flatten_append, List.take_append_drop]
          rw [h2, List.length_append] at h1
          omega
        obtain ⟨al, nl, cl, rfl⟩ := ow.form
        have HB := hide (B5.trans (bq.mono B5.size))
        have HQ := hide bq
        have HO := hide ow
        clear hl bq ow
        by_cases hlt : k < ps.length
        · obtain ⟨ao', cap', he, -, -, h4⟩ := HP.out
          obtain ⟨b0, off, rfl, hbB, hc⟩ := h4 (by intro e; rw [e] at hlt; simp at hlt)
          injection he with he _ he2
          subst he he2
          have k0 := (HB.out.cell (p := ⟨b0, off + k * 1 + 0, none⟩) hbB).trans (hc k hlt 0 _ rfl)
          simp only [Nat.add_zero, Nat.mul_one] at k0
          have hst : (ps.take (k + 1)).flatten = (ps.take k).flatten ++ ps[k] := by
            rw [List.take_succ_eq_append_getElem hlt, List.flatten_append]
            simp
          have hxl : ps[k].length ≤ 1048576 := by
            have h1 := HSZ.out
            have h2 : ps.flatten = (ps.take (k + 1)).flatten ++ (ps.drop (k + 1)).flatten := by rw [← List.flatten_append, List.take_append_drop]
            rw [h2, List.length_append, hst, List.length_append] at h1
            omega
          have HST := hide hst
          generalize ps[k] = x at *
          obtain ⟨v7, w7, run7, o7, hb7⟩ := HO.out.str (m := x) (by omega) (HQ.out.size)
          obtain ⟨a7, n7, c7, rfl⟩ := o7.form
          have R7 := hide run7
          have O7 : Hid (Ow w5.heap.size w7 (.slice a7 n7 c7) (l ++ x)) := hide o7
          clear run7 hst hc o7
          go_wp2_with (at_builtin; refine wpList_plain rfl (fun K hK => wp_append_run2 (.tmp 50) (.tmp 54) 28 9 rfl rfl rfl R7.out (hK _ _ ?_)))
          try go_wp2
          go_roundw
          case rel => exact ⟨k + 1, l ++ x, by omega, by go_num, by rw [HST.out, ← HL.out], O7.out, HQ.out.trans hb7⟩
          case measure => simp [intOf]; omega
        · obtain rfl : k = ps.length := by omega
          have hnl2 : ¬ ((ps.length : Int) < (ps.length : Int)) := by omega
          have hlf : l = ps.flatten := by rw [HL.out, List.take_length]
          have HLF := hide hlf
          have hdq : Below wr.heap.size wr wr.drew := (Below.refl _ _).drew
          have hsl := HO.out.sl
          have hq5 := HQ.out.size
          have hcv := fun (W : World) (hW : Below wr.heap.size wr W) => run_strV hsl W hW
          have Bd : Below w.heap.size w wr.drew := HB.out.drew
          have O5q := hide (own_below (own_below O5.out HQ.out) hdq)
          have O3q := hide (own_below (own_below O3'.out HQ.out) hdq)
          have heo : ∀ W, (binOp .eql 30 (objV l) (objV l)).run Tryz.prog W = .ok (.bool true) W := fun W => by rw [objV_def, eql_Obj]; simp
          rw [objV_def] at heo
          have hof := fun W h1 h2 => of_any W (.slice pa ps.length pc) ps h1 h2 (by have := HSZ.out; omega)
          have hrf := fun W => rof_any W l hll
          rw [← hlf, objV_def] at hof
          rw [objV_def] at hrf
          generalize sha l = Sx at *
          clear hlf
          have kkb : (kk == kk) = true := by simp
          go_wp2_with fail
          refine wp_region_held_drew (S := fun W => (convert 28 9 (.slice al nl cl)).run Tryz.prog W = .ok (.string (strB l)) W) (by kernel_rfl) (hcv _ hdq) (fun hHeld => ?_)
          refine takeH (i := 0) (v := ?_) rfl (by kernel_rfl) (by kernel_rfl) (by kernel_rfl) (fun _ _ _ h => h) rfl ?_ hHeld ?_
          rotate_left
          · intro w hS; (try dsimp only at hS); obtain hS0 := hS; go_simp; first | done | (with_reducible rfl)
          try simp only [Act.put, List.setIfInBounds_toArray, List.set_cons_zero, List.set_cons_succ]
          refine takeH (i := 1) (v := ?_) rfl (by kernel_rfl) (by kernel_rfl) (by kernel_rfl) (fun _ _ _ h => h) rfl ?_ hHeld ?_
          rotate_left
          · intro w hS; (try dsimp only at hS); obtain hS0 := hS; go_simp; first | done | (with_reducible rfl)
          try simp only [Act.put, List.setIfInBounds_toArray, List.set_cons_zero, List.set_cons_succ]
          refine takeH (i := 2) (v := ?_) rfl (by kernel_rfl) (by kernel_rfl) (by kernel_rfl) (fun _ _ _ h => h) rfl ?_ hHeld ?_
          rotate_left
          · intro w hS; (try dsimp only at hS); obtain hS0 := hS; go_simp; first | done | (with_reducible rfl)
          try simp only [Act.put, List.setIfInBounds_toArray, List.set_cons_zero, List.set_cons_succ]
          refine takeH (i := 3) (v := ?_) rfl (by kernel_rfl) (by kernel_rfl) (by kernel_rfl) (fun _ _ _ h => h) rfl ?_ hHeld ?_
          rotate_left
          · intro w hS; (try dsimp only at hS); obtain hS0 := hS; go_simp; first | done | (with_reducible rfl)
          try simp only [Act.put, List.setIfInBounds_toArray, List.set_cons_zero, List.set_cons_succ]
          refine takeH (i := 4) (v := ?_) rfl (by kernel_rfl) (by kernel_rfl) (by kernel_rfl) (fun _ _ _ h => h) rfl ?_ hHeld ?_
          rotate_left
          · intro w hS; (try dsimp only at hS); obtain hS0 := hS; go_simp; first | done | (with_reducible rfl)
          try simp only [Act.put, List.setIfInBounds_toArray, List.set_cons_zero, List.set_cons_succ]
          refine takeH (i := 5) (v := ?_) rfl (by kernel_rfl) (by kernel_rfl) (by kernel_rfl) (fun _ _ _ h => h) rfl ?_ hHeld ?_
          rotate_left
          · intro w hS; (try dsimp only at hS); obtain hS0 := hS; go_simp; first | done | (with_reducible rfl)
          try simp only [Act.put, List.setIfInBounds_toArray, List.set_cons_zero, List.set_cons_succ]
          refine takeH (i := 6) (v := ?_) rfl (by kernel_rfl) (by kernel_rfl) (by kernel_rfl) (fun _ _ _ h => h) rfl ?_ hHeld ?_
          rotate_left
          · intro w hS; (try dsimp only at hS); obtain hS0 := hS; go_simp; first | done | (with_reducible rfl)
          try simp only [Act.put, List.setIfInBounds_toArray, List.set_cons_zero, List.set_cons_succ]
          refine takeH (i := 7) (v := ?_) rfl (by kernel_rfl) (by kernel_rfl) (by kernel_rfl) (fun _ _ _ h => h) rfl ?_ hHeld ?_
          rotate_left
          · intro w hS; (try dsimp only at hS); obtain hS0 := hS; go_simp; first | done | (with_reducible rfl)
          try simp only [Act.put, List.setIfInBounds_toArray, List.set_cons_zero, List.set_cons_succ]
          refine takeH (i := 8) (v := ?_) rfl (by kernel_rfl) (by kernel_rfl) (by kernel_rfl) (fun _ _ _ h => h) rfl ?_ hHeld ?_
          rotate_left
          · intro w hS; (try dsimp only at hS); obtain hS0 := hS; go_simp; first | done | (with_reducible rfl)
          try simp only [Act.put, List.setIfInBounds_toArray, List.set_cons_zero, List.set_cons_succ]
          refine takeH (i := 9) (v := ?_) rfl (by kernel_rfl) (by kernel_rfl) (by kernel_rfl) (fun _ _ _ h => h) rfl ?_ hHeld ?_
          rotate_left
          · intro w hS; (try dsimp only at hS); obtain hS0 := hS; go_simp; first | done | (with_reducible rfl)
          try simp only [Act.put, List.setIfInBounds_toArray, List.set_cons_zero, List.set_cons_succ]
          refine takeH (i := 10) (v := ?_) rfl (by kernel_rfl) (by kernel_rfl) (by kernel_rfl) (fun _ _ _ h => h) rfl ?_ hHeld ?_
          rotate_left
          · intro w hS; (try dsimp only at hS); obtain hS0 := hS; go_simp; first | done | (with_reducible rfl)
          try simp only [Act.put, List.setIfInBounds_toArray, List.set_cons_zero, List.set_cons_succ]
          refine takeH (i := 11) (v := ?_) rfl (by kernel_rfl) (by kernel_rfl) (by kernel_rfl) (fun _ _ _ h => h) rfl ?_ hHeld ?_
          rotate_left
          · intro w hS; (try dsimp only at hS); obtain hS0 := hS; go_simp; first | done | (with_reducible rfl)
          try simp only [Act.put, List.setIfInBounds_toArray, List.set_cons_zero, List.set_cons_succ]
          refine onlyH (i := 12) rfl (by kernel_rfl) rfl (fun K hK => ?_)
          go_simp
          refine (sameIds_any wr.drew xs xs _ _ (ls_of_own idC_length O5q.out) (ls_of_own idC_length O3q.out)).mono ?_
          rintro e w8 ⟨rfl, hb8⟩
          rw [decide_eq_true rfl]
          have hq8 : Below wr.heap.size wr w8 := hdq.trans hb8
          have B8 := Bd.trans (hb8.mono Bd.size)
          refine hK.out _ _ ((hcv _ hq8)) (fun hHeld => ?_)
          clear hK K
          try simp only [Act.put, List.setIfInBounds_toArray, List.set_cons_zero, List.set_cons_succ]
          refine takeH (i := 13) (v := ?_) rfl (by kernel_rfl) (by kernel_rfl) (by kernel_rfl) (fun _ _ _ h => h) rfl ?_ hHeld ?_
          rotate_left
          · intro w hS; (try dsimp only at hS); obtain hS0 := hS; go_simp; first | done | (with_reducible rfl)
          try simp only [Act.put, List.setIfInBounds_toArray, List.set_cons_zero, List.set_cons_succ]
          refine takeH (i := 14) (v := ?_) rfl (by kernel_rfl) (by kernel_rfl) (by kernel_rfl) (fun _ _ _ h => h) rfl ?_ hHeld ?_
          rotate_left
          · intro w hS; (try dsimp only at hS); obtain hS0 := hS; go_simp; first | done | (with_reducible rfl)
          try simp only [Act.put, List.setIfInBounds_toArray, List.set_cons_zero, List.set_cons_succ]
          refine takeH (i := 15) (v := ?_) rfl (by kernel_rfl) (by kernel_rfl) (by kernel_rfl) (fun _ _ _ h => h) rfl ?_ hHeld ?_
          rotate_left
          · intro w hS; (try dsimp only at hS); obtain hS0 := hS; go_simp; first | done | (with_reducible rfl)
          try simp only [Act.put, List.setIfInBounds_toArray, List.set_cons_zero, List.set_cons_succ]
          refine takeH (i := 17) (v := ?_) rfl (by kernel_rfl) (by kernel_rfl) (by kernel_rfl) (fun _ _ _ h => h) rfl ?_ hHeld ?_
          rotate_left
          · intro w hS; (try dsimp only at hS); obtain hS0 := hS; go_simp; first | done | (with_reducible rfl)
          try simp only [Act.put, List.setIfInBounds_toArray, List.set_cons_zero, List.set_cons_succ]
          refine takeH (i := 18) (v := ?_) rfl (by kernel_rfl) (by kernel_rfl) (by kernel_rfl) (fun _ _ _ h => h) rfl ?_ hHeld ?_
          rotate_left
          · intro w hS; (try dsimp only at hS); obtain hS0 := hS; go_simp; first | done | (with_reducible rfl)
          try simp only [Act.put, List.setIfInBounds_toArray, List.set_cons_zero, List.set_cons_succ]
          refine onlyH (i := 16) rfl (by kernel_rfl) rfl (fun K hK => ?_)
          go_simp
          refine (hof w8 ((HP.out.keep B8).up B8.size) (HT.out.keep B8 h0)).mono ?_
          rintro e w9 ⟨rfl, hb9⟩
          have hq9 := hq8.trans (hb9.mono hq8.size)
          have B9 := B8.trans (hb9.mono B8.size)
          refine hK.out _ _ ((hcv _ hq9)) (fun hHeld => ?_)
          clear hK K
          try simp only [Act.put, List.setIfInBounds_toArray, List.set_cons_zero, List.set_cons_succ]
          refine onlyH (i := 19) rfl (by kernel_rfl) rfl (fun K hK => ?_)
          go_simp
          refine (hrf w9).mono ?_
          rintro e w10 ⟨rfl, hb10⟩
          have hq10 := hq9.trans (hb10.mono hq9.size)
          have B10 := B9.trans (hb10.mono B9.size)
          refine hK.out _ _ ((hcv _ hq10)) (fun hHeld => ?_)
          clear hK K
          try simp only [Act.put, List.setIfInBounds_toArray, List.set_cons_zero, List.set_cons_succ]
          refine takeH (i := 20) (v := ?_) rfl (by kernel_rfl) (by kernel_rfl) (by kernel_rfl) (fun _ _ _ h => h) rfl ?_ hHeld ?_
          rotate_left
          · intro w hS; (try dsimp only at hS); obtain hS0 := hS; go_simp; first | done | (with_reducible rfl)
          try simp only [Act.put, List.setIfInBounds_toArray, List.set_cons_zero, List.set_cons_succ]
          refine takeH (i := 21) (v := ?_) rfl (by kernel_rfl) (by kernel_rfl) (by kernel_rfl) (fun _ _ _ h => h) rfl ?_ hHeld ?_
          rotate_left
          · intro w hS; (try dsimp only at hS); obtain hS0 := hS; go_simp; first | done | (with_reducible rfl)
          try simp only [Act.put, List.setIfInBounds_toArray, List.set_cons_zero, List.set_cons_succ]
          refine takeH (i := 22) (v := ?_) rfl (by kernel_rfl) (by kernel_rfl) (by kernel_rfl) (fun _ _ _ h => h) rfl ?_ hHeld ?_
          rotate_left
          · intro w hS; (try dsimp only at hS); obtain hS0 := hS; go_simp; first | done | (with_reducible rfl)
          try simp only [Act.put, List.setIfInBounds_toArray, List.set_cons_zero, List.set_cons_succ]
          refine wpAnyH_done (by kernel_rfl) ?_ _
          clear hHeld
          go_wp2
          go_ret
          exact ⟨rfl, B10⟩
end Go.Proofs.YtdbmngbinhemeabGreatDoor
