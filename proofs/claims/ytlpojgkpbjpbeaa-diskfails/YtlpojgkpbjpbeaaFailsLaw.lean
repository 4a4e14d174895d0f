/-
  DiskFails' walk: a failing operation leaves what was sure. Conditions: what came in lies there.
-/
import Derived.Test.YtlpojgkpbjpbeaaArgs
import Derived.Test.YtlpojgkpbjpbeaaFailsPure
import Derived.RangeFuncBox
namespace Go.Proofs.Ytlpojgkpbjpbeaa
open Go.RowKit

set_option maxRecDepth 20000 in
set_option maxHeartbeats 8000000 in
theorem fails_any (w : World) (v0 v1 v2 : Value) (b : List UInt8) (more names : List (List UInt8)) (keep t : Int) (h0 : Sb w.heap.size w v0 b) (h1 : Bs w.heap.size w v1 more) (h2 : Tb w.heap.size w v2 names)
    (hl1 : more.length ≤ 4611686018427387904) (hl2 : names.length ≤ 4611686018427387904) (hl0 : b.length ≤ 4611686018427387904) :
    Calls Try.prog 6 #[v0, v1, v2, .int .i64 keep, .int .i64 t] w fun e w' => e = .returned (.bool true) ∧ Below w.heap.size w w' := by
  have h0' := h0
  obtain ⟨a0, c0, rfl, q0, q0', -, -⟩ := h0'
  have hob := h0.take (k := min b.length 1000) (Nat.min_le_left _ _)
  have ho : (b.take (min b.length 1000)).length = min b.length 1000 := by simp
  obtain ⟨o, hoo⟩ : ∃ o, o = b.take (min b.length 1000) := ⟨_, rfl⟩
  rw [← hoo] at ho hob
  have hom : o.length ≤ 1000 := by omega
  rw [← ho] at hob
  have HM := hide (show (min (b.length : Int) 1000).toNat = o.length by omega)
  clear ho hoo
  have hcv := fun (W : World) (C : Array Value) (l c : Nat) => conv33 W C l c W.heap.size rfl
  obtain ⟨f1, f2⟩ := first_append o hom
  obtain ⟨f3, f4, f5⟩ := first_sync o
  have hbk0 : (Dk.new 1048576).bulk = 0 := rfl
  have hbk1 := bulk_append (S := Dk.new 1048576) kept o
  go_enter Try.func6, Try.ntmps6
  go_wp2_with fail
  refine (shown_any w).mono ?_
  rintro e w1 ⟨rfl, hb1⟩
  go_wp2_with fail
  refine (new_lies2 (B := w.heap.size) w1 hb1.size 1048576 (by decide)).mono ?_
  rintro e w2 ⟨rfl, hs, hc⟩
  have hb2 := hb1.trans (chg_below hc hb1.size)
  have hz2 := hb2.size
  go_wp2_with fail
  rw [HM.out]
  refine (append_in hs hz2 kept (by omega) (hob.keep hb2)).mono ?_
  rintro e w3 ⟨rfl, ha⟩
  have hb3 := hb2.trans (ha.below hs hz2)
  have hz3 := hb3.size
  rw [f1]
  rw [f2] at ha hbk1
  obtain ⟨F3, hs3, -⟩ := ha.stands
  clear ha hs f1 f2
  go_wp2_with fail
  refine (sync_lies hs3 hz3 kept (by omega)).mono ?_
  rintro e w4 ⟨rfl, ha⟩
  have hb4 := hb3.trans (ha.below hs3 hz3)
  have hz4 := hb4.size
  have hbk2 := bulk_sync (S := (Dk.new 1048576).next.app kept o) kept
  rw [f3]
  obtain ⟨F4, hs4, -⟩ := ha.stands
  clear ha hs3 f3
  go_wp2_with fail
  refine (syncDir_lies hs4 hz4 (by omega)).mono ?_
  rintro e w5 ⟨rfl, ha⟩
  have hb5 := hb4.trans (ha.below hs4 hz4)
  rw [f4]
  rw [f5] at ha
  obtain ⟨F5, hs5, -⟩ := ha.stands
  clear ha hs4 f4 f5 hbk2 hbk1 hbk0
  have h1' := h1
  obtain ⟨a1, c1, rfl, g1, g1', -⟩ := h1'
  have h2' := h2
  obtain ⟨a2, c2, rfl, g2, g2', -⟩ := h2'
  generalize w1.heap.size = d at *
  go_wp2
  go_loopw [10, 18, 19] (fun r i k wr => ∃ (j : Nat) (F : Nat → Prop) (x : List UInt8) (acts : List Ac), r = .bool false ∧ i = .int .i64 (j : Int) ∧ j ≤ more.length ∧ j ≤ 20 ∧ Stands w.heap.size wr F d (held o x acts (3 + j) fun _ => false) ∧
      x.length ≤ 1000 * j ∧ acts.length ≤ j ∧ (∀ a ∈ acts, ∃ k, a = .more 0 k) ∧ Below w.heap.size w wr)
    (fun _ i _ _ => 20 - (intOf i).toNat)
  case atStart => exact ⟨0, F5, [], [], rfl, rfl, by omega, by omega, hs5, by simp, by simp, by simp, hb5⟩
  case round =>
    obtain ⟨j, F, x, acts, rfl, rfl, hj1, hj2, hst, hx, hac, haa, hbr⟩ := hrel
    have hzr := hbr.size
    by_cases hlt : j < more.length ∧ j < 20
    · obtain ⟨j1, j2⟩ := hlt
      obtain ⟨mb, moff, rfl, hmb, u, hu, hub⟩ := Bs.at (h1.keep hbr) j1
      have hml : (more[j]).length ≤ maxLen := by
        obtain ⟨ua, uc, -, u1, u2, -, -⟩ := hub
        omega
      have hub' := hub
      obtain ⟨ua, uc, rfl, u1, u2, -, -⟩ := hub'
      obtain ⟨om, -, hom1, hom2, hom3⟩ := hub.thousand
      have HM1 := hide hom2
      have hmx : (more[j]).length ≤ 9223372036854775807 := by unfold maxLen at hml; exact hml
      generalize (more[j]).length = ml at *
      clear hom2 hml hub
      obtain ⟨e1, y, cs, e2, e3, e4, e5⟩ := held_append o x om acts (3 + j) (by omega)
      have hbk := held_bulk o x acts (3 + j) fun _ => false
      have hq1 : (0 : Int) ≤ min (ml : Int) 1000 := by omega
      have hq2 : min (ml : Int) 1000 ≤ (uc : Int) := by omega
      go_wp2_with fail
      refine wp_region_held_drew (S := fun W => W.cell? ⟨mb, moff + j, none⟩ = some (.slice ua ml uc)) (by kernel_rfl) (hu) (fun hHeld => ?_)
      refine takeH (i := 0) (v := ?_) rfl (by kernel_rfl) (by kernel_rfl) (by kernel_rfl) (fun _ _ _ h => h) rfl ?_ hHeld ?_
      rotate_left
      · intro w hS; (try dsimp only at hS); obtain hS0 := hS; go_simp; first | done | (with_reducible rfl)
      try simp only [Act.put, List.setIfInBounds_toArray, List.set_cons_zero, List.set_cons_succ]
      refine takeH (i := 1) (v := ?_) rfl (by kernel_rfl) (by kernel_rfl) (by kernel_rfl) (fun _ _ _ h => h) rfl ?_ hHeld ?_
      rotate_left
      · intro w hS; (try dsimp only at hS); obtain hS0 := hS; go_simp; first | done | (with_reducible rfl)
      try simp only [Act.put, List.setIfInBounds_toArray, List.set_cons_zero, List.set_cons_succ]
      refine takeH (i := 2) (v := ?_) rfl (by kernel_rfl) (by kernel_rfl) (by kernel_rfl) (fun _ _ _ h => h) rfl ?_ hHeld ?_
      rotate_left
      · intro w hS; (try dsimp only at hS); obtain hS0 := hS; go_simp; first | done | (with_reducible rfl)
      try simp only [Act.put, List.setIfInBounds_toArray, List.set_cons_zero, List.set_cons_succ]
      refine takeH (i := 3) (v := ?_) rfl (by kernel_rfl) (by kernel_rfl) (by kernel_rfl) (fun _ _ _ h => h) rfl ?_ hHeld ?_
      rotate_left
      · intro w hS; (try dsimp only at hS); obtain hS0 := hS; go_simp; first | done | (with_reducible rfl)
      try simp only [Act.put, List.setIfInBounds_toArray, List.set_cons_zero, List.set_cons_succ]
      refine takeH (i := 4) (v := ?_) rfl (by kernel_rfl) (by kernel_rfl) (by kernel_rfl) (fun _ _ _ h => h) rfl ?_ hHeld ?_
      rotate_left
      · intro w hS; (try dsimp only at hS); obtain hS0 := hS; go_simp; first | done | (with_reducible rfl)
      try simp only [Act.put, List.setIfInBounds_toArray, List.set_cons_zero, List.set_cons_succ]
      refine takeH (i := 5) (v := ?_) rfl (by kernel_rfl) (by kernel_rfl) (by kernel_rfl) (fun _ _ _ h => h) rfl ?_ hHeld ?_
      rotate_left
      · intro w hS; (try dsimp only at hS); obtain hS0 := hS; go_simp; first | done | (with_reducible rfl)
      try simp only [Act.put, List.setIfInBounds_toArray, List.set_cons_zero, List.set_cons_succ]
      refine takeH (i := 6) (v := ?_) rfl (by kernel_rfl) (by kernel_rfl) (by kernel_rfl) (fun _ _ _ h => h) rfl ?_ hHeld ?_
      rotate_left
      · intro w hS; (try dsimp only at hS); obtain hS0 := hS; go_simp; first | done | (with_reducible rfl)
      try simp only [Act.put, List.setIfInBounds_toArray, List.set_cons_zero, List.set_cons_succ]
      refine takeH (i := 7) (v := ?_) rfl (by kernel_rfl) (by kernel_rfl) (by kernel_rfl) (fun _ _ _ h => h) rfl ?_ hHeld ?_
      rotate_left
      · intro w hS; (try dsimp only at hS); obtain hS0 := hS; go_simp; first | done | (with_reducible rfl)
      try simp only [Act.put, List.setIfInBounds_toArray, List.set_cons_zero, List.set_cons_succ]
      refine takeH (i := 8) (v := ?_) rfl (by kernel_rfl) (by kernel_rfl) (by kernel_rfl) (fun _ _ _ h => h) rfl ?_ hHeld ?_
      rotate_left
      · intro w hS; (try dsimp only at hS); obtain hS0 := hS; go_simp; first | done | (with_reducible rfl)
      try simp only [Act.put, List.setIfInBounds_toArray, List.set_cons_zero, List.set_cons_succ]
      refine takeH (i := 9) (v := ?_) rfl (by kernel_rfl) (by kernel_rfl) (by kernel_rfl) (fun _ _ _ h => h) rfl ?_ hHeld ?_
      rotate_left
      · intro w hS; (try dsimp only at hS); obtain hS0 := hS; go_simp; first | done | (with_reducible rfl)
      try simp only [Act.put, List.setIfInBounds_toArray, List.set_cons_zero, List.set_cons_succ]
      refine takeH (i := 10) (v := ?_) rfl (by kernel_rfl) (by kernel_rfl) (by kernel_rfl) (fun _ _ _ h => h) rfl ?_ hHeld ?_
      rotate_left
      · intro w hS; (try dsimp only at hS); obtain hS0 := hS; go_simp; first | done | (with_reducible rfl)
      try simp only [Act.put, List.setIfInBounds_toArray, List.set_cons_zero, List.set_cons_succ]
      refine takeH (i := 11) (v := ?_) rfl (by kernel_rfl) (by kernel_rfl) (by kernel_rfl) (fun _ _ _ h => h) rfl ?_ hHeld ?_
      rotate_left
      · intro w hS; (try dsimp only at hS); obtain hS0 := hS; go_simp; first | done | (with_reducible rfl)
      try simp only [Act.put, List.setIfInBounds_toArray, List.set_cons_zero, List.set_cons_succ]
      refine onlyH (i := 12) rfl (by kernel_rfl) rfl (fun K hK => ?_)
      go_simp
      rw [HM1.out]
      have hst' := hst.keep ((Chg.refl (fun _ => False) wr).drew) (fun _ _ h => h)
      have hbd : Below w.heap.size wr wr.drew := (Below.refl _ _).drew
      refine (append_in hst' hzr kept (by omega) (hom3.keep hbd)).mono ?_
      rintro e w6 ⟨rfl, ha⟩
      have hb6 := hbd.trans (ha.below hst' hzr)
      have hu6 := (hb6.cell (p := ⟨mb, moff + j, none⟩) hmb).trans hu
      rw [e1]
      rw [e2] at ha
      obtain ⟨F6, hs6, -⟩ := ha.stands
      have hbw6 := hbr.trans hb6
      refine hK.out _ _ (hu6) (fun hHeld => ?_)
      clear hK K
      try simp only [Act.put, List.setIfInBounds_toArray, List.set_cons_zero, List.set_cons_succ]
      refine takeH (i := 13) (v := ?_) rfl (by kernel_rfl) (by kernel_rfl) (by kernel_rfl) (fun _ _ _ h => h) rfl ?_ hHeld ?_
      rotate_left
      · intro w hS; (try dsimp only at hS); obtain hS0 := hS; go_simp; first | done | (with_reducible rfl)
      try simp only [Act.put, List.setIfInBounds_toArray, List.set_cons_zero, List.set_cons_succ]
      refine wpAnyH_done (by kernel_rfl) ?_ _
      clear hHeld ha hst' hst hu hu6
      go_wp2_with fail
      refine ⟨⟨j + 1, F6, x ++ y, acts ++ cs, rfl, by go_num, by omega, by omega, hs6, by simp; omega, by simp; omega, fun a ha => ?_, hbw6⟩, by simp [intOf]; omega⟩
      rcases List.mem_append.1 ha with ha | ha
      · exact haa a ha
      · exact e5 a ha
    · generalize hN : 3 + j = N at *
      obtain ⟨s1, s2⟩ := held_sync o x acts N haa
      have hbk := held_bulk o x acts N fun _ => false
      have hfb : ((held o x acts N fun _ => false).failAt [(N : Int)]).bulk = (held o x acts N fun _ => false).bulk := rfl
      have hc1 := held_crash o (N + 1) (fun k => false || [(N : Int)].contains (k : Int)) keep t
      have hbc := bulk_crash (S := held o [] [] (N + 1) (fun k => false || [(N : Int)].contains (k : Int))) keep t
      have hbh := held_bulk o [] [] (N + 1) (fun k => false || [(N : Int)].contains (k : Int))
      simp only [List.length_nil, Nat.add_zero] at hbh
      have hsz := held_size o (N + 1) (fun k => false || [(N : Int)].contains (k : Int))
      have hnn : (held o x acts N fun _ => false).n = N := rfl
      by_cases hA : j < more.length
      · go_wp2_with fail
        refine (ops_lies hst).mono ?_
        rintro e w7 ⟨rfl, rfl⟩
        rw [hnn]
        go_wp2_with fail
        refine (failAt_one hst hzr _).mono ?_
        rintro e w8 ⟨rfl, ha⟩
        have hb8 := hbr.trans (ha.below hst hzr)
        have hz8 := hb8.size
        obtain ⟨F8, hs8, -⟩ := ha.stands
        clear ha
        go_wp2_with fail
        refine (sync_lies hs8 hz8 kept (by omega)).mono ?_
        rintro e w9 ⟨rfl, ha⟩
        have hb9 := hb8.trans (ha.below hs8 hz8)
        have hz9 := hb9.size
        rw [s1]
        rw [s2] at ha
        obtain ⟨F9, hs9, -⟩ := ha.stands
        clear ha hs8
        go_wp2_with fail
        refine (crash_lies hs9 hz9 keep t (by omega)).mono ?_
        rintro e w10 ⟨dx, FX, rfl, hsx, hxn, hc10⟩
        have hb10 := hb9.trans (chg_below hc10 hz9)
        have hz10 := hb10.size
        have hl9 := fun k hk => (hs9.2.1 k hk).2
        have hs10 := hs9.keep hc10 (fun _ _ h => h)
        clear hs9
        go_wp2_with fail
        refine (read_lies hsx hz10 kept (by omega)).mono ?_
        rintro e w11 ⟨v, rfl, hrow, FX', -, -, hc11, -⟩
        have hb11 := hb10.trans (hsx.below hz10 hc11)
        have hz11 := hb11.size
        rw [hc1.1]
        rw [hc1.1] at hrow
        have hs11 := hs10.keep hc11 (fun k hk hx => by have := hl9 k hk; have := hxn k hx; omega)
        have hstr1 := run_str w11 v _ (sl_of_own hrow)
        have hstr2 := run_str w11 _ _ ((hob.keep hb11).sl hz11)
        clear hs10 hsx hrow
        go_wp2_with fail
        refine (size_lies hs11 kept).mono ?_
        rintro e w12 ⟨rfl, rfl⟩
        rw [hsz]
        go_wp2
        clear h0 hob HM h1 hs5 hb1 hb2 hb3 hb4 hb5 hst hbr hb8 hb9 hb10 s1 s2 hc1 hstr1 hstr2 hx hac haa hsz
        go_loopw [24] (fun i wr => ∃ (j : Nat) (F : Nat → Prop) (S : Dk), i = .int .i64 (j : Int) ∧ j ≤ names.length ∧ j ≤ 20 ∧ Stands w.heap.size wr F d S ∧ S.sure = [(kept, 0)] ∧ S.cut = none ∧ S.bulk ≤ 30000 + 100 * j ∧ Below w.heap.size w wr)
          (fun i _ => 20 - (intOf i).toNat)
        case atStart => exact ⟨0, _, _, rfl, by omega, by omega, hs11, rfl, rfl, by omega, hb11⟩
        case round =>
          clear hs11 hb11
          obtain ⟨k, F, S, rfl, hk1, hk2, hst2, hsu, hcu, hbu, hbr2⟩ := hrel
          have hzr2 := hbr2.size
          by_cases hlt2 : k < names.length ∧ k < 20
          · obtain ⟨j1, j2⟩ := hlt2
            obtain ⟨nb, noff, rfl, hnb, hnc⟩ := Tb.at (h2.keep hbr2) j1
            generalize names[k] = nm at hnc
            go_wp2_with fail
            refine (append_lit hst2 hzr2 nm [120] (by decide) (by simp; omega) _ _ _ rfl rfl).mono ?_
            rintro e w13 ⟨rfl, ha⟩
            have hb13 := hbr2.trans (ha.below hst2 hzr2)
            have hz13 := hb13.size
            have hbk13 := bulk_append (S := S) nm [120]
            simp only [List.length_cons, List.length_nil] at hbk13
            have hst13 := stay_append S nm [120]
            rw [hsu, hcu] at hst13
            have hnc13 := ((ha.below hst2 hzr2).cell (p := ⟨nb, noff + k, none⟩) hnb).trans hnc
            obtain ⟨F13, hs13, -⟩ := ha.stands
            clear ha hst2 hnc
            generalize (S.append nm [120]).1 = S13 at *
            generalize (S.append nm [120]).2 = r13 at *
            go_wp2_with fail
            refine (sync_lies hs13 hz13 nm (by omega)).mono ?_
            rintro e w14 ⟨rfl, ha⟩
            have hb14 := hb13.trans (ha.below hs13 hz13)
            have hz14 := hb14.size
            have hbk14 := bulk_sync (S := S13) nm
            have hst14 := stay_sync S13 nm
            rw [hst13.1, hst13.2] at hst14
            have hnc14 := ((ha.below hs13 hz13).cell (p := ⟨nb, noff + k, none⟩) hnb).trans hnc13
            obtain ⟨F14, hs14, -⟩ := ha.stands
            clear ha hs13 hnc13 hst13
            generalize (S13.sync nm).1 = S14 at *
            generalize (S13.sync nm).2 = r14 at *
            by_cases hodd : ((k : Int) % 2 == 1) = true
            · obtain ⟨m, rfl⟩ : ∃ m, k = m + 1 := ⟨k - 1, by simp at hodd; omega⟩
              obtain ⟨nb2, noff2, heq, -, hncm⟩ := Tb.at (h2.keep hb14) (j := m) (by omega)
              injection heq with heq
              injection heq with e1 e2
              subst e1 e2
              generalize names[m] = nm2 at hncm
              have hr1 : (0 : Int) ≤ (m : Int) + 1 := by omega
              have hr2 : (m : Int) + 1 < (names.length : Int) := by omega
              have hr3 : (0 : Int) ≤ (m : Int) := by omega
              have hr4 : (m : Int) < (names.length : Int) := by omega
              have hr5 : IntKind.i64.wrap (m : Int) = (m : Int) := by rw [IntKind.wrap_i64]; omega
              go_wp2_with fail
              refine wp_region_held_drew (S := fun W => W.cell? ⟨nb, noff + (m + 1), none⟩ = some (.string (strB nm)) ∧ W.cell? ⟨nb, noff + m, none⟩ = some (.string (strB nm2))) (by kernel_rfl) (⟨hnc14, hncm⟩) (fun hHeld => ?_)
              refine takeH (i := 0) (v := ?_) rfl (by kernel_rfl) (by kernel_rfl) (by kernel_rfl) (fun _ _ _ h => h) rfl ?_ hHeld ?_
              rotate_left
              · intro w hS; (try dsimp only at hS); obtain ⟨hS0, hS1⟩ := hS; go_simp; first | done | (with_reducible rfl)
              try simp only [Act.put, List.setIfInBounds_toArray, List.set_cons_zero, List.set_cons_succ]
              refine takeH (i := 1) (v := ?_) rfl (by kernel_rfl) (by kernel_rfl) (by kernel_rfl) (fun _ _ _ h => h) rfl ?_ hHeld ?_
              rotate_left
              · intro w hS; (try dsimp only at hS); obtain ⟨hS0, hS1⟩ := hS; go_simp; first | done | (with_reducible rfl)
              try simp only [Act.put, List.setIfInBounds_toArray, List.set_cons_zero, List.set_cons_succ]
              refine takeH (i := 2) (v := ?_) rfl (by kernel_rfl) (by kernel_rfl) (by kernel_rfl) (fun _ _ _ h => h) rfl ?_ hHeld ?_
              rotate_left
              · intro w hS; (try dsimp only at hS); obtain ⟨hS0, hS1⟩ := hS; go_simp; first | done | (with_reducible rfl)
              try simp only [Act.put, List.setIfInBounds_toArray, List.set_cons_zero, List.set_cons_succ]
              refine takeH (i := 3) (v := ?_) rfl (by kernel_rfl) (by kernel_rfl) (by kernel_rfl) (fun _ _ _ h => h) rfl ?_ hHeld ?_
              rotate_left
              · intro w hS; (try dsimp only at hS); obtain ⟨hS0, hS1⟩ := hS; go_simp; first | done | (with_reducible rfl)
              try simp only [Act.put, List.setIfInBounds_toArray, List.set_cons_zero, List.set_cons_succ]
              refine takeH (i := 4) (v := ?_) rfl (by kernel_rfl) (by kernel_rfl) (by kernel_rfl) (fun _ _ _ h => h) rfl ?_ hHeld ?_
              rotate_left
              · intro w hS; (try dsimp only at hS); obtain ⟨hS0, hS1⟩ := hS; go_simp; first | done | (with_reducible rfl)
              try simp only [Act.put, List.setIfInBounds_toArray, List.set_cons_zero, List.set_cons_succ]
              refine takeH (i := 5) (v := ?_) rfl (by kernel_rfl) (by kernel_rfl) (by kernel_rfl) (fun _ _ _ h => h) rfl ?_ hHeld ?_
              rotate_left
              · intro w hS; (try dsimp only at hS); obtain ⟨hS0, hS1⟩ := hS; go_simp; first | done | (with_reducible rfl)
              try simp only [Act.put, List.setIfInBounds_toArray, List.set_cons_zero, List.set_cons_succ]
              refine takeH (i := 6) (v := ?_) rfl (by kernel_rfl) (by kernel_rfl) (by kernel_rfl) (fun _ _ _ h => h) rfl ?_ hHeld ?_
              rotate_left
              · intro w hS; (try dsimp only at hS); obtain ⟨hS0, hS1⟩ := hS; go_simp; first | done | (with_reducible rfl)
              try simp only [Act.put, List.setIfInBounds_toArray, List.set_cons_zero, List.set_cons_succ]
              refine takeH (i := 7) (v := ?_) rfl (by kernel_rfl) (by kernel_rfl) (by kernel_rfl) (fun _ _ _ h => h) rfl ?_ hHeld ?_
              rotate_left
              · intro w hS; (try dsimp only at hS); obtain ⟨hS0, hS1⟩ := hS; go_simp; first | done | (with_reducible rfl)
              try simp only [Act.put, List.setIfInBounds_toArray, List.set_cons_zero, List.set_cons_succ]
              refine takeH (i := 8) (v := ?_) rfl (by kernel_rfl) (by kernel_rfl) (by kernel_rfl) (fun _ _ _ h => h) rfl ?_ hHeld ?_
              rotate_left
              · intro w hS; (try dsimp only at hS); obtain ⟨hS0, hS1⟩ := hS; go_simp; first | done | (with_reducible rfl)
              try simp only [Act.put, List.setIfInBounds_toArray, List.set_cons_zero, List.set_cons_succ]
              refine takeH (i := 9) (v := ?_) rfl (by kernel_rfl) (by kernel_rfl) (by kernel_rfl) (fun _ _ _ h => h) rfl ?_ hHeld ?_
              rotate_left
              · intro w hS; (try dsimp only at hS); obtain ⟨hS0, hS1⟩ := hS; go_simp; first | done | (with_reducible rfl)
              try simp only [Act.put, List.setIfInBounds_toArray, List.set_cons_zero, List.set_cons_succ]
              refine onlyH (i := 10) rfl (by kernel_rfl) rfl (fun K hK => ?_)
              go_simp
              have hs14' := hs14.keep ((Chg.refl (fun _ => False) w14).drew) (fun _ _ h => h)
              have hbd : Below w.heap.size w14 w14.drew := (Below.refl _ _).drew
              refine (rename_lies hs14' hz14 nm nm2 (by omega)).mono ?_
              rintro e w15 ⟨rfl, ha⟩
              have hb1415 := hbd.trans (ha.below hs14' hz14)
              have hb15 := hb14.trans hb1415
              have hz15 := hb15.size
              have hbk15 := bulk_rename (S := S14) nm nm2
              have hst15 := stay_rename S14 nm nm2
              rw [hst14.1, hst14.2] at hst15
              obtain ⟨F15, hs15, -⟩ := ha.stands
              have hh1 := (hb1415.cell (p := ⟨nb, noff + (m + 1), none⟩) hnb).trans hnc14
              have hh2 := (hb1415.cell (p := ⟨nb, noff + m, none⟩) hnb).trans hncm
              refine hK.out _ _ (⟨hh1, hh2⟩) (fun hHeld => ?_)
              clear hK K
              try simp only [Act.put, List.setIfInBounds_toArray, List.set_cons_zero, List.set_cons_succ]
              refine wpAnyH_done (by kernel_rfl) ?_ _
              clear hHeld ha hs14' hs14 hnc14 hncm hh1 hh2
              generalize (S14.rename nm nm2).1 = S15 at *
              generalize (S14.rename nm nm2).2 = r15 at *
              by_cases hfive : ((((m + 1 : Nat) : Int)) % 5 == 4) = true
              · go_wp2_with fail
                refine (rename_lies hs15 hz15 kept other (by omega)).mono ?_
                rintro e w16 ⟨rfl, ha⟩
                have hb16 := hb15.trans (ha.below hs15 hz15)
                have hbk16 := bulk_rename (S := S15) kept other
                have hst16 := stay_rename S15 kept other
                rw [hst15.1, hst15.2] at hst16
                obtain ⟨F16, hs16, -⟩ := ha.stands
                clear ha
                generalize (S15.rename kept other).1 = S16 at *
                generalize (S15.rename kept other).2 = r16 at *
                go_wp2_with fail
                exact ⟨⟨m + 1 + 1, F16, S16, by go_num, by omega, by omega, hs16, hst16.1, hst16.2, by omega, hb16⟩, by simp [intOf]; omega⟩
              · have hfive' : ((((m + 1 : Nat) : Int)) % 5 == 4) = false := by simpa using hfive
                go_wp2_with fail
                exact ⟨⟨m + 1 + 1, F15, S15, by go_num, by omega, by omega, hs15, hst15.1, hst15.2, by omega, hb15⟩, by simp [intOf]; omega⟩
            · have hodd' : ((k : Int) % 2 == 1) = false := by simpa using hodd
              by_cases hfive : ((k : Int) % 5 == 4) = true
              · go_wp2_with fail
                refine (rename_lies hs14 hz14 kept other (by omega)).mono ?_
                rintro e w15 ⟨rfl, ha⟩
                have hb15 := hb14.trans (ha.below hs14 hz14)
                have hbk15 := bulk_rename (S := S14) kept other
                have hst15 := stay_rename S14 kept other
                rw [hst14.1, hst14.2] at hst15
                obtain ⟨F15, hs15, -⟩ := ha.stands
                clear ha
                generalize (S14.rename kept other).1 = S15 at *
                generalize (S14.rename kept other).2 = r15 at *
                go_wp2_with fail
                exact ⟨⟨k + 1, F15, S15, by go_num, by omega, by omega, hs15, hst15.1, hst15.2, by omega, hb15⟩, by simp [intOf]; omega⟩
              · have hfive' : ((k : Int) % 5 == 4) = false := by simpa using hfive
                go_wp2_with fail
                exact ⟨⟨k + 1, F14, S14, by go_num, by omega, by omega, hs14, hst14.1, hst14.2, by omega, hb14⟩, by simp [intOf]; omega⟩
          · obtain ⟨g5, g6, g7⟩ := fails_dir S hcu
            rw [hsu] at g6 g7
            have g8 := bulk_syncDir (S := S.failAt [(S.n : Int)])
            have g9 : (S.failAt [(S.n : Int)]).bulk = S.bulk := rfl
            by_cases hB2 : k < names.length
            · go_wp2_with fail
              refine (ops_lies hst2).mono ?_
              rintro e w20 ⟨rfl, rfl⟩
              go_wp2_with fail
              refine (failAt_one hst2 hzr2 _).mono ?_
              rintro e w21 ⟨rfl, ha⟩
              have hb21 := hbr2.trans (ha.below hst2 hzr2)
              have hz21 := hb21.size
              obtain ⟨F21, hs21, -⟩ := ha.stands
              clear ha hst2
              go_wp2_with fail
              refine (syncDir_lies hs21 hz21 (by omega)).mono ?_
              rintro e w22 ⟨rfl, ha⟩
              have hb22 := hb21.trans (ha.below hs21 hz21)
              have hz22 := hb22.size
              obtain ⟨F22, hs22, -⟩ := ha.stands
              clear ha hs21
              rw [g5]
              generalize ((S.failAt [(S.n : Int)]).syncDir).1 = S22 at *
              have hcd := g7 keep t
              have hcb := bulk_crash (S := S22) keep t
              go_wp2_with fail
              refine (crash_lies hs22 hz22 keep t (by omega)).mono ?_
              rintro e w23 ⟨dy, FY, rfl, hsy, hyn, hc23⟩
              have hb23 := hb22.trans (chg_below hc23 hz22)
              have hz23 := hb23.size
              have hs23 := hs22.keep hc23 (fun _ _ h => h)
              clear hs22
              generalize S22.crash keep t = S23 at *
              go_wp2_with fail
              refine (names_stands hsy (by omega)).mono ?_
              rintro e w24 ⟨u1, rfl, hu1, -, hc24⟩
              have hb24 := hb23.trans (chg_below hc24 hz23)
              have hs24 := hs23.keep hc24 (fun _ _ h => h)
              clear hs23 hsy
              rw [hcd] at hu1
              obtain ⟨uk1, ul1, rfl⟩ := ownsRow_succ hu1
              go_wp2_with fail
              refine (names_stands hs24 (by omega)).mono ?_
              rintro e w25 ⟨u2, rfl, hu2, -, hc25⟩
              have hb25 := hb24.trans (chg_below hc25 hb24.size)
              rw [g6] at hu2
              obtain ⟨uk2, ul2, rfl⟩ := ownsRow_succ hu2
              have hcell2 := World.ownsRow.cells hu2 (g := uk2) rfl 0 (.string (strB kept)) rfl
              have hcell1 := World.ownsRow.cells (own_keep hu1 hc25 (fun _ _ h => h)) (g := uk1) rfl 0 (.string (strB kept)) rfl
              rw [Addr.add_lit, Nat.add_zero] at hcell1 hcell2
              have tk : (strB kept).toList = kept := by rw [ByteArray.toList_eq]; exact strB_list kept
              have tk2 : kept = [107, 101, 112, 116] := rfl
              rw [tk2] at tk
              clear hs24 hu1 hu2
              go_wp2
              go_ret
              exact ⟨rfl, hb25⟩
            · go_wp2_with fail
              refine (ops_lies hst2).mono ?_
              rintro e w20 ⟨rfl, rfl⟩
              go_wp2_with fail
              refine (failAt_one hst2 hzr2 _).mono ?_
              rintro e w21 ⟨rfl, ha⟩
              have hb21 := hbr2.trans (ha.below hst2 hzr2)
              have hz21 := hb21.size
              obtain ⟨F21, hs21, -⟩ := ha.stands
              clear ha hst2
              go_wp2_with fail
              refine (syncDir_lies hs21 hz21 (by omega)).mono ?_
              rintro e w22 ⟨rfl, ha⟩
              have hb22 := hb21.trans (ha.below hs21 hz21)
              have hz22 := hb22.size
              obtain ⟨F22, hs22, -⟩ := ha.stands
              clear ha hs21
              rw [g5]
              generalize ((S.failAt [(S.n : Int)]).syncDir).1 = S22 at *
              have hcd := g7 keep t
              have hcb := bulk_crash (S := S22) keep t
              go_wp2_with fail
              refine (crash_lies hs22 hz22 keep t (by omega)).mono ?_
              rintro e w23 ⟨dy, FY, rfl, hsy, hyn, hc23⟩
              have hb23 := hb22.trans (chg_below hc23 hz22)
              have hz23 := hb23.size
              have hs23 := hs22.keep hc23 (fun _ _ h => h)
              clear hs22
              generalize S22.crash keep t = S23 at *
              go_wp2_with fail
              refine (names_stands hsy (by omega)).mono ?_
              rintro e w24 ⟨u1, rfl, hu1, -, hc24⟩
              have hb24 := hb23.trans (chg_below hc24 hz23)
              have hs24 := hs23.keep hc24 (fun _ _ h => h)
              clear hs23 hsy
              rw [hcd] at hu1
              obtain ⟨uk1, ul1, rfl⟩ := ownsRow_succ hu1
              go_wp2_with fail
              refine (names_stands hs24 (by omega)).mono ?_
              rintro e w25 ⟨u2, rfl, hu2, -, hc25⟩
              have hb25 := hb24.trans (chg_below hc25 hb24.size)
              rw [g6] at hu2
              obtain ⟨uk2, ul2, rfl⟩ := ownsRow_succ hu2
              have hcell2 := World.ownsRow.cells hu2 (g := uk2) rfl 0 (.string (strB kept)) rfl
              have hcell1 := World.ownsRow.cells (own_keep hu1 hc25 (fun _ _ h => h)) (g := uk1) rfl 0 (.string (strB kept)) rfl
              rw [Addr.add_lit, Nat.add_zero] at hcell1 hcell2
              have tk : (strB kept).toList = kept := by rw [ByteArray.toList_eq]; exact strB_list kept
              have tk2 : kept = [107, 101, 112, 116] := rfl
              rw [tk2] at tk
              clear hs24 hu1 hu2
              go_wp2
              go_ret
              exact ⟨rfl, hb25⟩
      · go_wp2_with fail
        refine (ops_lies hst).mono ?_
        rintro e w7 ⟨rfl, rfl⟩
        rw [hnn]
        go_wp2_with fail
        refine (failAt_one hst hzr _).mono ?_
        rintro e w8 ⟨rfl, ha⟩
        have hb8 := hbr.trans (ha.below hst hzr)
        have hz8 := hb8.size
        obtain ⟨F8, hs8, -⟩ := ha.stands
        clear ha
        go_wp2_with fail
        refine (sync_lies hs8 hz8 kept (by omega)).mono ?_
        rintro e w9 ⟨rfl, ha⟩
        have hb9 := hb8.trans (ha.below hs8 hz8)
        have hz9 := hb9.size
        rw [s1]
        rw [s2] at ha
        obtain ⟨F9, hs9, -⟩ := ha.stands
        clear ha hs8
        go_wp2_with fail
        refine (crash_lies hs9 hz9 keep t (by omega)).mono ?_
        rintro e w10 ⟨dx, FX, rfl, hsx, hxn, hc10⟩
        have hb10 := hb9.trans (chg_below hc10 hz9)
        have hz10 := hb10.size
        have hl9 := fun k hk => (hs9.2.1 k hk).2
        have hs10 := hs9.keep hc10 (fun _ _ h => h)
        clear hs9
        go_wp2_with fail
        refine (read_lies hsx hz10 kept (by omega)).mono ?_
        rintro e w11 ⟨v, rfl, hrow, FX', -, -, hc11, -⟩
        have hb11 := hb10.trans (hsx.below hz10 hc11)
        have hz11 := hb11.size
        rw [hc1.1]
        rw [hc1.1] at hrow
        have hs11 := hs10.keep hc11 (fun k hk hx => by have := hl9 k hk; have := hxn k hx; omega)
        have hstr1 := run_str w11 v _ (sl_of_own hrow)
        have hstr2 := run_str w11 _ _ ((hob.keep hb11).sl hz11)
        clear hs10 hsx hrow
        go_wp2_with fail
        refine (size_lies hs11 kept).mono ?_
        rintro e w12 ⟨rfl, rfl⟩
        rw [hsz]
        go_wp2
        clear h0 hob HM h1 hs5 hb1 hb2 hb3 hb4 hb5 hst hbr hb8 hb9 hb10 s1 s2 hc1 hstr1 hstr2 hx hac haa hsz
        go_loopw [24] (fun i wr => ∃ (j : Nat) (F : Nat → Prop) (S : Dk), i = .int .i64 (j : Int) ∧ j ≤ names.length ∧ j ≤ 20 ∧ Stands w.heap.size wr F d S ∧ S.sure = [(kept, 0)] ∧ S.cut = none ∧ S.bulk ≤ 30000 + 100 * j ∧ Below w.heap.size w wr)
          (fun i _ => 20 - (intOf i).toNat)
        case atStart => exact ⟨0, _, _, rfl, by omega, by omega, hs11, rfl, rfl, by omega, hb11⟩
        case round =>
          clear hs11 hb11
          obtain ⟨k, F, S, rfl, hk1, hk2, hst2, hsu, hcu, hbu, hbr2⟩ := hrel
          have hzr2 := hbr2.size
          by_cases hlt2 : k < names.length ∧ k < 20
          · obtain ⟨j1, j2⟩ := hlt2
            obtain ⟨nb, noff, rfl, hnb, hnc⟩ := Tb.at (h2.keep hbr2) j1
            generalize names[k] = nm at hnc
            go_wp2_with fail
            refine (append_lit hst2 hzr2 nm [120] (by decide) (by simp; omega) _ _ _ rfl rfl).mono ?_
            rintro e w13 ⟨rfl, ha⟩
            have hb13 := hbr2.trans (ha.below hst2 hzr2)
            have hz13 := hb13.size
            have hbk13 := bulk_append (S := S) nm [120]
            simp only [List.length_cons, List.length_nil] at hbk13
            have hst13 := stay_append S nm [120]
            rw [hsu, hcu] at hst13
            have hnc13 := ((ha.below hst2 hzr2).cell (p := ⟨nb, noff + k, none⟩) hnb).trans hnc
            obtain ⟨F13, hs13, -⟩ := ha.stands
            clear ha hst2 hnc
            generalize (S.append nm [120]).1 = S13 at *
            generalize (S.append nm [120]).2 = r13 at *
            go_wp2_with fail
            refine (sync_lies hs13 hz13 nm (by omega)).mono ?_
            rintro e w14 ⟨rfl, ha⟩
            have hb14 := hb13.trans (ha.below hs13 hz13)
            have hz14 := hb14.size
            have hbk14 := bulk_sync (S := S13) nm
            have hst14 := stay_sync S13 nm
            rw [hst13.1, hst13.2] at hst14
            have hnc14 := ((ha.below hs13 hz13).cell (p := ⟨nb, noff + k, none⟩) hnb).trans hnc13
            obtain ⟨F14, hs14, -⟩ := ha.stands
            clear ha hs13 hnc13 hst13
            generalize (S13.sync nm).1 = S14 at *
            generalize (S13.sync nm).2 = r14 at *
            by_cases hodd : ((k : Int) % 2 == 1) = true
            · obtain ⟨m, rfl⟩ : ∃ m, k = m + 1 := ⟨k - 1, by simp at hodd; omega⟩
              obtain ⟨nb2, noff2, heq, -, hncm⟩ := Tb.at (h2.keep hb14) (j := m) (by omega)
              injection heq with heq
              injection heq with e1 e2
              subst e1 e2
              generalize names[m] = nm2 at hncm
              have hr1 : (0 : Int) ≤ (m : Int) + 1 := by omega
              have hr2 : (m : Int) + 1 < (names.length : Int) := by omega
              have hr3 : (0 : Int) ≤ (m : Int) := by omega
              have hr4 : (m : Int) < (names.length : Int) := by omega
              have hr5 : IntKind.i64.wrap (m : Int) = (m : Int) := by rw [IntKind.wrap_i64]; omega
              go_wp2_with fail
              refine wp_region_held_drew (S := fun W => W.cell? ⟨nb, noff + (m + 1), none⟩ = some (.string (strB nm)) ∧ W.cell? ⟨nb, noff + m, none⟩ = some (.string (strB nm2))) (by kernel_rfl) (⟨hnc14, hncm⟩) (fun hHeld => ?_)
              refine takeH (i := 0) (v := ?_) rfl (by kernel_rfl) (by kernel_rfl) (by kernel_rfl) (fun _ _ _ h => h) rfl ?_ hHeld ?_
              rotate_left
              · intro w hS; (try dsimp only at hS); obtain ⟨hS0, hS1⟩ := hS; go_simp; first | done | (with_reducible rfl)
              try simp only [Act.put, List.setIfInBounds_toArray, List.set_cons_zero, List.set_cons_succ]
              refine takeH (i := 1) (v := ?_) rfl (by kernel_rfl) (by kernel_rfl) (by kernel_rfl) (fun _ _ _ h => h) rfl ?_ hHeld ?_
              rotate_left
              · intro w hS; (try dsimp only at hS); obtain ⟨hS0, hS1⟩ := hS; go_simp; first | done | (with_reducible rfl)
              try simp only [Act.put, List.setIfInBounds_toArray, List.set_cons_zero, List.set_cons_succ]
              refine takeH (i := 2) (v := ?_) rfl (by kernel_rfl) (by kernel_rfl) (by kernel_rfl) (fun _ _ _ h => h) rfl ?_ hHeld ?_
              rotate_left
              · intro w hS; (try dsimp only at hS); obtain ⟨hS0, hS1⟩ := hS; go_simp; first | done | (with_reducible rfl)
              try simp only [Act.put, List.setIfInBounds_toArray, List.set_cons_zero, List.set_cons_succ]
              refine takeH (i := 3) (v := ?_) rfl (by kernel_rfl) (by kernel_rfl) (by kernel_rfl) (fun _ _ _ h => h) rfl ?_ hHeld ?_
              rotate_left
              · intro w hS; (try dsimp only at hS); obtain ⟨hS0, hS1⟩ := hS; go_simp; first | done | (with_reducible rfl)
              try simp only [Act.put, List.setIfInBounds_toArray, List.set_cons_zero, List.set_cons_succ]
              refine takeH (i := 4) (v := ?_) rfl (by kernel_rfl) (by kernel_rfl) (by kernel_rfl) (fun _ _ _ h => h) rfl ?_ hHeld ?_
              rotate_left
              · intro w hS; (try dsimp only at hS); obtain ⟨hS0, hS1⟩ := hS; go_simp; first | done | (with_reducible rfl)
              try simp only [Act.put, List.setIfInBounds_toArray, List.set_cons_zero, List.set_cons_succ]
              refine takeH (i := 5) (v := ?_) rfl (by kernel_rfl) (by kernel_rfl) (by kernel_rfl) (fun _ _ _ h => h) rfl ?_ hHeld ?_
              rotate_left
              · intro w hS; (try dsimp only at hS); obtain ⟨hS0, hS1⟩ := hS; go_simp; first | done | (with_reducible rfl)
              try simp only [Act.put, List.setIfInBounds_toArray, List.set_cons_zero, List.set_cons_succ]
              refine takeH (i := 6) (v := ?_) rfl (by kernel_rfl) (by kernel_rfl) (by kernel_rfl) (fun _ _ _ h => h) rfl ?_ hHeld ?_
              rotate_left
              · intro w hS; (try dsimp only at hS); obtain ⟨hS0, hS1⟩ := hS; go_simp; first | done | (with_reducible rfl)
              try simp only [Act.put, List.setIfInBounds_toArray, List.set_cons_zero, List.set_cons_succ]
              refine takeH (i := 7) (v := ?_) rfl (by kernel_rfl) (by kernel_rfl) (by kernel_rfl) (fun _ _ _ h => h) rfl ?_ hHeld ?_
              rotate_left
              · intro w hS; (try dsimp only at hS); obtain ⟨hS0, hS1⟩ := hS; go_simp; first | done | (with_reducible rfl)
              try simp only [Act.put, List.setIfInBounds_toArray, List.set_cons_zero, List.set_cons_succ]
              refine takeH (i := 8) (v := ?_) rfl (by kernel_rfl) (by kernel_rfl) (by kernel_rfl) (fun _ _ _ h => h) rfl ?_ hHeld ?_
              rotate_left
              · intro w hS; (try dsimp only at hS); obtain ⟨hS0, hS1⟩ := hS; go_simp; first | done | (with_reducible rfl)
              try simp only [Act.put, List.setIfInBounds_toArray, List.set_cons_zero, List.set_cons_succ]
              refine takeH (i := 9) (v := ?_) rfl (by kernel_rfl) (by kernel_rfl) (by kernel_rfl) (fun _ _ _ h => h) rfl ?_ hHeld ?_
              rotate_left
              · intro w hS; (try dsimp only at hS); obtain ⟨hS0, hS1⟩ := hS; go_simp; first | done | (with_reducible rfl)
              try simp only [Act.put, List.setIfInBounds_toArray, List.set_cons_zero, List.set_cons_succ]
              refine onlyH (i := 10) rfl (by kernel_rfl) rfl (fun K hK => ?_)
              go_simp
              have hs14' := hs14.keep ((Chg.refl (fun _ => False) w14).drew) (fun _ _ h => h)
              have hbd : Below w.heap.size w14 w14.drew := (Below.refl _ _).drew
              refine (rename_lies hs14' hz14 nm nm2 (by omega)).mono ?_
              rintro e w15 ⟨rfl, ha⟩
              have hb1415 := hbd.trans (ha.below hs14' hz14)
              have hb15 := hb14.trans hb1415
              have hz15 := hb15.size
              have hbk15 := bulk_rename (S := S14) nm nm2
              have hst15 := stay_rename S14 nm nm2
              rw [hst14.1, hst14.2] at hst15
              obtain ⟨F15, hs15, -⟩ := ha.stands
              have hh1 := (hb1415.cell (p := ⟨nb, noff + (m + 1), none⟩) hnb).trans hnc14
              have hh2 := (hb1415.cell (p := ⟨nb, noff + m, none⟩) hnb).trans hncm
              refine hK.out _ _ (⟨hh1, hh2⟩) (fun hHeld => ?_)
              clear hK K
              try simp only [Act.put, List.setIfInBounds_toArray, List.set_cons_zero, List.set_cons_succ]
              refine wpAnyH_done (by kernel_rfl) ?_ _
              clear hHeld ha hs14' hs14 hnc14 hncm hh1 hh2
              generalize (S14.rename nm nm2).1 = S15 at *
              generalize (S14.rename nm nm2).2 = r15 at *
              by_cases hfive : ((((m + 1 : Nat) : Int)) % 5 == 4) = true
              · go_wp2_with fail
                refine (rename_lies hs15 hz15 kept other (by omega)).mono ?_
                rintro e w16 ⟨rfl, ha⟩
                have hb16 := hb15.trans (ha.below hs15 hz15)
                have hbk16 := bulk_rename (S := S15) kept other
                have hst16 := stay_rename S15 kept other
                rw [hst15.1, hst15.2] at hst16
                obtain ⟨F16, hs16, -⟩ := ha.stands
                clear ha
                generalize (S15.rename kept other).1 = S16 at *
                generalize (S15.rename kept other).2 = r16 at *
                go_wp2_with fail
                exact ⟨⟨m + 1 + 1, F16, S16, by go_num, by omega, by omega, hs16, hst16.1, hst16.2, by omega, hb16⟩, by simp [intOf]; omega⟩
              · have hfive' : ((((m + 1 : Nat) : Int)) % 5 == 4) = false := by simpa using hfive
                go_wp2_with fail
                exact ⟨⟨m + 1 + 1, F15, S15, by go_num, by omega, by omega, hs15, hst15.1, hst15.2, by omega, hb15⟩, by simp [intOf]; omega⟩
            · have hodd' : ((k : Int) % 2 == 1) = false := by simpa using hodd
              by_cases hfive : ((k : Int) % 5 == 4) = true
              · go_wp2_with fail
                refine (rename_lies hs14 hz14 kept other (by omega)).mono ?_
                rintro e w15 ⟨rfl, ha⟩
                have hb15 := hb14.trans (ha.below hs14 hz14)
                have hbk15 := bulk_rename (S := S14) kept other
                have hst15 := stay_rename S14 kept other
                rw [hst14.1, hst14.2] at hst15
                obtain ⟨F15, hs15, -⟩ := ha.stands
                clear ha
                generalize (S14.rename kept other).1 = S15 at *
                generalize (S14.rename kept other).2 = r15 at *
                go_wp2_with fail
                exact ⟨⟨k + 1, F15, S15, by go_num, by omega, by omega, hs15, hst15.1, hst15.2, by omega, hb15⟩, by simp [intOf]; omega⟩
              · have hfive' : ((k : Int) % 5 == 4) = false := by simpa using hfive
                go_wp2_with fail
                exact ⟨⟨k + 1, F14, S14, by go_num, by omega, by omega, hs14, hst14.1, hst14.2, by omega, hb14⟩, by simp [intOf]; omega⟩
          · obtain ⟨g5, g6, g7⟩ := fails_dir S hcu
            rw [hsu] at g6 g7
            have g8 := bulk_syncDir (S := S.failAt [(S.n : Int)])
            have g9 : (S.failAt [(S.n : Int)]).bulk = S.bulk := rfl
            by_cases hB2 : k < names.length
            · go_wp2_with fail
              refine (ops_lies hst2).mono ?_
              rintro e w20 ⟨rfl, rfl⟩
              go_wp2_with fail
              refine (failAt_one hst2 hzr2 _).mono ?_
              rintro e w21 ⟨rfl, ha⟩
              have hb21 := hbr2.trans (ha.below hst2 hzr2)
              have hz21 := hb21.size
              obtain ⟨F21, hs21, -⟩ := ha.stands
              clear ha hst2
              go_wp2_with fail
              refine (syncDir_lies hs21 hz21 (by omega)).mono ?_
              rintro e w22 ⟨rfl, ha⟩
              have hb22 := hb21.trans (ha.below hs21 hz21)
              have hz22 := hb22.size
              obtain ⟨F22, hs22, -⟩ := ha.stands
              clear ha hs21
              rw [g5]
              generalize ((S.failAt [(S.n : Int)]).syncDir).1 = S22 at *
              have hcd := g7 keep t
              have hcb := bulk_crash (S := S22) keep t
              go_wp2_with fail
              refine (crash_lies hs22 hz22 keep t (by omega)).mono ?_
              rintro e w23 ⟨dy, FY, rfl, hsy, hyn, hc23⟩
              have hb23 := hb22.trans (chg_below hc23 hz22)
              have hz23 := hb23.size
              have hs23 := hs22.keep hc23 (fun _ _ h => h)
              clear hs22
              generalize S22.crash keep t = S23 at *
              go_wp2_with fail
              refine (names_stands hsy (by omega)).mono ?_
              rintro e w24 ⟨u1, rfl, hu1, -, hc24⟩
              have hb24 := hb23.trans (chg_below hc24 hz23)
              have hs24 := hs23.keep hc24 (fun _ _ h => h)
              clear hs23 hsy
              rw [hcd] at hu1
              obtain ⟨uk1, ul1, rfl⟩ := ownsRow_succ hu1
              go_wp2_with fail
              refine (names_stands hs24 (by omega)).mono ?_
              rintro e w25 ⟨u2, rfl, hu2, -, hc25⟩
              have hb25 := hb24.trans (chg_below hc25 hb24.size)
              rw [g6] at hu2
              obtain ⟨uk2, ul2, rfl⟩ := ownsRow_succ hu2
              have hcell2 := World.ownsRow.cells hu2 (g := uk2) rfl 0 (.string (strB kept)) rfl
              have hcell1 := World.ownsRow.cells (own_keep hu1 hc25 (fun _ _ h => h)) (g := uk1) rfl 0 (.string (strB kept)) rfl
              rw [Addr.add_lit, Nat.add_zero] at hcell1 hcell2
              have tk : (strB kept).toList = kept := by rw [ByteArray.toList_eq]; exact strB_list kept
              have tk2 : kept = [107, 101, 112, 116] := rfl
              rw [tk2] at tk
              clear hs24 hu1 hu2
              go_wp2
              go_ret
              exact ⟨rfl, hb25⟩
            · go_wp2_with fail
              refine (ops_lies hst2).mono ?_
              rintro e w20 ⟨rfl, rfl⟩
              go_wp2_with fail
              refine (failAt_one hst2 hzr2 _).mono ?_
              rintro e w21 ⟨rfl, ha⟩
              have hb21 := hbr2.trans (ha.below hst2 hzr2)
              have hz21 := hb21.size
              obtain ⟨F21, hs21, -⟩ := ha.stands
              clear ha hst2
              go_wp2_with fail
              refine (syncDir_lies hs21 hz21 (by omega)).mono ?_
              rintro e w22 ⟨rfl, ha⟩
              have hb22 := hb21.trans (ha.below hs21 hz21)
              have hz22 := hb22.size
              obtain ⟨F22, hs22, -⟩ := ha.stands
              clear ha hs21
              rw [g5]
              generalize ((S.failAt [(S.n : Int)]).syncDir).1 = S22 at *
              have hcd := g7 keep t
              have hcb := bulk_crash (S := S22) keep t
              go_wp2_with fail
              refine (crash_lies hs22 hz22 keep t (by omega)).mono ?_
              rintro e w23 ⟨dy, FY, rfl, hsy, hyn, hc23⟩
              have hb23 := hb22.trans (chg_below hc23 hz22)
              have hz23 := hb23.size
              have hs23 := hs22.keep hc23 (fun _ _ h => h)
              clear hs22
              generalize S22.crash keep t = S23 at *
              go_wp2_with fail
              refine (names_stands hsy (by omega)).mono ?_
              rintro e w24 ⟨u1, rfl, hu1, -, hc24⟩
              have hb24 := hb23.trans (chg_below hc24 hz23)
              have hs24 := hs23.keep hc24 (fun _ _ h => h)
              clear hs23 hsy
              rw [hcd] at hu1
              obtain ⟨uk1, ul1, rfl⟩ := ownsRow_succ hu1
              go_wp2_with fail
              refine (names_stands hs24 (by omega)).mono ?_
              rintro e w25 ⟨u2, rfl, hu2, -, hc25⟩
              have hb25 := hb24.trans (chg_below hc25 hb24.size)
              rw [g6] at hu2
              obtain ⟨uk2, ul2, rfl⟩ := ownsRow_succ hu2
              have hcell2 := World.ownsRow.cells hu2 (g := uk2) rfl 0 (.string (strB kept)) rfl
              have hcell1 := World.ownsRow.cells (own_keep hu1 hc25 (fun _ _ h => h)) (g := uk1) rfl 0 (.string (strB kept)) rfl
              rw [Addr.add_lit, Nat.add_zero] at hcell1 hcell2
              have tk : (strB kept).toList = kept := by rw [ByteArray.toList_eq]; exact strB_list kept
              have tk2 : kept = [107, 101, 112, 116] := rfl
              rw [tk2] at tk
              clear hs24 hu1 hu2
              go_wp2
              go_ret
              exact ⟨rfl, hb25⟩
end Go.Proofs.Ytlpojgkpbjpbeaa
