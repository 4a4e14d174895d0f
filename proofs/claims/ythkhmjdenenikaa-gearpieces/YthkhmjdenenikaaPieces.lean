/-
  GearPieces is true. Conditions: lengths within reach.
-/
import Derived.Test.YthkhmjdenenikaaRefEnds
import Derived.Test.YthkhmjdenenikaaWrite
import Derived.Deep.CutBlock
namespace Go.Proofs.Ythkhmjdenenikaa
open Go.RowKit

theorem app_strB (x y : List UInt8) : strB x ++ strB y = strB (x ++ y) := by
  apply ByteArray.ext
  simp [strB]
theorem own_one (w : World) (x : List UInt8) : (w.alloc (.cells #[.string (strB x)] 9)).ownsRow 0 9 1 (.slice (some ⟨w.heap.size, 0, none⟩) 1 1) 1 (tc [x]) :=
  ⟨rfl, .inr ⟨_, 1, _, rfl, Nat.zero_le _, heap_last _ _, Nat.le_refl _, by decide, rfl, rfl⟩⟩
theorem CuW.keep {w w' : World} {g : Nat} {hs hh : List UInt8} {v : Value} (h : CuW w g hs hh v) (hb : Below w.heap.size w w') : CuW w' g hs hh v :=
  ⟨(hb.block g h.lt).trans h.1, own_keep h.2 (F := fun _ => False) ⟨hb.os, hb.tape, hb.output, hb.size, fun k hk _ => hb.block k hk⟩ (fun _ _ e => e)⟩
theorem min_int (n m : Nat) : (if (m : Int) < (n : Int) then (m : Int) else (n : Int)) = ((min n m : Nat) : Int) := by
  split <;> omega
theorem slice_to (p : List UInt8) (k : Nat) (hk : k ≤ p.length) (W : World) :
    (Instr.slice 9 (.string (strB p)) none (some (.int .i64 (k : Int))) none).run Try.prog W = .ok (.string (strB (p.take k))) W := by
  rw [run_slice_string_to_if W _ _ _ _ Try.underlying9, if_pos (by rw [strB_size]; omega), Int.toNat_natCast, ext_strB]
  rfl
theorem slice_from (p : List UInt8) (k : Nat) (hk : k ≤ p.length) (W : World) :
    (Instr.slice 9 (.string (strB p)) (some (.int .i64 (k : Int))) none none).run Try.prog W = .ok (.string (strB (p.drop k))) W := by
  rw [run_slice_string_from_if W _ _ _ _ Try.underlying9, if_pos (by rw [strB_size]; omega), Int.toNat_natCast, ext_strB, strB_size, List.take_length]
theorem take_min (p : List UInt8) (m : Nat) : p.take (min p.length m) = p.take m := by
  rw [List.take_eq_take_iff]
  omega

set_option maxRecDepth 20000 in
set_option maxHeartbeats 2000000 in
theorem pieces_any (w : World) (vp : Value) (ps : List (List UInt8)) (la : List UInt8) (hP : Ts w vp ps) (hpl : ps.length ≤ 140737488351232) (hla : la.length ≤ 140737488351232) :
    Calls Try.prog 4 #[vp, .string (strB la)] w fun e w' => e = .returned (.bool true) ∧ Below w.heap.size w w' := by
  have hsn := shown_any w
  have hlz := strB_size la
  have hmA : (if (10000 : Int) < (la.length : Int) then (10000 : Int) else (la.length : Int)) = ((min la.length 10000 : Nat) : Int) := min_int la.length 10000
  have hsA := slice_to la (min la.length 10000) (Nat.min_le_left _ _)
  rw [take_min] at hsA
  have haz : (la.take 10000).length ≤ 10000 := by simp; omega
  generalize min la.length 10000 = NA at *
  generalize la.take 10000 = a at *
  obtain ⟨ap, cp, rfl, p1, p2, p4⟩ := hP
  have P4 := hide p4
  clear p4
  go_enter Try.func4, Try.ntmps4
  go_wp2_with fail
  refine hsn.mono ?_
  rintro e w1 ⟨rfl, hb1⟩
  go_wp2_with fail
  refine (new_any _).mono ?_
  rintro e w2 ⟨rfl, hcu2, hb2⟩
  have hB2 : Below w.heap.size w w2 := hb1.trans (hb2.mono hb1.size)
  have hgB : w.heap.size ≤ w1.heap.size := hb1.size
  generalize w1.heap.size = g at *
  clear hb1 hb2 hsn
  go_upto_block 0 with fail
  go_cut [7] from 24 to 83 (fun rest wx => ∃ (h : List UInt8) (v : Value), rest = .string (strB h) ∧ Hd h ∧ CuW wx g h h v ∧ Below w.heap.size w wx)
  case first =>
    go_wp2_with fail
    go_loopw [8, 7] (fun i rest wr => ∃ (k : Nat) (h : List UInt8) (v : Value), i = .int .i64 (k : Int) ∧ k ≤ ps.length ∧ k ≤ 100 ∧ rest = .string (strB h) ∧ Hd h ∧ CuW wr g h h v ∧ Below w.heap.size w wr)
      (fun i _ _ => ps.length - (intOf i).toNat)
    case atStart => exact ⟨0, [], _, rfl, Nat.zero_le _, by omega, rfl, Hd.nil, hcu2, hB2⟩
    case round =>
      obtain ⟨k, h, v, rfl, hk, hk2, rfl, hh, hcu, hB⟩ := hrel
      have hhl := hh.lt
      by_cases hlt : k < ps.length ∧ k < 100
      · obtain ⟨hlt, hlt2⟩ := hlt
        obtain ⟨b, off, rfl, hb, hc⟩ := P4.out (by rintro rfl; simp at hlt)
        have hck := (hB.cell (p := ⟨b, off + k, none⟩) hb).trans (hc k hlt)
        clear hc
        have hmi := min_int ps[k].length 10000
        have hsl := slice_to ps[k] (min ps[k].length 10000) (Nat.min_le_left _ _)
        rw [take_min] at hsl
        have hpz : (ps[k].take 10000).length ≤ 10000 := by simp; omega
        have hsz := strB_size ps[k]
        generalize min ps[k].length 10000 = N at *
        generalize ps[k].take 10000 = p at *
        generalize ps[k] = p0 at *
        have hs1 := strB_size h
        have hs2 := strB_size p
        have hap := app_strB h p
        have hok : (spl ⟨[], h⟩ p).ok := Sp.ok.spl ⟨by simp, hh⟩
        have hall := spl_all p ⟨[], h⟩
        simp only [List.flatten_nil, List.nil_append] at hall
        have hwr := write_any (wr.drew.alloc (.cells #[.string (strB p)] 9)) g h v _ [p] (hcu.keep (((Below.refl _ wr).drew).alloc (Nat.le_refl _) _)) hh (own_one wr.drew p) (by simp; omega)
        simp only [List.flatten_cons, List.flatten_nil, List.append_nil] at hwr
        have hB3 : Below w.heap.size w (wr.drew.alloc (.cells #[.string (strB p)] 9)) := hB.drew.alloc hB.size _
        have hTl := congrArg List.length hall
        generalize spl ⟨[], h⟩ p = x at *
        have HCU := hide hcu
        clear hcu hB
        go_wp2_with fail
        refine wp_region_held_drew (S := fun W => W.cell? ⟨b, off + k, none⟩ = some (.string (strB p0))) (by kernel_rfl) (hck) (fun hHeld => ?_)
        refine takeH (i := 0) (v := ?_) rfl (by kernel_rfl) (by kernel_rfl) (by kernel_rfl) (fun _ _ _ h => h) rfl ?_ hHeld ?_
        rotate_left
        · intro w hS; (try dsimp only at hS); obtain hS0 := hS; go_simp; first | done | (with_reducible rfl)
        try simp only [Act.put, List.setIfInBounds_toArray, List.set_cons_zero, List.set_cons_succ]
        refine takeH (i := 1) (v := ?_) rfl (by kernel_rfl) (by kernel_rfl) (by kernel_rfl) (fun _ _ _ h => h) rfl ?_ hHeld ?_
        rotate_left
        · intro w hS; (try dsimp only at hS); obtain hS0 := hS; go_simp; first | done | (with_reducible rfl)
        try simp only [Act.put, List.setIfInBounds_toArray, List.set_cons_zero, List.set_cons_succ]
        refine takeH (i := 2) (v := ?_) rfl (by kernel_rfl) (by kernel_rfl) (by kernel_rfl) (fun _ _ _ h => h) rfl ?_ hHeld ?_
        rotate_left
        · intro w hS; (try dsimp only at hS); obtain hS0 := hS; go_simp; first | done | (with_reducible rfl)
        try simp only [Act.put, List.setIfInBounds_toArray, List.set_cons_zero, List.set_cons_succ]
        refine takeH (i := 3) (v := ?_) rfl (by kernel_rfl) (by kernel_rfl) (by kernel_rfl) (fun _ _ _ h => h) rfl ?_ hHeld ?_
        rotate_left
        · intro w hS; (try dsimp only at hS); obtain hS0 := hS; go_simp; first | done | (with_reducible rfl)
        try simp only [Act.put, List.setIfInBounds_toArray, List.set_cons_zero, List.set_cons_succ]
        refine takeH (i := 4) (v := ?_) rfl (by kernel_rfl) (by kernel_rfl) (by kernel_rfl) (fun _ _ _ h => h) rfl ?_ hHeld ?_
        rotate_left
        · intro w hS; (try dsimp only at hS); obtain hS0 := hS; go_simp; first | done | (with_reducible rfl)
        try simp only [Act.put, List.setIfInBounds_toArray, List.set_cons_zero, List.set_cons_succ]
        refine takeH (i := 5) (v := ?_) rfl (by kernel_rfl) (by kernel_rfl) (by kernel_rfl) (fun _ _ _ h => h) rfl ?_ hHeld ?_
        rotate_left
        · intro w hS; (try dsimp only at hS); obtain hS0 := hS; go_simp; first | done | (with_reducible rfl)
        try simp only [Act.put, List.setIfInBounds_toArray, List.set_cons_zero, List.set_cons_succ]
        refine takeH (i := 6) (v := ?_) rfl (by kernel_rfl) (by kernel_rfl) (by kernel_rfl) (fun _ _ _ h => h) rfl ?_ hHeld ?_
        rotate_left
        · intro w hS; (try dsimp only at hS); obtain hS0 := hS; go_simp; first | done | (with_reducible rfl)
        try simp only [Act.put, List.setIfInBounds_toArray, List.set_cons_zero, List.set_cons_succ]
        refine takeH (i := 7) (v := ?_) rfl (by kernel_rfl) (by kernel_rfl) (by kernel_rfl) (fun _ _ _ h => h) rfl ?_ hHeld ?_
        rotate_left
        · intro w hS; (try dsimp only at hS); obtain hS0 := hS; go_simp; first | done | (with_reducible rfl)
        try simp only [Act.put, List.setIfInBounds_toArray, List.set_cons_zero, List.set_cons_succ]
        refine takeH (i := 8) (v := ?_) rfl (by kernel_rfl) (by kernel_rfl) (by kernel_rfl) (fun _ _ _ h => h) rfl ?_ hHeld ?_
        rotate_left
        · intro w hS; (try dsimp only at hS); obtain hS0 := hS; go_simp; first | done | (with_reducible rfl)
        try simp only [Act.put, List.setIfInBounds_toArray, List.set_cons_zero, List.set_cons_succ]
        refine takeH (i := 9) (v := ?_) rfl (by kernel_rfl) (by kernel_rfl) (by kernel_rfl) (fun _ _ _ h => h) rfl ?_ hHeld ?_
        rotate_left
        · intro w hS; (try dsimp only at hS); obtain hS0 := hS; go_simp; first | done | (with_reducible rfl)
        try simp only [Act.put, List.setIfInBounds_toArray, List.set_cons_zero, List.set_cons_succ]
        have hmi' : (if (10000 : Int) < (p0.length : Int) then (10000 : Int) else (p0.length : Int)) = (N : Int) := hmi
        simp only [hmi']
        refine takeH (i := 10) (v := ?_) rfl (by kernel_rfl) (by kernel_rfl) (by kernel_rfl) (fun _ _ _ h => h) rfl ?_ hHeld ?_
        rotate_left
        · intro w hS; (try dsimp only at hS); obtain hS0 := hS; go_simp; first | done | (with_reducible rfl)
        try simp only [Act.put, List.setIfInBounds_toArray, List.set_cons_zero, List.set_cons_succ]
        refine takeH (i := 11) (v := ?_) rfl (by kernel_rfl) (by kernel_rfl) (by kernel_rfl) (fun _ _ _ h => h) rfl ?_ hHeld ?_
        rotate_left
        · intro w hS; (try dsimp only at hS); obtain hS0 := hS; go_simp; first | done | (with_reducible rfl)
        try simp only [Act.put, List.setIfInBounds_toArray, List.set_cons_zero, List.set_cons_succ]
        refine wpAnyH_done (by kernel_rfl) ?_ _
        go_wp2_with fail
        refine hwr.mono ?_
        rintro e w3 ⟨vt, v', rfl, hW⟩
        have hB4 : Below w.heap.size w w3 := hB3.trans (hW.below.mono hgB)
        have htold := hW.told
        have hcu3 := hW.cu
        obtain ⟨ao, cap, rfl, t1, t2, t3⟩ := own_form htold
        have hxT : x.t.length ≤ 12000 := by
          have := told_le hok (n := h.length + p.length) (by simp only [List.length_append] at hTl; exact hTl)
          omega
        have htot : x.t.flatten.length + x.h.length ≤ 12000 := by
          simp only [List.length_append] at hTl
          omega
        have T3 := hide t3
        have HCU3 := hide hcu3
        clear hW htold t3 hcu3 hwr HCU hB3 hmi hmi' hsl hap hsz hck hs1 hs2 hTl
        go_wp2_with fail
        go_loopw [11, 7] (fun i rest wq => ∃ (j : Nat), i = .int .i64 (j : Int) ∧ j ≤ x.t.length ∧ rest = .string (strB ((x.t.drop j).flatten ++ x.h)) ∧ Below w3.heap.size w3 wq)
          (fun i _ _ => x.t.length - (intOf i).toNat)
        case atStart => exact ⟨0, rfl, Nat.zero_le _, by rw [List.drop_zero, hall], Below.refl _ _⟩
        case round =>
          obtain ⟨j, rfl, hj, rfl, hbq⟩ := hrel
          by_cases hlt3 : j < x.t.length
          · obtain ⟨g2, rfl, -, hg2, hc2⟩ := T3.out (by omega)
            have hcj := (hbq.cell (p := ⟨g2, j, none⟩) hg2).trans (hc2 j _ (tc_get x.t j hlt3))
            have hcons : x.t.drop j = x.t[j] :: x.t.drop (j + 1) := List.drop_eq_getElem_cons hlt3
            have hck2 := hok.1 _ (List.getElem_mem hlt3)
            have hfl : ((x.t.drop j).flatten ++ x.h).length ≤ 12000 := by
              have := congrArg (fun y => y.flatten.length) (List.take_append_drop j x.t)
              simp only [List.flatten_append, List.length_append] at this
              simp only [List.length_append]
              omega
            rw [hcons, List.flatten_cons, List.append_assoc] at hfl ⊢
            clear hc2 hcons
            generalize x.t[j] = c at *
            generalize hR : (x.t.drop (j + 1)).flatten ++ x.h = R at *
            have hends := fun W => rends_ck W c R (by omega) hck2
            have hst := slice_to (c ++ R) c.length (by simp)
            have hsf := slice_from (c ++ R) c.length (by simp)
            rw [List.take_left] at hst
            rw [List.drop_left] at hsf
            have HBQ := hide hbq
            clear hbq
            go_wp2_with fail
            refine (hends _).mono ?_
            rintro e wz ⟨rfl, rfl⟩
            go_wp2_with fail
            refine wp_region_held_drew (S := fun W => W.cell? ⟨g2, j, none⟩ = some (.string (strB c))) (by kernel_rfl) (hcj) (fun hHeld => ?_)
            refine takeH (i := 0) (v := ?_) rfl (by kernel_rfl) (by kernel_rfl) (by kernel_rfl) (fun _ _ _ h => h) rfl ?_ hHeld ?_
            rotate_left
            · intro w hS; (try dsimp only at hS); obtain hS0 := hS; go_simp; first | done | (with_reducible rfl)
            try simp only [Act.put, List.setIfInBounds_toArray, List.set_cons_zero, List.set_cons_succ]
            refine takeH (i := 1) (v := ?_) rfl (by kernel_rfl) (by kernel_rfl) (by kernel_rfl) (fun _ _ _ h => h) rfl ?_ hHeld ?_
            rotate_left
            · intro w hS; (try dsimp only at hS); obtain hS0 := hS; go_simp; first | done | (with_reducible rfl)
            try simp only [Act.put, List.setIfInBounds_toArray, List.set_cons_zero, List.set_cons_succ]
            refine takeH (i := 2) (v := ?_) rfl (by kernel_rfl) (by kernel_rfl) (by kernel_rfl) (fun _ _ _ h => h) rfl ?_ hHeld ?_
            rotate_left
            · intro w hS; (try dsimp only at hS); obtain hS0 := hS; go_simp; first | done | (with_reducible rfl)
            try simp only [Act.put, List.setIfInBounds_toArray, List.set_cons_zero, List.set_cons_succ]
            refine takeH (i := 3) (v := ?_) rfl (by kernel_rfl) (by kernel_rfl) (by kernel_rfl) (fun _ _ _ h => h) rfl ?_ hHeld ?_
            rotate_left
            · intro w hS; (try dsimp only at hS); obtain hS0 := hS; go_simp; first | done | (with_reducible rfl)
            try simp only [Act.put, List.setIfInBounds_toArray, List.set_cons_zero, List.set_cons_succ]
            refine takeH (i := 4) (v := ?_) rfl (by kernel_rfl) (by kernel_rfl) (by kernel_rfl) (fun _ _ _ h => h) rfl ?_ hHeld ?_
            rotate_left
            · intro w hS; (try dsimp only at hS); obtain hS0 := hS; go_simp; first | done | (with_reducible rfl)
            try simp only [Act.put, List.setIfInBounds_toArray, List.set_cons_zero, List.set_cons_succ]
            refine takeH (i := 5) (v := ?_) rfl (by kernel_rfl) (by kernel_rfl) (by kernel_rfl) (fun _ _ _ h => h) rfl ?_ hHeld ?_
            rotate_left
            · intro w hS; (try dsimp only at hS); obtain hS0 := hS; go_simp; first | done | (with_reducible rfl)
            try simp only [Act.put, List.setIfInBounds_toArray, List.set_cons_zero, List.set_cons_succ]
            refine takeH (i := 6) (v := ?_) rfl (by kernel_rfl) (by kernel_rfl) (by kernel_rfl) (fun _ _ _ h => h) rfl ?_ hHeld ?_
            rotate_left
            · intro w hS; (try dsimp only at hS); obtain hS0 := hS; go_simp; first | done | (with_reducible rfl)
            try simp only [Act.put, List.setIfInBounds_toArray, List.set_cons_zero, List.set_cons_succ]
            refine takeH (i := 7) (v := ?_) rfl (by kernel_rfl) (by kernel_rfl) (by kernel_rfl) (fun _ _ _ h => h) rfl ?_ hHeld ?_
            rotate_left
            · intro w hS; (try dsimp only at hS); obtain hS0 := hS; go_simp; first | done | (with_reducible rfl)
            try simp only [Act.put, List.setIfInBounds_toArray, List.set_cons_zero, List.set_cons_succ]
            refine takeH (i := 8) (v := ?_) rfl (by kernel_rfl) (by kernel_rfl) (by kernel_rfl) (fun _ _ _ h => h) rfl ?_ hHeld ?_
            rotate_left
            · intro w hS; (try dsimp only at hS); obtain hS0 := hS; go_simp; first | done | (with_reducible rfl)
            try simp only [Act.put, List.setIfInBounds_toArray, List.set_cons_zero, List.set_cons_succ]
            refine takeH (i := 9) (v := ?_) rfl (by kernel_rfl) (by kernel_rfl) (by kernel_rfl) (fun _ _ _ h => h) rfl ?_ hHeld ?_
            rotate_left
            · intro w hS; (try dsimp only at hS); obtain hS0 := hS; go_simp; first | done | (with_reducible rfl)
            try simp only [Act.put, List.setIfInBounds_toArray, List.set_cons_zero, List.set_cons_succ]
            refine takeH (i := 10) (v := ?_) rfl (by kernel_rfl) (by kernel_rfl) (by kernel_rfl) (fun _ _ _ h => h) rfl ?_ hHeld ?_
            rotate_left
            · intro w hS; (try dsimp only at hS); obtain hS0 := hS; go_simp; first | done | (with_reducible rfl)
            try simp only [Act.put, List.setIfInBounds_toArray, List.set_cons_zero, List.set_cons_succ]
            refine takeH (i := 11) (v := ?_) rfl (by kernel_rfl) (by kernel_rfl) (by kernel_rfl) (fun _ _ _ h => h) rfl ?_ hHeld ?_
            rotate_left
            · intro w hS; (try dsimp only at hS); obtain hS0 := hS; go_simp; first | done | (with_reducible rfl)
            try simp only [Act.put, List.setIfInBounds_toArray, List.set_cons_zero, List.set_cons_succ]
            refine wpAnyH_done (by kernel_rfl) ?_ _
            go_wp2_with fail
            exact ⟨⟨j + 1, by go_num, by omega, by rw [hR], HBQ.out.drew⟩, by simp [intOf]; omega⟩
          · obtain rfl : j = x.t.length := by omega
            rw [List.drop_length, List.flatten_nil, List.nil_append]
            have hends := fun W => rends_hd W x.h (by omega) hok.2
            go_wp2_with fail
            refine (hends _).mono ?_
            rintro e wz ⟨rfl, rfl⟩
            go_wp2_with fail
            exact ⟨⟨k + 1, x.h, v', by go_num, by omega, by omega, rfl, hok.2, HCU3.out.keep hbq, hB4.trans (hbq.mono hB4.size)⟩, by simp [intOf]; omega⟩
      · by_cases hlt4 : k < ps.length
        · obtain rfl : k = 100 := by omega
          clear hlt
          go_wp2
          go_meet
          exact ⟨h, v, rfl, hh, hcu, hB⟩
        · obtain rfl : k = ps.length := by omega
          clear hlt hlt4
          go_wp2
          go_meet
          exact ⟨h, v, rfl, hh, hcu, hB⟩
  case rest =>
    obtain ⟨h, v, rfl, hh, hcu, hB⟩ := hcut
    clear P4 hcu2 hB2
    have hhl := hh.lt
    have hTlen : (spl ⟨[], []⟩ a).t.length ≤ 10000 := by
      have h1 := congrArg List.length (spl_all a ⟨[], []⟩)
      simp only [List.flatten_nil, List.nil_append, List.length_append] at h1
      have := told_le (Sp.ok.nil.spl (l := a)) h1
      omega
    by_cases hne : h = []
    · subst hne
      have hcl := close_none _ g v hcu
      have hs0 : (strB ([] : List UInt8)).size = 0 := rfl
      go_wp2_with fail
      refine hcl.mono ?_
      rintro e wz ⟨rfl, rfl⟩
      have hwr1 := write_any (wz.alloc (.cells #[.string (strB a)] 9)) g [] v _ [a] (hcu.keep ((Below.refl _ wz).alloc (Nat.le_refl _) _)) Hd.nil (own_one wz a) (by simp; omega)
      simp only [List.flatten_cons, List.flatten_nil, List.append_nil] at hwr1
      have hBa : Below w.heap.size w (wz.alloc (.cells #[.string (strB a)] 9)) := hB.alloc hB.size _
      go_wp2_with fail
      refine hwr1.mono ?_
      rintro e w5 ⟨v1, v1', rfl, hW5⟩
      have hB5 : Below w.heap.size w w5 := hBa.trans (hW5.below.mono hgB)
      have hr5 := hW5.told
      clear hW5 hwr1 hBa
      have hn := new_any w5
      go_wp2_with fail
      refine hn.mono ?_
      rintro e w6 ⟨rfl, hcu6, hb6⟩
      have hB6 : Below w.heap.size w w6 := hB5.trans (hb6.mono hB5.size)
      have hwr2 := write_any (w6.alloc (.cells #[.string (strB a)] 9)) w5.heap.size [] _ _ [a] (hcu6.keep ((Below.refl _ w6).alloc (Nat.le_refl _) _)) Hd.nil (own_one w6 a) (by simp; omega)
      simp only [List.flatten_cons, List.flatten_nil, List.append_nil] at hwr2
      clear hn
      go_wp2_with fail
      refine hwr2.mono ?_
      rintro e w7 ⟨v2, v2', rfl, hW7⟩
      have hb7 : Below w5.heap.size w5 w7 := (hb6.alloc hb6.size _).trans hW7.below
      have hB7 : Below w.heap.size w w7 := hB5.trans (hb7.mono hB5.size)
      have hr7 := own_keep hr5 (F := fun _ => False) ⟨hb7.os, hb7.tape, hb7.output, hb7.size, fun k hk _ => hb7.block k hk⟩ (fun _ _ e => e)
      have hr8 := hW7.told
      generalize (spl ⟨[], []⟩ a).t = T at *
      obtain ⟨ao1, c1, rfl, q1, q2, q3⟩ := own_form hr7
      obtain ⟨ao2, c2, rfl, s1, s2, s3⟩ := own_form hr8
      have Q3 := hide q3
      have S3 := hide s3
      clear q3 s3 hr7 hr8 hr5 hW7 hwr2 hb7 hcu6 hb6
      go_wp2_with fail
      go_loopw [19] (fun i wq => ∃ j : Nat, i = .int .i64 (j : Int) ∧ j ≤ T.length ∧ Below w7.heap.size w7 wq)
        (fun i _ => T.length - (intOf i).toNat)
      case atStart => exact ⟨0, rfl, Nat.zero_le _, Below.refl _ _⟩
      case round =>
        obtain ⟨j, rfl, hj, hbq⟩ := hrel
        by_cases hltj : j < T.length
        · obtain ⟨g1, rfl, -, hg1, hc1⟩ := Q3.out (by omega)
          obtain ⟨g2, rfl, -, hg2, hc2⟩ := S3.out (by omega)
          have hcj1 := (hbq.cell (p := ⟨g1, j, none⟩) hg1).trans (hc1 j _ (tc_get T j hltj))
          have hcj2 := (hbq.cell (p := ⟨g2, j, none⟩) hg2).trans (hc2 j _ (tc_get T j hltj))
          have HBQ := hide hbq.drew
          clear hc1 hc2 hbq
          generalize T[j] = c at *
          go_wp2_with fail
          go_region
          go_wp2_with fail
          exact ⟨⟨j + 1, by go_num, by omega, HBQ.out⟩, by simp [intOf]; omega⟩
        · obtain rfl : j = T.length := by omega
          go_wp2
          go_ret
          exact ⟨rfl, hB7.trans (hbq.mono hB7.size)⟩

    · have hcl := close_some _ g h v hne hcu
      have hsh := strB_size h
      have hpos := List.length_pos_iff.2 hne
      have hz0 : ((h.length : Int) == 0) = false := beq_eq_false_iff_ne.2 (by omega)
      go_wp2_with fail
      refine hcl.mono ?_
      rintro e wz ⟨vc, rfl, hrc, hcuz, hCz⟩
      obtain ⟨ac, cc, rfl, r1, r2, r3⟩ := own_form hrc
      obtain ⟨gc, rfl, -, hgc, hcc⟩ := r3 (by omega)
      have hc0 := hcc 0 _ rfl
      have hBz : Below w.heap.size w wz := hB.trans (hCz.below (fun k e => by omega) hB.size)
      clear hcc r3 hrc hCz hcl
      have hwr1 := write_any (wz.alloc (.cells #[.string (strB a)] 9)) g [] (.slice none 0 0) _ [a] (hcuz.keep ((Below.refl _ wz).alloc (Nat.le_refl _) _)) Hd.nil (own_one wz a) (by simp; omega)
      simp only [List.flatten_cons, List.flatten_nil, List.append_nil] at hwr1
      have hBa : Below w.heap.size w (wz.alloc (.cells #[.string (strB a)] 9)) := hBz.alloc hBz.size _
      go_wp2_with fail
      refine hwr1.mono ?_
      rintro e w5 ⟨v1, v1', rfl, hW5⟩
      have hB5 : Below w.heap.size w w5 := hBa.trans (hW5.below.mono hgB)
      have hr5 := hW5.told
      clear hW5 hwr1 hBa
      have hn := new_any w5
      go_wp2_with fail
      refine hn.mono ?_
      rintro e w6 ⟨rfl, hcu6, hb6⟩
      have hB6 : Below w.heap.size w w6 := hB5.trans (hb6.mono hB5.size)
      have hwr2 := write_any (w6.alloc (.cells #[.string (strB a)] 9)) w5.heap.size [] _ _ [a] (hcu6.keep ((Below.refl _ w6).alloc (Nat.le_refl _) _)) Hd.nil (own_one w6 a) (by simp; omega)
      simp only [List.flatten_cons, List.flatten_nil, List.append_nil] at hwr2
      clear hn
      go_wp2_with fail
      refine hwr2.mono ?_
      rintro e w7 ⟨v2, v2', rfl, hW7⟩
      have hb7 : Below w5.heap.size w5 w7 := (hb6.alloc hb6.size _).trans hW7.below
      have hB7 : Below w.heap.size w w7 := hB5.trans (hb7.mono hB5.size)
      have hr7 := own_keep hr5 (F := fun _ => False) ⟨hb7.os, hb7.tape, hb7.output, hb7.size, fun k hk _ => hb7.block k hk⟩ (fun _ _ e => e)
      have hr8 := hW7.told
      generalize (spl ⟨[], []⟩ a).t = T at *
      obtain ⟨ao1, c1, rfl, q1, q2, q3⟩ := own_form hr7
      obtain ⟨ao2, c2, rfl, s1, s2, s3⟩ := own_form hr8
      have Q3 := hide q3
      have S3 := hide s3
      clear q3 s3 hr7 hr8 hr5 hW7 hwr2 hb7 hcu6 hb6
      go_wp2_with fail
      go_loopw [19] (fun i wq => ∃ j : Nat, i = .int .i64 (j : Int) ∧ j ≤ T.length ∧ Below w7.heap.size w7 wq)
        (fun i _ => T.length - (intOf i).toNat)
      case atStart => exact ⟨0, rfl, Nat.zero_le _, Below.refl _ _⟩
      case round =>
        obtain ⟨j, rfl, hj, hbq⟩ := hrel
        by_cases hltj : j < T.length
        · obtain ⟨g1, rfl, -, hg1, hc1⟩ := Q3.out (by omega)
          obtain ⟨g2, rfl, -, hg2, hc2⟩ := S3.out (by omega)
          have hcj1 := (hbq.cell (p := ⟨g1, j, none⟩) hg1).trans (hc1 j _ (tc_get T j hltj))
          have hcj2 := (hbq.cell (p := ⟨g2, j, none⟩) hg2).trans (hc2 j _ (tc_get T j hltj))
          have HBQ := hide hbq.drew
          clear hc1 hc2 hbq
          generalize T[j] = c at *
          go_wp2_with fail
          go_region
          go_wp2_with fail
          exact ⟨⟨j + 1, by go_num, by omega, HBQ.out⟩, by simp [intOf]; omega⟩
        · obtain rfl : j = T.length := by omega
          go_wp2
          go_ret
          exact ⟨rfl, hB7.trans (hbq.mono hB7.size)⟩
end Go.Proofs.Ythkhmjdenenikaa
