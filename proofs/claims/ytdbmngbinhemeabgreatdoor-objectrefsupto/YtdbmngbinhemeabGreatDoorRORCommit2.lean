/-
  A commit, read by the reference. Conditions: lengths within reach.
-/
import Derived.Test.YtdbmngbinhemeabGreatDoorRORCommit1
namespace Go.Proofs.YtdbmngbinhemeabGreatDoor
open Go.RowKit

theorem set51 {w : World} {g : Nat} {v0 v1 v2 v3 v4 u : Value} {t : TypeId} (h : w.heap[g]? = some (.cells #[v0, v1, v2, v3, v4] t)) : (w.setCell ⟨g, 1, none⟩ u).heap[g]? = some (.cells #[v0, u, v2, v3, v4] t) := by rw [heap_setCell _ _ _ _ _ _ _ h]; simp
theorem set52 {w : World} {g : Nat} {v0 v1 v2 v3 v4 u : Value} {t : TypeId} (h : w.heap[g]? = some (.cells #[v0, v1, v2, v3, v4] t)) : (w.setCell ⟨g, 2, none⟩ u).heap[g]? = some (.cells #[v0, v1, u, v3, v4] t) := by rw [heap_setCell _ _ _ _ _ _ _ h]; simp
theorem set53 {w : World} {g : Nat} {v0 v1 v2 v3 v4 u : Value} {t : TypeId} (h : w.heap[g]? = some (.cells #[v0, v1, v2, v3, v4] t)) : (w.setCell ⟨g, 3, none⟩ u).heap[g]? = some (.cells #[v0, v1, v2, u, v4] t) := by rw [heap_setCell _ _ _ _ _ _ _ h]; simp
theorem set54 {w : World} {g : Nat} {v0 v1 v2 v3 v4 u : Value} {t : TypeId} (h : w.heap[g]? = some (.cells #[v0, v1, v2, v3, v4] t)) : (w.setCell ⟨g, 4, none⟩ u).heap[g]? = some (.cells #[v0, v1, v2, v3, u] t) := by rw [heap_setCell _ _ _ _ _ _ _ h]; simp
set_option maxRecDepth 20000 in
set_option maxHeartbeats 3200000 in
theorem rtakeCommit_any (w : World) (b : Bs) (hb : b.length ≤ 140737488351232) :
    Calls Tryz.prog 20 #[.string (strB b)] w fun e w' => commitSaid w.heap.size b e w' ∧ Below w.heap.size w w' := by
  obtain ⟨i0, hi, hz0, hz1, hz2⟩ := info_parts Tryz.zStr
  have htk := rtakenCommit b (by omega)
  obtain ⟨s0, hs0⟩ : ∃ s, rBegin 75 b = s := ⟨_, rfl⟩
  obtain ⟨tree, s1, ht1⟩ : ∃ t s1, rD b s0 = (t, s1) := ⟨_, _, rfl⟩
  obtain ⟨c, s2, ht2⟩ : ∃ t s2, rC b 8 s1 = (t, s2) := ⟨_, _, rfl⟩
  have hrc := rC_le b 8 s1 (by omega)
  rw [ht2] at hrc
  obtain ⟨n, rfl⟩ := Int.eq_ofNat_of_zero_le hrc.1
  have hn : n ≤ 8 := by have := hrc.2; simp only at this; omega
  have hF : hCommit b s0 = ((tree, (rN (rD b) n s2).1, (rT b 64 (rN (rD b) n s2).2).1, (rI b (rT b 64 (rN (rD b) n s2).2).2).1, (rT b 1024 (rI b (rT b 64 (rN (rD b) n s2).2).2).2).1), (rT b 1024 (rI b (rT b 64 (rN (rD b) n s2).2).2).2).2) := by
    unfold hCommit rL
    simp only [rP, ht1, ht2, Int.toNat_natCast]
  unfold rtaken at htk
  rw [hs0, hF] at htk
  simp only at htk
  have HTK := hide htk
  have H0 := hide hs0
  have H1 := hide ht1
  have H2 := hide ht2
  clear htk hs0 ht1 ht2 hF hrc
  have HV := hide hb
  clear hb
  have hb0 : Below w.heap.size w (w.alloc (.cells #[.string ⟨#[]⟩, .slice none 0 0, .string ⟨#[]⟩, .int .i64 0, .string ⟨#[]⟩] 64)) := (Below.refl _ _).alloc (Nat.le_refl _) _
  have x0 := heap_last w (.cells #[.string ⟨#[]⟩, .slice none 0 0, .string ⟨#[]⟩, .int .i64 0, .string ⟨#[]⟩] 64) _ rfl
  have hn0 : (w.alloc (.cells #[.string ⟨#[]⟩, .slice none 0 0, .string ⟨#[]⟩, .int .i64 0, .string ⟨#[]⟩] 64)).heap.size = w.heap.size + 1 := by simp
  generalize hw0 : w.alloc (.cells #[.string ⟨#[]⟩, .slice none 0 0, .string ⟨#[]⟩, .int .i64 0, .string ⟨#[]⟩] 64) = w0 at *
  have hB := rbegun_any w0 b 75 HV.out
  rw [H0.out, show ((75 : UInt8).toNat : Int) = 75 from rfl] at hB
  go_enter Tryz.func20, Tryz.ntmps20
  go_wp2_with fail
  try rw [hw0]
  refine hB.mono ?_
  rintro e w1 ⟨g, rfl, R1, hg1, hb1⟩
  have x1 := (hb1.block _ (lt_of_heap x0)).trans x0
  have B1 := hb0.trans (hb1.mono hb0.size)
  have hT := rid_any w1 g b s0 R1 HV.out
  rw [H1.out] at hT
  simp only at hT
  clear hB hb1 R1 x0 hb0 hw0
  go_wp2_with fail
  refine hT.mono ?_
  rintro e w2 ⟨rfl, R2, gb2⟩
  have x2 := (gb2.block _ (lt_of_heap x1) (fun e => by injection e with e; omega)).trans x1
  have B2 := B1.grown gb2 B1.size (fun k hk => by injection hk with hk; omega)
  have hb3 : Below w2.heap.size w2 (w2.alloc (.cells #[.string (strB tree), .slice none 0 0, .string ⟨#[]⟩, .int .i64 0, .string ⟨#[]⟩] 64)) := (Below.refl _ _).alloc (Nat.le_refl _) _
  have z3 := heap_last w2 (.cells #[.string (strB tree), .slice none 0 0, .string ⟨#[]⟩, .int .i64 0, .string ⟨#[]⟩] 64) _ rfl
  have R3 := R2.keep hb3
  have x3 := (hb3.block _ (lt_of_heap x2)).trans x2
  have B3 := B2.trans (hb3.mono B2.size)
  have g2 := R2.lt
  have y2 := lt_of_heap x2
  have n3 : (w2.alloc (.cells #[.string (strB tree), .slice none 0 0, .string ⟨#[]⟩, .int .i64 0, .string ⟨#[]⟩] 64)).heap.size = w2.heap.size + 1 := by simp
  clear hT gb2 R2 x1 B1 x2 B2 hb3
  go_wp2_with fail
  generalize hw3 : w2.alloc (.cells #[.string (strB tree), .slice none 0 0, .string ⟨#[]⟩, .int .i64 0, .string ⟨#[]⟩] 64) = w3 at *
  generalize hF : w2.heap.size = F at *
  have hT := rcount_any w3 g b s1 8 R3 HV.out
  rw [H2.out] at hT
  simp only at hT
  refine hT.mono ?_
  rintro e w4 ⟨rfl, R4, gb4⟩
  have z4 := (gb4.block _ (lt_of_heap z3) (fun e => by injection e with e; omega)).trans z3
  have x4 := (gb4.block _ (lt_of_heap x3) (fun e => by injection e with e; omega)).trans x3
  have B4 := B3.grown gb4 B3.size (fun k hk => by injection hk with hk; omega)
  have n4 := gb4.size
  clear hT gb4 R3 x3 B3 z3 hw3 hF
  go_upto_block 0 with fail
  go_cut [7] from 17 to 35 (fun t wx => ∃ (k : Nat) (a : Option Addr) (cp : Nat) (f : List Bs) (S : Pos), f.length = k ∧ k ≤ n ∧ wx.heap[F]? = some (.cells #[.string (strB tree), .slice a k cp, .string ⟨#[]⟩, .int .i64 0, .string ⟨#[]⟩] 64) ∧ wx.ownsRow (F + 1) 9 1 (.slice a k cp) k (f.flatMap idC) ∧ Rr w0.heap.size wx g b S ∧ wx.heap[w.heap.size]? = some (.cells #[.string ⟨#[]⟩, .slice none 0 0, .string ⟨#[]⟩, .int .i64 0, .string ⟨#[]⟩] 64) ∧ Below w.heap.size w wx ∧ F + 1 ≤ wx.heap.size ∧ ((k = n ∧ f = (rN (rD b) n s2).1 ∧ S = (rN (rD b) n s2).2) ∨ (S = none ∧ (rN (rD b) n s2).2 = none)))
  case first =>
    go_wp2_with fail
    go_loopw [7] (fun t wr => ∃ (k : Nat) (a : Option Addr) (cp : Nat), k ≤ n ∧ t = .int .i64 k ∧ wr.heap[F]? = some (.cells #[.string (strB tree), .slice a k cp, .string ⟨#[]⟩, .int .i64 0, .string ⟨#[]⟩] 64) ∧ wr.ownsRow (F + 1) 9 1 (.slice a k cp) k ((rN (rD b) k s2).1.flatMap idC) ∧ Rr w0.heap.size wr g b (rN (rD b) k s2).2 ∧ wr.heap[w.heap.size]? = some (.cells #[.string ⟨#[]⟩, .slice none 0 0, .string ⟨#[]⟩, .int .i64 0, .string ⟨#[]⟩] 64) ∧ Below w.heap.size w wr ∧ F + 1 ≤ wr.heap.size)
      (fun t _ => n - (intOf t).toNat)
    case atStart => exact ⟨0, none, 0, by omega, rfl, z4, World.ownsRow_nil _ _ _ _, R4, x4, B4, by omega⟩
    case round =>
      obtain ⟨k, a, cp, hk, rfl, zr, own, Rk, xr, Br, sr⟩ := hrel
      clear z4 R4 x4 B4
      obtain ⟨S, hS⟩ : ∃ S, (rN (rD b) k s2).2 = S := ⟨_, rfl⟩
      rw [hS] at Rk
      have hbad := Rk.bad
      by_cases hgo : k < n ∧ S ≠ none
      · obtain ⟨hlt, hne⟩ := hgo
        obtain ⟨p, rfl⟩ := Option.ne_none_iff_exists'.1 hne
        simp only [Option.isNone_some] at hbad
        obtain ⟨id, t1, hd⟩ : ∃ t s', rD b (some p) = (t, s') := ⟨_, _, rfl⟩
        have hsn := rN_snoc (rD b) k s2
        rw [hS, hd] at hsn
        simp only at hsn
        have HSN := hide hsn
        have hdw : Below wr.heap.size wr wr.drew := (Below.refl _ _).drew
        have hT := rid_any wr.drew g b (some p) (Rk.keep hdw) HV.out
        rw [hd] at hT
        simp only at hT
        obtain ⟨csg, hcsg⟩ := Rk.heap
        have zd : wr.drew.heap[F]? = some (.cells #[.string (strB tree), .slice a k cp, .string ⟨#[]⟩, .int .i64 0, .string ⟨#[]⟩] 64) := zr
        have d1 : wr.drew.cell? ⟨F, 1, none⟩ = some (.slice a k cp) := rc (i := 1) zd rfl
        have HO := hide (own_below own hdw)
        have Bd : Below w.heap.size w wr.drew := Br.drew
        have xd : wr.drew.heap[w.heap.size]? = some (.cells #[.string ⟨#[]⟩, .slice none 0 0, .string ⟨#[]⟩, .int .i64 0, .string ⟨#[]⟩] 64) := xr
        have hcsd : wr.drew.heap[g]? = some (.cells csg 90) := hcsg
        have sd : F + 1 ≤ wr.drew.heap.size := sr
        clear hsn hd hS own hne
        go_wp2_with fail
        refine wp_region_held_drew (S := fun _ => True) (by kernel_rfl) (trivial) (fun hHeld => ?_)
        refine takeH (i := 0) (v := ?_) rfl (by kernel_rfl) (by kernel_rfl) (by kernel_rfl) (fun _ _ _ h => h) rfl ?_ hHeld ?_
        rotate_left
        · intro w _; go_simp; first | done | (with_reducible rfl)
        try simp only [Act.put, List.setIfInBounds_toArray, List.set_cons_zero, List.set_cons_succ]
        refine takeH (i := 2) (v := ?_) rfl (by kernel_rfl) (by kernel_rfl) (by kernel_rfl) (fun _ _ _ h => h) rfl ?_ hHeld ?_
        rotate_left
        · intro w _; go_simp; first | done | (with_reducible rfl)
        try simp only [Act.put, List.setIfInBounds_toArray, List.set_cons_zero, List.set_cons_succ]
        refine twoH (i := 1) (j := 3) rfl rfl (by kernel_rfl) rfl rfl (fun K hK => ?_) (fun K hK => ?_)
        · go_simp
          refine hK.out _ _ (trivial) (fun hHeld => ?_)
          clear hK K
          try simp only [Act.put, List.setIfInBounds_toArray, List.set_cons_zero, List.set_cons_succ]
          refine onlyH (i := 3) rfl (by kernel_rfl) rfl (fun K hK => ?_)
          go_simp
          refine hT.mono ?_
          rintro e w5 ⟨rfl, R5, gb5⟩
          have z5 := (gb5.block _ (lt_of_heap zd) (fun e => by injection e with e; omega)).trans zd
          have x5 := (gb5.block _ (lt_of_heap xd) (fun e => by injection e with e; omega)).trans xd
          have B5 := Bd.grown gb5 Bd.size (fun q hq => by injection hq with hq; omega)
          have own5 := HO.out.kept gb5 (.inr (ne_own' HO.out hcsd (by decide)))
          have n5 := gb5.size
          have e1 := rc (i := 1) z5 rfl
          have hb7 : Below w5.heap.size w5 (w5.alloc (.cells #[.string (strB id)] 9)) := (Below.refl _ _).alloc (Nat.le_refl _) _
          have own7 := own5.alloc (.cells #[.string (strB id)] 9)
          have z7 := (hb7.block _ (lt_of_heap z5)).trans z5
          have x7 := (hb7.block _ (lt_of_heap x5)).trans x5
          have R7 := R5.keep hb7
          have B7 := B5.trans (hb7.mono B5.size)
          have e2 := rc (i := 1) z7 rfl
          have n7 : (w5.alloc (.cells #[.string (strB id)] 9)).heap.size = w5.heap.size + 1 := by simp
          have hnw := news_at w5 [.string (strB id)] 9
          refine hK.out _ _ (trivial) (fun hHeld => ?_)
          clear hK K
          try simp only [Act.put, List.setIfInBounds_toArray, List.set_cons_zero, List.set_cons_succ]
          refine onlyH (i := 4) rfl (by kernel_rfl) rfl (fun K hK => ?_)
          go_simp
          refine hK.out _ _ (trivial) (fun hHeld => ?_)
          clear hK K
          try simp only [Act.put, List.setIfInBounds_toArray, List.set_cons_zero, List.set_cons_succ]
          refine onlyH (i := 5) rfl (by kernel_rfl) rfl (fun K hK => ?_)
          obtain ⟨v8, w8, run8, own8, gr8, -⟩ := run_append_own (P := Tryz.prog) (w5.alloc (.cells #[.string (strB id)] 9)) (F + 1) 22 22 9 i0 (.string ⟨#[]⟩) 1 16 Tryz.underlying22 hi hz0 hz1 hz2 rfl (by decide) _ _ _ own7 ⟨w5.heap.size, 0, none⟩ 1 1 [.string (strB id)] rfl hnw (by simp [Value.oneCell']) (by unfold maxLen; omega) (by omega) (by omega)
          obtain ⟨a8, c8, rfl, -⟩ := own_form own8
          refine wp_append_run (.tmp 30) (.tmp 33) 22 rfl rfl rfl run8 ?_
          have z8 := (gr8.block F (lt_of_heap z7) (fun e => ne_own' own7 z7 (by decide) e.symm)).trans z7
          have x8 := (gr8.block _ (lt_of_heap x7) (fun e => ne_own' own7 x7 (by decide) e.symm)).trans x7
          have R8 := R7.grown gr8 (fun q hq => by have := (own7.lt q hq).1; omega)
          have B8 := B7.grown gr8 B7.size (fun q hq => by have := (own7.lt q hq).1; omega)
          have n8 := gr8.size
          have e8 := rc (i := 1) z8 rfl
          have f8 := frozen0 (j := 1) z8
          refine hK.out _ _ (trivial) (fun hHeld => ?_)
          clear hK K
          try simp only [Act.put, List.setIfInBounds_toArray, List.set_cons_zero, List.set_cons_succ]
          refine takeH (i := 6) (v := ?_) rfl (by kernel_rfl) (by kernel_rfl) (by kernel_rfl) (fun _ _ _ h => h) rfl ?_ hHeld ?_
          rotate_left
          · intro w _; go_simp; first | done | (with_reducible rfl)
          try simp only [Act.put, List.setIfInBounds_toArray, List.set_cons_zero, List.set_cons_succ]
          refine onlyH (i := 7) rfl (by kernel_rfl) rfl (fun K hK => ?_)
          go_simp
          refine hK.out _ _ (trivial) (fun hHeld => ?_)
          clear hK K
          try simp only [Act.put, List.setIfInBounds_toArray, List.set_cons_zero, List.set_cons_succ]
          refine wpAnyH_done (by kernel_rfl) ?_ _
          clear hHeld
          go_wp2
          go_roundw
          case rel =>
            refine ⟨k + 1, a8, c8, by omega, by go_num, set51 z8, ?_, ?_, ?_, ?_, ?_⟩
            · rw [HSN.out, flat_one]
              exact own8.kept (gb_set w8 F 1 _) (.inr (ne_own' own8 z8 (by decide)))
            · rw [HSN.out]
              exact R8.set (.inl (by omega))
            · exact ((gb_set w8 F 1 _).block _ (lt_of_heap x8) (fun e => by injection e with e; omega)).trans x8
            · exact B8.setCell (p := ⟨F, 1, none⟩) (by simp; omega) _
            · have := (gb_set w8 F 1 (.slice a8 (k + 1) c8)).size
              omega
          case measure => simp [intOf]; omega
        · go_simp
          refine hT.mono ?_
          rintro e w5 ⟨rfl, R5, gb5⟩
          have z5 := (gb5.block _ (lt_of_heap zd) (fun e => by injection e with e; omega)).trans zd
          have x5 := (gb5.block _ (lt_of_heap xd) (fun e => by injection e with e; omega)).trans xd
          have B5 := Bd.grown gb5 Bd.size (fun q hq => by injection hq with hq; omega)
          have own5 := HO.out.kept gb5 (.inr (ne_own' HO.out hcsd (by decide)))
          have n5 := gb5.size
          have e1 := rc (i := 1) z5 rfl
          have hb7 : Below w5.heap.size w5 (w5.alloc (.cells #[.string (strB id)] 9)) := (Below.refl _ _).alloc (Nat.le_refl _) _
          have own7 := own5.alloc (.cells #[.string (strB id)] 9)
          have z7 := (hb7.block _ (lt_of_heap z5)).trans z5
          have x7 := (hb7.block _ (lt_of_heap x5)).trans x5
          have R7 := R5.keep hb7
          have B7 := B5.trans (hb7.mono B5.size)
          have e2 := rc (i := 1) z7 rfl
          have n7 : (w5.alloc (.cells #[.string (strB id)] 9)).heap.size = w5.heap.size + 1 := by simp
          have hnw := news_at w5 [.string (strB id)] 9
          refine hK.out _ _ (trivial) (fun hHeld => ?_)
          clear hK K
          try simp only [Act.put, List.setIfInBounds_toArray, List.set_cons_zero, List.set_cons_succ]
          refine twoH (i := 1) (j := 4) rfl rfl (by kernel_rfl) rfl rfl (fun K hK => ?_) (fun K hK => ?_)
          · go_simp
            refine hK.out _ _ (trivial) (fun hHeld => ?_)
            clear hK K
            try simp only [Act.put, List.setIfInBounds_toArray, List.set_cons_zero, List.set_cons_succ]
            refine onlyH (i := 4) rfl (by kernel_rfl) rfl (fun K hK => ?_)
            go_simp
            refine hK.out _ _ (trivial) (fun hHeld => ?_)
            clear hK K
            try simp only [Act.put, List.setIfInBounds_toArray, List.set_cons_zero, List.set_cons_succ]
            refine onlyH (i := 5) rfl (by kernel_rfl) rfl (fun K hK => ?_)
            obtain ⟨v8, w8, run8, own8, gr8, -⟩ := run_append_own (P := Tryz.prog) (w5.alloc (.cells #[.string (strB id)] 9)) (F + 1) 22 22 9 i0 (.string ⟨#[]⟩) 1 16 Tryz.underlying22 hi hz0 hz1 hz2 rfl (by decide) _ _ _ own7 ⟨w5.heap.size, 0, none⟩ 1 1 [.string (strB id)] rfl hnw (by simp [Value.oneCell']) (by unfold maxLen; omega) (by omega) (by omega)
            obtain ⟨a8, c8, rfl, -⟩ := own_form own8
            refine wp_append_run (.tmp 30) (.tmp 33) 22 rfl rfl rfl run8 ?_
            have z8 := (gr8.block F (lt_of_heap z7) (fun e => ne_own' own7 z7 (by decide) e.symm)).trans z7
            have x8 := (gr8.block _ (lt_of_heap x7) (fun e => ne_own' own7 x7 (by decide) e.symm)).trans x7
            have R8 := R7.grown gr8 (fun q hq => by have := (own7.lt q hq).1; omega)
            have B8 := B7.grown gr8 B7.size (fun q hq => by have := (own7.lt q hq).1; omega)
            have n8 := gr8.size
            have e8 := rc (i := 1) z8 rfl
            have f8 := frozen0 (j := 1) z8
            refine hK.out _ _ (trivial) (fun hHeld => ?_)
            clear hK K
            try simp only [Act.put, List.setIfInBounds_toArray, List.set_cons_zero, List.set_cons_succ]
            refine takeH (i := 6) (v := ?_) rfl (by kernel_rfl) (by kernel_rfl) (by kernel_rfl) (fun _ _ _ h => h) rfl ?_ hHeld ?_
            rotate_left
            · intro w _; go_simp; first | done | (with_reducible rfl)
            try simp only [Act.put, List.setIfInBounds_toArray, List.set_cons_zero, List.set_cons_succ]
            refine onlyH (i := 7) rfl (by kernel_rfl) rfl (fun K hK => ?_)
            go_simp
            refine hK.out _ _ (trivial) (fun hHeld => ?_)
            clear hK K
            try simp only [Act.put, List.setIfInBounds_toArray, List.set_cons_zero, List.set_cons_succ]
            refine wpAnyH_done (by kernel_rfl) ?_ _
            clear hHeld
            go_wp2
            go_roundw
            case rel =>
              refine ⟨k + 1, a8, c8, by omega, by go_num, set51 z8, ?_, ?_, ?_, ?_, ?_⟩
              · rw [HSN.out, flat_one]
                exact own8.kept (gb_set w8 F 1 _) (.inr (ne_own' own8 z8 (by decide)))
              · rw [HSN.out]
                exact R8.set (.inl (by omega))
              · exact ((gb_set w8 F 1 _).block _ (lt_of_heap x8) (fun e => by injection e with e; omega)).trans x8
              · exact B8.setCell (p := ⟨F, 1, none⟩) (by simp; omega) _
              · have := (gb_set w8 F 1 (.slice a8 (k + 1) c8)).size
                omega
            case measure => simp [intOf]; omega
          · go_simp
            refine hK.out _ _ (trivial) (fun hHeld => ?_)
            clear hK K
            try simp only [Act.put, List.setIfInBounds_toArray, List.set_cons_zero, List.set_cons_succ]
            refine onlyH (i := 1) rfl (by kernel_rfl) rfl (fun K hK => ?_)
            go_simp
            refine hK.out _ _ (trivial) (fun hHeld => ?_)
            clear hK K
            try simp only [Act.put, List.setIfInBounds_toArray, List.set_cons_zero, List.set_cons_succ]
            refine onlyH (i := 5) rfl (by kernel_rfl) rfl (fun K hK => ?_)
            obtain ⟨v8, w8, run8, own8, gr8, -⟩ := run_append_own (P := Tryz.prog) (w5.alloc (.cells #[.string (strB id)] 9)) (F + 1) 22 22 9 i0 (.string ⟨#[]⟩) 1 16 Tryz.underlying22 hi hz0 hz1 hz2 rfl (by decide) _ _ _ own7 ⟨w5.heap.size, 0, none⟩ 1 1 [.string (strB id)] rfl hnw (by simp [Value.oneCell']) (by unfold maxLen; omega) (by omega) (by omega)
            obtain ⟨a8, c8, rfl, -⟩ := own_form own8
            refine wp_append_run (.tmp 30) (.tmp 33) 22 rfl rfl rfl run8 ?_
            have z8 := (gr8.block F (lt_of_heap z7) (fun e => ne_own' own7 z7 (by decide) e.symm)).trans z7
            have x8 := (gr8.block _ (lt_of_heap x7) (fun e => ne_own' own7 x7 (by decide) e.symm)).trans x7
            have R8 := R7.grown gr8 (fun q hq => by have := (own7.lt q hq).1; omega)
            have B8 := B7.grown gr8 B7.size (fun q hq => by have := (own7.lt q hq).1; omega)
            have n8 := gr8.size
            have e8 := rc (i := 1) z8 rfl
            have f8 := frozen0 (j := 1) z8
            refine hK.out _ _ (trivial) (fun hHeld => ?_)
            clear hK K
            try simp only [Act.put, List.setIfInBounds_toArray, List.set_cons_zero, List.set_cons_succ]
            refine takeH (i := 6) (v := ?_) rfl (by kernel_rfl) (by kernel_rfl) (by kernel_rfl) (fun _ _ _ h => h) rfl ?_ hHeld ?_
            rotate_left
            · intro w _; go_simp; first | done | (with_reducible rfl)
            try simp only [Act.put, List.setIfInBounds_toArray, List.set_cons_zero, List.set_cons_succ]
            refine onlyH (i := 7) rfl (by kernel_rfl) rfl (fun K hK => ?_)
            go_simp
            refine hK.out _ _ (trivial) (fun hHeld => ?_)
            clear hK K
            try simp only [Act.put, List.setIfInBounds_toArray, List.set_cons_zero, List.set_cons_succ]
            refine wpAnyH_done (by kernel_rfl) ?_ _
            clear hHeld
            go_wp2
            go_roundw
            case rel =>
              refine ⟨k + 1, a8, c8, by omega, by go_num, set51 z8, ?_, ?_, ?_, ?_, ?_⟩
              · rw [HSN.out, flat_one]
                exact own8.kept (gb_set w8 F 1 _) (.inr (ne_own' own8 z8 (by decide)))
              · rw [HSN.out]
                exact R8.set (.inl (by omega))
              · exact ((gb_set w8 F 1 _).block _ (lt_of_heap x8) (fun e => by injection e with e; omega)).trans x8
              · exact B8.setCell (p := ⟨F, 1, none⟩) (by simp; omega) _
              · have := (gb_set w8 F 1 (.slice a8 (k + 1) c8)).size
                omega
            case measure => simp [intOf]; omega
      · have hdone : k = n ∨ S = none := by
          by_cases h : k < n
          · exact .inr (Classical.not_not.1 (fun h2 => hgo ⟨h, h2⟩))
          · exact .inl (by omega)
        obtain ⟨f, hf⟩ : ∃ f, (rN (rD b) k s2).1 = f := ⟨_, rfl⟩
        rw [hf] at own
        have hlf : f.length = k := by rw [← hf, rN_length]
        have hdead : S = none → (rN (rD b) n s2).2 = none := fun h => by
          have := rN_dead (one := rD b) rfl s2 k (hS.trans h) (n - k)
          rwa [show k + (n - k) = n from by omega] at this
        have hend : (k = n ∧ f = (rN (rD b) n s2).1 ∧ S = (rN (rD b) n s2).2) ∨ (S = none ∧ (rN (rD b) n s2).2 = none) := by
          rcases hdone with rfl | h
          · exact .inl ⟨rfl, hf.symm, hS.symm⟩
          · exact .inr ⟨h, hdead h⟩
        have hcase : k = n ∨ (k < n ∧ S = none) := by
          rcases hdone with h | h
          · exact .inl h
          · by_cases h2 : k < n
            · exact .inr ⟨h2, h⟩
            · exact .inl (by omega)
        have HEND := hide hend
        have HLF := hide hlf
        clear hdone hgo hdead hS hf hend hlf
        rcases hcase with hkn | ⟨hlt, hsn⟩
        · have hnl : ¬ ((k : Int) < (n : Int)) := by omega
          have HKN := hide hkn
          clear hkn
          go_wp2
          go_meet
          exact ⟨k, a, cp, f, S, HLF.out, hk, zr, own, Rk, xr, Br, sr, HEND.out⟩
        · have hlt' : (k : Int) < (n : Int) := by omega
          have hbad' : wr.cell? ⟨g, 2, none⟩ = some (.bool true) := by rw [hbad, hsn]; rfl
          clear hbad hsn
          go_wp2
          go_meet
          exact ⟨k, a, cp, f, S, HLF.out, hk, zr, own, Rk, xr, Br, sr, HEND.out⟩
  case rest =>
    clear z4 R4 x4 B4 n4
    obtain ⟨k, a, cp, f, S, hlf, hk, zr, own, Rk, xr, Br, sr, hend⟩ := hcut
    obtain ⟨who, s4, h4⟩ : ∃ t s', rT b 64 S = (t, s') := ⟨_, _, rfl⟩
    obtain ⟨time, s5, h5⟩ : ∃ t s', rI b s4 = (t, s') := ⟨_, _, rfl⟩
    obtain ⟨note, s6, h6⟩ : ∃ t s', rT b 1024 s5 = (t, s') := ⟨_, _, rfl⟩
    have hkey : (decide (s6 = some b.length) = true → commitOk (tree, f, who, time, note) = true → takenCommit b = some (tree, f, who, time, note)) ∧ ((decide (s6 = some b.length) = false ∨ commitOk (tree, f, who, time, note) = false) → takenCommit b = none) := by
      have hk2 := HTK.out
      rcases hend with ⟨-, rfl, rfl⟩ | ⟨rfl, hnn⟩
      · rw [h4, h5, h6] at hk2
        simp only at hk2
        refine ⟨fun g1 g2 => ?_, fun g => ?_⟩
        · rw [← hk2, if_pos ⟨of_decide_eq_true g1, g2⟩]
        · rw [← hk2]
          refine if_neg (fun g3 => ?_)
          rcases g with g | g
          · exact of_decide_eq_false g g3.1
          · rw [g] at g3; cases g3.2
      · rw [hnn, show rT b 64 none = ([], none) from rfl, show rI b (([], none) : Bs × Pos).2 = (0, none) from rfl, show rT b 1024 ((0, none) : Int × Pos).2 = ([], none) from rfl] at hk2
        rw [show rT b 64 none = ([], none) from rfl] at h4
        injection h4 with _ h4
        subst h4
        rw [show rI b none = (0, none) from rfl] at h5
        injection h5 with _ h5
        subst h5
        rw [show rT b 1024 none = ([], none) from rfl] at h6
        injection h6 with _ h6
        subst h6
        have hno : takenCommit b = none := by rw [← hk2]; exact if_neg (fun g => by cases g.1)
        exact ⟨fun g => by simp at g, fun _ => hno⟩
    have HTR := hide hkey.1
    have HFA := hide hkey.2
    have HO := hide own
    have HLF := hide hlf
    have H4 := hide h4
    have H5 := hide h5
    have H6 := hide h6
    clear hkey own hlf h4 h5 h6 hend
    have hT7 := rtakeText_any _ g b S 64 Rk HV.out
    rw [H4.out] at hT7
    simp only at hT7
    obtain ⟨csg7, hcsg7⟩ := Rk.heap
    go_wp2_with fail
    refine hT7.mono ?_
    rintro e u7 ⟨rfl, Rk7, gb7⟩
    have z7 := (gb7.block _ (lt_of_heap zr) (fun e => by injection e with e; omega)).trans zr
    have x7 := (gb7.block _ (lt_of_heap xr) (fun e => by injection e with e; omega)).trans xr
    have B7 := Br.grown gb7 Br.size (fun q hq => by injection hq with hq; omega)
    have O7 := HO.out.kept gb7 (.inr (ne_own' HO.out hcsg7 (by decide)))
    have n7 := gb7.size
    have c7 := rc (i := 2) z7 rfl
    have f7 := frozen0 (j := 2) z7
    have zs7 := set52 (u := .string (strB who)) z7
    have xs7 := ((gb_set u7 F 2 (.string (strB who))).block _ (lt_of_heap x7) (fun e => by injection e with e; omega)).trans x7
    have Bs7 := B7.setCell (p := ⟨F, 2, none⟩) (by simp; omega) (.string (strB who))
    have Os7 := hide (O7.kept (gb_set u7 F 2 (.string (strB who))) (.inr (ne_own' O7 z7 (by decide))))
    have Rs7 := Rk7.set (n := F) (i := 2) (u := .string (strB who)) (.inl (by omega))
    have ns7 := (gb_set u7 F 2 (.string (strB who))).size
    clear hT7 gb7 Rk Rk7 zr xr Br HO hcsg7 z7 x7 B7 O7
    go_wp2_with fail
    generalize hv7 : u7.setCell ⟨F, 2, none⟩ (.string (strB who)) = v7 at *
    clear hv7 c7 f7
    have zr := zs7
    have xr := xs7
    have Br := Bs7
    have HO := Os7
    have Rk := Rs7
    clear zs7 xs7 Bs7 Os7 Rs7
    have hT8 := rint_any _ g b s4 Rk HV.out
    rw [H5.out] at hT8
    simp only at hT8
    obtain ⟨csg8, hcsg8⟩ := Rk.heap
    refine hT8.mono ?_
    rintro e u8 ⟨rfl, Rk8, gb8⟩
    have z8 := (gb8.block _ (lt_of_heap zr) (fun e => by injection e with e; omega)).trans zr
    have x8 := (gb8.block _ (lt_of_heap xr) (fun e => by injection e with e; omega)).trans xr
    have B8 := Br.grown gb8 Br.size (fun q hq => by injection hq with hq; omega)
    have O8 := HO.out.kept gb8 (.inr (ne_own' HO.out hcsg8 (by decide)))
    have n8 := gb8.size
    have c8 := rc (i := 3) z8 rfl
    have f8 := frozen0 (j := 3) z8
    have zs8 := set53 (u := .int .i64 time) z8
    have xs8 := ((gb_set u8 F 3 (.int .i64 time)).block _ (lt_of_heap x8) (fun e => by injection e with e; omega)).trans x8
    have Bs8 := B8.setCell (p := ⟨F, 3, none⟩) (by simp; omega) (.int .i64 time)
    have Os8 := hide (O8.kept (gb_set u8 F 3 (.int .i64 time)) (.inr (ne_own' O8 z8 (by decide))))
    have Rs8 := Rk8.set (n := F) (i := 3) (u := .int .i64 time) (.inl (by omega))
    have ns8 := (gb_set u8 F 3 (.int .i64 time)).size
    clear hT8 gb8 Rk Rk8 zr xr Br HO hcsg8 z8 x8 B8 O8
    go_wp2_with fail
    generalize hv8 : u8.setCell ⟨F, 3, none⟩ (.int .i64 time) = v8 at *
    clear hv8 c8 f8
    have zr := zs8
    have xr := xs8
    have Br := Bs8
    have HO := Os8
    have Rk := Rs8
    clear zs8 xs8 Bs8 Os8 Rs8
    have hT9 := rtakeText_any _ g b s5 1024 Rk HV.out
    rw [H6.out] at hT9
    simp only at hT9
    obtain ⟨csg9, hcsg9⟩ := Rk.heap
    refine hT9.mono ?_
    rintro e u9 ⟨rfl, Rk9, gb9⟩
    have z9 := (gb9.block _ (lt_of_heap zr) (fun e => by injection e with e; omega)).trans zr
    have x9 := (gb9.block _ (lt_of_heap xr) (fun e => by injection e with e; omega)).trans xr
    have B9 := Br.grown gb9 Br.size (fun q hq => by injection hq with hq; omega)
    have O9 := HO.out.kept gb9 (.inr (ne_own' HO.out hcsg9 (by decide)))
    have n9 := gb9.size
    have c9 := rc (i := 4) z9 rfl
    have f9 := frozen0 (j := 4) z9
    have zs9 := set54 (u := .string (strB note)) z9
    have xs9 := ((gb_set u9 F 4 (.string (strB note))).block _ (lt_of_heap x9) (fun e => by injection e with e; omega)).trans x9
    have Bs9 := B9.setCell (p := ⟨F, 4, none⟩) (by simp; omega) (.string (strB note))
    have Os9 := hide (O9.kept (gb_set u9 F 4 (.string (strB note))) (.inr (ne_own' O9 z9 (by decide))))
    have Rs9 := Rk9.set (n := F) (i := 4) (u := .string (strB note)) (.inl (by omega))
    have ns9 := (gb_set u9 F 4 (.string (strB note))).size
    clear hT9 gb9 Rk Rk9 zr xr Br HO hcsg9 z9 x9 B9 O9
    go_wp2_with fail
    generalize hv9 : u9.setCell ⟨F, 4, none⟩ (.string (strB note)) = v9 at *
    clear hv9 c9 f9
    have zr := zs9
    have xr := xs9
    have Br := Bs9
    have HO := Os9
    have Rk := Rs9
    clear zs9 xs9 Bs9 Os9 Rs9
    have hE := rends_any _ g b s6 Rk
    obtain ⟨q1, hq1⟩ : ∃ q, decide (s6 = some b.length) = q := ⟨_, rfl⟩
    rw [hq1] at hE HTR HFA
    have hRt : ∀ W : World, W.ownsRow (F + 1) 9 1 (.slice a k cp) k (f.flatMap idC) → Calls Tryz.prog 52 #[.agg #[.string (strB tree), .slice a k cp, .string (strB who), .int .i64 time, .string (strB note)]] W fun e w' => e = .returned (.bool (commitOk (tree, f, who, time, note))) ∧ Below W.heap.size W w' := fun W hW =>
      rcommitRight_any W (tree, f, who, time, note) (.slice a k cp) (ls_of_own idC_length (by rw [show (tree, f, who, time, note).2.1.length = k from HLF.out]; exact hW))
    obtain ⟨q2, hq2⟩ : ∃ q, commitOk (tree, f, who, time, note) = q := ⟨_, rfl⟩
    rw [hq2] at hRt HTR HFA
    have HRT := hide hRt
    clear hRt hq1 hq2
    refine hE.mono ?_
    rintro e w5 ⟨rfl, hb5⟩
    have z5 := (hb5.block _ (lt_of_heap zr)).trans zr
    have x5 := (hb5.block _ (lt_of_heap xr)).trans xr
    have B5 := Br.trans (hb5.mono Br.size)
    have O5 := hide (own_below HO.out hb5)
    have c0 := rc (i := 0) z5 rfl
    have c1 := rc (i := 1) z5 rfl
    have c2 := rc (i := 2) z5 rfl
    have c3 := rc (i := 3) z5 rfl
    have c4 := rc (i := 4) z5 rfl
    clear hE hb5 zr xr Br HO Rk
    go_wp2_with fail
    refine (HRT.out _ O5.out).mono ?_
    rintro e w6 ⟨rfl, hb6⟩
    have z6 := (hb6.block _ (lt_of_heap z5)).trans z5
    have x6 := (hb6.block _ (lt_of_heap x5)).trans x5
    have B6 := B5.trans (hb6.mono B5.size)
    have O6 := hide (own_below O5.out hb6)
    have m0 := rc (i := 0) z6 rfl
    have m1 := rc (i := 1) z6 rfl
    have m2 := rc (i := 2) z6 rfl
    have m3 := rc (i := 3) z6 rfl
    have m4 := rc (i := 4) z6 rfl
    have l0 := rc (i := 0) x6 rfl
    have l1 := rc (i := 1) x6 rfl
    have l2 := rc (i := 2) x6 rfl
    have l3 := rc (i := 3) x6 rfl
    have l4 := rc (i := 4) x6 rfl
    have f0 := frozen0 (j := 0) x6
    have f1 := frozen0 (j := 1) x6
    have f2 := frozen0 (j := 2) x6
    have f3 := frozen0 (j := 3) x6
    have f4 := frozen0 (j := 4) x6
    clear hb6 z5 x5 B5 O5 c0 c1 c2 c3 c4 z6 HRT
    cases q1 with
    | false =>
      have ht := HFA.out (.inl rfl)
      cases q2
      all_goals
        go_wp2
        refine bodyPost_ret (results_cell_tmp_row rfl _ _ _ _ _ _ _ rfl (heap_set5 x6) Tryz.underlying64 rfl Tryz.infoCommit) rfl ⟨?_, (((((B6.setCell (p := ⟨w.heap.size, 0, none⟩) (by simp) _).setCell (p := ⟨w.heap.size, 1, none⟩) (by simp) _).setCell (p := ⟨w.heap.size, 2, none⟩) (by simp) _).setCell (p := ⟨w.heap.size, 3, none⟩) (by simp) _).setCell (p := ⟨w.heap.size, 4, none⟩) (by simp) _)⟩
        unfold commitSaid
        rw [ht]
        rfl
    | true =>
      cases q2 with
      | false =>
        have ht := HFA.out (.inr rfl)
        go_wp2
        refine bodyPost_ret (results_cell_tmp_row rfl _ _ _ _ _ _ _ rfl (heap_set5 x6) Tryz.underlying64 rfl Tryz.infoCommit) rfl ⟨?_, (((((B6.setCell (p := ⟨w.heap.size, 0, none⟩) (by simp) _).setCell (p := ⟨w.heap.size, 1, none⟩) (by simp) _).setCell (p := ⟨w.heap.size, 2, none⟩) (by simp) _).setCell (p := ⟨w.heap.size, 3, none⟩) (by simp) _).setCell (p := ⟨w.heap.size, 4, none⟩) (by simp) _)⟩
        unfold commitSaid
        rw [ht]
        rfl
      | true =>
        have ht := HTR.out rfl rfl
        go_wp2
        refine bodyPost_ret (results_cell_tmp_row rfl _ _ _ _ _ _ _ rfl (heap_set5 x6) Tryz.underlying64 rfl Tryz.infoCommit) rfl ⟨?_, (((((B6.setCell (p := ⟨w.heap.size, 0, none⟩) (by simp) _).setCell (p := ⟨w.heap.size, 1, none⟩) (by simp) _).setCell (p := ⟨w.heap.size, 2, none⟩) (by simp) _).setCell (p := ⟨w.heap.size, 3, none⟩) (by simp) _).setCell (p := ⟨w.heap.size, 4, none⟩) (by simp) _)⟩
        unfold commitSaid
        rw [ht]
        refine ⟨_, rfl, own_down (B := F + 1) ?_ (by omega)⟩
        rw [show (tree, f, who, time, note).2.1.length = k from HLF.out]
        exact O6.out.kept (gb_trans (gb_trans (gb_trans (gb_trans (gb_set w6 w.heap.size 0 _) (gb_set _ w.heap.size 1 _)) (gb_set _ w.heap.size 2 _)) (gb_set _ w.heap.size 3 _)) (gb_set _ w.heap.size 4 _)) (.inr (ne_own' O6.out x6 (by decide)))
end Go.Proofs.YtdbmngbinhemeabGreatDoor
