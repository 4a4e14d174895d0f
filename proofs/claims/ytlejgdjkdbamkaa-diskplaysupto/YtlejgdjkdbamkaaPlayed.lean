/-
  played: a disk behind a script. Conditions: what came in lies there.
-/
import Derived.Test.YtlejgdjkdbamkaaArgs
import Derived.Test.YtlejgdjkdbamkaaPick
import Derived.Test.YtlejgdjkdbamkaaFailsPure
namespace Go.Proofs.Ytlejgdjkdbamkaa
open Go.RowKit
variable {B : Nat} {w w' : World}

def I64 (x : Int) : Prop := -9223372036854775808 ≤ x ∧ x ≤ 9223372036854775807
structure Oq where
  kind : Int
  name : Nm
  to : Nm
  b : List UInt8
  n : Int
  torn : Int
/-- One op, its six cells from here on. -/
def OpAt (B : Nat) (w : World) (b off : Nat) (o : Oq) : Prop :=
  w.cell? ⟨b, off, none⟩ = some (.int .i64 o.kind) ∧ w.cell? ⟨b, off + 1, none⟩ = some (.string (strB o.name)) ∧ w.cell? ⟨b, off + 2, none⟩ = some (.string (strB o.to)) ∧ (∃ u, w.cell? ⟨b, off + 3, none⟩ = some u ∧ Sb B w u o.b) ∧
    w.cell? ⟨b, off + 4, none⟩ = some (.int .i64 o.n) ∧ w.cell? ⟨b, off + 5, none⟩ = some (.int .i64 o.torn) ∧ I64 o.kind ∧ I64 o.n ∧ I64 o.torn
theorem OpAt.keep {b off : Nat} {o : Oq} (h : OpAt B w b off o) (hb : Below B w w') (hlt : b < B) : OpAt B w' b off o := by
  obtain ⟨h0, h1, h2, ⟨u, h3, h3'⟩, h4, h5, r⟩ := h
  have k := fun (i : Nat) => hb.cell (p := ⟨b, i, none⟩) hlt
  exact ⟨(k _).trans h0, (k _).trans h1, (k _).trans h2, ⟨u, (k _).trans h3, h3'.keep hb⟩, (k _).trans h4, (k _).trans h5, r⟩
/-- A script. -/
def Ob (B : Nat) (w : World) (v : Value) (os : List Oq) : Prop :=
  ∃ ao cap, v = .slice ao os.length cap ∧ os.length ≤ cap ∧ cap ≤ maxLen ∧ (os ≠ [] → ∃ b off, ao = some ⟨b, off, none⟩ ∧ b < B ∧ ∀ j (h : j < os.length), OpAt B w b (off + j * 6) os[j])
theorem Ob.keep {v : Value} {os : List Oq} (h : Ob B w v os) (hb : Below B w w') : Ob B w' v os := by
  obtain ⟨ao, cap, hv, h1, h2, h4⟩ := h
  refine ⟨ao, cap, hv, h1, h2, fun hl => ?_⟩
  obtain ⟨b, off, ha, hlt, hc⟩ := h4 hl
  exact ⟨b, off, ha, hlt, fun j hj => (hc j hj).keep hb hlt⟩
theorem Ob.at {ao : Option Addr} {n cap : Nat} {os : List Oq} (h : Ob B w (.slice ao n cap) os) {j : Nat} (hj : j < os.length) : ∃ b off, ao = some ⟨b, off, none⟩ ∧ b < B ∧ OpAt B w b (off + j * 6) os[j] := by
  obtain ⟨ao', cap', hv, h1, h2, h4⟩ := h
  injection hv with e1 e2 e3
  subst e1 e2 e3
  obtain ⟨b, off, ha, hlt, hc⟩ := h4 (by rintro rfl; simp at hj)
  exact ⟨b, off, ha, hlt, hc j hj⟩
theorem drew_alloc (w : World) (o : Obj) : (w.alloc o).drew = w.drew.alloc o := rfl
theorem blk_new (w : World) (o : Obj) : (w.alloc o).drew.heap[w.heap.size]? = some o := by
  show (w.heap.push o)[w.heap.size]? = _
  simp
theorem cut_remove (S : Dk) (n : Nm) : (S.remove n).1.cut = S.cut := by
  unfold Dk.remove
  split
  · exact (stay_begun S).2
  · split <;> exact (stay_begun S).2
theorem cut_syncDir (S : Dk) : S.syncDir.1.cut = S.cut := by
  unfold Dk.syncDir
  split
  · rfl
  · split <;> rfl

set_option maxRecDepth 20000 in
set_option maxHeartbeats 8000000 in
theorem played_any (w : World) (v : Value) (os : List Oq) (most : Nat) (hB : B ≤ w.heap.size) (h : Ob B w v os) (hl : os.length ≤ 4611686018427387904) (hm : most ≤ 1000) :
    Calls Try.prog 16 #[v, .int .i64 (most : Int)] w fun e w' => ∃ d F S, e = .returned (.tuple #[.pointer (some ⟨d, 0, none⟩), .bool true]) ∧ Stands B w' F d S ∧ S.cut = none ∧ S.bulk ≤ 2000 * most ∧ Below B w w' := by
  have h' := h
  obtain ⟨ao, cap, rfl, q1, q2, -⟩ := h'
  go_enter Try.func16, Try.ntmps16
  go_wp2_with fail
  refine (new_lies2 (B := B) w hB 1048576 (by decide)).mono ?_
  rintro e w1 ⟨rfl, hs, hc⟩
  have hb1 := chg_below hc hB
  generalize w.heap.size = d at hs ⊢
  go_wp2
  go_loopw [8] (fun i wr => ∃ (j : Nat) (F : Nat → Prop) (S : Dk), i = .int .i64 (j : Int) ∧ j ≤ os.length ∧ j ≤ most ∧ Stands B wr F d S ∧ S.cut = none ∧ S.bulk ≤ 2000 * j ∧ Below B w wr)
    (fun i _ => most - (intOf i).toNat)
  case atStart => exact ⟨0, _, _, rfl, by omega, by omega, hs, rfl, by decide, hb1⟩
  case round =>
    clear hs hb1
    obtain ⟨j, F, S, rfl, hj1, hj2, hst, hcu, hbu, hbr⟩ := hrel
    have hzr := Nat.le_trans hB hbr.size
    by_cases hlt : j < os.length ∧ j < most
    · obtain ⟨j1, j2⟩ := hlt
      obtain ⟨b, off, rfl, hbB, hop⟩ := Ob.at (h.keep hbr) j1
      generalize os[j] = o at hop
      obtain ⟨kind, name, to, bb, nn, torn⟩ := o
      obtain ⟨d0, d1, d2, ⟨u, d3, hu⟩, d4, d5, r0, r4, r5⟩ := hop
      dsimp only at d0 d1 d2 d3 d4 d5 hu r0 r4 r5
      have hu' := hu
      obtain ⟨ua, uc, rfl, u1, u2, -, -⟩ := hu'
      obtain ⟨om, -, hom1, hom2, hom3⟩ := hu.thousand
      have HM := hide hom2
      have hux : bb.length ≤ 9223372036854775807 := by unfold maxLen at u2; omega
      have hq1 : (0 : Int) ≤ min (bb.length : Int) 1000 := by omega
      have hq2 : min (bb.length : Int) 1000 ≤ (uc : Int) := by omega
      clear hom2 hu
      generalize bb.length = ul at *
      have hpr := pk_range (c := kind) (n := 11) (by omega)
      have hpk := fun W => pick_any W kind 11 r0 (by omega)
      have hcA : Chg (fun _ => False) wr (wr.alloc (.cells #[.int .i64 kind, .string (strB name), .string (strB to), .slice ua ul uc, .int .i64 nn, .int .i64 torn] 35)) := (Chg.refl _ wr).alloc _
      have hbA := chg_below hcA hzr
      have hstA := hst.keep hcA (fun _ _ h => h)
      have hbrA := hbr.trans (hbA)
      have hzA := Nat.le_trans hB hbrA.size
      have homA := hom3.keep hbA
      go_wp2_with fail
      refine (named_any _ name nn r4).mono ?_
      rintro e w2 ⟨rfl, rfl⟩
      generalize nmd name nn = one at *
      go_wp2_with fail
      refine (hpk _).mono ?_
      rintro e w3 ⟨rfl, rfl⟩
      have hcase : pk kind 11 = 0 ∨ pk kind 11 = 1 ∨ pk kind 11 = 2 ∨ pk kind 11 = 3 ∨ pk kind 11 = 4 ∨ pk kind 11 = 5 ∨ pk kind 11 = 6 ∨ pk kind 11 = 7 ∨ pk kind 11 = 8 ∨ pk kind 11 = 9 ∨ pk kind 11 = 10 := by omega
      generalize pk kind 11 = kk at *
      clear hpk hpr d0 d1 d2 d3 d4 d5
      rcases hcase with rfl | rfl | rfl | rfl | rfl | rfl | rfl | rfl | rfl | rfl | rfl
      · go_wp2_with fail
        rw [HM.out]
        refine (append_in hstA hzA one (by omega) homA).mono ?_
        rintro e w4 ⟨rfl, ha⟩
        have hb4 := hbrA.trans (ha.below hstA hzA)
        have hbk := bulk_append (S := S) one om
        have hcut := (stay_append S one om).2
        rw [hcu] at hcut
        obtain ⟨F4, hs4, -⟩ := ha.stands
        clear ha hstA hst
        go_wp2_with fail
        exact ⟨⟨j + 1, F4, _, by go_num, by omega, by omega, hs4, hcut, by omega, hb4⟩, by simp [intOf]; omega⟩
      · go_wp2_with fail
        rw [HM.out]
        refine (append_in hstA hzA one (by omega) homA).mono ?_
        rintro e w4 ⟨rfl, ha⟩
        have hb4 := hbrA.trans (ha.below hstA hzA)
        have hbk := bulk_append (S := S) one om
        have hcut := (stay_append S one om).2
        rw [hcu] at hcut
        obtain ⟨F4, hs4, -⟩ := ha.stands
        clear ha hstA hst
        go_wp2_with fail
        exact ⟨⟨j + 1, F4, _, by go_num, by omega, by omega, hs4, hcut, by omega, hb4⟩, by simp [intOf]; omega⟩
      · go_wp2_with fail
        rw [HM.out]
        refine (append_in hstA hzA one (by omega) homA).mono ?_
        rintro e w4 ⟨rfl, ha⟩
        have hb4 := hbrA.trans (ha.below hstA hzA)
        have hbk := bulk_append (S := S) one om
        have hcut := (stay_append S one om).2
        rw [hcu] at hcut
        obtain ⟨F4, hs4, -⟩ := ha.stands
        clear ha hstA hst
        go_wp2_with fail
        exact ⟨⟨j + 1, F4, _, by go_num, by omega, by omega, hs4, hcut, by omega, hb4⟩, by simp [intOf]; omega⟩
      · go_wp2_with fail
        rw [HM.out]
        refine (append_in hstA hzA one (by omega) homA).mono ?_
        rintro e w4 ⟨rfl, ha⟩
        have hb4 := hbrA.trans (ha.below hstA hzA)
        have hbk := bulk_append (S := S) one om
        have hcut := (stay_append S one om).2
        rw [hcu] at hcut
        obtain ⟨F4, hs4, -⟩ := ha.stands
        clear ha hstA hst
        go_wp2_with fail
        exact ⟨⟨j + 1, F4, _, by go_num, by omega, by omega, hs4, hcut, by omega, hb4⟩, by simp [intOf]; omega⟩
      · go_wp2_with fail
        refine (sync_lies hstA hzA one (by omega)).mono ?_
        rintro e w4 ⟨rfl, ha⟩
        have hb4 := hbrA.trans (ha.below hstA hzA)
        have hbk := bulk_sync (S := S) one
        have hcut := (stay_sync S one).2
        rw [hcu] at hcut
        obtain ⟨F4, hs4, -⟩ := ha.stands
        clear ha hstA hst
        go_wp2_with fail
        exact ⟨⟨j + 1, F4, _, by go_num, by omega, by omega, hs4, hcut, by omega, hb4⟩, by simp [intOf]; omega⟩
      · go_wp2_with fail
        refine (sync_lies hstA hzA one (by omega)).mono ?_
        rintro e w4 ⟨rfl, ha⟩
        have hb4 := hbrA.trans (ha.below hstA hzA)
        have hbk := bulk_sync (S := S) one
        have hcut := (stay_sync S one).2
        rw [hcu] at hcut
        obtain ⟨F4, hs4, -⟩ := ha.stands
        clear ha hstA hst
        go_wp2_with fail
        exact ⟨⟨j + 1, F4, _, by go_num, by omega, by omega, hs4, hcut, by omega, hb4⟩, by simp [intOf]; omega⟩
      · go_wp2_with fail
        refine (syncDir_lies hstA hzA (by omega)).mono ?_
        rintro e w4 ⟨rfl, ha⟩
        have hb4 := hbrA.trans (ha.below hstA hzA)
        have hbk := bulk_syncDir (S := S)
        have hcut := cut_syncDir S
        rw [hcu] at hcut
        obtain ⟨F4, hs4, -⟩ := ha.stands
        clear ha hstA hst
        go_wp2_with fail
        exact ⟨⟨j + 1, F4, _, by go_num, by omega, by omega, hs4, hcut, by omega, hb4⟩, by simp [intOf]; omega⟩
      · go_wp2_with fail
        refine (named_any _ to torn r5).mono ?_
        rintro e w9 ⟨rfl, rfl⟩
        generalize nmd to torn = two at *
        go_wp2_with fail
        refine (rename_lies hstA hzA one two (by omega)).mono ?_
        rintro e w4 ⟨rfl, ha⟩
        have hb4 := hbrA.trans (ha.below hstA hzA)
        have hbk := bulk_rename (S := S) one two
        have hcut := (stay_rename S one two).2
        rw [hcu] at hcut
        obtain ⟨F4, hs4, -⟩ := ha.stands
        clear ha hstA hst
        go_wp2_with fail
        exact ⟨⟨j + 1, F4, _, by go_num, by omega, by omega, hs4, hcut, by omega, hb4⟩, by simp [intOf]; omega⟩
      · go_wp2_with fail
        refine (remove_lies hstA hzA one (by omega)).mono ?_
        rintro e w4 ⟨rfl, ha⟩
        have hb4 := hbrA.trans (ha.below hstA hzA)
        have hbk := bulk_remove (S := S) one
        have hcut := cut_remove S one
        rw [hcu] at hcut
        obtain ⟨F4, hs4, -⟩ := ha.stands
        clear ha hstA hst
        go_wp2_with fail
        exact ⟨⟨j + 1, F4, _, by go_num, by omega, by omega, hs4, hcut, by omega, hb4⟩, by simp [intOf]; omega⟩
      · have hp9 := pk_range (c := nn) (n := 9) (by omega)
        have hn0 := n_le S
        have hS9 := cell_new wr #[.int .i64 kind, .string (strB name), .string (strB to), .slice ua ul uc, .int .i64 nn, .int .i64 torn] 35 (0, 0) 4
        go_wp2_with fail
        refine wp_region_held_drew (S := fun W => W.cell? ⟨wr.heap.size, 4, none⟩ = some (.int .i64 nn)) (by kernel_rfl) (hS9) (fun hHeld => ?_)
        refine takeH (i := 0) (v := ?_) rfl (by kernel_rfl) (by kernel_rfl) (by kernel_rfl) (fun _ _ _ h => h) rfl ?_ hHeld ?_
        rotate_left
        · intro w hS; (try dsimp only at hS); obtain hS0 := hS; go_simp; first | done | (with_reducible rfl)
        try simp only [Act.put, ly1, ly2, ly3]
        refine takeH (i := 1) (v := ?_) rfl (by kernel_rfl) (by kernel_rfl) (by kernel_rfl) (fun _ _ _ h => h) rfl ?_ hHeld ?_
        rotate_left
        · intro w hS; (try dsimp only at hS); obtain hS0 := hS; go_simp; first | done | (with_reducible rfl)
        try simp only [Act.put, ly1, ly2, ly3]
        refine takeH (i := 3) (v := ?_) rfl (by kernel_rfl) (by kernel_rfl) (by kernel_rfl) (fun _ _ _ h => h) rfl ?_ hHeld ?_
        rotate_left
        · intro w hS; (try dsimp only at hS); obtain hS0 := hS; go_simp; first | done | (with_reducible rfl)
        try simp only [Act.put, ly1, ly2, ly3]
        refine takeH (i := 4) (v := ?_) rfl (by kernel_rfl) (by kernel_rfl) (by kernel_rfl) (fun _ _ _ h => h) rfl ?_ hHeld ?_
        rotate_left
        · intro w hS; (try dsimp only at hS); obtain hS0 := hS; go_simp; first | done | (with_reducible rfl)
        try simp only [Act.put, ly1, ly2, ly3]
        refine onlyH (i := 2) rfl (by kernel_rfl) rfl (fun K hK => ?_)
        go_simp
        have hstB := hstA.keep ((Chg.refl (fun _ => False) _).drew) (fun _ _ h => h)
        have hbB := hbrA.drew
        refine (ops_lies hstB).mono ?_
        rintro e w4 ⟨rfl, rfl⟩
        refine hK.out _ _ (hS9) (fun hHeld => ?_)
        clear hK K
        try simp only [Act.put, ly1, ly2, ly3]
        refine onlyH (i := 5) rfl (by kernel_rfl) rfl (fun K hK => ?_)
        go_simp
        refine (pick_any _ nn 9 r4 (by omega)).mono ?_
        rintro e w5 ⟨rfl, rfl⟩
        generalize pk nn 9 = k9 at *
        refine hK.out _ _ (hS9) (fun hHeld => ?_)
        clear hK K
        try simp only [Act.put, ly1, ly2, ly3]
        refine takeH (i := 6) (v := ?_) rfl (by kernel_rfl) (by kernel_rfl) (by kernel_rfl) (fun _ _ _ h => h) rfl ?_ hHeld ?_
        rotate_left
        · intro w hS; (try dsimp only at hS); obtain hS0 := hS; go_simp; first | done | (with_reducible rfl)
        try simp only [Act.put, ly1, ly2, ly3]
        refine onlyH (i := 7) rfl (by kernel_rfl) rfl (fun K hK => ?_)
        go_simp
        have hbX : Below (wr.heap.size + 1) (wr.alloc (.cells #[.int .i64 kind, .string (strB name), .string (strB to), .slice ua ul uc, .int .i64 nn, .int .i64 torn] 35)) _ := chg_below (((Chg.refl (fun _ => False) _).alloc (.cells #[.int .i64 (IntKind.i64.wrap ((S.n : Int) + k9))] 3)).drew) (by simp)
        have hS10 := (hbX.cell (p := ⟨wr.heap.size, 4, none⟩) (by simp)).trans hS9
        refine hK.out _ _ (hS10) (fun hHeld => ?_)
        clear hK K
        try simp only [Act.put, ly1, ly2, ly3]
        refine onlyH (i := 8) rfl (by kernel_rfl) rfl (fun K hK => ?_)
        go_simp
        rw [drew_alloc]
        have hfa := failAt_one hstB hzA (IntKind.i64.wrap ((S.n : Int) + k9))
        rw [show (wr.alloc (.cells #[.int .i64 kind, .string (strB name), .string (strB to), .slice ua ul uc, .int .i64 nn, .int .i64 torn] 35)).drew.heap.size = wr.heap.size + 1 from by simp] at hfa
        refine hfa.mono ?_
        rintro e w6 ⟨rfl, ha⟩
        have hb6 := hbB.trans (ha.below hstB hzA)
        have hnF : ¬ F wr.heap.size := fun hf => Nat.lt_irrefl _ (hst.2.1 _ hf).2
        obtain ⟨F4, hs4, -, hcg⟩ := ha
        have hbk := hcg.block wr.heap.size (by simp) hnF
        have hbn := blk_new wr (.cells #[.int .i64 kind, .string (strB name), .string (strB to), .slice ua ul uc, .int .i64 nn, .int .i64 torn] 35)
        have hS11 : w6.cell? ⟨wr.heap.size, 4, none⟩ = some (.int .i64 nn) := cell_of (hbk.trans hbn) 4
        clear hcg hstA hst hstB
        refine hK.out _ _ (hS11) (fun hHeld => ?_)
        clear hK K
        try simp only [Act.put, ly1, ly2, ly3]
        refine wpAnyH_done (by kernel_rfl) ?_ _
        go_wp2_with fail
        exact ⟨⟨j + 1, F4, _, by go_num, by omega, by omega, hs4, hcu, by simp only [Dk.bulk, Dk.failAt] at *; omega, hb6⟩, by simp [intOf]; omega⟩
      · go_wp2_with fail
        exact ⟨⟨j + 1, F, S, by go_num, by omega, by omega, hstA, hcu, by omega, hbrA⟩, by simp [intOf]; omega⟩
    · have hA : (j < os.length ∧ j = most) ∨ ¬ j < os.length := by omega
      have hbm : S.bulk ≤ 2000 * most := by omega
      rcases hA with ⟨hA, hA2⟩ | hA
      · have hA3 : ¬ (j : Int) < (most : Int) := by omega
        clear hA2
        go_wp2
        go_ret2
        exact ⟨d, rfl, F, S, hst, hcu, hbm, hbr⟩
      · go_wp2
        go_ret2
        exact ⟨d, F, S, rfl, hst, hcu, hbm, hbr⟩
end Go.Proofs.Ytlejgdjkdbamkaa
