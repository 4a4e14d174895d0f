/-
  The law's does: ways 6, 7, 8, 9, 11. Conditions: as it says.
-/
import Derived.Test.YtlejgdjkdbamkaaDoesBase
namespace Go.Proofs.Ytlejgdjkdbamkaa
open Go.RowKit

set_option maxRecDepth 20000 in
set_option maxHeartbeats 8000000 in
theorem does_arm6 {B d r m : Nat} {S : Dk} (w : World) (hB : B ≤ w.heap.size) (h : Two B w d r S m) (kind nn torn : Int) (name tto : Nm) (u : Value) (bb : List UInt8) (hu : Sb B w u bb) (r0 : I64 kind) (r4 : I64 nn) (r5 : I64 torn) (hm : m ≤ 900)
    (hnl : name.length < 4611686018427387904) (htl : tto.length < 4611686018427387904) (hb : S.bulk + bb.length + 100 < 274877906944) (hkk : pk kind 15 = 6) :
    Calls Try.prog 13 #[.pointer (some ⟨d, 0, none⟩), .pointer (some ⟨r, 0, none⟩), .agg #[.int .i64 kind, .string (strB name), .string (strB tto), u, .int .i64 nn, .int .i64 torn]] w fun e w' => ∃ d' r' S', e = .returned (.tuple #[.pointer (some ⟨d', 0, none⟩), .pointer (some ⟨r', 0, none⟩), .bool true]) ∧ Two B w' d' r' S' (m + 2) ∧ S'.bulk ≤ S.bulk + bb.length + 10 ∧ Below B w w' := by
  obtain ⟨F, R, G, hs0, hr0, hks, ap⟩ := h
  have hok := hs0.ok
  have hu' := hu
  obtain ⟨ua, uc, rfl, u1, u2, -, -⟩ := hu'
  generalize hul : bb.length = ul at *
  have HUL := hide hul
  clear hul
  have hcA : Chg (fun _ => False) w (w.alloc (.cells #[.int .i64 kind, .string (strB name), .string (strB tto), .slice ua ul uc, .int .i64 nn, .int .i64 torn] 35)) := (Chg.refl _ w).alloc _
  have hbA := chg_below hcA hB
  have hzA : B ≤ (w.alloc (.cells #[.int .i64 kind, .string (strB name), .string (strB tto), .slice ua ul uc, .int .i64 nn, .int .i64 torn] 35)).heap.size := Nat.le_trans hB hbA.size
  have hs := hs0.keep hcA (fun _ _ h => h)
  have hr := hr0.keep hcA (fun _ _ h => h)
  have hbx := heap_last w (.cells #[.int .i64 kind, .string (strB name), .string (strB tto), .slice ua ul uc, .int .i64 nn, .int .i64 torn] 35)
  have hpr := pk_range (c := kind) (n := 15) (by omega)
  have hpk := fun W => pick_any W kind 15 r0 (by omega)
  have hs0l := fun k hk => (hs0.2.1 k hk).2
  have hr0l := fun k hk => (hr0.low k hk).2
  clear hs0 hr0
  go_enter Try.func13, Try.ntmps13
  go_wp2_with fail
  refine (named_any _ name nn r4).mono ?_
  rintro e w2 ⟨rfl, h2⟩
  rw [h2]
  clear h2
  have hn1 : (nmd name nn).length < 4611686018427387904 := nmd_len hnl
  generalize nmd name nn = one at *
  go_wp2_with fail
  refine (named_any _ tto torn r5).mono ?_
  rintro e w3 ⟨rfl, h3⟩
  rw [h3]
  clear h3
  have hn2 : (nmd tto torn).length < 4611686018427387904 := nmd_len htl
  generalize nmd tto torn = two at *
  go_wp2_with fail
  refine (hpk _).mono ?_
  rintro e w4 ⟨rfl, h4⟩
  rw [h4]
  clear h4
  generalize pk kind 15 = kk at *
  clear hpk hpr
  subst hkk
  go_wp2_with fail
  refine (do_syncDir _ hr hok (by omega) (by omega)).mono ?_
  rintro e w5 ⟨rfl, hd5⟩
  obtain ⟨G5, R5, hr5, hk5, hs5, ap5, hR5, hc5⟩ := two_ref hs ap hd5
  have hb5 := hbA.trans (hc5.belowOf (fun k hk => (hr.low k hk).1) hzA)
  have hz5 := Nat.le_trans hB hb5.size
  go_wp2_with fail
  refine (syncDir_lies hs5 hz5 (by omega)).mono ?_
  rintro e w6 ⟨rfl, ha⟩
  obtain ⟨F6, hs6, hr6, ap6, -, hc6⟩ := two_disk hr5 ap5 ha
  have hb6 := hb5.trans (hc6.belowOf (fun k hk => (hs5.2.1 k hk).1) hz5)
  have hbu := bulk_syncDir (S := S)
  have heq : (S.syncDir.2 == S.syncDir.2) = true := by simp
  have HT := hide (show Two B w6 d r S.syncDir.1 (m + 2) from ⟨F6, R5, G5, hs6, hr6, by rw [hk5]; omega, ap6⟩)
  clear hs hr hs5 hr5 hs6 hr6 ha hd5 ap ap5 ap6
  go_wp2
  go_ret3
  exact ⟨d, r, _, rfl, HT.out, by omega, hb6⟩

set_option maxRecDepth 20000 in
set_option maxHeartbeats 8000000 in
theorem does_arm7 {B d r m : Nat} {S : Dk} (w : World) (hB : B ≤ w.heap.size) (h : Two B w d r S m) (kind nn torn : Int) (name tto : Nm) (u : Value) (bb : List UInt8) (hu : Sb B w u bb) (r0 : I64 kind) (r4 : I64 nn) (r5 : I64 torn) (hm : m ≤ 900)
    (hnl : name.length < 4611686018427387904) (htl : tto.length < 4611686018427387904) (hb : S.bulk + bb.length + 100 < 274877906944) (hkk : pk kind 15 = 7) :
    Calls Try.prog 13 #[.pointer (some ⟨d, 0, none⟩), .pointer (some ⟨r, 0, none⟩), .agg #[.int .i64 kind, .string (strB name), .string (strB tto), u, .int .i64 nn, .int .i64 torn]] w fun e w' => ∃ d' r' S', e = .returned (.tuple #[.pointer (some ⟨d', 0, none⟩), .pointer (some ⟨r', 0, none⟩), .bool true]) ∧ Two B w' d' r' S' (m + 2) ∧ S'.bulk ≤ S.bulk + bb.length + 10 ∧ Below B w w' := by
  obtain ⟨F, R, G, hs0, hr0, hks, ap⟩ := h
  have hok := hs0.ok
  have hu' := hu
  obtain ⟨ua, uc, rfl, u1, u2, -, -⟩ := hu'
  generalize hul : bb.length = ul at *
  have HUL := hide hul
  clear hul
  have hcA : Chg (fun _ => False) w (w.alloc (.cells #[.int .i64 kind, .string (strB name), .string (strB tto), .slice ua ul uc, .int .i64 nn, .int .i64 torn] 35)) := (Chg.refl _ w).alloc _
  have hbA := chg_below hcA hB
  have hzA : B ≤ (w.alloc (.cells #[.int .i64 kind, .string (strB name), .string (strB tto), .slice ua ul uc, .int .i64 nn, .int .i64 torn] 35)).heap.size := Nat.le_trans hB hbA.size
  have hs := hs0.keep hcA (fun _ _ h => h)
  have hr := hr0.keep hcA (fun _ _ h => h)
  have hbx := heap_last w (.cells #[.int .i64 kind, .string (strB name), .string (strB tto), .slice ua ul uc, .int .i64 nn, .int .i64 torn] 35)
  have hpr := pk_range (c := kind) (n := 15) (by omega)
  have hpk := fun W => pick_any W kind 15 r0 (by omega)
  have hs0l := fun k hk => (hs0.2.1 k hk).2
  have hr0l := fun k hk => (hr0.low k hk).2
  clear hs0 hr0
  go_enter Try.func13, Try.ntmps13
  go_wp2_with fail
  refine (named_any _ name nn r4).mono ?_
  rintro e w2 ⟨rfl, h2⟩
  rw [h2]
  clear h2
  have hn1 : (nmd name nn).length < 4611686018427387904 := nmd_len hnl
  generalize nmd name nn = one at *
  go_wp2_with fail
  refine (named_any _ tto torn r5).mono ?_
  rintro e w3 ⟨rfl, h3⟩
  rw [h3]
  clear h3
  have hn2 : (nmd tto torn).length < 4611686018427387904 := nmd_len htl
  generalize nmd tto torn = two at *
  go_wp2_with fail
  refine (hpk _).mono ?_
  rintro e w4 ⟨rfl, h4⟩
  rw [h4]
  clear h4
  generalize pk kind 15 = kk at *
  clear hpk hpr
  subst hkk
  go_wp2_with fail
  refine (do_rename _ hr hok (by omega) one two (by omega) hn1 hn2).mono ?_
  rintro e w5 ⟨rfl, hd5⟩
  obtain ⟨G5, R5, hr5, hk5, hs5, ap5, hR5, hc5⟩ := two_ref hs ap hd5
  have hb5 := hbA.trans (hc5.belowOf (fun k hk => (hr.low k hk).1) hzA)
  have hz5 := Nat.le_trans hB hb5.size
  go_wp2_with fail
  refine (rename_lies hs5 hz5 one two (by omega)).mono ?_
  rintro e w6 ⟨rfl, ha⟩
  obtain ⟨F6, hs6, hr6, ap6, -, hc6⟩ := two_disk hr5 ap5 ha
  have hb6 := hb5.trans (hc6.belowOf (fun k hk => (hs5.2.1 k hk).1) hz5)
  have hbu := bulk_rename (S := S) one two
  have heq : ((S.rename one two).2 == (S.rename one two).2) = true := by simp
  have HT := hide (show Two B w6 d r (S.rename one two).1 (m + 2) from ⟨F6, R5, G5, hs6, hr6, by rw [hk5]; omega, ap6⟩)
  clear hs hr hs5 hr5 hs6 hr6 ha hd5 ap ap5 ap6
  go_wp2
  go_ret3
  exact ⟨d, r, _, rfl, HT.out, by omega, hb6⟩

set_option maxRecDepth 20000 in
set_option maxHeartbeats 8000000 in
theorem does_arm8 {B d r m : Nat} {S : Dk} (w : World) (hB : B ≤ w.heap.size) (h : Two B w d r S m) (kind nn torn : Int) (name tto : Nm) (u : Value) (bb : List UInt8) (hu : Sb B w u bb) (r0 : I64 kind) (r4 : I64 nn) (r5 : I64 torn) (hm : m ≤ 900)
    (hnl : name.length < 4611686018427387904) (htl : tto.length < 4611686018427387904) (hb : S.bulk + bb.length + 100 < 274877906944) (hkk : pk kind 15 = 8) :
    Calls Try.prog 13 #[.pointer (some ⟨d, 0, none⟩), .pointer (some ⟨r, 0, none⟩), .agg #[.int .i64 kind, .string (strB name), .string (strB tto), u, .int .i64 nn, .int .i64 torn]] w fun e w' => ∃ d' r' S', e = .returned (.tuple #[.pointer (some ⟨d', 0, none⟩), .pointer (some ⟨r', 0, none⟩), .bool true]) ∧ Two B w' d' r' S' (m + 2) ∧ S'.bulk ≤ S.bulk + bb.length + 10 ∧ Below B w w' := by
  obtain ⟨F, R, G, hs0, hr0, hks, ap⟩ := h
  have hok := hs0.ok
  have hu' := hu
  obtain ⟨ua, uc, rfl, u1, u2, -, -⟩ := hu'
  generalize hul : bb.length = ul at *
  have HUL := hide hul
  clear hul
  have hcA : Chg (fun _ => False) w (w.alloc (.cells #[.int .i64 kind, .string (strB name), .string (strB tto), .slice ua ul uc, .int .i64 nn, .int .i64 torn] 35)) := (Chg.refl _ w).alloc _
  have hbA := chg_below hcA hB
  have hzA : B ≤ (w.alloc (.cells #[.int .i64 kind, .string (strB name), .string (strB tto), .slice ua ul uc, .int .i64 nn, .int .i64 torn] 35)).heap.size := Nat.le_trans hB hbA.size
  have hs := hs0.keep hcA (fun _ _ h => h)
  have hr := hr0.keep hcA (fun _ _ h => h)
  have hbx := heap_last w (.cells #[.int .i64 kind, .string (strB name), .string (strB tto), .slice ua ul uc, .int .i64 nn, .int .i64 torn] 35)
  have hpr := pk_range (c := kind) (n := 15) (by omega)
  have hpk := fun W => pick_any W kind 15 r0 (by omega)
  have hs0l := fun k hk => (hs0.2.1 k hk).2
  have hr0l := fun k hk => (hr0.low k hk).2
  clear hs0 hr0
  go_enter Try.func13, Try.ntmps13
  go_wp2_with fail
  refine (named_any _ name nn r4).mono ?_
  rintro e w2 ⟨rfl, h2⟩
  rw [h2]
  clear h2
  have hn1 : (nmd name nn).length < 4611686018427387904 := nmd_len hnl
  generalize nmd name nn = one at *
  go_wp2_with fail
  refine (named_any _ tto torn r5).mono ?_
  rintro e w3 ⟨rfl, h3⟩
  rw [h3]
  clear h3
  have hn2 : (nmd tto torn).length < 4611686018427387904 := nmd_len htl
  generalize nmd tto torn = two at *
  go_wp2_with fail
  refine (hpk _).mono ?_
  rintro e w4 ⟨rfl, h4⟩
  rw [h4]
  clear h4
  generalize pk kind 15 = kk at *
  clear hpk hpr
  subst hkk
  go_wp2_with fail
  refine (do_remove _ hr hok (by omega) one (by omega) hn1).mono ?_
  rintro e w5 ⟨rfl, hd5⟩
  obtain ⟨G5, R5, hr5, hk5, hs5, ap5, hR5, hc5⟩ := two_ref hs ap hd5
  have hb5 := hbA.trans (hc5.belowOf (fun k hk => (hr.low k hk).1) hzA)
  have hz5 := Nat.le_trans hB hb5.size
  go_wp2_with fail
  refine (remove_lies hs5 hz5 one (by omega)).mono ?_
  rintro e w6 ⟨rfl, ha⟩
  obtain ⟨F6, hs6, hr6, ap6, -, hc6⟩ := two_disk hr5 ap5 ha
  have hb6 := hb5.trans (hc6.belowOf (fun k hk => (hs5.2.1 k hk).1) hz5)
  have hbu := bulk_remove (S := S) one
  have heq : ((S.remove one).2 == (S.remove one).2) = true := by simp
  have HT := hide (show Two B w6 d r (S.remove one).1 (m + 2) from ⟨F6, R5, G5, hs6, hr6, by rw [hk5]; omega, ap6⟩)
  clear hs hr hs5 hr5 hs6 hr6 ha hd5 ap ap5 ap6
  go_wp2
  go_ret3
  exact ⟨d, r, _, rfl, HT.out, by omega, hb6⟩

set_option maxRecDepth 20000 in
set_option maxHeartbeats 8000000 in
theorem does_arm9 {B d r m : Nat} {S : Dk} (w : World) (hB : B ≤ w.heap.size) (h : Two B w d r S m) (kind nn torn : Int) (name tto : Nm) (u : Value) (bb : List UInt8) (hu : Sb B w u bb) (r0 : I64 kind) (r4 : I64 nn) (r5 : I64 torn) (_hm : m ≤ 900)
    (hnl : name.length < 4611686018427387904) (htl : tto.length < 4611686018427387904) (_hb : S.bulk + bb.length + 100 < 274877906944) (hkk : pk kind 15 = 9) :
    Calls Try.prog 13 #[.pointer (some ⟨d, 0, none⟩), .pointer (some ⟨r, 0, none⟩), .agg #[.int .i64 kind, .string (strB name), .string (strB tto), u, .int .i64 nn, .int .i64 torn]] w fun e w' => ∃ d' r' S', e = .returned (.tuple #[.pointer (some ⟨d', 0, none⟩), .pointer (some ⟨r', 0, none⟩), .bool true]) ∧ Two B w' d' r' S' (m + 2) ∧ S'.bulk ≤ S.bulk + bb.length + 10 ∧ Below B w w' := by
  obtain ⟨F, R, G, hs0, hr0, hks, ap⟩ := h
  have hok := hs0.ok
  have hu' := hu
  obtain ⟨ua, uc, rfl, u1, u2, -, -⟩ := hu'
  generalize hul : bb.length = ul at *
  have HUL := hide hul
  clear hul
  have hcA : Chg (fun _ => False) w (w.alloc (.cells #[.int .i64 kind, .string (strB name), .string (strB tto), .slice ua ul uc, .int .i64 nn, .int .i64 torn] 35)) := (Chg.refl _ w).alloc _
  have hbA := chg_below hcA hB
  have hzA : B ≤ (w.alloc (.cells #[.int .i64 kind, .string (strB name), .string (strB tto), .slice ua ul uc, .int .i64 nn, .int .i64 torn] 35)).heap.size := Nat.le_trans hB hbA.size
  have hs := hs0.keep hcA (fun _ _ h => h)
  have hr := hr0.keep hcA (fun _ _ h => h)
  have hbx := heap_last w (.cells #[.int .i64 kind, .string (strB name), .string (strB tto), .slice ua ul uc, .int .i64 nn, .int .i64 torn] 35)
  have hpr := pk_range (c := kind) (n := 15) (by omega)
  have hpk := fun W => pick_any W kind 15 r0 (by omega)
  have hs0l := fun k hk => (hs0.2.1 k hk).2
  have hr0l := fun k hk => (hr0.low k hk).2
  clear hs0 hr0
  go_enter Try.func13, Try.ntmps13
  go_wp2_with fail
  refine (named_any _ name nn r4).mono ?_
  rintro e w2 ⟨rfl, h2⟩
  rw [h2]
  clear h2
  have hn1 : (nmd name nn).length < 4611686018427387904 := nmd_len hnl
  generalize nmd name nn = one at *
  go_wp2_with fail
  refine (named_any _ tto torn r5).mono ?_
  rintro e w3 ⟨rfl, h3⟩
  rw [h3]
  clear h3
  have hn2 : (nmd tto torn).length < 4611686018427387904 := nmd_len htl
  generalize nmd tto torn = two at *
  go_wp2_with fail
  refine (hpk _).mono ?_
  rintro e w4 ⟨rfl, h4⟩
  rw [h4]
  clear h4
  generalize pk kind 15 = kk at *
  clear hpk hpr
  subst hkk
  have k5 := cell_of hr.blk 5
  have k4 := cell_of hbx 4
  dsimp only [rcells] at k5
  by_cases hnn : 0 ≤ nn
  · go_wp2_with fail
    refine wp_region_held_drew (S := fun W => W.cell? ⟨r, 5, none⟩ = some (.int .i64 (S.n : Int)) ∧ W.cell? ⟨w.heap.size, 4, none⟩ = some (.int .i64 nn)) (by kernel_rfl) (⟨k5, k4⟩) (fun hHeld => ?_)
    refine takeH (i := 0) (v := ?_) rfl (by kernel_rfl) (by kernel_rfl) (by kernel_rfl) (fun _ _ _ h => h) rfl ?_ hHeld ?_
    rotate_left
    · intro w hS; (try dsimp only at hS); obtain ⟨hS0, hS1⟩ := hS; go_simp; first | done | (with_reducible rfl)
    try simp only [Act.put, ly1, ly2, ly3]
    refine takeH (i := 1) (v := ?_) rfl (by kernel_rfl) (by kernel_rfl) (by kernel_rfl) (fun _ _ _ h => h) rfl ?_ hHeld ?_
    rotate_left
    · intro w hS; (try dsimp only at hS); obtain ⟨hS0, hS1⟩ := hS; go_simp; first | done | (with_reducible rfl)
    try simp only [Act.put, ly1, ly2, ly3]
    refine takeH (i := 2) (v := ?_) rfl (by kernel_rfl) (by kernel_rfl) (by kernel_rfl) (fun _ _ _ h => h) rfl ?_ hHeld ?_
    rotate_left
    · intro w hS; (try dsimp only at hS); obtain ⟨hS0, hS1⟩ := hS; go_simp; first | done | (with_reducible rfl)
    try simp only [Act.put, ly1, ly2, ly3]
    refine takeH (i := 3) (v := ?_) rfl (by kernel_rfl) (by kernel_rfl) (by kernel_rfl) (fun _ _ _ h => h) rfl ?_ hHeld ?_
    rotate_left
    · intro w hS; (try dsimp only at hS); obtain ⟨hS0, hS1⟩ := hS; go_simp; first | done | (with_reducible rfl)
    try simp only [Act.put, ly1, ly2, ly3]
    refine takeH (i := 4) (v := ?_) rfl (by kernel_rfl) (by kernel_rfl) (by kernel_rfl) (fun _ _ _ h => h) rfl ?_ hHeld ?_
    rotate_left
    · intro w hS; (try dsimp only at hS); obtain ⟨hS0, hS1⟩ := hS; go_simp; first | done | (with_reducible rfl)
    try simp only [Act.put, ly1, ly2, ly3]
    refine takeH (i := 5) (v := ?_) rfl (by kernel_rfl) (by kernel_rfl) (by kernel_rfl) (fun _ _ _ h => h) rfl ?_ hHeld ?_
    rotate_left
    · intro w hS; (try dsimp only at hS); obtain ⟨hS0, hS1⟩ := hS; go_simp; first | done | (with_reducible rfl)
    try simp only [Act.put, ly1, ly2, ly3]
    refine takeH (i := 6) (v := ?_) rfl (by kernel_rfl) (by kernel_rfl) (by kernel_rfl) (fun _ _ _ h => h) rfl ?_ hHeld ?_
    rotate_left
    · intro w hS; (try dsimp only at hS); obtain ⟨hS0, hS1⟩ := hS; go_simp; first | done | (with_reducible rfl)
    try simp only [Act.put, ly1, ly2, ly3]
    refine takeH (i := 7) (v := ?_) rfl (by kernel_rfl) (by kernel_rfl) (by kernel_rfl) (fun _ _ _ h => h) rfl ?_ hHeld ?_
    rotate_left
    · intro w hS; (try dsimp only at hS); obtain ⟨hS0, hS1⟩ := hS; go_simp; first | done | (with_reducible rfl)
    try simp only [Act.put, ly1, ly2, ly3]
    refine takeH (i := 8) (v := ?_) rfl (by kernel_rfl) (by kernel_rfl) (by kernel_rfl) (fun _ _ _ h => h) rfl ?_ hHeld ?_
    rotate_left
    · intro w hS; (try dsimp only at hS); obtain ⟨hS0, hS1⟩ := hS; go_simp; first | done | (with_reducible rfl)
    try simp only [Act.put, ly1, ly2, ly3]
    refine wpAnyH_done (by kernel_rfl) ?_ _
    clear hHeld
    have hsd := hs.keep ((Chg.refl (fun _ => False) _).drew) (fun _ _ h => h)
    have hrd := hr.keep ((Chg.refl (fun _ => False) _).drew) (fun _ _ h => h)
    have hbd := hbA.drew
    generalize IntKind.i64.wrap ((S.n : Int) + nn.tmod 20) = op at *
    go_wp2_with fail
    refine (cutAt_lies hsd hzA op).mono ?_
    rintro e w6 ⟨rfl, ha⟩
    obtain ⟨F6, hs6, hr6, ap6, -, hc6⟩ := two_disk hrd ap ha
    have hb6 := hbd.trans (hc6.belowOf (fun k hk => (hsd.2.1 k hk).1) hzA)
    have hz6 := Nat.le_trans hB hb6.size
    go_wp2_with fail
    refine (rCutAt_any _ hr6 op).mono ?_
    rintro e w7 ⟨rfl, hr7, hc7⟩
    have hs7 := hs6.keep hc7 (fun k hk e => ap6 k hk (e ▸ hr6.self))
    have hb7 := hb6.trans (hc7.belowOf (fun k e => e ▸ (hr6.low _ hr6.self).1) hz6)
    have HT := hide (show Two B w7 d r (S.cutAt op) (m + 2) from ⟨F6, R, _, hs7, hr7, by show G.ks.length ≤ _; omega, ap6⟩)
    have hbu : (S.cutAt op).bulk = S.bulk := rfl
    clear hs hr hs6 hr6 ha ap ap6 hs7 hr7
    go_wp2
    go_ret3
    exact ⟨d, r, _, rfl, HT.out, by omega, hb7⟩
  · have hnn2 : ¬ 0 ≤ nn := hnn
    go_wp2_with fail
    refine (cutAt_lies hs hzA (-1)).mono ?_
    rintro e w6 ⟨rfl, ha⟩
    obtain ⟨F6, hs6, hr6, ap6, -, hc6⟩ := two_disk hr ap ha
    have hb6 := hbA.trans (hc6.belowOf (fun k hk => (hs.2.1 k hk).1) hzA)
    have hz6 := Nat.le_trans hB hb6.size
    go_wp2_with fail
    refine (rCutAt_any _ hr6 (-1)).mono ?_
    rintro e w7 ⟨rfl, hr7, hc7⟩
    have hs7 := hs6.keep hc7 (fun k hk e => ap6 k hk (e ▸ hr6.self))
    have hb7 := hb6.trans (hc7.belowOf (fun k e => e ▸ (hr6.low _ hr6.self).1) hz6)
    have HT := hide (show Two B w7 d r (S.cutAt (-1)) (m + 2) from ⟨F6, R, _, hs7, hr7, by show G.ks.length ≤ _; omega, ap6⟩)
    have hbu : (S.cutAt (-1)).bulk = S.bulk := rfl
    clear hs hr hs6 hr6 ha ap ap6 hs7 hr7
    go_wp2
    go_ret3
    exact ⟨d, r, _, rfl, HT.out, by omega, hb7⟩

set_option maxRecDepth 20000 in
set_option maxHeartbeats 8000000 in
theorem does_arm11 {B d r m : Nat} {S : Dk} (w : World) (hB : B ≤ w.heap.size) (h : Two B w d r S m) (kind nn torn : Int) (name tto : Nm) (u : Value) (bb : List UInt8) (hu : Sb B w u bb) (r0 : I64 kind) (r4 : I64 nn) (r5 : I64 torn) (_hm : m ≤ 900)
    (hnl : name.length < 4611686018427387904) (htl : tto.length < 4611686018427387904) (_hb : S.bulk + bb.length + 100 < 274877906944) (hkk : pk kind 15 = 11) :
    Calls Try.prog 13 #[.pointer (some ⟨d, 0, none⟩), .pointer (some ⟨r, 0, none⟩), .agg #[.int .i64 kind, .string (strB name), .string (strB tto), u, .int .i64 nn, .int .i64 torn]] w fun e w' => ∃ d' r' S', e = .returned (.tuple #[.pointer (some ⟨d', 0, none⟩), .pointer (some ⟨r', 0, none⟩), .bool true]) ∧ Two B w' d' r' S' (m + 2) ∧ S'.bulk ≤ S.bulk + bb.length + 10 ∧ Below B w w' := by
  obtain ⟨F, R, G, hs0, hr0, hks, ap⟩ := h
  have hok := hs0.ok
  have hu' := hu
  obtain ⟨ua, uc, rfl, u1, u2, -, -⟩ := hu'
  generalize hul : bb.length = ul at *
  have HUL := hide hul
  clear hul
  have hcA : Chg (fun _ => False) w (w.alloc (.cells #[.int .i64 kind, .string (strB name), .string (strB tto), .slice ua ul uc, .int .i64 nn, .int .i64 torn] 35)) := (Chg.refl _ w).alloc _
  have hbA := chg_below hcA hB
  have hzA : B ≤ (w.alloc (.cells #[.int .i64 kind, .string (strB name), .string (strB tto), .slice ua ul uc, .int .i64 nn, .int .i64 torn] 35)).heap.size := Nat.le_trans hB hbA.size
  have hs := hs0.keep hcA (fun _ _ h => h)
  have hr := hr0.keep hcA (fun _ _ h => h)
  have hbx := heap_last w (.cells #[.int .i64 kind, .string (strB name), .string (strB tto), .slice ua ul uc, .int .i64 nn, .int .i64 torn] 35)
  have hpr := pk_range (c := kind) (n := 15) (by omega)
  have hpk := fun W => pick_any W kind 15 r0 (by omega)
  have hs0l := fun k hk => (hs0.2.1 k hk).2
  have hr0l := fun k hk => (hr0.low k hk).2
  clear hs0 hr0
  go_enter Try.func13, Try.ntmps13
  go_wp2_with fail
  refine (named_any _ name nn r4).mono ?_
  rintro e w2 ⟨rfl, h2⟩
  rw [h2]
  clear h2
  have hn1 : (nmd name nn).length < 4611686018427387904 := nmd_len hnl
  generalize nmd name nn = one at *
  go_wp2_with fail
  refine (named_any _ tto torn r5).mono ?_
  rintro e w3 ⟨rfl, h3⟩
  rw [h3]
  clear h3
  have hn2 : (nmd tto torn).length < 4611686018427387904 := nmd_len htl
  generalize nmd tto torn = two at *
  go_wp2_with fail
  refine (hpk _).mono ?_
  rintro e w4 ⟨rfl, h4⟩
  rw [h4]
  clear h4
  generalize pk kind 15 = kk at *
  clear hpk hpr
  subst hkk
  have hmx : max nn 0 = ((nn.toNat : Nat) : Int) := by omega
  have HMX := hide hmx
  clear hmx
  have k4 := cell_of hbx 4
  go_wp2_with fail
  refine (setRoom_lies hs hzA nn r4.2).mono ?_
  rintro e w6 ⟨rfl, ha⟩
  obtain ⟨F6, hs6, hr6, ap6, -, hc6⟩ := two_disk hr ap ha
  have hb6 := hbA.trans (hc6.belowOf (fun k hk => (hs.2.1 k hk).1) hzA)
  have hz6 := Nat.le_trans hB hb6.size
  have hbx6 := hc6.keep hbx (fun hf => absurd (hs0l _ hf) (by omega))
  have k46 := cell_of hbx6 4
  have q4 := cell_of hr6.blk 4
  have t4 := thawed hr6.blk 4
  dsimp only [rcells] at q4
  have hc7 := chg_set w6 r 4 (.int .i64 ((nn.toNat : Nat) : Int))
  have hr7 := hr6.set (S' := S.setRoom nn) (G' := G) hc7 (heap_set hr6.blk 4 _) ⟨rfl, rfl⟩ ⟨rfl, rfl⟩ ⟨rfl, rfl⟩ ⟨rfl, rfl⟩ ⟨rfl, rfl, rfl⟩ hr6.off hr6.cut
  have hs7 := hs6.keep hc7 (fun k hk e => ap6 k hk (e ▸ hr6.self))
  have hb7 := hb6.trans (hc7.belowOf (fun k e => e ▸ (hr6.low _ hr6.self).1) hz6)
  have HT := hide (show Two B _ d r (S.setRoom nn) (m + 2) from ⟨F6, R, _, hs7, hr7, by omega, ap6⟩)
  have hbu : (S.setRoom nn).bulk = S.bulk := rfl
  clear hs hr hs6 hr6 ha ap ap6 hs7 hr7
  go_wp2
  go_ret3
  rw [HMX.out]
  exact ⟨d, r, _, rfl, HT.out, by omega, hb7⟩

end Go.Proofs.Ytlejgdjkdbamkaa
