/-
  The law's does: ways 12, 13, 14. Conditions: as it says.
-/
import Derived.Test.YtlejgdjkdbamkaaDoesBase
namespace Go.Proofs.Ytlejgdjkdbamkaa
open Go.RowKit

set_option maxRecDepth 20000 in
set_option maxHeartbeats 8000000 in
theorem does_arm12 {B d r m : Nat} {S : Dk} (w : World) (hB : B ≤ w.heap.size) (h : Two B w d r S m) (kind nn torn : Int) (name tto : Nm) (u : Value) (bb : List UInt8) (hu : Sb B w u bb) (r0 : I64 kind) (r4 : I64 nn) (r5 : I64 torn) (_hm : m ≤ 900)
    (hnl : name.length < 4611686018427387904) (htl : tto.length < 4611686018427387904) (hb : S.bulk + bb.length + 100 < 274877906944) (hkk : pk kind 15 = 12) :
    Calls Try.prog 13 #[.pointer (some ⟨d, 0, none⟩), .pointer (some ⟨r, 0, none⟩), .agg #[.int .i64 kind, .string (strB name), .string (strB tto), u, .int .i64 nn, .int .i64 torn]] w fun e w' => ∃ d' r' S', e = .returned (.tuple #[.pointer (some ⟨d', 0, none⟩), .pointer (some ⟨r', 0, none⟩), .bool true]) ∧ Two B w' d' r' S' (m + 2) ∧ S'.bulk ≤ S.bulk + bb.length + 10 ∧ Below B w w' := by
  obtain ⟨F, R, G, hs0, hr0, hks, ap⟩ := h
  have hok := hs0.ok
  have hu' := hu
  obtain ⟨ua, uc, rfl, u1, u2, -, -⟩ := hu'
  generalize hul : bb.length = ul at *
  have HUL := hide hul
  clear hul
  have hcA : Chg (fun _ => False) w (w.alloc (.cells #[.int .i64 kind, .string (strB name), .string (strB tto), .slice ua ul uc, .int .i64 nn, .int .i64 torn] 35)) := (Chg.refl _ w).alloc _
  have hbA := chg_below hcA hB
  have hzA : B ≤ (w.alloc (.cells #[.int .i64 kind, .string (strB name), .string (strB tto), .slice ua ul uc, .int .i64 nn, .int .i64 torn] 35)).heap.size := Nat.le_trans hB hbA.size
  have hs := hs0.keep hcA (fun _ _ h => h)
  have hr := hr0.keep hcA (fun _ _ h => h)
  have hbx := heap_last w (.cells #[.int .i64 kind, .string (strB name), .string (strB tto), .slice ua ul uc, .int .i64 nn, .int .i64 torn] 35)
  have hpr := pk_range (c := kind) (n := 15) (by omega)
  have hpk := fun W => pick_any W kind 15 r0 (by omega)
  have hs0l := fun k hk => (hs0.2.1 k hk).2
  have hr0l := fun k hk => (hr0.low k hk).2
  clear hs0 hr0
  go_enter Try.func13, Try.ntmps13
  go_wp2_with fail
  refine (named_any _ name nn r4).mono ?_
  rintro e w2 ⟨rfl, h2⟩
  rw [h2]
  clear h2
  have hn1 : (nmd name nn).length < 4611686018427387904 := nmd_len hnl
  generalize nmd name nn = one at *
  go_wp2_with fail
  refine (named_any _ tto torn r5).mono ?_
  rintro e w3 ⟨rfl, h3⟩
  rw [h3]
  clear h3
  have hn2 : (nmd tto torn).length < 4611686018427387904 := nmd_len htl
  generalize nmd tto torn = two at *
  go_wp2_with fail
  refine (hpk _).mono ?_
  rintro e w4 ⟨rfl, h4⟩
  rw [h4]
  clear h4
  generalize pk kind 15 = kk at *
  clear hpk hpr
  subst hkk
  have k4 := cell_of hbx 4
  have k5 := cell_of hbx 5
  obtain ⟨bt, hbt⟩ : ∃ bt : UInt8, IntKind.u8.wrap torn = (bt.toNat : Int) := byte_of torn
  have hsd := hs.keep ((Chg.refl (fun _ => False) _).drew) (fun _ _ h => h)
  have hrd := hr.keep ((Chg.refl (fun _ => False) _).drew) (fun _ _ h => h)
  have hbd := hbA.drew
  go_wp2_with fail
  refine wp_region_held_drew (S := fun W => W.cell? ⟨w.heap.size, 4, none⟩ = some (.int .i64 nn) ∧ W.cell? ⟨w.heap.size, 5, none⟩ = some (.int .i64 torn)) (by kernel_rfl) (⟨k4, k5⟩) (fun hHeld => ?_)
  refine takeH (i := 0) (v := ?_) rfl (by kernel_rfl) (by kernel_rfl) (by kernel_rfl) (fun _ _ _ h => h) rfl ?_ hHeld ?_
  rotate_left
  · intro w hS; (try dsimp only at hS); obtain ⟨hS0, hS1⟩ := hS; go_simp; first | done | (with_reducible rfl)
  try simp only [Act.put, ly1, ly2, ly3]
  refine takeH (i := 1) (v := ?_) rfl (by kernel_rfl) (by kernel_rfl) (by kernel_rfl) (fun _ _ _ h => h) rfl ?_ hHeld ?_
  rotate_left
  · intro w hS; (try dsimp only at hS); obtain ⟨hS0, hS1⟩ := hS; go_simp; first | done | (with_reducible rfl)
  try simp only [Act.put, ly1, ly2, ly3]
  refine takeH (i := 2) (v := ?_) rfl (by kernel_rfl) (by kernel_rfl) (by kernel_rfl) (fun _ _ _ h => h) rfl ?_ hHeld ?_
  rotate_left
  · intro w hS; (try dsimp only at hS); obtain ⟨hS0, hS1⟩ := hS; go_simp; first | done | (with_reducible rfl)
  try simp only [Act.put, ly1, ly2, ly3]
  refine takeH (i := 3) (v := ?_) rfl (by kernel_rfl) (by kernel_rfl) (by kernel_rfl) (fun _ _ _ h => h) rfl ?_ hHeld ?_
  rotate_left
  · intro w hS; (try dsimp only at hS); obtain ⟨hS0, hS1⟩ := hS; go_simp; first | done | (with_reducible rfl)
  try simp only [Act.put, ly1, ly2, ly3]
  refine takeH (i := 4) (v := ?_) rfl (by kernel_rfl) (by kernel_rfl) (by kernel_rfl) (fun _ _ _ h => h) rfl ?_ hHeld ?_
  rotate_left
  · intro w hS; (try dsimp only at hS); obtain ⟨hS0, hS1⟩ := hS; go_simp; first | done | (with_reducible rfl)
  try simp only [Act.put, ly1, ly2, ly3]
  refine takeH (i := 5) (v := ?_) rfl (by kernel_rfl) (by kernel_rfl) (by kernel_rfl) (fun _ _ _ h => h) rfl ?_ hHeld ?_
  rotate_left
  · intro w hS; (try dsimp only at hS); obtain ⟨hS0, hS1⟩ := hS; go_simp; first | done | (with_reducible rfl)
  try simp only [Act.put, ly1, ly2, ly3]
  refine takeH (i := 6) (v := ?_) rfl (by kernel_rfl) (by kernel_rfl) (by kernel_rfl) (fun _ _ _ h => h) rfl ?_ hHeld ?_
  rotate_left
  · intro w hS; (try dsimp only at hS); obtain ⟨hS0, hS1⟩ := hS; go_simp; first | done | (with_reducible rfl)
  try simp only [Act.put, ly1, ly2, ly3]
  refine takeH (i := 7) (v := ?_) rfl (by kernel_rfl) (by kernel_rfl) (by kernel_rfl) (fun _ _ _ h => h) rfl ?_ hHeld ?_
  rotate_left
  · intro w hS; (try dsimp only at hS); obtain ⟨hS0, hS1⟩ := hS; go_simp; first | done | (with_reducible rfl)
  try simp only [Act.put, ly1, ly2, ly3]
  refine takeH (i := 8) (v := ?_) rfl (by kernel_rfl) (by kernel_rfl) (by kernel_rfl) (fun _ _ _ h => h) rfl ?_ hHeld ?_
  rotate_left
  · intro w hS; (try dsimp only at hS); obtain ⟨hS0, hS1⟩ := hS; go_simp; first | done | (with_reducible rfl)
  try simp only [Act.put, ly1, ly2, ly3]
  refine takeH (i := 10) (v := ?_) rfl (by kernel_rfl) (by kernel_rfl) (by kernel_rfl) (fun _ _ _ h => h) rfl ?_ hHeld ?_
  rotate_left
  · intro w hS; (try dsimp only at hS); obtain ⟨hS0, hS1⟩ := hS; go_simp; first | done | (with_reducible rfl)
  try simp only [Act.put, ly1, ly2, ly3]
  refine takeH (i := 11) (v := ?_) rfl (by kernel_rfl) (by kernel_rfl) (by kernel_rfl) (fun _ _ _ h => h) rfl ?_ hHeld ?_
  rotate_left
  · intro w hS; (try dsimp only at hS); obtain ⟨hS0, hS1⟩ := hS; go_simp; first | done | (with_reducible rfl)
  try simp only [Act.put, ly1, ly2, ly3]
  refine takeH (i := 12) (v := ?_) rfl (by kernel_rfl) (by kernel_rfl) (by kernel_rfl) (fun _ _ _ h => h) rfl ?_ hHeld ?_
  rotate_left
  · intro w hS; (try dsimp only at hS); obtain ⟨hS0, hS1⟩ := hS; go_simp; first | done | (with_reducible rfl)
  try simp only [Act.put, ly1, ly2, ly3]
  refine takeH (i := 13) (v := ?_) rfl (by kernel_rfl) (by kernel_rfl) (by kernel_rfl) (fun _ _ _ h => h) rfl ?_ hHeld ?_
  rotate_left
  · intro w hS; (try dsimp only at hS); obtain ⟨hS0, hS1⟩ := hS; go_simp; first | done | (with_reducible rfl)
  try simp only [Act.put, ly1, ly2, ly3]
  refine takeH (i := 14) (v := ?_) rfl (by kernel_rfl) (by kernel_rfl) (by kernel_rfl) (fun _ _ _ h => h) rfl ?_ hHeld ?_
  rotate_left
  · intro w hS; (try dsimp only at hS); obtain ⟨hS0, hS1⟩ := hS; go_simp; first | done | (with_reducible rfl)
  try simp only [Act.put, ly1, ly2, ly3]
  refine takeH (i := 15) (v := ?_) rfl (by kernel_rfl) (by kernel_rfl) (by kernel_rfl) (fun _ _ _ h => h) rfl ?_ hHeld ?_
  rotate_left
  · intro w hS; (try dsimp only at hS); obtain ⟨hS0, hS1⟩ := hS; go_simp; first | done | (with_reducible rfl)
  try simp only [Act.put, ly1, ly2, ly3]
  refine takeH (i := 16) (v := ?_) rfl (by kernel_rfl) (by kernel_rfl) (by kernel_rfl) (fun _ _ _ h => h) rfl ?_ hHeld ?_
  rotate_left
  · intro w hS; (try dsimp only at hS); obtain ⟨hS0, hS1⟩ := hS; go_simp; first | done | (with_reducible rfl)
  try simp only [Act.put, ly1, ly2, ly3]
  refine onlyH (i := 9) rfl (by kernel_rfl) rfl (fun K hK => ?_)
  go_simp
  refine (turn_lies hsd hzA one nn bt).mono ?_
  rintro e w6 ⟨rfl, ha⟩
  obtain ⟨F6, hs6, hr6, ap6, -, hc6⟩ := two_disk hrd ap ha
  have hb6 := hbd.trans (hc6.belowOf (fun k hk => (hsd.2.1 k hk).1) hzA)
  have hz6 := Nat.le_trans hB hb6.size
  have hbx6 := hc6.keep (show (World.drew _).heap[w.heap.size]? = some _ from hbx) (fun hf => absurd (hs0l _ hf) (by omega))
  refine hK.out _ _ (⟨cell_of hbx6 4, cell_of hbx6 5⟩) (fun hHeld => ?_)
  clear hK K
  try simp only [Act.put, ly1, ly2, ly3]
  refine onlyH (i := 17) rfl (by kernel_rfl) rfl (fun K hK => ?_)
  go_simp
  refine (rTurn_any _ hr6 hok one nn bt (by omega)).mono ?_
  rintro e w7 ⟨rfl, hd7⟩
  obtain ⟨G7, R7, hr7, hk7, hs7, ap7, hR7, hc7⟩ := two_ref hs6 ap6 hd7
  have hb7 := hb6.trans (hc7.belowOf (fun k hk => (hr6.low k hk).1) hz6)
  have hbx7 := hc7.keep hbx6 (fun hf => absurd (hr0l _ hf) (by omega))
  have HT := hide (show Two B w7 d r (S.turn one nn bt).1 (m + 2) from ⟨F6, R7, G7, hs7, hr7, by rw [hk7]; omega, ap7⟩)
  have hbu := bulk_turn S one nn bt
  have heq : ((S.turn one nn bt).2 == (S.turn one nn bt).2) = true := by simp
  refine hK.out _ _ (⟨cell_of hbx7 4, cell_of hbx7 5⟩) (fun hHeld => ?_)
  clear hK K
  try simp only [Act.put, ly1, ly2, ly3]
  refine takeH (i := 18) (v := ?_) rfl (by kernel_rfl) (by kernel_rfl) (by kernel_rfl) (fun _ _ _ h => h) rfl ?_ hHeld ?_
  rotate_left
  · intro w hS; (try dsimp only at hS); obtain ⟨hS0, hS1⟩ := hS; go_simp; first | done | (with_reducible rfl)
  try simp only [Act.put, ly1, ly2, ly3]
  refine takeH (i := 19) (v := ?_) rfl (by kernel_rfl) (by kernel_rfl) (by kernel_rfl) (fun _ _ _ h => h) rfl ?_ hHeld ?_
  rotate_left
  · intro w hS; (try dsimp only at hS); obtain ⟨hS0, hS1⟩ := hS; go_simp; first | done | (with_reducible rfl)
  try simp only [Act.put, ly1, ly2, ly3]
  refine takeH (i := 20) (v := ?_) rfl (by kernel_rfl) (by kernel_rfl) (by kernel_rfl) (fun _ _ _ h => h) rfl ?_ hHeld ?_
  rotate_left
  · intro w hS; (try dsimp only at hS); obtain ⟨hS0, hS1⟩ := hS; go_simp; first | done | (with_reducible rfl)
  try simp only [Act.put, ly1, ly2, ly3]
  refine takeH (i := 21) (v := ?_) rfl (by kernel_rfl) (by kernel_rfl) (by kernel_rfl) (fun _ _ _ h => h) rfl ?_ hHeld ?_
  rotate_left
  · intro w hS; (try dsimp only at hS); obtain ⟨hS0, hS1⟩ := hS; go_simp; first | done | (with_reducible rfl)
  try simp only [Act.put, ly1, ly2, ly3]
  refine wpAnyH_done (by kernel_rfl) ?_ _
  clear hHeld hs hr hs6 hr6 ha ap ap6 hs7 hr7 hsd hrd hd7
  go_wp2
  go_ret3
  exact ⟨d, r, _, rfl, HT.out, by omega, hb7⟩

set_option maxRecDepth 20000 in
set_option maxHeartbeats 8000000 in
theorem does_arm13 {B d r m : Nat} {S : Dk} (w : World) (hB : B ≤ w.heap.size) (h : Two B w d r S m) (kind nn torn : Int) (name tto : Nm) (u : Value) (bb : List UInt8) (hu : Sb B w u bb) (r0 : I64 kind) (r4 : I64 nn) (r5 : I64 torn) (_hm : m ≤ 900)
    (hnl : name.length < 4611686018427387904) (htl : tto.length < 4611686018427387904) (hb : S.bulk + bb.length + 100 < 274877906944) (hkk : pk kind 15 = 13) :
    Calls Try.prog 13 #[.pointer (some ⟨d, 0, none⟩), .pointer (some ⟨r, 0, none⟩), .agg #[.int .i64 kind, .string (strB name), .string (strB tto), u, .int .i64 nn, .int .i64 torn]] w fun e w' => ∃ d' r' S', e = .returned (.tuple #[.pointer (some ⟨d', 0, none⟩), .pointer (some ⟨r', 0, none⟩), .bool true]) ∧ Two B w' d' r' S' (m + 2) ∧ S'.bulk ≤ S.bulk + bb.length + 10 ∧ Below B w w' := by
  obtain ⟨F, R, G, hs0, hr0, hks, ap⟩ := h
  have hok := hs0.ok
  have hu' := hu
  obtain ⟨ua, uc, rfl, u1, u2, -, -⟩ := hu'
  generalize hul : bb.length = ul at *
  have HUL := hide hul
  clear hul
  have hcA : Chg (fun _ => False) w (w.alloc (.cells #[.int .i64 kind, .string (strB name), .string (strB tto), .slice ua ul uc, .int .i64 nn, .int .i64 torn] 35)) := (Chg.refl _ w).alloc _
  have hbA := chg_below hcA hB
  have hzA : B ≤ (w.alloc (.cells #[.int .i64 kind, .string (strB name), .string (strB tto), .slice ua ul uc, .int .i64 nn, .int .i64 torn] 35)).heap.size := Nat.le_trans hB hbA.size
  have hs := hs0.keep hcA (fun _ _ h => h)
  have hr := hr0.keep hcA (fun _ _ h => h)
  have hbx := heap_last w (.cells #[.int .i64 kind, .string (strB name), .string (strB tto), .slice ua ul uc, .int .i64 nn, .int .i64 torn] 35)
  have hpr := pk_range (c := kind) (n := 15) (by omega)
  have hpk := fun W => pick_any W kind 15 r0 (by omega)
  have hs0l := fun k hk => (hs0.2.1 k hk).2
  have hr0l := fun k hk => (hr0.low k hk).2
  clear hs0 hr0
  go_enter Try.func13, Try.ntmps13
  go_wp2_with fail
  refine (named_any _ name nn r4).mono ?_
  rintro e w2 ⟨rfl, h2⟩
  rw [h2]
  clear h2
  have hn1 : (nmd name nn).length < 4611686018427387904 := nmd_len hnl
  generalize nmd name nn = one at *
  go_wp2_with fail
  refine (named_any _ tto torn r5).mono ?_
  rintro e w3 ⟨rfl, h3⟩
  rw [h3]
  clear h3
  have hn2 : (nmd tto torn).length < 4611686018427387904 := nmd_len htl
  generalize nmd tto torn = two at *
  go_wp2_with fail
  refine (hpk _).mono ?_
  rintro e w4 ⟨rfl, h4⟩
  rw [h4]
  clear h4
  generalize pk kind 15 = kk at *
  clear hpk hpr
  subst hkk
  have k4 := cell_of hbx 4
  have k5 := cell_of hbx 5
  have hsd := hs.keep ((Chg.refl (fun _ => False) _).drew) (fun _ _ h => h)
  have hrd := hr.keep ((Chg.refl (fun _ => False) _).drew) (fun _ _ h => h)
  have hbd := hbA.drew
  go_wp2_with fail
  refine wp_region_held_drew (S := fun W => W.cell? ⟨w.heap.size, 4, none⟩ = some (.int .i64 nn) ∧ W.cell? ⟨w.heap.size, 5, none⟩ = some (.int .i64 torn)) (by kernel_rfl) (⟨k4, k5⟩) (fun hHeld => ?_)
  refine takeH (i := 0) (v := ?_) rfl (by kernel_rfl) (by kernel_rfl) (by kernel_rfl) (fun _ _ _ h => h) rfl ?_ hHeld ?_
  rotate_left
  · intro w hS; (try dsimp only at hS); obtain ⟨hS0, hS1⟩ := hS; go_simp; first | done | (with_reducible rfl)
  try simp only [Act.put, ly1, ly2, ly3]
  refine takeH (i := 1) (v := ?_) rfl (by kernel_rfl) (by kernel_rfl) (by kernel_rfl) (fun _ _ _ h => h) rfl ?_ hHeld ?_
  rotate_left
  · intro w hS; (try dsimp only at hS); obtain ⟨hS0, hS1⟩ := hS; go_simp; first | done | (with_reducible rfl)
  try simp only [Act.put, ly1, ly2, ly3]
  refine takeH (i := 2) (v := ?_) rfl (by kernel_rfl) (by kernel_rfl) (by kernel_rfl) (fun _ _ _ h => h) rfl ?_ hHeld ?_
  rotate_left
  · intro w hS; (try dsimp only at hS); obtain ⟨hS0, hS1⟩ := hS; go_simp; first | done | (with_reducible rfl)
  try simp only [Act.put, ly1, ly2, ly3]
  refine takeH (i := 3) (v := ?_) rfl (by kernel_rfl) (by kernel_rfl) (by kernel_rfl) (fun _ _ _ h => h) rfl ?_ hHeld ?_
  rotate_left
  · intro w hS; (try dsimp only at hS); obtain ⟨hS0, hS1⟩ := hS; go_simp; first | done | (with_reducible rfl)
  try simp only [Act.put, ly1, ly2, ly3]
  refine takeH (i := 4) (v := ?_) rfl (by kernel_rfl) (by kernel_rfl) (by kernel_rfl) (fun _ _ _ h => h) rfl ?_ hHeld ?_
  rotate_left
  · intro w hS; (try dsimp only at hS); obtain ⟨hS0, hS1⟩ := hS; go_simp; first | done | (with_reducible rfl)
  try simp only [Act.put, ly1, ly2, ly3]
  refine takeH (i := 6) (v := ?_) rfl (by kernel_rfl) (by kernel_rfl) (by kernel_rfl) (fun _ _ _ h => h) rfl ?_ hHeld ?_
  rotate_left
  · intro w hS; (try dsimp only at hS); obtain ⟨hS0, hS1⟩ := hS; go_simp; first | done | (with_reducible rfl)
  try simp only [Act.put, ly1, ly2, ly3]
  refine takeH (i := 7) (v := ?_) rfl (by kernel_rfl) (by kernel_rfl) (by kernel_rfl) (fun _ _ _ h => h) rfl ?_ hHeld ?_
  rotate_left
  · intro w hS; (try dsimp only at hS); obtain ⟨hS0, hS1⟩ := hS; go_simp; first | done | (with_reducible rfl)
  try simp only [Act.put, ly1, ly2, ly3]
  refine takeH (i := 8) (v := ?_) rfl (by kernel_rfl) (by kernel_rfl) (by kernel_rfl) (fun _ _ _ h => h) rfl ?_ hHeld ?_
  rotate_left
  · intro w hS; (try dsimp only at hS); obtain ⟨hS0, hS1⟩ := hS; go_simp; first | done | (with_reducible rfl)
  try simp only [Act.put, ly1, ly2, ly3]
  refine takeH (i := 9) (v := ?_) rfl (by kernel_rfl) (by kernel_rfl) (by kernel_rfl) (fun _ _ _ h => h) rfl ?_ hHeld ?_
  rotate_left
  · intro w hS; (try dsimp only at hS); obtain ⟨hS0, hS1⟩ := hS; go_simp; first | done | (with_reducible rfl)
  try simp only [Act.put, ly1, ly2, ly3]
  refine takeH (i := 10) (v := ?_) rfl (by kernel_rfl) (by kernel_rfl) (by kernel_rfl) (fun _ _ _ h => h) rfl ?_ hHeld ?_
  rotate_left
  · intro w hS; (try dsimp only at hS); obtain ⟨hS0, hS1⟩ := hS; go_simp; first | done | (with_reducible rfl)
  try simp only [Act.put, ly1, ly2, ly3]
  refine onlyH (i := 5) rfl (by kernel_rfl) rfl (fun K hK => ?_)
  go_simp
  refine (crash_lies hsd hzA nn torn (by omega)).mono ?_
  rintro e w6 ⟨d2, F2, rfl, hs6, hF2, hc6⟩
  have hr6 := hrd.keep hc6 (fun _ _ h => h)
  have hb6 := hbd.trans (chg_below hc6 hzA)
  have hz6 := Nat.le_trans hB hb6.size
  have hbx6 := hc6.keep (show (World.drew _).heap[w.heap.size]? = some _ from hbx) (fun h => h)
  refine hK.out _ _ (⟨cell_of hbx6 4, cell_of hbx6 5⟩) (fun hHeld => ?_)
  clear hK K
  try simp only [Act.put, ly1, ly2, ly3]
  refine onlyH (i := 11) rfl (by kernel_rfl) rfl (fun K hK => ?_)
  go_simp
  refine (rCrash_any _ hr6 hok (by omega) nn torn).mono ?_
  rintro e w7 ⟨x, GX, RX, rfl, hx, hgx, hRX, hc7⟩
  have hs7 := hs6.keep hc7 (fun _ _ h => h)
  have hb7 := hb6.trans (chg_below hc7 hz6)
  have hbx7 := hc7.keep hbx6 (fun h => h)
  have ap7 : ∀ k, F2 k → ¬ RX k := fun k hk hr => by
    have a1 := hF2 k hk
    have a2 := (hs6.2.1 k hk).2
    rcases hRX k hr with a3 | a3
    · have := (hrd.low k a3).2
      omega
    · omega
  have HT := hide (show Two B w7 d2 x (S.crash nn torn) (m + 2) from ⟨F2, RX, GX, hs7, hx, by rw [hgx]; simp, ap7⟩)
  have hbu := bulk_crash (S := S) nn torn
  refine hK.out _ _ (⟨cell_of hbx7 4, cell_of hbx7 5⟩) (fun hHeld => ?_)
  clear hK K
  try simp only [Act.put, ly1, ly2, ly3]
  refine takeH (i := 12) (v := ?_) rfl (by kernel_rfl) (by kernel_rfl) (by kernel_rfl) (fun _ _ _ h => h) rfl ?_ hHeld ?_
  rotate_left
  · intro w hS; (try dsimp only at hS); obtain ⟨hS0, hS1⟩ := hS; go_simp; first | done | (with_reducible rfl)
  try simp only [Act.put, ly1, ly2, ly3]
  refine takeH (i := 13) (v := ?_) rfl (by kernel_rfl) (by kernel_rfl) (by kernel_rfl) (fun _ _ _ h => h) rfl ?_ hHeld ?_
  rotate_left
  · intro w hS; (try dsimp only at hS); obtain ⟨hS0, hS1⟩ := hS; go_simp; first | done | (with_reducible rfl)
  try simp only [Act.put, ly1, ly2, ly3]
  refine takeH (i := 14) (v := ?_) rfl (by kernel_rfl) (by kernel_rfl) (by kernel_rfl) (fun _ _ _ h => h) rfl ?_ hHeld ?_
  rotate_left
  · intro w hS; (try dsimp only at hS); obtain ⟨hS0, hS1⟩ := hS; go_simp; first | done | (with_reducible rfl)
  try simp only [Act.put, ly1, ly2, ly3]
  refine wpAnyH_done (by kernel_rfl) ?_ _
  clear hHeld hs hr hs6 hr6 ap hs7 hsd hrd hx
  go_wp2
  go_ret3
  exact ⟨d2, x, _, rfl, HT.out, by omega, hb7⟩

set_option maxRecDepth 20000 in
set_option maxHeartbeats 8000000 in
theorem does_arm14 {B d r m : Nat} {S : Dk} (w : World) (hB : B ≤ w.heap.size) (h : Two B w d r S m) (kind nn torn : Int) (name tto : Nm) (u : Value) (bb : List UInt8) (hu : Sb B w u bb) (r0 : I64 kind) (r4 : I64 nn) (r5 : I64 torn) (hm : m ≤ 900)
    (hnl : name.length < 4611686018427387904) (htl : tto.length < 4611686018427387904) (hb : S.bulk + bb.length + 100 < 274877906944) (hkk : pk kind 15 = 14) :
    Calls Try.prog 13 #[.pointer (some ⟨d, 0, none⟩), .pointer (some ⟨r, 0, none⟩), .agg #[.int .i64 kind, .string (strB name), .string (strB tto), u, .int .i64 nn, .int .i64 torn]] w fun e w' => ∃ d' r' S', e = .returned (.tuple #[.pointer (some ⟨d', 0, none⟩), .pointer (some ⟨r', 0, none⟩), .bool true]) ∧ Two B w' d' r' S' (m + 2) ∧ S'.bulk ≤ S.bulk + bb.length + 10 ∧ Below B w w' := by
  obtain ⟨F, R, G, hs0, hr0, hks, ap⟩ := h
  have hok := hs0.ok
  have hu' := hu
  obtain ⟨ua, uc, rfl, u1, u2, -, -⟩ := hu'
  generalize hul : bb.length = ul at *
  have HUL := hide hul
  clear hul
  have hcA : Chg (fun _ => False) w (w.alloc (.cells #[.int .i64 kind, .string (strB name), .string (strB tto), .slice ua ul uc, .int .i64 nn, .int .i64 torn] 35)) := (Chg.refl _ w).alloc _
  have hbA := chg_below hcA hB
  have hzA : B ≤ (w.alloc (.cells #[.int .i64 kind, .string (strB name), .string (strB tto), .slice ua ul uc, .int .i64 nn, .int .i64 torn] 35)).heap.size := Nat.le_trans hB hbA.size
  have hs := hs0.keep hcA (fun _ _ h => h)
  have hr := hr0.keep hcA (fun _ _ h => h)
  have hbx := heap_last w (.cells #[.int .i64 kind, .string (strB name), .string (strB tto), .slice ua ul uc, .int .i64 nn, .int .i64 torn] 35)
  have hpr := pk_range (c := kind) (n := 15) (by omega)
  have hpk := fun W => pick_any W kind 15 r0 (by omega)
  have hs0l := fun k hk => (hs0.2.1 k hk).2
  have hr0l := fun k hk => (hr0.low k hk).2
  clear hs0 hr0
  go_enter Try.func13, Try.ntmps13
  go_wp2_with fail
  refine (named_any _ name nn r4).mono ?_
  rintro e w2 ⟨rfl, h2⟩
  rw [h2]
  clear h2
  have hn1 : (nmd name nn).length < 4611686018427387904 := nmd_len hnl
  generalize nmd name nn = one at *
  go_wp2_with fail
  refine (named_any _ tto torn r5).mono ?_
  rintro e w3 ⟨rfl, h3⟩
  rw [h3]
  clear h3
  have hn2 : (nmd tto torn).length < 4611686018427387904 := nmd_len htl
  generalize nmd tto torn = two at *
  go_wp2_with fail
  refine (hpk _).mono ?_
  rintro e w4 ⟨rfl, h4⟩
  rw [h4]
  clear h4
  generalize pk kind 15 = kk at *
  clear hpk hpr
  subst hkk
  have k4 := cell_of hbx 4
  have k5 := cell_of hbx 5
  go_wp2_with fail
  refine (readAt_lies hs hzA one nn torn r4 r5 (by omega)).mono ?_
  rintro e w6 ⟨v, rfl, hown, F6, hs6, hF6, hc6, hv6⟩
  obtain ⟨F6', hs6', hr6, ap6, -, -⟩ := two_disk hr ap (show After B _ F d S.begun w6 from ⟨F6, hs6, hF6, hc6⟩)
  have ap6 : ∀ k, F6 k → ¬ R k := fun k hf hk => by
    rcases hF6 k hf with h | h
    · exact ap k h hk
    · have := (hr.low k hk).2
      omega
  have hb6 := hbA.trans (hc6.belowOf (fun k hk => (hs.2.1 k hk).1) hzA)
  have hz6 := Nat.le_trans hB hb6.size
  have hbx6 := hc6.keep hbx (fun hf => absurd (hs0l _ hf) (by omega))
  have k46 := cell_of hbx6 4
  have k56 := cell_of hbx6 5
  have hsl := sl_of_own hown
  obtain ⟨va, vc, rfl⟩ := own_shape hown
  go_wp2_with fail
  refine (rReadAt_any _ hr6 hok (by omega) one nn torn r4 r5 (by omega) hn1).mono ?_
  rintro e w7 ⟨rfl, hd7⟩
  obtain ⟨G7, R7, hr7, hk7, hs7, ap7, hR7, hc7⟩ := two_ref hs6 ap6 hd7
  have hb7 := hb6.trans (hc7.belowOf (fun k hk => (hr6.low k hk).1) hz6)
  have hnR : ∀ k, (Value.slice va (S.readAt one nn torn).1.length vc).ownBlock = some k → ¬ R k ∧ ¬ R7 k ∧ ¬ F6 k := fun k hk => by
    have h1 := own_lt hown k hk
    have hnr : ¬ R k := fun hr' => by
      have := (hr.low k hr').2
      omega
    refine ⟨hnr, fun hr' => ?_, hv6 k hk⟩
    rcases hR7 k hr' with h | h
    · exact hnr h
    · omega
  have hown7 := own_keep hown hc7 (fun k hk => (hnR k hk).1)
  have hstr : (convert 33 9 (.slice va (S.readAt one nn torn).1.length vc)).run Try.prog w7 = .ok (.string (strB (S.readAt one nn torn).1)) w7 := run_str w7 _ _ (sl_of_own hown7)
  have hne := nm_eq (a := (S.readAt one nn torn).1) (b := (S.readAt one nn torn).1) rfl
  have heq : ((S.readAt one nn torn).2 == (S.readAt one nn torn).2) = true := by simp
  have hbu := bulk_begun S
  have hz7 := Nat.le_trans hB hb7.size
  have HS7 := hide hs7
  have HR7 := hide hr7
  have HO7 := hide hown7
  have HNR := hide hnR
  have HB7 := hide hb7
  have hbase : B ≤ (w.alloc (.cells #[.int .i64 kind, .string (strB name), .string (strB tto), .slice ua ul uc, .int .i64 nn, .int .i64 torn] 35)).heap.size := hzA
  generalize (S.readAt one nn torn).1 = rb at *
  generalize (S.readAt one nn torn).2 = re at *
  have hrl := own_max HO7.out
  clear hs hr hs6 hs6' hr6 ap hd7 hown hown7 hsl hnR hs7 hr7 hF6 hv6 hR7
  go_wp2_with fail
  go_loopw [37] (fun i wr => ∃ (j : Nat) (xs : List Value), i = .int .i64 (j : Int) ∧ j ≤ rb.length ∧ wr.ownsRow (w.alloc (.cells #[.int .i64 kind, .string (strB name), .string (strB tto), .slice ua ul uc, .int .i64 nn, .int .i64 torn] 35)).heap.size 5 1 (.slice va rb.length vc) rb.length xs ∧ Chg (fun k => some k = (Value.slice va rb.length vc).ownBlock) w7 wr)
    (fun i _ => rb.length - (intOf i).toNat)
  case atStart => exact ⟨0, _, rfl, by omega, HO7.out, Chg.refl _ _⟩
  case round =>
    obtain ⟨j, xs, rfl, hj, hox, hcx⟩ := hrel
    by_cases hlt : j < rb.length
    · obtain ⟨g, rfl, -, hgl, hcg⟩ := own_pos hox (by omega)
      obtain ⟨cur, hcur⟩ := own_block hox (k := g) rfl
      have tg := thawed hcur j
      have hxl : xs.length = rb.length * 1 := hox.1
      have cg := hcg j (xs[j]'(by omega)) (List.getElem?_eq_getElem (by omega))
      have hset := own_set hox (j := j) (by omega) (.int .u8 77)
      have hcs := hcx.setCell (p := ⟨g, j, none⟩) (Or.inl rfl) (.int .u8 77)
      have hj0 : (0 : Int) ≤ (j : Int) := by omega
      have hj1 : (j : Int) < (rb.length : Int) := by omega
      generalize xs[j]'(by omega) = xj at cg
      clear hcg hox hcx hcur
      go_wp2_with fail
      exact ⟨⟨j + 1, _, by go_num, by omega, hset, hcs⟩, by simp [intOf]; omega⟩
    · have hje : ¬ j < rb.length := hlt
      have hsE := HS7.out.keep hcx (fun k hf e => (HNR.out k e.symm).2.2 hf)
      have hrE := HR7.out.keep hcx (fun k hk e => (HNR.out k e.symm).2.1 hk)
      have hbE := HB7.out.trans (hcx.belowOf (fun k e => by have := (own_lt HO7.out k e.symm).1; omega) hz7)
      have HT := hide (show Two B wr d r S.begun (m + 2) from ⟨F6, R7, G7, hsE, hrE, by rw [hk7]; omega, ap7⟩)
      clear hsE hrE hox hcx
      go_wp2
      go_ret3
      exact ⟨d, r, _, rfl, HT.out, by omega, hbE⟩

end Go.Proofs.Ytlejgdjkdbamkaa
