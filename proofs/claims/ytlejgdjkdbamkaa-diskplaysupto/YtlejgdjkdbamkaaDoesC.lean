/-
  The law's does: ways 10. Conditions: as it says.
-/
import Derived.Test.YtlejgdjkdbamkaaDoesBase
namespace Go.Proofs.Ytlejgdjkdbamkaa
open Go.RowKit

set_option maxRecDepth 20000 in
set_option maxHeartbeats 8000000 in
theorem does_arm10 {B d r m : Nat} {S : Dk} (w : World) (hB : B ≤ w.heap.size) (h : Two B w d r S m) (kind nn torn : Int) (name tto : Nm) (u : Value) (bb : List UInt8) (hu : Sb B w u bb) (r0 : I64 kind) (r4 : I64 nn) (r5 : I64 torn) (hm : m ≤ 900)
    (hnl : name.length < 4611686018427387904) (htl : tto.length < 4611686018427387904) (hb : S.bulk + bb.length + 100 < 274877906944) (hkk : pk kind 15 = 10) :
    Calls Try.prog 13 #[.pointer (some ⟨d, 0, none⟩), .pointer (some ⟨r, 0, none⟩), .agg #[.int .i64 kind, .string (strB name), .string (strB tto), u, .int .i64 nn, .int .i64 torn]] w fun e w' => ∃ d' r' S', e = .returned (.tuple #[.pointer (some ⟨d', 0, none⟩), .pointer (some ⟨r', 0, none⟩), .bool true]) ∧ Two B w' d' r' S' (m + 2) ∧ S'.bulk ≤ S.bulk + bb.length + 10 ∧ Below B w w' := by
  obtain ⟨F, R, G, hs0, hr0, hks, ap⟩ := h
  have hok := hs0.ok
  have hu' := hu
  obtain ⟨ua, uc, rfl, u1, u2, -, -⟩ := hu'
  generalize hul : bb.length = ul at *
  have HUL := hide hul
  clear hul
  have hcA : Chg (fun _ => False) w (w.alloc (.cells #[.int .i64 kind, .string (strB name), .string (strB tto), .slice ua ul uc, .int .i64 nn, .int .i64 torn] 35)) := (Chg.refl _ w).alloc _
  have hbA := chg_below hcA hB
  have hzA : B ≤ (w.alloc (.cells #[.int .i64 kind, .string (strB name), .string (strB tto), .slice ua ul uc, .int .i64 nn, .int .i64 torn] 35)).heap.size := Nat.le_trans hB hbA.size
  have hs := hs0.keep hcA (fun _ _ h => h)
  have hr := hr0.keep hcA (fun _ _ h => h)
  have hbx := heap_last w (.cells #[.int .i64 kind, .string (strB name), .string (strB tto), .slice ua ul uc, .int .i64 nn, .int .i64 torn] 35)
  have hpr := pk_range (c := kind) (n := 15) (by omega)
  have hpk := fun W => pick_any W kind 15 r0 (by omega)
  have hs0l := fun k hk => (hs0.2.1 k hk).2
  have hr0l := fun k hk => (hr0.low k hk).2
  clear hs0 hr0
  go_enter Try.func13, Try.ntmps13
  go_wp2_with fail
  refine (named_any _ name nn r4).mono ?_
  rintro e w2 ⟨rfl, h2⟩
  rw [h2]
  clear h2
  have hn1 : (nmd name nn).length < 4611686018427387904 := nmd_len hnl
  generalize nmd name nn = one at *
  go_wp2_with fail
  refine (named_any _ tto torn r5).mono ?_
  rintro e w3 ⟨rfl, h3⟩
  rw [h3]
  clear h3
  have hn2 : (nmd tto torn).length < 4611686018427387904 := nmd_len htl
  generalize nmd tto torn = two at *
  go_wp2_with fail
  refine (hpk _).mono ?_
  rintro e w4 ⟨rfl, h4⟩
  rw [h4]
  clear h4
  generalize pk kind 15 = kk at *
  clear hpk hpr
  subst hkk
  have k4 := cell_of hbx 4
  have k5 := cell_of hr.blk 5
  dsimp only [rcells] at k5
  have hp12 := pk_range (c := nn) (n := 12) (by omega)
  have hp9 := pk_range (c := torn) (n := 9) (by omega)
  have hn0 : S.n ≤ S.bulk := by unfold Dk.bulk; omega
  have hw1 : IntKind.i64.wrap ((S.n : Int) + pk nn 12) = (S.n : Int) + pk nn 12 := by rw [IntKind.wrap_i64]; omega
  have hw2 : IntKind.i64.wrap ((S.n : Int) + pk nn 12 + pk torn 9) = (S.n : Int) + pk nn 12 + pk torn 9 := by rw [IntKind.wrap_i64]; omega
  have hsd := hs.keep ((Chg.refl (fun _ => False) _).drew) (fun _ _ h => h)
  have hrd := hr.keep ((Chg.refl (fun _ => False) _).drew) (fun _ _ h => h)
  have hbd := hbA.drew
  go_wp2_with fail
  refine wp_region_held_drew (S := fun W => W.cell? ⟨r, 5, none⟩ = some (.int .i64 (S.n : Int)) ∧ W.cell? ⟨w.heap.size, 4, none⟩ = some (.int .i64 nn)) (by kernel_rfl) (⟨k5, k4⟩) (fun hHeld => ?_)
  refine takeH (i := 0) (v := ?_) rfl (by kernel_rfl) (by kernel_rfl) (by kernel_rfl) (fun _ _ _ h => h) rfl ?_ hHeld ?_
  rotate_left
  · intro w hS; (try dsimp only at hS); obtain ⟨hS0, hS1⟩ := hS; go_simp; first | done | (with_reducible rfl)
  try simp only [Act.put, ly1, ly2, ly3]
  refine takeH (i := 1) (v := ?_) rfl (by kernel_rfl) (by kernel_rfl) (by kernel_rfl) (fun _ _ _ h => h) rfl ?_ hHeld ?_
  rotate_left
  · intro w hS; (try dsimp only at hS); obtain ⟨hS0, hS1⟩ := hS; go_simp; first | done | (with_reducible rfl)
  try simp only [Act.put, ly1, ly2, ly3]
  refine takeH (i := 2) (v := ?_) rfl (by kernel_rfl) (by kernel_rfl) (by kernel_rfl) (fun _ _ _ h => h) rfl ?_ hHeld ?_
  rotate_left
  · intro w hS; (try dsimp only at hS); obtain ⟨hS0, hS1⟩ := hS; go_simp; first | done | (with_reducible rfl)
  try simp only [Act.put, ly1, ly2, ly3]
  refine takeH (i := 3) (v := ?_) rfl (by kernel_rfl) (by kernel_rfl) (by kernel_rfl) (fun _ _ _ h => h) rfl ?_ hHeld ?_
  rotate_left
  · intro w hS; (try dsimp only at hS); obtain ⟨hS0, hS1⟩ := hS; go_simp; first | done | (with_reducible rfl)
  try simp only [Act.put, ly1, ly2, ly3]
  refine takeH (i := 4) (v := ?_) rfl (by kernel_rfl) (by kernel_rfl) (by kernel_rfl) (fun _ _ _ h => h) rfl ?_ hHeld ?_
  rotate_left
  · intro w hS; (try dsimp only at hS); obtain ⟨hS0, hS1⟩ := hS; go_simp; first | done | (with_reducible rfl)
  try simp only [Act.put, ly1, ly2, ly3]
  refine takeH (i := 5) (v := ?_) rfl (by kernel_rfl) (by kernel_rfl) (by kernel_rfl) (fun _ _ _ h => h) rfl ?_ hHeld ?_
  rotate_left
  · intro w hS; (try dsimp only at hS); obtain ⟨hS0, hS1⟩ := hS; go_simp; first | done | (with_reducible rfl)
  try simp only [Act.put, ly1, ly2, ly3]
  refine onlyH (i := 6) rfl (by kernel_rfl) rfl (fun K hK => ?_)
  go_simp
  refine (pick_any _ nn 12 r4 (by omega)).mono ?_
  rintro e wz ⟨rfl, hz⟩
  rw [hz]
  clear hz
  refine hK.out _ _ (⟨k5, k4⟩) (fun hHeld => ?_)
  clear hK K
  try simp only [Act.put, ly1, ly2, ly3]
  refine takeH (i := 7) (v := ?_) rfl (by kernel_rfl) (by kernel_rfl) (by kernel_rfl) (fun _ _ _ h => h) rfl ?_ hHeld ?_
  rotate_left
  · intro w hS; (try dsimp only at hS); obtain ⟨hS0, hS1⟩ := hS; go_simp; first | done | (with_reducible rfl)
  try simp only [Act.put, ly1, ly2, ly3]
  refine takeH (i := 8) (v := ?_) rfl (by kernel_rfl) (by kernel_rfl) (by kernel_rfl) (fun _ _ _ h => h) rfl ?_ hHeld ?_
  rotate_left
  · intro w hS; (try dsimp only at hS); obtain ⟨hS0, hS1⟩ := hS; go_simp; first | done | (with_reducible rfl)
  try simp only [Act.put, ly1, ly2, ly3]
  refine wpAnyH_done (by kernel_rfl) ?_ _
  clear hHeld
  have k5x := cell_of hbx 5
  go_wp2_with fail
  refine (pick_any _ torn 9 r5 (by omega)).mono ?_
  rintro e wz ⟨rfl, hz⟩
  rw [hz]
  clear hz
  go_wp2_with fail
  obtain ⟨n1, hn1e⟩ : ∃ x : Int, x = (S.n : Int) + pk nn 12 := ⟨_, rfl⟩
  rw [← hn1e] at hw2 ⊢
  obtain ⟨n2, hn2e⟩ : ∃ x : Int, x = n1 + pk torn 9 := ⟨_, rfl⟩
  rw [← hn2e] at hw2 ⊢
  have HN2 := hide hn2e
  clear hn1e hw1
  have hcF : Chg (fun _ => False) (w.alloc (.cells #[.int .i64 kind, .string (strB name), .string (strB tto), .slice ua ul uc, .int .i64 nn, .int .i64 torn] 35)) ((w.alloc (.cells #[.int .i64 kind, .string (strB name), .string (strB tto), .slice ua ul uc, .int .i64 nn, .int .i64 torn] 35)).alloc (.cells #[.int .i64 n1, .int .i64 n2] 3)).drew := ((Chg.refl _ _).alloc _).drew
  have hsF := hs.keep hcF (fun _ _ h => h)
  have hrF := hr.keep hcF (fun _ _ h => h)
  have hbF := hbA.trans (chg_below hcF hzA)
  have hzF := Nat.le_trans hB hbF.size
  have hbxF := hcF.keep hbx (fun h => h)
  have hIs : Is ((w.alloc (.cells #[.int .i64 kind, .string (strB name), .string (strB tto), .slice ua ul uc, .int .i64 nn, .int .i64 torn] 35)).alloc (.cells #[.int .i64 n1, .int .i64 n2] 3)).drew (.slice (some ⟨w.heap.size + 1, 0, none⟩) 2 2) [n1, n2] := by
    refine ⟨w.heap.size + 1, 0, 2, rfl, by simp, Nat.le_refl _, fun j hj => ?_⟩
    have hh := heap_last (w.alloc (.cells #[.int .i64 kind, .string (strB name), .string (strB tto), .slice ua ul uc, .int .i64 nn, .int .i64 torn] 35)) (.cells #[.int .i64 n1, .int .i64 n2] 3)
    rw [show (w.alloc (.cells #[.int .i64 kind, .string (strB name), .string (strB tto), .slice ua ul uc, .int .i64 nn, .int .i64 torn] 35)).heap.size = w.heap.size + 1 by simp] at hh
    rw [Nat.zero_add]
    have hh' : ((w.alloc (.cells #[.int .i64 kind, .string (strB name), .string (strB tto), .slice ua ul uc, .int .i64 nn, .int .i64 torn] 35)).alloc (.cells #[.int .i64 n1, .int .i64 n2] 3)).drew.heap[w.heap.size + 1]? = some (.cells #[.int .i64 n1, .int .i64 n2] 3) := hh
    refine (cell_of hh' j).trans ?_
    have hj2 : j < 2 := hj
    rcases (by omega : j = 0 ∨ j = 1) with rfl | rfl <;> rfl
  refine (failAt_lies hsF hzF hIs (fun q hq hf => by have := hs0l q hf; injection hq with hq; simp only at hq; omega) (by simp)).mono ?_
  rintro e w6 ⟨rfl, ha⟩
  obtain ⟨F6, hs6, hr6, ap6, -, hc6⟩ := two_disk hrF ap ha
  have hb6 := hbF.trans (hc6.belowOf (fun k hk => (hsF.2.1 k hk).1) hzF)
  have hz6 := Nat.le_trans hB hb6.size
  have hbx6 := hc6.keep hbxF (fun hf => absurd (hs0l _ hf) (by omega))
  have e6 : w6.drew.cell? ⟨w.heap.size, 5, none⟩ = some (.int .i64 torn) := cell_of (show w6.drew.heap[w.heap.size]? = some _ from hbx6) 5
  have hrD := hr6.keep ((Chg.refl (fun _ => False) w6).drew) (fun _ _ h => h)
  obtain ⟨W7, hW7⟩ : ∃ W, W = w6.drew.alloc (.cells #[.int .i64 n1, .int .i64 n2] 3) := ⟨_, rfl⟩
  have hc7 : Chg (fun _ => False) w6.drew W7 := hW7 ▸ (Chg.refl _ w6.drew).alloc _
  have hr7 := hrD.keep hc7 (fun _ _ h => h)
  have hq7 : W7.heap[w6.heap.size]? = some (.cells #[.int .i64 n1, .int .i64 n2] 3) := by rw [hW7]; exact heap_last w6.drew _
  obtain ⟨la, lc, hlv⟩ := own_shape hr6.fai
  have hlrow := hr7.fai
  rw [hlv] at hlrow
  have hlcap := own_cap hlrow
  obtain ⟨i0, hi, hz0, hz1, hz2⟩ := info_parts infoInt
  obtain ⟨v8, W8, hrun, hown8, hgr⟩ := run_append_full W7 70 70 i0 Try.underlying70 hi hz0 hz1 hz2 rfl (by decide) hlrow ⟨w6.heap.size, 0, none⟩ 2 2 [.int .i64 n1, .int .i64 n2] rfl (fun j u hu => by
    rw [Addr.add_lit, Nat.zero_add, cell_of hq7, List.getElem?_toArray]
    exact hu) (fun x hx => by simp only [List.mem_cons, List.not_mem_nil, or_false] at hx; rcases hx with rfl | rfl <;> rfl) (by decide) (by unfold maxLen; omega) (by omega)
  have hc8 : Chg (fun _ => False) W7 W8 := (Chg.of_grown hgr).mono fun k _ e => by cases e
  obtain ⟨va8, vc8, rfl⟩ := own_shape hown8
  have hr8 := hr7.keep hc8 (fun _ _ h => h)
  obtain ⟨W9, hW9⟩ : ∃ W, W = W8.setCell ⟨r, 8, none⟩ (.slice va8 (G.ks.length + 2) vc8) := ⟨_, rfl⟩
  have hcD8 : Chg (fun _ => False) w6 W8 := (((Chg.refl _ w6).drew).then hc7).then hc8
  obtain ⟨hr9, hc9⟩ := hr6.failsNew (n1 := n1) (n2 := n2) hcD8 (own_down hown8 (by rw [hW7]; simp; omega)) (fun k hk => by have := (own_lt hown8 k hk).1; rw [hW7] at this; simp at this; omega)
  rw [← hW9] at hr9 hc9
  have e7 : W7.cell? ⟨w.heap.size, 5, none⟩ = some (.int .i64 torn) := cell_of (hc7.keep (show w6.drew.heap[w.heap.size]? = some _ from hbx6) (fun h => h)) 5
  have hbx8 := hc8.keep (hc7.keep (show w6.drew.heap[w.heap.size]? = some _ from hbx6) (fun h => h)) (fun h => h)
  have e8 := cell_of hbx8 5
  have hrx : w.heap.size ≠ r := fun e => by have := hr0l r hr.self; omega
  have hbx9 : W9.heap[w.heap.size]? = some (.cells #[.int .i64 kind, .string (strB name), .string (strB tto), .slice ua ul uc, .int .i64 nn, .int .i64 torn] 35) := by rw [hW9]; exact heap_set_other hbx8 hrx
  have e9 := cell_of hbx9 5
  have b6 := hrD.blk
  have b7 := hr7.blk
  rw [rcells, hlv] at b6 b7
  have p6 := cell_of b6 8
  have p7 := cell_of b7 8
  have q8 := cell_of hr8.blk 8
  have t8 := thawed hr8.blk 8
  dsimp only [rcells] at q8
  have HRUN := hide hrun
  have HW7 := hide hW7
  have HW9 := hide hW9
  have hs9 := hs6.keep hc9 (fun k hk e => ap6 k hk (e ▸ hr6.self))
  have hb9 := hb6.trans (hc9.belowOf (fun k e => e ▸ (hr6.low _ hr6.self).1) hz6)
  have ap9 : ∀ k, F6 k → ¬ Fx R w6 W9 k := fun k hf hx => by
    rcases hx with hx | hx
    · exact ap6 k hf hx
    · have := (hs6.2.1 k hf).2
      omega
  have HT := hide (show Two B W9 d r (S.failAt [n1, n2]) (m + 2) from ⟨F6, _, _, hs9, hr9, by show (G.ks ++ [n1, n2]).length ≤ _; simp; omega, ap9⟩)
  have HB9 := hide hb9
  clear hrun hW7 hW9 hs hr hsd hrd hbd hsF hrF hbF hzF hs6 hr6 ha ap ap6 hr7 hr8 hr9 hc9 hs9 hb9 ap9 hIs hcF hbxF hc6 hrD hc7 hc8 hcD8 b6 b7 hlrow hgr hown8 hq7 hbx6 hbx8 hbx9 k4 k5 k5x
  have hbu : (S.failAt [n1, n2]).bulk = S.bulk := rfl
  go_wp2_with fail
  refine wp_region_held_drew (S := fun W => W.cell? ⟨w.heap.size, 5, none⟩ = some (.int .i64 torn)) (by kernel_rfl) (e6) (fun hHeld => ?_)
  refine takeH (i := 0) (v := ?_) rfl (by kernel_rfl) (by kernel_rfl) (by kernel_rfl) (fun _ _ _ h => h) rfl ?_ hHeld ?_
  rotate_left
  · intro w hS; (try dsimp only at hS); obtain hS0 := hS; go_simp; first | done | (with_reducible rfl)
  try simp only [Act.put, ly1, ly2, ly3]
  refine takeH (i := 1) (v := ?_) rfl (by kernel_rfl) (by kernel_rfl) (by kernel_rfl) (fun _ _ _ h => h) rfl ?_ hHeld ?_
  rotate_left
  · intro w hS; (try dsimp only at hS); obtain hS0 := hS; go_simp; first | done | (with_reducible rfl)
  try simp only [Act.put, ly1, ly2, ly3]
  refine takeH (i := 2) (v := ?_) rfl (by kernel_rfl) (by kernel_rfl) (by kernel_rfl) (fun _ _ _ h => h) rfl ?_ hHeld ?_
  rotate_left
  · intro w hS; (try dsimp only at hS); obtain hS0 := hS; go_simp; first | done | (with_reducible rfl)
  try simp only [Act.put, ly1, ly2, ly3]
  refine takeH (i := 3) (v := ?_) rfl (by kernel_rfl) (by kernel_rfl) (by kernel_rfl) (fun _ _ _ h => h) rfl ?_ hHeld ?_
  rotate_left
  · intro w hS; (try dsimp only at hS); obtain hS0 := hS; go_simp; first | done | (with_reducible rfl)
  try simp only [Act.put, ly1, ly2, ly3]
  refine takeH (i := 5) (v := ?_) rfl (by kernel_rfl) (by kernel_rfl) (by kernel_rfl) (fun _ _ _ h => h) rfl ?_ hHeld ?_
  rotate_left
  · intro w hS; (try dsimp only at hS); obtain hS0 := hS; go_simp; first | done | (with_reducible rfl)
  try simp only [Act.put, ly1, ly2, ly3]
  refine takeH (i := 6) (v := ?_) rfl (by kernel_rfl) (by kernel_rfl) (by kernel_rfl) (fun _ _ _ h => h) rfl ?_ hHeld ?_
  rotate_left
  · intro w hS; (try dsimp only at hS); obtain hS0 := hS; go_simp; first | done | (with_reducible rfl)
  try simp only [Act.put, ly1, ly2, ly3]
  refine takeH (i := 7) (v := ?_) rfl (by kernel_rfl) (by kernel_rfl) (by kernel_rfl) (fun _ _ _ h => h) rfl ?_ hHeld ?_
  rotate_left
  · intro w hS; (try dsimp only at hS); obtain hS0 := hS; go_simp; first | done | (with_reducible rfl)
  try simp only [Act.put, ly1, ly2, ly3]
  refine takeH (i := 10) (v := ?_) rfl (by kernel_rfl) (by kernel_rfl) (by kernel_rfl) (fun _ _ _ h => h) rfl ?_ hHeld ?_
  rotate_left
  · intro w hS; (try dsimp only at hS); obtain hS0 := hS; go_simp; first | done | (with_reducible rfl)
  try simp only [Act.put, ly1, ly2, ly3]
  refine takeH (i := 11) (v := ?_) rfl (by kernel_rfl) (by kernel_rfl) (by kernel_rfl) (fun _ _ _ h => h) rfl ?_ hHeld ?_
  rotate_left
  · intro w hS; (try dsimp only at hS); obtain hS0 := hS; go_simp; first | done | (with_reducible rfl)
  try simp only [Act.put, ly1, ly2, ly3]
  refine takeH (i := 12) (v := ?_) rfl (by kernel_rfl) (by kernel_rfl) (by kernel_rfl) (fun _ _ _ h => h) rfl ?_ hHeld ?_
  rotate_left
  · intro w hS; (try dsimp only at hS); obtain hS0 := hS; go_simp; first | done | (with_reducible rfl)
  try simp only [Act.put, ly1, ly2, ly3]
  refine takeH (i := 16) (v := ?_) rfl (by kernel_rfl) (by kernel_rfl) (by kernel_rfl) (fun _ _ _ h => h) rfl ?_ hHeld ?_
  rotate_left
  · intro w hS; (try dsimp only at hS); obtain hS0 := hS; go_simp; first | done | (with_reducible rfl)
  try simp only [Act.put, ly1, ly2, ly3]
  refine takeH (i := 17) (v := ?_) rfl (by kernel_rfl) (by kernel_rfl) (by kernel_rfl) (fun _ _ _ h => h) rfl ?_ hHeld ?_
  rotate_left
  · intro w hS; (try dsimp only at hS); obtain hS0 := hS; go_simp; first | done | (with_reducible rfl)
  try simp only [Act.put, ly1, ly2, ly3]
  refine takeH (i := 18) (v := ?_) rfl (by kernel_rfl) (by kernel_rfl) (by kernel_rfl) (fun _ _ _ h => h) rfl ?_ hHeld ?_
  rotate_left
  · intro w hS; (try dsimp only at hS); obtain hS0 := hS; go_simp; first | done | (with_reducible rfl)
  try simp only [Act.put, ly1, ly2, ly3]
  refine takeH (i := 19) (v := ?_) rfl (by kernel_rfl) (by kernel_rfl) (by kernel_rfl) (fun _ _ _ h => h) rfl ?_ hHeld ?_
  rotate_left
  · intro w hS; (try dsimp only at hS); obtain hS0 := hS; go_simp; first | done | (with_reducible rfl)
  try simp only [Act.put, ly1, ly2, ly3]
  refine manyH (rs := [4, 8, 13, 20]) (by kernel_rfl) (by simp) (by intro i hi; simp at hi; rcases hi with rfl | rfl | rfl | rfl <;> decide) (up4 ?_ ?_ ?_ ?_)
  · refine Up.mk rfl rfl (fun K hK => ?_)
    go_simp
    refine hK.out _ _ e6 (fun hHeld => ?_)
    clear hK K
    try simp only [Act.put, ly1, ly2, ly3]
    refine manyH (rs := [8, 13, 20]) (by kernel_rfl) (by simp) (by intro i hi; simp at hi; rcases hi with rfl | rfl | rfl <;> decide) (up3 ?_ ?_ ?_)
    · refine Up.mk rfl rfl (fun K hK => ?_)
      go_simp
      refine hK.out _ _ e6 (fun hHeld => ?_)
      clear hK K
      try simp only [Act.put, ly1, ly2, ly3]
      refine takeH (i := 9) (v := ?_) rfl (by kernel_rfl) (by kernel_rfl) (by kernel_rfl) (fun _ _ _ h => h) rfl ?_ hHeld ?_
      rotate_left
      · intro w hS; (try dsimp only at hS); obtain hS0 := hS; go_simp; first | done | (with_reducible rfl)
      try simp only [Act.put, ly1, ly2, ly3]
      refine manyH (rs := [13, 20]) (by kernel_rfl) (by simp) (by intro i hi; simp at hi; rcases hi with rfl | rfl <;> decide) (up2 ?_ ?_)
      · refine Up.mk rfl rfl (fun K hK => ?_)
        go_simp
        refine hK.out _ _ e6 (fun hHeld => ?_)
        clear hK K
        try simp only [Act.put, ly1, ly2, ly3]
        refine takeH (i := 14) (v := ?_) rfl (by kernel_rfl) (by kernel_rfl) (by kernel_rfl) (fun _ _ _ h => h) rfl ?_ hHeld ?_
        rotate_left
        · intro w hS; (try dsimp only at hS); obtain hS0 := hS; go_simp; first | done | (with_reducible rfl)
        try simp only [Act.put, ly1, ly2, ly3]
        refine takeH (i := 15) (v := ?_) rfl (by kernel_rfl) (by kernel_rfl) (by kernel_rfl) (fun _ _ _ h => h) rfl ?_ hHeld ?_
        rotate_left
        · intro w hS; (try dsimp only at hS); obtain hS0 := hS; go_simp; first | done | (with_reducible rfl)
        try simp only [Act.put, ly1, ly2, ly3]
        refine onlyH (i := 20) rfl (by kernel_rfl) rfl (fun K hK => ?_)
        go_simp
        refine (pick_any _ torn 9 r5 (by omega)).mono ?_
        rintro e wz ⟨rfl, hz⟩
        rw [hz]
        clear hz
        refine hK.out _ _ e6 (fun hHeld => ?_)
        clear hK K
        try simp only [Act.put, ly1, ly2, ly3]
        refine takeH (i := 21) (v := ?_) rfl (by kernel_rfl) (by kernel_rfl) (by kernel_rfl) (fun _ _ _ h => h) rfl ?_ hHeld ?_
        rotate_left
        · intro w hS; (try dsimp only at hS); obtain hS0 := hS; go_simp; first | done | (with_reducible rfl)
        try simp only [Act.put, ly1, ly2, ly3]
        refine onlyH (i := 22) rfl (by kernel_rfl) rfl (fun K hK => ?_)
        go_simp
        rw [← HN2.out, hw2, drew_alloc, ← HW7.out]
        refine hK.out _ _ e7 (fun hHeld => ?_)
        clear hK K
        try simp only [Act.put, ly1, ly2, ly3]
        refine onlyH (i := 23) rfl (by kernel_rfl) rfl (fun K hK => ?_)
        refine wp_append_run (.tmp 234) (.tmp 241) 70 rfl rfl rfl HRUN.out ?_
        refine hK.out _ _ (e8) (fun hHeld => ?_)
        clear hK K
        try simp only [Act.put, ly1, ly2, ly3]
        refine takeH (i := 24) (v := ?_) rfl (by kernel_rfl) (by kernel_rfl) (by kernel_rfl) (fun _ _ _ h => h) rfl ?_ hHeld ?_
        rotate_left
        · intro w hS; (try dsimp only at hS); obtain hS0 := hS; go_simp; first | done | (with_reducible rfl)
        try simp only [Act.put, ly1, ly2, ly3]
        refine takeH (i := 25) (v := ?_) rfl (by kernel_rfl) (by kernel_rfl) (by kernel_rfl) (fun _ _ _ h => h) rfl ?_ hHeld ?_
        rotate_left
        · intro w hS; (try dsimp only at hS); obtain hS0 := hS; go_simp; first | done | (with_reducible rfl)
        try simp only [Act.put, ly1, ly2, ly3]
        refine onlyH (i := 26) rfl (by kernel_rfl) rfl (fun K hK => ?_)
        go_simp
        rw [← HW9.out]
        refine hK.out _ _ (e9) (fun hHeld => ?_)
        clear hK K
        try simp only [Act.put, ly1, ly2, ly3]
        refine wpAnyH_done (by kernel_rfl) ?_ _
        clear hHeld
        go_wp2
        go_ret3
        exact ⟨d, r, _, rfl, HT.out, by omega, HB9.out⟩
      · refine Up.mk rfl rfl (fun K hK => ?_)
        go_simp
        refine (pick_any _ torn 9 r5 (by omega)).mono ?_
        rintro e wz ⟨rfl, hz⟩
        rw [hz]
        clear hz
        refine hK.out _ _ e6 (fun hHeld => ?_)
        clear hK K
        try simp only [Act.put, ly1, ly2, ly3]
        refine takeH (i := 21) (v := ?_) rfl (by kernel_rfl) (by kernel_rfl) (by kernel_rfl) (fun _ _ _ h => h) rfl ?_ hHeld ?_
        rotate_left
        · intro w hS; (try dsimp only at hS); obtain hS0 := hS; go_simp; first | done | (with_reducible rfl)
        try simp only [Act.put, ly1, ly2, ly3]
        refine manyH (rs := [13, 22]) (by kernel_rfl) (by simp) (by intro i hi; simp at hi; rcases hi with rfl | rfl <;> decide) (up2 ?_ ?_)
        · refine Up.mk rfl rfl (fun K hK => ?_)
          go_simp
          refine hK.out _ _ e6 (fun hHeld => ?_)
          clear hK K
          try simp only [Act.put, ly1, ly2, ly3]
          refine takeH (i := 14) (v := ?_) rfl (by kernel_rfl) (by kernel_rfl) (by kernel_rfl) (fun _ _ _ h => h) rfl ?_ hHeld ?_
          rotate_left
          · intro w hS; (try dsimp only at hS); obtain hS0 := hS; go_simp; first | done | (with_reducible rfl)
          try simp only [Act.put, ly1, ly2, ly3]
          refine takeH (i := 15) (v := ?_) rfl (by kernel_rfl) (by kernel_rfl) (by kernel_rfl) (fun _ _ _ h => h) rfl ?_ hHeld ?_
          rotate_left
          · intro w hS; (try dsimp only at hS); obtain hS0 := hS; go_simp; first | done | (with_reducible rfl)
          try simp only [Act.put, ly1, ly2, ly3]
          refine onlyH (i := 22) rfl (by kernel_rfl) rfl (fun K hK => ?_)
          go_simp
          rw [← HN2.out, hw2, drew_alloc, ← HW7.out]
          refine hK.out _ _ e7 (fun hHeld => ?_)
          clear hK K
          try simp only [Act.put, ly1, ly2, ly3]
          refine onlyH (i := 23) rfl (by kernel_rfl) rfl (fun K hK => ?_)
          refine wp_append_run (.tmp 234) (.tmp 241) 70 rfl rfl rfl HRUN.out ?_
          refine hK.out _ _ (e8) (fun hHeld => ?_)
          clear hK K
          try simp only [Act.put, ly1, ly2, ly3]
          refine takeH (i := 24) (v := ?_) rfl (by kernel_rfl) (by kernel_rfl) (by kernel_rfl) (fun _ _ _ h => h) rfl ?_ hHeld ?_
          rotate_left
          · intro w hS; (try dsimp only at hS); obtain hS0 := hS; go_simp; first | done | (with_reducible rfl)
          try simp only [Act.put, ly1, ly2, ly3]
          refine takeH (i := 25) (v := ?_) rfl (by kernel_rfl) (by kernel_rfl) (by kernel_rfl) (fun _ _ _ h => h) rfl ?_ hHeld ?_
          rotate_left
          · intro w hS; (try dsimp only at hS); obtain hS0 := hS; go_simp; first | done | (with_reducible rfl)
          try simp only [Act.put, ly1, ly2, ly3]
          refine onlyH (i := 26) rfl (by kernel_rfl) rfl (fun K hK => ?_)
          go_simp
          rw [← HW9.out]
          refine hK.out _ _ (e9) (fun hHeld => ?_)
          clear hK K
          try simp only [Act.put, ly1, ly2, ly3]
          refine wpAnyH_done (by kernel_rfl) ?_ _
          clear hHeld
          go_wp2
          go_ret3
          exact ⟨d, r, _, rfl, HT.out, by omega, HB9.out⟩
        · refine Up.mk rfl rfl (fun K hK => ?_)
          go_simp
          rw [← HN2.out, hw2, drew_alloc, ← HW7.out]
          refine hK.out _ _ e7 (fun hHeld => ?_)
          clear hK K
          try simp only [Act.put, ly1, ly2, ly3]
          refine onlyH (i := 13) rfl (by kernel_rfl) rfl (fun K hK => ?_)
          go_simp
          refine hK.out _ _ e7 (fun hHeld => ?_)
          clear hK K
          try simp only [Act.put, ly1, ly2, ly3]
          refine takeH (i := 14) (v := ?_) rfl (by kernel_rfl) (by kernel_rfl) (by kernel_rfl) (fun _ _ _ h => h) rfl ?_ hHeld ?_
          rotate_left
          · intro w hS; (try dsimp only at hS); obtain hS0 := hS; go_simp; first | done | (with_reducible rfl)
          try simp only [Act.put, ly1, ly2, ly3]
          refine takeH (i := 15) (v := ?_) rfl (by kernel_rfl) (by kernel_rfl) (by kernel_rfl) (fun _ _ _ h => h) rfl ?_ hHeld ?_
          rotate_left
          · intro w hS; (try dsimp only at hS); obtain hS0 := hS; go_simp; first | done | (with_reducible rfl)
          try simp only [Act.put, ly1, ly2, ly3]
          refine onlyH (i := 23) rfl (by kernel_rfl) rfl (fun K hK => ?_)
          refine wp_append_run (.tmp 234) (.tmp 241) 70 rfl rfl rfl HRUN.out ?_
          refine hK.out _ _ (e8) (fun hHeld => ?_)
          clear hK K
          try simp only [Act.put, ly1, ly2, ly3]
          refine takeH (i := 24) (v := ?_) rfl (by kernel_rfl) (by kernel_rfl) (by kernel_rfl) (fun _ _ _ h => h) rfl ?_ hHeld ?_
          rotate_left
          · intro w hS; (try dsimp only at hS); obtain hS0 := hS; go_simp; first | done | (with_reducible rfl)
          try simp only [Act.put, ly1, ly2, ly3]
          refine takeH (i := 25) (v := ?_) rfl (by kernel_rfl) (by kernel_rfl) (by kernel_rfl) (fun _ _ _ h => h) rfl ?_ hHeld ?_
          rotate_left
          · intro w hS; (try dsimp only at hS); obtain hS0 := hS; go_simp; first | done | (with_reducible rfl)
          try simp only [Act.put, ly1, ly2, ly3]
          refine onlyH (i := 26) rfl (by kernel_rfl) rfl (fun K hK => ?_)
          go_simp
          rw [← HW9.out]
          refine hK.out _ _ (e9) (fun hHeld => ?_)
          clear hK K
          try simp only [Act.put, ly1, ly2, ly3]
          refine wpAnyH_done (by kernel_rfl) ?_ _
          clear hHeld
          go_wp2
          go_ret3
          exact ⟨d, r, _, rfl, HT.out, by omega, HB9.out⟩
    · refine Up.mk rfl rfl (fun K hK => ?_)
      go_simp
      refine hK.out _ _ e6 (fun hHeld => ?_)
      clear hK K
      try simp only [Act.put, ly1, ly2, ly3]
      refine takeH (i := 14) (v := ?_) rfl (by kernel_rfl) (by kernel_rfl) (by kernel_rfl) (fun _ _ _ h => h) rfl ?_ hHeld ?_
      rotate_left
      · intro w hS; (try dsimp only at hS); obtain hS0 := hS; go_simp; first | done | (with_reducible rfl)
      try simp only [Act.put, ly1, ly2, ly3]
      refine manyH (rs := [8, 20]) (by kernel_rfl) (by simp) (by intro i hi; simp at hi; rcases hi with rfl | rfl <;> decide) (up2 ?_ ?_)
      · refine Up.mk rfl rfl (fun K hK => ?_)
        go_simp
        refine hK.out _ _ e6 (fun hHeld => ?_)
        clear hK K
        try simp only [Act.put, ly1, ly2, ly3]
        refine takeH (i := 9) (v := ?_) rfl (by kernel_rfl) (by kernel_rfl) (by kernel_rfl) (fun _ _ _ h => h) rfl ?_ hHeld ?_
        rotate_left
        · intro w hS; (try dsimp only at hS); obtain hS0 := hS; go_simp; first | done | (with_reducible rfl)
        try simp only [Act.put, ly1, ly2, ly3]
        refine takeH (i := 15) (v := ?_) rfl (by kernel_rfl) (by kernel_rfl) (by kernel_rfl) (fun _ _ _ h => h) rfl ?_ hHeld ?_
        rotate_left
        · intro w hS; (try dsimp only at hS); obtain hS0 := hS; go_simp; first | done | (with_reducible rfl)
        try simp only [Act.put, ly1, ly2, ly3]
        refine onlyH (i := 20) rfl (by kernel_rfl) rfl (fun K hK => ?_)
        go_simp
        refine (pick_any _ torn 9 r5 (by omega)).mono ?_
        rintro e wz ⟨rfl, hz⟩
        rw [hz]
        clear hz
        refine hK.out _ _ e6 (fun hHeld => ?_)
        clear hK K
        try simp only [Act.put, ly1, ly2, ly3]
        refine takeH (i := 21) (v := ?_) rfl (by kernel_rfl) (by kernel_rfl) (by kernel_rfl) (fun _ _ _ h => h) rfl ?_ hHeld ?_
        rotate_left
        · intro w hS; (try dsimp only at hS); obtain hS0 := hS; go_simp; first | done | (with_reducible rfl)
        try simp only [Act.put, ly1, ly2, ly3]
        refine onlyH (i := 22) rfl (by kernel_rfl) rfl (fun K hK => ?_)
        go_simp
        rw [← HN2.out, hw2, drew_alloc, ← HW7.out]
        refine hK.out _ _ e7 (fun hHeld => ?_)
        clear hK K
        try simp only [Act.put, ly1, ly2, ly3]
        refine onlyH (i := 23) rfl (by kernel_rfl) rfl (fun K hK => ?_)
        refine wp_append_run (.tmp 234) (.tmp 241) 70 rfl rfl rfl HRUN.out ?_
        refine hK.out _ _ (e8) (fun hHeld => ?_)
        clear hK K
        try simp only [Act.put, ly1, ly2, ly3]
        refine takeH (i := 24) (v := ?_) rfl (by kernel_rfl) (by kernel_rfl) (by kernel_rfl) (fun _ _ _ h => h) rfl ?_ hHeld ?_
        rotate_left
        · intro w hS; (try dsimp only at hS); obtain hS0 := hS; go_simp; first | done | (with_reducible rfl)
        try simp only [Act.put, ly1, ly2, ly3]
        refine takeH (i := 25) (v := ?_) rfl (by kernel_rfl) (by kernel_rfl) (by kernel_rfl) (fun _ _ _ h => h) rfl ?_ hHeld ?_
        rotate_left
        · intro w hS; (try dsimp only at hS); obtain hS0 := hS; go_simp; first | done | (with_reducible rfl)
        try simp only [Act.put, ly1, ly2, ly3]
        refine onlyH (i := 26) rfl (by kernel_rfl) rfl (fun K hK => ?_)
        go_simp
        rw [← HW9.out]
        refine hK.out _ _ (e9) (fun hHeld => ?_)
        clear hK K
        try simp only [Act.put, ly1, ly2, ly3]
        refine wpAnyH_done (by kernel_rfl) ?_ _
        clear hHeld
        go_wp2
        go_ret3
        exact ⟨d, r, _, rfl, HT.out, by omega, HB9.out⟩
      · refine Up.mk rfl rfl (fun K hK => ?_)
        go_simp
        refine (pick_any _ torn 9 r5 (by omega)).mono ?_
        rintro e wz ⟨rfl, hz⟩
        rw [hz]
        clear hz
        refine hK.out _ _ e6 (fun hHeld => ?_)
        clear hK K
        try simp only [Act.put, ly1, ly2, ly3]
        refine takeH (i := 21) (v := ?_) rfl (by kernel_rfl) (by kernel_rfl) (by kernel_rfl) (fun _ _ _ h => h) rfl ?_ hHeld ?_
        rotate_left
        · intro w hS; (try dsimp only at hS); obtain hS0 := hS; go_simp; first | done | (with_reducible rfl)
        try simp only [Act.put, ly1, ly2, ly3]
        refine manyH (rs := [8, 22]) (by kernel_rfl) (by simp) (by intro i hi; simp at hi; rcases hi with rfl | rfl <;> decide) (up2 ?_ ?_)
        · refine Up.mk rfl rfl (fun K hK => ?_)
          go_simp
          refine hK.out _ _ e6 (fun hHeld => ?_)
          clear hK K
          try simp only [Act.put, ly1, ly2, ly3]
          refine takeH (i := 9) (v := ?_) rfl (by kernel_rfl) (by kernel_rfl) (by kernel_rfl) (fun _ _ _ h => h) rfl ?_ hHeld ?_
          rotate_left
          · intro w hS; (try dsimp only at hS); obtain hS0 := hS; go_simp; first | done | (with_reducible rfl)
          try simp only [Act.put, ly1, ly2, ly3]
          refine takeH (i := 15) (v := ?_) rfl (by kernel_rfl) (by kernel_rfl) (by kernel_rfl) (fun _ _ _ h => h) rfl ?_ hHeld ?_
          rotate_left
          · intro w hS; (try dsimp only at hS); obtain hS0 := hS; go_simp; first | done | (with_reducible rfl)
          try simp only [Act.put, ly1, ly2, ly3]
          refine onlyH (i := 22) rfl (by kernel_rfl) rfl (fun K hK => ?_)
          go_simp
          rw [← HN2.out, hw2, drew_alloc, ← HW7.out]
          refine hK.out _ _ e7 (fun hHeld => ?_)
          clear hK K
          try simp only [Act.put, ly1, ly2, ly3]
          refine onlyH (i := 23) rfl (by kernel_rfl) rfl (fun K hK => ?_)
          refine wp_append_run (.tmp 234) (.tmp 241) 70 rfl rfl rfl HRUN.out ?_
          refine hK.out _ _ (e8) (fun hHeld => ?_)
          clear hK K
          try simp only [Act.put, ly1, ly2, ly3]
          refine takeH (i := 24) (v := ?_) rfl (by kernel_rfl) (by kernel_rfl) (by kernel_rfl) (fun _ _ _ h => h) rfl ?_ hHeld ?_
          rotate_left
          · intro w hS; (try dsimp only at hS); obtain hS0 := hS; go_simp; first | done | (with_reducible rfl)
          try simp only [Act.put, ly1, ly2, ly3]
          refine takeH (i := 25) (v := ?_) rfl (by kernel_rfl) (by kernel_rfl) (by kernel_rfl) (fun _ _ _ h => h) rfl ?_ hHeld ?_
          rotate_left
          · intro w hS; (try dsimp only at hS); obtain hS0 := hS; go_simp; first | done | (with_reducible rfl)
          try simp only [Act.put, ly1, ly2, ly3]
          refine onlyH (i := 26) rfl (by kernel_rfl) rfl (fun K hK => ?_)
          go_simp
          rw [← HW9.out]
          refine hK.out _ _ (e9) (fun hHeld => ?_)
          clear hK K
          try simp only [Act.put, ly1, ly2, ly3]
          refine wpAnyH_done (by kernel_rfl) ?_ _
          clear hHeld
          go_wp2
          go_ret3
          exact ⟨d, r, _, rfl, HT.out, by omega, HB9.out⟩
        · refine Up.mk rfl rfl (fun K hK => ?_)
          go_simp
          rw [← HN2.out, hw2, drew_alloc, ← HW7.out]
          refine hK.out _ _ e7 (fun hHeld => ?_)
          clear hK K
          try simp only [Act.put, ly1, ly2, ly3]
          refine onlyH (i := 8) rfl (by kernel_rfl) rfl (fun K hK => ?_)
          go_simp
          refine hK.out _ _ e7 (fun hHeld => ?_)
          clear hK K
          try simp only [Act.put, ly1, ly2, ly3]
          refine takeH (i := 9) (v := ?_) rfl (by kernel_rfl) (by kernel_rfl) (by kernel_rfl) (fun _ _ _ h => h) rfl ?_ hHeld ?_
          rotate_left
          · intro w hS; (try dsimp only at hS); obtain hS0 := hS; go_simp; first | done | (with_reducible rfl)
          try simp only [Act.put, ly1, ly2, ly3]
          refine takeH (i := 15) (v := ?_) rfl (by kernel_rfl) (by kernel_rfl) (by kernel_rfl) (fun _ _ _ h => h) rfl ?_ hHeld ?_
          rotate_left
          · intro w hS; (try dsimp only at hS); obtain hS0 := hS; go_simp; first | done | (with_reducible rfl)
          try simp only [Act.put, ly1, ly2, ly3]
          refine onlyH (i := 23) rfl (by kernel_rfl) rfl (fun K hK => ?_)
          refine wp_append_run (.tmp 234) (.tmp 241) 70 rfl rfl rfl HRUN.out ?_
          refine hK.out _ _ (e8) (fun hHeld => ?_)
          clear hK K
          try simp only [Act.put, ly1, ly2, ly3]
          refine takeH (i := 24) (v := ?_) rfl (by kernel_rfl) (by kernel_rfl) (by kernel_rfl) (fun _ _ _ h => h) rfl ?_ hHeld ?_
          rotate_left
          · intro w hS; (try dsimp only at hS); obtain hS0 := hS; go_simp; first | done | (with_reducible rfl)
          try simp only [Act.put, ly1, ly2, ly3]
          refine takeH (i := 25) (v := ?_) rfl (by kernel_rfl) (by kernel_rfl) (by kernel_rfl) (fun _ _ _ h => h) rfl ?_ hHeld ?_
          rotate_left
          · intro w hS; (try dsimp only at hS); obtain hS0 := hS; go_simp; first | done | (with_reducible rfl)
          try simp only [Act.put, ly1, ly2, ly3]
          refine onlyH (i := 26) rfl (by kernel_rfl) rfl (fun K hK => ?_)
          go_simp
          rw [← HW9.out]
          refine hK.out _ _ (e9) (fun hHeld => ?_)
          clear hK K
          try simp only [Act.put, ly1, ly2, ly3]
          refine wpAnyH_done (by kernel_rfl) ?_ _
          clear hHeld
          go_wp2
          go_ret3
          exact ⟨d, r, _, rfl, HT.out, by omega, HB9.out⟩
    · refine Up.mk rfl rfl (fun K hK => ?_)
      go_simp
      refine (pick_any _ torn 9 r5 (by omega)).mono ?_
      rintro e wz ⟨rfl, hz⟩
      rw [hz]
      clear hz
      refine hK.out _ _ e6 (fun hHeld => ?_)
      clear hK K
      try simp only [Act.put, ly1, ly2, ly3]
      refine takeH (i := 21) (v := ?_) rfl (by kernel_rfl) (by kernel_rfl) (by kernel_rfl) (fun _ _ _ h => h) rfl ?_ hHeld ?_
      rotate_left
      · intro w hS; (try dsimp only at hS); obtain hS0 := hS; go_simp; first | done | (with_reducible rfl)
      try simp only [Act.put, ly1, ly2, ly3]
      refine manyH (rs := [8, 13, 22]) (by kernel_rfl) (by simp) (by intro i hi; simp at hi; rcases hi with rfl | rfl | rfl <;> decide) (up3 ?_ ?_ ?_)
      · refine Up.mk rfl rfl (fun K hK => ?_)
        go_simp
        refine hK.out _ _ e6 (fun hHeld => ?_)
        clear hK K
        try simp only [Act.put, ly1, ly2, ly3]
        refine takeH (i := 9) (v := ?_) rfl (by kernel_rfl) (by kernel_rfl) (by kernel_rfl) (fun _ _ _ h => h) rfl ?_ hHeld ?_
        rotate_left
        · intro w hS; (try dsimp only at hS); obtain hS0 := hS; go_simp; first | done | (with_reducible rfl)
        try simp only [Act.put, ly1, ly2, ly3]
        refine manyH (rs := [13, 22]) (by kernel_rfl) (by simp) (by intro i hi; simp at hi; rcases hi with rfl | rfl <;> decide) (up2 ?_ ?_)
        · refine Up.mk rfl rfl (fun K hK => ?_)
          go_simp
          refine hK.out _ _ e6 (fun hHeld => ?_)
          clear hK K
          try simp only [Act.put, ly1, ly2, ly3]
          refine takeH (i := 14) (v := ?_) rfl (by kernel_rfl) (by kernel_rfl) (by kernel_rfl) (fun _ _ _ h => h) rfl ?_ hHeld ?_
          rotate_left
          · intro w hS; (try dsimp only at hS); obtain hS0 := hS; go_simp; first | done | (with_reducible rfl)
          try simp only [Act.put, ly1, ly2, ly3]
          refine takeH (i := 15) (v := ?_) rfl (by kernel_rfl) (by kernel_rfl) (by kernel_rfl) (fun _ _ _ h => h) rfl ?_ hHeld ?_
          rotate_left
          · intro w hS; (try dsimp only at hS); obtain hS0 := hS; go_simp; first | done | (with_reducible rfl)
          try simp only [Act.put, ly1, ly2, ly3]
          refine onlyH (i := 22) rfl (by kernel_rfl) rfl (fun K hK => ?_)
          go_simp
          rw [← HN2.out, hw2, drew_alloc, ← HW7.out]
          refine hK.out _ _ e7 (fun hHeld => ?_)
          clear hK K
          try simp only [Act.put, ly1, ly2, ly3]
          refine onlyH (i := 23) rfl (by kernel_rfl) rfl (fun K hK => ?_)
          refine wp_append_run (.tmp 234) (.tmp 241) 70 rfl rfl rfl HRUN.out ?_
          refine hK.out _ _ (e8) (fun hHeld => ?_)
          clear hK K
          try simp only [Act.put, ly1, ly2, ly3]
          refine takeH (i := 24) (v := ?_) rfl (by kernel_rfl) (by kernel_rfl) (by kernel_rfl) (fun _ _ _ h => h) rfl ?_ hHeld ?_
          rotate_left
          · intro w hS; (try dsimp only at hS); obtain hS0 := hS; go_simp; first | done | (with_reducible rfl)
          try simp only [Act.put, ly1, ly2, ly3]
          refine takeH (i := 25) (v := ?_) rfl (by kernel_rfl) (by kernel_rfl) (by kernel_rfl) (fun _ _ _ h => h) rfl ?_ hHeld ?_
          rotate_left
          · intro w hS; (try dsimp only at hS); obtain hS0 := hS; go_simp; first | done | (with_reducible rfl)
          try simp only [Act.put, ly1, ly2, ly3]
          refine onlyH (i := 26) rfl (by kernel_rfl) rfl (fun K hK => ?_)
          go_simp
          rw [← HW9.out]
          refine hK.out _ _ (e9) (fun hHeld => ?_)
          clear hK K
          try simp only [Act.put, ly1, ly2, ly3]
          refine wpAnyH_done (by kernel_rfl) ?_ _
          clear hHeld
          go_wp2
          go_ret3
          exact ⟨d, r, _, rfl, HT.out, by omega, HB9.out⟩
        · refine Up.mk rfl rfl (fun K hK => ?_)
          go_simp
          rw [← HN2.out, hw2, drew_alloc, ← HW7.out]
          refine hK.out _ _ e7 (fun hHeld => ?_)
          clear hK K
          try simp only [Act.put, ly1, ly2, ly3]
          refine onlyH (i := 13) rfl (by kernel_rfl) rfl (fun K hK => ?_)
          go_simp
          refine hK.out _ _ e7 (fun hHeld => ?_)
          clear hK K
          try simp only [Act.put, ly1, ly2, ly3]
          refine takeH (i := 14) (v := ?_) rfl (by kernel_rfl) (by kernel_rfl) (by kernel_rfl) (fun _ _ _ h => h) rfl ?_ hHeld ?_
          rotate_left
          · intro w hS; (try dsimp only at hS); obtain hS0 := hS; go_simp; first | done | (with_reducible rfl)
          try simp only [Act.put, ly1, ly2, ly3]
          refine takeH (i := 15) (v := ?_) rfl (by kernel_rfl) (by kernel_rfl) (by kernel_rfl) (fun _ _ _ h => h) rfl ?_ hHeld ?_
          rotate_left
          · intro w hS; (try dsimp only at hS); obtain hS0 := hS; go_simp; first | done | (with_reducible rfl)
          try simp only [Act.put, ly1, ly2, ly3]
          refine onlyH (i := 23) rfl (by kernel_rfl) rfl (fun K hK => ?_)
          refine wp_append_run (.tmp 234) (.tmp 241) 70 rfl rfl rfl HRUN.out ?_
          refine hK.out _ _ (e8) (fun hHeld => ?_)
          clear hK K
          try simp only [Act.put, ly1, ly2, ly3]
          refine takeH (i := 24) (v := ?_) rfl (by kernel_rfl) (by kernel_rfl) (by kernel_rfl) (fun _ _ _ h => h) rfl ?_ hHeld ?_
          rotate_left
          · intro w hS; (try dsimp only at hS); obtain hS0 := hS; go_simp; first | done | (with_reducible rfl)
          try simp only [Act.put, ly1, ly2, ly3]
          refine takeH (i := 25) (v := ?_) rfl (by kernel_rfl) (by kernel_rfl) (by kernel_rfl) (fun _ _ _ h => h) rfl ?_ hHeld ?_
          rotate_left
          · intro w hS; (try dsimp only at hS); obtain hS0 := hS; go_simp; first | done | (with_reducible rfl)
          try simp only [Act.put, ly1, ly2, ly3]
          refine onlyH (i := 26) rfl (by kernel_rfl) rfl (fun K hK => ?_)
          go_simp
          rw [← HW9.out]
          refine hK.out _ _ (e9) (fun hHeld => ?_)
          clear hK K
          try simp only [Act.put, ly1, ly2, ly3]
          refine wpAnyH_done (by kernel_rfl) ?_ _
          clear hHeld
          go_wp2
          go_ret3
          exact ⟨d, r, _, rfl, HT.out, by omega, HB9.out⟩
      · refine Up.mk rfl rfl (fun K hK => ?_)
        go_simp
        refine hK.out _ _ e6 (fun hHeld => ?_)
        clear hK K
        try simp only [Act.put, ly1, ly2, ly3]
        refine takeH (i := 14) (v := ?_) rfl (by kernel_rfl) (by kernel_rfl) (by kernel_rfl) (fun _ _ _ h => h) rfl ?_ hHeld ?_
        rotate_left
        · intro w hS; (try dsimp only at hS); obtain hS0 := hS; go_simp; first | done | (with_reducible rfl)
        try simp only [Act.put, ly1, ly2, ly3]
        refine manyH (rs := [8, 22]) (by kernel_rfl) (by simp) (by intro i hi; simp at hi; rcases hi with rfl | rfl <;> decide) (up2 ?_ ?_)
        · refine Up.mk rfl rfl (fun K hK => ?_)
          go_simp
          refine hK.out _ _ e6 (fun hHeld => ?_)
          clear hK K
          try simp only [Act.put, ly1, ly2, ly3]
          refine takeH (i := 9) (v := ?_) rfl (by kernel_rfl) (by kernel_rfl) (by kernel_rfl) (fun _ _ _ h => h) rfl ?_ hHeld ?_
          rotate_left
          · intro w hS; (try dsimp only at hS); obtain hS0 := hS; go_simp; first | done | (with_reducible rfl)
          try simp only [Act.put, ly1, ly2, ly3]
          refine takeH (i := 15) (v := ?_) rfl (by kernel_rfl) (by kernel_rfl) (by kernel_rfl) (fun _ _ _ h => h) rfl ?_ hHeld ?_
          rotate_left
          · intro w hS; (try dsimp only at hS); obtain hS0 := hS; go_simp; first | done | (with_reducible rfl)
          try simp only [Act.put, ly1, ly2, ly3]
          refine onlyH (i := 22) rfl (by kernel_rfl) rfl (fun K hK => ?_)
          go_simp
          rw [← HN2.out, hw2, drew_alloc, ← HW7.out]
          refine hK.out _ _ e7 (fun hHeld => ?_)
          clear hK K
          try simp only [Act.put, ly1, ly2, ly3]
          refine onlyH (i := 23) rfl (by kernel_rfl) rfl (fun K hK => ?_)
          refine wp_append_run (.tmp 234) (.tmp 241) 70 rfl rfl rfl HRUN.out ?_
          refine hK.out _ _ (e8) (fun hHeld => ?_)
          clear hK K
          try simp only [Act.put, ly1, ly2, ly3]
          refine takeH (i := 24) (v := ?_) rfl (by kernel_rfl) (by kernel_rfl) (by kernel_rfl) (fun _ _ _ h => h) rfl ?_ hHeld ?_
          rotate_left
          · intro w hS; (try dsimp only at hS); obtain hS0 := hS; go_simp; first | done | (with_reducible rfl)
          try simp only [Act.put, ly1, ly2, ly3]
          refine takeH (i := 25) (v := ?_) rfl (by kernel_rfl) (by kernel_rfl) (by kernel_rfl) (fun _ _ _ h => h) rfl ?_ hHeld ?_
          rotate_left
          · intro w hS; (try dsimp only at hS); obtain hS0 := hS; go_simp; first | done | (with_reducible rfl)
          try simp only [Act.put, ly1, ly2, ly3]
          refine onlyH (i := 26) rfl (by kernel_rfl) rfl (fun K hK => ?_)
          go_simp
          rw [← HW9.out]
          refine hK.out _ _ (e9) (fun hHeld => ?_)
          clear hK K
          try simp only [Act.put, ly1, ly2, ly3]
          refine wpAnyH_done (by kernel_rfl) ?_ _
          clear hHeld
          go_wp2
          go_ret3
          exact ⟨d, r, _, rfl, HT.out, by omega, HB9.out⟩
        · refine Up.mk rfl rfl (fun K hK => ?_)
          go_simp
          rw [← HN2.out, hw2, drew_alloc, ← HW7.out]
          refine hK.out _ _ e7 (fun hHeld => ?_)
          clear hK K
          try simp only [Act.put, ly1, ly2, ly3]
          refine onlyH (i := 8) rfl (by kernel_rfl) rfl (fun K hK => ?_)
          go_simp
          refine hK.out _ _ e7 (fun hHeld => ?_)
          clear hK K
          try simp only [Act.put, ly1, ly2, ly3]
          refine takeH (i := 9) (v := ?_) rfl (by kernel_rfl) (by kernel_rfl) (by kernel_rfl) (fun _ _ _ h => h) rfl ?_ hHeld ?_
          rotate_left
          · intro w hS; (try dsimp only at hS); obtain hS0 := hS; go_simp; first | done | (with_reducible rfl)
          try simp only [Act.put, ly1, ly2, ly3]
          refine takeH (i := 15) (v := ?_) rfl (by kernel_rfl) (by kernel_rfl) (by kernel_rfl) (fun _ _ _ h => h) rfl ?_ hHeld ?_
          rotate_left
          · intro w hS; (try dsimp only at hS); obtain hS0 := hS; go_simp; first | done | (with_reducible rfl)
          try simp only [Act.put, ly1, ly2, ly3]
          refine onlyH (i := 23) rfl (by kernel_rfl) rfl (fun K hK => ?_)
          refine wp_append_run (.tmp 234) (.tmp 241) 70 rfl rfl rfl HRUN.out ?_
          refine hK.out _ _ (e8) (fun hHeld => ?_)
          clear hK K
          try simp only [Act.put, ly1, ly2, ly3]
          refine takeH (i := 24) (v := ?_) rfl (by kernel_rfl) (by kernel_rfl) (by kernel_rfl) (fun _ _ _ h => h) rfl ?_ hHeld ?_
          rotate_left
          · intro w hS; (try dsimp only at hS); obtain hS0 := hS; go_simp; first | done | (with_reducible rfl)
          try simp only [Act.put, ly1, ly2, ly3]
          refine takeH (i := 25) (v := ?_) rfl (by kernel_rfl) (by kernel_rfl) (by kernel_rfl) (fun _ _ _ h => h) rfl ?_ hHeld ?_
          rotate_left
          · intro w hS; (try dsimp only at hS); obtain hS0 := hS; go_simp; first | done | (with_reducible rfl)
          try simp only [Act.put, ly1, ly2, ly3]
          refine onlyH (i := 26) rfl (by kernel_rfl) rfl (fun K hK => ?_)
          go_simp
          rw [← HW9.out]
          refine hK.out _ _ (e9) (fun hHeld => ?_)
          clear hK K
          try simp only [Act.put, ly1, ly2, ly3]
          refine wpAnyH_done (by kernel_rfl) ?_ _
          clear hHeld
          go_wp2
          go_ret3
          exact ⟨d, r, _, rfl, HT.out, by omega, HB9.out⟩
      · refine Up.mk rfl rfl (fun K hK => ?_)
        go_simp
        rw [← HN2.out, hw2, drew_alloc, ← HW7.out]
        refine hK.out _ _ e7 (fun hHeld => ?_)
        clear hK K
        try simp only [Act.put, ly1, ly2, ly3]
        refine manyH (rs := [8, 13]) (by kernel_rfl) (by simp) (by intro i hi; simp at hi; rcases hi with rfl | rfl <;> decide) (up2 ?_ ?_)
        · refine Up.mk rfl rfl (fun K hK => ?_)
          go_simp
          refine hK.out _ _ e7 (fun hHeld => ?_)
          clear hK K
          try simp only [Act.put, ly1, ly2, ly3]
          refine takeH (i := 9) (v := ?_) rfl (by kernel_rfl) (by kernel_rfl) (by kernel_rfl) (fun _ _ _ h => h) rfl ?_ hHeld ?_
          rotate_left
          · intro w hS; (try dsimp only at hS); obtain hS0 := hS; go_simp; first | done | (with_reducible rfl)
          try simp only [Act.put, ly1, ly2, ly3]
          refine onlyH (i := 13) rfl (by kernel_rfl) rfl (fun K hK => ?_)
          go_simp
          refine hK.out _ _ e7 (fun hHeld => ?_)
          clear hK K
          try simp only [Act.put, ly1, ly2, ly3]
          refine takeH (i := 14) (v := ?_) rfl (by kernel_rfl) (by kernel_rfl) (by kernel_rfl) (fun _ _ _ h => h) rfl ?_ hHeld ?_
          rotate_left
          · intro w hS; (try dsimp only at hS); obtain hS0 := hS; go_simp; first | done | (with_reducible rfl)
          try simp only [Act.put, ly1, ly2, ly3]
          refine takeH (i := 15) (v := ?_) rfl (by kernel_rfl) (by kernel_rfl) (by kernel_rfl) (fun _ _ _ h => h) rfl ?_ hHeld ?_
          rotate_left
          · intro w hS; (try dsimp only at hS); obtain hS0 := hS; go_simp; first | done | (with_reducible rfl)
          try simp only [Act.put, ly1, ly2, ly3]
          refine onlyH (i := 23) rfl (by kernel_rfl) rfl (fun K hK => ?_)
          refine wp_append_run (.tmp 234) (.tmp 241) 70 rfl rfl rfl HRUN.out ?_
          refine hK.out _ _ (e8) (fun hHeld => ?_)
          clear hK K
          try simp only [Act.put, ly1, ly2, ly3]
          refine takeH (i := 24) (v := ?_) rfl (by kernel_rfl) (by kernel_rfl) (by kernel_rfl) (fun _ _ _ h => h) rfl ?_ hHeld ?_
          rotate_left
          · intro w hS; (try dsimp only at hS); obtain hS0 := hS; go_simp; first | done | (with_reducible rfl)
          try simp only [Act.put, ly1, ly2, ly3]
          refine takeH (i := 25) (v := ?_) rfl (by kernel_rfl) (by kernel_rfl) (by kernel_rfl) (fun _ _ _ h => h) rfl ?_ hHeld ?_
          rotate_left
          · intro w hS; (try dsimp only at hS); obtain hS0 := hS; go_simp; first | done | (with_reducible rfl)
          try simp only [Act.put, ly1, ly2, ly3]
          refine onlyH (i := 26) rfl (by kernel_rfl) rfl (fun K hK => ?_)
          go_simp
          rw [← HW9.out]
          refine hK.out _ _ (e9) (fun hHeld => ?_)
          clear hK K
          try simp only [Act.put, ly1, ly2, ly3]
          refine wpAnyH_done (by kernel_rfl) ?_ _
          clear hHeld
          go_wp2
          go_ret3
          exact ⟨d, r, _, rfl, HT.out, by omega, HB9.out⟩
        · refine Up.mk rfl rfl (fun K hK => ?_)
          go_simp
          refine hK.out _ _ e7 (fun hHeld => ?_)
          clear hK K
          try simp only [Act.put, ly1, ly2, ly3]
          refine takeH (i := 14) (v := ?_) rfl (by kernel_rfl) (by kernel_rfl) (by kernel_rfl) (fun _ _ _ h => h) rfl ?_ hHeld ?_
          rotate_left
          · intro w hS; (try dsimp only at hS); obtain hS0 := hS; go_simp; first | done | (with_reducible rfl)
          try simp only [Act.put, ly1, ly2, ly3]
          refine onlyH (i := 8) rfl (by kernel_rfl) rfl (fun K hK => ?_)
          go_simp
          refine hK.out _ _ e7 (fun hHeld => ?_)
          clear hK K
          try simp only [Act.put, ly1, ly2, ly3]
          refine takeH (i := 9) (v := ?_) rfl (by kernel_rfl) (by kernel_rfl) (by kernel_rfl) (fun _ _ _ h => h) rfl ?_ hHeld ?_
          rotate_left
          · intro w hS; (try dsimp only at hS); obtain hS0 := hS; go_simp; first | done | (with_reducible rfl)
          try simp only [Act.put, ly1, ly2, ly3]
          refine takeH (i := 15) (v := ?_) rfl (by kernel_rfl) (by kernel_rfl) (by kernel_rfl) (fun _ _ _ h => h) rfl ?_ hHeld ?_
          rotate_left
          · intro w hS; (try dsimp only at hS); obtain hS0 := hS; go_simp; first | done | (with_reducible rfl)
          try simp only [Act.put, ly1, ly2, ly3]
          refine onlyH (i := 23) rfl (by kernel_rfl) rfl (fun K hK => ?_)
          refine wp_append_run (.tmp 234) (.tmp 241) 70 rfl rfl rfl HRUN.out ?_
          refine hK.out _ _ (e8) (fun hHeld => ?_)
          clear hK K
          try simp only [Act.put, ly1, ly2, ly3]
          refine takeH (i := 24) (v := ?_) rfl (by kernel_rfl) (by kernel_rfl) (by kernel_rfl) (fun _ _ _ h => h) rfl ?_ hHeld ?_
          rotate_left
          · intro w hS; (try dsimp only at hS); obtain hS0 := hS; go_simp; first | done | (with_reducible rfl)
          try simp only [Act.put, ly1, ly2, ly3]
          refine takeH (i := 25) (v := ?_) rfl (by kernel_rfl) (by kernel_rfl) (by kernel_rfl) (fun _ _ _ h => h) rfl ?_ hHeld ?_
          rotate_left
          · intro w hS; (try dsimp only at hS); obtain hS0 := hS; go_simp; first | done | (with_reducible rfl)
          try simp only [Act.put, ly1, ly2, ly3]
          refine onlyH (i := 26) rfl (by kernel_rfl) rfl (fun K hK => ?_)
          go_simp
          rw [← HW9.out]
          refine hK.out _ _ (e9) (fun hHeld => ?_)
          clear hK K
          try simp only [Act.put, ly1, ly2, ly3]
          refine wpAnyH_done (by kernel_rfl) ?_ _
          clear hHeld
          go_wp2
          go_ret3
          exact ⟨d, r, _, rfl, HT.out, by omega, HB9.out⟩
  · refine Up.mk rfl rfl (fun K hK => ?_)
    go_simp
    refine hK.out _ _ e6 (fun hHeld => ?_)
    clear hK K
    try simp only [Act.put, ly1, ly2, ly3]
    refine takeH (i := 9) (v := ?_) rfl (by kernel_rfl) (by kernel_rfl) (by kernel_rfl) (fun _ _ _ h => h) rfl ?_ hHeld ?_
    rotate_left
    · intro w hS; (try dsimp only at hS); obtain hS0 := hS; go_simp; first | done | (with_reducible rfl)
    try simp only [Act.put, ly1, ly2, ly3]
    refine manyH (rs := [4, 13, 20]) (by kernel_rfl) (by simp) (by intro i hi; simp at hi; rcases hi with rfl | rfl | rfl <;> decide) (up3 ?_ ?_ ?_)
    · refine Up.mk rfl rfl (fun K hK => ?_)
      go_simp
      refine hK.out _ _ e6 (fun hHeld => ?_)
      clear hK K
      try simp only [Act.put, ly1, ly2, ly3]
      refine manyH (rs := [13, 20]) (by kernel_rfl) (by simp) (by intro i hi; simp at hi; rcases hi with rfl | rfl <;> decide) (up2 ?_ ?_)
      · refine Up.mk rfl rfl (fun K hK => ?_)
        go_simp
        refine hK.out _ _ e6 (fun hHeld => ?_)
        clear hK K
        try simp only [Act.put, ly1, ly2, ly3]
        refine takeH (i := 14) (v := ?_) rfl (by kernel_rfl) (by kernel_rfl) (by kernel_rfl) (fun _ _ _ h => h) rfl ?_ hHeld ?_
        rotate_left
        · intro w hS; (try dsimp only at hS); obtain hS0 := hS; go_simp; first | done | (with_reducible rfl)
        try simp only [Act.put, ly1, ly2, ly3]
        refine takeH (i := 15) (v := ?_) rfl (by kernel_rfl) (by kernel_rfl) (by kernel_rfl) (fun _ _ _ h => h) rfl ?_ hHeld ?_
        rotate_left
        · intro w hS; (try dsimp only at hS); obtain hS0 := hS; go_simp; first | done | (with_reducible rfl)
        try simp only [Act.put, ly1, ly2, ly3]
        refine onlyH (i := 20) rfl (by kernel_rfl) rfl (fun K hK => ?_)
        go_simp
        refine (pick_any _ torn 9 r5 (by omega)).mono ?_
        rintro e wz ⟨rfl, hz⟩
        rw [hz]
        clear hz
        refine hK.out _ _ e6 (fun hHeld => ?_)
        clear hK K
        try simp only [Act.put, ly1, ly2, ly3]
        refine takeH (i := 21) (v := ?_) rfl (by kernel_rfl) (by kernel_rfl) (by kernel_rfl) (fun _ _ _ h => h) rfl ?_ hHeld ?_
        rotate_left
        · intro w hS; (try dsimp only at hS); obtain hS0 := hS; go_simp; first | done | (with_reducible rfl)
        try simp only [Act.put, ly1, ly2, ly3]
        refine onlyH (i := 22) rfl (by kernel_rfl) rfl (fun K hK => ?_)
        go_simp
        rw [← HN2.out, hw2, drew_alloc, ← HW7.out]
        refine hK.out _ _ e7 (fun hHeld => ?_)
        clear hK K
        try simp only [Act.put, ly1, ly2, ly3]
        refine onlyH (i := 23) rfl (by kernel_rfl) rfl (fun K hK => ?_)
        refine wp_append_run (.tmp 234) (.tmp 241) 70 rfl rfl rfl HRUN.out ?_
        refine hK.out _ _ (e8) (fun hHeld => ?_)
        clear hK K
        try simp only [Act.put, ly1, ly2, ly3]
        refine takeH (i := 24) (v := ?_) rfl (by kernel_rfl) (by kernel_rfl) (by kernel_rfl) (fun _ _ _ h => h) rfl ?_ hHeld ?_
        rotate_left
        · intro w hS; (try dsimp only at hS); obtain hS0 := hS; go_simp; first | done | (with_reducible rfl)
        try simp only [Act.put, ly1, ly2, ly3]
        refine takeH (i := 25) (v := ?_) rfl (by kernel_rfl) (by kernel_rfl) (by kernel_rfl) (fun _ _ _ h => h) rfl ?_ hHeld ?_
        rotate_left
        · intro w hS; (try dsimp only at hS); obtain hS0 := hS; go_simp; first | done | (with_reducible rfl)
        try simp only [Act.put, ly1, ly2, ly3]
        refine onlyH (i := 26) rfl (by kernel_rfl) rfl (fun K hK => ?_)
        go_simp
        rw [← HW9.out]
        refine hK.out _ _ (e9) (fun hHeld => ?_)
        clear hK K
        try simp only [Act.put, ly1, ly2, ly3]
        refine wpAnyH_done (by kernel_rfl) ?_ _
        clear hHeld
        go_wp2
        go_ret3
        exact ⟨d, r, _, rfl, HT.out, by omega, HB9.out⟩
      · refine Up.mk rfl rfl (fun K hK => ?_)
        go_simp
        refine (pick_any _ torn 9 r5 (by omega)).mono ?_
        rintro e wz ⟨rfl, hz⟩
        rw [hz]
        clear hz
        refine hK.out _ _ e6 (fun hHeld => ?_)
        clear hK K
        try simp only [Act.put, ly1, ly2, ly3]
        refine takeH (i := 21) (v := ?_) rfl (by kernel_rfl) (by kernel_rfl) (by kernel_rfl) (fun _ _ _ h => h) rfl ?_ hHeld ?_
        rotate_left
        · intro w hS; (try dsimp only at hS); obtain hS0 := hS; go_simp; first | done | (with_reducible rfl)
        try simp only [Act.put, ly1, ly2, ly3]
        refine manyH (rs := [13, 22]) (by kernel_rfl) (by simp) (by intro i hi; simp at hi; rcases hi with rfl | rfl <;> decide) (up2 ?_ ?_)
        · refine Up.mk rfl rfl (fun K hK => ?_)
          go_simp
          refine hK.out _ _ e6 (fun hHeld => ?_)
          clear hK K
          try simp only [Act.put, ly1, ly2, ly3]
          refine takeH (i := 14) (v := ?_) rfl (by kernel_rfl) (by kernel_rfl) (by kernel_rfl) (fun _ _ _ h => h) rfl ?_ hHeld ?_
          rotate_left
          · intro w hS; (try dsimp only at hS); obtain hS0 := hS; go_simp; first | done | (with_reducible rfl)
          try simp only [Act.put, ly1, ly2, ly3]
          refine takeH (i := 15) (v := ?_) rfl (by kernel_rfl) (by kernel_rfl) (by kernel_rfl) (fun _ _ _ h => h) rfl ?_ hHeld ?_
          rotate_left
          · intro w hS; (try dsimp only at hS); obtain hS0 := hS; go_simp; first | done | (with_reducible rfl)
          try simp only [Act.put, ly1, ly2, ly3]
          refine onlyH (i := 22) rfl (by kernel_rfl) rfl (fun K hK => ?_)
          go_simp
          rw [← HN2.out, hw2, drew_alloc, ← HW7.out]
          refine hK.out _ _ e7 (fun hHeld => ?_)
          clear hK K
          try simp only [Act.put, ly1, ly2, ly3]
          refine onlyH (i := 23) rfl (by kernel_rfl) rfl (fun K hK => ?_)
          refine wp_append_run (.tmp 234) (.tmp 241) 70 rfl rfl rfl HRUN.out ?_
          refine hK.out _ _ (e8) (fun hHeld => ?_)
          clear hK K
          try simp only [Act.put, ly1, ly2, ly3]
          refine takeH (i := 24) (v := ?_) rfl (by kernel_rfl) (by kernel_rfl) (by kernel_rfl) (fun _ _ _ h => h) rfl ?_ hHeld ?_
          rotate_left
          · intro w hS; (try dsimp only at hS); obtain hS0 := hS; go_simp; first | done | (with_reducible rfl)
          try simp only [Act.put, ly1, ly2, ly3]
          refine takeH (i := 25) (v := ?_) rfl (by kernel_rfl) (by kernel_rfl) (by kernel_rfl) (fun _ _ _ h => h) rfl ?_ hHeld ?_
          rotate_left
          · intro w hS; (try dsimp only at hS); obtain hS0 := hS; go_simp; first | done | (with_reducible rfl)
          try simp only [Act.put, ly1, ly2, ly3]
          refine onlyH (i := 26) rfl (by kernel_rfl) rfl (fun K hK => ?_)
          go_simp
          rw [← HW9.out]
          refine hK.out _ _ (e9) (fun hHeld => ?_)
          clear hK K
          try simp only [Act.put, ly1, ly2, ly3]
          refine wpAnyH_done (by kernel_rfl) ?_ _
          clear hHeld
          go_wp2
          go_ret3
          exact ⟨d, r, _, rfl, HT.out, by omega, HB9.out⟩
        · refine Up.mk rfl rfl (fun K hK => ?_)
          go_simp
          rw [← HN2.out, hw2, drew_alloc, ← HW7.out]
          refine hK.out _ _ e7 (fun hHeld => ?_)
          clear hK K
          try simp only [Act.put, ly1, ly2, ly3]
          refine onlyH (i := 13) rfl (by kernel_rfl) rfl (fun K hK => ?_)
          go_simp
          refine hK.out _ _ e7 (fun hHeld => ?_)
          clear hK K
          try simp only [Act.put, ly1, ly2, ly3]
          refine takeH (i := 14) (v := ?_) rfl (by kernel_rfl) (by kernel_rfl) (by kernel_rfl) (fun _ _ _ h => h) rfl ?_ hHeld ?_
          rotate_left
          · intro w hS; (try dsimp only at hS); obtain hS0 := hS; go_simp; first | done | (with_reducible rfl)
          try simp only [Act.put, ly1, ly2, ly3]
          refine takeH (i := 15) (v := ?_) rfl (by kernel_rfl) (by kernel_rfl) (by kernel_rfl) (fun _ _ _ h => h) rfl ?_ hHeld ?_
          rotate_left
          · intro w hS; (try dsimp only at hS); obtain hS0 := hS; go_simp; first | done | (with_reducible rfl)
          try simp only [Act.put, ly1, ly2, ly3]
          refine onlyH (i := 23) rfl (by kernel_rfl) rfl (fun K hK => ?_)
          refine wp_append_run (.tmp 234) (.tmp 241) 70 rfl rfl rfl HRUN.out ?_
          refine hK.out _ _ (e8) (fun hHeld => ?_)
          clear hK K
          try simp only [Act.put, ly1, ly2, ly3]
          refine takeH (i := 24) (v := ?_) rfl (by kernel_rfl) (by kernel_rfl) (by kernel_rfl) (fun _ _ _ h => h) rfl ?_ hHeld ?_
          rotate_left
          · intro w hS; (try dsimp only at hS); obtain hS0 := hS; go_simp; first | done | (with_reducible rfl)
          try simp only [Act.put, ly1, ly2, ly3]
          refine takeH (i := 25) (v := ?_) rfl (by kernel_rfl) (by kernel_rfl) (by kernel_rfl) (fun _ _ _ h => h) rfl ?_ hHeld ?_
          rotate_left
          · intro w hS; (try dsimp only at hS); obtain hS0 := hS; go_simp; first | done | (with_reducible rfl)
          try simp only [Act.put, ly1, ly2, ly3]
          refine onlyH (i := 26) rfl (by kernel_rfl) rfl (fun K hK => ?_)
          go_simp
          rw [← HW9.out]
          refine hK.out _ _ (e9) (fun hHeld => ?_)
          clear hK K
          try simp only [Act.put, ly1, ly2, ly3]
          refine wpAnyH_done (by kernel_rfl) ?_ _
          clear hHeld
          go_wp2
          go_ret3
          exact ⟨d, r, _, rfl, HT.out, by omega, HB9.out⟩
    · refine Up.mk rfl rfl (fun K hK => ?_)
      go_simp
      refine hK.out _ _ e6 (fun hHeld => ?_)
      clear hK K
      try simp only [Act.put, ly1, ly2, ly3]
      refine takeH (i := 14) (v := ?_) rfl (by kernel_rfl) (by kernel_rfl) (by kernel_rfl) (fun _ _ _ h => h) rfl ?_ hHeld ?_
      rotate_left
      · intro w hS; (try dsimp only at hS); obtain hS0 := hS; go_simp; first | done | (with_reducible rfl)
      try simp only [Act.put, ly1, ly2, ly3]
      refine manyH (rs := [4, 20]) (by kernel_rfl) (by simp) (by intro i hi; simp at hi; rcases hi with rfl | rfl <;> decide) (up2 ?_ ?_)
      · refine Up.mk rfl rfl (fun K hK => ?_)
        go_simp
        refine hK.out _ _ e6 (fun hHeld => ?_)
        clear hK K
        try simp only [Act.put, ly1, ly2, ly3]
        refine takeH (i := 15) (v := ?_) rfl (by kernel_rfl) (by kernel_rfl) (by kernel_rfl) (fun _ _ _ h => h) rfl ?_ hHeld ?_
        rotate_left
        · intro w hS; (try dsimp only at hS); obtain hS0 := hS; go_simp; first | done | (with_reducible rfl)
        try simp only [Act.put, ly1, ly2, ly3]
        refine onlyH (i := 20) rfl (by kernel_rfl) rfl (fun K hK => ?_)
        go_simp
        refine (pick_any _ torn 9 r5 (by omega)).mono ?_
        rintro e wz ⟨rfl, hz⟩
        rw [hz]
        clear hz
        refine hK.out _ _ e6 (fun hHeld => ?_)
        clear hK K
        try simp only [Act.put, ly1, ly2, ly3]
        refine takeH (i := 21) (v := ?_) rfl (by kernel_rfl) (by kernel_rfl) (by kernel_rfl) (fun _ _ _ h => h) rfl ?_ hHeld ?_
        rotate_left
        · intro w hS; (try dsimp only at hS); obtain hS0 := hS; go_simp; first | done | (with_reducible rfl)
        try simp only [Act.put, ly1, ly2, ly3]
        refine onlyH (i := 22) rfl (by kernel_rfl) rfl (fun K hK => ?_)
        go_simp
        rw [← HN2.out, hw2, drew_alloc, ← HW7.out]
        refine hK.out _ _ e7 (fun hHeld => ?_)
        clear hK K
        try simp only [Act.put, ly1, ly2, ly3]
        refine onlyH (i := 23) rfl (by kernel_rfl) rfl (fun K hK => ?_)
        refine wp_append_run (.tmp 234) (.tmp 241) 70 rfl rfl rfl HRUN.out ?_
        refine hK.out _ _ (e8) (fun hHeld => ?_)
        clear hK K
        try simp only [Act.put, ly1, ly2, ly3]
        refine takeH (i := 24) (v := ?_) rfl (by kernel_rfl) (by kernel_rfl) (by kernel_rfl) (fun _ _ _ h => h) rfl ?_ hHeld ?_
        rotate_left
        · intro w hS; (try dsimp only at hS); obtain hS0 := hS; go_simp; first | done | (with_reducible rfl)
        try simp only [Act.put, ly1, ly2, ly3]
        refine takeH (i := 25) (v := ?_) rfl (by kernel_rfl) (by kernel_rfl) (by kernel_rfl) (fun _ _ _ h => h) rfl ?_ hHeld ?_
        rotate_left
        · intro w hS; (try dsimp only at hS); obtain hS0 := hS; go_simp; first | done | (with_reducible rfl)
        try simp only [Act.put, ly1, ly2, ly3]
        refine onlyH (i := 26) rfl (by kernel_rfl) rfl (fun K hK => ?_)
        go_simp
        rw [← HW9.out]
        refine hK.out _ _ (e9) (fun hHeld => ?_)
        clear hK K
        try simp only [Act.put, ly1, ly2, ly3]
        refine wpAnyH_done (by kernel_rfl) ?_ _
        clear hHeld
        go_wp2
        go_ret3
        exact ⟨d, r, _, rfl, HT.out, by omega, HB9.out⟩
      · refine Up.mk rfl rfl (fun K hK => ?_)
        go_simp
        refine (pick_any _ torn 9 r5 (by omega)).mono ?_
        rintro e wz ⟨rfl, hz⟩
        rw [hz]
        clear hz
        refine hK.out _ _ e6 (fun hHeld => ?_)
        clear hK K
        try simp only [Act.put, ly1, ly2, ly3]
        refine takeH (i := 21) (v := ?_) rfl (by kernel_rfl) (by kernel_rfl) (by kernel_rfl) (fun _ _ _ h => h) rfl ?_ hHeld ?_
        rotate_left
        · intro w hS; (try dsimp only at hS); obtain hS0 := hS; go_simp; first | done | (with_reducible rfl)
        try simp only [Act.put, ly1, ly2, ly3]
        refine manyH (rs := [4, 22]) (by kernel_rfl) (by simp) (by intro i hi; simp at hi; rcases hi with rfl | rfl <;> decide) (up2 ?_ ?_)
        · refine Up.mk rfl rfl (fun K hK => ?_)
          go_simp
          refine hK.out _ _ e6 (fun hHeld => ?_)
          clear hK K
          try simp only [Act.put, ly1, ly2, ly3]
          refine takeH (i := 15) (v := ?_) rfl (by kernel_rfl) (by kernel_rfl) (by kernel_rfl) (fun _ _ _ h => h) rfl ?_ hHeld ?_
          rotate_left
          · intro w hS; (try dsimp only at hS); obtain hS0 := hS; go_simp; first | done | (with_reducible rfl)
          try simp only [Act.put, ly1, ly2, ly3]
          refine onlyH (i := 22) rfl (by kernel_rfl) rfl (fun K hK => ?_)
          go_simp
          rw [← HN2.out, hw2, drew_alloc, ← HW7.out]
          refine hK.out _ _ e7 (fun hHeld => ?_)
          clear hK K
          try simp only [Act.put, ly1, ly2, ly3]
          refine onlyH (i := 23) rfl (by kernel_rfl) rfl (fun K hK => ?_)
          refine wp_append_run (.tmp 234) (.tmp 241) 70 rfl rfl rfl HRUN.out ?_
          refine hK.out _ _ (e8) (fun hHeld => ?_)
          clear hK K
          try simp only [Act.put, ly1, ly2, ly3]
          refine takeH (i := 24) (v := ?_) rfl (by kernel_rfl) (by kernel_rfl) (by kernel_rfl) (fun _ _ _ h => h) rfl ?_ hHeld ?_
          rotate_left
          · intro w hS; (try dsimp only at hS); obtain hS0 := hS; go_simp; first | done | (with_reducible rfl)
          try simp only [Act.put, ly1, ly2, ly3]
          refine takeH (i := 25) (v := ?_) rfl (by kernel_rfl) (by kernel_rfl) (by kernel_rfl) (fun _ _ _ h => h) rfl ?_ hHeld ?_
          rotate_left
          · intro w hS; (try dsimp only at hS); obtain hS0 := hS; go_simp; first | done | (with_reducible rfl)
          try simp only [Act.put, ly1, ly2, ly3]
          refine onlyH (i := 26) rfl (by kernel_rfl) rfl (fun K hK => ?_)
          go_simp
          rw [← HW9.out]
          refine hK.out _ _ (e9) (fun hHeld => ?_)
          clear hK K
          try simp only [Act.put, ly1, ly2, ly3]
          refine wpAnyH_done (by kernel_rfl) ?_ _
          clear hHeld
          go_wp2
          go_ret3
          exact ⟨d, r, _, rfl, HT.out, by omega, HB9.out⟩
        · refine Up.mk rfl rfl (fun K hK => ?_)
          go_simp
          rw [← HN2.out, hw2, drew_alloc, ← HW7.out]
          refine hK.out _ _ e7 (fun hHeld => ?_)
          clear hK K
          try simp only [Act.put, ly1, ly2, ly3]
          refine onlyH (i := 4) rfl (by kernel_rfl) rfl (fun K hK => ?_)
          go_simp
          refine hK.out _ _ e7 (fun hHeld => ?_)
          clear hK K
          try simp only [Act.put, ly1, ly2, ly3]
          refine takeH (i := 15) (v := ?_) rfl (by kernel_rfl) (by kernel_rfl) (by kernel_rfl) (fun _ _ _ h => h) rfl ?_ hHeld ?_
          rotate_left
          · intro w hS; (try dsimp only at hS); obtain hS0 := hS; go_simp; first | done | (with_reducible rfl)
          try simp only [Act.put, ly1, ly2, ly3]
          refine onlyH (i := 23) rfl (by kernel_rfl) rfl (fun K hK => ?_)
          refine wp_append_run (.tmp 234) (.tmp 241) 70 rfl rfl rfl HRUN.out ?_
          refine hK.out _ _ (e8) (fun hHeld => ?_)
          clear hK K
          try simp only [Act.put, ly1, ly2, ly3]
          refine takeH (i := 24) (v := ?_) rfl (by kernel_rfl) (by kernel_rfl) (by kernel_rfl) (fun _ _ _ h => h) rfl ?_ hHeld ?_
          rotate_left
          · intro w hS; (try dsimp only at hS); obtain hS0 := hS; go_simp; first | done | (with_reducible rfl)
          try simp only [Act.put, ly1, ly2, ly3]
          refine takeH (i := 25) (v := ?_) rfl (by kernel_rfl) (by kernel_rfl) (by kernel_rfl) (fun _ _ _ h => h) rfl ?_ hHeld ?_
          rotate_left
          · intro w hS; (try dsimp only at hS); obtain hS0 := hS; go_simp; first | done | (with_reducible rfl)
          try simp only [Act.put, ly1, ly2, ly3]
          refine onlyH (i := 26) rfl (by kernel_rfl) rfl (fun K hK => ?_)
          go_simp
          rw [← HW9.out]
          refine hK.out _ _ (e9) (fun hHeld => ?_)
          clear hK K
          try simp only [Act.put, ly1, ly2, ly3]
          refine wpAnyH_done (by kernel_rfl) ?_ _
          clear hHeld
          go_wp2
          go_ret3
          exact ⟨d, r, _, rfl, HT.out, by omega, HB9.out⟩
    · refine Up.mk rfl rfl (fun K hK => ?_)
      go_simp
      refine (pick_any _ torn 9 r5 (by omega)).mono ?_
      rintro e wz ⟨rfl, hz⟩
      rw [hz]
      clear hz
      refine hK.out _ _ e6 (fun hHeld => ?_)
      clear hK K
      try simp only [Act.put, ly1, ly2, ly3]
      refine takeH (i := 21) (v := ?_) rfl (by kernel_rfl) (by kernel_rfl) (by kernel_rfl) (fun _ _ _ h => h) rfl ?_ hHeld ?_
      rotate_left
      · intro w hS; (try dsimp only at hS); obtain hS0 := hS; go_simp; first | done | (with_reducible rfl)
      try simp only [Act.put, ly1, ly2, ly3]
      refine manyH (rs := [4, 13, 22]) (by kernel_rfl) (by simp) (by intro i hi; simp at hi; rcases hi with rfl | rfl | rfl <;> decide) (up3 ?_ ?_ ?_)
      · refine Up.mk rfl rfl (fun K hK => ?_)
        go_simp
        refine hK.out _ _ e6 (fun hHeld => ?_)
        clear hK K
        try simp only [Act.put, ly1, ly2, ly3]
        refine manyH (rs := [13, 22]) (by kernel_rfl) (by simp) (by intro i hi; simp at hi; rcases hi with rfl | rfl <;> decide) (up2 ?_ ?_)
        · refine Up.mk rfl rfl (fun K hK => ?_)
          go_simp
          refine hK.out _ _ e6 (fun hHeld => ?_)
          clear hK K
          try simp only [Act.put, ly1, ly2, ly3]
          refine takeH (i := 14) (v := ?_) rfl (by kernel_rfl) (by kernel_rfl) (by kernel_rfl) (fun _ _ _ h => h) rfl ?_ hHeld ?_
          rotate_left
          · intro w hS; (try dsimp only at hS); obtain hS0 := hS; go_simp; first | done | (with_reducible rfl)
          try simp only [Act.put, ly1, ly2, ly3]
          refine takeH (i := 15) (v := ?_) rfl (by kernel_rfl) (by kernel_rfl) (by kernel_rfl) (fun _ _ _ h => h) rfl ?_ hHeld ?_
          rotate_left
          · intro w hS; (try dsimp only at hS); obtain hS0 := hS; go_simp; first | done | (with_reducible rfl)
          try simp only [Act.put, ly1, ly2, ly3]
          refine onlyH (i := 22) rfl (by kernel_rfl) rfl (fun K hK => ?_)
          go_simp
          rw [← HN2.out, hw2, drew_alloc, ← HW7.out]
          refine hK.out _ _ e7 (fun hHeld => ?_)
          clear hK K
          try simp only [Act.put, ly1, ly2, ly3]
          refine onlyH (i := 23) rfl (by kernel_rfl) rfl (fun K hK => ?_)
          refine wp_append_run (.tmp 234) (.tmp 241) 70 rfl rfl rfl HRUN.out ?_
          refine hK.out _ _ (e8) (fun hHeld => ?_)
          clear hK K
          try simp only [Act.put, ly1, ly2, ly3]
          refine takeH (i := 24) (v := ?_) rfl (by kernel_rfl) (by kernel_rfl) (by kernel_rfl) (fun _ _ _ h => h) rfl ?_ hHeld ?_
          rotate_left
          · intro w hS; (try dsimp only at hS); obtain hS0 := hS; go_simp; first | done | (with_reducible rfl)
          try simp only [Act.put, ly1, ly2, ly3]
          refine takeH (i := 25) (v := ?_) rfl (by kernel_rfl) (by kernel_rfl) (by kernel_rfl) (fun _ _ _ h => h) rfl ?_ hHeld ?_
          rotate_left
          · intro w hS; (try dsimp only at hS); obtain hS0 := hS; go_simp; first | done | (with_reducible rfl)
          try simp only [Act.put, ly1, ly2, ly3]
          refine onlyH (i := 26) rfl (by kernel_rfl) rfl (fun K hK => ?_)
          go_simp
          rw [← HW9.out]
          refine hK.out _ _ (e9) (fun hHeld => ?_)
          clear hK K
          try simp only [Act.put, ly1, ly2, ly3]
          refine wpAnyH_done (by kernel_rfl) ?_ _
          clear hHeld
          go_wp2
          go_ret3
          exact ⟨d, r, _, rfl, HT.out, by omega, HB9.out⟩
        · refine Up.mk rfl rfl (fun K hK => ?_)
          go_simp
          rw [← HN2.out, hw2, drew_alloc, ← HW7.out]
          refine hK.out _ _ e7 (fun hHeld => ?_)
          clear hK K
          try simp only [Act.put, ly1, ly2, ly3]
          refine onlyH (i := 13) rfl (by kernel_rfl) rfl (fun K hK => ?_)
          go_simp
          refine hK.out _ _ e7 (fun hHeld => ?_)
          clear hK K
          try simp only [Act.put, ly1, ly2, ly3]
          refine takeH (i := 14) (v := ?_) rfl (by kernel_rfl) (by kernel_rfl) (by kernel_rfl) (fun _ _ _ h => h) rfl ?_ hHeld ?_
          rotate_left
          · intro w hS; (try dsimp only at hS); obtain hS0 := hS; go_simp; first | done | (with_reducible rfl)
          try simp only [Act.put, ly1, ly2, ly3]
          refine takeH (i := 15) (v := ?_) rfl (by kernel_rfl) (by kernel_rfl) (by kernel_rfl) (fun _ _ _ h => h) rfl ?_ hHeld ?_
          rotate_left
          · intro w hS; (try dsimp only at hS); obtain hS0 := hS; go_simp; first | done | (with_reducible rfl)
          try simp only [Act.put, ly1, ly2, ly3]
          refine onlyH (i := 23) rfl (by kernel_rfl) rfl (fun K hK => ?_)
          refine wp_append_run (.tmp 234) (.tmp 241) 70 rfl rfl rfl HRUN.out ?_
          refine hK.out _ _ (e8) (fun hHeld => ?_)
          clear hK K
          try simp only [Act.put, ly1, ly2, ly3]
          refine takeH (i := 24) (v := ?_) rfl (by kernel_rfl) (by kernel_rfl) (by kernel_rfl) (fun _ _ _ h => h) rfl ?_ hHeld ?_
          rotate_left
          · intro w hS; (try dsimp only at hS); obtain hS0 := hS; go_simp; first | done | (with_reducible rfl)
          try simp only [Act.put, ly1, ly2, ly3]
          refine takeH (i := 25) (v := ?_) rfl (by kernel_rfl) (by kernel_rfl) (by kernel_rfl) (fun _ _ _ h => h) rfl ?_ hHeld ?_
          rotate_left
          · intro w hS; (try dsimp only at hS); obtain hS0 := hS; go_simp; first | done | (with_reducible rfl)
          try simp only [Act.put, ly1, ly2, ly3]
          refine onlyH (i := 26) rfl (by kernel_rfl) rfl (fun K hK => ?_)
          go_simp
          rw [← HW9.out]
          refine hK.out _ _ (e9) (fun hHeld => ?_)
          clear hK K
          try simp only [Act.put, ly1, ly2, ly3]
          refine wpAnyH_done (by kernel_rfl) ?_ _
          clear hHeld
          go_wp2
          go_ret3
          exact ⟨d, r, _, rfl, HT.out, by omega, HB9.out⟩
      · refine Up.mk rfl rfl (fun K hK => ?_)
        go_simp
        refine hK.out _ _ e6 (fun hHeld => ?_)
        clear hK K
        try simp only [Act.put, ly1, ly2, ly3]
        refine takeH (i := 14) (v := ?_) rfl (by kernel_rfl) (by kernel_rfl) (by kernel_rfl) (fun _ _ _ h => h) rfl ?_ hHeld ?_
        rotate_left
        · intro w hS; (try dsimp only at hS); obtain hS0 := hS; go_simp; first | done | (with_reducible rfl)
        try simp only [Act.put, ly1, ly2, ly3]
        refine manyH (rs := [4, 22]) (by kernel_rfl) (by simp) (by intro i hi; simp at hi; rcases hi with rfl | rfl <;> decide) (up2 ?_ ?_)
        · refine Up.mk rfl rfl (fun K hK => ?_)
          go_simp
          refine hK.out _ _ e6 (fun hHeld => ?_)
          clear hK K
          try simp only [Act.put, ly1, ly2, ly3]
          refine takeH (i := 15) (v := ?_) rfl (by kernel_rfl) (by kernel_rfl) (by kernel_rfl) (fun _ _ _ h => h) rfl ?_ hHeld ?_
          rotate_left
          · intro w hS; (try dsimp only at hS); obtain hS0 := hS; go_simp; first | done | (with_reducible rfl)
          try simp only [Act.put, ly1, ly2, ly3]
          refine onlyH (i := 22) rfl (by kernel_rfl) rfl (fun K hK => ?_)
          go_simp
          rw [← HN2.out, hw2, drew_alloc, ← HW7.out]
          refine hK.out _ _ e7 (fun hHeld => ?_)
          clear hK K
          try simp only [Act.put, ly1, ly2, ly3]
          refine onlyH (i := 23) rfl (by kernel_rfl) rfl (fun K hK => ?_)
          refine wp_append_run (.tmp 234) (.tmp 241) 70 rfl rfl rfl HRUN.out ?_
          refine hK.out _ _ (e8) (fun hHeld => ?_)
          clear hK K
          try simp only [Act.put, ly1, ly2, ly3]
          refine takeH (i := 24) (v := ?_) rfl (by kernel_rfl) (by kernel_rfl) (by kernel_rfl) (fun _ _ _ h => h) rfl ?_ hHeld ?_
          rotate_left
          · intro w hS; (try dsimp only at hS); obtain hS0 := hS; go_simp; first | done | (with_reducible rfl)
          try simp only [Act.put, ly1, ly2, ly3]
          refine takeH (i := 25) (v := ?_) rfl (by kernel_rfl) (by kernel_rfl) (by kernel_rfl) (fun _ _ _ h => h) rfl ?_ hHeld ?_
          rotate_left
          · intro w hS; (try dsimp only at hS); obtain hS0 := hS; go_simp; first | done | (with_reducible rfl)
          try simp only [Act.put, ly1, ly2, ly3]
          refine onlyH (i := 26) rfl (by kernel_rfl) rfl (fun K hK => ?_)
          go_simp
          rw [← HW9.out]
          refine hK.out _ _ (e9) (fun hHeld => ?_)
          clear hK K
          try simp only [Act.put, ly1, ly2, ly3]
          refine wpAnyH_done (by kernel_rfl) ?_ _
          clear hHeld
          go_wp2
          go_ret3
          exact ⟨d, r, _, rfl, HT.out, by omega, HB9.out⟩
        · refine Up.mk rfl rfl (fun K hK => ?_)
          go_simp
          rw [← HN2.out, hw2, drew_alloc, ← HW7.out]
          refine hK.out _ _ e7 (fun hHeld => ?_)
          clear hK K
          try simp only [Act.put, ly1, ly2, ly3]
          refine onlyH (i := 4) rfl (by kernel_rfl) rfl (fun K hK => ?_)
          go_simp
          refine hK.out _ _ e7 (fun hHeld => ?_)
          clear hK K
          try simp only [Act.put, ly1, ly2, ly3]
          refine takeH (i := 15) (v := ?_) rfl (by kernel_rfl) (by kernel_rfl) (by kernel_rfl) (fun _ _ _ h => h) rfl ?_ hHeld ?_
          rotate_left
          · intro w hS; (try dsimp only at hS); obtain hS0 := hS; go_simp; first | done | (with_reducible rfl)
          try simp only [Act.put, ly1, ly2, ly3]
          refine onlyH (i := 23) rfl (by kernel_rfl) rfl (fun K hK => ?_)
          refine wp_append_run (.tmp 234) (.tmp 241) 70 rfl rfl rfl HRUN.out ?_
          refine hK.out _ _ (e8) (fun hHeld => ?_)
          clear hK K
          try simp only [Act.put, ly1, ly2, ly3]
          refine takeH (i := 24) (v := ?_) rfl (by kernel_rfl) (by kernel_rfl) (by kernel_rfl) (fun _ _ _ h => h) rfl ?_ hHeld ?_
          rotate_left
          · intro w hS; (try dsimp only at hS); obtain hS0 := hS; go_simp; first | done | (with_reducible rfl)
          try simp only [Act.put, ly1, ly2, ly3]
          refine takeH (i := 25) (v := ?_) rfl (by kernel_rfl) (by kernel_rfl) (by kernel_rfl) (fun _ _ _ h => h) rfl ?_ hHeld ?_
          rotate_left
          · intro w hS; (try dsimp only at hS); obtain hS0 := hS; go_simp; first | done | (with_reducible rfl)
          try simp only [Act.put, ly1, ly2, ly3]
          refine onlyH (i := 26) rfl (by kernel_rfl) rfl (fun K hK => ?_)
          go_simp
          rw [← HW9.out]
          refine hK.out _ _ (e9) (fun hHeld => ?_)
          clear hK K
          try simp only [Act.put, ly1, ly2, ly3]
          refine wpAnyH_done (by kernel_rfl) ?_ _
          clear hHeld
          go_wp2
          go_ret3
          exact ⟨d, r, _, rfl, HT.out, by omega, HB9.out⟩
      · refine Up.mk rfl rfl (fun K hK => ?_)
        go_simp
        rw [← HN2.out, hw2, drew_alloc, ← HW7.out]
        refine hK.out _ _ e7 (fun hHeld => ?_)
        clear hK K
        try simp only [Act.put, ly1, ly2, ly3]
        refine manyH (rs := [4, 13]) (by kernel_rfl) (by simp) (by intro i hi; simp at hi; rcases hi with rfl | rfl <;> decide) (up2 ?_ ?_)
        · refine Up.mk rfl rfl (fun K hK => ?_)
          go_simp
          refine hK.out _ _ e7 (fun hHeld => ?_)
          clear hK K
          try simp only [Act.put, ly1, ly2, ly3]
          refine onlyH (i := 13) rfl (by kernel_rfl) rfl (fun K hK => ?_)
          go_simp
          refine hK.out _ _ e7 (fun hHeld => ?_)
          clear hK K
          try simp only [Act.put, ly1, ly2, ly3]
          refine takeH (i := 14) (v := ?_) rfl (by kernel_rfl) (by kernel_rfl) (by kernel_rfl) (fun _ _ _ h => h) rfl ?_ hHeld ?_
          rotate_left
          · intro w hS; (try dsimp only at hS); obtain hS0 := hS; go_simp; first | done | (with_reducible rfl)
          try simp only [Act.put, ly1, ly2, ly3]
          refine takeH (i := 15) (v := ?_) rfl (by kernel_rfl) (by kernel_rfl) (by kernel_rfl) (fun _ _ _ h => h) rfl ?_ hHeld ?_
          rotate_left
          · intro w hS; (try dsimp only at hS); obtain hS0 := hS; go_simp; first | done | (with_reducible rfl)
          try simp only [Act.put, ly1, ly2, ly3]
          refine onlyH (i := 23) rfl (by kernel_rfl) rfl (fun K hK => ?_)
          refine wp_append_run (.tmp 234) (.tmp 241) 70 rfl rfl rfl HRUN.out ?_
          refine hK.out _ _ (e8) (fun hHeld => ?_)
          clear hK K
          try simp only [Act.put, ly1, ly2, ly3]
          refine takeH (i := 24) (v := ?_) rfl (by kernel_rfl) (by kernel_rfl) (by kernel_rfl) (fun _ _ _ h => h) rfl ?_ hHeld ?_
          rotate_left
          · intro w hS; (try dsimp only at hS); obtain hS0 := hS; go_simp; first | done | (with_reducible rfl)
          try simp only [Act.put, ly1, ly2, ly3]
          refine takeH (i := 25) (v := ?_) rfl (by kernel_rfl) (by kernel_rfl) (by kernel_rfl) (fun _ _ _ h => h) rfl ?_ hHeld ?_
          rotate_left
          · intro w hS; (try dsimp only at hS); obtain hS0 := hS; go_simp; first | done | (with_reducible rfl)
          try simp only [Act.put, ly1, ly2, ly3]
          refine onlyH (i := 26) rfl (by kernel_rfl) rfl (fun K hK => ?_)
          go_simp
          rw [← HW9.out]
          refine hK.out _ _ (e9) (fun hHeld => ?_)
          clear hK K
          try simp only [Act.put, ly1, ly2, ly3]
          refine wpAnyH_done (by kernel_rfl) ?_ _
          clear hHeld
          go_wp2
          go_ret3
          exact ⟨d, r, _, rfl, HT.out, by omega, HB9.out⟩
        · refine Up.mk rfl rfl (fun K hK => ?_)
          go_simp
          refine hK.out _ _ e7 (fun hHeld => ?_)
          clear hK K
          try simp only [Act.put, ly1, ly2, ly3]
          refine takeH (i := 14) (v := ?_) rfl (by kernel_rfl) (by kernel_rfl) (by kernel_rfl) (fun _ _ _ h => h) rfl ?_ hHeld ?_
          rotate_left
          · intro w hS; (try dsimp only at hS); obtain hS0 := hS; go_simp; first | done | (with_reducible rfl)
          try simp only [Act.put, ly1, ly2, ly3]
          refine onlyH (i := 4) rfl (by kernel_rfl) rfl (fun K hK => ?_)
          go_simp
          refine hK.out _ _ e7 (fun hHeld => ?_)
          clear hK K
          try simp only [Act.put, ly1, ly2, ly3]
          refine takeH (i := 15) (v := ?_) rfl (by kernel_rfl) (by kernel_rfl) (by kernel_rfl) (fun _ _ _ h => h) rfl ?_ hHeld ?_
          rotate_left
          · intro w hS; (try dsimp only at hS); obtain hS0 := hS; go_simp; first | done | (with_reducible rfl)
          try simp only [Act.put, ly1, ly2, ly3]
          refine onlyH (i := 23) rfl (by kernel_rfl) rfl (fun K hK => ?_)
          refine wp_append_run (.tmp 234) (.tmp 241) 70 rfl rfl rfl HRUN.out ?_
          refine hK.out _ _ (e8) (fun hHeld => ?_)
          clear hK K
          try simp only [Act.put, ly1, ly2, ly3]
          refine takeH (i := 24) (v := ?_) rfl (by kernel_rfl) (by kernel_rfl) (by kernel_rfl) (fun _ _ _ h => h) rfl ?_ hHeld ?_
          rotate_left
          · intro w hS; (try dsimp only at hS); obtain hS0 := hS; go_simp; first | done | (with_reducible rfl)
          try simp only [Act.put, ly1, ly2, ly3]
          refine takeH (i := 25) (v := ?_) rfl (by kernel_rfl) (by kernel_rfl) (by kernel_rfl) (fun _ _ _ h => h) rfl ?_ hHeld ?_
          rotate_left
          · intro w hS; (try dsimp only at hS); obtain hS0 := hS; go_simp; first | done | (with_reducible rfl)
          try simp only [Act.put, ly1, ly2, ly3]
          refine onlyH (i := 26) rfl (by kernel_rfl) rfl (fun K hK => ?_)
          go_simp
          rw [← HW9.out]
          refine hK.out _ _ (e9) (fun hHeld => ?_)
          clear hK K
          try simp only [Act.put, ly1, ly2, ly3]
          refine wpAnyH_done (by kernel_rfl) ?_ _
          clear hHeld
          go_wp2
          go_ret3
          exact ⟨d, r, _, rfl, HT.out, by omega, HB9.out⟩
  · refine Up.mk rfl rfl (fun K hK => ?_)
    go_simp
    refine hK.out _ _ e6 (fun hHeld => ?_)
    clear hK K
    try simp only [Act.put, ly1, ly2, ly3]
    refine takeH (i := 14) (v := ?_) rfl (by kernel_rfl) (by kernel_rfl) (by kernel_rfl) (fun _ _ _ h => h) rfl ?_ hHeld ?_
    rotate_left
    · intro w hS; (try dsimp only at hS); obtain hS0 := hS; go_simp; first | done | (with_reducible rfl)
    try simp only [Act.put, ly1, ly2, ly3]
    refine manyH (rs := [4, 8, 20]) (by kernel_rfl) (by simp) (by intro i hi; simp at hi; rcases hi with rfl | rfl | rfl <;> decide) (up3 ?_ ?_ ?_)
    · refine Up.mk rfl rfl (fun K hK => ?_)
      go_simp
      refine hK.out _ _ e6 (fun hHeld => ?_)
      clear hK K
      try simp only [Act.put, ly1, ly2, ly3]
      refine manyH (rs := [8, 20]) (by kernel_rfl) (by simp) (by intro i hi; simp at hi; rcases hi with rfl | rfl <;> decide) (up2 ?_ ?_)
      · refine Up.mk rfl rfl (fun K hK => ?_)
        go_simp
        refine hK.out _ _ e6 (fun hHeld => ?_)
        clear hK K
        try simp only [Act.put, ly1, ly2, ly3]
        refine takeH (i := 9) (v := ?_) rfl (by kernel_rfl) (by kernel_rfl) (by kernel_rfl) (fun _ _ _ h => h) rfl ?_ hHeld ?_
        rotate_left
        · intro w hS; (try dsimp only at hS); obtain hS0 := hS; go_simp; first | done | (with_reducible rfl)
        try simp only [Act.put, ly1, ly2, ly3]
        refine takeH (i := 15) (v := ?_) rfl (by kernel_rfl) (by kernel_rfl) (by kernel_rfl) (fun _ _ _ h => h) rfl ?_ hHeld ?_
        rotate_left
        · intro w hS; (try dsimp only at hS); obtain hS0 := hS; go_simp; first | done | (with_reducible rfl)
        try simp only [Act.put, ly1, ly2, ly3]
        refine onlyH (i := 20) rfl (by kernel_rfl) rfl (fun K hK => ?_)
        go_simp
        refine (pick_any _ torn 9 r5 (by omega)).mono ?_
        rintro e wz ⟨rfl, hz⟩
        rw [hz]
        clear hz
        refine hK.out _ _ e6 (fun hHeld => ?_)
        clear hK K
        try simp only [Act.put, ly1, ly2, ly3]
        refine takeH (i := 21) (v := ?_) rfl (by kernel_rfl) (by kernel_rfl) (by kernel_rfl) (fun _ _ _ h => h) rfl ?_ hHeld ?_
        rotate_left
        · intro w hS; (try dsimp only at hS); obtain hS0 := hS; go_simp; first | done | (with_reducible rfl)
        try simp only [Act.put, ly1, ly2, ly3]
        refine onlyH (i := 22) rfl (by kernel_rfl) rfl (fun K hK => ?_)
        go_simp
        rw [← HN2.out, hw2, drew_alloc, ← HW7.out]
        refine hK.out _ _ e7 (fun hHeld => ?_)
        clear hK K
        try simp only [Act.put, ly1, ly2, ly3]
        refine onlyH (i := 23) rfl (by kernel_rfl) rfl (fun K hK => ?_)
        refine wp_append_run (.tmp 234) (.tmp 241) 70 rfl rfl rfl HRUN.out ?_
        refine hK.out _ _ (e8) (fun hHeld => ?_)
        clear hK K
        try simp only [Act.put, ly1, ly2, ly3]
        refine takeH (i := 24) (v := ?_) rfl (by kernel_rfl) (by kernel_rfl) (by kernel_rfl) (fun _ _ _ h => h) rfl ?_ hHeld ?_
        rotate_left
        · intro w hS; (try dsimp only at hS); obtain hS0 := hS; go_simp; first | done | (with_reducible rfl)
        try simp only [Act.put, ly1, ly2, ly3]
        refine takeH (i := 25) (v := ?_) rfl (by kernel_rfl) (by kernel_rfl) (by kernel_rfl) (fun _ _ _ h => h) rfl ?_ hHeld ?_
        rotate_left
        · intro w hS; (try dsimp only at hS); obtain hS0 := hS; go_simp; first | done | (with_reducible rfl)
        try simp only [Act.put, ly1, ly2, ly3]
        refine onlyH (i := 26) rfl (by kernel_rfl) rfl (fun K hK => ?_)
        go_simp
        rw [← HW9.out]
        refine hK.out _ _ (e9) (fun hHeld => ?_)
        clear hK K
        try simp only [Act.put, ly1, ly2, ly3]
        refine wpAnyH_done (by kernel_rfl) ?_ _
        clear hHeld
        go_wp2
        go_ret3
        exact ⟨d, r, _, rfl, HT.out, by omega, HB9.out⟩
      · refine Up.mk rfl rfl (fun K hK => ?_)
        go_simp
        refine (pick_any _ torn 9 r5 (by omega)).mono ?_
        rintro e wz ⟨rfl, hz⟩
        rw [hz]
        clear hz
        refine hK.out _ _ e6 (fun hHeld => ?_)
        clear hK K
        try simp only [Act.put, ly1, ly2, ly3]
        refine takeH (i := 21) (v := ?_) rfl (by kernel_rfl) (by kernel_rfl) (by kernel_rfl) (fun _ _ _ h => h) rfl ?_ hHeld ?_
        rotate_left
        · intro w hS; (try dsimp only at hS); obtain hS0 := hS; go_simp; first | done | (with_reducible rfl)
        try simp only [Act.put, ly1, ly2, ly3]
        refine manyH (rs := [8, 22]) (by kernel_rfl) (by simp) (by intro i hi; simp at hi; rcases hi with rfl | rfl <;> decide) (up2 ?_ ?_)
        · refine Up.mk rfl rfl (fun K hK => ?_)
          go_simp
          refine hK.out _ _ e6 (fun hHeld => ?_)
          clear hK K
          try simp only [Act.put, ly1, ly2, ly3]
          refine takeH (i := 9) (v := ?_) rfl (by kernel_rfl) (by kernel_rfl) (by kernel_rfl) (fun _ _ _ h => h) rfl ?_ hHeld ?_
          rotate_left
          · intro w hS; (try dsimp only at hS); obtain hS0 := hS; go_simp; first | done | (with_reducible rfl)
          try simp only [Act.put, ly1, ly2, ly3]
          refine takeH (i := 15) (v := ?_) rfl (by kernel_rfl) (by kernel_rfl) (by kernel_rfl) (fun _ _ _ h => h) rfl ?_ hHeld ?_
          rotate_left
          · intro w hS; (try dsimp only at hS); obtain hS0 := hS; go_simp; first | done | (with_reducible rfl)
          try simp only [Act.put, ly1, ly2, ly3]
          refine onlyH (i := 22) rfl (by kernel_rfl) rfl (fun K hK => ?_)
          go_simp
          rw [← HN2.out, hw2, drew_alloc, ← HW7.out]
          refine hK.out _ _ e7 (fun hHeld => ?_)
          clear hK K
          try simp only [Act.put, ly1, ly2, ly3]
          refine onlyH (i := 23) rfl (by kernel_rfl) rfl (fun K hK => ?_)
          refine wp_append_run (.tmp 234) (.tmp 241) 70 rfl rfl rfl HRUN.out ?_
          refine hK.out _ _ (e8) (fun hHeld => ?_)
          clear hK K
          try simp only [Act.put, ly1, ly2, ly3]
          refine takeH (i := 24) (v := ?_) rfl (by kernel_rfl) (by kernel_rfl) (by kernel_rfl) (fun _ _ _ h => h) rfl ?_ hHeld ?_
          rotate_left
          · intro w hS; (try dsimp only at hS); obtain hS0 := hS; go_simp; first | done | (with_reducible rfl)
          try simp only [Act.put, ly1, ly2, ly3]
          refine takeH (i := 25) (v := ?_) rfl (by kernel_rfl) (by kernel_rfl) (by kernel_rfl) (fun _ _ _ h => h) rfl ?_ hHeld ?_
          rotate_left
          · intro w hS; (try dsimp only at hS); obtain hS0 := hS; go_simp; first | done | (with_reducible rfl)
          try simp only [Act.put, ly1, ly2, ly3]
          refine onlyH (i := 26) rfl (by kernel_rfl) rfl (fun K hK => ?_)
          go_simp
          rw [← HW9.out]
          refine hK.out _ _ (e9) (fun hHeld => ?_)
          clear hK K
          try simp only [Act.put, ly1, ly2, ly3]
          refine wpAnyH_done (by kernel_rfl) ?_ _
          clear hHeld
          go_wp2
          go_ret3
          exact ⟨d, r, _, rfl, HT.out, by omega, HB9.out⟩
        · refine Up.mk rfl rfl (fun K hK => ?_)
          go_simp
          rw [← HN2.out, hw2, drew_alloc, ← HW7.out]
          refine hK.out _ _ e7 (fun hHeld => ?_)
          clear hK K
          try simp only [Act.put, ly1, ly2, ly3]
          refine onlyH (i := 8) rfl (by kernel_rfl) rfl (fun K hK => ?_)
          go_simp
          refine hK.out _ _ e7 (fun hHeld => ?_)
          clear hK K
          try simp only [Act.put, ly1, ly2, ly3]
          refine takeH (i := 9) (v := ?_) rfl (by kernel_rfl) (by kernel_rfl) (by kernel_rfl) (fun _ _ _ h => h) rfl ?_ hHeld ?_
          rotate_left
          · intro w hS; (try dsimp only at hS); obtain hS0 := hS; go_simp; first | done | (with_reducible rfl)
          try simp only [Act.put, ly1, ly2, ly3]
          refine takeH (i := 15) (v := ?_) rfl (by kernel_rfl) (by kernel_rfl) (by kernel_rfl) (fun _ _ _ h => h) rfl ?_ hHeld ?_
          rotate_left
          · intro w hS; (try dsimp only at hS); obtain hS0 := hS; go_simp; first | done | (with_reducible rfl)
          try simp only [Act.put, ly1, ly2, ly3]
          refine onlyH (i := 23) rfl (by kernel_rfl) rfl (fun K hK => ?_)
          refine wp_append_run (.tmp 234) (.tmp 241) 70 rfl rfl rfl HRUN.out ?_
          refine hK.out _ _ (e8) (fun hHeld => ?_)
          clear hK K
          try simp only [Act.put, ly1, ly2, ly3]
          refine takeH (i := 24) (v := ?_) rfl (by kernel_rfl) (by kernel_rfl) (by kernel_rfl) (fun _ _ _ h => h) rfl ?_ hHeld ?_
          rotate_left
          · intro w hS; (try dsimp only at hS); obtain hS0 := hS; go_simp; first | done | (with_reducible rfl)
          try simp only [Act.put, ly1, ly2, ly3]
          refine takeH (i := 25) (v := ?_) rfl (by kernel_rfl) (by kernel_rfl) (by kernel_rfl) (fun _ _ _ h => h) rfl ?_ hHeld ?_
          rotate_left
          · intro w hS; (try dsimp only at hS); obtain hS0 := hS; go_simp; first | done | (with_reducible rfl)
          try simp only [Act.put, ly1, ly2, ly3]
          refine onlyH (i := 26) rfl (by kernel_rfl) rfl (fun K hK => ?_)
          go_simp
          rw [← HW9.out]
          refine hK.out _ _ (e9) (fun hHeld => ?_)
          clear hK K
          try simp only [Act.put, ly1, ly2, ly3]
          refine wpAnyH_done (by kernel_rfl) ?_ _
          clear hHeld
          go_wp2
          go_ret3
          exact ⟨d, r, _, rfl, HT.out, by omega, HB9.out⟩
    · refine Up.mk rfl rfl (fun K hK => ?_)
      go_simp
      refine hK.out _ _ e6 (fun hHeld => ?_)
      clear hK K
      try simp only [Act.put, ly1, ly2, ly3]
      refine takeH (i := 9) (v := ?_) rfl (by kernel_rfl) (by kernel_rfl) (by kernel_rfl) (fun _ _ _ h => h) rfl ?_ hHeld ?_
      rotate_left
      · intro w hS; (try dsimp only at hS); obtain hS0 := hS; go_simp; first | done | (with_reducible rfl)
      try simp only [Act.put, ly1, ly2, ly3]
      refine manyH (rs := [4, 20]) (by kernel_rfl) (by simp) (by intro i hi; simp at hi; rcases hi with rfl | rfl <;> decide) (up2 ?_ ?_)
      · refine Up.mk rfl rfl (fun K hK => ?_)
        go_simp
        refine hK.out _ _ e6 (fun hHeld => ?_)
        clear hK K
        try simp only [Act.put, ly1, ly2, ly3]
        refine takeH (i := 15) (v := ?_) rfl (by kernel_rfl) (by kernel_rfl) (by kernel_rfl) (fun _ _ _ h => h) rfl ?_ hHeld ?_
        rotate_left
        · intro w hS; (try dsimp only at hS); obtain hS0 := hS; go_simp; first | done | (with_reducible rfl)
        try simp only [Act.put, ly1, ly2, ly3]
        refine onlyH (i := 20) rfl (by kernel_rfl) rfl (fun K hK => ?_)
        go_simp
        refine (pick_any _ torn 9 r5 (by omega)).mono ?_
        rintro e wz ⟨rfl, hz⟩
        rw [hz]
        clear hz
        refine hK.out _ _ e6 (fun hHeld => ?_)
        clear hK K
        try simp only [Act.put, ly1, ly2, ly3]
        refine takeH (i := 21) (v := ?_) rfl (by kernel_rfl) (by kernel_rfl) (by kernel_rfl) (fun _ _ _ h => h) rfl ?_ hHeld ?_
        rotate_left
        · intro w hS; (try dsimp only at hS); obtain hS0 := hS; go_simp; first | done | (with_reducible rfl)
        try simp only [Act.put, ly1, ly2, ly3]
        refine onlyH (i := 22) rfl (by kernel_rfl) rfl (fun K hK => ?_)
        go_simp
        rw [← HN2.out, hw2, drew_alloc, ← HW7.out]
        refine hK.out _ _ e7 (fun hHeld => ?_)
        clear hK K
        try simp only [Act.put, ly1, ly2, ly3]
        refine onlyH (i := 23) rfl (by kernel_rfl) rfl (fun K hK => ?_)
        refine wp_append_run (.tmp 234) (.tmp 241) 70 rfl rfl rfl HRUN.out ?_
        refine hK.out _ _ (e8) (fun hHeld => ?_)
        clear hK K
        try simp only [Act.put, ly1, ly2, ly3]
        refine takeH (i := 24) (v := ?_) rfl (by kernel_rfl) (by kernel_rfl) (by kernel_rfl) (fun _ _ _ h => h) rfl ?_ hHeld ?_
        rotate_left
        · intro w hS; (try dsimp only at hS); obtain hS0 := hS; go_simp; first | done | (with_reducible rfl)
        try simp only [Act.put, ly1, ly2, ly3]
        refine takeH (i := 25) (v := ?_) rfl (by kernel_rfl) (by kernel_rfl) (by kernel_rfl) (fun _ _ _ h => h) rfl ?_ hHeld ?_
        rotate_left
        · intro w hS; (try dsimp only at hS); obtain hS0 := hS; go_simp; first | done | (with_reducible rfl)
        try simp only [Act.put, ly1, ly2, ly3]
        refine onlyH (i := 26) rfl (by kernel_rfl) rfl (fun K hK => ?_)
        go_simp
        rw [← HW9.out]
        refine hK.out _ _ (e9) (fun hHeld => ?_)
        clear hK K
        try simp only [Act.put, ly1, ly2, ly3]
        refine wpAnyH_done (by kernel_rfl) ?_ _
        clear hHeld
        go_wp2
        go_ret3
        exact ⟨d, r, _, rfl, HT.out, by omega, HB9.out⟩
      · refine Up.mk rfl rfl (fun K hK => ?_)
        go_simp
        refine (pick_any _ torn 9 r5 (by omega)).mono ?_
        rintro e wz ⟨rfl, hz⟩
        rw [hz]
        clear hz
        refine hK.out _ _ e6 (fun hHeld => ?_)
        clear hK K
        try simp only [Act.put, ly1, ly2, ly3]
        refine takeH (i := 21) (v := ?_) rfl (by kernel_rfl) (by kernel_rfl) (by kernel_rfl) (fun _ _ _ h => h) rfl ?_ hHeld ?_
        rotate_left
        · intro w hS; (try dsimp only at hS); obtain hS0 := hS; go_simp; first | done | (with_reducible rfl)
        try simp only [Act.put, ly1, ly2, ly3]
        refine manyH (rs := [4, 22]) (by kernel_rfl) (by simp) (by intro i hi; simp at hi; rcases hi with rfl | rfl <;> decide) (up2 ?_ ?_)
        · refine Up.mk rfl rfl (fun K hK => ?_)
          go_simp
          refine hK.out _ _ e6 (fun hHeld => ?_)
          clear hK K
          try simp only [Act.put, ly1, ly2, ly3]
          refine takeH (i := 15) (v := ?_) rfl (by kernel_rfl) (by kernel_rfl) (by kernel_rfl) (fun _ _ _ h => h) rfl ?_ hHeld ?_
          rotate_left
          · intro w hS; (try dsimp only at hS); obtain hS0 := hS; go_simp; first | done | (with_reducible rfl)
          try simp only [Act.put, ly1, ly2, ly3]
          refine onlyH (i := 22) rfl (by kernel_rfl) rfl (fun K hK => ?_)
          go_simp
          rw [← HN2.out, hw2, drew_alloc, ← HW7.out]
          refine hK.out _ _ e7 (fun hHeld => ?_)
          clear hK K
          try simp only [Act.put, ly1, ly2, ly3]
          refine onlyH (i := 23) rfl (by kernel_rfl) rfl (fun K hK => ?_)
          refine wp_append_run (.tmp 234) (.tmp 241) 70 rfl rfl rfl HRUN.out ?_
          refine hK.out _ _ (e8) (fun hHeld => ?_)
          clear hK K
          try simp only [Act.put, ly1, ly2, ly3]
          refine takeH (i := 24) (v := ?_) rfl (by kernel_rfl) (by kernel_rfl) (by kernel_rfl) (fun _ _ _ h => h) rfl ?_ hHeld ?_
          rotate_left
          · intro w hS; (try dsimp only at hS); obtain hS0 := hS; go_simp; first | done | (with_reducible rfl)
          try simp only [Act.put, ly1, ly2, ly3]
          refine takeH (i := 25) (v := ?_) rfl (by kernel_rfl) (by kernel_rfl) (by kernel_rfl) (fun _ _ _ h => h) rfl ?_ hHeld ?_
          rotate_left
          · intro w hS; (try dsimp only at hS); obtain hS0 := hS; go_simp; first | done | (with_reducible rfl)
          try simp only [Act.put, ly1, ly2, ly3]
          refine onlyH (i := 26) rfl (by kernel_rfl) rfl (fun K hK => ?_)
          go_simp
          rw [← HW9.out]
          refine hK.out _ _ (e9) (fun hHeld => ?_)
          clear hK K
          try simp only [Act.put, ly1, ly2, ly3]
          refine wpAnyH_done (by kernel_rfl) ?_ _
          clear hHeld
          go_wp2
          go_ret3
          exact ⟨d, r, _, rfl, HT.out, by omega, HB9.out⟩
        · refine Up.mk rfl rfl (fun K hK => ?_)
          go_simp
          rw [← HN2.out, hw2, drew_alloc, ← HW7.out]
          refine hK.out _ _ e7 (fun hHeld => ?_)
          clear hK K
          try simp only [Act.put, ly1, ly2, ly3]
          refine onlyH (i := 4) rfl (by kernel_rfl) rfl (fun K hK => ?_)
          go_simp
          refine hK.out _ _ e7 (fun hHeld => ?_)
          clear hK K
          try simp only [Act.put, ly1, ly2, ly3]
          refine takeH (i := 15) (v := ?_) rfl (by kernel_rfl) (by kernel_rfl) (by kernel_rfl) (fun _ _ _ h => h) rfl ?_ hHeld ?_
          rotate_left
          · intro w hS; (try dsimp only at hS); obtain hS0 := hS; go_simp; first | done | (with_reducible rfl)
          try simp only [Act.put, ly1, ly2, ly3]
          refine onlyH (i := 23) rfl (by kernel_rfl) rfl (fun K hK => ?_)
          refine wp_append_run (.tmp 234) (.tmp 241) 70 rfl rfl rfl HRUN.out ?_
          refine hK.out _ _ (e8) (fun hHeld => ?_)
          clear hK K
          try simp only [Act.put, ly1, ly2, ly3]
          refine takeH (i := 24) (v := ?_) rfl (by kernel_rfl) (by kernel_rfl) (by kernel_rfl) (fun _ _ _ h => h) rfl ?_ hHeld ?_
          rotate_left
          · intro w hS; (try dsimp only at hS); obtain hS0 := hS; go_simp; first | done | (with_reducible rfl)
          try simp only [Act.put, ly1, ly2, ly3]
          refine takeH (i := 25) (v := ?_) rfl (by kernel_rfl) (by kernel_rfl) (by kernel_rfl) (fun _ _ _ h => h) rfl ?_ hHeld ?_
          rotate_left
          · intro w hS; (try dsimp only at hS); obtain hS0 := hS; go_simp; first | done | (with_reducible rfl)
          try simp only [Act.put, ly1, ly2, ly3]
          refine onlyH (i := 26) rfl (by kernel_rfl) rfl (fun K hK => ?_)
          go_simp
          rw [← HW9.out]
          refine hK.out _ _ (e9) (fun hHeld => ?_)
          clear hK K
          try simp only [Act.put, ly1, ly2, ly3]
          refine wpAnyH_done (by kernel_rfl) ?_ _
          clear hHeld
          go_wp2
          go_ret3
          exact ⟨d, r, _, rfl, HT.out, by omega, HB9.out⟩
    · refine Up.mk rfl rfl (fun K hK => ?_)
      go_simp
      refine (pick_any _ torn 9 r5 (by omega)).mono ?_
      rintro e wz ⟨rfl, hz⟩
      rw [hz]
      clear hz
      refine hK.out _ _ e6 (fun hHeld => ?_)
      clear hK K
      try simp only [Act.put, ly1, ly2, ly3]
      refine takeH (i := 21) (v := ?_) rfl (by kernel_rfl) (by kernel_rfl) (by kernel_rfl) (fun _ _ _ h => h) rfl ?_ hHeld ?_
      rotate_left
      · intro w hS; (try dsimp only at hS); obtain hS0 := hS; go_simp; first | done | (with_reducible rfl)
      try simp only [Act.put, ly1, ly2, ly3]
      refine manyH (rs := [4, 8, 22]) (by kernel_rfl) (by simp) (by intro i hi; simp at hi; rcases hi with rfl | rfl | rfl <;> decide) (up3 ?_ ?_ ?_)
      · refine Up.mk rfl rfl (fun K hK => ?_)
        go_simp
        refine hK.out _ _ e6 (fun hHeld => ?_)
        clear hK K
        try simp only [Act.put, ly1, ly2, ly3]
        refine manyH (rs := [8, 22]) (by kernel_rfl) (by simp) (by intro i hi; simp at hi; rcases hi with rfl | rfl <;> decide) (up2 ?_ ?_)
        · refine Up.mk rfl rfl (fun K hK => ?_)
          go_simp
          refine hK.out _ _ e6 (fun hHeld => ?_)
          clear hK K
          try simp only [Act.put, ly1, ly2, ly3]
          refine takeH (i := 9) (v := ?_) rfl (by kernel_rfl) (by kernel_rfl) (by kernel_rfl) (fun _ _ _ h => h) rfl ?_ hHeld ?_
          rotate_left
          · intro w hS; (try dsimp only at hS); obtain hS0 := hS; go_simp; first | done | (with_reducible rfl)
          try simp only [Act.put, ly1, ly2, ly3]
          refine takeH (i := 15) (v := ?_) rfl (by kernel_rfl) (by kernel_rfl) (by kernel_rfl) (fun _ _ _ h => h) rfl ?_ hHeld ?_
          rotate_left
          · intro w hS; (try dsimp only at hS); obtain hS0 := hS; go_simp; first | done | (with_reducible rfl)
          try simp only [Act.put, ly1, ly2, ly3]
          refine onlyH (i := 22) rfl (by kernel_rfl) rfl (fun K hK => ?_)
          go_simp
          rw [← HN2.out, hw2, drew_alloc, ← HW7.out]
          refine hK.out _ _ e7 (fun hHeld => ?_)
          clear hK K
          try simp only [Act.put, ly1, ly2, ly3]
          refine onlyH (i := 23) rfl (by kernel_rfl) rfl (fun K hK => ?_)
          refine wp_append_run (.tmp 234) (.tmp 241) 70 rfl rfl rfl HRUN.out ?_
          refine hK.out _ _ (e8) (fun hHeld => ?_)
          clear hK K
          try simp only [Act.put, ly1, ly2, ly3]
          refine takeH (i := 24) (v := ?_) rfl (by kernel_rfl) (by kernel_rfl) (by kernel_rfl) (fun _ _ _ h => h) rfl ?_ hHeld ?_
          rotate_left
          · intro w hS; (try dsimp only at hS); obtain hS0 := hS; go_simp; first | done | (with_reducible rfl)
          try simp only [Act.put, ly1, ly2, ly3]
          refine takeH (i := 25) (v := ?_) rfl (by kernel_rfl) (by kernel_rfl) (by kernel_rfl) (fun _ _ _ h => h) rfl ?_ hHeld ?_
          rotate_left
          · intro w hS; (try dsimp only at hS); obtain hS0 := hS; go_simp; first | done | (with_reducible rfl)
          try simp only [Act.put, ly1, ly2, ly3]
          refine onlyH (i := 26) rfl (by kernel_rfl) rfl (fun K hK => ?_)
          go_simp
          rw [← HW9.out]
          refine hK.out _ _ (e9) (fun hHeld => ?_)
          clear hK K
          try simp only [Act.put, ly1, ly2, ly3]
          refine wpAnyH_done (by kernel_rfl) ?_ _
          clear hHeld
          go_wp2
          go_ret3
          exact ⟨d, r, _, rfl, HT.out, by omega, HB9.out⟩
        · refine Up.mk rfl rfl (fun K hK => ?_)
          go_simp
          rw [← HN2.out, hw2, drew_alloc, ← HW7.out]
          refine hK.out _ _ e7 (fun hHeld => ?_)
          clear hK K
          try simp only [Act.put, ly1, ly2, ly3]
          refine onlyH (i := 8) rfl (by kernel_rfl) rfl (fun K hK => ?_)
          go_simp
          refine hK.out _ _ e7 (fun hHeld => ?_)
          clear hK K
          try simp only [Act.put, ly1, ly2, ly3]
          refine takeH (i := 9) (v := ?_) rfl (by kernel_rfl) (by kernel_rfl) (by kernel_rfl) (fun _ _ _ h => h) rfl ?_ hHeld ?_
          rotate_left
          · intro w hS; (try dsimp only at hS); obtain hS0 := hS; go_simp; first | done | (with_reducible rfl)
          try simp only [Act.put, ly1, ly2, ly3]
          refine takeH (i := 15) (v := ?_) rfl (by kernel_rfl) (by kernel_rfl) (by kernel_rfl) (fun _ _ _ h => h) rfl ?_ hHeld ?_
          rotate_left
          · intro w hS; (try dsimp only at hS); obtain hS0 := hS; go_simp; first | done | (with_reducible rfl)
          try simp only [Act.put, ly1, ly2, ly3]
          refine onlyH (i := 23) rfl (by kernel_rfl) rfl (fun K hK => ?_)
          refine wp_append_run (.tmp 234) (.tmp 241) 70 rfl rfl rfl HRUN.out ?_
          refine hK.out _ _ (e8) (fun hHeld => ?_)
          clear hK K
          try simp only [Act.put, ly1, ly2, ly3]
          refine takeH (i := 24) (v := ?_) rfl (by kernel_rfl) (by kernel_rfl) (by kernel_rfl) (fun _ _ _ h => h) rfl ?_ hHeld ?_
          rotate_left
          · intro w hS; (try dsimp only at hS); obtain hS0 := hS; go_simp; first | done | (with_reducible rfl)
          try simp only [Act.put, ly1, ly2, ly3]
          refine takeH (i := 25) (v := ?_) rfl (by kernel_rfl) (by kernel_rfl) (by kernel_rfl) (fun _ _ _ h => h) rfl ?_ hHeld ?_
          rotate_left
          · intro w hS; (try dsimp only at hS); obtain hS0 := hS; go_simp; first | done | (with_reducible rfl)
          try simp only [Act.put, ly1, ly2, ly3]
          refine onlyH (i := 26) rfl (by kernel_rfl) rfl (fun K hK => ?_)
          go_simp
          rw [← HW9.out]
          refine hK.out _ _ (e9) (fun hHeld => ?_)
          clear hK K
          try simp only [Act.put, ly1, ly2, ly3]
          refine wpAnyH_done (by kernel_rfl) ?_ _
          clear hHeld
          go_wp2
          go_ret3
          exact ⟨d, r, _, rfl, HT.out, by omega, HB9.out⟩
      · refine Up.mk rfl rfl (fun K hK => ?_)
        go_simp
        refine hK.out _ _ e6 (fun hHeld => ?_)
        clear hK K
        try simp only [Act.put, ly1, ly2, ly3]
        refine takeH (i := 9) (v := ?_) rfl (by kernel_rfl) (by kernel_rfl) (by kernel_rfl) (fun _ _ _ h => h) rfl ?_ hHeld ?_
        rotate_left
        · intro w hS; (try dsimp only at hS); obtain hS0 := hS; go_simp; first | done | (with_reducible rfl)
        try simp only [Act.put, ly1, ly2, ly3]
        refine manyH (rs := [4, 22]) (by kernel_rfl) (by simp) (by intro i hi; simp at hi; rcases hi with rfl | rfl <;> decide) (up2 ?_ ?_)
        · refine Up.mk rfl rfl (fun K hK => ?_)
          go_simp
          refine hK.out _ _ e6 (fun hHeld => ?_)
          clear hK K
          try simp only [Act.put, ly1, ly2, ly3]
          refine takeH (i := 15) (v := ?_) rfl (by kernel_rfl) (by kernel_rfl) (by kernel_rfl) (fun _ _ _ h => h) rfl ?_ hHeld ?_
          rotate_left
          · intro w hS; (try dsimp only at hS); obtain hS0 := hS; go_simp; first | done | (with_reducible rfl)
          try simp only [Act.put, ly1, ly2, ly3]
          refine onlyH (i := 22) rfl (by kernel_rfl) rfl (fun K hK => ?_)
          go_simp
          rw [← HN2.out, hw2, drew_alloc, ← HW7.out]
          refine hK.out _ _ e7 (fun hHeld => ?_)
          clear hK K
          try simp only [Act.put, ly1, ly2, ly3]
          refine onlyH (i := 23) rfl (by kernel_rfl) rfl (fun K hK => ?_)
          refine wp_append_run (.tmp 234) (.tmp 241) 70 rfl rfl rfl HRUN.out ?_
          refine hK.out _ _ (e8) (fun hHeld => ?_)
          clear hK K
          try simp only [Act.put, ly1, ly2, ly3]
          refine takeH (i := 24) (v := ?_) rfl (by kernel_rfl) (by kernel_rfl) (by kernel_rfl) (fun _ _ _ h => h) rfl ?_ hHeld ?_
          rotate_left
          · intro w hS; (try dsimp only at hS); obtain hS0 := hS; go_simp; first | done | (with_reducible rfl)
          try simp only [Act.put, ly1, ly2, ly3]
          refine takeH (i := 25) (v := ?_) rfl (by kernel_rfl) (by kernel_rfl) (by kernel_rfl) (fun _ _ _ h => h) rfl ?_ hHeld ?_
          rotate_left
          · intro w hS; (try dsimp only at hS); obtain hS0 := hS; go_simp; first | done | (with_reducible rfl)
          try simp only [Act.put, ly1, ly2, ly3]
          refine onlyH (i := 26) rfl (by kernel_rfl) rfl (fun K hK => ?_)
          go_simp
          rw [← HW9.out]
          refine hK.out _ _ (e9) (fun hHeld => ?_)
          clear hK K
          try simp only [Act.put, ly1, ly2, ly3]
          refine wpAnyH_done (by kernel_rfl) ?_ _
          clear hHeld
          go_wp2
          go_ret3
          exact ⟨d, r, _, rfl, HT.out, by omega, HB9.out⟩
        · refine Up.mk rfl rfl (fun K hK => ?_)
          go_simp
          rw [← HN2.out, hw2, drew_alloc, ← HW7.out]
          refine hK.out _ _ e7 (fun hHeld => ?_)
          clear hK K
          try simp only [Act.put, ly1, ly2, ly3]
          refine onlyH (i := 4) rfl (by kernel_rfl) rfl (fun K hK => ?_)
          go_simp
          refine hK.out _ _ e7 (fun hHeld => ?_)
          clear hK K
          try simp only [Act.put, ly1, ly2, ly3]
          refine takeH (i := 15) (v := ?_) rfl (by kernel_rfl) (by kernel_rfl) (by kernel_rfl) (fun _ _ _ h => h) rfl ?_ hHeld ?_
          rotate_left
          · intro w hS; (try dsimp only at hS); obtain hS0 := hS; go_simp; first | done | (with_reducible rfl)
          try simp only [Act.put, ly1, ly2, ly3]
          refine onlyH (i := 23) rfl (by kernel_rfl) rfl (fun K hK => ?_)
          refine wp_append_run (.tmp 234) (.tmp 241) 70 rfl rfl rfl HRUN.out ?_
          refine hK.out _ _ (e8) (fun hHeld => ?_)
          clear hK K
          try simp only [Act.put, ly1, ly2, ly3]
          refine takeH (i := 24) (v := ?_) rfl (by kernel_rfl) (by kernel_rfl) (by kernel_rfl) (fun _ _ _ h => h) rfl ?_ hHeld ?_
          rotate_left
          · intro w hS; (try dsimp only at hS); obtain hS0 := hS; go_simp; first | done | (with_reducible rfl)
          try simp only [Act.put, ly1, ly2, ly3]
          refine takeH (i := 25) (v := ?_) rfl (by kernel_rfl) (by kernel_rfl) (by kernel_rfl) (fun _ _ _ h => h) rfl ?_ hHeld ?_
          rotate_left
          · intro w hS; (try dsimp only at hS); obtain hS0 := hS; go_simp; first | done | (with_reducible rfl)
          try simp only [Act.put, ly1, ly2, ly3]
          refine onlyH (i := 26) rfl (by kernel_rfl) rfl (fun K hK => ?_)
          go_simp
          rw [← HW9.out]
          refine hK.out _ _ (e9) (fun hHeld => ?_)
          clear hK K
          try simp only [Act.put, ly1, ly2, ly3]
          refine wpAnyH_done (by kernel_rfl) ?_ _
          clear hHeld
          go_wp2
          go_ret3
          exact ⟨d, r, _, rfl, HT.out, by omega, HB9.out⟩
      · refine Up.mk rfl rfl (fun K hK => ?_)
        go_simp
        rw [← HN2.out, hw2, drew_alloc, ← HW7.out]
        refine hK.out _ _ e7 (fun hHeld => ?_)
        clear hK K
        try simp only [Act.put, ly1, ly2, ly3]
        refine manyH (rs := [4, 8]) (by kernel_rfl) (by simp) (by intro i hi; simp at hi; rcases hi with rfl | rfl <;> decide) (up2 ?_ ?_)
        · refine Up.mk rfl rfl (fun K hK => ?_)
          go_simp
          refine hK.out _ _ e7 (fun hHeld => ?_)
          clear hK K
          try simp only [Act.put, ly1, ly2, ly3]
          refine onlyH (i := 8) rfl (by kernel_rfl) rfl (fun K hK => ?_)
          go_simp
          refine hK.out _ _ e7 (fun hHeld => ?_)
          clear hK K
          try simp only [Act.put, ly1, ly2, ly3]
          refine takeH (i := 9) (v := ?_) rfl (by kernel_rfl) (by kernel_rfl) (by kernel_rfl) (fun _ _ _ h => h) rfl ?_ hHeld ?_
          rotate_left
          · intro w hS; (try dsimp only at hS); obtain hS0 := hS; go_simp; first | done | (with_reducible rfl)
          try simp only [Act.put, ly1, ly2, ly3]
          refine takeH (i := 15) (v := ?_) rfl (by kernel_rfl) (by kernel_rfl) (by kernel_rfl) (fun _ _ _ h => h) rfl ?_ hHeld ?_
          rotate_left
          · intro w hS; (try dsimp only at hS); obtain hS0 := hS; go_simp; first | done | (with_reducible rfl)
          try simp only [Act.put, ly1, ly2, ly3]
          refine onlyH (i := 23) rfl (by kernel_rfl) rfl (fun K hK => ?_)
          refine wp_append_run (.tmp 234) (.tmp 241) 70 rfl rfl rfl HRUN.out ?_
          refine hK.out _ _ (e8) (fun hHeld => ?_)
          clear hK K
          try simp only [Act.put, ly1, ly2, ly3]
          refine takeH (i := 24) (v := ?_) rfl (by kernel_rfl) (by kernel_rfl) (by kernel_rfl) (fun _ _ _ h => h) rfl ?_ hHeld ?_
          rotate_left
          · intro w hS; (try dsimp only at hS); obtain hS0 := hS; go_simp; first | done | (with_reducible rfl)
          try simp only [Act.put, ly1, ly2, ly3]
          refine takeH (i := 25) (v := ?_) rfl (by kernel_rfl) (by kernel_rfl) (by kernel_rfl) (fun _ _ _ h => h) rfl ?_ hHeld ?_
          rotate_left
          · intro w hS; (try dsimp only at hS); obtain hS0 := hS; go_simp; first | done | (with_reducible rfl)
          try simp only [Act.put, ly1, ly2, ly3]
          refine onlyH (i := 26) rfl (by kernel_rfl) rfl (fun K hK => ?_)
          go_simp
          rw [← HW9.out]
          refine hK.out _ _ (e9) (fun hHeld => ?_)
          clear hK K
          try simp only [Act.put, ly1, ly2, ly3]
          refine wpAnyH_done (by kernel_rfl) ?_ _
          clear hHeld
          go_wp2
          go_ret3
          exact ⟨d, r, _, rfl, HT.out, by omega, HB9.out⟩
        · refine Up.mk rfl rfl (fun K hK => ?_)
          go_simp
          refine hK.out _ _ e7 (fun hHeld => ?_)
          clear hK K
          try simp only [Act.put, ly1, ly2, ly3]
          refine takeH (i := 9) (v := ?_) rfl (by kernel_rfl) (by kernel_rfl) (by kernel_rfl) (fun _ _ _ h => h) rfl ?_ hHeld ?_
          rotate_left
          · intro w hS; (try dsimp only at hS); obtain hS0 := hS; go_simp; first | done | (with_reducible rfl)
          try simp only [Act.put, ly1, ly2, ly3]
          refine onlyH (i := 4) rfl (by kernel_rfl) rfl (fun K hK => ?_)
          go_simp
          refine hK.out _ _ e7 (fun hHeld => ?_)
          clear hK K
          try simp only [Act.put, ly1, ly2, ly3]
          refine takeH (i := 15) (v := ?_) rfl (by kernel_rfl) (by kernel_rfl) (by kernel_rfl) (fun _ _ _ h => h) rfl ?_ hHeld ?_
          rotate_left
          · intro w hS; (try dsimp only at hS); obtain hS0 := hS; go_simp; first | done | (with_reducible rfl)
          try simp only [Act.put, ly1, ly2, ly3]
          refine onlyH (i := 23) rfl (by kernel_rfl) rfl (fun K hK => ?_)
          refine wp_append_run (.tmp 234) (.tmp 241) 70 rfl rfl rfl HRUN.out ?_
          refine hK.out _ _ (e8) (fun hHeld => ?_)
          clear hK K
          try simp only [Act.put, ly1, ly2, ly3]
          refine takeH (i := 24) (v := ?_) rfl (by kernel_rfl) (by kernel_rfl) (by kernel_rfl) (fun _ _ _ h => h) rfl ?_ hHeld ?_
          rotate_left
          · intro w hS; (try dsimp only at hS); obtain hS0 := hS; go_simp; first | done | (with_reducible rfl)
          try simp only [Act.put, ly1, ly2, ly3]
          refine takeH (i := 25) (v := ?_) rfl (by kernel_rfl) (by kernel_rfl) (by kernel_rfl) (fun _ _ _ h => h) rfl ?_ hHeld ?_
          rotate_left
          · intro w hS; (try dsimp only at hS); obtain hS0 := hS; go_simp; first | done | (with_reducible rfl)
          try simp only [Act.put, ly1, ly2, ly3]
          refine onlyH (i := 26) rfl (by kernel_rfl) rfl (fun K hK => ?_)
          go_simp
          rw [← HW9.out]
          refine hK.out _ _ (e9) (fun hHeld => ?_)
          clear hK K
          try simp only [Act.put, ly1, ly2, ly3]
          refine wpAnyH_done (by kernel_rfl) ?_ _
          clear hHeld
          go_wp2
          go_ret3
          exact ⟨d, r, _, rfl, HT.out, by omega, HB9.out⟩
  · refine Up.mk rfl rfl (fun K hK => ?_)
    go_simp
    refine (pick_any _ torn 9 r5 (by omega)).mono ?_
    rintro e wz ⟨rfl, hz⟩
    rw [hz]
    clear hz
    refine hK.out _ _ e6 (fun hHeld => ?_)
    clear hK K
    try simp only [Act.put, ly1, ly2, ly3]
    refine takeH (i := 21) (v := ?_) rfl (by kernel_rfl) (by kernel_rfl) (by kernel_rfl) (fun _ _ _ h => h) rfl ?_ hHeld ?_
    rotate_left
    · intro w hS; (try dsimp only at hS); obtain hS0 := hS; go_simp; first | done | (with_reducible rfl)
    try simp only [Act.put, ly1, ly2, ly3]
    refine manyH (rs := [4, 8, 13, 22]) (by kernel_rfl) (by simp) (by intro i hi; simp at hi; rcases hi with rfl | rfl | rfl | rfl <;> decide) (up4 ?_ ?_ ?_ ?_)
    · refine Up.mk rfl rfl (fun K hK => ?_)
      go_simp
      refine hK.out _ _ e6 (fun hHeld => ?_)
      clear hK K
      try simp only [Act.put, ly1, ly2, ly3]
      refine manyH (rs := [8, 13, 22]) (by kernel_rfl) (by simp) (by intro i hi; simp at hi; rcases hi with rfl | rfl | rfl <;> decide) (up3 ?_ ?_ ?_)
      · refine Up.mk rfl rfl (fun K hK => ?_)
        go_simp
        refine hK.out _ _ e6 (fun hHeld => ?_)
        clear hK K
        try simp only [Act.put, ly1, ly2, ly3]
        refine takeH (i := 9) (v := ?_) rfl (by kernel_rfl) (by kernel_rfl) (by kernel_rfl) (fun _ _ _ h => h) rfl ?_ hHeld ?_
        rotate_left
        · intro w hS; (try dsimp only at hS); obtain hS0 := hS; go_simp; first | done | (with_reducible rfl)
        try simp only [Act.put, ly1, ly2, ly3]
        refine manyH (rs := [13, 22]) (by kernel_rfl) (by simp) (by intro i hi; simp at hi; rcases hi with rfl | rfl <;> decide) (up2 ?_ ?_)
        · refine Up.mk rfl rfl (fun K hK => ?_)
          go_simp
          refine hK.out _ _ e6 (fun hHeld => ?_)
          clear hK K
          try simp only [Act.put, ly1, ly2, ly3]
          refine takeH (i := 14) (v := ?_) rfl (by kernel_rfl) (by kernel_rfl) (by kernel_rfl) (fun _ _ _ h => h) rfl ?_ hHeld ?_
          rotate_left
          · intro w hS; (try dsimp only at hS); obtain hS0 := hS; go_simp; first | done | (with_reducible rfl)
          try simp only [Act.put, ly1, ly2, ly3]
          refine takeH (i := 15) (v := ?_) rfl (by kernel_rfl) (by kernel_rfl) (by kernel_rfl) (fun _ _ _ h => h) rfl ?_ hHeld ?_
          rotate_left
          · intro w hS; (try dsimp only at hS); obtain hS0 := hS; go_simp; first | done | (with_reducible rfl)
          try simp only [Act.put, ly1, ly2, ly3]
          refine onlyH (i := 22) rfl (by kernel_rfl) rfl (fun K hK => ?_)
          go_simp
          rw [← HN2.out, hw2, drew_alloc, ← HW7.out]
          refine hK.out _ _ e7 (fun hHeld => ?_)
          clear hK K
          try simp only [Act.put, ly1, ly2, ly3]
          refine onlyH (i := 23) rfl (by kernel_rfl) rfl (fun K hK => ?_)
          refine wp_append_run (.tmp 234) (.tmp 241) 70 rfl rfl rfl HRUN.out ?_
          refine hK.out _ _ (e8) (fun hHeld => ?_)
          clear hK K
          try simp only [Act.put, ly1, ly2, ly3]
          refine takeH (i := 24) (v := ?_) rfl (by kernel_rfl) (by kernel_rfl) (by kernel_rfl) (fun _ _ _ h => h) rfl ?_ hHeld ?_
          rotate_left
          · intro w hS; (try dsimp only at hS); obtain hS0 := hS; go_simp; first | done | (with_reducible rfl)
          try simp only [Act.put, ly1, ly2, ly3]
          refine takeH (i := 25) (v := ?_) rfl (by kernel_rfl) (by kernel_rfl) (by kernel_rfl) (fun _ _ _ h => h) rfl ?_ hHeld ?_
          rotate_left
          · intro w hS; (try dsimp only at hS); obtain hS0 := hS; go_simp; first | done | (with_reducible rfl)
          try simp only [Act.put, ly1, ly2, ly3]
          refine onlyH (i := 26) rfl (by kernel_rfl) rfl (fun K hK => ?_)
          go_simp
          rw [← HW9.out]
          refine hK.out _ _ (e9) (fun hHeld => ?_)
          clear hK K
          try simp only [Act.put, ly1, ly2, ly3]
          refine wpAnyH_done (by kernel_rfl) ?_ _
          clear hHeld
          go_wp2
          go_ret3
          exact ⟨d, r, _, rfl, HT.out, by omega, HB9.out⟩
        · refine Up.mk rfl rfl (fun K hK => ?_)
          go_simp
          rw [← HN2.out, hw2, drew_alloc, ← HW7.out]
          refine hK.out _ _ e7 (fun hHeld => ?_)
          clear hK K
          try simp only [Act.put, ly1, ly2, ly3]
          refine onlyH (i := 13) rfl (by kernel_rfl) rfl (fun K hK => ?_)
          go_simp
          refine hK.out _ _ e7 (fun hHeld => ?_)
          clear hK K
          try simp only [Act.put, ly1, ly2, ly3]
          refine takeH (i := 14) (v := ?_) rfl (by kernel_rfl) (by kernel_rfl) (by kernel_rfl) (fun _ _ _ h => h) rfl ?_ hHeld ?_
          rotate_left
          · intro w hS; (try dsimp only at hS); obtain hS0 := hS; go_simp; first | done | (with_reducible rfl)
          try simp only [Act.put, ly1, ly2, ly3]
          refine takeH (i := 15) (v := ?_) rfl (by kernel_rfl) (by kernel_rfl) (by kernel_rfl) (fun _ _ _ h => h) rfl ?_ hHeld ?_
          rotate_left
          · intro w hS; (try dsimp only at hS); obtain hS0 := hS; go_simp; first | done | (with_reducible rfl)
          try simp only [Act.put, ly1, ly2, ly3]
          refine onlyH (i := 23) rfl (by kernel_rfl) rfl (fun K hK => ?_)
          refine wp_append_run (.tmp 234) (.tmp 241) 70 rfl rfl rfl HRUN.out ?_
          refine hK.out _ _ (e8) (fun hHeld => ?_)
          clear hK K
          try simp only [Act.put, ly1, ly2, ly3]
          refine takeH (i := 24) (v := ?_) rfl (by kernel_rfl) (by kernel_rfl) (by kernel_rfl) (fun _ _ _ h => h) rfl ?_ hHeld ?_
          rotate_left
          · intro w hS; (try dsimp only at hS); obtain hS0 := hS; go_simp; first | done | (with_reducible rfl)
          try simp only [Act.put, ly1, ly2, ly3]
          refine takeH (i := 25) (v := ?_) rfl (by kernel_rfl) (by kernel_rfl) (by kernel_rfl) (fun _ _ _ h => h) rfl ?_ hHeld ?_
          rotate_left
          · intro w hS; (try dsimp only at hS); obtain hS0 := hS; go_simp; first | done | (with_reducible rfl)
          try simp only [Act.put, ly1, ly2, ly3]
          refine onlyH (i := 26) rfl (by kernel_rfl) rfl (fun K hK => ?_)
          go_simp
          rw [← HW9.out]
          refine hK.out _ _ (e9) (fun hHeld => ?_)
          clear hK K
          try simp only [Act.put, ly1, ly2, ly3]
          refine wpAnyH_done (by kernel_rfl) ?_ _
          clear hHeld
          go_wp2
          go_ret3
          exact ⟨d, r, _, rfl, HT.out, by omega, HB9.out⟩
      · refine Up.mk rfl rfl (fun K hK => ?_)
        go_simp
        refine hK.out _ _ e6 (fun hHeld => ?_)
        clear hK K
        try simp only [Act.put, ly1, ly2, ly3]
        refine takeH (i := 14) (v := ?_) rfl (by kernel_rfl) (by kernel_rfl) (by kernel_rfl) (fun _ _ _ h => h) rfl ?_ hHeld ?_
        rotate_left
        · intro w hS; (try dsimp only at hS); obtain hS0 := hS; go_simp; first | done | (with_reducible rfl)
        try simp only [Act.put, ly1, ly2, ly3]
        refine manyH (rs := [8, 22]) (by kernel_rfl) (by simp) (by intro i hi; simp at hi; rcases hi with rfl | rfl <;> decide) (up2 ?_ ?_)
        · refine Up.mk rfl rfl (fun K hK => ?_)
          go_simp
          refine hK.out _ _ e6 (fun hHeld => ?_)
          clear hK K
          try simp only [Act.put, ly1, ly2, ly3]
          refine takeH (i := 9) (v := ?_) rfl (by kernel_rfl) (by kernel_rfl) (by kernel_rfl) (fun _ _ _ h => h) rfl ?_ hHeld ?_
          rotate_left
          · intro w hS; (try dsimp only at hS); obtain hS0 := hS; go_simp; first | done | (with_reducible rfl)
          try simp only [Act.put, ly1, ly2, ly3]
          refine takeH (i := 15) (v := ?_) rfl (by kernel_rfl) (by kernel_rfl) (by kernel_rfl) (fun _ _ _ h => h) rfl ?_ hHeld ?_
          rotate_left
          · intro w hS; (try dsimp only at hS); obtain hS0 := hS; go_simp; first | done | (with_reducible rfl)
          try simp only [Act.put, ly1, ly2, ly3]
          refine onlyH (i := 22) rfl (by kernel_rfl) rfl (fun K hK => ?_)
          go_simp
          rw [← HN2.out, hw2, drew_alloc, ← HW7.out]
          refine hK.out _ _ e7 (fun hHeld => ?_)
          clear hK K
          try simp only [Act.put, ly1, ly2, ly3]
          refine onlyH (i := 23) rfl (by kernel_rfl) rfl (fun K hK => ?_)
          refine wp_append_run (.tmp 234) (.tmp 241) 70 rfl rfl rfl HRUN.out ?_
          refine hK.out _ _ (e8) (fun hHeld => ?_)
          clear hK K
          try simp only [Act.put, ly1, ly2, ly3]
          refine takeH (i := 24) (v := ?_) rfl (by kernel_rfl) (by kernel_rfl) (by kernel_rfl) (fun _ _ _ h => h) rfl ?_ hHeld ?_
          rotate_left
          · intro w hS; (try dsimp only at hS); obtain hS0 := hS; go_simp; first | done | (with_reducible rfl)
          try simp only [Act.put, ly1, ly2, ly3]
          refine takeH (i := 25) (v := ?_) rfl (by kernel_rfl) (by kernel_rfl) (by kernel_rfl) (fun _ _ _ h => h) rfl ?_ hHeld ?_
          rotate_left
          · intro w hS; (try dsimp only at hS); obtain hS0 := hS; go_simp; first | done | (with_reducible rfl)
          try simp only [Act.put, ly1, ly2, ly3]
          refine onlyH (i := 26) rfl (by kernel_rfl) rfl (fun K hK => ?_)
          go_simp
          rw [← HW9.out]
          refine hK.out _ _ (e9) (fun hHeld => ?_)
          clear hK K
          try simp only [Act.put, ly1, ly2, ly3]
          refine wpAnyH_done (by kernel_rfl) ?_ _
          clear hHeld
          go_wp2
          go_ret3
          exact ⟨d, r, _, rfl, HT.out, by omega, HB9.out⟩
        · refine Up.mk rfl rfl (fun K hK => ?_)
          go_simp
          rw [← HN2.out, hw2, drew_alloc, ← HW7.out]
          refine hK.out _ _ e7 (fun hHeld => ?_)
          clear hK K
          try simp only [Act.put, ly1, ly2, ly3]
          refine onlyH (i := 8) rfl (by kernel_rfl) rfl (fun K hK => ?_)
          go_simp
          refine hK.out _ _ e7 (fun hHeld => ?_)
          clear hK K
          try simp only [Act.put, ly1, ly2, ly3]
          refine takeH (i := 9) (v := ?_) rfl (by kernel_rfl) (by kernel_rfl) (by kernel_rfl) (fun _ _ _ h => h) rfl ?_ hHeld ?_
          rotate_left
          · intro w hS; (try dsimp only at hS); obtain hS0 := hS; go_simp; first | done | (with_reducible rfl)
          try simp only [Act.put, ly1, ly2, ly3]
          refine takeH (i := 15) (v := ?_) rfl (by kernel_rfl) (by kernel_rfl) (by kernel_rfl) (fun _ _ _ h => h) rfl ?_ hHeld ?_
          rotate_left
          · intro w hS; (try dsimp only at hS); obtain hS0 := hS; go_simp; first | done | (with_reducible rfl)
          try simp only [Act.put, ly1, ly2, ly3]
          refine onlyH (i := 23) rfl (by kernel_rfl) rfl (fun K hK => ?_)
          refine wp_append_run (.tmp 234) (.tmp 241) 70 rfl rfl rfl HRUN.out ?_
          refine hK.out _ _ (e8) (fun hHeld => ?_)
          clear hK K
          try simp only [Act.put, ly1, ly2, ly3]
          refine takeH (i := 24) (v := ?_) rfl (by kernel_rfl) (by kernel_rfl) (by kernel_rfl) (fun _ _ _ h => h) rfl ?_ hHeld ?_
          rotate_left
          · intro w hS; (try dsimp only at hS); obtain hS0 := hS; go_simp; first | done | (with_reducible rfl)
          try simp only [Act.put, ly1, ly2, ly3]
          refine takeH (i := 25) (v := ?_) rfl (by kernel_rfl) (by kernel_rfl) (by kernel_rfl) (fun _ _ _ h => h) rfl ?_ hHeld ?_
          rotate_left
          · intro w hS; (try dsimp only at hS); obtain hS0 := hS; go_simp; first | done | (with_reducible rfl)
          try simp only [Act.put, ly1, ly2, ly3]
          refine onlyH (i := 26) rfl (by kernel_rfl) rfl (fun K hK => ?_)
          go_simp
          rw [← HW9.out]
          refine hK.out _ _ (e9) (fun hHeld => ?_)
          clear hK K
          try simp only [Act.put, ly1, ly2, ly3]
          refine wpAnyH_done (by kernel_rfl) ?_ _
          clear hHeld
          go_wp2
          go_ret3
          exact ⟨d, r, _, rfl, HT.out, by omega, HB9.out⟩
      · refine Up.mk rfl rfl (fun K hK => ?_)
        go_simp
        rw [← HN2.out, hw2, drew_alloc, ← HW7.out]
        refine hK.out _ _ e7 (fun hHeld => ?_)
        clear hK K
        try simp only [Act.put, ly1, ly2, ly3]
        refine manyH (rs := [8, 13]) (by kernel_rfl) (by simp) (by intro i hi; simp at hi; rcases hi with rfl | rfl <;> decide) (up2 ?_ ?_)
        · refine Up.mk rfl rfl (fun K hK => ?_)
          go_simp
          refine hK.out _ _ e7 (fun hHeld => ?_)
          clear hK K
          try simp only [Act.put, ly1, ly2, ly3]
          refine takeH (i := 9) (v := ?_) rfl (by kernel_rfl) (by kernel_rfl) (by kernel_rfl) (fun _ _ _ h => h) rfl ?_ hHeld ?_
          rotate_left
          · intro w hS; (try dsimp only at hS); obtain hS0 := hS; go_simp; first | done | (with_reducible rfl)
          try simp only [Act.put, ly1, ly2, ly3]
          refine onlyH (i := 13) rfl (by kernel_rfl) rfl (fun K hK => ?_)
          go_simp
          refine hK.out _ _ e7 (fun hHeld => ?_)
          clear hK K
          try simp only [Act.put, ly1, ly2, ly3]
          refine takeH (i := 14) (v := ?_) rfl (by kernel_rfl) (by kernel_rfl) (by kernel_rfl) (fun _ _ _ h => h) rfl ?_ hHeld ?_
          rotate_left
          · intro w hS; (try dsimp only at hS); obtain hS0 := hS; go_simp; first | done | (with_reducible rfl)
          try simp only [Act.put, ly1, ly2, ly3]
          refine takeH (i := 15) (v := ?_) rfl (by kernel_rfl) (by kernel_rfl) (by kernel_rfl) (fun _ _ _ h => h) rfl ?_ hHeld ?_
          rotate_left
          · intro w hS; (try dsimp only at hS); obtain hS0 := hS; go_simp; first | done | (with_reducible rfl)
          try simp only [Act.put, ly1, ly2, ly3]
          refine onlyH (i := 23) rfl (by kernel_rfl) rfl (fun K hK => ?_)
          refine wp_append_run (.tmp 234) (.tmp 241) 70 rfl rfl rfl HRUN.out ?_
          refine hK.out _ _ (e8) (fun hHeld => ?_)
          clear hK K
          try simp only [Act.put, ly1, ly2, ly3]
          refine takeH (i := 24) (v := ?_) rfl (by kernel_rfl) (by kernel_rfl) (by kernel_rfl) (fun _ _ _ h => h) rfl ?_ hHeld ?_
          rotate_left
          · intro w hS; (try dsimp only at hS); obtain hS0 := hS; go_simp; first | done | (with_reducible rfl)
          try simp only [Act.put, ly1, ly2, ly3]
          refine takeH (i := 25) (v := ?_) rfl (by kernel_rfl) (by kernel_rfl) (by kernel_rfl) (fun _ _ _ h => h) rfl ?_ hHeld ?_
          rotate_left
          · intro w hS; (try dsimp only at hS); obtain hS0 := hS; go_simp; first | done | (with_reducible rfl)
          try simp only [Act.put, ly1, ly2, ly3]
          refine onlyH (i := 26) rfl (by kernel_rfl) rfl (fun K hK => ?_)
          go_simp
          rw [← HW9.out]
          refine hK.out _ _ (e9) (fun hHeld => ?_)
          clear hK K
          try simp only [Act.put, ly1, ly2, ly3]
          refine wpAnyH_done (by kernel_rfl) ?_ _
          clear hHeld
          go_wp2
          go_ret3
          exact ⟨d, r, _, rfl, HT.out, by omega, HB9.out⟩
        · refine Up.mk rfl rfl (fun K hK => ?_)
          go_simp
          refine hK.out _ _ e7 (fun hHeld => ?_)
          clear hK K
          try simp only [Act.put, ly1, ly2, ly3]
          refine takeH (i := 14) (v := ?_) rfl (by kernel_rfl) (by kernel_rfl) (by kernel_rfl) (fun _ _ _ h => h) rfl ?_ hHeld ?_
          rotate_left
          · intro w hS; (try dsimp only at hS); obtain hS0 := hS; go_simp; first | done | (with_reducible rfl)
          try simp only [Act.put, ly1, ly2, ly3]
          refine onlyH (i := 8) rfl (by kernel_rfl) rfl (fun K hK => ?_)
          go_simp
          refine hK.out _ _ e7 (fun hHeld => ?_)
          clear hK K
          try simp only [Act.put, ly1, ly2, ly3]
          refine takeH (i := 9) (v := ?_) rfl (by kernel_rfl) (by kernel_rfl) (by kernel_rfl) (fun _ _ _ h => h) rfl ?_ hHeld ?_
          rotate_left
          · intro w hS; (try dsimp only at hS); obtain hS0 := hS; go_simp; first | done | (with_reducible rfl)
          try simp only [Act.put, ly1, ly2, ly3]
          refine takeH (i := 15) (v := ?_) rfl (by kernel_rfl) (by kernel_rfl) (by kernel_rfl) (fun _ _ _ h => h) rfl ?_ hHeld ?_
          rotate_left
          · intro w hS; (try dsimp only at hS); obtain hS0 := hS; go_simp; first | done | (with_reducible rfl)
          try simp only [Act.put, ly1, ly2, ly3]
          refine onlyH (i := 23) rfl (by kernel_rfl) rfl (fun K hK => ?_)
          refine wp_append_run (.tmp 234) (.tmp 241) 70 rfl rfl rfl HRUN.out ?_
          refine hK.out _ _ (e8) (fun hHeld => ?_)
          clear hK K
          try simp only [Act.put, ly1, ly2, ly3]
          refine takeH (i := 24) (v := ?_) rfl (by kernel_rfl) (by kernel_rfl) (by kernel_rfl) (fun _ _ _ h => h) rfl ?_ hHeld ?_
          rotate_left
          · intro w hS; (try dsimp only at hS); obtain hS0 := hS; go_simp; first | done | (with_reducible rfl)
          try simp only [Act.put, ly1, ly2, ly3]
          refine takeH (i := 25) (v := ?_) rfl (by kernel_rfl) (by kernel_rfl) (by kernel_rfl) (fun _ _ _ h => h) rfl ?_ hHeld ?_
          rotate_left
          · intro w hS; (try dsimp only at hS); obtain hS0 := hS; go_simp; first | done | (with_reducible rfl)
          try simp only [Act.put, ly1, ly2, ly3]
          refine onlyH (i := 26) rfl (by kernel_rfl) rfl (fun K hK => ?_)
          go_simp
          rw [← HW9.out]
          refine hK.out _ _ (e9) (fun hHeld => ?_)
          clear hK K
          try simp only [Act.put, ly1, ly2, ly3]
          refine wpAnyH_done (by kernel_rfl) ?_ _
          clear hHeld
          go_wp2
          go_ret3
          exact ⟨d, r, _, rfl, HT.out, by omega, HB9.out⟩
    · refine Up.mk rfl rfl (fun K hK => ?_)
      go_simp
      refine hK.out _ _ e6 (fun hHeld => ?_)
      clear hK K
      try simp only [Act.put, ly1, ly2, ly3]
      refine takeH (i := 9) (v := ?_) rfl (by kernel_rfl) (by kernel_rfl) (by kernel_rfl) (fun _ _ _ h => h) rfl ?_ hHeld ?_
      rotate_left
      · intro w hS; (try dsimp only at hS); obtain hS0 := hS; go_simp; first | done | (with_reducible rfl)
      try simp only [Act.put, ly1, ly2, ly3]
      refine manyH (rs := [4, 13, 22]) (by kernel_rfl) (by simp) (by intro i hi; simp at hi; rcases hi with rfl | rfl | rfl <;> decide) (up3 ?_ ?_ ?_)
      · refine Up.mk rfl rfl (fun K hK => ?_)
        go_simp
        refine hK.out _ _ e6 (fun hHeld => ?_)
        clear hK K
        try simp only [Act.put, ly1, ly2, ly3]
        refine manyH (rs := [13, 22]) (by kernel_rfl) (by simp) (by intro i hi; simp at hi; rcases hi with rfl | rfl <;> decide) (up2 ?_ ?_)
        · refine Up.mk rfl rfl (fun K hK => ?_)
          go_simp
          refine hK.out _ _ e6 (fun hHeld => ?_)
          clear hK K
          try simp only [Act.put, ly1, ly2, ly3]
          refine takeH (i := 14) (v := ?_) rfl (by kernel_rfl) (by kernel_rfl) (by kernel_rfl) (fun _ _ _ h => h) rfl ?_ hHeld ?_
          rotate_left
          · intro w hS; (try dsimp only at hS); obtain hS0 := hS; go_simp; first | done | (with_reducible rfl)
          try simp only [Act.put, ly1, ly2, ly3]
          refine takeH (i := 15) (v := ?_) rfl (by kernel_rfl) (by kernel_rfl) (by kernel_rfl) (fun _ _ _ h => h) rfl ?_ hHeld ?_
          rotate_left
          · intro w hS; (try dsimp only at hS); obtain hS0 := hS; go_simp; first | done | (with_reducible rfl)
          try simp only [Act.put, ly1, ly2, ly3]
          refine onlyH (i := 22) rfl (by kernel_rfl) rfl (fun K hK => ?_)
          go_simp
          rw [← HN2.out, hw2, drew_alloc, ← HW7.out]
          refine hK.out _ _ e7 (fun hHeld => ?_)
          clear hK K
          try simp only [Act.put, ly1, ly2, ly3]
          refine onlyH (i := 23) rfl (by kernel_rfl) rfl (fun K hK => ?_)
          refine wp_append_run (.tmp 234) (.tmp 241) 70 rfl rfl rfl HRUN.out ?_
          refine hK.out _ _ (e8) (fun hHeld => ?_)
          clear hK K
          try simp only [Act.put, ly1, ly2, ly3]
          refine takeH (i := 24) (v := ?_) rfl (by kernel_rfl) (by kernel_rfl) (by kernel_rfl) (fun _ _ _ h => h) rfl ?_ hHeld ?_
          rotate_left
          · intro w hS; (try dsimp only at hS); obtain hS0 := hS; go_simp; first | done | (with_reducible rfl)
          try simp only [Act.put, ly1, ly2, ly3]
          refine takeH (i := 25) (v := ?_) rfl (by kernel_rfl) (by kernel_rfl) (by kernel_rfl) (fun _ _ _ h => h) rfl ?_ hHeld ?_
          rotate_left
          · intro w hS; (try dsimp only at hS); obtain hS0 := hS; go_simp; first | done | (with_reducible rfl)
          try simp only [Act.put, ly1, ly2, ly3]
          refine onlyH (i := 26) rfl (by kernel_rfl) rfl (fun K hK => ?_)
          go_simp
          rw [← HW9.out]
          refine hK.out _ _ (e9) (fun hHeld => ?_)
          clear hK K
          try simp only [Act.put, ly1, ly2, ly3]
          refine wpAnyH_done (by kernel_rfl) ?_ _
          clear hHeld
          go_wp2
          go_ret3
          exact ⟨d, r, _, rfl, HT.out, by omega, HB9.out⟩
        · refine Up.mk rfl rfl (fun K hK => ?_)
          go_simp
          rw [← HN2.out, hw2, drew_alloc, ← HW7.out]
          refine hK.out _ _ e7 (fun hHeld => ?_)
          clear hK K
          try simp only [Act.put, ly1, ly2, ly3]
          refine onlyH (i := 13) rfl (by kernel_rfl) rfl (fun K hK => ?_)
          go_simp
          refine hK.out _ _ e7 (fun hHeld => ?_)
          clear hK K
          try simp only [Act.put, ly1, ly2, ly3]
          refine takeH (i := 14) (v := ?_) rfl (by kernel_rfl) (by kernel_rfl) (by kernel_rfl) (fun _ _ _ h => h) rfl ?_ hHeld ?_
          rotate_left
          · intro w hS; (try dsimp only at hS); obtain hS0 := hS; go_simp; first | done | (with_reducible rfl)
          try simp only [Act.put, ly1, ly2, ly3]
          refine takeH (i := 15) (v := ?_) rfl (by kernel_rfl) (by kernel_rfl) (by kernel_rfl) (fun _ _ _ h => h) rfl ?_ hHeld ?_
          rotate_left
          · intro w hS; (try dsimp only at hS); obtain hS0 := hS; go_simp; first | done | (with_reducible rfl)
          try simp only [Act.put, ly1, ly2, ly3]
          refine onlyH (i := 23) rfl (by kernel_rfl) rfl (fun K hK => ?_)
          refine wp_append_run (.tmp 234) (.tmp 241) 70 rfl rfl rfl HRUN.out ?_
          refine hK.out _ _ (e8) (fun hHeld => ?_)
          clear hK K
          try simp only [Act.put, ly1, ly2, ly3]
          refine takeH (i := 24) (v := ?_) rfl (by kernel_rfl) (by kernel_rfl) (by kernel_rfl) (fun _ _ _ h => h) rfl ?_ hHeld ?_
          rotate_left
          · intro w hS; (try dsimp only at hS); obtain hS0 := hS; go_simp; first | done | (with_reducible rfl)
          try simp only [Act.put, ly1, ly2, ly3]
          refine takeH (i := 25) (v := ?_) rfl (by kernel_rfl) (by kernel_rfl) (by kernel_rfl) (fun _ _ _ h => h) rfl ?_ hHeld ?_
          rotate_left
          · intro w hS; (try dsimp only at hS); obtain hS0 := hS; go_simp; first | done | (with_reducible rfl)
          try simp only [Act.put, ly1, ly2, ly3]
          refine onlyH (i := 26) rfl (by kernel_rfl) rfl (fun K hK => ?_)
          go_simp
          rw [← HW9.out]
          refine hK.out _ _ (e9) (fun hHeld => ?_)
          clear hK K
          try simp only [Act.put, ly1, ly2, ly3]
          refine wpAnyH_done (by kernel_rfl) ?_ _
          clear hHeld
          go_wp2
          go_ret3
          exact ⟨d, r, _, rfl, HT.out, by omega, HB9.out⟩
      · refine Up.mk rfl rfl (fun K hK => ?_)
        go_simp
        refine hK.out _ _ e6 (fun hHeld => ?_)
        clear hK K
        try simp only [Act.put, ly1, ly2, ly3]
        refine takeH (i := 14) (v := ?_) rfl (by kernel_rfl) (by kernel_rfl) (by kernel_rfl) (fun _ _ _ h => h) rfl ?_ hHeld ?_
        rotate_left
        · intro w hS; (try dsimp only at hS); obtain hS0 := hS; go_simp; first | done | (with_reducible rfl)
        try simp only [Act.put, ly1, ly2, ly3]
        refine manyH (rs := [4, 22]) (by kernel_rfl) (by simp) (by intro i hi; simp at hi; rcases hi with rfl | rfl <;> decide) (up2 ?_ ?_)
        · refine Up.mk rfl rfl (fun K hK => ?_)
          go_simp
          refine hK.out _ _ e6 (fun hHeld => ?_)
          clear hK K
          try simp only [Act.put, ly1, ly2, ly3]
          refine takeH (i := 15) (v := ?_) rfl (by kernel_rfl) (by kernel_rfl) (by kernel_rfl) (fun _ _ _ h => h) rfl ?_ hHeld ?_
          rotate_left
          · intro w hS; (try dsimp only at hS); obtain hS0 := hS; go_simp; first | done | (with_reducible rfl)
          try simp only [Act.put, ly1, ly2, ly3]
          refine onlyH (i := 22) rfl (by kernel_rfl) rfl (fun K hK => ?_)
          go_simp
          rw [← HN2.out, hw2, drew_alloc, ← HW7.out]
          refine hK.out _ _ e7 (fun hHeld => ?_)
          clear hK K
          try simp only [Act.put, ly1, ly2, ly3]
          refine onlyH (i := 23) rfl (by kernel_rfl) rfl (fun K hK => ?_)
          refine wp_append_run (.tmp 234) (.tmp 241) 70 rfl rfl rfl HRUN.out ?_
          refine hK.out _ _ (e8) (fun hHeld => ?_)
          clear hK K
          try simp only [Act.put, ly1, ly2, ly3]
          refine takeH (i := 24) (v := ?_) rfl (by kernel_rfl) (by kernel_rfl) (by kernel_rfl) (fun _ _ _ h => h) rfl ?_ hHeld ?_
          rotate_left
          · intro w hS; (try dsimp only at hS); obtain hS0 := hS; go_simp; first | done | (with_reducible rfl)
          try simp only [Act.put, ly1, ly2, ly3]
          refine takeH (i := 25) (v := ?_) rfl (by kernel_rfl) (by kernel_rfl) (by kernel_rfl) (fun _ _ _ h => h) rfl ?_ hHeld ?_
          rotate_left
          · intro w hS; (try dsimp only at hS); obtain hS0 := hS; go_simp; first | done | (with_reducible rfl)
          try simp only [Act.put, ly1, ly2, ly3]
          refine onlyH (i := 26) rfl (by kernel_rfl) rfl (fun K hK => ?_)
          go_simp
          rw [← HW9.out]
          refine hK.out _ _ (e9) (fun hHeld => ?_)
          clear hK K
          try simp only [Act.put, ly1, ly2, ly3]
          refine wpAnyH_done (by kernel_rfl) ?_ _
          clear hHeld
          go_wp2
          go_ret3
          exact ⟨d, r, _, rfl, HT.out, by omega, HB9.out⟩
        · refine Up.mk rfl rfl (fun K hK => ?_)
          go_simp
          rw [← HN2.out, hw2, drew_alloc, ← HW7.out]
          refine hK.out _ _ e7 (fun hHeld => ?_)
          clear hK K
          try simp only [Act.put, ly1, ly2, ly3]
          refine onlyH (i := 4) rfl (by kernel_rfl) rfl (fun K hK => ?_)
          go_simp
          refine hK.out _ _ e7 (fun hHeld => ?_)
          clear hK K
          try simp only [Act.put, ly1, ly2, ly3]
          refine takeH (i := 15) (v := ?_) rfl (by kernel_rfl) (by kernel_rfl) (by kernel_rfl) (fun _ _ _ h => h) rfl ?_ hHeld ?_
          rotate_left
          · intro w hS; (try dsimp only at hS); obtain hS0 := hS; go_simp; first | done | (with_reducible rfl)
          try simp only [Act.put, ly1, ly2, ly3]
          refine onlyH (i := 23) rfl (by kernel_rfl) rfl (fun K hK => ?_)
          refine wp_append_run (.tmp 234) (.tmp 241) 70 rfl rfl rfl HRUN.out ?_
          refine hK.out _ _ (e8) (fun hHeld => ?_)
          clear hK K
          try simp only [Act.put, ly1, ly2, ly3]
          refine takeH (i := 24) (v := ?_) rfl (by kernel_rfl) (by kernel_rfl) (by kernel_rfl) (fun _ _ _ h => h) rfl ?_ hHeld ?_
          rotate_left
          · intro w hS; (try dsimp only at hS); obtain hS0 := hS; go_simp; first | done | (with_reducible rfl)
          try simp only [Act.put, ly1, ly2, ly3]
          refine takeH (i := 25) (v := ?_) rfl (by kernel_rfl) (by kernel_rfl) (by kernel_rfl) (fun _ _ _ h => h) rfl ?_ hHeld ?_
          rotate_left
          · intro w hS; (try dsimp only at hS); obtain hS0 := hS; go_simp; first | done | (with_reducible rfl)
          try simp only [Act.put, ly1, ly2, ly3]
          refine onlyH (i := 26) rfl (by kernel_rfl) rfl (fun K hK => ?_)
          go_simp
          rw [← HW9.out]
          refine hK.out _ _ (e9) (fun hHeld => ?_)
          clear hK K
          try simp only [Act.put, ly1, ly2, ly3]
          refine wpAnyH_done (by kernel_rfl) ?_ _
          clear hHeld
          go_wp2
          go_ret3
          exact ⟨d, r, _, rfl, HT.out, by omega, HB9.out⟩
      · refine Up.mk rfl rfl (fun K hK => ?_)
        go_simp
        rw [← HN2.out, hw2, drew_alloc, ← HW7.out]
        refine hK.out _ _ e7 (fun hHeld => ?_)
        clear hK K
        try simp only [Act.put, ly1, ly2, ly3]
        refine manyH (rs := [4, 13]) (by kernel_rfl) (by simp) (by intro i hi; simp at hi; rcases hi with rfl | rfl <;> decide) (up2 ?_ ?_)
        · refine Up.mk rfl rfl (fun K hK => ?_)
          go_simp
          refine hK.out _ _ e7 (fun hHeld => ?_)
          clear hK K
          try simp only [Act.put, ly1, ly2, ly3]
          refine onlyH (i := 13) rfl (by kernel_rfl) rfl (fun K hK => ?_)
          go_simp
          refine hK.out _ _ e7 (fun hHeld => ?_)
          clear hK K
          try simp only [Act.put, ly1, ly2, ly3]
          refine takeH (i := 14) (v := ?_) rfl (by kernel_rfl) (by kernel_rfl) (by kernel_rfl) (fun _ _ _ h => h) rfl ?_ hHeld ?_
          rotate_left
          · intro w hS; (try dsimp only at hS); obtain hS0 := hS; go_simp; first | done | (with_reducible rfl)
          try simp only [Act.put, ly1, ly2, ly3]
          refine takeH (i := 15) (v := ?_) rfl (by kernel_rfl) (by kernel_rfl) (by kernel_rfl) (fun _ _ _ h => h) rfl ?_ hHeld ?_
          rotate_left
          · intro w hS; (try dsimp only at hS); obtain hS0 := hS; go_simp; first | done | (with_reducible rfl)
          try simp only [Act.put, ly1, ly2, ly3]
          refine onlyH (i := 23) rfl (by kernel_rfl) rfl (fun K hK => ?_)
          refine wp_append_run (.tmp 234) (.tmp 241) 70 rfl rfl rfl HRUN.out ?_
          refine hK.out _ _ (e8) (fun hHeld => ?_)
          clear hK K
          try simp only [Act.put, ly1, ly2, ly3]
          refine takeH (i := 24) (v := ?_) rfl (by kernel_rfl) (by kernel_rfl) (by kernel_rfl) (fun _ _ _ h => h) rfl ?_ hHeld ?_
          rotate_left
          · intro w hS; (try dsimp only at hS); obtain hS0 := hS; go_simp; first | done | (with_reducible rfl)
          try simp only [Act.put, ly1, ly2, ly3]
          refine takeH (i := 25) (v := ?_) rfl (by kernel_rfl) (by kernel_rfl) (by kernel_rfl) (fun _ _ _ h => h) rfl ?_ hHeld ?_
          rotate_left
          · intro w hS; (try dsimp only at hS); obtain hS0 := hS; go_simp; first | done | (with_reducible rfl)
          try simp only [Act.put, ly1, ly2, ly3]
          refine onlyH (i := 26) rfl (by kernel_rfl) rfl (fun K hK => ?_)
          go_simp
          rw [← HW9.out]
          refine hK.out _ _ (e9) (fun hHeld => ?_)
          clear hK K
          try simp only [Act.put, ly1, ly2, ly3]
          refine wpAnyH_done (by kernel_rfl) ?_ _
          clear hHeld
          go_wp2
          go_ret3
          exact ⟨d, r, _, rfl, HT.out, by omega, HB9.out⟩
        · refine Up.mk rfl rfl (fun K hK => ?_)
          go_simp
          refine hK.out _ _ e7 (fun hHeld => ?_)
          clear hK K
          try simp only [Act.put, ly1, ly2, ly3]
          refine takeH (i := 14) (v := ?_) rfl (by kernel_rfl) (by kernel_rfl) (by kernel_rfl) (fun _ _ _ h => h) rfl ?_ hHeld ?_
          rotate_left
          · intro w hS; (try dsimp only at hS); obtain hS0 := hS; go_simp; first | done | (with_reducible rfl)
          try simp only [Act.put, ly1, ly2, ly3]
          refine onlyH (i := 4) rfl (by kernel_rfl) rfl (fun K hK => ?_)
          go_simp
          refine hK.out _ _ e7 (fun hHeld => ?_)
          clear hK K
          try simp only [Act.put, ly1, ly2, ly3]
          refine takeH (i := 15) (v := ?_) rfl (by kernel_rfl) (by kernel_rfl) (by kernel_rfl) (fun _ _ _ h => h) rfl ?_ hHeld ?_
          rotate_left
          · intro w hS; (try dsimp only at hS); obtain hS0 := hS; go_simp; first | done | (with_reducible rfl)
          try simp only [Act.put, ly1, ly2, ly3]
          refine onlyH (i := 23) rfl (by kernel_rfl) rfl (fun K hK => ?_)
          refine wp_append_run (.tmp 234) (.tmp 241) 70 rfl rfl rfl HRUN.out ?_
          refine hK.out _ _ (e8) (fun hHeld => ?_)
          clear hK K
          try simp only [Act.put, ly1, ly2, ly3]
          refine takeH (i := 24) (v := ?_) rfl (by kernel_rfl) (by kernel_rfl) (by kernel_rfl) (fun _ _ _ h => h) rfl ?_ hHeld ?_
          rotate_left
          · intro w hS; (try dsimp only at hS); obtain hS0 := hS; go_simp; first | done | (with_reducible rfl)
          try simp only [Act.put, ly1, ly2, ly3]
          refine takeH (i := 25) (v := ?_) rfl (by kernel_rfl) (by kernel_rfl) (by kernel_rfl) (fun _ _ _ h => h) rfl ?_ hHeld ?_
          rotate_left
          · intro w hS; (try dsimp only at hS); obtain hS0 := hS; go_simp; first | done | (with_reducible rfl)
          try simp only [Act.put, ly1, ly2, ly3]
          refine onlyH (i := 26) rfl (by kernel_rfl) rfl (fun K hK => ?_)
          go_simp
          rw [← HW9.out]
          refine hK.out _ _ (e9) (fun hHeld => ?_)
          clear hK K
          try simp only [Act.put, ly1, ly2, ly3]
          refine wpAnyH_done (by kernel_rfl) ?_ _
          clear hHeld
          go_wp2
          go_ret3
          exact ⟨d, r, _, rfl, HT.out, by omega, HB9.out⟩
    · refine Up.mk rfl rfl (fun K hK => ?_)
      go_simp
      refine hK.out _ _ e6 (fun hHeld => ?_)
      clear hK K
      try simp only [Act.put, ly1, ly2, ly3]
      refine takeH (i := 14) (v := ?_) rfl (by kernel_rfl) (by kernel_rfl) (by kernel_rfl) (fun _ _ _ h => h) rfl ?_ hHeld ?_
      rotate_left
      · intro w hS; (try dsimp only at hS); obtain hS0 := hS; go_simp; first | done | (with_reducible rfl)
      try simp only [Act.put, ly1, ly2, ly3]
      refine manyH (rs := [4, 8, 22]) (by kernel_rfl) (by simp) (by intro i hi; simp at hi; rcases hi with rfl | rfl | rfl <;> decide) (up3 ?_ ?_ ?_)
      · refine Up.mk rfl rfl (fun K hK => ?_)
        go_simp
        refine hK.out _ _ e6 (fun hHeld => ?_)
        clear hK K
        try simp only [Act.put, ly1, ly2, ly3]
        refine manyH (rs := [8, 22]) (by kernel_rfl) (by simp) (by intro i hi; simp at hi; rcases hi with rfl | rfl <;> decide) (up2 ?_ ?_)
        · refine Up.mk rfl rfl (fun K hK => ?_)
          go_simp
          refine hK.out _ _ e6 (fun hHeld => ?_)
          clear hK K
          try simp only [Act.put, ly1, ly2, ly3]
          refine takeH (i := 9) (v := ?_) rfl (by kernel_rfl) (by kernel_rfl) (by kernel_rfl) (fun _ _ _ h => h) rfl ?_ hHeld ?_
          rotate_left
          · intro w hS; (try dsimp only at hS); obtain hS0 := hS; go_simp; first | done | (with_reducible rfl)
          try simp only [Act.put, ly1, ly2, ly3]
          refine takeH (i := 15) (v := ?_) rfl (by kernel_rfl) (by kernel_rfl) (by kernel_rfl) (fun _ _ _ h => h) rfl ?_ hHeld ?_
          rotate_left
          · intro w hS; (try dsimp only at hS); obtain hS0 := hS; go_simp; first | done | (with_reducible rfl)
          try simp only [Act.put, ly1, ly2, ly3]
          refine onlyH (i := 22) rfl (by kernel_rfl) rfl (fun K hK => ?_)
          go_simp
          rw [← HN2.out, hw2, drew_alloc, ← HW7.out]
          refine hK.out _ _ e7 (fun hHeld => ?_)
          clear hK K
          try simp only [Act.put, ly1, ly2, ly3]
          refine onlyH (i := 23) rfl (by kernel_rfl) rfl (fun K hK => ?_)
          refine wp_append_run (.tmp 234) (.tmp 241) 70 rfl rfl rfl HRUN.out ?_
          refine hK.out _ _ (e8) (fun hHeld => ?_)
          clear hK K
          try simp only [Act.put, ly1, ly2, ly3]
          refine takeH (i := 24) (v := ?_) rfl (by kernel_rfl) (by kernel_rfl) (by kernel_rfl) (fun _ _ _ h => h) rfl ?_ hHeld ?_
          rotate_left
          · intro w hS; (try dsimp only at hS); obtain hS0 := hS; go_simp; first | done | (with_reducible rfl)
          try simp only [Act.put, ly1, ly2, ly3]
          refine takeH (i := 25) (v := ?_) rfl (by kernel_rfl) (by kernel_rfl) (by kernel_rfl) (fun _ _ _ h => h) rfl ?_ hHeld ?_
          rotate_left
          · intro w hS; (try dsimp only at hS); obtain hS0 := hS; go_simp; first | done | (with_reducible rfl)
          try simp only [Act.put, ly1, ly2, ly3]
          refine onlyH (i := 26) rfl (by kernel_rfl) rfl (fun K hK => ?_)
          go_simp
          rw [← HW9.out]
          refine hK.out _ _ (e9) (fun hHeld => ?_)
          clear hK K
          try simp only [Act.put, ly1, ly2, ly3]
          refine wpAnyH_done (by kernel_rfl) ?_ _
          clear hHeld
          go_wp2
          go_ret3
          exact ⟨d, r, _, rfl, HT.out, by omega, HB9.out⟩
        · refine Up.mk rfl rfl (fun K hK => ?_)
          go_simp
          rw [← HN2.out, hw2, drew_alloc, ← HW7.out]
          refine hK.out _ _ e7 (fun hHeld => ?_)
          clear hK K
          try simp only [Act.put, ly1, ly2, ly3]
          refine onlyH (i := 8) rfl (by kernel_rfl) rfl (fun K hK => ?_)
          go_simp
          refine hK.out _ _ e7 (fun hHeld => ?_)
          clear hK K
          try simp only [Act.put, ly1, ly2, ly3]
          refine takeH (i := 9) (v := ?_) rfl (by kernel_rfl) (by kernel_rfl) (by kernel_rfl) (fun _ _ _ h => h) rfl ?_ hHeld ?_
          rotate_left
          · intro w hS; (try dsimp only at hS); obtain hS0 := hS; go_simp; first | done | (with_reducible rfl)
          try simp only [Act.put, ly1, ly2, ly3]
          refine takeH (i := 15) (v := ?_) rfl (by kernel_rfl) (by kernel_rfl) (by kernel_rfl) (fun _ _ _ h => h) rfl ?_ hHeld ?_
          rotate_left
          · intro w hS; (try dsimp only at hS); obtain hS0 := hS; go_simp; first | done | (with_reducible rfl)
          try simp only [Act.put, ly1, ly2, ly3]
          refine onlyH (i := 23) rfl (by kernel_rfl) rfl (fun K hK => ?_)
          refine wp_append_run (.tmp 234) (.tmp 241) 70 rfl rfl rfl HRUN.out ?_
          refine hK.out _ _ (e8) (fun hHeld => ?_)
          clear hK K
          try simp only [Act.put, ly1, ly2, ly3]
          refine takeH (i := 24) (v := ?_) rfl (by kernel_rfl) (by kernel_rfl) (by kernel_rfl) (fun _ _ _ h => h) rfl ?_ hHeld ?_
          rotate_left
          · intro w hS; (try dsimp only at hS); obtain hS0 := hS; go_simp; first | done | (with_reducible rfl)
          try simp only [Act.put, ly1, ly2, ly3]
          refine takeH (i := 25) (v := ?_) rfl (by kernel_rfl) (by kernel_rfl) (by kernel_rfl) (fun _ _ _ h => h) rfl ?_ hHeld ?_
          rotate_left
          · intro w hS; (try dsimp only at hS); obtain hS0 := hS; go_simp; first | done | (with_reducible rfl)
          try simp only [Act.put, ly1, ly2, ly3]
          refine onlyH (i := 26) rfl (by kernel_rfl) rfl (fun K hK => ?_)
          go_simp
          rw [← HW9.out]
          refine hK.out _ _ (e9) (fun hHeld => ?_)
          clear hK K
          try simp only [Act.put, ly1, ly2, ly3]
          refine wpAnyH_done (by kernel_rfl) ?_ _
          clear hHeld
          go_wp2
          go_ret3
          exact ⟨d, r, _, rfl, HT.out, by omega, HB9.out⟩
      · refine Up.mk rfl rfl (fun K hK => ?_)
        go_simp
        refine hK.out _ _ e6 (fun hHeld => ?_)
        clear hK K
        try simp only [Act.put, ly1, ly2, ly3]
        refine takeH (i := 9) (v := ?_) rfl (by kernel_rfl) (by kernel_rfl) (by kernel_rfl) (fun _ _ _ h => h) rfl ?_ hHeld ?_
        rotate_left
        · intro w hS; (try dsimp only at hS); obtain hS0 := hS; go_simp; first | done | (with_reducible rfl)
        try simp only [Act.put, ly1, ly2, ly3]
        refine manyH (rs := [4, 22]) (by kernel_rfl) (by simp) (by intro i hi; simp at hi; rcases hi with rfl | rfl <;> decide) (up2 ?_ ?_)
        · refine Up.mk rfl rfl (fun K hK => ?_)
          go_simp
          refine hK.out _ _ e6 (fun hHeld => ?_)
          clear hK K
          try simp only [Act.put, ly1, ly2, ly3]
          refine takeH (i := 15) (v := ?_) rfl (by kernel_rfl) (by kernel_rfl) (by kernel_rfl) (fun _ _ _ h => h) rfl ?_ hHeld ?_
          rotate_left
          · intro w hS; (try dsimp only at hS); obtain hS0 := hS; go_simp; first | done | (with_reducible rfl)
          try simp only [Act.put, ly1, ly2, ly3]
          refine onlyH (i := 22) rfl (by kernel_rfl) rfl (fun K hK => ?_)
          go_simp
          rw [← HN2.out, hw2, drew_alloc, ← HW7.out]
          refine hK.out _ _ e7 (fun hHeld => ?_)
          clear hK K
          try simp only [Act.put, ly1, ly2, ly3]
          refine onlyH (i := 23) rfl (by kernel_rfl) rfl (fun K hK => ?_)
          refine wp_append_run (.tmp 234) (.tmp 241) 70 rfl rfl rfl HRUN.out ?_
          refine hK.out _ _ (e8) (fun hHeld => ?_)
          clear hK K
          try simp only [Act.put, ly1, ly2, ly3]
          refine takeH (i := 24) (v := ?_) rfl (by kernel_rfl) (by kernel_rfl) (by kernel_rfl) (fun _ _ _ h => h) rfl ?_ hHeld ?_
          rotate_left
          · intro w hS; (try dsimp only at hS); obtain hS0 := hS; go_simp; first | done | (with_reducible rfl)
          try simp only [Act.put, ly1, ly2, ly3]
          refine takeH (i := 25) (v := ?_) rfl (by kernel_rfl) (by kernel_rfl) (by kernel_rfl) (fun _ _ _ h => h) rfl ?_ hHeld ?_
          rotate_left
          · intro w hS; (try dsimp only at hS); obtain hS0 := hS; go_simp; first | done | (with_reducible rfl)
          try simp only [Act.put, ly1, ly2, ly3]
          refine onlyH (i := 26) rfl (by kernel_rfl) rfl (fun K hK => ?_)
          go_simp
          rw [← HW9.out]
          refine hK.out _ _ (e9) (fun hHeld => ?_)
          clear hK K
          try simp only [Act.put, ly1, ly2, ly3]
          refine wpAnyH_done (by kernel_rfl) ?_ _
          clear hHeld
          go_wp2
          go_ret3
          exact ⟨d, r, _, rfl, HT.out, by omega, HB9.out⟩
        · refine Up.mk rfl rfl (fun K hK => ?_)
          go_simp
          rw [← HN2.out, hw2, drew_alloc, ← HW7.out]
          refine hK.out _ _ e7 (fun hHeld => ?_)
          clear hK K
          try simp only [Act.put, ly1, ly2, ly3]
          refine onlyH (i := 4) rfl (by kernel_rfl) rfl (fun K hK => ?_)
          go_simp
          refine hK.out _ _ e7 (fun hHeld => ?_)
          clear hK K
          try simp only [Act.put, ly1, ly2, ly3]
          refine takeH (i := 15) (v := ?_) rfl (by kernel_rfl) (by kernel_rfl) (by kernel_rfl) (fun _ _ _ h => h) rfl ?_ hHeld ?_
          rotate_left
          · intro w hS; (try dsimp only at hS); obtain hS0 := hS; go_simp; first | done | (with_reducible rfl)
          try simp only [Act.put, ly1, ly2, ly3]
          refine onlyH (i := 23) rfl (by kernel_rfl) rfl (fun K hK => ?_)
          refine wp_append_run (.tmp 234) (.tmp 241) 70 rfl rfl rfl HRUN.out ?_
          refine hK.out _ _ (e8) (fun hHeld => ?_)
          clear hK K
          try simp only [Act.put, ly1, ly2, ly3]
          refine takeH (i := 24) (v := ?_) rfl (by kernel_rfl) (by kernel_rfl) (by kernel_rfl) (fun _ _ _ h => h) rfl ?_ hHeld ?_
          rotate_left
          · intro w hS; (try dsimp only at hS); obtain hS0 := hS; go_simp; first | done | (with_reducible rfl)
          try simp only [Act.put, ly1, ly2, ly3]
          refine takeH (i := 25) (v := ?_) rfl (by kernel_rfl) (by kernel_rfl) (by kernel_rfl) (fun _ _ _ h => h) rfl ?_ hHeld ?_
          rotate_left
          · intro w hS; (try dsimp only at hS); obtain hS0 := hS; go_simp; first | done | (with_reducible rfl)
          try simp only [Act.put, ly1, ly2, ly3]
          refine onlyH (i := 26) rfl (by kernel_rfl) rfl (fun K hK => ?_)
          go_simp
          rw [← HW9.out]
          refine hK.out _ _ (e9) (fun hHeld => ?_)
          clear hK K
          try simp only [Act.put, ly1, ly2, ly3]
          refine wpAnyH_done (by kernel_rfl) ?_ _
          clear hHeld
          go_wp2
          go_ret3
          exact ⟨d, r, _, rfl, HT.out, by omega, HB9.out⟩
      · refine Up.mk rfl rfl (fun K hK => ?_)
        go_simp
        rw [← HN2.out, hw2, drew_alloc, ← HW7.out]
        refine hK.out _ _ e7 (fun hHeld => ?_)
        clear hK K
        try simp only [Act.put, ly1, ly2, ly3]
        refine manyH (rs := [4, 8]) (by kernel_rfl) (by simp) (by intro i hi; simp at hi; rcases hi with rfl | rfl <;> decide) (up2 ?_ ?_)
        · refine Up.mk rfl rfl (fun K hK => ?_)
          go_simp
          refine hK.out _ _ e7 (fun hHeld => ?_)
          clear hK K
          try simp only [Act.put, ly1, ly2, ly3]
          refine onlyH (i := 8) rfl (by kernel_rfl) rfl (fun K hK => ?_)
          go_simp
          refine hK.out _ _ e7 (fun hHeld => ?_)
          clear hK K
          try simp only [Act.put, ly1, ly2, ly3]
          refine takeH (i := 9) (v := ?_) rfl (by kernel_rfl) (by kernel_rfl) (by kernel_rfl) (fun _ _ _ h => h) rfl ?_ hHeld ?_
          rotate_left
          · intro w hS; (try dsimp only at hS); obtain hS0 := hS; go_simp; first | done | (with_reducible rfl)
          try simp only [Act.put, ly1, ly2, ly3]
          refine takeH (i := 15) (v := ?_) rfl (by kernel_rfl) (by kernel_rfl) (by kernel_rfl) (fun _ _ _ h => h) rfl ?_ hHeld ?_
          rotate_left
          · intro w hS; (try dsimp only at hS); obtain hS0 := hS; go_simp; first | done | (with_reducible rfl)
          try simp only [Act.put, ly1, ly2, ly3]
          refine onlyH (i := 23) rfl (by kernel_rfl) rfl (fun K hK => ?_)
          refine wp_append_run (.tmp 234) (.tmp 241) 70 rfl rfl rfl HRUN.out ?_
          refine hK.out _ _ (e8) (fun hHeld => ?_)
          clear hK K
          try simp only [Act.put, ly1, ly2, ly3]
          refine takeH (i := 24) (v := ?_) rfl (by kernel_rfl) (by kernel_rfl) (by kernel_rfl) (fun _ _ _ h => h) rfl ?_ hHeld ?_
          rotate_left
          · intro w hS; (try dsimp only at hS); obtain hS0 := hS; go_simp; first | done | (with_reducible rfl)
          try simp only [Act.put, ly1, ly2, ly3]
          refine takeH (i := 25) (v := ?_) rfl (by kernel_rfl) (by kernel_rfl) (by kernel_rfl) (fun _ _ _ h => h) rfl ?_ hHeld ?_
          rotate_left
          · intro w hS; (try dsimp only at hS); obtain hS0 := hS; go_simp; first | done | (with_reducible rfl)
          try simp only [Act.put, ly1, ly2, ly3]
          refine onlyH (i := 26) rfl (by kernel_rfl) rfl (fun K hK => ?_)
          go_simp
          rw [← HW9.out]
          refine hK.out _ _ (e9) (fun hHeld => ?_)
          clear hK K
          try simp only [Act.put, ly1, ly2, ly3]
          refine wpAnyH_done (by kernel_rfl) ?_ _
          clear hHeld
          go_wp2
          go_ret3
          exact ⟨d, r, _, rfl, HT.out, by omega, HB9.out⟩
        · refine Up.mk rfl rfl (fun K hK => ?_)
          go_simp
          refine hK.out _ _ e7 (fun hHeld => ?_)
          clear hK K
          try simp only [Act.put, ly1, ly2, ly3]
          refine takeH (i := 9) (v := ?_) rfl (by kernel_rfl) (by kernel_rfl) (by kernel_rfl) (fun _ _ _ h => h) rfl ?_ hHeld ?_
          rotate_left
          · intro w hS; (try dsimp only at hS); obtain hS0 := hS; go_simp; first | done | (with_reducible rfl)
          try simp only [Act.put, ly1, ly2, ly3]
          refine onlyH (i := 4) rfl (by kernel_rfl) rfl (fun K hK => ?_)
          go_simp
          refine hK.out _ _ e7 (fun hHeld => ?_)
          clear hK K
          try simp only [Act.put, ly1, ly2, ly3]
          refine takeH (i := 15) (v := ?_) rfl (by kernel_rfl) (by kernel_rfl) (by kernel_rfl) (fun _ _ _ h => h) rfl ?_ hHeld ?_
          rotate_left
          · intro w hS; (try dsimp only at hS); obtain hS0 := hS; go_simp; first | done | (with_reducible rfl)
          try simp only [Act.put, ly1, ly2, ly3]
          refine onlyH (i := 23) rfl (by kernel_rfl) rfl (fun K hK => ?_)
          refine wp_append_run (.tmp 234) (.tmp 241) 70 rfl rfl rfl HRUN.out ?_
          refine hK.out _ _ (e8) (fun hHeld => ?_)
          clear hK K
          try simp only [Act.put, ly1, ly2, ly3]
          refine takeH (i := 24) (v := ?_) rfl (by kernel_rfl) (by kernel_rfl) (by kernel_rfl) (fun _ _ _ h => h) rfl ?_ hHeld ?_
          rotate_left
          · intro w hS; (try dsimp only at hS); obtain hS0 := hS; go_simp; first | done | (with_reducible rfl)
          try simp only [Act.put, ly1, ly2, ly3]
          refine takeH (i := 25) (v := ?_) rfl (by kernel_rfl) (by kernel_rfl) (by kernel_rfl) (fun _ _ _ h => h) rfl ?_ hHeld ?_
          rotate_left
          · intro w hS; (try dsimp only at hS); obtain hS0 := hS; go_simp; first | done | (with_reducible rfl)
          try simp only [Act.put, ly1, ly2, ly3]
          refine onlyH (i := 26) rfl (by kernel_rfl) rfl (fun K hK => ?_)
          go_simp
          rw [← HW9.out]
          refine hK.out _ _ (e9) (fun hHeld => ?_)
          clear hK K
          try simp only [Act.put, ly1, ly2, ly3]
          refine wpAnyH_done (by kernel_rfl) ?_ _
          clear hHeld
          go_wp2
          go_ret3
          exact ⟨d, r, _, rfl, HT.out, by omega, HB9.out⟩
    · refine Up.mk rfl rfl (fun K hK => ?_)
      go_simp
      rw [← HN2.out, hw2, drew_alloc, ← HW7.out]
      refine hK.out _ _ e7 (fun hHeld => ?_)
      clear hK K
      try simp only [Act.put, ly1, ly2, ly3]
      refine manyH (rs := [4, 8, 13]) (by kernel_rfl) (by simp) (by intro i hi; simp at hi; rcases hi with rfl | rfl | rfl <;> decide) (up3 ?_ ?_ ?_)
      · refine Up.mk rfl rfl (fun K hK => ?_)
        go_simp
        refine hK.out _ _ e7 (fun hHeld => ?_)
        clear hK K
        try simp only [Act.put, ly1, ly2, ly3]
        refine manyH (rs := [8, 13]) (by kernel_rfl) (by simp) (by intro i hi; simp at hi; rcases hi with rfl | rfl <;> decide) (up2 ?_ ?_)
        · refine Up.mk rfl rfl (fun K hK => ?_)
          go_simp
          refine hK.out _ _ e7 (fun hHeld => ?_)
          clear hK K
          try simp only [Act.put, ly1, ly2, ly3]
          refine takeH (i := 9) (v := ?_) rfl (by kernel_rfl) (by kernel_rfl) (by kernel_rfl) (fun _ _ _ h => h) rfl ?_ hHeld ?_
          rotate_left
          · intro w hS; (try dsimp only at hS); obtain hS0 := hS; go_simp; first | done | (with_reducible rfl)
          try simp only [Act.put, ly1, ly2, ly3]
          refine onlyH (i := 13) rfl (by kernel_rfl) rfl (fun K hK => ?_)
          go_simp
          refine hK.out _ _ e7 (fun hHeld => ?_)
          clear hK K
          try simp only [Act.put, ly1, ly2, ly3]
          refine takeH (i := 14) (v := ?_) rfl (by kernel_rfl) (by kernel_rfl) (by kernel_rfl) (fun _ _ _ h => h) rfl ?_ hHeld ?_
          rotate_left
          · intro w hS; (try dsimp only at hS); obtain hS0 := hS; go_simp; first | done | (with_reducible rfl)
          try simp only [Act.put, ly1, ly2, ly3]
          refine takeH (i := 15) (v := ?_) rfl (by kernel_rfl) (by kernel_rfl) (by kernel_rfl) (fun _ _ _ h => h) rfl ?_ hHeld ?_
          rotate_left
          · intro w hS; (try dsimp only at hS); obtain hS0 := hS; go_simp; first | done | (with_reducible rfl)
          try simp only [Act.put, ly1, ly2, ly3]
          refine onlyH (i := 23) rfl (by kernel_rfl) rfl (fun K hK => ?_)
          refine wp_append_run (.tmp 234) (.tmp 241) 70 rfl rfl rfl HRUN.out ?_
          refine hK.out _ _ (e8) (fun hHeld => ?_)
          clear hK K
          try simp only [Act.put, ly1, ly2, ly3]
          refine takeH (i := 24) (v := ?_) rfl (by kernel_rfl) (by kernel_rfl) (by kernel_rfl) (fun _ _ _ h => h) rfl ?_ hHeld ?_
          rotate_left
          · intro w hS; (try dsimp only at hS); obtain hS0 := hS; go_simp; first | done | (with_reducible rfl)
          try simp only [Act.put, ly1, ly2, ly3]
          refine takeH (i := 25) (v := ?_) rfl (by kernel_rfl) (by kernel_rfl) (by kernel_rfl) (fun _ _ _ h => h) rfl ?_ hHeld ?_
          rotate_left
          · intro w hS; (try dsimp only at hS); obtain hS0 := hS; go_simp; first | done | (with_reducible rfl)
          try simp only [Act.put, ly1, ly2, ly3]
          refine onlyH (i := 26) rfl (by kernel_rfl) rfl (fun K hK => ?_)
          go_simp
          rw [← HW9.out]
          refine hK.out _ _ (e9) (fun hHeld => ?_)
          clear hK K
          try simp only [Act.put, ly1, ly2, ly3]
          refine wpAnyH_done (by kernel_rfl) ?_ _
          clear hHeld
          go_wp2
          go_ret3
          exact ⟨d, r, _, rfl, HT.out, by omega, HB9.out⟩
        · refine Up.mk rfl rfl (fun K hK => ?_)
          go_simp
          refine hK.out _ _ e7 (fun hHeld => ?_)
          clear hK K
          try simp only [Act.put, ly1, ly2, ly3]
          refine takeH (i := 14) (v := ?_) rfl (by kernel_rfl) (by kernel_rfl) (by kernel_rfl) (fun _ _ _ h => h) rfl ?_ hHeld ?_
          rotate_left
          · intro w hS; (try dsimp only at hS); obtain hS0 := hS; go_simp; first | done | (with_reducible rfl)
          try simp only [Act.put, ly1, ly2, ly3]
          refine onlyH (i := 8) rfl (by kernel_rfl) rfl (fun K hK => ?_)
          go_simp
          refine hK.out _ _ e7 (fun hHeld => ?_)
          clear hK K
          try simp only [Act.put, ly1, ly2, ly3]
          refine takeH (i := 9) (v := ?_) rfl (by kernel_rfl) (by kernel_rfl) (by kernel_rfl) (fun _ _ _ h => h) rfl ?_ hHeld ?_
          rotate_left
          · intro w hS; (try dsimp only at hS); obtain hS0 := hS; go_simp; first | done | (with_reducible rfl)
          try simp only [Act.put, ly1, ly2, ly3]
          refine takeH (i := 15) (v := ?_) rfl (by kernel_rfl) (by kernel_rfl) (by kernel_rfl) (fun _ _ _ h => h) rfl ?_ hHeld ?_
          rotate_left
          · intro w hS; (try dsimp only at hS); obtain hS0 := hS; go_simp; first | done | (with_reducible rfl)
          try simp only [Act.put, ly1, ly2, ly3]
          refine onlyH (i := 23) rfl (by kernel_rfl) rfl (fun K hK => ?_)
          refine wp_append_run (.tmp 234) (.tmp 241) 70 rfl rfl rfl HRUN.out ?_
          refine hK.out _ _ (e8) (fun hHeld => ?_)
          clear hK K
          try simp only [Act.put, ly1, ly2, ly3]
          refine takeH (i := 24) (v := ?_) rfl (by kernel_rfl) (by kernel_rfl) (by kernel_rfl) (fun _ _ _ h => h) rfl ?_ hHeld ?_
          rotate_left
          · intro w hS; (try dsimp only at hS); obtain hS0 := hS; go_simp; first | done | (with_reducible rfl)
          try simp only [Act.put, ly1, ly2, ly3]
          refine takeH (i := 25) (v := ?_) rfl (by kernel_rfl) (by kernel_rfl) (by kernel_rfl) (fun _ _ _ h => h) rfl ?_ hHeld ?_
          rotate_left
          · intro w hS; (try dsimp only at hS); obtain hS0 := hS; go_simp; first | done | (with_reducible rfl)
          try simp only [Act.put, ly1, ly2, ly3]
          refine onlyH (i := 26) rfl (by kernel_rfl) rfl (fun K hK => ?_)
          go_simp
          rw [← HW9.out]
          refine hK.out _ _ (e9) (fun hHeld => ?_)
          clear hK K
          try simp only [Act.put, ly1, ly2, ly3]
          refine wpAnyH_done (by kernel_rfl) ?_ _
          clear hHeld
          go_wp2
          go_ret3
          exact ⟨d, r, _, rfl, HT.out, by omega, HB9.out⟩
      · refine Up.mk rfl rfl (fun K hK => ?_)
        go_simp
        refine hK.out _ _ e7 (fun hHeld => ?_)
        clear hK K
        try simp only [Act.put, ly1, ly2, ly3]
        refine takeH (i := 9) (v := ?_) rfl (by kernel_rfl) (by kernel_rfl) (by kernel_rfl) (fun _ _ _ h => h) rfl ?_ hHeld ?_
        rotate_left
        · intro w hS; (try dsimp only at hS); obtain hS0 := hS; go_simp; first | done | (with_reducible rfl)
        try simp only [Act.put, ly1, ly2, ly3]
        refine manyH (rs := [4, 13]) (by kernel_rfl) (by simp) (by intro i hi; simp at hi; rcases hi with rfl | rfl <;> decide) (up2 ?_ ?_)
        · refine Up.mk rfl rfl (fun K hK => ?_)
          go_simp
          refine hK.out _ _ e7 (fun hHeld => ?_)
          clear hK K
          try simp only [Act.put, ly1, ly2, ly3]
          refine onlyH (i := 13) rfl (by kernel_rfl) rfl (fun K hK => ?_)
          go_simp
          refine hK.out _ _ e7 (fun hHeld => ?_)
          clear hK K
          try simp only [Act.put, ly1, ly2, ly3]
          refine takeH (i := 14) (v := ?_) rfl (by kernel_rfl) (by kernel_rfl) (by kernel_rfl) (fun _ _ _ h => h) rfl ?_ hHeld ?_
          rotate_left
          · intro w hS; (try dsimp only at hS); obtain hS0 := hS; go_simp; first | done | (with_reducible rfl)
          try simp only [Act.put, ly1, ly2, ly3]
          refine takeH (i := 15) (v := ?_) rfl (by kernel_rfl) (by kernel_rfl) (by kernel_rfl) (fun _ _ _ h => h) rfl ?_ hHeld ?_
          rotate_left
          · intro w hS; (try dsimp only at hS); obtain hS0 := hS; go_simp; first | done | (with_reducible rfl)
          try simp only [Act.put, ly1, ly2, ly3]
          refine onlyH (i := 23) rfl (by kernel_rfl) rfl (fun K hK => ?_)
          refine wp_append_run (.tmp 234) (.tmp 241) 70 rfl rfl rfl HRUN.out ?_
          refine hK.out _ _ (e8) (fun hHeld => ?_)
          clear hK K
          try simp only [Act.put, ly1, ly2, ly3]
          refine takeH (i := 24) (v := ?_) rfl (by kernel_rfl) (by kernel_rfl) (by kernel_rfl) (fun _ _ _ h => h) rfl ?_ hHeld ?_
          rotate_left
          · intro w hS; (try dsimp only at hS); obtain hS0 := hS; go_simp; first | done | (with_reducible rfl)
          try simp only [Act.put, ly1, ly2, ly3]
          refine takeH (i := 25) (v := ?_) rfl (by kernel_rfl) (by kernel_rfl) (by kernel_rfl) (fun _ _ _ h => h) rfl ?_ hHeld ?_
          rotate_left
          · intro w hS; (try dsimp only at hS); obtain hS0 := hS; go_simp; first | done | (with_reducible rfl)
          try simp only [Act.put, ly1, ly2, ly3]
          refine onlyH (i := 26) rfl (by kernel_rfl) rfl (fun K hK => ?_)
          go_simp
          rw [← HW9.out]
          refine hK.out _ _ (e9) (fun hHeld => ?_)
          clear hK K
          try simp only [Act.put, ly1, ly2, ly3]
          refine wpAnyH_done (by kernel_rfl) ?_ _
          clear hHeld
          go_wp2
          go_ret3
          exact ⟨d, r, _, rfl, HT.out, by omega, HB9.out⟩
        · refine Up.mk rfl rfl (fun K hK => ?_)
          go_simp
          refine hK.out _ _ e7 (fun hHeld => ?_)
          clear hK K
          try simp only [Act.put, ly1, ly2, ly3]
          refine takeH (i := 14) (v := ?_) rfl (by kernel_rfl) (by kernel_rfl) (by kernel_rfl) (fun _ _ _ h => h) rfl ?_ hHeld ?_
          rotate_left
          · intro w hS; (try dsimp only at hS); obtain hS0 := hS; go_simp; first | done | (with_reducible rfl)
          try simp only [Act.put, ly1, ly2, ly3]
          refine onlyH (i := 4) rfl (by kernel_rfl) rfl (fun K hK => ?_)
          go_simp
          refine hK.out _ _ e7 (fun hHeld => ?_)
          clear hK K
          try simp only [Act.put, ly1, ly2, ly3]
          refine takeH (i := 15) (v := ?_) rfl (by kernel_rfl) (by kernel_rfl) (by kernel_rfl) (fun _ _ _ h => h) rfl ?_ hHeld ?_
          rotate_left
          · intro w hS; (try dsimp only at hS); obtain hS0 := hS; go_simp; first | done | (with_reducible rfl)
          try simp only [Act.put, ly1, ly2, ly3]
          refine onlyH (i := 23) rfl (by kernel_rfl) rfl (fun K hK => ?_)
          refine wp_append_run (.tmp 234) (.tmp 241) 70 rfl rfl rfl HRUN.out ?_
          refine hK.out _ _ (e8) (fun hHeld => ?_)
          clear hK K
          try simp only [Act.put, ly1, ly2, ly3]
          refine takeH (i := 24) (v := ?_) rfl (by kernel_rfl) (by kernel_rfl) (by kernel_rfl) (fun _ _ _ h => h) rfl ?_ hHeld ?_
          rotate_left
          · intro w hS; (try dsimp only at hS); obtain hS0 := hS; go_simp; first | done | (with_reducible rfl)
          try simp only [Act.put, ly1, ly2, ly3]
          refine takeH (i := 25) (v := ?_) rfl (by kernel_rfl) (by kernel_rfl) (by kernel_rfl) (fun _ _ _ h => h) rfl ?_ hHeld ?_
          rotate_left
          · intro w hS; (try dsimp only at hS); obtain hS0 := hS; go_simp; first | done | (with_reducible rfl)
          try simp only [Act.put, ly1, ly2, ly3]
          refine onlyH (i := 26) rfl (by kernel_rfl) rfl (fun K hK => ?_)
          go_simp
          rw [← HW9.out]
          refine hK.out _ _ (e9) (fun hHeld => ?_)
          clear hK K
          try simp only [Act.put, ly1, ly2, ly3]
          refine wpAnyH_done (by kernel_rfl) ?_ _
          clear hHeld
          go_wp2
          go_ret3
          exact ⟨d, r, _, rfl, HT.out, by omega, HB9.out⟩
      · refine Up.mk rfl rfl (fun K hK => ?_)
        go_simp
        refine hK.out _ _ e7 (fun hHeld => ?_)
        clear hK K
        try simp only [Act.put, ly1, ly2, ly3]
        refine takeH (i := 14) (v := ?_) rfl (by kernel_rfl) (by kernel_rfl) (by kernel_rfl) (fun _ _ _ h => h) rfl ?_ hHeld ?_
        rotate_left
        · intro w hS; (try dsimp only at hS); obtain hS0 := hS; go_simp; first | done | (with_reducible rfl)
        try simp only [Act.put, ly1, ly2, ly3]
        refine manyH (rs := [4, 8]) (by kernel_rfl) (by simp) (by intro i hi; simp at hi; rcases hi with rfl | rfl <;> decide) (up2 ?_ ?_)
        · refine Up.mk rfl rfl (fun K hK => ?_)
          go_simp
          refine hK.out _ _ e7 (fun hHeld => ?_)
          clear hK K
          try simp only [Act.put, ly1, ly2, ly3]
          refine onlyH (i := 8) rfl (by kernel_rfl) rfl (fun K hK => ?_)
          go_simp
          refine hK.out _ _ e7 (fun hHeld => ?_)
          clear hK K
          try simp only [Act.put, ly1, ly2, ly3]
          refine takeH (i := 9) (v := ?_) rfl (by kernel_rfl) (by kernel_rfl) (by kernel_rfl) (fun _ _ _ h => h) rfl ?_ hHeld ?_
          rotate_left
          · intro w hS; (try dsimp only at hS); obtain hS0 := hS; go_simp; first | done | (with_reducible rfl)
          try simp only [Act.put, ly1, ly2, ly3]
          refine takeH (i := 15) (v := ?_) rfl (by kernel_rfl) (by kernel_rfl) (by kernel_rfl) (fun _ _ _ h => h) rfl ?_ hHeld ?_
          rotate_left
          · intro w hS; (try dsimp only at hS); obtain hS0 := hS; go_simp; first | done | (with_reducible rfl)
          try simp only [Act.put, ly1, ly2, ly3]
          refine onlyH (i := 23) rfl (by kernel_rfl) rfl (fun K hK => ?_)
          refine wp_append_run (.tmp 234) (.tmp 241) 70 rfl rfl rfl HRUN.out ?_
          refine hK.out _ _ (e8) (fun hHeld => ?_)
          clear hK K
          try simp only [Act.put, ly1, ly2, ly3]
          refine takeH (i := 24) (v := ?_) rfl (by kernel_rfl) (by kernel_rfl) (by kernel_rfl) (fun _ _ _ h => h) rfl ?_ hHeld ?_
          rotate_left
          · intro w hS; (try dsimp only at hS); obtain hS0 := hS; go_simp; first | done | (with_reducible rfl)
          try simp only [Act.put, ly1, ly2, ly3]
          refine takeH (i := 25) (v := ?_) rfl (by kernel_rfl) (by kernel_rfl) (by kernel_rfl) (fun _ _ _ h => h) rfl ?_ hHeld ?_
          rotate_left
          · intro w hS; (try dsimp only at hS); obtain hS0 := hS; go_simp; first | done | (with_reducible rfl)
          try simp only [Act.put, ly1, ly2, ly3]
          refine onlyH (i := 26) rfl (by kernel_rfl) rfl (fun K hK => ?_)
          go_simp
          rw [← HW9.out]
          refine hK.out _ _ (e9) (fun hHeld => ?_)
          clear hK K
          try simp only [Act.put, ly1, ly2, ly3]
          refine wpAnyH_done (by kernel_rfl) ?_ _
          clear hHeld
          go_wp2
          go_ret3
          exact ⟨d, r, _, rfl, HT.out, by omega, HB9.out⟩
        · refine Up.mk rfl rfl (fun K hK => ?_)
          go_simp
          refine hK.out _ _ e7 (fun hHeld => ?_)
          clear hK K
          try simp only [Act.put, ly1, ly2, ly3]
          refine takeH (i := 9) (v := ?_) rfl (by kernel_rfl) (by kernel_rfl) (by kernel_rfl) (fun _ _ _ h => h) rfl ?_ hHeld ?_
          rotate_left
          · intro w hS; (try dsimp only at hS); obtain hS0 := hS; go_simp; first | done | (with_reducible rfl)
          try simp only [Act.put, ly1, ly2, ly3]
          refine onlyH (i := 4) rfl (by kernel_rfl) rfl (fun K hK => ?_)
          go_simp
          refine hK.out _ _ e7 (fun hHeld => ?_)
          clear hK K
          try simp only [Act.put, ly1, ly2, ly3]
          refine takeH (i := 15) (v := ?_) rfl (by kernel_rfl) (by kernel_rfl) (by kernel_rfl) (fun _ _ _ h => h) rfl ?_ hHeld ?_
          rotate_left
          · intro w hS; (try dsimp only at hS); obtain hS0 := hS; go_simp; first | done | (with_reducible rfl)
          try simp only [Act.put, ly1, ly2, ly3]
          refine onlyH (i := 23) rfl (by kernel_rfl) rfl (fun K hK => ?_)
          refine wp_append_run (.tmp 234) (.tmp 241) 70 rfl rfl rfl HRUN.out ?_
          refine hK.out _ _ (e8) (fun hHeld => ?_)
          clear hK K
          try simp only [Act.put, ly1, ly2, ly3]
          refine takeH (i := 24) (v := ?_) rfl (by kernel_rfl) (by kernel_rfl) (by kernel_rfl) (fun _ _ _ h => h) rfl ?_ hHeld ?_
          rotate_left
          · intro w hS; (try dsimp only at hS); obtain hS0 := hS; go_simp; first | done | (with_reducible rfl)
          try simp only [Act.put, ly1, ly2, ly3]
          refine takeH (i := 25) (v := ?_) rfl (by kernel_rfl) (by kernel_rfl) (by kernel_rfl) (fun _ _ _ h => h) rfl ?_ hHeld ?_
          rotate_left
          · intro w hS; (try dsimp only at hS); obtain hS0 := hS; go_simp; first | done | (with_reducible rfl)
          try simp only [Act.put, ly1, ly2, ly3]
          refine onlyH (i := 26) rfl (by kernel_rfl) rfl (fun K hK => ?_)
          go_simp
          rw [← HW9.out]
          refine hK.out _ _ (e9) (fun hHeld => ?_)
          clear hK K
          try simp only [Act.put, ly1, ly2, ly3]
          refine wpAnyH_done (by kernel_rfl) ?_ _
          clear hHeld
          go_wp2
          go_ret3
          exact ⟨d, r, _, rfl, HT.out, by omega, HB9.out⟩

end Go.Proofs.Ytlejgdjkdbamkaa
