/-
  Texts joined: Shown2, Begun, Pick, Lay, MildPure.
-/
import Derived.Test.YthjcimgollfmgaaGreatDoorP20Open
import Derived.Test.YthjcimgollfmgaaGreatDoorP1Chg
import Derived.Test.YthjcimgollfmgaaGreatDoorP19Api
/-
  The document's examples, as the law shows them. Conditions: the table holds its numbers.
-/
namespace Go.Proofs.YthjcimgollfmgaaGreatDoor
open Go.RowKit

def nmL : Nm := [108]
theorem nmL_ok : isLg nmL = true := by decide
theorem calm_new (r : Nat) : Calm (Dk.new r) := ⟨rfl, fun _ => rfl⟩
theorem grp_len (rs : List (List UInt8)) : (grp sum4 rs).length = 16 + (bodyW rs).length := grp_length sum4_length rs

theorem Calmly.belowC {B : Nat} {w w' : World} {F : Nat → Prop} {d l : Nat} {z : Nm} {gs : List (List (List UInt8))} {m M : Nat} (h : Calmly B w F d l z gs m M) (hc : Chg (fun k => F k ∨ k = l) w w') : Below B w w' := by
  obtain ⟨S, L, hg, -⟩ := h
  refine hc.below (fun k hk => ?_) hg.size
  rcases hk with hk | rfl
  · exact (hg.1.2.1 k hk).1
  · exact hg.2.2.2.1
theorem laid_len (gs : List (List (List UInt8))) (rs : List (List UInt8)) : (laid sum4 (gs ++ [rs])).length = (laid sum4 gs).length + (grp sum4 rs).length := by rw [laid_snoc, List.length_append]
theorem gAB : (grp sum4 [[97], [98]]).length = 20 := by rw [grp_len]; rfl
theorem gN : (grp sum4 []).length = 16 := by rw [grp_len]; rfl
theorem gC : (grp sum4 [[99]]).length = 18 := by rw [grp_len]; rfl
theorem gD : (grp sum4 [[100]]).length = 18 := by rw [grp_len]; rfl
theorem l0 : (laid sum4 []).length = 0 := rfl
theorem l1 : (laid sum4 ([] ++ [[[97], [98]]])).length = 20 := by rw [laid_len, gAB, l0]
theorem l2 : (laid sum4 ([] ++ [[[97], [98]]] ++ [[]])).length = 36 := by rw [laid_len, gN, l1]
theorem l3 : (laid sum4 ([] ++ [[[97], [98]]] ++ [[]] ++ [[[99]]])).length = 54 := by rw [laid_len, gC, l2]

theorem lit3 (w : World) : Rs ((((w.alloc (.cells #[.string ⟨#[97]⟩, .string ⟨#[98]⟩] 9)).alloc (.cells #[] 9)).alloc (.cells #[.string ⟨#[99]⟩] 9)).alloc (.cells #[.slice (some ⟨w.heap.size, 0, none⟩) 2 2, .slice (some ⟨w.heap.size + 1, 0, none⟩) 0 0, .slice (some ⟨w.heap.size + 1 + 1, 0, none⟩) 1 1] 27))
    (.slice (some ⟨w.heap.size + 1 + 1 + 1, 0, none⟩) 3 3) ([] ++ [[[97], [98]]] ++ [[]] ++ [[[99]]]) := by
  have t0 := ((tx_built w [[97], [98]] 9 (by decide)).quiet (alloc_quiet _ (.cells #[] 9))).quiet (alloc_quiet _ (.cells #[.string ⟨#[99]⟩] 9))
  have t1 := (tx_built (w.alloc (.cells #[.string ⟨#[97]⟩, .string ⟨#[98]⟩] 9)) [] 9 (by decide)).quiet (alloc_quiet _ (.cells #[.string ⟨#[99]⟩] 9))
  have t2 := tx_built ((w.alloc (.cells #[.string ⟨#[97]⟩, .string ⟨#[98]⟩] 9)).alloc (.cells #[] 9)) [[99]] 9 (by decide)
  rw [show (w.alloc (.cells #[.string ⟨#[97]⟩, .string ⟨#[98]⟩] 9)).heap.size = w.heap.size + 1 by simp] at t1
  rw [show ((w.alloc (.cells #[.string ⟨#[97]⟩, .string ⟨#[98]⟩] 9)).alloc (.cells #[] 9)).heap.size = w.heap.size + 1 + 1 by simp] at t2
  have r := rs_built (((w.alloc (.cells #[.string ⟨#[97]⟩, .string ⟨#[98]⟩] 9)).alloc (.cells #[] 9)).alloc (.cells #[.string ⟨#[99]⟩] 9)) [.slice (some ⟨w.heap.size, 0, none⟩) 2 2, .slice (some ⟨w.heap.size + 1, 0, none⟩) 0 0, .slice (some ⟨w.heap.size + 1 + 1, 0, none⟩) 1 1] 27 [[[97], [98]], [], [[99]]] rfl (by decide) (fun j x g hx hg => by
    match j with
    | 0 =>
      injection hx with hx
      injection hg with hg
      subst hx hg
      exact t0
    | 1 =>
      injection hx with hx
      injection hg with hg
      subst hx hg
      exact t1
    | 2 =>
      injection hx with hx
      injection hg with hg
      subst hx hg
      exact t2
    | j + 3 => cases hx)
  rw [show (((w.alloc (.cells #[.string ⟨#[97]⟩, .string ⟨#[98]⟩] 9)).alloc (.cells #[] 9)).alloc (.cells #[.string ⟨#[99]⟩] 9)).heap.size = w.heap.size + 1 + 1 + 1 by simp] at r
  exact r
theorem lit1 (w : World) : Rs ((w.alloc (.cells #[.string ⟨#[100]⟩] 9)).alloc (.cells #[.slice (some ⟨w.heap.size, 0, none⟩) 1 1] 27)) (.slice (some ⟨w.heap.size + 1, 0, none⟩) 1 1) [[[100]]] := by
  have t0 := tx_built w [[100]] 9 (by decide)
  have r := rs_built (w.alloc (.cells #[.string ⟨#[100]⟩] 9)) [.slice (some ⟨w.heap.size, 0, none⟩) 1 1] 27 [[[100]]] rfl (by decide) (fun j x g hx hg => by
    match j with
    | 0 =>
      injection hx with hx
      injection hg with hg
      subst hx hg
      exact t0
    | j + 1 => cases hx)
  rw [show (w.alloc (.cells #[.string ⟨#[100]⟩] 9)).heap.size = w.heap.size + 1 by simp] at r
  exact r

set_option maxRecDepth 20000 in
set_option maxHeartbeats 3200000 in
theorem shown_any (w : World) (hB0 : 0 < w.heap.size) (hT : TabW w) : Calls Tryz.prog 5 #[] w fun e w' => e = .returned (.bool true) ∧ Below w.heap.size w w' := by
  have HT := hide hT
  clear hT
  have hnew := new_lies2 (B := w.heap.size) w (Nat.le_refl _) 10000 (by decide)
  go_enter Tryz.func5, Tryz.ntmps5
  go_wp2_with fail
  refine hnew.mono ?_
  rintro e w1 ⟨rfl, hs1, hc1⟩
  have hb1 : Below w.heap.size w w1 := hc1.below (fun _ h => h.elim) (Nat.le_refl _)
  have hop := open_calm hs1 (on_new (z := nmL) 10000) (calm_new 10000) nmL_ok hc1.size hB0 (HT.out.keep hb1) (by decide)
  have hop : Calls Tryz.prog 10 #[.pointer (some ⟨w.heap.size, 0, none⟩), .string ⟨#[108]⟩] w1 _ := hop
  go_wp2_with fail
  refine hop.mono ?_
  rintro e w2 ⟨l, v2, F2, b2, rfl, hl2, hC2, hf2, hc2, hG2, hb2, -, -⟩
  have hC2 : Calmly w.heap.size w2 F2 w.heap.size l nmL [] 1 10000 := hC2
  obtain ⟨a2, q2, rfl, -⟩ := hG2.form
  have hB2 : Below w.heap.size w w2 := hb1.trans (hc2.below (fun k hk => Nat.le_of_eq hk.symm) hb1.size)
  clear hnew hop hG2 hc2 hf2 hs1 hc1
  -- the first group
  have hap := append_calm (hC2.quiet (alloc_quiet w2 (.cells (tcW [[97], [98]]).toArray 9))) nmL_ok (txb_built hC2 [[97], [98]] 9 (by decide)) (by decide) hB0 (HT.out.keep (hB2.alloc hB2.size _)) (by decide) (by decide) (by rw [gAB, l0]; decide)
  rw [gAB, l0] at hap
  have hap : Calls Tryz.prog 23 #[.pointer (some ⟨l, 0, none⟩), .slice (some ⟨w2.heap.size, 0, none⟩) 2 2] (w2.alloc (.cells #[.string ⟨#[97]⟩, .string ⟨#[98]⟩] 9)) _ := hap
  go_wp2_with fail
  refine hap.mono ?_
  rintro e w3 ⟨rfl, F3, hC3, hf3, hc3⟩
  have hB3 : Below w.heap.size w w3 := (hB2.alloc hB2.size _).trans ((hC2.quiet (alloc_quiet w2 (.cells (tcW [[97], [98]]).toArray 9))).belowC hc3)
  clear hap hC2 hc3 hf3
  -- the second
  have hap := append_calm hC3 nmL_ok (txb_nil w3 F3 l) (by decide) hB0 (HT.out.keep hB3) (by decide) (by rw [l1]; decide) (by rw [gN, l1]; decide)
  rw [gN, l1] at hap
  go_wp2_with fail
  refine hap.mono ?_
  rintro e w4 ⟨rfl, F4, hC4, hf4, hc4⟩
  have hB4 : Below w.heap.size w w4 := hB3.trans (hC3.belowC hc4)
  clear hap hC3 hc4 hf4
  -- the third
  have hap := append_calm (hC4.quiet (alloc_quiet w4 (.cells (tcW [[99]]).toArray 9))) nmL_ok (txb_built hC4 [[99]] 9 (by decide)) (by decide) hB0 (HT.out.keep (hB4.alloc hB4.size _)) (by decide) (by rw [l2]; decide) (by rw [gC, l2]; decide)
  rw [gC, l2] at hap
  have hap : Calls Tryz.prog 23 #[.pointer (some ⟨l, 0, none⟩), .slice (some ⟨w4.heap.size, 0, none⟩) 1 1] (w4.alloc (.cells #[.string ⟨#[99]⟩] 9)) _ := hap
  go_wp2_with fail
  refine hap.mono ?_
  rintro e w5 ⟨rfl, F5, hC5, hf5, hc5⟩
  have hB5 : Below w.heap.size w w5 := (hB4.alloc hB4.size _).trans ((hC4.quiet (alloc_quiet w4 (.cells (tcW [[99]]).toArray 9))).belowC hc5)
  clear hap hC4 hc5 hf5
  -- opened once more
  have hop := open_again hC5 nmL_ok hB0 (HT.out.keep hB5) (by decide)
  have hop : Calls Tryz.prog 10 #[.pointer (some ⟨w.heap.size, 0, none⟩), .string ⟨#[108]⟩] w5 _ := hop
  have hlow5 := hC5.low
  go_wp2_with fail
  refine hop.mono ?_
  rintro e w6 ⟨l6, v6, F6, b6, rfl, hl6, hC6, -, hf6, hc6, hG6, hb6, -, hF6⟩
  have hB6 : Below w.heap.size w w6 := hB5.trans (hC5.belowC (hc6.mono fun _ _ h => .inl h))
  have HG6 := hide hG6
  obtain ⟨a6, q6, rfl, -⟩ := hG6.form
  clear hop hC5 hc6 hf6 hG6
  -- laid anew
  have hap := reset_calm (hC6.quiet (alloc_quiet w6 (.cells (tcW [[100]]).toArray 9))) nmL_ok (txb_built hC6 [[100]] 9 (by decide)) (by decide) hB0 (HT.out.keep (hB6.alloc hB6.size _)) (by decide) (by rw [gD]; decide)
  rw [gD] at hap
  have hap : Calls Tryz.prog 26 #[.pointer (some ⟨l, 0, none⟩), .slice (some ⟨w6.heap.size, 0, none⟩) 1 1] (w6.alloc (.cells #[.string ⟨#[100]⟩] 9)) _ := hap
  go_wp2_with fail
  refine hap.mono ?_
  rintro e w7 ⟨rfl, F7, hC7, hf7, hc7⟩
  have hB7 : Below w.heap.size w w7 := (hB6.alloc hB6.size _).trans ((hC6.quiet (alloc_quiet w6 (.cells (tcW [[100]]).toArray 9))).belowC hc7)
  have hG7 := (HG6.out.chg (alloc_quiet w6 (.cells (tcW [[100]]).toArray 9)) (fun _ _ h => h)).chg hc7 (fun k hk e => e.elim (fun e => by have := hF6 k e; omega) (fun e => by have := hlow5.2; omega))
  have HG7 := hide hG7
  clear hap hC6 hc7 hf7 hG7 HG6
  -- behind a crash
  have hcr := crash_calm hC7 (by decide) 0 0
  go_wp2_with fail
  refine hcr.mono ?_
  rintro e w8 ⟨d8, F8, S8, t8, rfl, hs8, ho8, hm8, hk8, hf8, hc8⟩
  have hB8 : Below w.heap.size w w8 := hB7.trans (hc8.below (fun _ h => h.elim) hB7.size)
  have hop := open_calm hs8 ho8 hm8 nmL_ok hB8.size hB0 (HT.out.keep hB8) (by omega)
  have hop : Calls Tryz.prog 10 #[.pointer (some ⟨d8, 0, none⟩), .string ⟨#[108]⟩] w8 _ := hop
  go_wp2_with fail
  refine hop.mono ?_
  rintro e w9 ⟨l9, v9, F9, b9, rfl, hl9, -, hf9, hc9, hG9, hb9, -, -⟩
  have hB79 : Below w7.heap.size w7 w9 := (hc8.below (fun _ h => h.elim) (Nat.le_refl _)).trans (hc9.below (fun k hk => hf8 k hk) hc8.size)
  have hB9 : Below w.heap.size w w9 := hB7.trans (hB79.mono hB7.size)
  have hG79 := HG7.out.keepB hB79
  have HG79 := hide hG79
  have HG9 := hide hG9
  obtain ⟨a9, q9, rfl, -⟩ := hG9.form
  clear hcr hop hs8 ho8 hm8 hk8 hf8 hc8 hf9 hc9 hG9 hG79 hC7 HG7
  have hbad := open_bad w9 w.heap.size [] (by decide)
  have hbad : Calls Tryz.prog 10 #[.pointer (some ⟨w.heap.size, 0, none⟩), .string ⟨#[]⟩] w9 _ := hbad
  go_wp2_with fail
  refine hbad.mono ?_
  rintro e w9 ⟨rfl, rfl⟩
  clear hbad
  have hq := ((((Chg.refl (fun _ => False) w9).alloc (.cells #[.string ⟨#[97]⟩, .string ⟨#[98]⟩] 9)).alloc (.cells #[] 9)).alloc (.cells #[.string ⟨#[99]⟩] 9)).alloc (.cells #[.slice (some ⟨w9.heap.size, 0, none⟩) 2 2, .slice (some ⟨w9.heap.size + 1, 0, none⟩) 0 0, .slice (some ⟨w9.heap.size + 1 + 1, 0, none⟩) 1 1] 27)
  have hsm := same_any _ _ _ _ _ (HG79.out.rs.quiet hq) (lit3 w9)
  rw [decide_eq_true rfl] at hsm
  go_wp2_with fail
  refine hsm.mono ?_
  rintro e w10 ⟨rfl, hc10⟩
  have hq10 := hq.then hc10
  have hq11 := (((Chg.refl (fun _ => False) w10).alloc (.cells #[.string ⟨#[100]⟩] 9)).alloc (.cells #[.slice (some ⟨w10.heap.size, 0, none⟩) 1 1] 27))
  have hsn := same_any _ _ _ _ _ ((HG9.out.rs.quiet hq10).quiet hq11) (lit1 w10)
  rw [decide_eq_true rfl] at hsn
  have HQ := hide (hq10.then hq11)
  clear hsm hq hc10 hq10 hq11
  go_wp2_with fail
  refine hsn.mono ?_
  rintro e w12 ⟨rfl, hc12⟩
  go_wp2
  go_ret
  exact ⟨rfl, hB9.trans ((HQ.out.then hc12).below (fun _ h => h.elim) hB9.size)⟩
end Go.Proofs.YthjcimgollfmgaaGreatDoor

/-
  The law's begun: a log on a new disk. Conditions: the table holds its numbers.
-/
namespace Go.Proofs.YthjcimgollfmgaaGreatDoor
open Go.RowKit

def nmLog : Nm := [108, 111, 103]
theorem nmLog_ok : isLg nmLog = true := by decide
/-- At x lies the law's world: a disk, a log, groups, numbers; is room tight? -/
def WorldAt (w : World) (x d l : Nat) (g f : Value) (tight : Bool) : Prop := w.heap[x]? = some (.cells #[.pointer (some ⟨d, 0, none⟩), .pointer (some ⟨l, 0, none⟩), g, f, .bool tight] 36)
set_option maxRecDepth 20000 in
set_option maxHeartbeats 1600000 in
theorem begun_any (B : Nat) (w : World) (hB0 : 0 < B) (hB : B ≤ w.heap.size) (hT : TabW w) : Calls Tryz.prog 7 #[] w fun e w' => ∃ x d l F, e = .returned (.tuple #[.pointer (some ⟨x, 0, none⟩), .bool true]) ∧ WorldAt w' x d l (.slice none 0 0) (.slice none 0 0) false ∧
    Calmly B w' F d l nmLog [] 1 16777216 ∧ (∀ k, F k → w.heap.size ≤ k ∧ k < x) ∧ w.heap.size ≤ l ∧ l < x ∧ Below w.heap.size w w' := by
  have HT := hide hT
  clear hT
  have hnew := new_lies2 (B := B) w hB 16777216 (by decide)
  go_enter Tryz.func7, Tryz.ntmps7
  go_wp2_with fail
  refine hnew.mono ?_
  rintro e w1 ⟨rfl, hs1, hc1⟩
  have hb1 : Below w.heap.size w w1 := hc1.below (fun _ h => h.elim) (Nat.le_refl _)
  have hop := open_calm hs1 (on_new (z := nmLog) 16777216) (calm_new 16777216) nmLog_ok (Nat.le_trans hB hc1.size) hB0 (HT.out.keep hb1) (by decide)
  have hop : Calls Tryz.prog 10 #[.pointer (some ⟨w.heap.size, 0, none⟩), .string ⟨#[108, 111, 103]⟩] w1 _ := hop
  go_wp2_with fail
  refine hop.mono ?_
  rintro e w2 ⟨l, v2, F2, b2, rfl, hl2, hC2, hf2, hc2, hG2, hb2, -, -⟩
  have hC2 : Calmly B w2 F2 w.heap.size l nmLog [] 1 16777216 := hC2
  obtain ⟨a2, q2, rfl, -⟩ := hG2.form
  have hB2 : Below w.heap.size w w2 := hb1.trans (hc2.below (fun k hk => Nat.le_of_eq hk.symm) hb1.size)
  have hlow := hC2.low
  have hs1' := hc1.size
  clear hnew hop hG2 hc2 hs1 hc1
  go_wp2
  go_ret2
  refine ⟨w2.heap.size, w.heap.size, l, F2, rfl, heap_last w2 _, hC2.quiet (alloc_quiet w2 _), fun k hk => ⟨?_, hlow.1 k hk⟩, by omega, hlow.2, hB2.alloc hB2.size _⟩
  rcases hf2 k hk with e | e
  · exact Nat.le_of_eq e.symm
  · omega
end Go.Proofs.YthjcimgollfmgaaGreatDoor

/-
  pick, named: which of some things a raw number speaks of. Conditions: numbers that are ints.
-/
namespace Go.Proofs.YthjcimgollfmgaaGreatDoor
open Go.RowKit

def pk (c n : Int) : Int := (if c < 0 then -(c + 1) else c) % n
theorem pk_range {c n : Int} (hn : 0 < n) : 0 ≤ pk c n ∧ pk c n < n := ⟨Int.emod_nonneg _ (by omega), Int.emod_lt_of_pos _ hn⟩
theorem ret_i {a b : Int} (h : a = b) : Ending.returned (.int .i64 a) = .returned (.int .i64 b) := by rw [h]
theorem ret_s {a b : ByteArray} (h : a = b) : Ending.returned (.string a) = .returned (.string b) := by rw [h]
set_option maxRecDepth 20000 in
theorem pick_any (w : World) (c n : Int) (hc : -9223372036854775808 ≤ c ∧ c ≤ 9223372036854775807) (hn : 0 < n ∧ n ≤ 1000) :
    Calls Tryz.prog 8 #[.int .i64 c, .int .i64 n] w fun e w' => e = .returned (.int .i64 (pk c n)) ∧ w' = w := by
  have hn0 : ¬ n = 0 := by omega
  unfold pk
  by_cases h : c < 0
  · rw [if_pos h]
    have hm : (-(c + 1)).tmod n = (-(c + 1)) % n := Int.tmod_eq_emod_of_nonneg (by omega)
    have h1 := Int.emod_nonneg (-(c + 1)) (show n ≠ 0 by omega)
    have h2 := Int.emod_lt_of_pos (-(c + 1)) (show 0 < n by omega)
    go_enter Tryz.func8, Tryz.ntmps8
    go_wp2
    go_ret
    exact ⟨ret_i (by first | rfl | omega), rfl⟩
  · rw [if_neg h]
    have hm : c.tmod n = c % n := Int.tmod_eq_emod_of_nonneg (by omega)
    have h1 := Int.emod_nonneg c (show n ≠ 0 by omega)
    have h2 := Int.emod_lt_of_pos c (show 0 < n by omega)
    go_enter Tryz.func8, Tryz.ntmps8
    go_wp2
    go_ret
    exact ⟨ret_i (by first | rfl | omega), rfl⟩

def fourN (i : Int) : Nm := if i = 0 then [97] else if i = 1 then [98] else if i = 2 then [99] else [108, 111, 110, 103, 45, 110, 97, 109, 101, 126]
def nmd (s : Nm) (c : Int) : Nm := if c.tmod 5 = 0 then s else fourN (pk c 4)
end Go.Proofs.YthjcimgollfmgaaGreatDoor

/-
  The law's may and lay, on a disk that nothing fails: a group is laid. Conditions: the log stands, has room; the law's world lies beside it; the table holds its numbers.
-/
namespace Go.Proofs.YthjcimgollfmgaaGreatDoor
open Go.RowKit
variable {B : Nat} {w w' : World} {F : Nat → Prop} {d l x : Nat} {gs : List (List (List UInt8))} {m M : Nat} {g : Value}

theorem Calmly.mono {z : Nm} {m2 : Nat} (h : Calmly B w F d l z gs m M) (hm : m ≤ m2) : Calmly B w F d l z gs m2 M := by
  obtain ⟨S, L, h1, h2, h3, h4, h5⟩ := h
  exact ⟨S, L, h1, h2, h3, Nat.le_trans h4 hm, h5⟩
theorem WorldAt.keep {X : Nat → Prop} {f : Value} {t : Bool} (h : WorldAt w x d l g f t) (hc : Chg X w w') (hx : ¬ X x) : WorldAt w' x d l g f t := hc.keep h hx

set_option maxRecDepth 20000 in
/-- may, where nothing was to fail and room is not tight. -/
theorem may_none (h : WorldAt w x d l g (.slice none 0 0) false) (e ops : Int) :
    Calls Tryz.prog 11 #[.pointer (some ⟨x, 0, none⟩), .int .i64 e, .int .i64 ops] w fun r w' => r = .returned (.bool (e == 0)) ∧ w' = w := by
  have c3 := cell_of h 3
  have c4 := cell_of h 4
  simp at c3 c4
  clear h
  by_cases he : e = 33
  · subst he
    go_enter Tryz.func11, Tryz.ntmps11
    go_wp2
    go_ret
    exact ⟨rfl, rfl⟩
  · have hb : (e == 33) = false := by simp [he]
    go_enter Tryz.func11, Tryz.ntmps11
    go_wp2_with fail
    go_loopw [7] (fun i wr => i = .int .i64 0 ∧ wr = w) (fun _ _ => 0)
    case atStart => exact ⟨rfl, rfl⟩
    case round =>
      obtain ⟨rfl, hwr⟩ := hrel
      rw [hwr]
      clear hwr
      go_wp2
      go_ret
      exact ⟨rfl, rfl⟩

/-- What a call leaves. -/
def gsThen (kd : Int) (gs : List (List (List UInt8))) (rs : List (List UInt8)) : List (List (List UInt8)) := if kd = 4 then [rs] else gs ++ [rs]

set_option maxRecDepth 20000 in
set_option maxHeartbeats 3200000 in
theorem lay_calm (hC : Calmly B w F d l nmLog gs m M) (hX : WorldAt w x d l g (.slice none 0 0) false) (hxF : ¬ F x) (hxl : x ≠ l) (kind n torn : Int) (hk : -9223372036854775808 ≤ kind ∧ kind ≤ 9223372036854775807) (vr : Value) (rs : List (List UInt8)) (hv : Tx w vr rs) (hrs : ∀ r ∈ rs, r.length ≤ 140737488355328)
    (hB0 : 0 < B) (_hB : B ≤ w.heap.size) (hT : TabW w) (hm : 2 * m < 900000000) (hl : (laid sum4 gs).length ≤ 1000000000) (hM : m + (laid sum4 gs).length + (grp sum4 (fewW rs)).length + 4 ≤ M) :
    Calls Tryz.prog 18 #[.pointer (some ⟨x, 0, none⟩), .agg #[.int .i64 kind, vr, .int .i64 n, .int .i64 torn]] w fun r w' => ∃ b F', r = .returned (.tuple #[.int .i64 0, .bool b]) ∧
      Calmly B w' F' d l nmLog (gsThen (pk kind 8) gs (fewW rs)) (m + (laid sum4 gs).length + (grp sum4 (fewW rs)).length + 13) M ∧ (∀ k, F' k → F k ∨ w.heap.size ≤ k) ∧ Chg (fun k => F k ∨ k = l) w w' := by
  have hlow := hC.low
  have hxw := lt_of_heap hX
  obtain ⟨ao, cap, rfl⟩ := hv.form
  have hgA : Chg (fun _ => False) w (w.alloc (.cells #[.int .i64 kind, .slice ao rs.length cap, .int .i64 n, .int .i64 torn] 29)) := (Chg.refl _ _).alloc _
  have hCA := hC.quiet hgA
  have hXA := hX.keep hgA (fun h => h)
  have hvA := hv.quiet hgA
  have hTA := hT.keep (hgA.below (fun _ h => h.elim) (Nat.le_refl _))
  have hqA := heap_last w (.cells #[.int .i64 kind, .slice ao rs.length cap, .int .i64 n, .int .i64 torn] 29)
  have hszA : (w.alloc (.cells #[.int .i64 kind, .slice ao rs.length cap, .int .i64 n, .int .i64 torn] 29)).heap.size = w.heap.size + 1 := by simp
  have hpk := fun W => pick_any W kind 8 hk (by omega)
  have hfr := fewW_right rs
  have hop : ∃ n0 : Nat, Calls Tryz.prog 9 #[.pointer (some ⟨d, 0, none⟩)] (w.alloc (.cells #[.int .i64 kind, .slice ao rs.length cap, .int .i64 n, .int .i64 torn] 29)) fun e w' => e = .returned (.int .i64 (n0 : Int)) ∧ w' = w.alloc (.cells #[.int .i64 kind, .slice ao rs.length cap, .int .i64 n, .int .i64 torn] 29) := by
    obtain ⟨S, L, hg, -⟩ := hCA
    exact ⟨S.n, ops_lies hg.1⟩
  obtain ⟨n0, hop⟩ := hop
  have HC := hide hC
  clear hC
  generalize hWA : w.alloc (.cells #[.int .i64 kind, .slice ao rs.length cap, .int .i64 n, .int .i64 torn] 29) = wA at *
  obtain ⟨q, hq⟩ : ∃ q, q = w.heap.size := ⟨_, rfl⟩
  rw [← hq] at hqA hszA
  have hWA' : w.alloc (.cells #[.int .i64 kind, .slice ao rs.length cap, .int .i64 n, .int .i64 torn] 29) = wA := hWA
  clear hWA
  have hqF : ¬ F q := fun h => by have := hlow.1 q h; omega
  have hql : q ≠ l := by have := hlow.2; omega
  have a0 : wA.cell? ⟨x, 0, none⟩ = some (.pointer (some ⟨d, 0, none⟩)) := cell_of hXA 0
  have a1 : wA.cell? ⟨x, 1, none⟩ = some (.pointer (some ⟨l, 0, none⟩)) := cell_of hXA 1
  have q0 : wA.cell? ⟨q, 0, none⟩ = some (.int .i64 kind) := cell_of hqA 0
  have q1 : wA.cell? ⟨q, 1, none⟩ = some (.slice ao rs.length cap) := cell_of hqA 1
  have hkp : ∀ (W : World) (b o : Nat) (u : Value), Below wA.heap.size wA W → wA.cell? ⟨b, o, none⟩ = some u → W.cell? ⟨b, o, none⟩ = some u := fun W b o u hb hu => (hb.cell (p := ⟨b, o, none⟩) (World.block_lt_of_cell? wA ⟨b, o, none⟩ hu)).trans hu
  have hw0 : w.heap.size ≤ wA.heap.size := hgA.size
  generalize pk kind 8 = kd at hpk ⊢
  clear hX hv hT
  go_enter Tryz.func18, Tryz.ntmps18
  go_wp2_with fail
  rw [← hq]
  have HQ := hide hq
  clear hq
  refine hop.mono ?_
  rintro e w1 ⟨rfl, hw1⟩
  rw [hw1]
  clear hw1
  go_wp2_with fail
  refine (hpk _).mono ?_
  rintro e w1 ⟨rfl, hw1⟩
  rw [hw1]
  clear hw1 hpk
  by_cases h4 : kd = 4
  · subst h4
    go_wp2_with fail
    refine wp_region_held_drew (S := fun W => W.cell? ⟨x, 1, none⟩ = some (.pointer (some ⟨l, 0, none⟩)) ∧ W.cell? ⟨q, 1, none⟩ = some (.slice ao rs.length cap)) (by kernel_rfl) (⟨a1, q1⟩) (fun hHeld => ?_)
    refine takeH (i := 0) (v := ?_) rfl (by kernel_rfl) (by kernel_rfl) (by kernel_rfl) (fun _ _ _ h => h) rfl ?_ hHeld ?_
    rotate_left
    · intro w hS; (try dsimp only at hS); obtain ⟨hS0, hS1⟩ := hS; go_simp; first | done | (with_reducible rfl)
    try simp only [Act.put, ly1, ly2, ly3]
    refine takeH (i := 1) (v := ?_) rfl (by kernel_rfl) (by kernel_rfl) (by kernel_rfl) (fun _ _ _ h => h) rfl ?_ hHeld ?_
    rotate_left
    · intro w hS; (try dsimp only at hS); obtain ⟨hS0, hS1⟩ := hS; go_simp; first | done | (with_reducible rfl)
    try simp only [Act.put, ly1, ly2, ly3]
    refine takeH (i := 2) (v := ?_) rfl (by kernel_rfl) (by kernel_rfl) (by kernel_rfl) (fun _ _ _ h => h) rfl ?_ hHeld ?_
    rotate_left
    · intro w hS; (try dsimp only at hS); obtain ⟨hS0, hS1⟩ := hS; go_simp; first | done | (with_reducible rfl)
    try simp only [Act.put, ly1, ly2, ly3]
    refine takeH (i := 3) (v := ?_) rfl (by kernel_rfl) (by kernel_rfl) (by kernel_rfl) (fun _ _ _ h => h) rfl ?_ hHeld ?_
    rotate_left
    · intro w hS; (try dsimp only at hS); obtain ⟨hS0, hS1⟩ := hS; go_simp; first | done | (with_reducible rfl)
    try simp only [Act.put, ly1, ly2, ly3]
    refine takeH (i := 4) (v := ?_) rfl (by kernel_rfl) (by kernel_rfl) (by kernel_rfl) (fun _ _ _ h => h) rfl ?_ hHeld ?_
    rotate_left
    · intro w hS; (try dsimp only at hS); obtain ⟨hS0, hS1⟩ := hS; go_simp; first | done | (with_reducible rfl)
    try simp only [Act.put, ly1, ly2, ly3]
    refine takeH (i := 5) (v := ?_) rfl (by kernel_rfl) (by kernel_rfl) (by kernel_rfl) (fun _ _ _ h => h) rfl ?_ hHeld ?_
    rotate_left
    · intro w hS; (try dsimp only at hS); obtain ⟨hS0, hS1⟩ := hS; go_simp; first | done | (with_reducible rfl)
    try simp only [Act.put, ly1, ly2, ly3]
    refine onlyH (i := 6) rfl (by kernel_rfl) rfl (fun K hK => ?_)
    go_simp
    refine (few_any wA.drew _ rs (hvA.quiet ((Chg.refl (fun _ => False) wA).drew)) hrs).mono ?_
    rintro e w2 ⟨vf, rfl, hown, hb2⟩
    have hb2' : Below wA.heap.size wA w2 := (Below.refl _ wA).drew.trans hb2
    have hC2 : Calmly B w2 F d l nmLog gs m M := hCA.keep (Chg.of_below hb2') (fun k hk h => by have := hlow.1 k hk; omega) (by have := hlow.2; omega)
    have hT2 := hTA.keep hb2'
    have htb : TxB w2 F l vf (fewW rs) := ⟨tx_of_own hown, fun g hg => by
      have h1 := (World.ownsRow.lt hown g hg).1
      have h2 := (World.ownsRow.lt hown g hg).2
      have h3 : wA.drew.heap.size = wA.heap.size := rfl
      exact ⟨fun hf => by have := hlow.1 g hf; omega, by have := hlow.2; omega, h2⟩⟩
    have hap := reset_calm hC2 nmLog_ok htb hfr hB0 hT2 (by omega) (by omega)
    obtain ⟨fa, fc, rfl⟩ := (tx_of_own hown).form
    have hX2 : WorldAt w2 x d l g (.slice none 0 0) false := hXA.keep (Chg.of_below hb2') (by omega)
    refine hK.out _ _ (⟨hkp w2 x 1 _ hb2' a1, hkp w2 q 1 _ hb2' q1⟩) (fun hHeld => ?_)
    clear hK K
    try simp only [Act.put, ly1, ly2, ly3]
    refine onlyH (i := 7) rfl (by kernel_rfl) rfl (fun K hK => ?_)
    go_simp
    refine hap.mono ?_
    rintro e w3 ⟨rfl, F3, hC3, hF3, hc3⟩
    have hX3 := hX2.keep hc3 (fun h => h.elim hxF hxl)
    have b1 : w3.cell? ⟨x, 1, none⟩ = some (.pointer (some ⟨l, 0, none⟩)) := cell_of hX3 1
    have b0 : w3.cell? ⟨x, 0, none⟩ = some (.pointer (some ⟨d, 0, none⟩)) := cell_of hX3 0
    have q3 : w3.cell? ⟨q, 1, none⟩ = some (.slice ao rs.length cap) := cell_of (hc3.keep ((Chg.of_below hb2').keep hqA (by omega)) (fun h => h.elim hqF hql)) 1
    refine hK.out _ _ (⟨b1, q3⟩) (fun hHeld => ?_)
    clear hK K
    try simp only [Act.put, ly1, ly2, ly3]
    refine takeH (i := 8) (v := ?_) rfl (by kernel_rfl) (by kernel_rfl) (by kernel_rfl) (fun _ _ _ h => h) rfl ?_ hHeld ?_
    rotate_left
    · intro w hS; (try dsimp only at hS); obtain ⟨hS0, hS1⟩ := hS; go_simp; first | done | (with_reducible rfl)
    try simp only [Act.put, ly1, ly2, ly3]
    refine wpAnyH_done (by kernel_rfl) ?_ _
    clear hHeld
    have hgw2 : Chg (fun _ => False) w w2 := hgA.trans (Chg.of_below hb2') (fun k hk h => by omega)
    have hgw3 : Chg (fun k => F k ∨ k = l) w w3 := (hgw2.mono fun _ _ h => h.elim).then hc3
    have hF3w : ∀ k, F3 k → F k ∨ w.heap.size ≤ k := fun k hk => (hF3 k hk).imp id (fun h => Nat.le_trans hgw2.size h)
    have hop3 : ∃ n3 : Nat, Calls Tryz.prog 9 #[.pointer (some ⟨d, 0, none⟩)] w3 fun e w' => e = .returned (.int .i64 (n3 : Int)) ∧ w' = w3 := by
      obtain ⟨S, L, hg, -⟩ := hC3
      exact ⟨S.n, ops_lies hg.1⟩
    obtain ⟨n3, hop3⟩ := hop3
    have hmy := may_none hX3 0 n0
    have HC3 := hide hC3
    clear hap hC2 hC3 htb hown hX2 hb2 hvA
    go_wp2_with fail
    refine hmy.mono ?_
    rintro e w4 ⟨rfl, hw4⟩
    rw [hw4]
    clear hw4
    go_wp2_with fail
    refine hop3.mono ?_
    rintro e w5 ⟨rfl, hw5⟩
    rw [hw5]
    clear hw5
    go_wp2
    go_ret2
    exact ⟨_, F3, rfl, (by unfold gsThen; rw [if_pos rfl]; exact HC3.out.mono (by omega)), hF3w, hgw3⟩
  · have h4b : (kd == 4) = false := by simp [h4]
    go_wp2_with fail
    refine wp_region_held_drew (S := fun W => W.cell? ⟨x, 1, none⟩ = some (.pointer (some ⟨l, 0, none⟩)) ∧ W.cell? ⟨q, 1, none⟩ = some (.slice ao rs.length cap)) (by kernel_rfl) (⟨a1, q1⟩) (fun hHeld => ?_)
    refine takeH (i := 0) (v := ?_) rfl (by kernel_rfl) (by kernel_rfl) (by kernel_rfl) (fun _ _ _ h => h) rfl ?_ hHeld ?_
    rotate_left
    · intro w hS; (try dsimp only at hS); obtain ⟨hS0, hS1⟩ := hS; go_simp; first | done | (with_reducible rfl)
    try simp only [Act.put, ly1, ly2, ly3]
    refine takeH (i := 1) (v := ?_) rfl (by kernel_rfl) (by kernel_rfl) (by kernel_rfl) (fun _ _ _ h => h) rfl ?_ hHeld ?_
    rotate_left
    · intro w hS; (try dsimp only at hS); obtain ⟨hS0, hS1⟩ := hS; go_simp; first | done | (with_reducible rfl)
    try simp only [Act.put, ly1, ly2, ly3]
    refine takeH (i := 2) (v := ?_) rfl (by kernel_rfl) (by kernel_rfl) (by kernel_rfl) (fun _ _ _ h => h) rfl ?_ hHeld ?_
    rotate_left
    · intro w hS; (try dsimp only at hS); obtain ⟨hS0, hS1⟩ := hS; go_simp; first | done | (with_reducible rfl)
    try simp only [Act.put, ly1, ly2, ly3]
    refine takeH (i := 3) (v := ?_) rfl (by kernel_rfl) (by kernel_rfl) (by kernel_rfl) (fun _ _ _ h => h) rfl ?_ hHeld ?_
    rotate_left
    · intro w hS; (try dsimp only at hS); obtain ⟨hS0, hS1⟩ := hS; go_simp; first | done | (with_reducible rfl)
    try simp only [Act.put, ly1, ly2, ly3]
    refine takeH (i := 4) (v := ?_) rfl (by kernel_rfl) (by kernel_rfl) (by kernel_rfl) (fun _ _ _ h => h) rfl ?_ hHeld ?_
    rotate_left
    · intro w hS; (try dsimp only at hS); obtain ⟨hS0, hS1⟩ := hS; go_simp; first | done | (with_reducible rfl)
    try simp only [Act.put, ly1, ly2, ly3]
    refine takeH (i := 5) (v := ?_) rfl (by kernel_rfl) (by kernel_rfl) (by kernel_rfl) (fun _ _ _ h => h) rfl ?_ hHeld ?_
    rotate_left
    · intro w hS; (try dsimp only at hS); obtain ⟨hS0, hS1⟩ := hS; go_simp; first | done | (with_reducible rfl)
    try simp only [Act.put, ly1, ly2, ly3]
    refine onlyH (i := 6) rfl (by kernel_rfl) rfl (fun K hK => ?_)
    go_simp
    refine (few_any wA.drew _ rs (hvA.quiet ((Chg.refl (fun _ => False) wA).drew)) hrs).mono ?_
    rintro e w2 ⟨vf, rfl, hown, hb2⟩
    have hb2' : Below wA.heap.size wA w2 := (Below.refl _ wA).drew.trans hb2
    have hC2 : Calmly B w2 F d l nmLog gs m M := hCA.keep (Chg.of_below hb2') (fun k hk h => by have := hlow.1 k hk; omega) (by have := hlow.2; omega)
    have hT2 := hTA.keep hb2'
    have htb : TxB w2 F l vf (fewW rs) := ⟨tx_of_own hown, fun g hg => by
      have h1 := (World.ownsRow.lt hown g hg).1
      have h2 := (World.ownsRow.lt hown g hg).2
      have h3 : wA.drew.heap.size = wA.heap.size := rfl
      exact ⟨fun hf => by have := hlow.1 g hf; omega, by have := hlow.2; omega, h2⟩⟩
    have hap := append_calm hC2 nmLog_ok htb hfr hB0 hT2 (by omega) hl hM
    obtain ⟨fa, fc, rfl⟩ := (tx_of_own hown).form
    have hX2 : WorldAt w2 x d l g (.slice none 0 0) false := hXA.keep (Chg.of_below hb2') (by omega)
    refine hK.out _ _ (⟨hkp w2 x 1 _ hb2' a1, hkp w2 q 1 _ hb2' q1⟩) (fun hHeld => ?_)
    clear hK K
    try simp only [Act.put, ly1, ly2, ly3]
    refine onlyH (i := 7) rfl (by kernel_rfl) rfl (fun K hK => ?_)
    go_simp
    refine hap.mono ?_
    rintro e w3 ⟨rfl, F3, hC3, hF3, hc3⟩
    have hX3 := hX2.keep hc3 (fun h => h.elim hxF hxl)
    have b1 : w3.cell? ⟨x, 1, none⟩ = some (.pointer (some ⟨l, 0, none⟩)) := cell_of hX3 1
    have b0 : w3.cell? ⟨x, 0, none⟩ = some (.pointer (some ⟨d, 0, none⟩)) := cell_of hX3 0
    have q3 : w3.cell? ⟨q, 1, none⟩ = some (.slice ao rs.length cap) := cell_of (hc3.keep ((Chg.of_below hb2').keep hqA (by omega)) (fun h => h.elim hqF hql)) 1
    refine hK.out _ _ (⟨b1, q3⟩) (fun hHeld => ?_)
    clear hK K
    try simp only [Act.put, ly1, ly2, ly3]
    refine takeH (i := 8) (v := ?_) rfl (by kernel_rfl) (by kernel_rfl) (by kernel_rfl) (fun _ _ _ h => h) rfl ?_ hHeld ?_
    rotate_left
    · intro w hS; (try dsimp only at hS); obtain ⟨hS0, hS1⟩ := hS; go_simp; first | done | (with_reducible rfl)
    try simp only [Act.put, ly1, ly2, ly3]
    refine wpAnyH_done (by kernel_rfl) ?_ _
    clear hHeld
    have hgw2 : Chg (fun _ => False) w w2 := hgA.trans (Chg.of_below hb2') (fun k hk h => by omega)
    have hgw3 : Chg (fun k => F k ∨ k = l) w w3 := (hgw2.mono fun _ _ h => h.elim).then hc3
    have hF3w : ∀ k, F3 k → F k ∨ w.heap.size ≤ k := fun k hk => (hF3 k hk).imp id (fun h => Nat.le_trans hgw2.size h)
    have hop3 : ∃ n3 : Nat, Calls Tryz.prog 9 #[.pointer (some ⟨d, 0, none⟩)] w3 fun e w' => e = .returned (.int .i64 (n3 : Int)) ∧ w' = w3 := by
      obtain ⟨S, L, hg, -⟩ := hC3
      exact ⟨S.n, ops_lies hg.1⟩
    obtain ⟨n3, hop3⟩ := hop3
    have hmy := may_none hX3 0 n0
    have HC3 := hide hC3
    clear hap hC2 hC3 htb hown hX2 hb2 hvA
    go_wp2_with fail
    refine hmy.mono ?_
    rintro e w4 ⟨rfl, hw4⟩
    rw [hw4]
    clear hw4
    go_wp2_with fail
    refine hop3.mono ?_
    rintro e w5 ⟨rfl, hw5⟩
    rw [hw5]
    clear hw5
    go_wp2
    go_ret2
    exact ⟨_, F3, rfl, (by unfold gsThen; rw [if_neg h4]; exact HC3.out), hF3w, hgw3⟩
end Go.Proofs.YthjcimgollfmgaaGreatDoor

/-
  On a disk that nothing fails, but whose power may go, a log's calls are done or cut off, and take few operations. No program here. Conditions: none.
-/
namespace Go.Proofs.YthjcimgollfmgaaGreatDoor
variable {z : Nm} {S S' : Dk} {L : Lw} {gs : List (List (List UInt8))} {rs : List (List UInt8)}

/-- No operation fails; the power may go. -/
def Mild (S : Dk) : Prop := ∀ k, S.fails k = false
/-- Done, or the power is gone. -/
def Fine (e : Int) : Prop := e = 0 ∨ e = 35
/-- What is turned by nothing, and at most k operations since. -/
def Near (S S' : Dk) (k : Nat) : Prop := Alt S S' ∧ S.n ≤ S'.n ∧ S'.n ≤ S.n + k
theorem Near.refl (S : Dk) (k : Nat) : Near S S k := ⟨Alt.refl S, Nat.le_refl _, Nat.le_add_right _ _⟩
theorem Near.trans {S'' : Dk} {a b c : Nat} (h : Near S S' a) (k : Near S' S'' b) (hc : a + b ≤ c) : Near S S'' c := ⟨h.1.trans k.1, Nat.le_trans h.2.1 k.2.1, by have := h.2.2; have := k.2.2; omega⟩
theorem Near.more {a b : Nat} (h : Near S S' a) (hc : a ≤ b) : Near S S' b := ⟨h.1, h.2.1, by have := h.2.2; omega⟩
theorem Near.mild {k : Nat} (h : Near S S' k) (hm : Mild S) : Mild S' := fun j => by rw [h.1.2.1]; exact hm j
theorem Calm.mild (h : Calm S) : Mild S := h.2
theorem n_begun (S : Dk) : S.n ≤ S.begun.n ∧ S.begun.n ≤ S.n + 1 := by
  unfold Dk.begun
  split
  · exact ⟨Nat.le_refl _, Nat.le_succ _⟩
  · exact ⟨Nat.le_succ _, Nat.le_refl _⟩
theorem near_begun (S : Dk) : Near S S.begun 1 := ⟨alt_begun S, n_begun S⟩
theorem n_app (S : Dk) (n : Nm) (b : List UInt8) : (S.app n b).n = S.n := by
  unfold Dk.app
  split <;> split <;> rfl
theorem near_append (S : Dk) (n : Nm) (b : List UInt8) : Near S (S.append n b).1 1 := by
  refine ⟨alt_append S n b, ?_⟩
  unfold Dk.append
  split
  · exact ⟨Nat.le_refl _, Nat.le_succ _⟩
  split
  · exact ⟨Nat.le_succ _, Nat.le_refl _⟩
  split
  · exact ⟨Nat.le_succ _, Nat.le_refl _⟩
  split
  · exact ⟨Nat.le_succ _, Nat.le_refl _⟩
  · show S.n ≤ (S.next.app n b).n ∧ (S.next.app n b).n ≤ S.n + 1
    rw [n_app]
    exact ⟨Nat.le_succ _, Nat.le_refl _⟩
theorem near_sync (S : Dk) (n : Nm) : Near S (S.sync n).1 1 := by
  refine ⟨alt_sync S n, ?_⟩
  unfold Dk.sync
  split
  · exact n_begun S
  · split <;> exact n_begun S
theorem near_syncDir (S : Dk) : Near S S.syncDir.1 1 := by
  refine ⟨alt_syncDir S, ?_⟩
  unfold Dk.syncDir
  split
  · exact ⟨Nat.le_refl _, Nat.le_succ _⟩
  split <;> exact ⟨Nat.le_succ _, Nat.le_refl _⟩
theorem near_rename (S : Dk) (a b : Nm) : Near S (S.rename a b).1 1 := by
  refine ⟨alt_rename S a b, ?_⟩
  unfold Dk.rename
  split
  · exact ⟨Nat.le_refl _, Nat.le_succ _⟩
  split
  · exact ⟨Nat.le_succ _, Nat.le_refl _⟩
  split
  · exact ⟨Nat.le_succ _, Nat.le_refl _⟩
  split
  · exact ⟨Nat.le_succ _, Nat.le_refl _⟩
  split <;> exact ⟨Nat.le_succ _, Nat.le_refl _⟩
theorem near_remove (S : Dk) (n : Nm) : Near S (S.remove n).1 1 := by
  refine ⟨alt_remove S n, ?_⟩
  unfold Dk.remove
  split
  · exact n_begun S
  · split <;> exact n_begun S
theorem near_tidy (S : Dk) (n : Nm) : Near S (tidyW S n).1 1 := by
  unfold tidyW
  split
  · exact Near.refl S 1
  · exact near_remove S _
theorem near_settle (S : Dk) (s : Bool) : Near S (settleW S s).1 1 := by
  unfold settleW
  split
  · exact Near.refl S 1
  · exact near_syncDir S
theorem near_tidied (S : Dk) (n : Nm) (s : Bool) (e : Int) : Near S (tidied S n s e).1 1 := near_tidy S n
theorem near_replace (S : Dk) (n : Nm) (s : Bool) (b : List UInt8) : Near S (replaceW S n s b).1 6 := by
  have t := near_tidy S n
  unfold replaceW
  split
  · exact t.more (by omega)
  have a := t.trans (near_append (tidyW S n).1 (n ++ anewB) b) (Nat.le_refl _)
  generalize (tidyW S n).1.append (n ++ anewB) b = V at *
  unfold rep2
  split
  · exact a.trans (near_tidied V.1 n false V.2) (by omega)
  have y := a.trans (near_sync V.1 (n ++ anewB)) (Nat.le_refl _)
  generalize V.1.sync (n ++ anewB) = Y at *
  unfold rep3
  split
  · exact y.trans (near_tidied Y.1 n false Y.2) (by omega)
  have r := y.trans (near_rename Y.1 (n ++ anewB) n) (Nat.le_refl _)
  generalize Y.1.rename (n ++ anewB) n = N at *
  unfold rep4
  split
  · exact r.trans (near_tidied N.1 n false N.2) (by omega)
  have u := r.trans (near_settle N.1 false) (Nat.le_refl _)
  generalize settleW N.1 false = U at *
  unfold rep5
  split
  · exact u.trans (near_tidied U.1 n U.2.1 U.2.2) (by omega)
  · exact u.more (by omega)
theorem near_extend (S : Dk) (n : Nm) (s : Bool) (b : List UInt8) : Near S (extendW S n s b).1 4 := by
  have t := near_tidy S n
  unfold extendW
  split
  · exact t.more (by omega)
  have u := t.trans (near_settle (tidyW S n).1 s) (Nat.le_refl _)
  generalize settleW (tidyW S n).1 s = U at *
  unfold extend2
  split
  · exact u.more (by omega)
  have a := u.trans (near_append U.1 n b) (Nat.le_refl _)
  generalize U.1.append n b = V at *
  unfold extend3
  split
  · exact a.more (by omega)
  · exact a.trans (near_sync V.1 n) (by omega)
theorem near_resetW (S : Dk) (L : Lw) (rs : List (List UInt8)) : Near S (resetW S L rs).1 7 := by
  unfold resetW
  split
  · exact Near.refl S 7
  · rw [noted_bulk]
    exact (near_replace _ _ _ _).more (by omega)
theorem near_put (S : Dk) (L : Lw) (b : List UInt8) : Near S (putW S L b).1 7 := by
  unfold putW
  split
  · exact (near_replace _ _ _ _).more (by omega)
  split
  · exact (near_extend _ _ _ _).more (by omega)
  · unfold putAnew
    split
    · exact (near_begun S).more (by omega)
    · exact (near_begun S).trans (near_replace _ _ _ _) (by omega)
theorem near_appendW (S : Dk) (L : Lw) (rs : List (List UInt8)) : Near S (appendW S L rs).1 8 := by
  unfold appendW
  split
  · exact Near.refl S 8
  split
  · unfold appendP
    rw [noted_bulk]
    exact (near_put _ _ _).more (by omega)
  · unfold appendL
    split
    · exact (near_begun S).more (by omega)
    · unfold appendP
      rw [noted_bulk]
      exact (near_begun S).trans (near_put _ _ _) (by omega)

/-! ### what is answered -/
theorem mild_file (h : Mild S) {n : Nm} (hn : isNm n = true) {f : Nat} (hl : look S.dir n = some f) : S.onFile n = .error 35 ∨ S.onFile n = .ok (f, false) := by
  unfold Dk.onFile
  split
  · exact .inl rfl
  · rw [if_neg (by rw [hn]; decide), hl, h]
    exact .inr rfl
theorem mild_remove (h : Mild S) {n : Nm} (hn : isNm n = true) {f : Nat} (hl : look S.dir n = some f) : Fine (S.remove n).2 := by
  unfold Dk.remove
  rcases mild_file h hn hl with e | e
  · rw [e]; exact .inr rfl
  · rw [e]; exact .inl rfl
theorem mild_tidy (h : Mild S) (hn : isNm (z ++ anewB) = true) : Fine (tidyW S z).2 := by
  unfold tidyW
  split
  · exact .inl rfl
  · next hs =>
    unfold Dk.size at hs
    split at hs
    · omega
    · next f hl => exact mild_remove h hn hl
theorem mild_append (h : Mild S) {n : Nm} (hn : isNm n = true) {b : List UInt8} (hr : S.used + b.length ≤ S.room) : Fine (S.append n b).2 := by
  unfold Dk.append
  split
  · exact .inr rfl
  · rw [if_neg (by rw [hn]; decide), if_neg (fun e => by have := e.2; omega), if_neg (by rw [h]; decide)]
    exact .inl rfl
theorem mild_sync (h : Mild S) {n : Nm} (hn : isNm n = true) {f : Nat} (hl : look S.dir n = some f) : Fine (S.sync n).2 := by
  unfold Dk.sync
  rcases mild_file h hn hl with e | e
  · rw [e]; exact .inr rfl
  · rw [e]; exact .inl rfl
theorem mild_syncDir (h : Mild S) : Fine S.syncDir.2 := by
  unfold Dk.syncDir
  split
  · exact .inr rfl
  · rw [if_neg (by rw [h]; decide)]
    exact .inl rfl
theorem mild_settle (h : Mild S) (s : Bool) : Fine (settleW S s).2.2 := by
  unfold settleW
  split
  · exact .inl rfl
  · exact mild_syncDir h
theorem mild_rename (h : Mild S) {a b : Nm} (ha : isNm a = true) (hb : isNm b = true) (hl : look S.dir a ≠ none) : Fine (S.rename a b).2 := by
  have h1 : ¬ (isNm a = false ∨ isNm b = false) := fun e => e.elim (fun e => by rw [ha] at e; cases e) (fun e => by rw [hb] at e; cases e)
  have h2 : ¬ S.fails S.n = true := by rw [h]; decide
  unfold Dk.rename
  split
  · exact .inr rfl
  · split <;> exact .inl rfl
theorem mild_replace (h : Mild S) (hk : Ok S) (hz : isNm z = true) (hn : isNm (z ++ anewB) = true) (s : Bool) {b : List UInt8} (hb : b ≠ []) (hr : S.bulk + b.length + 2 ≤ S.room) : Fine (replaceW S z s b).2.2 := by
  have t0 := mild_tidy h hn
  have t1 := near_tidy S z
  have t2 := bulk_tidy S z
  have t3 := ok_tidy hk z
  unfold replaceW
  split
  · exact t0
  next e0 =>
  have t4 := tidy_none (S := S) (z := z) (by simpa using e0)
  generalize tidyW S z = T at *
  have u1 := used_le t3
  have a0 := mild_append (t1.mild h) hn (b := b) (by rw [t1.1.2.2]; omega)
  have a1 := t1.trans (near_append T.1 (z ++ anewB) b) (Nat.le_refl _)
  have a2 := append_new (b := b) t4 hb
  unfold rep2
  split
  · exact a0
  next e1 =>
  have a2 := a2 (by simpa using e1)
  generalize T.1.append (z ++ anewB) b = V at *
  have y0 := mild_sync (a1.mild h) hn a2.1
  have y1 := a1.trans (near_sync V.1 (z ++ anewB)) (Nat.le_refl _)
  unfold rep3
  split
  · exact y0
  next e2 =>
  have y2 := sync_fresh a2.1 a2.2 (by simpa using e2)
  generalize V.1.sync (z ++ anewB) = Y at *
  have r0 := mild_rename (y1.mild h) hn hz (by rw [y2.1]; simp)
  have r1 := y1.trans (near_rename Y.1 (z ++ anewB) z) (Nat.le_refl _)
  unfold rep4
  split
  · exact r0
  generalize Y.1.rename (z ++ anewB) z = N at *
  have s0 := mild_settle (r1.mild h) false
  unfold rep5
  split
  · exact s0
  · exact s0
theorem mild_extend {f : Nat} {all : List UInt8} (hK : Kx z S f all.length all) (h : Mild S) (hk : Ok S) (hz : isNm z = true) (hn : isNm (z ++ anewB) = true) (s : Bool) {b : List UInt8} (hr : S.bulk + b.length + 3 ≤ S.room) : Fine (extendW S z s b).2.2 := by
  have t0 := mild_tidy h hn
  have t1 := near_tidy S z
  have t2 := bulk_tidy S z
  have t3 := ok_tidy hk z
  have t5 : look (tidyW S z).1.dir z = some f ∧ look (tidyW S z).1.sure z = some f := by
    have : Kx z (tidyW S z).1 f all.length all := by
      unfold tidyW
      split
      · exact hK
      · exact hK.remove (anew_ne z)
    exact ⟨this.lookD, this.lookS⟩
  unfold extendW
  split
  · exact t0
  generalize tidyW S z = T at *
  have s0 := mild_settle (t1.mild h) s
  have s1 := t1.trans (near_settle T.1 s) (Nat.le_refl _)
  have s2 := bulk_settle T.1 s
  have s3 := ok_settle t3 s
  have s5 : look (settleW T.1 s).1.dir z = some f := by
    unfold settleW
    split
    · exact t5.1
    · unfold Dk.syncDir
      split
      · exact t5.1
      split
      · exact t5.2
      · exact t5.1
  unfold extend2
  split
  · exact s0
  generalize settleW T.1 s = U at *
  have u1 := used_le s3
  have a0 := mild_append (s1.mild h) hz (b := b) (by rw [s1.1.2.2]; omega)
  have a1 := s1.trans (near_append U.1 z b) (Nat.le_refl _)
  have a5 := append_keeps s5 b
  unfold extend3
  split
  · exact a0
  generalize U.1.append z b = V at *
  exact mild_sync (a1.mild h) hz a5
theorem mild_readAt {all : List UInt8} {f : Nat} (hK : Kx z S f all.length all) (h : Mild S) (hz : isNm z = true) (k : Nat) (hl : k ≤ all.length) : Fine (S.readAt z 0 (k : Int)).2 := by
  obtain ⟨x, h1, h2, h3⟩ := hK.file
  have hb : S.bytes f = all := by simp [Dk.bytes, h1, h2]
  unfold Dk.readAt
  rcases mild_file h hz hK.lookD with e | e
  · rw [e]; exact .inr rfl
  · rw [e]
    dsimp only
    rw [hb, if_neg (by omega)]
    exact .inl rfl
theorem noted_fine {p : Dk × Bool × Int} {wh k : Int} (h : Fine p.2.2) : Fine (noted p L wh k).2.2 := by
  unfold noted
  split
  · exact .inl rfl
  · exact h
theorem mild_resetW (h : Has z S L gs) (hc : Mild S) (hk : Ok S) (hz : isNm z = true) (hn : isNm (z ++ anewB) = true) (hr : right rs = true) (hb : S.bulk + (grp sum4 rs).length + 2 ≤ S.room) : Fine (resetW S L rs).2.2 := by
  unfold resetW
  rw [if_neg (by rw [hr]; decide), h.1]
  exact noted_fine (mild_replace hc hk hz hn L.sure (grp_ne rs) hb)
theorem mild_appendW (h : Has z S L gs) (hc : Mild S) (hk : Ok S) (hz : isNm z = true) (hn : isNm (z ++ anewB) = true) (hr : right rs = true) (hb : S.bulk + (laid sum4 gs).length + (grp sum4 rs).length + 4 ≤ S.room) : Fine (appendW S L rs).2.2 := by
  obtain ⟨hln, tail, ⟨ho, ht, hF⟩, h1, h2⟩ := h
  unfold appendW
  rw [if_neg (by rw [hr]; decide), if_pos (by rw [hln, hF.size, h2])]
  unfold appendP putW
  rw [hln]
  split
  · exact noted_fine (mild_replace hc hk hz hn L.sure (grp_ne rs) (by omega))
  next h0 =>
  have hK : ∃ f, Kx z S f (laid sum4 gs ++ tail).length (laid sum4 gs ++ tail) := by
    rcases hF with ⟨-, e⟩ | hK
    · have := congrArg List.length e
      rw [List.length_append, List.length_nil] at this
      omega
    · exact hK
  obtain ⟨f, hK⟩ := hK
  split
  · exact noted_fine (mild_extend hK hc hk hz hn L.sure (by omega))
  · have r0 := mild_readAt hK hc hz (laid sum4 gs).length (by rw [List.length_append]; omega)
    have r1 := readAt_firm hF (laid sum4 gs).length
    rw [← h1] at r0 r1
    unfold putAnew
    split
    · exact noted_fine r0
    next e0 =>
    rw [r1 (by simpa using e0), List.take_left]
    have hbb := bulk_begun' S
    have hrm := (alt_begun S).2.2
    exact noted_fine (mild_replace ((near_begun S).mild hc) hk.begun hz hn L.sure (b := laid sum4 gs ++ grp sum4 rs) (by rw [← laid_snoc]; exact laid_ne gs rs) (by rw [List.length_append, hrm]; omega))
/-- Where nothing torn lies behind the groups, only the group is laid. -/
theorem bulk_appendW' (h : Has z S L gs) (hw : L.wh = L.sz) : (appendW S L rs).1.bulk ≤ S.bulk + (grp sum4 rs).length + 13 := by
  obtain ⟨hln, tail, ⟨ho, ht, hF⟩, h1, h2⟩ := h
  unfold appendW
  split
  · show S.bulk ≤ _; omega
  rw [if_pos (by rw [hln, hF.size, h2])]
  unfold appendP
  rw [noted_bulk]
  unfold putW
  rw [hln]
  split
  · have := bulk_replaceW S z L.sure (grp sum4 rs); omega
  · have := bulk_extendW S z L.sure (grp sum4 rs); omega
/-- A call that was done leaves nothing torn. -/
theorem noted_whole {p : Dk × Bool × Int} {wh k : Int} (h : (noted p L wh k).2.2 = 0) : (noted p L wh k).2.1.wh = (noted p L wh k).2.1.sz := by
  unfold noted at h ⊢
  split
  · rfl
  · next h0 =>
    rw [if_neg h0] at h
    exact absurd h h0
theorem reset_whole (hr : right rs = true) (h : (resetW S L rs).2.2 = 0) : (resetW S L rs).2.1.wh = (resetW S L rs).2.1.sz := by
  unfold resetW at h ⊢
  rw [if_neg (by rw [hr]; decide)] at h ⊢
  exact noted_whole h
theorem append_whole (hh : Has z S L gs) (hr : right rs = true) (h : (appendW S L rs).2.2 = 0) : (appendW S L rs).2.1.wh = (appendW S L rs).2.1.sz := by
  obtain ⟨hln, tail, ⟨ho, ht, hF⟩, h1, h2⟩ := hh
  unfold appendW at h ⊢
  rw [if_neg (by rw [hr]; decide), if_pos (by rw [hln, hF.size, h2])] at h ⊢
  exact noted_whole h
end Go.Proofs.YthjcimgollfmgaaGreatDoor
