/-
  Texts joined: Shown2, Begun, Pick, Lay, Args5.
-/
import Derived.Test.YtglknhjbcckjiaaDoorK19Open
import Derived.Test.YtglknhjbcckjiaaDoorK1Chg
/-
  The document's examples, as the law shows them. Conditions: the table holds its numbers.
-/
namespace Go.Proofs.YtglknhjbcckjiaaDoor
open Go.RowKit

def nmL : Nm := [108]
theorem nmL_ok : isLg nmL = true := by decide
theorem calm_new (r : Nat) : Calm (Dk.new r) := ⟨rfl, fun _ => rfl⟩
theorem grp_len (rs : List (List UInt8)) : (grp sum4 rs).length = 16 + (bodyW rs).length := grp_length sum4_length rs

theorem Calmly.belowC {B : Nat} {w w' : World} {F : Nat → Prop} {d l : Nat} {z : Nm} {gs : List (List (List UInt8))} {m M : Nat} (h : Calmly B w F d l z gs m M) (hc : Chg (fun k => F k ∨ k = l) w w') : Below B w w' := by
  obtain ⟨S, L, hg, -⟩ := h
  refine hc.below (fun k hk => ?_) hg.size
  rcases hk with hk | rfl
  · exact (hg.1.2.1 k hk).1
  · exact hg.2.2.2.1
theorem laid_len (gs : List (List (List UInt8))) (rs : List (List UInt8)) : (laid sum4 (gs ++ [rs])).length = (laid sum4 gs).length + (grp sum4 rs).length := by rw [laid_snoc, List.length_append]
theorem gAB : (grp sum4 [[97], [98]]).length = 20 := by rw [grp_len]; rfl
theorem gN : (grp sum4 []).length = 16 := by rw [grp_len]; rfl
theorem gC : (grp sum4 [[99]]).length = 18 := by rw [grp_len]; rfl
theorem gD : (grp sum4 [[100]]).length = 18 := by rw [grp_len]; rfl
theorem l0 : (laid sum4 []).length = 0 := rfl
theorem l1 : (laid sum4 ([] ++ [[[97], [98]]])).length = 20 := by rw [laid_len, gAB, l0]
theorem l2 : (laid sum4 ([] ++ [[[97], [98]]] ++ [[]])).length = 36 := by rw [laid_len, gN, l1]
theorem l3 : (laid sum4 ([] ++ [[[97], [98]]] ++ [[]] ++ [[[99]]])).length = 54 := by rw [laid_len, gC, l2]

theorem lit3 (w : World) : Rs ((((w.alloc (.cells #[.string ⟨#[97]⟩, .string ⟨#[98]⟩] 9)).alloc (.cells #[] 9)).alloc (.cells #[.string ⟨#[99]⟩] 9)).alloc (.cells #[.slice (some ⟨w.heap.size, 0, none⟩) 2 2, .slice (some ⟨w.heap.size + 1, 0, none⟩) 0 0, .slice (some ⟨w.heap.size + 1 + 1, 0, none⟩) 1 1] 40))
    (.slice (some ⟨w.heap.size + 1 + 1 + 1, 0, none⟩) 3 3) ([] ++ [[[97], [98]]] ++ [[]] ++ [[[99]]]) := by
  have t0 := ((tx_built w [[97], [98]] 9 (by decide)).quiet (alloc_quiet _ (.cells #[] 9))).quiet (alloc_quiet _ (.cells #[.string ⟨#[99]⟩] 9))
  have t1 := (tx_built (w.alloc (.cells #[.string ⟨#[97]⟩, .string ⟨#[98]⟩] 9)) [] 9 (by decide)).quiet (alloc_quiet _ (.cells #[.string ⟨#[99]⟩] 9))
  have t2 := tx_built ((w.alloc (.cells #[.string ⟨#[97]⟩, .string ⟨#[98]⟩] 9)).alloc (.cells #[] 9)) [[99]] 9 (by decide)
  rw [show (w.alloc (.cells #[.string ⟨#[97]⟩, .string ⟨#[98]⟩] 9)).heap.size = w.heap.size + 1 by simp] at t1
  rw [show ((w.alloc (.cells #[.string ⟨#[97]⟩, .string ⟨#[98]⟩] 9)).alloc (.cells #[] 9)).heap.size = w.heap.size + 1 + 1 by simp] at t2
  have r := rs_built (((w.alloc (.cells #[.string ⟨#[97]⟩, .string ⟨#[98]⟩] 9)).alloc (.cells #[] 9)).alloc (.cells #[.string ⟨#[99]⟩] 9)) [.slice (some ⟨w.heap.size, 0, none⟩) 2 2, .slice (some ⟨w.heap.size + 1, 0, none⟩) 0 0, .slice (some ⟨w.heap.size + 1 + 1, 0, none⟩) 1 1] 40 [[[97], [98]], [], [[99]]] rfl (by decide) (fun j x g hx hg => by
    match j with
    | 0 =>
      injection hx with hx
      injection hg with hg
      subst hx hg
      exact t0
    | 1 =>
      injection hx with hx
      injection hg with hg
      subst hx hg
      exact t1
    | 2 =>
      injection hx with hx
      injection hg with hg
      subst hx hg
      exact t2
    | j + 3 => cases hx)
  rw [show (((w.alloc (.cells #[.string ⟨#[97]⟩, .string ⟨#[98]⟩] 9)).alloc (.cells #[] 9)).alloc (.cells #[.string ⟨#[99]⟩] 9)).heap.size = w.heap.size + 1 + 1 + 1 by simp] at r
  exact r
theorem lit1 (w : World) : Rs ((w.alloc (.cells #[.string ⟨#[100]⟩] 9)).alloc (.cells #[.slice (some ⟨w.heap.size, 0, none⟩) 1 1] 40)) (.slice (some ⟨w.heap.size + 1, 0, none⟩) 1 1) [[[100]]] := by
  have t0 := tx_built w [[100]] 9 (by decide)
  have r := rs_built (w.alloc (.cells #[.string ⟨#[100]⟩] 9)) [.slice (some ⟨w.heap.size, 0, none⟩) 1 1] 40 [[[100]]] rfl (by decide) (fun j x g hx hg => by
    match j with
    | 0 =>
      injection hx with hx
      injection hg with hg
      subst hx hg
      exact t0
    | j + 1 => cases hx)
  rw [show (w.alloc (.cells #[.string ⟨#[100]⟩] 9)).heap.size = w.heap.size + 1 by simp] at r
  exact r

set_option maxRecDepth 20000 in
set_option maxHeartbeats 3200000 in
theorem shown_any (w : World) (hB0 : 0 < w.heap.size) (hT : TabW w) : Calls Tryd.prog 7 #[] w fun e w' => e = .returned (.bool true) ∧ Below w.heap.size w w' := by
  have HT := hide hT
  clear hT
  have hnew := new_lies2 (B := w.heap.size) w (Nat.le_refl _) 10000 (by decide)
  go_enter Tryd.func7, Tryd.ntmps7
  go_wp2_with fail
  refine hnew.mono ?_
  rintro e w1 ⟨rfl, hs1, hc1⟩
  have hb1 : Below w.heap.size w w1 := hc1.below (fun _ h => h.elim) (Nat.le_refl _)
  have hop := open_calm hs1 (on_new (z := nmL) 10000) (calm_new 10000) nmL_ok hc1.size hB0 (HT.out.keep hb1) (by decide)
  have hop : Calls Tryd.prog 15 #[.pointer (some ⟨w.heap.size, 0, none⟩), .string ⟨#[108]⟩] w1 _ := hop
  go_wp2_with fail
  refine hop.mono ?_
  rintro e w2 ⟨l, v2, F2, b2, rfl, hl2, hC2, hf2, hc2, hG2, hb2, -, -⟩
  have hC2 : Calmly w.heap.size w2 F2 w.heap.size l nmL [] 1 10000 := hC2
  obtain ⟨a2, q2, rfl, -⟩ := hG2.form
  have hB2 : Below w.heap.size w w2 := hb1.trans (hc2.below (fun k hk => Nat.le_of_eq hk.symm) hb1.size)
  clear hnew hop hG2 hc2 hf2 hs1 hc1
  -- the first group
  have hap := append_calm (hC2.quiet (alloc_quiet w2 (.cells (tcW [[97], [98]]).toArray 9))) nmL_ok (txb_built hC2 [[97], [98]] 9 (by decide)) (by decide) hB0 (HT.out.keep (hB2.alloc hB2.size _)) (by decide) (by decide) (by rw [gAB, l0]; decide)
  rw [gAB, l0] at hap
  have hap : Calls Tryd.prog 18 #[.pointer (some ⟨l, 0, none⟩), .slice (some ⟨w2.heap.size, 0, none⟩) 2 2] (w2.alloc (.cells #[.string ⟨#[97]⟩, .string ⟨#[98]⟩] 9)) _ := hap
  go_wp2_with fail
  refine hap.mono ?_
  rintro e w3 ⟨rfl, F3, hC3, hf3, hc3⟩
  have hB3 : Below w.heap.size w w3 := (hB2.alloc hB2.size _).trans ((hC2.quiet (alloc_quiet w2 (.cells (tcW [[97], [98]]).toArray 9))).belowC hc3)
  clear hap hC2 hc3 hf3
  -- the second
  have hap := append_calm hC3 nmL_ok (txb_nil w3 F3 l) (by decide) hB0 (HT.out.keep hB3) (by decide) (by rw [l1]; decide) (by rw [gN, l1]; decide)
  rw [gN, l1] at hap
  go_wp2_with fail
  refine hap.mono ?_
  rintro e w4 ⟨rfl, F4, hC4, hf4, hc4⟩
  have hB4 : Below w.heap.size w w4 := hB3.trans (hC3.belowC hc4)
  clear hap hC3 hc4 hf4
  -- the third
  have hap := append_calm (hC4.quiet (alloc_quiet w4 (.cells (tcW [[99]]).toArray 9))) nmL_ok (txb_built hC4 [[99]] 9 (by decide)) (by decide) hB0 (HT.out.keep (hB4.alloc hB4.size _)) (by decide) (by rw [l2]; decide) (by rw [gC, l2]; decide)
  rw [gC, l2] at hap
  have hap : Calls Tryd.prog 18 #[.pointer (some ⟨l, 0, none⟩), .slice (some ⟨w4.heap.size, 0, none⟩) 1 1] (w4.alloc (.cells #[.string ⟨#[99]⟩] 9)) _ := hap
  go_wp2_with fail
  refine hap.mono ?_
  rintro e w5 ⟨rfl, F5, hC5, hf5, hc5⟩
  have hB5 : Below w.heap.size w w5 := (hB4.alloc hB4.size _).trans ((hC4.quiet (alloc_quiet w4 (.cells (tcW [[99]]).toArray 9))).belowC hc5)
  clear hap hC4 hc5 hf5
  -- opened once more
  have hop := open_again hC5 nmL_ok hB0 (HT.out.keep hB5) (by decide)
  have hop : Calls Tryd.prog 15 #[.pointer (some ⟨w.heap.size, 0, none⟩), .string ⟨#[108]⟩] w5 _ := hop
  have hlow5 := hC5.low
  go_wp2_with fail
  refine hop.mono ?_
  rintro e w6 ⟨l6, v6, F6, b6, rfl, hl6, hC6, -, hf6, hc6, hG6, hb6, -, hF6⟩
  have hB6 : Below w.heap.size w w6 := hB5.trans (hC5.belowC (hc6.mono fun _ _ h => .inl h))
  have HG6 := hide hG6
  obtain ⟨a6, q6, rfl, -⟩ := hG6.form
  clear hop hC5 hc6 hf6 hG6
  -- laid anew
  have hap := reset_calm (hC6.quiet (alloc_quiet w6 (.cells (tcW [[100]]).toArray 9))) nmL_ok (txb_built hC6 [[100]] 9 (by decide)) (by decide) hB0 (HT.out.keep (hB6.alloc hB6.size _)) (by decide) (by rw [gD]; decide)
  rw [gD] at hap
  have hap : Calls Tryd.prog 20 #[.pointer (some ⟨l, 0, none⟩), .slice (some ⟨w6.heap.size, 0, none⟩) 1 1] (w6.alloc (.cells #[.string ⟨#[100]⟩] 9)) _ := hap
  go_wp2_with fail
  refine hap.mono ?_
  rintro e w7 ⟨rfl, F7, hC7, hf7, hc7⟩
  have hB7 : Below w.heap.size w w7 := (hB6.alloc hB6.size _).trans ((hC6.quiet (alloc_quiet w6 (.cells (tcW [[100]]).toArray 9))).belowC hc7)
  have hG7 := (HG6.out.chg (alloc_quiet w6 (.cells (tcW [[100]]).toArray 9)) (fun _ _ h => h)).chg hc7 (fun k hk e => e.elim (fun e => by have := hF6 k e; omega) (fun e => by have := hlow5.2; omega))
  have HG7 := hide hG7
  clear hap hC6 hc7 hf7 hG7 HG6
  -- behind a crash
  have hcr := crash_calm hC7 (by decide) 0 0
  go_wp2_with fail
  refine hcr.mono ?_
  rintro e w8 ⟨d8, F8, S8, t8, rfl, hs8, ho8, hm8, hk8, hf8, hc8⟩
  have hB8 : Below w.heap.size w w8 := hB7.trans (hc8.below (fun _ h => h.elim) hB7.size)
  have hop := open_calm hs8 ho8 hm8 nmL_ok hB8.size hB0 (HT.out.keep hB8) (by omega)
  have hop : Calls Tryd.prog 15 #[.pointer (some ⟨d8, 0, none⟩), .string ⟨#[108]⟩] w8 _ := hop
  go_wp2_with fail
  refine hop.mono ?_
  rintro e w9 ⟨l9, v9, F9, b9, rfl, hl9, -, hf9, hc9, hG9, hb9, -, -⟩
  have hB79 : Below w7.heap.size w7 w9 := (hc8.below (fun _ h => h.elim) (Nat.le_refl _)).trans (hc9.below (fun k hk => hf8 k hk) hc8.size)
  have hB9 : Below w.heap.size w w9 := hB7.trans (hB79.mono hB7.size)
  have hG79 := HG7.out.keepB hB79
  have HG79 := hide hG79
  have HG9 := hide hG9
  obtain ⟨a9, q9, rfl, -⟩ := hG9.form
  clear hcr hop hs8 ho8 hm8 hk8 hf8 hc8 hf9 hc9 hG9 hG79 hC7 HG7
  have hbad := open_bad w9 w.heap.size [] (by decide)
  have hbad : Calls Tryd.prog 15 #[.pointer (some ⟨w.heap.size, 0, none⟩), .string ⟨#[]⟩] w9 _ := hbad
  go_wp2_with fail
  refine hbad.mono ?_
  rintro e w9 ⟨rfl, rfl⟩
  clear hbad
  have hq := ((((Chg.refl (fun _ => False) w9).alloc (.cells #[.string ⟨#[97]⟩, .string ⟨#[98]⟩] 9)).alloc (.cells #[] 9)).alloc (.cells #[.string ⟨#[99]⟩] 9)).alloc (.cells #[.slice (some ⟨w9.heap.size, 0, none⟩) 2 2, .slice (some ⟨w9.heap.size + 1, 0, none⟩) 0 0, .slice (some ⟨w9.heap.size + 1 + 1, 0, none⟩) 1 1] 40)
  have hsm := same_any _ _ _ _ _ (HG79.out.rs.quiet hq) (lit3 w9)
  rw [decide_eq_true rfl] at hsm
  go_wp2_with fail
  refine hsm.mono ?_
  rintro e w10 ⟨rfl, hc10⟩
  have hq10 := hq.then hc10
  have hq11 := (((Chg.refl (fun _ => False) w10).alloc (.cells #[.string ⟨#[100]⟩] 9)).alloc (.cells #[.slice (some ⟨w10.heap.size, 0, none⟩) 1 1] 40))
  have hsn := same_any _ _ _ _ _ ((HG9.out.rs.quiet hq10).quiet hq11) (lit1 w10)
  rw [decide_eq_true rfl] at hsn
  have HQ := hide (hq10.then hq11)
  clear hsm hq hc10 hq10 hq11
  go_wp2_with fail
  refine hsn.mono ?_
  rintro e w12 ⟨rfl, hc12⟩
  go_wp2
  go_ret
  exact ⟨rfl, hB9.trans ((HQ.out.then hc12).below (fun _ h => h.elim) hB9.size)⟩
end Go.Proofs.YtglknhjbcckjiaaDoor

/-
  The law's begun: a log on a new disk. Conditions: the table holds its numbers.
-/
namespace Go.Proofs.YtglknhjbcckjiaaDoor
open Go.RowKit

def nmLog : Nm := [108, 111, 103]
theorem nmLog_ok : isLg nmLog = true := by decide
/-- At x lies the law's world: a disk, a log, groups, numbers; is room tight? -/
def WorldAt (w : World) (x d l : Nat) (g f : Value) (tight : Bool) : Prop := w.heap[x]? = some (.cells #[.pointer (some ⟨d, 0, none⟩), .pointer (some ⟨l, 0, none⟩), g, f, .bool tight] 35)
set_option maxRecDepth 20000 in
set_option maxHeartbeats 1600000 in
theorem begun_any (B : Nat) (w : World) (hB0 : 0 < B) (hB : B ≤ w.heap.size) (hT : TabW w) : Calls Tryd.prog 8 #[] w fun e w' => ∃ x d l F, e = .returned (.tuple #[.pointer (some ⟨x, 0, none⟩), .bool true]) ∧ WorldAt w' x d l (.slice none 0 0) (.slice none 0 0) false ∧
    Calmly B w' F d l nmLog [] 1 16777216 ∧ (∀ k, F k → w.heap.size ≤ k ∧ k < x) ∧ w.heap.size ≤ l ∧ l < x ∧ Below w.heap.size w w' := by
  have HT := hide hT
  clear hT
  have hnew := new_lies2 (B := B) w hB 16777216 (by decide)
  go_enter Tryd.func8, Tryd.ntmps8
  go_wp2_with fail
  refine hnew.mono ?_
  rintro e w1 ⟨rfl, hs1, hc1⟩
  have hb1 : Below w.heap.size w w1 := hc1.below (fun _ h => h.elim) (Nat.le_refl _)
  have hop := open_calm hs1 (on_new (z := nmLog) 16777216) (calm_new 16777216) nmLog_ok (Nat.le_trans hB hc1.size) hB0 (HT.out.keep hb1) (by decide)
  have hop : Calls Tryd.prog 15 #[.pointer (some ⟨w.heap.size, 0, none⟩), .string ⟨#[108, 111, 103]⟩] w1 _ := hop
  go_wp2_with fail
  refine hop.mono ?_
  rintro e w2 ⟨l, v2, F2, b2, rfl, hl2, hC2, hf2, hc2, hG2, hb2, -, -⟩
  have hC2 : Calmly B w2 F2 w.heap.size l nmLog [] 1 16777216 := hC2
  obtain ⟨a2, q2, rfl, -⟩ := hG2.form
  have hB2 : Below w.heap.size w w2 := hb1.trans (hc2.below (fun k hk => Nat.le_of_eq hk.symm) hb1.size)
  have hlow := hC2.low
  have hs1' := hc1.size
  clear hnew hop hG2 hc2 hs1 hc1
  go_wp2
  go_ret2
  refine ⟨w2.heap.size, w.heap.size, l, F2, rfl, heap_last w2 _, hC2.quiet (alloc_quiet w2 _), fun k hk => ⟨?_, hlow.1 k hk⟩, by omega, hlow.2, hB2.alloc hB2.size _⟩
  rcases hf2 k hk with e | e
  · exact Nat.le_of_eq e.symm
  · omega
end Go.Proofs.YtglknhjbcckjiaaDoor

/-
  pick, named: which of some things a raw number speaks of. Conditions: numbers that are ints.
-/
namespace Go.Proofs.YtglknhjbcckjiaaDoor
open Go.RowKit

def pk (c n : Int) : Int := (if c < 0 then -(c + 1) else c) % n
theorem pk_range {c n : Int} (hn : 0 < n) : 0 ≤ pk c n ∧ pk c n < n := ⟨Int.emod_nonneg _ (by omega), Int.emod_lt_of_pos _ hn⟩
theorem ret_i {a b : Int} (h : a = b) : Ending.returned (.int .i64 a) = .returned (.int .i64 b) := by rw [h]
theorem ret_s {a b : ByteArray} (h : a = b) : Ending.returned (.string a) = .returned (.string b) := by rw [h]
set_option maxRecDepth 20000 in
theorem pick_any (w : World) (c n : Int) (hc : -9223372036854775808 ≤ c ∧ c ≤ 9223372036854775807) (hn : 0 < n ∧ n ≤ 1000) :
    Calls Tryd.prog 11 #[.int .i64 c, .int .i64 n] w fun e w' => e = .returned (.int .i64 (pk c n)) ∧ w' = w := by
  have hn0 : ¬ n = 0 := by omega
  unfold pk
  by_cases h : c < 0
  · rw [if_pos h]
    have hm : (-(c + 1)).tmod n = (-(c + 1)) % n := Int.tmod_eq_emod_of_nonneg (by omega)
    have h1 := Int.emod_nonneg (-(c + 1)) (show n ≠ 0 by omega)
    have h2 := Int.emod_lt_of_pos (-(c + 1)) (show 0 < n by omega)
    go_enter Tryd.func11, Tryd.ntmps11
    go_wp2
    go_ret
    exact ⟨ret_i (by first | rfl | omega), rfl⟩
  · rw [if_neg h]
    have hm : c.tmod n = c % n := Int.tmod_eq_emod_of_nonneg (by omega)
    have h1 := Int.emod_nonneg c (show n ≠ 0 by omega)
    have h2 := Int.emod_lt_of_pos c (show 0 < n by omega)
    go_enter Tryd.func11, Tryd.ntmps11
    go_wp2
    go_ret
    exact ⟨ret_i (by first | rfl | omega), rfl⟩

def fourN (i : Int) : Nm := if i = 0 then [97] else if i = 1 then [98] else if i = 2 then [99] else [108, 111, 110, 103, 45, 110, 97, 109, 101, 126]
def nmd (s : Nm) (c : Int) : Nm := if c.tmod 5 = 0 then s else fourN (pk c 4)
end Go.Proofs.YtglknhjbcckjiaaDoor

/-
  The law's may and lay, on a disk that nothing fails: a group is laid. Conditions: the log stands, has room; the law's world lies beside it; the table holds its numbers.
-/
namespace Go.Proofs.YtglknhjbcckjiaaDoor
open Go.RowKit
variable {B : Nat} {w w' : World} {F : Nat → Prop} {d l x : Nat} {gs : List (List (List UInt8))} {m M : Nat} {g : Value}

theorem Calmly.mono {z : Nm} {m2 : Nat} (h : Calmly B w F d l z gs m M) (hm : m ≤ m2) : Calmly B w F d l z gs m2 M := by
  obtain ⟨S, L, h1, h2, h3, h4, h5⟩ := h
  exact ⟨S, L, h1, h2, h3, Nat.le_trans h4 hm, h5⟩
theorem WorldAt.keep {X : Nat → Prop} {f : Value} {t : Bool} (h : WorldAt w x d l g f t) (hc : Chg X w w') (hx : ¬ X x) : WorldAt w' x d l g f t := hc.keep h hx

set_option maxRecDepth 20000 in
/-- may, where nothing was to fail and room is not tight. -/
theorem may_none (h : WorldAt w x d l g (.slice none 0 0) false) (e ops : Int) :
    Calls Tryd.prog 22 #[.pointer (some ⟨x, 0, none⟩), .int .i64 e, .int .i64 ops] w fun r w' => r = .returned (.bool (e == 0)) ∧ w' = w := by
  have c3 := cell_of h 3
  have c4 := cell_of h 4
  simp at c3 c4
  clear h
  by_cases he : e = 33
  · subst he
    go_enter Tryd.func22, Tryd.ntmps22
    go_wp2
    go_ret
    exact ⟨rfl, rfl⟩
  · have hb : (e == 33) = false := by simp [he]
    go_enter Tryd.func22, Tryd.ntmps22
    go_wp2_with fail
    go_loopw [7] (fun i wr => i = .int .i64 0 ∧ wr = w) (fun _ _ => 0)
    case atStart => exact ⟨rfl, rfl⟩
    case round =>
      obtain ⟨rfl, hwr⟩ := hrel
      rw [hwr]
      clear hwr
      go_wp2
      go_ret
      exact ⟨rfl, rfl⟩

/-- What a call leaves. -/
def gsThen (kd : Int) (gs : List (List (List UInt8))) (rs : List (List UInt8)) : List (List (List UInt8)) := if kd = 4 then [rs] else gs ++ [rs]

set_option maxRecDepth 20000 in
set_option maxHeartbeats 3200000 in
theorem lay_calm (hC : Calmly B w F d l nmLog gs m M) (hX : WorldAt w x d l g (.slice none 0 0) false) (hxF : ¬ F x) (hxl : x ≠ l) (kind n torn : Int) (hk : -9223372036854775808 ≤ kind ∧ kind ≤ 9223372036854775807) (vr : Value) (rs : List (List UInt8)) (hv : Tx w vr rs) (hrs : ∀ r ∈ rs, r.length ≤ 140737488355328)
    (hB0 : 0 < B) (_hB : B ≤ w.heap.size) (hT : TabW w) (hm : 2 * m < 900000000) (hl : (laid sum4 gs).length ≤ 1000000000) (hM : m + (laid sum4 gs).length + (grp sum4 (fewW rs)).length + 4 ≤ M) :
    Calls Tryd.prog 13 #[.pointer (some ⟨x, 0, none⟩), .agg #[.int .i64 kind, vr, .int .i64 n, .int .i64 torn]] w fun r w' => ∃ b F', r = .returned (.tuple #[.int .i64 0, .bool b]) ∧
      Calmly B w' F' d l nmLog (gsThen (pk kind 8) gs (fewW rs)) (m + (laid sum4 gs).length + (grp sum4 (fewW rs)).length + 13) M ∧ (∀ k, F' k → F k ∨ w.heap.size ≤ k) ∧ Chg (fun k => F k ∨ k = l) w w' := by
  have hlow := hC.low
  have hxw := lt_of_heap hX
  obtain ⟨ao, cap, rfl⟩ := hv.form
  have hgA : Chg (fun _ => False) w (w.alloc (.cells #[.int .i64 kind, .slice ao rs.length cap, .int .i64 n, .int .i64 torn] 42)) := (Chg.refl _ _).alloc _
  have hCA := hC.quiet hgA
  have hXA := hX.keep hgA (fun h => h)
  have hvA := hv.quiet hgA
  have hTA := hT.keep (hgA.below (fun _ h => h.elim) (Nat.le_refl _))
  have hqA := heap_last w (.cells #[.int .i64 kind, .slice ao rs.length cap, .int .i64 n, .int .i64 torn] 42)
  have hszA : (w.alloc (.cells #[.int .i64 kind, .slice ao rs.length cap, .int .i64 n, .int .i64 torn] 42)).heap.size = w.heap.size + 1 := by simp
  have hpk := fun W => pick_any W kind 8 hk (by omega)
  have hfr := fewW_right rs
  have hop : ∃ n0 : Nat, Calls Tryd.prog 10 #[.pointer (some ⟨d, 0, none⟩)] (w.alloc (.cells #[.int .i64 kind, .slice ao rs.length cap, .int .i64 n, .int .i64 torn] 42)) fun e w' => e = .returned (.int .i64 (n0 : Int)) ∧ w' = w.alloc (.cells #[.int .i64 kind, .slice ao rs.length cap, .int .i64 n, .int .i64 torn] 42) := by
    obtain ⟨S, L, hg, -⟩ := hCA
    exact ⟨S.n, ops_lies hg.1⟩
  obtain ⟨n0, hop⟩ := hop
  have HC := hide hC
  clear hC
  generalize hWA : w.alloc (.cells #[.int .i64 kind, .slice ao rs.length cap, .int .i64 n, .int .i64 torn] 42) = wA at *
  obtain ⟨q, hq⟩ : ∃ q, q = w.heap.size := ⟨_, rfl⟩
  rw [← hq] at hqA hszA
  have hWA' : w.alloc (.cells #[.int .i64 kind, .slice ao rs.length cap, .int .i64 n, .int .i64 torn] 42) = wA := hWA
  clear hWA
  have hqF : ¬ F q := fun h => by have := hlow.1 q h; omega
  have hql : q ≠ l := by have := hlow.2; omega
  have a0 : wA.cell? ⟨x, 0, none⟩ = some (.pointer (some ⟨d, 0, none⟩)) := cell_of hXA 0
  have a1 : wA.cell? ⟨x, 1, none⟩ = some (.pointer (some ⟨l, 0, none⟩)) := cell_of hXA 1
  have q0 : wA.cell? ⟨q, 0, none⟩ = some (.int .i64 kind) := cell_of hqA 0
  have q1 : wA.cell? ⟨q, 1, none⟩ = some (.slice ao rs.length cap) := cell_of hqA 1
  have hkp : ∀ (W : World) (b o : Nat) (u : Value), Below wA.heap.size wA W → wA.cell? ⟨b, o, none⟩ = some u → W.cell? ⟨b, o, none⟩ = some u := fun W b o u hb hu => (hb.cell (p := ⟨b, o, none⟩) (World.block_lt_of_cell? wA ⟨b, o, none⟩ hu)).trans hu
  have hw0 : w.heap.size ≤ wA.heap.size := hgA.size
  generalize pk kind 8 = kd at hpk ⊢
  clear hX hv hT
  go_enter Tryd.func13, Tryd.ntmps13
  go_wp2_with fail
  rw [← hq]
  have HQ := hide hq
  clear hq
  refine hop.mono ?_
  rintro e w1 ⟨rfl, hw1⟩
  rw [hw1]
  clear hw1
  go_wp2_with fail
  refine (hpk _).mono ?_
  rintro e w1 ⟨rfl, hw1⟩
  rw [hw1]
  clear hw1 hpk
  by_cases h4 : kd = 4
  · subst h4
    go_wp2_with fail
    refine wp_region_held_drew (S := fun W => W.cell? ⟨x, 1, none⟩ = some (.pointer (some ⟨l, 0, none⟩)) ∧ W.cell? ⟨q, 1, none⟩ = some (.slice ao rs.length cap)) (by kernel_rfl) (⟨a1, q1⟩) (fun hHeld => ?_)
    refine takeH (i := 0) (v := ?_) rfl (by kernel_rfl) (by kernel_rfl) (by kernel_rfl) (fun _ _ _ h => h) rfl ?_ hHeld ?_
    rotate_left
    · intro w hS; (try dsimp only at hS); obtain ⟨hS0, hS1⟩ := hS; go_simp; first | done | (with_reducible rfl)
    try simp only [Act.put, ly1, ly2, ly3]
    refine takeH (i := 1) (v := ?_) rfl (by kernel_rfl) (by kernel_rfl) (by kernel_rfl) (fun _ _ _ h => h) rfl ?_ hHeld ?_
    rotate_left
    · intro w hS; (try dsimp only at hS); obtain ⟨hS0, hS1⟩ := hS; go_simp; first | done | (with_reducible rfl)
    try simp only [Act.put, ly1, ly2, ly3]
    refine takeH (i := 2) (v := ?_) rfl (by kernel_rfl) (by kernel_rfl) (by kernel_rfl) (fun _ _ _ h => h) rfl ?_ hHeld ?_
    rotate_left
    · intro w hS; (try dsimp only at hS); obtain ⟨hS0, hS1⟩ := hS; go_simp; first | done | (with_reducible rfl)
    try simp only [Act.put, ly1, ly2, ly3]
    refine takeH (i := 3) (v := ?_) rfl (by kernel_rfl) (by kernel_rfl) (by kernel_rfl) (fun _ _ _ h => h) rfl ?_ hHeld ?_
    rotate_left
    · intro w hS; (try dsimp only at hS); obtain ⟨hS0, hS1⟩ := hS; go_simp; first | done | (with_reducible rfl)
    try simp only [Act.put, ly1, ly2, ly3]
    refine takeH (i := 4) (v := ?_) rfl (by kernel_rfl) (by kernel_rfl) (by kernel_rfl) (fun _ _ _ h => h) rfl ?_ hHeld ?_
    rotate_left
    · intro w hS; (try dsimp only at hS); obtain ⟨hS0, hS1⟩ := hS; go_simp; first | done | (with_reducible rfl)
    try simp only [Act.put, ly1, ly2, ly3]
    refine takeH (i := 5) (v := ?_) rfl (by kernel_rfl) (by kernel_rfl) (by kernel_rfl) (fun _ _ _ h => h) rfl ?_ hHeld ?_
    rotate_left
    · intro w hS; (try dsimp only at hS); obtain ⟨hS0, hS1⟩ := hS; go_simp; first | done | (with_reducible rfl)
    try simp only [Act.put, ly1, ly2, ly3]
    refine onlyH (i := 6) rfl (by kernel_rfl) rfl (fun K hK => ?_)
    go_simp
    refine (few_any wA.drew _ rs (hvA.quiet ((Chg.refl (fun _ => False) wA).drew)) hrs).mono ?_
    rintro e w2 ⟨vf, rfl, hown, hb2⟩
    have hb2' : Below wA.heap.size wA w2 := (Below.refl _ wA).drew.trans hb2
    have hC2 : Calmly B w2 F d l nmLog gs m M := hCA.keep (Chg.of_below hb2') (fun k hk h => by have := hlow.1 k hk; omega) (by have := hlow.2; omega)
    have hT2 := hTA.keep hb2'
    have htb : TxB w2 F l vf (fewW rs) := ⟨tx_of_own hown, fun g hg => by
      have h1 := (World.ownsRow.lt hown g hg).1
      have h2 := (World.ownsRow.lt hown g hg).2
      have h3 : wA.drew.heap.size = wA.heap.size := rfl
      exact ⟨fun hf => by have := hlow.1 g hf; omega, by have := hlow.2; omega, h2⟩⟩
    have hap := reset_calm hC2 nmLog_ok htb hfr hB0 hT2 (by omega) (by omega)
    obtain ⟨fa, fc, rfl⟩ := (tx_of_own hown).form
    have hX2 : WorldAt w2 x d l g (.slice none 0 0) false := hXA.keep (Chg.of_below hb2') (by omega)
    refine hK.out _ _ (⟨hkp w2 x 1 _ hb2' a1, hkp w2 q 1 _ hb2' q1⟩) (fun hHeld => ?_)
    clear hK K
    try simp only [Act.put, ly1, ly2, ly3]
    refine onlyH (i := 7) rfl (by kernel_rfl) rfl (fun K hK => ?_)
    go_simp
    refine hap.mono ?_
    rintro e w3 ⟨rfl, F3, hC3, hF3, hc3⟩
    have hX3 := hX2.keep hc3 (fun h => h.elim hxF hxl)
    have b1 : w3.cell? ⟨x, 1, none⟩ = some (.pointer (some ⟨l, 0, none⟩)) := cell_of hX3 1
    have b0 : w3.cell? ⟨x, 0, none⟩ = some (.pointer (some ⟨d, 0, none⟩)) := cell_of hX3 0
    have q3 : w3.cell? ⟨q, 1, none⟩ = some (.slice ao rs.length cap) := cell_of (hc3.keep ((Chg.of_below hb2').keep hqA (by omega)) (fun h => h.elim hqF hql)) 1
    refine hK.out _ _ (⟨b1, q3⟩) (fun hHeld => ?_)
    clear hK K
    try simp only [Act.put, ly1, ly2, ly3]
    refine takeH (i := 8) (v := ?_) rfl (by kernel_rfl) (by kernel_rfl) (by kernel_rfl) (fun _ _ _ h => h) rfl ?_ hHeld ?_
    rotate_left
    · intro w hS; (try dsimp only at hS); obtain ⟨hS0, hS1⟩ := hS; go_simp; first | done | (with_reducible rfl)
    try simp only [Act.put, ly1, ly2, ly3]
    refine wpAnyH_done (by kernel_rfl) ?_ _
    clear hHeld
    have hgw2 : Chg (fun _ => False) w w2 := hgA.trans (Chg.of_below hb2') (fun k hk h => by omega)
    have hgw3 : Chg (fun k => F k ∨ k = l) w w3 := (hgw2.mono fun _ _ h => h.elim).then hc3
    have hF3w : ∀ k, F3 k → F k ∨ w.heap.size ≤ k := fun k hk => (hF3 k hk).imp id (fun h => Nat.le_trans hgw2.size h)
    have hop3 : ∃ n3 : Nat, Calls Tryd.prog 10 #[.pointer (some ⟨d, 0, none⟩)] w3 fun e w' => e = .returned (.int .i64 (n3 : Int)) ∧ w' = w3 := by
      obtain ⟨S, L, hg, -⟩ := hC3
      exact ⟨S.n, ops_lies hg.1⟩
    obtain ⟨n3, hop3⟩ := hop3
    have hmy := may_none hX3 0 n0
    have HC3 := hide hC3
    clear hap hC2 hC3 htb hown hX2 hb2 hvA
    go_wp2_with fail
    refine hmy.mono ?_
    rintro e w4 ⟨rfl, hw4⟩
    rw [hw4]
    clear hw4
    go_wp2_with fail
    refine hop3.mono ?_
    rintro e w5 ⟨rfl, hw5⟩
    rw [hw5]
    clear hw5
    go_wp2
    go_ret2
    exact ⟨_, F3, rfl, (by unfold gsThen; rw [if_pos rfl]; exact HC3.out.mono (by omega)), hF3w, hgw3⟩
  · have h4b : (kd == 4) = false := by simp [h4]
    go_wp2_with fail
    refine wp_region_held_drew (S := fun W => W.cell? ⟨x, 1, none⟩ = some (.pointer (some ⟨l, 0, none⟩)) ∧ W.cell? ⟨q, 1, none⟩ = some (.slice ao rs.length cap)) (by kernel_rfl) (⟨a1, q1⟩) (fun hHeld => ?_)
    refine takeH (i := 0) (v := ?_) rfl (by kernel_rfl) (by kernel_rfl) (by kernel_rfl) (fun _ _ _ h => h) rfl ?_ hHeld ?_
    rotate_left
    · intro w hS; (try dsimp only at hS); obtain ⟨hS0, hS1⟩ := hS; go_simp; first | done | (with_reducible rfl)
    try simp only [Act.put, ly1, ly2, ly3]
    refine takeH (i := 1) (v := ?_) rfl (by kernel_rfl) (by kernel_rfl) (by kernel_rfl) (fun _ _ _ h => h) rfl ?_ hHeld ?_
    rotate_left
    · intro w hS; (try dsimp only at hS); obtain ⟨hS0, hS1⟩ := hS; go_simp; first | done | (with_reducible rfl)
    try simp only [Act.put, ly1, ly2, ly3]
    refine takeH (i := 2) (v := ?_) rfl (by kernel_rfl) (by kernel_rfl) (by kernel_rfl) (fun _ _ _ h => h) rfl ?_ hHeld ?_
    rotate_left
    · intro w hS; (try dsimp only at hS); obtain ⟨hS0, hS1⟩ := hS; go_simp; first | done | (with_reducible rfl)
    try simp only [Act.put, ly1, ly2, ly3]
    refine takeH (i := 3) (v := ?_) rfl (by kernel_rfl) (by kernel_rfl) (by kernel_rfl) (fun _ _ _ h => h) rfl ?_ hHeld ?_
    rotate_left
    · intro w hS; (try dsimp only at hS); obtain ⟨hS0, hS1⟩ := hS; go_simp; first | done | (with_reducible rfl)
    try simp only [Act.put, ly1, ly2, ly3]
    refine takeH (i := 4) (v := ?_) rfl (by kernel_rfl) (by kernel_rfl) (by kernel_rfl) (fun _ _ _ h => h) rfl ?_ hHeld ?_
    rotate_left
    · intro w hS; (try dsimp only at hS); obtain ⟨hS0, hS1⟩ := hS; go_simp; first | done | (with_reducible rfl)
    try simp only [Act.put, ly1, ly2, ly3]
    refine takeH (i := 5) (v := ?_) rfl (by kernel_rfl) (by kernel_rfl) (by kernel_rfl) (fun _ _ _ h => h) rfl ?_ hHeld ?_
    rotate_left
    · intro w hS; (try dsimp only at hS); obtain ⟨hS0, hS1⟩ := hS; go_simp; first | done | (with_reducible rfl)
    try simp only [Act.put, ly1, ly2, ly3]
    refine onlyH (i := 6) rfl (by kernel_rfl) rfl (fun K hK => ?_)
    go_simp
    refine (few_any wA.drew _ rs (hvA.quiet ((Chg.refl (fun _ => False) wA).drew)) hrs).mono ?_
    rintro e w2 ⟨vf, rfl, hown, hb2⟩
    have hb2' : Below wA.heap.size wA w2 := (Below.refl _ wA).drew.trans hb2
    have hC2 : Calmly B w2 F d l nmLog gs m M := hCA.keep (Chg.of_below hb2') (fun k hk h => by have := hlow.1 k hk; omega) (by have := hlow.2; omega)
    have hT2 := hTA.keep hb2'
    have htb : TxB w2 F l vf (fewW rs) := ⟨tx_of_own hown, fun g hg => by
      have h1 := (World.ownsRow.lt hown g hg).1
      have h2 := (World.ownsRow.lt hown g hg).2
      have h3 : wA.drew.heap.size = wA.heap.size := rfl
      exact ⟨fun hf => by have := hlow.1 g hf; omega, by have := hlow.2; omega, h2⟩⟩
    have hap := append_calm hC2 nmLog_ok htb hfr hB0 hT2 (by omega) hl hM
    obtain ⟨fa, fc, rfl⟩ := (tx_of_own hown).form
    have hX2 : WorldAt w2 x d l g (.slice none 0 0) false := hXA.keep (Chg.of_below hb2') (by omega)
    refine hK.out _ _ (⟨hkp w2 x 1 _ hb2' a1, hkp w2 q 1 _ hb2' q1⟩) (fun hHeld => ?_)
    clear hK K
    try simp only [Act.put, ly1, ly2, ly3]
    refine onlyH (i := 7) rfl (by kernel_rfl) rfl (fun K hK => ?_)
    go_simp
    refine hap.mono ?_
    rintro e w3 ⟨rfl, F3, hC3, hF3, hc3⟩
    have hX3 := hX2.keep hc3 (fun h => h.elim hxF hxl)
    have b1 : w3.cell? ⟨x, 1, none⟩ = some (.pointer (some ⟨l, 0, none⟩)) := cell_of hX3 1
    have b0 : w3.cell? ⟨x, 0, none⟩ = some (.pointer (some ⟨d, 0, none⟩)) := cell_of hX3 0
    have q3 : w3.cell? ⟨q, 1, none⟩ = some (.slice ao rs.length cap) := cell_of (hc3.keep ((Chg.of_below hb2').keep hqA (by omega)) (fun h => h.elim hqF hql)) 1
    refine hK.out _ _ (⟨b1, q3⟩) (fun hHeld => ?_)
    clear hK K
    try simp only [Act.put, ly1, ly2, ly3]
    refine takeH (i := 8) (v := ?_) rfl (by kernel_rfl) (by kernel_rfl) (by kernel_rfl) (fun _ _ _ h => h) rfl ?_ hHeld ?_
    rotate_left
    · intro w hS; (try dsimp only at hS); obtain ⟨hS0, hS1⟩ := hS; go_simp; first | done | (with_reducible rfl)
    try simp only [Act.put, ly1, ly2, ly3]
    refine wpAnyH_done (by kernel_rfl) ?_ _
    clear hHeld
    have hgw2 : Chg (fun _ => False) w w2 := hgA.trans (Chg.of_below hb2') (fun k hk h => by omega)
    have hgw3 : Chg (fun k => F k ∨ k = l) w w3 := (hgw2.mono fun _ _ h => h.elim).then hc3
    have hF3w : ∀ k, F3 k → F k ∨ w.heap.size ≤ k := fun k hk => (hF3 k hk).imp id (fun h => Nat.le_trans hgw2.size h)
    have hop3 : ∃ n3 : Nat, Calls Tryd.prog 10 #[.pointer (some ⟨d, 0, none⟩)] w3 fun e w' => e = .returned (.int .i64 (n3 : Int)) ∧ w' = w3 := by
      obtain ⟨S, L, hg, -⟩ := hC3
      exact ⟨S.n, ops_lies hg.1⟩
    obtain ⟨n3, hop3⟩ := hop3
    have hmy := may_none hX3 0 n0
    have HC3 := hide hC3
    clear hap hC2 hC3 htb hown hX2 hb2 hvA
    go_wp2_with fail
    refine hmy.mono ?_
    rintro e w4 ⟨rfl, hw4⟩
    rw [hw4]
    clear hw4
    go_wp2_with fail
    refine hop3.mono ?_
    rintro e w5 ⟨rfl, hw5⟩
    rw [hw5]
    clear hw5
    go_wp2
    go_ret2
    exact ⟨_, F3, rfl, (by unfold gsThen; rw [if_neg h4]; exact HC3.out), hF3w, hgw3⟩
end Go.Proofs.YtglknhjbcckjiaaDoor

/-
  What came in: calls, truths, in memory that was there when the law began. No condition.
-/
namespace Go.Proofs.YtglknhjbcckjiaaDoor
open Go.RowKit
variable {B : Nat} {w w' : World}

/-- A slice of texts, below B. -/
def Tb (B : Nat) (w : World) (v : Value) (ks : List (List UInt8)) : Prop :=
  ∃ ao cap, v = .slice ao ks.length cap ∧ ks.length ≤ cap ∧ cap ≤ maxLen ∧ (ks ≠ [] → ∃ b off, ao = some ⟨b, off, none⟩ ∧ b < B ∧ ∀ j (h : j < ks.length), w.cell? ⟨b, off + j, none⟩ = some (.string (strB ks[j])))
theorem Tb.keep {v : Value} {ks : List (List UInt8)} (h : Tb B w v ks) (hb : Below B w w') : Tb B w' v ks := by
  obtain ⟨ao, cap, hv, h1, h2, h4⟩ := h
  refine ⟨ao, cap, hv, h1, h2, fun hl => ?_⟩
  obtain ⟨b, off, ha, hlt, hc⟩ := h4 hl
  exact ⟨b, off, ha, hlt, fun j hj => (hb.cell (p := ⟨b, off + j, none⟩) hlt).trans (hc j hj)⟩
theorem Tb.tx {v : Value} {ks : List (List UInt8)} (h : Tb B w v ks) (hB : B ≤ w.heap.size) : Tx w v ks := by
  obtain ⟨ao, cap, hv, h1, h2, h4⟩ := h
  refine ⟨ao, cap, hv, h1, h2, fun hl => ?_⟩
  obtain ⟨b, off, ha, hlt, hc⟩ := h4 hl
  exact ⟨b, off, ha, Nat.lt_of_lt_of_le hlt hB, hc⟩
structure Oq where
  kind : Int
  recs : List (List UInt8)
  n : Int
  torn : Int
/-- One call, its four cells from here on. -/
def OpAt (B : Nat) (w : World) (b off : Nat) (o : Oq) : Prop :=
  w.cell? ⟨b, off, none⟩ = some (.int .i64 o.kind) ∧ (∃ u, w.cell? ⟨b, off + 1, none⟩ = some u ∧ Tb B w u o.recs) ∧ w.cell? ⟨b, off + 2, none⟩ = some (.int .i64 o.n) ∧ w.cell? ⟨b, off + 3, none⟩ = some (.int .i64 o.torn)
theorem OpAt.keep {b off : Nat} {o : Oq} (h : OpAt B w b off o) (hb : Below B w w') (hlt : b < B) : OpAt B w' b off o := by
  obtain ⟨h0, ⟨u, h3, h3'⟩, h1, h2⟩ := h
  have k := fun (i : Nat) => hb.cell (p := ⟨b, i, none⟩) hlt
  exact ⟨(k _).trans h0, ⟨u, (k _).trans h3, h3'.keep hb⟩, (k _).trans h1, (k _).trans h2⟩
/-- Calls. -/
def Ob (B : Nat) (w : World) (v : Value) (os : List Oq) : Prop :=
  ∃ ao cap, v = .slice ao os.length cap ∧ os.length ≤ cap ∧ cap ≤ maxLen ∧ (os ≠ [] → ∃ b off, ao = some ⟨b, off, none⟩ ∧ b < B ∧ ∀ j (h : j < os.length), OpAt B w b (off + j * 4) os[j])
theorem Ob.keep {v : Value} {os : List Oq} (h : Ob B w v os) (hb : Below B w w') : Ob B w' v os := by
  obtain ⟨ao, cap, hv, h1, h2, h4⟩ := h
  refine ⟨ao, cap, hv, h1, h2, fun hl => ?_⟩
  obtain ⟨b, off, ha, hlt, hc⟩ := h4 hl
  exact ⟨b, off, ha, hlt, fun j hj => (hc j hj).keep hb hlt⟩
theorem Ob.at {ao : Option Addr} {n cap : Nat} {os : List Oq} (h : Ob B w (.slice ao n cap) os) {j : Nat} (hj : j < os.length) : ∃ b off, ao = some ⟨b, off, none⟩ ∧ b < B ∧ OpAt B w b (off + j * 4) os[j] := by
  obtain ⟨ao', cap', hv, h1, h2, h4⟩ := h
  injection hv with e1 e2 e3
  subst e1 e2 e3
  obtain ⟨b, off, ha, hlt, hc⟩ := h4 (by rintro rfl; simp at hj)
  exact ⟨b, off, ha, hlt, hc j hj⟩
/-- A slice of truths, below B. -/
def Tr (B : Nat) (w : World) (v : Value) (bs : List Bool) : Prop :=
  ∃ ao cap, v = .slice ao bs.length cap ∧ bs.length ≤ cap ∧ cap ≤ maxLen ∧ (bs ≠ [] → ∃ b off, ao = some ⟨b, off, none⟩ ∧ b < B ∧ ∀ j (h : j < bs.length), w.cell? ⟨b, off + j, none⟩ = some (.bool bs[j]))
theorem Tr.keep {v : Value} {bs : List Bool} (h : Tr B w v bs) (hb : Below B w w') : Tr B w' v bs := by
  obtain ⟨ao, cap, hv, h1, h2, h4⟩ := h
  refine ⟨ao, cap, hv, h1, h2, fun hl => ?_⟩
  obtain ⟨b, off, ha, hlt, hc⟩ := h4 hl
  exact ⟨b, off, ha, hlt, fun j hj => (hb.cell (p := ⟨b, off + j, none⟩) hlt).trans (hc j hj)⟩
theorem Tr.at {ao : Option Addr} {n cap : Nat} {bs : List Bool} (h : Tr B w (.slice ao n cap) bs) {j : Nat} (hj : j < bs.length) : ∃ b off, ao = some ⟨b, off, none⟩ ∧ b < B ∧ w.cell? ⟨b, off + j, none⟩ = some (.bool bs[j]) := by
  obtain ⟨ao', cap', hv, h1, h2, h4⟩ := h
  injection hv with e1 e2 e3
  subst e1 e2 e3
  obtain ⟨b, off, ha, hlt, hc⟩ := h4 (by rintro rfl; simp at hj)
  exact ⟨b, off, ha, hlt, hc j hj⟩
/-- Every number is an int, no record is too long. -/
def Small (os : List Oq) : Prop := ∀ o ∈ os, (-9223372036854775808 ≤ o.kind ∧ o.kind ≤ 9223372036854775807) ∧ ∀ r ∈ o.recs, r.length ≤ 140737488355328
theorem grp_few (rs : List (List UInt8)) : (grp sum4 (fewW rs)).length ≤ 7264 := by
  rw [grp_len]
  have h1 := body_len (fewW rs) (fun r hr => Nat.le_trans (fewW_each rs r hr) (by omega))
  have h2 := sum_each (fewW_each rs)
  have h3 := fewW_len rs
  omega
theorem laid_then (kd : Int) (gs : List (List (List UInt8))) (rs : List (List UInt8)) : (laid sum4 (gsThen kd gs rs)).length ≤ (laid sum4 gs).length + (grp sum4 rs).length := by
  unfold gsThen
  split
  · have := laid_len [] rs
    rw [l0] at this
    simp only [List.nil_append] at this
    omega
  · rw [laid_len]
    omega
theorem bytes_calm {F : Nat → Prop} {d l : Nat} {z : Nm} {gs : List (List (List UInt8))} {m M : Nat} (h : Calmly B w F d l z gs m M) : Calls Tryd.prog 19 #[.pointer (some ⟨l, 0, none⟩)] w fun e w' => e = .returned (.int .i64 ((laid sum4 gs).length : Int)) ∧ w' = w := by
  obtain ⟨S, L, hg, hh, -⟩ := h
  obtain ⟨-, tail, -, h1, -⟩ := hh
  have := bytes_lg hg
  rw [h1] at this
  exact this
end Go.Proofs.YtglknhjbcckjiaaDoor
