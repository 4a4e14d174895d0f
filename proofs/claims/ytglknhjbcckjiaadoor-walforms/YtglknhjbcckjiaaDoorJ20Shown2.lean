/-
  Texts joined: Shown2, Begun, Forms1, Forms2, Door.
-/
import Derived.Test.YtglknhjbcckjiaaDoorJ19Open
import Derived.Deep.CutBlock
import Derived.Deep.CutRange
import Derived.Deep.LoopGhost
import Derived.Test.YtglknhjbcckjiaaDoorCards
import Derived.Test.YtglknhjbcckjiaaDoorTie
import Derived.Test.YtglknhjbcckjiaaDoorJ12WPut
import Derived.OpenShut
import Derived.ShutString
import Derived.ChangeOld
import Derived.SizedLaws
import Derived.Deep.DeepHandedRow
import Derived.Lib.LaidTab
import Derived.Deep.Slices
/-
  The document's examples, as the law shows them. Conditions: the table holds its numbers.
-/
namespace Go.Proofs.YtglknhjbcckjiaaDoor
open Go.RowKit

def nmL : Nm := [108]
theorem nmL_ok : isLg nmL = true := by decide
theorem calm_new (r : Nat) : Calm (Dk.new r) := ⟨rfl, fun _ => rfl⟩
theorem grp_len (rs : List (List UInt8)) : (grp sum4 rs).length = 16 + (bodyW rs).length := grp_length sum4_length rs

theorem Calmly.belowC {B : Nat} {w w' : World} {F : Nat → Prop} {d l : Nat} {z : Nm} {gs : List (List (List UInt8))} {m M : Nat} (h : Calmly B w F d l z gs m M) (hc : Chg (fun k => F k ∨ k = l) w w') : Below B w w' := by
  obtain ⟨S, L, hg, -⟩ := h
  refine hc.below (fun k hk => ?_) hg.size
  rcases hk with hk | rfl
  · exact (hg.1.2.1 k hk).1
  · exact hg.2.2.2.1
theorem laid_len (gs : List (List (List UInt8))) (rs : List (List UInt8)) : (laid sum4 (gs ++ [rs])).length = (laid sum4 gs).length + (grp sum4 rs).length := by rw [laid_snoc, List.length_append]
theorem gAB : (grp sum4 [[97], [98]]).length = 20 := by rw [grp_len]; rfl
theorem gN : (grp sum4 []).length = 16 := by rw [grp_len]; rfl
theorem gC : (grp sum4 [[99]]).length = 18 := by rw [grp_len]; rfl
theorem gD : (grp sum4 [[100]]).length = 18 := by rw [grp_len]; rfl
theorem l0 : (laid sum4 []).length = 0 := rfl
theorem l1 : (laid sum4 ([] ++ [[[97], [98]]])).length = 20 := by rw [laid_len, gAB, l0]
theorem l2 : (laid sum4 ([] ++ [[[97], [98]]] ++ [[]])).length = 36 := by rw [laid_len, gN, l1]
theorem l3 : (laid sum4 ([] ++ [[[97], [98]]] ++ [[]] ++ [[[99]]])).length = 54 := by rw [laid_len, gC, l2]

theorem lit3 (w : World) : Rs ((((w.alloc (.cells #[.string ⟨#[97]⟩, .string ⟨#[98]⟩] 9)).alloc (.cells #[] 9)).alloc (.cells #[.string ⟨#[99]⟩] 9)).alloc (.cells #[.slice (some ⟨w.heap.size, 0, none⟩) 2 2, .slice (some ⟨w.heap.size + 1, 0, none⟩) 0 0, .slice (some ⟨w.heap.size + 1 + 1, 0, none⟩) 1 1] 40))
    (.slice (some ⟨w.heap.size + 1 + 1 + 1, 0, none⟩) 3 3) ([] ++ [[[97], [98]]] ++ [[]] ++ [[[99]]]) := by
  have t0 := ((tx_built w [[97], [98]] 9 (by decide)).quiet (alloc_quiet _ (.cells #[] 9))).quiet (alloc_quiet _ (.cells #[.string ⟨#[99]⟩] 9))
  have t1 := (tx_built (w.alloc (.cells #[.string ⟨#[97]⟩, .string ⟨#[98]⟩] 9)) [] 9 (by decide)).quiet (alloc_quiet _ (.cells #[.string ⟨#[99]⟩] 9))
  have t2 := tx_built ((w.alloc (.cells #[.string ⟨#[97]⟩, .string ⟨#[98]⟩] 9)).alloc (.cells #[] 9)) [[99]] 9 (by decide)
  rw [show (w.alloc (.cells #[.string ⟨#[97]⟩, .string ⟨#[98]⟩] 9)).heap.size = w.heap.size + 1 by simp] at t1
  rw [show ((w.alloc (.cells #[.string ⟨#[97]⟩, .string ⟨#[98]⟩] 9)).alloc (.cells #[] 9)).heap.size = w.heap.size + 1 + 1 by simp] at t2
  have r := rs_built (((w.alloc (.cells #[.string ⟨#[97]⟩, .string ⟨#[98]⟩] 9)).alloc (.cells #[] 9)).alloc (.cells #[.string ⟨#[99]⟩] 9)) [.slice (some ⟨w.heap.size, 0, none⟩) 2 2, .slice (some ⟨w.heap.size + 1, 0, none⟩) 0 0, .slice (some ⟨w.heap.size + 1 + 1, 0, none⟩) 1 1] 40 [[[97], [98]], [], [[99]]] rfl (by decide) (fun j x g hx hg => by
    match j with
    | 0 =>
      injection hx with hx
      injection hg with hg
      subst hx hg
      exact t0
    | 1 =>
      injection hx with hx
      injection hg with hg
      subst hx hg
      exact t1
    | 2 =>
      injection hx with hx
      injection hg with hg
      subst hx hg
      exact t2
    | j + 3 => cases hx)
  rw [show (((w.alloc (.cells #[.string ⟨#[97]⟩, .string ⟨#[98]⟩] 9)).alloc (.cells #[] 9)).alloc (.cells #[.string ⟨#[99]⟩] 9)).heap.size = w.heap.size + 1 + 1 + 1 by simp] at r
  exact r
theorem lit1 (w : World) : Rs ((w.alloc (.cells #[.string ⟨#[100]⟩] 9)).alloc (.cells #[.slice (some ⟨w.heap.size, 0, none⟩) 1 1] 40)) (.slice (some ⟨w.heap.size + 1, 0, none⟩) 1 1) [[[100]]] := by
  have t0 := tx_built w [[100]] 9 (by decide)
  have r := rs_built (w.alloc (.cells #[.string ⟨#[100]⟩] 9)) [.slice (some ⟨w.heap.size, 0, none⟩) 1 1] 40 [[[100]]] rfl (by decide) (fun j x g hx hg => by
    match j with
    | 0 =>
      injection hx with hx
      injection hg with hg
      subst hx hg
      exact t0
    | j + 1 => cases hx)
  rw [show (w.alloc (.cells #[.string ⟨#[100]⟩] 9)).heap.size = w.heap.size + 1 by simp] at r
  exact r

set_option maxRecDepth 20000 in
set_option maxHeartbeats 3200000 in
theorem shown_any (w : World) (hB0 : 0 < w.heap.size) (hT : TabW w) : Calls Tryd.prog 7 #[] w fun e w' => e = .returned (.bool true) ∧ Below w.heap.size w w' := by
  have HT := hide hT
  clear hT
  have hnew := new_lies2 (B := w.heap.size) w (Nat.le_refl _) 10000 (by decide)
  go_enter Tryd.func7, Tryd.ntmps7
  go_wp2_with fail
  refine hnew.mono ?_
  rintro e w1 ⟨rfl, hs1, hc1⟩
  have hb1 : Below w.heap.size w w1 := hc1.below (fun _ h => h.elim) (Nat.le_refl _)
  have hop := open_calm hs1 (on_new (z := nmL) 10000) (calm_new 10000) nmL_ok hc1.size hB0 (HT.out.keep hb1) (by decide)
  have hop : Calls Tryd.prog 15 #[.pointer (some ⟨w.heap.size, 0, none⟩), .string ⟨#[108]⟩] w1 _ := hop
  go_wp2_with fail
  refine hop.mono ?_
  rintro e w2 ⟨l, v2, F2, b2, rfl, hl2, hC2, hf2, hc2, hG2, hb2, -, -⟩
  have hC2 : Calmly w.heap.size w2 F2 w.heap.size l nmL [] 1 10000 := hC2
  obtain ⟨a2, q2, rfl, -⟩ := hG2.form
  have hB2 : Below w.heap.size w w2 := hb1.trans (hc2.below (fun k hk => Nat.le_of_eq hk.symm) hb1.size)
  clear hnew hop hG2 hc2 hf2 hs1 hc1
  -- the first group
  have hap := append_calm (hC2.quiet (alloc_quiet w2 (.cells (tcW [[97], [98]]).toArray 9))) nmL_ok (txb_built hC2 [[97], [98]] 9 (by decide)) (by decide) hB0 (HT.out.keep (hB2.alloc hB2.size _)) (by decide) (by decide) (by rw [gAB, l0]; decide)
  rw [gAB, l0] at hap
  have hap : Calls Tryd.prog 18 #[.pointer (some ⟨l, 0, none⟩), .slice (some ⟨w2.heap.size, 0, none⟩) 2 2] (w2.alloc (.cells #[.string ⟨#[97]⟩, .string ⟨#[98]⟩] 9)) _ := hap
  go_wp2_with fail
  refine hap.mono ?_
  rintro e w3 ⟨rfl, F3, hC3, hf3, hc3⟩
  have hB3 : Below w.heap.size w w3 := (hB2.alloc hB2.size _).trans ((hC2.quiet (alloc_quiet w2 (.cells (tcW [[97], [98]]).toArray 9))).belowC hc3)
  clear hap hC2 hc3 hf3
  -- the second
  have hap := append_calm hC3 nmL_ok (txb_nil w3 F3 l) (by decide) hB0 (HT.out.keep hB3) (by decide) (by rw [l1]; decide) (by rw [gN, l1]; decide)
  rw [gN, l1] at hap
  go_wp2_with fail
  refine hap.mono ?_
  rintro e w4 ⟨rfl, F4, hC4, hf4, hc4⟩
  have hB4 : Below w.heap.size w w4 := hB3.trans (hC3.belowC hc4)
  clear hap hC3 hc4 hf4
  -- the third
  have hap := append_calm (hC4.quiet (alloc_quiet w4 (.cells (tcW [[99]]).toArray 9))) nmL_ok (txb_built hC4 [[99]] 9 (by decide)) (by decide) hB0 (HT.out.keep (hB4.alloc hB4.size _)) (by decide) (by rw [l2]; decide) (by rw [gC, l2]; decide)
  rw [gC, l2] at hap
  have hap : Calls Tryd.prog 18 #[.pointer (some ⟨l, 0, none⟩), .slice (some ⟨w4.heap.size, 0, none⟩) 1 1] (w4.alloc (.cells #[.string ⟨#[99]⟩] 9)) _ := hap
  go_wp2_with fail
  refine hap.mono ?_
  rintro e w5 ⟨rfl, F5, hC5, hf5, hc5⟩
  have hB5 : Below w.heap.size w w5 := (hB4.alloc hB4.size _).trans ((hC4.quiet (alloc_quiet w4 (.cells (tcW [[99]]).toArray 9))).belowC hc5)
  clear hap hC4 hc5 hf5
  -- opened once more
  have hop := open_again hC5 nmL_ok hB0 (HT.out.keep hB5) (by decide)
  have hop : Calls Tryd.prog 15 #[.pointer (some ⟨w.heap.size, 0, none⟩), .string ⟨#[108]⟩] w5 _ := hop
  have hlow5 := hC5.low
  go_wp2_with fail
  refine hop.mono ?_
  rintro e w6 ⟨l6, v6, F6, b6, rfl, hl6, hC6, -, hf6, hc6, hG6, hb6, -, hF6⟩
  have hB6 : Below w.heap.size w w6 := hB5.trans (hC5.belowC (hc6.mono fun _ _ h => .inl h))
  have HG6 := hide hG6
  obtain ⟨a6, q6, rfl, -⟩ := hG6.form
  clear hop hC5 hc6 hf6 hG6
  -- laid anew
  have hap := reset_calm (hC6.quiet (alloc_quiet w6 (.cells (tcW [[100]]).toArray 9))) nmL_ok (txb_built hC6 [[100]] 9 (by decide)) (by decide) hB0 (HT.out.keep (hB6.alloc hB6.size _)) (by decide) (by rw [gD]; decide)
  rw [gD] at hap
  have hap : Calls Tryd.prog 20 #[.pointer (some ⟨l, 0, none⟩), .slice (some ⟨w6.heap.size, 0, none⟩) 1 1] (w6.alloc (.cells #[.string ⟨#[100]⟩] 9)) _ := hap
  go_wp2_with fail
  refine hap.mono ?_
  rintro e w7 ⟨rfl, F7, hC7, hf7, hc7⟩
  have hB7 : Below w.heap.size w w7 := (hB6.alloc hB6.size _).trans ((hC6.quiet (alloc_quiet w6 (.cells (tcW [[100]]).toArray 9))).belowC hc7)
  have hG7 := (HG6.out.chg (alloc_quiet w6 (.cells (tcW [[100]]).toArray 9)) (fun _ _ h => h)).chg hc7 (fun k hk e => e.elim (fun e => by have := hF6 k e; omega) (fun e => by have := hlow5.2; omega))
  have HG7 := hide hG7
  clear hap hC6 hc7 hf7 hG7 HG6
  -- behind a crash
  have hcr := crash_calm hC7 (by decide) 0 0
  go_wp2_with fail
  refine hcr.mono ?_
  rintro e w8 ⟨d8, F8, S8, t8, rfl, hs8, ho8, hm8, hk8, hf8, hc8⟩
  have hB8 : Below w.heap.size w w8 := hB7.trans (hc8.below (fun _ h => h.elim) hB7.size)
  have hop := open_calm hs8 ho8 hm8 nmL_ok hB8.size hB0 (HT.out.keep hB8) (by omega)
  have hop : Calls Tryd.prog 15 #[.pointer (some ⟨d8, 0, none⟩), .string ⟨#[108]⟩] w8 _ := hop
  go_wp2_with fail
  refine hop.mono ?_
  rintro e w9 ⟨l9, v9, F9, b9, rfl, hl9, -, hf9, hc9, hG9, hb9, -, -⟩
  have hB79 : Below w7.heap.size w7 w9 := (hc8.below (fun _ h => h.elim) (Nat.le_refl _)).trans (hc9.below (fun k hk => hf8 k hk) hc8.size)
  have hB9 : Below w.heap.size w w9 := hB7.trans (hB79.mono hB7.size)
  have hG79 := HG7.out.keepB hB79
  have HG79 := hide hG79
  have HG9 := hide hG9
  obtain ⟨a9, q9, rfl, -⟩ := hG9.form
  clear hcr hop hs8 ho8 hm8 hk8 hf8 hc8 hf9 hc9 hG9 hG79 hC7 HG7
  have hbad := open_bad w9 w.heap.size [] (by decide)
  have hbad : Calls Tryd.prog 15 #[.pointer (some ⟨w.heap.size, 0, none⟩), .string ⟨#[]⟩] w9 _ := hbad
  go_wp2_with fail
  refine hbad.mono ?_
  rintro e w9 ⟨rfl, rfl⟩
  clear hbad
  have hq := ((((Chg.refl (fun _ => False) w9).alloc (.cells #[.string ⟨#[97]⟩, .string ⟨#[98]⟩] 9)).alloc (.cells #[] 9)).alloc (.cells #[.string ⟨#[99]⟩] 9)).alloc (.cells #[.slice (some ⟨w9.heap.size, 0, none⟩) 2 2, .slice (some ⟨w9.heap.size + 1, 0, none⟩) 0 0, .slice (some ⟨w9.heap.size + 1 + 1, 0, none⟩) 1 1] 40)
  have hsm := same_any _ _ _ _ _ (HG79.out.rs.quiet hq) (lit3 w9)
  rw [decide_eq_true rfl] at hsm
  go_wp2_with fail
  refine hsm.mono ?_
  rintro e w10 ⟨rfl, hc10⟩
  have hq10 := hq.then hc10
  have hq11 := (((Chg.refl (fun _ => False) w10).alloc (.cells #[.string ⟨#[100]⟩] 9)).alloc (.cells #[.slice (some ⟨w10.heap.size, 0, none⟩) 1 1] 40))
  have hsn := same_any _ _ _ _ _ ((HG9.out.rs.quiet hq10).quiet hq11) (lit1 w10)
  rw [decide_eq_true rfl] at hsn
  have HQ := hide (hq10.then hq11)
  clear hsm hq hc10 hq10 hq11
  go_wp2_with fail
  refine hsn.mono ?_
  rintro e w12 ⟨rfl, hc12⟩
  go_wp2
  go_ret
  exact ⟨rfl, hB9.trans ((HQ.out.then hc12).below (fun _ h => h.elim) hB9.size)⟩
end Go.Proofs.YtglknhjbcckjiaaDoor

/-
  The law's begun: a log on a new disk. Conditions: the table holds its numbers.
-/
namespace Go.Proofs.YtglknhjbcckjiaaDoor
open Go.RowKit

def nmLog : Nm := [108, 111, 103]
theorem nmLog_ok : isLg nmLog = true := by decide
/-- At x lies the law's world: a disk, a log, groups, numbers; is room tight? -/
def WorldAt (w : World) (x d l : Nat) (g f : Value) (tight : Bool) : Prop := w.heap[x]? = some (.cells #[.pointer (some ⟨d, 0, none⟩), .pointer (some ⟨l, 0, none⟩), g, f, .bool tight] 35)
set_option maxRecDepth 20000 in
set_option maxHeartbeats 1600000 in
theorem begun_any (B : Nat) (w : World) (hB0 : 0 < B) (hB : B ≤ w.heap.size) (hT : TabW w) : Calls Tryd.prog 8 #[] w fun e w' => ∃ x d l F, e = .returned (.tuple #[.pointer (some ⟨x, 0, none⟩), .bool true]) ∧ WorldAt w' x d l (.slice none 0 0) (.slice none 0 0) false ∧
    Calmly B w' F d l nmLog [] 1 16777216 ∧ (∀ k, F k → w.heap.size ≤ k ∧ k < x) ∧ w.heap.size ≤ l ∧ l < x ∧ Below w.heap.size w w' := by
  have HT := hide hT
  clear hT
  have hnew := new_lies2 (B := B) w hB 16777216 (by decide)
  go_enter Tryd.func8, Tryd.ntmps8
  go_wp2_with fail
  refine hnew.mono ?_
  rintro e w1 ⟨rfl, hs1, hc1⟩
  have hb1 : Below w.heap.size w w1 := hc1.below (fun _ h => h.elim) (Nat.le_refl _)
  have hop := open_calm hs1 (on_new (z := nmLog) 16777216) (calm_new 16777216) nmLog_ok (Nat.le_trans hB hc1.size) hB0 (HT.out.keep hb1) (by decide)
  have hop : Calls Tryd.prog 15 #[.pointer (some ⟨w.heap.size, 0, none⟩), .string ⟨#[108, 111, 103]⟩] w1 _ := hop
  go_wp2_with fail
  refine hop.mono ?_
  rintro e w2 ⟨l, v2, F2, b2, rfl, hl2, hC2, hf2, hc2, hG2, hb2, -, -⟩
  have hC2 : Calmly B w2 F2 w.heap.size l nmLog [] 1 16777216 := hC2
  obtain ⟨a2, q2, rfl, -⟩ := hG2.form
  have hB2 : Below w.heap.size w w2 := hb1.trans (hc2.below (fun k hk => Nat.le_of_eq hk.symm) hb1.size)
  have hlow := hC2.low
  have hs1' := hc1.size
  clear hnew hop hG2 hc2 hs1 hc1
  go_wp2
  go_ret2
  refine ⟨w2.heap.size, w.heap.size, l, F2, rfl, heap_last w2 _, hC2.quiet (alloc_quiet w2 _), fun k hk => ⟨?_, hlow.1 k hk⟩, by omega, hlow.2, hB2.alloc hB2.size _⟩
  rcases hf2 k hk with e | e
  · exact Nat.le_of_eq e.symm
  · omega
end Go.Proofs.YtglknhjbcckjiaaDoor

/-
  Open of any name at all, on a disk that has no groups. Conditions: the disk stands, nothing fails; the table holds its numbers.
-/
namespace Go.Proofs.YtglknhjbcckjiaaDoor
open Go.RowKit
variable {B : Nat} {w w' : World} {F : Nat → Prop} {d : Nat} {S : Dk}

theorem open_any (h : Stands B w F d S) (ho : ∀ z, On z S [] []) (hc : Calm S) (n : Nm) (hB : B ≤ w.heap.size) (hB0 : 0 < B) (hT : TabW w) (hb : S.bulk < 1000000000) :
    Calls Tryd.prog 15 #[.pointer (some ⟨d, 0, none⟩), .string (strB n)] w fun e w' => ∃ x v F' S', e = .returned (.tuple #[x, v, .int .i64 (if isLg n = true then 0 else 50)]) ∧ Stands B w' F' d S' ∧ (∀ z, On z S' [] []) ∧ Calm S' ∧ S'.bulk ≤ S.bulk + 1 ∧ S'.room = S.room ∧
      (∀ k, F' k → F k ∨ w.heap.size ≤ k) ∧ Chg F w w' := by
  by_cases hn : isLg n = true
  · rw [if_pos hn]
    have hnm := isLg_nm hn
    have hlk := (ho n).look hnm.1 (calm_on hc) (hc.2 _)
    refine (open_lg h hB hB0 hT hb n hn).mono ?_
    rintro e w' ⟨x, v, rfl, hO⟩
    rw [hlk] at hO ⊢
    obtain ⟨l, F', b1, rfl, h1, h2, h3, h4, -⟩ := hO
    exact ⟨_, v, F', _, rfl, h2.1, fun z => (ho z).begun, (alt_begun S).calm hc, bulk_begun' S, (alt_begun S).2.2, h3, h4⟩
  · rw [if_neg hn]
    refine (open_bad w d n (by simpa using hn)).mono ?_
    rintro e w' ⟨rfl, rfl⟩
    exact ⟨_, _, F, S, rfl, h, ho, hc, Nat.le_add_right _ _, rfl, fun _ h => .inl h, Chg.refl _ _⟩
end Go.Proofs.YtglknhjbcckjiaaDoor

/-
  WalForms, walked: which names and groups are refused. Conditions: what came in lies there; the table holds its numbers.
-/
namespace Go.Proofs.YtglknhjbcckjiaaDoor
open Go.RowKit

def pk9 (c n : Int) : Int := (if c < 0 then -(c + 1) else c) % n
set_option maxRecDepth 20000 in
theorem pick_far (w : World) (c n : Int) (hc : -9223372036854775808 ≤ c ∧ c ≤ 9223372036854775807) (hn : 0 < n ∧ n ≤ 1000000) :
    Calls Tryd.prog 11 #[.int .i64 c, .int .i64 n] w fun e w' => ∃ k : Nat, e = .returned (.int .i64 (k : Int)) ∧ (k : Int) < n ∧ w' = w := by
  have hn0 : ¬ n = 0 := by omega
  by_cases h : c < 0
  · have hm : (-(c + 1)).tmod n = (-(c + 1)) % n := Int.tmod_eq_emod_of_nonneg (by omega)
    have h1 := Int.emod_nonneg (-(c + 1)) (show n ≠ 0 by omega)
    have h2 := Int.emod_lt_of_pos (-(c + 1)) (show 0 < n by omega)
    go_enter Tryd.func11, Tryd.ntmps11
    go_wp2
    go_ret
    exact ⟨((-(c + 1)) % n).toNat, by rw [Int.toNat_of_nonneg h1]; rfl, by omega, rfl⟩
  · have hm : c.tmod n = c % n := Int.tmod_eq_emod_of_nonneg (by omega)
    have h1 := Int.emod_nonneg c (show n ≠ 0 by omega)
    have h2 := Int.emod_lt_of_pos c (show 0 < n by omega)
    go_enter Tryd.func11, Tryd.ntmps11
    go_wp2
    go_ret
    exact ⟨(c % n).toNat, by rw [Int.toNat_of_nonneg h1]; rfl, by omega, rfl⟩

theorem gFirst : (grp sum4 [[102, 105, 114, 115, 116]]).length = 22 := by rw [grp_len]; rfl
theorem Tryd.info5f : (Tryd.prog.info? 5).map (fun i => (i.zero, i.size, i.bytes)) = some (some (.int .u8 0), 1, 1) := by kernel_rfl
theorem Tryd.info9f : (Tryd.prog.info? 9).map (fun i => (i.zero, i.size, i.bytes)) = some (some (.string ⟨#[]⟩), 1, 16) := by kernel_rfl
/-- make([]byte, n), and what string says of it. -/
theorem made_text (W : World) (n : Nat) (hn : n ≤ 400) : ∃ M : Array Value, (Instr.makeSlice 56 (.int .i64 (n : Int)) (.int .i64 (n : Int))).run Tryd.prog W = .ok (.slice (some ⟨W.heap.size, 0, none⟩) n n) (W.alloc (.cells M 5)) ∧
    (convert 56 9 (.slice (some ⟨W.heap.size, 0, none⟩) n n)).run Tryd.prog (W.alloc (.cells M 5)) = .ok (.string (strB (List.replicate n 0))) (W.alloc (.cells M 5)) := by
  obtain ⟨i0, hi, hz0, hz1, hz2⟩ := info_parts Tryd.info5f
  refine ⟨madeCells (Value.int .u8 0).cells (((n : Nat) : Int).toNat * i0.size), ?_, ?_⟩
  · have h := run_make (P := Tryd.prog) W 56 5 i0 (.int .u8 0) Tryd.underlying56 hi hz0 .i64 .i64 (n : Int) (n : Int) (by omega) (by omega) (by rw [hz2]; omega) (by omega)
    simpa using h
  · refine run_strW _ _ _ ⟨some ⟨W.heap.size, 0, none⟩, n, by simp, by simp, by unfold maxLen; omega, (fun h => by cases h), fun _ => ⟨W.heap.size, 0, rfl, by simp, fun j hj => ?_⟩⟩
    have hj' : j < n := by simpa using hj
    rw [cell_of (heap_last W _), Nat.zero_add, hz1]
    simp [madeCells, Value.cells, hj', Nat.mod_one]
theorem sum_rep (n k : Nat) (x : List UInt8) (hx : x.length = k) : ((List.replicate n x).map List.length).sum = n * k := by
  induction n with
  | zero => simp
  | succ n ih =>
    rw [List.replicate_succ, List.map_cons, List.sum_cons, ih, hx, Nat.succ_mul]
    omega
theorem right_rep (n k : Nat) (x : List UInt8) (hx : x.length = k) : right (List.replicate n x) = (decide (n ≤ 8192) && decide (n * k ≤ 2097152)) := by
  unfold right
  rw [sum_rep n k x hx, List.length_replicate]
theorem tcW_one (xs : List (List UInt8)) (x : List UInt8) : tcW xs ++ [.string (strB x)] = tcW (xs ++ [x]) := by simp [tcW]
theorem append_bad {B : Nat} {w : World} {F : Nat → Prop} {d l : Nat} {z : Nm} {gs : List (List (List UInt8))} {m M : Nat} {v : Value} {rs : List (List UInt8)} (h : Calmly B w F d l z gs m M) (hv : TxB w F l v rs) (hr : right rs = false) (hea : ∀ r ∈ rs, r.length ≤ 140737488355328) (hB0 : 0 < B) (hT : TabW w) (hm : 2 * m < 999999990) (hl : (laid sum4 gs).length ≤ 1000000000) :
    Calls Tryd.prog 18 #[.pointer (some ⟨l, 0, none⟩), v] w fun e w' => e = .returned (.int .i64 50) ∧ CalmThen B w F d l z gs m M w' := by
  obtain ⟨S, L, hg, hh, hc, hb, hM'⟩ := h
  refine (append_lg hg hv hB0 hT hea (by omega) (wh_range hh (by omega))).mono ?_
  rintro e w' ⟨rfl, F', h1, h2, h3⟩
  have ha : appendW S L rs = (S, L, 50) := by unfold appendW; rw [if_pos hr]
  rw [ha] at h1 ⊢
  exact ⟨rfl, F', ⟨S, L, h1, hh, hc, hb, hM'⟩, h2, h3⟩
theorem lFirst : (laid sum4 ([] ++ [[[102, 105, 114, 115, 116]]])).length = 22 := by rw [laid_len, gFirst, l0]
theorem litF (w : World) : Rs ((w.alloc (.cells #[.string ⟨#[102, 105, 114, 115, 116]⟩] 9)).alloc (.cells #[.slice (some ⟨w.heap.size, 0, none⟩) 1 1] 40)) (.slice (some ⟨w.heap.size + 1, 0, none⟩) 1 1) [[[102, 105, 114, 115, 116]]] := by
  have t0 := tx_built w [[102, 105, 114, 115, 116]] 9 (by decide)
  have r := rs_built (w.alloc (.cells #[.string ⟨#[102, 105, 114, 115, 116]⟩] 9)) [.slice (some ⟨w.heap.size, 0, none⟩) 1 1] 40 [[[102, 105, 114, 115, 116]]] rfl (by decide) (fun j x g hx hg => by
    match j with
    | 0 =>
      injection hx with hx
      injection hg with hg
      subst hx hg
      exact t0
    | j + 1 => cases hx)
  rw [show (w.alloc (.cells #[.string ⟨#[102, 105, 114, 115, 116]⟩] 9)).heap.size = w.heap.size + 1 by simp] at r
  exact r
theorem litG (w : World) (v : Value) (rs : List (List UInt8)) (hv : Tx w v rs) : Rs ((w.alloc (.cells #[.string ⟨#[102, 105, 114, 115, 116]⟩] 9)).alloc (.cells #[.slice (some ⟨w.heap.size, 0, none⟩) 1 1, v] 40)) (.slice (some ⟨w.heap.size + 1, 0, none⟩) 2 2) [[[102, 105, 114, 115, 116]], rs] := by
  have t0 := tx_built w [[102, 105, 114, 115, 116]] 9 (by decide)
  have t1 := hv.quiet (alloc_quiet w (.cells #[.string ⟨#[102, 105, 114, 115, 116]⟩] 9))
  have r := rs_built (w.alloc (.cells #[.string ⟨#[102, 105, 114, 115, 116]⟩] 9)) [.slice (some ⟨w.heap.size, 0, none⟩) 1 1, v] 40 [[[102, 105, 114, 115, 116]], rs] rfl (by unfold maxLen; simp) (fun j x g hx hg => by
    match j with
    | 0 =>
      injection hx with hx
      injection hg with hg
      subst hx hg
      exact t0
    | 1 =>
      injection hx with hx
      injection hg with hg
      subst hx hg
      exact t1
    | j + 2 => cases hx)
  rw [show (w.alloc (.cells #[.string ⟨#[102, 105, 114, 115, 116]⟩] 9)).heap.size = w.heap.size + 1 by simp] at r
  exact r
/-- A name, as far as it was looked at. -/
def lgTo (n : Nm) (j : Nat) : Bool := decide (1 ≤ n.length ∧ n.length ≤ 70) && (n.take j).all fun c => decide (33 ≤ c.toNat) && decide (c.toNat ≤ 126)
theorem lgTo_all (n : Nm) : lgTo n n.length = isLg n := by
  unfold lgTo isLg
  rw [List.take_length, Bool.decide_and]
theorem lgTo_more (n : Nm) {j : Nat} (h : j < n.length) : lgTo n (j + 1) = (lgTo n j && (decide (33 ≤ (n.getD j 0).toNat) && decide ((n.getD j 0).toNat ≤ 126))) := by
  unfold lgTo
  rw [List.take_add_one, List.getElem?_eq_getElem h, List.all_append]
  simp [List.getD, List.getElem?_eq_getElem h, Bool.and_assoc]

set_option maxRecDepth 400000 in
set_option maxHeartbeats 6400000 in
theorem forms_any (w : World) (name : Nm) (many long : Int) (hname : name.length ≤ 140737488351232) (hmany : -9223372036854775808 ≤ many ∧ many ≤ 9223372036854775807) (hlong : -9223372036854775808 ≤ long ∧ long ≤ 9223372036854775807) (hB0 : 0 < w.heap.size) (hT : TabW w) :
    Calls Tryd.prog 5 #[.string (strB name), .int .i64 many, .int .i64 long] w fun e w' => e = .returned (.bool true) ∧ Below w.heap.size w w' := by
  have HT := hide hT
  have sz := strB_size name
  go_enter Tryd.func5, Tryd.ntmps5
  go_wp2_with fail
  refine (shown_any w hB0 hT).mono ?_
  rintro e w1 ⟨rfl, hb1⟩
  clear hT
  go_wp2_with fail
  refine (new_lies2 (B := w.heap.size) w1 hb1.size 16777216 (by decide)).mono ?_
  rintro e w2 ⟨rfl, hs2, hc2⟩
  have hb2 := hb1.trans (hc2.below (fun _ h => h.elim) hb1.size)
  have hop := open_any hs2 (fun z => on_new (z := z) 16777216) (calm_new 16777216) name hb2.size hB0 (HT.out.keep hb2) (by decide)
  generalize hd : w1.heap.size = d at *
  clear hd
  have hF2 : ∀ k, k = d → w.heap.size ≤ k := fun k hk => by rw [hk]; exact (hs2.2.1 d rfl).1
  generalize hcd : (if isLg name = true then (0 : Int) else 50) = cd at *
  have HCD := hide hcd
  clear hcd
  go_wp2_with fail
  refine hop.mono ?_
  rintro e w3 ⟨x, vx, F3, S3, rfl, hs3, ho3, hca3, hbu3, hro3, hF3, hc3⟩
  have hb3 := hb2.trans (hc3.below hF2 hb2.size)
  have hbu3 : S3.bulk ≤ 1 := Nat.le_trans hbu3 (by decide)
  have hro3 : S3.room = 16777216 := hro3
  clear hop hs2 hc2 hc3 hF3
  go_upto_region 6 with fail
  go_cut [13] from 48 to 55 (fun r wx => r = .bool (decide (1 ≤ name.length ∧ name.length ≤ 70)) ∧ wx = w3)
  case first =>
    by_cases h1 : 1 ≤ name.length
    · by_cases h2 : name.length ≤ 70
      · go_wp2
        go_meet
        exact ⟨by simp [h1, h2]; try omega, rfl⟩
      · go_wp2
        go_meet
        exact ⟨by simp [h1, h2]; try omega, rfl⟩
    · go_wp2
      go_meet
      exact ⟨by simp [h1], rfl⟩
  case rest =>
    obtain ⟨rfl, hwc⟩ := hcut
    rw [hwc]
    clear hwc
    go_wp2_with fail
    have hst : (Value.bool (decide (1 ≤ name.length ∧ name.length ≤ 70))) = .bool (lgTo name 0) := by unfold lgTo; simp
    rw [hst]
    clear hst
    go_loopw [13, 14] (fun r i wr => ∃ j : Nat, i = .int .i64 (j : Int) ∧ j ≤ name.length ∧ r = .bool (lgTo name j) ∧ wr = w3)
      (fun _ i _ => name.length - (intOf i).toNat)
    case atStart => exact ⟨0, rfl, Nat.zero_le _, rfl, rfl⟩
    case round =>
      obtain ⟨j, rfl, hj, rfl, hwr⟩ := hrel
      rw [hwr]
      clear hwr
      by_cases hlt : j < name.length
      · have hmo := lgTo_more name hlt
        have HM := hide hmo
        have hix := index_str w3 name .i64 j hlt
        have hub := UInt8.toNat_lt (name.getD j 0)
        clear hmo
        generalize (name.getD j 0).toNat = ch at *
        generalize lgTo name j = bj at *
        cases bj with
        | false =>
          go_wp2_with fail
          exact ⟨⟨j + 1, by go_num, by omega, by rw [HM.out]; rfl, trivial⟩, by simp [intOf]; omega⟩
        | true =>
          by_cases c1 : 33 ≤ ch
          · by_cases c2 : ch ≤ 126
            · go_wp2_with fail
              exact ⟨⟨j + 1, by go_num, by omega, by rw [HM.out]; simp [c1, c2]; try omega, trivial⟩, by simp [intOf]; omega⟩
            · go_wp2_with fail
              exact ⟨⟨j + 1, by go_num, by omega, by rw [HM.out]; simp [c1, c2]; try omega, trivial⟩, by simp [intOf]; omega⟩
          · go_wp2_with fail
            exact ⟨⟨j + 1, by go_num, by omega, by rw [HM.out]; simp [c1]; try omega, trivial⟩, by simp [intOf]; omega⟩
      · obtain rfl : j = name.length := by omega
        rw [lgTo_all]
        generalize isLg name = rb at *
        go_upto_region 11 with fail
        go_cut [13, 86] from 75 to 86 (fun _ cc wx => cc = .bool false ∧ wx = w3)
        case first =>
          cases rb with
          | true =>
            have e0 : cd = 0 := by have := HCD.out; simpa using this.symm
            have e1 : (cd == 0) = true := by rw [e0]; rfl
            have e2 : (cd != 0) = false := by rw [e0]; rfl
            clear e0
            go_wp2
            go_meet
            exact ⟨rfl, rfl⟩
          | false =>
            have e0 : cd = 50 := by have := HCD.out; simpa using this.symm
            have e1 : (cd == 0) = false := by rw [e0]; rfl
            have e2 : (cd != 0) = true := by rw [e0]; rfl
            have e3 : (cd != 50) = false := by rw [e0]; rfl
            clear e0
            go_wp2
            go_meet
            exact ⟨rfl, rfl⟩
        case rest =>
          obtain ⟨rfl, hwc⟩ := hcut
          rw [hwc]
          clear hwc HCD
          have hop := open_calm hs3 (ho3 nmLog) hca3 nmLog_ok hb3.size hB0 (HT.out.keep hb3) (by omega)
          rw [hro3] at hop
          have hop : Calls Tryd.prog 15 #[.pointer (some ⟨d, 0, none⟩), .string ⟨#[108, 111, 103]⟩] w3 _ := hop
          have hF3B : ∀ k, F3 k → w.heap.size ≤ k := fun k hk => (hs3.2.1 k hk).1
          go_wp2_with fail
          refine hop.mono ?_
          rintro e w4 ⟨l, v4, F4, b4, rfl, hl4, hC4, hf4, hc4, hG4, hbb4, hlb4, -⟩
          have hb4 := hb3.trans (hc4.below hF3B hb3.size)
          obtain ⟨a4, q4, rfl, -⟩ := hG4.form
          have hap := append_calm (hC4.quiet (alloc_quiet w4 (.cells (tcW [[102, 105, 114, 115, 116]]).toArray 9))) nmLog_ok (txb_built hC4 [[102, 105, 114, 115, 116]] 9 (by decide)) (by decide) hB0 (HT.out.keep (hb4.alloc hb4.size _)) (by omega) (by decide) (by rw [gFirst, l0]; omega)
          rw [gFirst, l0] at hap
          have hap : Calls Tryd.prog 18 #[.pointer (some ⟨l, 0, none⟩), .slice (some ⟨w4.heap.size, 0, none⟩) 1 1] (w4.alloc (.cells #[.string ⟨#[102, 105, 114, 115, 116]⟩] 9)) _ := hap
          clear hop hs3 ho3 hca3 hc4 hf4 hG4
          go_wp2_with fail
          refine hap.mono ?_
          rintro e w5 ⟨rfl, F5, hC5, hf5, hc5⟩
          have hb5 : Below w.heap.size w w5 := (hb4.alloc hb4.size _).trans ((hC4.quiet (alloc_quiet w4 (.cells (tcW [[102, 105, 114, 115, 116]]).toArray 9))).belowC hc5)
          clear hap hC4 hc5 hf5
          have hp1 := pick_far w5 many 9000 hmany (by omega)
          go_wp2_with fail
          refine hp1.mono ?_
          rintro e w6 ⟨n, rfl, hn9, rfl⟩
          have hp2 := pick_far w6 long 400 hlong (by omega)
          go_wp2_with fail
          refine hp2.mono ?_
          rintro e w7 ⟨lg, rfl, hl9, rfl⟩
          clear hp1 hp2
          obtain ⟨MM, hmk, hst⟩ := made_text w7 lg (by omega)
          have hg8 : Chg (fun _ => False) w7 (w7.alloc (.cells MM 5)) := (Chg.refl _ _).alloc _
          have hC8 := hC5.quiet hg8
          have hb8 := hb5.trans (hg8.below (fun _ h => h.elim) hb5.size)
          have htl : (List.replicate lg (0 : UInt8)).length = lg := by simp
          have hrr := right_rep n lg _ htl
          generalize hTX : List.replicate lg (0 : UInt8) = text at *
          have HTL := hide htl
          have HRR := hide hrr
          clear htl hrr hC5 hTX
          go_wp2_with fail
          generalize w7.alloc (.cells MM 5) = w8 at *
          clear hmk hst hg8
          obtain ⟨i0, hi, hz0, hz1, hz2⟩ := info_parts Tryd.info9f
          go_loopw [20, 21] (fun v i wr => ∃ j : Nat, i = .int .i64 (j : Int) ∧ j ≤ n ∧ wr.ownsRow w8.heap.size 9 1 v j (tcW (List.replicate j text)) ∧ Chg (fun _ => False) w8 wr)
            (fun _ i _ => n - (intOf i).toNat)
          case atStart => exact ⟨0, rfl, Nat.zero_le _, World.ownsRow_nil _ _ _ _, Chg.refl _ _⟩
          case round =>
            obtain ⟨j, rfl, hj, hown, hcr⟩ := hrel
            obtain ⟨va, vc, rfl⟩ := own_shape hown
            by_cases hlt : j < n
            · have hsn : tcW (List.replicate j text) ++ [.string (strB text)] = tcW (List.replicate (j + 1) text) := by rw [tcW_one, List.replicate_succ']
              have HSN := hide hsn
              clear hsn
              go_wp2_with (at_builtin; refine wpList_append_own_at _ rfl (.tmp 117) (.tmp 119) 40 rfl w8.heap.size 9 i0 (.string ⟨#[]⟩) 1 16 Tryd.underlying40 hi hz0 hz1 hz2 rfl (by decide) _ _ _ rfl (hown.alloc _) ⟨wr.heap.size, 0, none⟩ 1 1 [.string (strB text)] rfl rfl (cell_one_new _ _ _) (by simp [Value.oneCell']) (by unfold maxLen; omega) (by omega) (by have := hcr.size; simp; omega) ?_)
              intro v9 w9 hown9 hgrow9 _ _
              have hc9 : Chg (fun k => w8.heap.size ≤ k) wr w9 := ((Chg.refl _ wr).alloc _).then ((Chg.of_grown hgrow9).mono fun k _ e => (World.ownsRow.lt hown k e.symm).1)
              have hc10 : Chg (fun _ => False) w8 w9 := hcr.trans hc9 (fun k hk h => absurd hk (Nat.not_lt.2 h))
              obtain ⟨a9, c9, rfl⟩ := own_shape hown9
              rw [HSN.out] at hown9
              clear hgrow9 hown hc9
              go_wp2_with fail
              exact ⟨⟨j + 1, by go_num, by omega, hown9, hc10⟩, by simp [intOf]; omega⟩
            · obtain rfl : j = n := by omega
              have hCr := hC8.quiet hcr
              have hb9 : Below w.heap.size w wr := hb8.trans (hcr.below (fun _ h => h.elim) hb8.size)
              have hown' : wr.ownsRow w8.heap.size 9 1 (.slice va j vc) (List.replicate j text).length (tcW (List.replicate j text)) := by rw [List.length_replicate]; exact hown
              have htx := tx_of_own hown'
              have hlow8 := hC8.low
              have htb : TxB wr F5 l (.slice va j vc) (List.replicate j text) := ⟨htx, fun g hg => by
                have h1 := (World.ownsRow.lt hown g hg).1
                have h2 := (World.ownsRow.lt hown g hg).2
                exact ⟨fun hf => by have := hlow8.1 g hf; omega, by have := hlow8.2; omega, h2⟩⟩
              have hj9 : j ≤ 9000 := by omega
              have hpp : j * lg ≤ 9000 * 400 := Nat.mul_le_mul hj9 (by omega)
              have hpi : ((j : Int) * (lg : Int)) = ((j * lg : Nat) : Int) := by simp
              obtain ⟨PP, hPP⟩ : ∃ PP, PP = j * lg := ⟨_, rfl⟩
              have hwr : IntKind.i64.wrap ((j : Int) * (lg : Int)) = (PP : Int) := by rw [hpi, hPP, IntKind.wrap_i64]; omega
              have HPI := hide hPP
              clear hpi hPP
              have hea : ∀ r ∈ List.replicate j text, r.length ≤ 140737488355328 := fun r hr => by rw [List.eq_of_mem_replicate hr, HTL.out]; omega
              by_cases hri : right (List.replicate j text) = true
              · have hgs := grp_small hri
                have hr2 := HRR.out
                rw [hri] at hr2
                simp only [Bool.true_eq, Bool.and_eq_true, decide_eq_true_eq] at hr2
                obtain ⟨hr3, hr4⟩ := hr2
                clear hea
                have hd1 : ¬ (8192 : Int) < (j : Int) := by omega
                have hq0 : ¬ 2097152 < PP := by rw [HPI.out]; omega
                have hd2 : decide ((2097152 : Int) < (PP : Int)) = false := decide_eq_false (by omega)
                have hd3 : decide (2097152 < PP) = false := decide_eq_false hq0
                clear hq0
                have hap := append_calm hCr nmLog_ok htb hri hB0 (HT.out.keep hb9) (by omega) (by rw [lFirst]; omega) (by rw [lFirst]; omega)
                rw [lFirst] at hap
                go_wp2_with fail
                refine hap.mono ?_
                rintro e w11 ⟨rfl, F11, hC11, hf11, hc11⟩
                have HOW : Hid (∀ g, (Value.slice va j vc).ownBlock = some g → g < w11.heap.size) := fun g hg => Nat.lt_of_lt_of_le (htb.2 g hg).2.2 hc11.size
                have hb11 : Below w.heap.size w w11 := hb9.trans (hCr.belowC hc11)
                have hTx11 : Tx w11 (.slice va j vc) (List.replicate j text) := htx.chg hc11 (fun g hg e => e.elim (fun e => (htb.2 g hg).1 e) (fun e => (htb.2 g hg).2.1 e))
                have HX11 := hide hTx11
                have hcr := crash_calm hC11 (by omega) 0 0
                clear hap hCr hTx11
                go_wp2_with fail
                refine hcr.mono ?_
                rintro e w12 ⟨d12, F12, S12, t12, rfl, hs12, ho12, hm12, hk12, hf12, hc12⟩
                have hb12 : Below w.heap.size w w12 := hb11.trans (hc12.below (fun _ h => h.elim) hb11.size)
                have hop := open_calm hs12 ho12 hm12 nmLog_ok hb12.size hB0 (HT.out.keep hb12) (by omega)
                have hop : Calls Tryd.prog 15 #[.pointer (some ⟨d12, 0, none⟩), .string ⟨#[108, 111, 103]⟩] w12 _ := hop
                go_wp2_with fail
                refine hop.mono ?_
                rintro e w13 ⟨l13, v13, F13, b13, rfl, hl13, -, hf13, hc13, hG13, hb13, -, -⟩
                have hB1113 : Below w11.heap.size w11 w13 := (hc12.below (fun _ h => h.elim) (Nat.le_refl _)).trans (hc13.below (fun k hk => hf12 k hk) hc12.size)
                have hb13' : Below w.heap.size w w13 := hb11.trans (hB1113.mono hb11.size)
                have hTx13 := HX11.out.chg (Chg.of_below hB1113) (fun g hg e => by
                  obtain ⟨ao', cp', hv', _, _, h4'⟩ := HX11.out
                  injection hv' with e1' _ _
                  subst e1'
                  by_cases hne : List.replicate j text = []
                  · exact absurd e (Nat.not_le.2 (HOW.out g hg))
                  · exact absurd e (Nat.not_le.2 (HOW.out g hg)))
                have HX13 := hide hTx13
                have HG13 := hide hG13
                obtain ⟨a13, q13, rfl, -⟩ := hG13.form
                clear hcr hop hs12 ho12 hm12 hk12 hf12 hc12 hf13 hc13 hG13 hTx13 hC11 hf11 hc11
                have hq := (((Chg.refl (fun _ => False) w13).alloc (.cells #[.string ⟨#[102, 105, 114, 115, 116]⟩] 9)).alloc (.cells #[.slice (some ⟨w13.heap.size, 0, none⟩) 1 1, .slice va j vc] 40))
                have hsm := same_any _ _ _ _ _ (HG13.out.rs.quiet hq) (litG w13 _ _ HX13.out)
                have heq : ([] ++ [[[102, 105, 114, 115, 116]]] ++ [List.replicate j text] : List (List (List UInt8))) = [[[102, 105, 114, 115, 116]], List.replicate j text] := rfl
                rw [decide_eq_true heq] at hsm
                clear heq hri hr3 hr4 hgs hpp htx htb hown hown'
                have HQ := hide hq
                clear hq
                have hln2 : ([] ++ [[[102, 105, 114, 115, 116]]] ++ [List.replicate j text] : List (List (List UInt8))).length = 2 := rfl
                have HLN := hide hln2
                clear hln2
                go_wp2_with fail
                refine hsm.mono ?_
                rintro e w14 ⟨rfl, hc14⟩
                go_wp2
                go_ret
                exact ⟨rfl, hb13'.trans ((HQ.out.then hc14).below (fun _ h => h.elim) hb13'.size)⟩
              · have hri' : right (List.replicate j text) = false := by simpa using hri
                have hr2 := HRR.out
                rw [hri'] at hr2
                have hap := append_bad hCr htb hri' hea hB0 (HT.out.keep hb9) (by omega) (by rw [lFirst]; omega)
                have hor : (8192 : Int) < (j : Int) ∨ (¬ (8192 : Int) < (j : Int) ∧ (2097152 : Int) < (PP : Int)) := by
                  by_cases h8 : j ≤ 8192
                  · refine Or.inr ⟨by omega, ?_⟩
                    rw [decide_eq_true h8, Bool.true_and] at hr2
                    have := decide_eq_false_iff_not.1 hr2.symm
                    rw [HPI.out]
                    omega
                  · exact Or.inl (by omega)
                have HOR := hide hor
                clear hor hr2 hea hri'
                go_wp2_with fail
                refine hap.mono ?_
                rintro e w11 ⟨rfl, F11, hC11, hf11, hc11⟩
                have HOW : Hid (∀ g, (Value.slice va j vc).ownBlock = some g → g < w11.heap.size) := fun g hg => Nat.lt_of_lt_of_le (htb.2 g hg).2.2 hc11.size
                have hb11 : Below w.heap.size w w11 := hb9.trans (hCr.belowC hc11)
                have hTx11 : Tx w11 (.slice va j vc) (List.replicate j text) := htx.chg hc11 (fun g hg e => e.elim (fun e => (htb.2 g hg).1 e) (fun e => (htb.2 g hg).2.1 e))
                have HX11 := hide hTx11
                have hcr := crash_calm hC11 (by omega) 0 0
                clear hap hCr hTx11
                go_wp2_with fail
                refine hcr.mono ?_
                rintro e w12 ⟨d12, F12, S12, t12, rfl, hs12, ho12, hm12, hk12, hf12, hc12⟩
                have hb12 : Below w.heap.size w w12 := hb11.trans (hc12.below (fun _ h => h.elim) hb11.size)
                have hop := open_calm hs12 ho12 hm12 nmLog_ok hb12.size hB0 (HT.out.keep hb12) (by omega)
                have hop : Calls Tryd.prog 15 #[.pointer (some ⟨d12, 0, none⟩), .string ⟨#[108, 111, 103]⟩] w12 _ := hop
                go_wp2_with fail
                refine hop.mono ?_
                rintro e w13 ⟨l13, v13, F13, b13, rfl, hl13, -, hf13, hc13, hG13, hb13, -, -⟩
                have hB1113 : Below w11.heap.size w11 w13 := (hc12.below (fun _ h => h.elim) (Nat.le_refl _)).trans (hc13.below (fun k hk => hf12 k hk) hc12.size)
                have hb13' : Below w.heap.size w w13 := hb11.trans (hB1113.mono hb11.size)
                have hTx13 := HX11.out.chg (Chg.of_below hB1113) (fun g hg e => by
                  obtain ⟨ao', cp', hv', _, _, h4'⟩ := HX11.out
                  injection hv' with e1' _ _
                  subst e1'
                  by_cases hne : List.replicate j text = []
                  · exact absurd e (Nat.not_le.2 (HOW.out g hg))
                  · exact absurd e (Nat.not_le.2 (HOW.out g hg)))
                have HX13 := hide hTx13
                have HG13 := hide hG13
                obtain ⟨a13, q13, rfl, -⟩ := hG13.form
                clear hcr hop hs12 ho12 hm12 hk12 hf12 hc12 hf13 hc13 hG13 hTx13 hC11 hf11 hc11
                rcases HOR.out with hd1 | ⟨hd1, hd2⟩
                · skip
                  have hq := (((Chg.refl (fun _ => False) w13).alloc (.cells #[.string ⟨#[102, 105, 114, 115, 116]⟩] 9)).alloc (.cells #[.slice (some ⟨w13.heap.size, 0, none⟩) 1 1] 40))
                  have hsm := same_any _ _ _ _ _ (HG13.out.rs.quiet hq) (litF w13)
                  have heq : ([] ++ [[[102, 105, 114, 115, 116]]] : List (List (List UInt8))) = [[[102, 105, 114, 115, 116]]] := rfl
                  rw [decide_eq_true heq] at hsm
                  clear heq
                  have HQ := hide hq
                  clear hq
                  go_wp2_with fail
                  refine hsm.mono ?_
                  rintro e w14 ⟨rfl, hc14⟩
                  go_wp2
                  go_ret
                  exact ⟨rfl, hb13'.trans ((HQ.out.then hc14).below (fun _ h => h.elim) hb13'.size)⟩
                · skip
                  have hq := (((Chg.refl (fun _ => False) w13).alloc (.cells #[.string ⟨#[102, 105, 114, 115, 116]⟩] 9)).alloc (.cells #[.slice (some ⟨w13.heap.size, 0, none⟩) 1 1] 40))
                  have hsm := same_any _ _ _ _ _ (HG13.out.rs.quiet hq) (litF w13)
                  have heq : ([] ++ [[[102, 105, 114, 115, 116]]] : List (List (List UInt8))) = [[[102, 105, 114, 115, 116]]] := rfl
                  rw [decide_eq_true heq] at hsm
                  clear heq
                  have HQ := hide hq
                  clear hq
                  go_wp2_with fail
                  refine hsm.mono ?_
                  rintro e w14 ⟨rfl, hc14⟩
                  go_wp2
                  go_ret
                  exact ⟨rfl, hb13'.trans ((HQ.out.then hc14).below (fun _ h => h.elim) hb13'.size)⟩
end Go.Proofs.YtglknhjbcckjiaaDoor

/-
  What the statements' frames share: the table out of the row's list, what came in out of its reading. No condition.
-/
namespace Go.Proofs.YtglknhjbcckjiaaDoor
open Go.ChangeShapes Go.WideShapes Go.ChangeAt Go.RowKit

theorem own : ownKnob Tryd.prog.godebug = none := by kernel_rfl
theorem laidOut : laidOutB Tryd.prog = true := by kernel_rfl
theorem gTab : Tryd.prog.globalNamed "tussock/wire.crcSteps" = some 0 := by kernel_rfl
theorem gTabType : (Tryd.prog.globals[0]?).map (·.type) = some 143 := by kernel_rfl
theorem cellsTab : Tryd.prog.cellsOf 143 = 16 := by kernel_rfl
theorem cellsU : Tryd.prog.cellsOf 115 = 1 := by kernel_rfl
theorem block_lt {w : World} {p : Addr} {v : Value} (h : w.cell? p = some v) : p.block < w.heap.size := by
  rcases Nat.lt_or_ge p.block w.heap.size with h1 | h1
  · exact h1
  · unfold World.cell? at h
    rw [Array.getElem?_eq_none h1] at h
    simp at h
theorem table {W : World} (h : laidMetH Tryd.prog [("tussock/wire.crcSteps", Rows.laid_tussock_wire_crcSteps)] W) :
    Lib.TabIs Tryd.prog W "tussock/wire.crcSteps" .u32 [0, 498536548, 997073096, 651767980, 1994146192, 1802195444, 1303535960, 1342533948, 3988292384, 4027552580, 3604390888, 3412177804, 2607071920, 2262029012, 2685067896, 3183342108] :=
  Lib.tabIs_of_head (rest := []) gTab gTabType Tryd.underlying143 Tryd.underlying115 cellsU cellsTab h
theorem tabW {W : World} (h : laidMetH Tryd.prog [("tussock/wire.crcSteps", Rows.laid_tussock_wire_crcSteps)] W) : TabW W := by
  have hc : ∀ j, j < 16 → W.cell? ⟨0, j, none⟩ = some (.int .u32 ((tabL.getD j 0 : Nat) : Int)) := by
    intro j hj
    rw [(table h).cell gTab j (by simpa using hj)]
    have : ∀ j : Fin 16, ([0, 498536548, 997073096, 651767980, 1994146192, 1802195444, 1303535960, 1342533948, 3988292384, 4027552580, 3604390888, 3412177804, 2607071920, 2262029012, 2685067896, 3183342108] : List Int).getD j.val 0 = ((tabL.getD j.val 0 : Nat) : Int) := by decide +kernel
    rw [this ⟨j, hj⟩]
  exact ⟨block_lt (hc 0 (by omega)), hc⟩
theorem text_le {H : Type} {ts : List TypeId} {ds : List (DataW H)} (hsz : (DataW.weightsEach Tryd.prog ts ds).all (· ≤ reachBytes) = true) {j : Nat} {s : ByteArray}
    (ht : ts[j]? = some 9) (hd : ds[j]? = some (.lit (.string s.data.toList))) : s.size ≤ 140737488351232 := by
  have := sized_string hsz ht hd
  simp only [reachBytes] at this
  simpa using this
end Go.Proofs.YtglknhjbcckjiaaDoor
