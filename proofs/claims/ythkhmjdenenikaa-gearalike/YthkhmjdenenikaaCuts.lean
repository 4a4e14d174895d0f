/-
  What Cuts answers. Condition: lengths within reach.
-/
import Derived.Test.YthkhmjdenenikaaChunk
namespace Go.Proofs.Ythkhmjdenenikaa
open Go.RowKit

/-- How far a text has been gone through. -/
def far (l : List UInt8) (k : Nat) : Sp := spl ⟨[], []⟩ (l.take k)
theorem far_zero (l : List UInt8) : far l 0 = ⟨[], []⟩ := rfl
theorem far_succ {l : List UInt8} {k : Nat} (h : k < l.length) : far l (k + 1) = adv (far l k) l[k] := by
  unfold far
  rw [List.take_add_one, List.getElem?_eq_getElem h]
  exact spl_snoc _ _ _
theorem far_ok (l : List UInt8) (k : Nat) : (far l k).ok := Sp.ok.nil.spl
theorem far_len {l : List UInt8} {k : Nat} (h : k ≤ l.length) : (far l k).t.flatten.length + (far l k).h.length = k := by
  have := congrArg List.length (spl_all (l.take k) ⟨[], []⟩)
  simp only [List.length_append] at this
  unfold far
  rw [this]
  simp [Nat.min_eq_left h]
theorem far_all (l : List UInt8) : far l l.length = spl ⟨[], []⟩ l := by unfold far; rw [List.take_length]
theorem adv_end {x : Sp} {c : UInt8} {k : Nat} (h : ended (x.h ++ [c]) = true) (hk : x.t.flatten.length + x.h.length = k) : (adv x c).h = [] ∧ sums 0 (adv x c).t = sums 0 x.t ++ [k + 1] := by
  unfold adv
  rw [if_pos h]
  refine ⟨rfl, ?_⟩
  rw [sums_append, ← hk]
  simp only [sums, Nat.zero_add, List.length_append, List.length_singleton, Nat.add_assoc]
theorem adv_on {x : Sp} {c : UInt8} (h : ended (x.h ++ [c]) = false) : (adv x c).h = x.h ++ [c] ∧ (adv x c).t = x.t := by
  unfold adv
  rw [if_neg (by simp [h])]
  exact ⟨rfl, rfl⟩
theorem told_le {x : Sp} (k : x.ok) {n : Nat} (hn : x.t.flatten.length + x.h.length = n) : x.t.length ≤ n := by
  have : x.t.length ≤ x.t.flatten.length := by
    rw [List.length_flatten]
    have h : ∀ (T : List (List UInt8)), (∀ c ∈ T, Ck c) → T.length ≤ (T.map List.length).sum := by
      intro T
      induction T with
      | nil => simp
      | cons c T ih =>
        intro hT
        have := ih (fun d hd => hT d (by simp [hd]))
        have := (hT c (by simp)).pos
        simp
        omega
    exact h _ k.1
  omega

set_option maxRecDepth 20000 in
theorem cuts_any (w : World) (l : List UInt8) (hl : l.length ≤ 1099511627776) :
    Calls Try.prog 14 #[.string (strB l)] w fun e w' => ∃ v, e = .returned v ∧ w'.ownsRow w.heap.size 3 1 v (cuts l).length (ic (cuts l)) ∧ Below w.heap.size w w' := by
  obtain ⟨i0, hi0, hz0, hz1, hz2⟩ := info_parts Try.infoI
  have hs := strB_size l
  have k0 : CkAt (w.alloc (.cells #[.int .i64 0, .int .u64 0] 44)) w.heap.size 44 [] [] := heap_last _ _
  have hB0 : Below w.heap.size w (w.alloc (.cells #[.int .i64 0, .int .u64 0] 44)) := (Below.refl _ w).alloc (Nat.le_refl _) _
  have hz : w.heap.size + 1 ≤ (w.alloc (.cells #[.int .i64 0, .int .u64 0] 44)).heap.size := by simp
  generalize hG : w.heap.size = G at *
  go_enter Try.func14, Try.ntmps14
  go_wp2_with fail
  go_loopw [8, 4] (fun i v wr => ∃ k : Nat, i = .int .i64 (k : Int) ∧ k ≤ l.length ∧ wr.ownsRow (G + 1) 3 1 v (sums 0 (far l k).t).length (ic (sums 0 (far l k).t)) ∧ CkAt wr G 44 (far l k).h [] ∧ Below G w wr ∧ G + 1 ≤ wr.heap.size)
    (fun i _ _ => l.length - (intOf i).toNat)
  case atStart => exact ⟨0, rfl, Nat.zero_le _, World.ownsRow_nil _ _ _ _, k0, hB0, hz⟩
  case round =>
    obtain ⟨k, rfl, hk, hrow, hck, hB, hsz⟩ := hrel
    by_cases hlt : k < l.length
    · have hix := fun W => index_str W l .i64 k hlt
      have hfs := far_succ hlt
      have hfl := far_len (Nat.le_of_lt hlt)
      have hok := far_ok l k
      have hle := told_le hok hfl
      have htk := take_any wr G 44 _ _ l[k] hck hok.2
      cases he : ended ((far l k).h ++ [l[k]]) with
      | true =>
        have ⟨a1, a2⟩ := adv_end he hfl
        rw [he, if_pos rfl] at htk
        rw [← hfs] at a1 a2
        generalize l[k] = c at *
        clear hfs
        go_wp2_with fail
        refine htk.mono ?_
        rintro e w1 ⟨rfl, hck1, hC1⟩
        have hrow1 := own_keep hrow hC1 (fun j hj e => by have := (hrow.lt j hj).1; omega)
        have hB1 : Below G w w1 := hB.trans (hC1.below (fun j e => by omega) (by omega))
        have hsz1 : G + 1 ≤ w1.heap.size := Nat.le_trans hsz hC1.size
        have hrow' := hrow1
        obtain ⟨ao, cap, rfl, c1, c2, -⟩ := own_form hrow1
        have hsl : (sums 0 (far l k).t).length ≤ l.length := by rw [sums_length]; omega
        clear hrow htk
        go_wp2_with (at_builtin; refine wpList_append_own _ rfl (.tmp 15) (.tmp 18) 27 rfl (G + 1) 3 i0 (.int .i64 0) 1 8 Try.underlying27 hi0 hz0 hz1 hz2 rfl (by decide) _ _ _ rfl (hrow'.alloc _) ⟨w1.heap.size, 0, none⟩ 1 1 [.int .i64 ((k : Int) + 1)] rfl rfl (cell_one_new _ _ _) (by simp [Value.oneCell']) (by unfold maxLen; omega) (by omega) (by simp; omega) ?_)
        intro v2 w2 hown2 hgrow2 _
        have hb2 : Below G w w2 := (hB1.alloc (by omega) _).grown hgrow2 (by simp; omega) (fun j hj => Nat.le_of_succ_le (hrow'.lt j hj).1)
        have hck2 : CkAt w2 G 44 [] [] := (hgrow2.block G (by simp; omega) (fun e => by have := (hrow'.lt G e.symm).1; omega)).trans (heap_past _ hck1)
        have hsz2 : G + 1 ≤ w2.heap.size := by have := hgrow2.size; simp at this; omega
        obtain ⟨ao', cap', rfl, -⟩ := own_form hown2
        clear hgrow2 hrow1
        go_wp2
        go_roundw
        case rel => exact ⟨k + 1, by go_num, by omega, by rw [a2, ic_append]; simpa [ic] using hown2, by rw [a1]; exact hck2, hb2, hsz2⟩
        case measure => simp [intOf] <;> omega
      | false =>
        have ⟨a1, a2⟩ := adv_on he
        rw [he, if_neg (by simp)] at htk
        rw [← hfs] at a1 a2
        generalize l[k] = c at *
        clear hfs
        go_wp2_with fail
        refine htk.mono ?_
        rintro e w1 ⟨rfl, hck1, hC1⟩
        have hrow1 := own_keep hrow hC1 (fun j hj e => by have := (hrow.lt j hj).1; omega)
        have hB1 : Below G w w1 := hB.trans (hC1.below (fun j e => by omega) (by omega))
        have hsz1 : G + 1 ≤ w1.heap.size := Nat.le_trans hsz hC1.size
        clear hrow htk
        go_wp2_with fail
        exact ⟨⟨k + 1, by go_num, by omega, by rw [a2]; exact hrow1, by rw [a1]; exact hck1, hB1, hsz1⟩, by simp [intOf]; omega⟩
    · obtain rfl : k = l.length := by omega
      have hfl := far_len (Nat.le_refl l.length)
      have hok := far_ok l l.length
      have hle := told_le hok hfl
      have hcs : cuts l = sums 0 (far l l.length).all := by unfold cuts chunks; rw [far_all]
      have hcz := KAt.size hck
      generalize far l l.length = x at *
      have hsl : (sums 0 x.t).length ≤ l.length := by rw [sums_length]; omega
      by_cases hh : x.h = []
      · have e0 : (x.h.length : Int) = 0 := by rw [hh]; rfl
        have hcs2 : cuts l = sums 0 x.t := by rw [hcs]; unfold Sp.all; rw [if_pos hh]; simp
        rw [e0] at hcz
        obtain ⟨ao, cap, rfl, c1, c2, -⟩ := own_form hrow
        go_wp2
        go_ret
        refine ⟨_, rfl, ?_, hB⟩
        rw [hcs2]
        exact own_down hrow (by omega)
      · have hp := List.length_pos_iff.2 hh
        have hcs2 : cuts l = sums 0 x.t ++ [l.length] := by rw [hcs]; unfold Sp.all; rw [if_neg hh, sums_append, ← hfl]; simp only [sums, Nat.zero_add]
        have hrow' := hrow
        obtain ⟨ao, cap, rfl, c1, c2, -⟩ := own_form hrow
        clear hrow
        go_wp2_with (at_builtin; refine wpList_append_own _ rfl (.tmp 24) (.tmp 27) 27 rfl (G + 1) 3 i0 (.int .i64 0) 1 8 Try.underlying27 hi0 hz0 hz1 hz2 rfl (by decide) _ _ _ rfl (hrow'.alloc _) ⟨wr.heap.size, 0, none⟩ 1 1 [.int .i64 (l.length : Int)] rfl rfl (cell_one_new _ _ _) (by simp [Value.oneCell']) (by unfold maxLen; omega) (by omega) (by simp; omega) ?_)
        intro v2 w2 hown2 hgrow2 _
        have hb2 : Below G w w2 := (hB.alloc (by omega) _).grown hgrow2 (by simp; omega) (fun j hj => Nat.le_of_succ_le (hrow'.lt j hj).1)
        obtain ⟨ao', cap', rfl, -⟩ := own_form hown2
        clear hgrow2
        go_wp2
        go_ret
        refine ⟨_, rfl, ?_, hb2⟩
        rw [hcs2, ic_append]
        exact own_down (by simpa [ic] using hown2) (Nat.le_succ _)
end Go.Proofs.Ythkhmjdenenikaa
