/-
  The statement WirePuts answers true, and leaves all that was there. Conditions: a number within 64 bits; bytes and a text within the reach; the table's sixteen numbers.
-/
import Derived.Test.YtphhonkiikdanaaDoorShown
import Derived.Test.YtphhonkiikdanaaDoorAhead
import Derived.Test.YtphhonkiikdanaaDoorRef
import Derived.Test.YtphhonkiikdanaaDoorSteps
import Derived.Deep.Cut
namespace Go.Proofs.YtphhonkiikdanaaDoor
open Go.RowKit

theorem toList_strB (a : List UInt8) : (strB a).toList = a := by rw [ByteArray.toList_eq, strB_list]
theorem strB_append (a b : List UInt8) : ((strB (a ++ b)).toList == (strB a ++ strB b).toList) = true := by
  have : strB a ++ strB b = strB (a ++ b) := by
    unfold strB
    apply ByteArray.ext
    simp
  rw [this]; simp

/-- 'string(v)' in every world that has grown out of this one. -/
theorem run_strB {w : World} {v : Value} {l : List UInt8} (h : Sl w v l) : ∀ W, Below w.heap.size w W → (convert 22 9 v).run Tryd.prog W = .ok (.string (strB l)) W :=
  fun W hW => run_str W v l (h.keep hW)

set_option maxRecDepth 20000 in
set_option maxHeartbeats 800000 in
theorem puts_any (w : World) (v : Value) (l : List UInt8) (n : Int) (s : ByteArray) (hT : TabW w) (h : Sl w v l) (hl : l.length ≤ 140737488351232) (h0 : -9223372036854775808 ≤ n) (h1 : n ≤ 9223372036854775807) (hs : s.size ≤ 140737488351232) :
    Calls Tryd.prog 3 #[v, .int .i64 n, .string s] w fun e w' => e = .returned (.bool true) ∧ Below w.heap.size w w' := by
  have HT := hide hT
  clear hT
  go_enter Tryd.func3, Tryd.ntmps3
  go_wp2_with fail
  refine (shown_any _ HT.out).mono ?_
  rintro e w1 ⟨rfl, hb1⟩
  go_wp2_with fail
  refine (ahead_any _ v l (h.keep hb1) hl).mono ?_
  rintro e w2 ⟨rfl, hown2, hb2⟩
  have hlen : l.length + 40 = (l ++ a5 40).length := by simp [a5]
  have hf2 : Sl w2 (.slice (some ⟨w1.heap.size, 0, none⟩) (l.length + 40) (l.length + 40)) (l ++ a5 40) := by
    rw [hlen] at hown2 ⊢
    exact sl_of_own hown2
  have hx2 : Sl w2 (.slice (some ⟨w1.heap.size, 0, none⟩) l.length (l.length + 40)) l := by
    have := hf2.first (k := l.length) (by simp)
    rwa [List.take_left] at this
  clear hown2 hlen
  go_wp2_with fail
  refine (putInt_any _ _ l n hx2 h0 h1 (by omega)).mono ?_
  rintro e w3 ⟨g3, m3, cap3, rfl, hm3, hc3, hsl3, hb3⟩
  clear hm3 hc3
  go_wp2_with fail
  refine (putText_any _ _ l s (hx2.keep hb3) (by omega)).mono ?_
  rintro e w4 ⟨g4, m4, cap4, rfl, hm4, hc4, hsl4, hb4⟩
  clear hm4 hc4
  have hb12 := hb1.trans (hb2.mono hb1.size)
  have hb13 := hb12.trans (hb3.mono hb12.size)
  have hb14 := hb13.trans (hb4.mono hb13.size)
  have hb24 := hb3.trans (hb4.mono hb3.size)
  have hv4 := h.keep hb14
  have hf4 := hf2.keep hb24
  have hone : Sl w4 (.slice (some ⟨g3, 0, none⟩) m3 cap3) (l ++ num n) := hsl3.keep hb4
  have htwo : Sl w4 (.slice (some ⟨g4, 0, none⟩) m4 cap4) (l ++ txt s.data.toList) := by
    have e : txt s.data.toList = Pl.enc (Pl.zz s.size) ++ s.data.toList := by unfold txt num; simp
    rw [e]; exact hsl4
  clear hsl3 hsl4 hx2 hf2 hb2 hb3 hb4 hb12 hb13 hb24 h
  go_wp2_with fail
  refine (stays_any _ v l _ hv4 hf4 hl).mono ?_
  rintro e w4 ⟨rfl, rfl⟩
  clear hf4
  go_upto_region 7 with (refine wpList_strB _ rfl (.tmp 25) rfl hv4 rfl ?_)
  have hd : Below w4.heap.size w4 w4.drew := (Below.refl _ _).drew
  have C1 := hide (run_strB hone)
  have C2 := hide (run_strB htwo)
  have f1 := strB_append l (num n)
  have f2 := strB_append l (txt s.data.toList)
  have z1 := strB_size l
  have z2 := strB_size (num n)
  have z3 := strB_size (txt s.data.toList)
  have zn := num_length n
  have zt : (txt s.data.toList).length ≤ 140737488351242 := by have := num_length s.size; unfold txt; simp; omega
  have y1 : (strB l).size ≤ 140737488351232 := by omega
  have y2 : (strB (num n)).size ≤ 10 := by omega
  have y3 : (strB (txt s.data.toList)).size ≤ 140737488351242 := by omega
  have k1 : ¬ 9223372036854775807 < (strB l).size + (strB (num n)).size := by omega
  have k3 : ¬ 9223372036854775807 < (strB l).size + (strB (txt s.data.toList)).size := by omega
  clear hone htwo hv4 z1 z2 z3 zn zt y1 y2 y3
  refine wp_region_held_drew (S := fun w' => (convert 22 9 (.slice (some ⟨g3, 0, none⟩) m3 cap3)).run Tryd.prog w' = .ok (.string (strB (l ++ num n))) w' ∧ (convert 22 9 (.slice (some ⟨g4, 0, none⟩) m4 cap4)).run Tryd.prog w' = .ok (.string (strB (l ++ txt s.data.toList))) w') (by kernel_rfl) (⟨C1.out _ hd, C2.out _ hd⟩) (fun hHeld => ?_)
  refine takeH (i := 0) (v := ?_) rfl (by kernel_rfl) (by kernel_rfl) (by kernel_rfl) (fun _ _ _ h => h) rfl ?_ hHeld ?_
  rotate_left
  · intro w _; go_simp; first | done | (with_reducible rfl)
  try simp only [Act.put, List.setIfInBounds_toArray, List.set_cons_zero, List.set_cons_succ]
  refine takeH (i := 1) (v := ?_) rfl (by kernel_rfl) (by kernel_rfl) (by kernel_rfl) (fun _ _ _ h => h) rfl ?_ hHeld ?_
  rotate_left
  · intro w _; go_simp; first | done | (with_reducible rfl)
  try simp only [Act.put, List.setIfInBounds_toArray, List.set_cons_zero, List.set_cons_succ]
  refine takeH (i := 2) (v := ?_) rfl (by kernel_rfl) (by kernel_rfl) (by kernel_rfl) (fun _ _ _ h => h) rfl ?_ hHeld ?_
  rotate_left
  · intro w _; go_simp; first | done | (with_reducible rfl)
  try simp only [Act.put, List.setIfInBounds_toArray, List.set_cons_zero, List.set_cons_succ]
  refine takeH (i := 3) (v := ?_) rfl (by kernel_rfl) (by kernel_rfl) (by kernel_rfl) (fun _ _ _ h => h) rfl ?_ hHeld ?_
  rotate_left
  · intro w _; go_simp; first | done | (with_reducible rfl)
  try simp only [Act.put, List.setIfInBounds_toArray, List.set_cons_zero, List.set_cons_succ]
  refine takeH (i := 4) (v := ?_) rfl (by kernel_rfl) (by kernel_rfl) (by kernel_rfl) (fun _ _ _ h => h) rfl ?_ hHeld ?_
  rotate_left
  · intro w _; go_simp; first | done | (with_reducible rfl)
  try simp only [Act.put, List.setIfInBounds_toArray, List.set_cons_zero, List.set_cons_succ]
  refine takeH (i := 5) (v := ?_) rfl (by kernel_rfl) (by kernel_rfl) (by kernel_rfl) (fun _ _ _ h => h) rfl ?_ hHeld ?_
  rotate_left
  · intro w _; go_simp; first | done | (with_reducible rfl)
  try simp only [Act.put, List.setIfInBounds_toArray, List.set_cons_zero, List.set_cons_succ]
  refine takeH (i := 6) (v := ?_) rfl (by kernel_rfl) (by kernel_rfl) (by kernel_rfl) (fun _ _ _ h => h) rfl ?_ hHeld ?_
  rotate_left
  · intro w hS; (try dsimp only at hS); go_simp; first | done | (with_reducible rfl)
  try simp only [Act.put, List.setIfInBounds_toArray, List.set_cons_zero, List.set_cons_succ]
  refine takeH (i := 7) (v := ?_) rfl (by kernel_rfl) (by kernel_rfl) (by kernel_rfl) (fun _ _ _ h => h) rfl ?_ hHeld ?_
  rotate_left
  · intro w _; go_simp; first | done | (with_reducible rfl)
  try simp only [Act.put, List.setIfInBounds_toArray, List.set_cons_zero, List.set_cons_succ]
  refine takeH (i := 8) (v := ?_) rfl (by kernel_rfl) (by kernel_rfl) (by kernel_rfl) (fun _ _ _ h => h) rfl ?_ hHeld ?_
  rotate_left
  · intro w _; go_simp; first | done | (with_reducible rfl)
  try simp only [Act.put, List.setIfInBounds_toArray, List.set_cons_zero, List.set_cons_succ]
  refine onlyH (i := 9) rfl (by kernel_rfl) rfl (fun K hK => ?_)
  go_simp
  refine (refInt_any _ _ h0 h1).mono ?_
  rintro e w5 ⟨v5, rfl, hown5, hb5⟩
  have hb5' := hd.trans (hb5.mono hd.size)
  have c5 := run_strB (sl_of_own hown5) w5 (Below.refl _ _)
  go_wp2_with fail
  refine hK.out _ _ (⟨C1.out w5 hb5', C2.out w5 hb5'⟩) (fun hHeld => ?_)
  clear hK K
  refine onlyH (i := 10) rfl (by kernel_rfl) rfl (fun K hK => ?_)
  go_simp
  refine hK.out _ _ (⟨C1.out w5 hb5', C2.out w5 hb5'⟩) (fun hHeld => ?_)
  clear hK K
  refine takeH (i := 11) (v := ?_) rfl (by kernel_rfl) (by kernel_rfl) (by kernel_rfl) (fun _ _ _ h => h) rfl ?_ hHeld ?_
  rotate_left
  · intro w _; go_simp; first | done | (with_reducible rfl)
  try simp only [Act.put, List.setIfInBounds_toArray, List.set_cons_zero, List.set_cons_succ]
  refine takeH (i := 12) (v := ?_) rfl (by kernel_rfl) (by kernel_rfl) (by kernel_rfl) (fun _ _ _ h => h) rfl ?_ hHeld ?_
  rotate_left
  · intro w _; go_simp; first | done | (with_reducible rfl)
  try simp only [Act.put, List.setIfInBounds_toArray, List.set_cons_zero, List.set_cons_succ]
  refine takeH (i := 13) (v := ?_) rfl (by kernel_rfl) (by kernel_rfl) (by kernel_rfl) (fun _ _ _ h => h) rfl ?_ hHeld ?_
  rotate_left
  · intro w _; go_simp; first | done | (with_reducible rfl)
  try simp only [Act.put, List.setIfInBounds_toArray, List.set_cons_zero, List.set_cons_succ]
  refine takeH (i := 14) (v := ?_) rfl (by kernel_rfl) (by kernel_rfl) (by kernel_rfl) (fun _ _ _ h => h) rfl ?_ hHeld ?_
  rotate_left
  · intro w _; go_simp; first | done | (with_reducible rfl)
  try simp only [Act.put, List.setIfInBounds_toArray, List.set_cons_zero, List.set_cons_succ]
  refine takeH (i := 15) (v := ?_) rfl (by kernel_rfl) (by kernel_rfl) (by kernel_rfl) (fun _ _ _ h => h) rfl ?_ hHeld ?_
  rotate_left
  · intro w _; go_simp; first | done | (with_reducible rfl)
  try simp only [Act.put, List.setIfInBounds_toArray, List.set_cons_zero, List.set_cons_succ]
  refine takeH (i := 16) (v := ?_) rfl (by kernel_rfl) (by kernel_rfl) (by kernel_rfl) (fun _ _ _ h => h) rfl ?_ hHeld ?_
  rotate_left
  · intro w hS; (try dsimp only at hS); go_simp; first | done | (with_reducible rfl)
  try simp only [Act.put, List.setIfInBounds_toArray, List.set_cons_zero, List.set_cons_succ]
  refine takeH (i := 17) (v := ?_) rfl (by kernel_rfl) (by kernel_rfl) (by kernel_rfl) (fun _ _ _ h => h) rfl ?_ hHeld ?_
  rotate_left
  · intro w _; go_simp; first | done | (with_reducible rfl)
  try simp only [Act.put, List.setIfInBounds_toArray, List.set_cons_zero, List.set_cons_succ]
  refine takeH (i := 18) (v := ?_) rfl (by kernel_rfl) (by kernel_rfl) (by kernel_rfl) (fun _ _ _ h => h) rfl ?_ hHeld ?_
  rotate_left
  · intro w _; go_simp; first | done | (with_reducible rfl)
  try simp only [Act.put, List.setIfInBounds_toArray, List.set_cons_zero, List.set_cons_succ]
  refine onlyH (i := 19) rfl (by kernel_rfl) rfl (fun K hK => ?_)
  go_simp
  refine (refText_any _ _ (by omega)).mono ?_
  rintro e w6 ⟨v6, rfl, hown6, hb6⟩
  have hb6' := hb5'.trans (hb6.mono hb5'.size)
  have c6 := run_strB (sl_of_own hown6) w6 (Below.refl _ _)
  go_wp2_with fail
  refine hK.out _ _ (⟨C1.out w6 hb6', C2.out w6 hb6'⟩) (fun hHeld => ?_)
  clear hK K
  refine onlyH (i := 20) rfl (by kernel_rfl) rfl (fun K hK => ?_)
  go_simp
  refine hK.out _ _ (⟨C1.out w6 hb6', C2.out w6 hb6'⟩) (fun hHeld => ?_)
  clear hK K
  refine takeH (i := 21) (v := ?_) rfl (by kernel_rfl) (by kernel_rfl) (by kernel_rfl) (fun _ _ _ h => h) rfl ?_ hHeld ?_
  rotate_left
  · intro w _; go_simp; first | done | (with_reducible rfl)
  try simp only [Act.put, List.setIfInBounds_toArray, List.set_cons_zero, List.set_cons_succ]
  refine takeH (i := 22) (v := ?_) rfl (by kernel_rfl) (by kernel_rfl) (by kernel_rfl) (fun _ _ _ h => h) rfl ?_ hHeld ?_
  rotate_left
  · intro w _; go_simp; first | done | (with_reducible rfl)
  try simp only [Act.put, List.setIfInBounds_toArray, List.set_cons_zero, List.set_cons_succ]
  refine takeH (i := 23) (v := ?_) rfl (by kernel_rfl) (by kernel_rfl) (by kernel_rfl) (fun _ _ _ h => h) rfl ?_ hHeld ?_
  rotate_left
  · intro w _; go_simp; first | done | (with_reducible rfl)
  try simp only [Act.put, List.setIfInBounds_toArray, List.set_cons_zero, List.set_cons_succ]
  refine takeH (i := 24) (v := ?_) rfl (by kernel_rfl) (by kernel_rfl) (by kernel_rfl) (fun _ _ _ h => h) rfl ?_ hHeld ?_
  rotate_left
  · intro w _; go_simp; first | done | (with_reducible rfl)
  try simp only [Act.put, List.setIfInBounds_toArray, List.set_cons_zero, List.set_cons_succ]
  refine wpAnyH_done (by kernel_rfl) ?_ _
  go_wp2
  go_ret
  exact ⟨rfl, hb14.trans (hb6'.mono hb14.size)⟩
end Go.Proofs.YtphhonkiikdanaaDoor
