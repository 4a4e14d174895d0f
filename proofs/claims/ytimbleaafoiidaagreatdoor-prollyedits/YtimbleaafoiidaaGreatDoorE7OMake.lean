/-
  Texts joined: OMake, ORight.
-/
import Derived.Test.YtimbleaafoiidaaGreatDoorE6OPlain
/-
  What is written, told: its size, a piece, all of it, its object; writing begun. Conditions: the table holds its numbers; lengths within reach.
-/
namespace Go.Proofs.YtimbleaafoiidaaGreatDoor
open Go.RowKit

theorem Wr.sl {B : Nat} {w : World} {g : Nat} {l : Bs} (h : Wr B w g l) : ∃ v, w.cell? ⟨g, 0, none⟩ = some v ∧ Sl w v l := by
  obtain ⟨hg, v, hh, hown⟩ := h
  exact ⟨v, by rw [cell_of_row w g 0 _ _ _ hh]; rfl, sl_of_own hown⟩
theorem size_any (w : World) (g : Nat) (v : Value) (l : Bs) (hc : w.cell? ⟨g, 0, none⟩ = some v) (hv : Sl w v l) :
    Calls Tryz.prog 123 #[.pointer (some ⟨g, 0, none⟩)] w fun e w' => e = .returned (.int .i64 (l.length : Int)) ∧ w' = w := by
  obtain ⟨ao, cap, rfl, h1, h2, h3, h4⟩ := hv
  clear h4 h3
  go_enter Tryz.func123, Tryz.ntmps123
  go_wp2
  go_ret
  exact ⟨rfl, rfl⟩
set_option maxRecDepth 20000 in
theorem piece_any (w : World) (g : Nat) (v : Value) (l : Bs) (r m : Nat) (hc : w.cell? ⟨g, 0, none⟩ = some v) (hv : Sl w v l) (hm : r + m ≤ l.length) (j : Int) (hj : j = ((r + m : Nat) : Int)) :
    Calls Tryz.prog 163 #[.pointer (some ⟨g, 0, none⟩), .int .i64 (r : Int), .int .i64 j] w fun e w' => e = .returned (.string (strB ((l.drop r).take m))) ∧ w' = w := by
  subst hj
  have h := hv
  obtain ⟨ao, cap, rfl, h1, h2, h3, h4⟩ := hv
  clear h4 h3
  unfold maxLen at h2
  rcases Nat.lt_or_ge r cap with hrc | hrc
  · have hs := Sl.cutAt hm hrc h
    clear h
    go_enter Tryz.func163, Tryz.ntmps163
    go_wp2_with (refine wpList_str _ rfl (.tmp 13) rfl hs (by first | rfl | (simp [go_sem]; done)) ?_)
    go_ret
    exact ⟨rfl, rfl⟩
  · obtain rfl : cap = r := by omega
    have hs := Sl.cutEnd hm h
    clear h
    go_enter Tryz.func163, Tryz.ntmps163
    go_wp2_with (refine wpList_str _ rfl (.tmp 13) rfl hs (by first | rfl | (simp [go_sem]; done)) ?_)
    go_ret
    exact ⟨rfl, rfl⟩
theorem text_any (w : World) (g : Nat) (v : Value) (l : Bs) (hc : w.cell? ⟨g, 0, none⟩ = some v) (hv : Sl w v l) :
    Calls Tryz.prog 171 #[.pointer (some ⟨g, 0, none⟩)] w fun e w' => e = .returned (.string (strB l)) ∧ w' = w := by
  have hp := piece_any w g v l 0 l.length hc hv (by omega) (l.length : Int) (by simp)
  rw [List.drop_zero, List.take_length] at hp
  go_enter Tryz.func171, Tryz.ntmps171
  go_wp2_with fail
  refine (size_any w g v l hc hv).mono ?_
  rintro e w1 ⟨rfl, rfl⟩
  go_wp2_with fail
  refine hp.mono ?_
  rintro e w2 ⟨rfl, rfl⟩
  go_wp2
  go_ret
  exact ⟨rfl, rfl⟩
theorem ps_one (w : World) (l : Bs) (n : Nat) (hn : n = w.heap.size) : Ps (w.alloc (.cells #[.string (strB l)] 9)) (.slice (some ⟨n, 0, none⟩) 1 1) [l] := by
  subst hn
  refine ⟨_, 1, rfl, Nat.le_refl _, by unfold maxLen; omega, fun _ => ⟨w.heap.size, 0, rfl, by simp, fun j hj => ?_⟩⟩
  obtain rfl : j = 0 := by simpa using hj
  rw [cell_of_row _ _ _ _ _ _ (heap_last w _ _ rfl)]
  rfl
theorem heap_set2 {w : World} {g : Nat} {v0 v1 u0 u1 : Value} {t : TypeId} (h : w.heap[g]? = some (.cells #[v0, v1] t)) : ((w.setCell ⟨g, 0, none⟩ u0).setCell ⟨g, 1, none⟩ u1).heap[g]? = some (.cells #[u0, u1] t) := by
  rw [heap_setCell _ _ _ _ _ _ _ (heap_setCell _ _ _ _ _ _ _ h)]
  simp
theorem Tryz.infoObj : (Tryz.prog.info? 69).map (·.size) = some 2 := by kernel_rfl
/-- An object as the program has it. -/
def objV (l : Bs) : Value := .agg #[.string (strB (sha l)), .string (strB l)]
set_option maxRecDepth 20000 in
theorem object_any (w : World) (g : Nat) (v : Value) (l : Bs) (hc : w.cell? ⟨g, 0, none⟩ = some v) (hv : Sl w v l) (hg : g < w.heap.size) (hT : TabW w) (hsz : l.length ≤ 140737488355328) :
    Calls Tryz.prog 153 #[.pointer (some ⟨g, 0, none⟩)] w fun e w' => e = .returned (objV l) ∧ Below w.heap.size w w' := by
  have h0 := hT.1
  unfold objV
  have hsum : ∀ W u, Ps W u [l] → TabW W → Calls Tryz.prog 120 #[u] W fun e w' => e = .returned (.string (strB (sha l))) ∧ Below W.heap.size W w' := fun W u h1 h2 => by
    have := sum_any W u [l] h1 h2 (by simpa using hsz)
    rw [show ([l] : List Bs).flatten = l from by simp] at this
    exact this
  generalize sha l = S at *
  have hb0 : Below w.heap.size w (w.alloc (.cells #[.string ⟨#[]⟩, .string ⟨#[]⟩] 69)) := (Below.refl _ _).alloc (Nat.le_refl _) _
  have hc0 := (hb0.cell (p := ⟨g, 0, none⟩) hg).trans hc
  have hv0 := hv.keep hb0
  have hx0 := heap_last w (.cells #[.string ⟨#[]⟩, .string ⟨#[]⟩] 69) _ rfl
  have hps := ps_one (w.alloc (.cells #[.string ⟨#[]⟩, .string ⟨#[]⟩] 69)) l (w.heap.size + 1) (by simp)
  have hb1 := hb0.alloc hb0.size (.cells #[.string (strB l)] 9)
  have hx1 := (heap_past (w.alloc (.cells #[.string ⟨#[]⟩, .string ⟨#[]⟩] 69)) (.cells #[.string (strB l)] 9) w.heap.size (by simp)).trans hx0
  have hTs := hT.keep hb1 h0
  have HPS := hide hps
  have HT := hide hTs
  have HX := hide hx1
  have HB := hide hb1
  clear hps hTs hx1 hb1 hv hc hT
  go_enter Tryz.func153, Tryz.ntmps153
  go_wp2_with fail
  refine (text_any _ g v l hc0 hv0).mono ?_
  rintro e w1 ⟨rfl, rfl⟩
  go_wp2_with fail
  refine (hsum _ _ HPS.out HT.out).mono ?_
  rintro e w2 ⟨rfl, hb2⟩
  have hx2 := (hb2.block _ (lt_of_heap HX.out)).trans HX.out
  have hbw := HB.out.trans (hb2.mono HB.out.size)
  have c0 := cell_of_row w2 w.heap.size 0 _ _ _ hx2
  have c1 := cell_of_row w2 w.heap.size 1 _ _ _ hx2
  simp only [List.getElem?_toArray, List.getElem?_cons_zero, List.getElem?_cons_succ] at c0 c1
  have f0 := frozen0 (j := 0) hx2
  have f1 := frozen0 (j := 1) hx2
  go_wp2
  refine bodyPost_ret (v := .agg #[.string (strB S), .string (strB l)]) (results_cell_row rfl _ _ _ _ _ _ _ rfl (heap_set2 hx2) Tryz.underlying69 rfl Tryz.infoObj) rfl ⟨rfl, ?_⟩
  exact (hbw.setCell (p := ⟨w.heap.size, 0, none⟩) (Nat.le_refl _) _).setCell (p := ⟨w.heap.size, 1, none⟩) (Nat.le_refl _) _

set_option maxRecDepth 20000 in
theorem write_any (w : World) (v : Value) (ps : List Bs) (hv : Ls w.heap.size w 1 idC v ps) (hsz : ps.flatten.length ≤ 140737488355328) :
    Calls Tryz.prog 150 #[v] w fun e w' => ∃ g, e = .returned (.pointer (some ⟨g, 0, none⟩)) ∧ Wr w.heap.size w' g ps.flatten ∧ Below w.heap.size w w' := by
  obtain ⟨ao, cap, rfl, h1, h2, h4⟩ := hv
  unfold maxLen at h2
  have hW0 : Wr w.heap.size (w.alloc (.cells #[.slice none 0 0] 188)) w.heap.size [] := ⟨Nat.le_refl _, _, heap_last w _ _ rfl, World.ownsRow_nil _ _ _ _⟩
  have hb0 : Below w.heap.size w (w.alloc (.cells #[.slice none 0 0] 188)) := (Below.refl _ _).alloc (Nat.le_refl _) _
  have HW0 := hide hW0
  have HB0 := hide hb0
  clear hW0 hb0
  go_enter Tryz.func150, Tryz.ntmps150
  go_wp2_with fail
  go_loopw [10] (fun t wr => ∃ k : Nat, k ≤ ps.length ∧ t = .int .i64 k ∧ Wr w.heap.size wr w.heap.size (ps.take k).flatten ∧ Below w.heap.size w wr)
    (fun t _ => ps.length - (intOf t).toNat)
  case atStart => exact ⟨0, by omega, rfl, HW0.out, HB0.out⟩
  case round =>
    clear HW0 HB0
    obtain ⟨k, hk, rfl, hWr, hb⟩ := hrel
    have HW := hide hWr
    have HB := hide hb
    clear hWr hb
    by_cases hlt : k < ps.length
    · obtain ⟨b, off, rfl, hbB, hc⟩ := h4 (by rintro rfl; simp at hlt)
      have c0 := (HB.out.cell (p := ⟨b, off + k * 1 + 0, none⟩) hbB).trans (hc k hlt 0 _ rfl)
      simp only [Nat.mul_one, Nat.add_zero] at c0
      have hst : (ps.take (k + 1)).flatten = (ps.take k).flatten ++ ps[k] := by
        rw [List.take_succ_eq_append_getElem hlt, List.flatten_append]; simp
      have hle : (ps.take (k + 1)).flatten.length ≤ ps.flatten.length := by
        have : ps.flatten = (ps.take (k + 1)).flatten ++ (ps.drop (k + 1)).flatten := by rw [← List.flatten_append, List.take_append_drop]
        rw [this, List.length_append]; omega
      rw [hst, List.length_append] at hle
      have HST := hide hst
      generalize ps[k] = x at *
      go_wp2_with fail
      refine (layBare_any w.heap.size _ w.heap.size _ x HW.out (by omega)).mono ?_
      rintro e w2 ⟨rfl, hW2, hb2, -⟩
      have HW2 := hide hW2
      have HB2 := hide (HB.out.trans hb2)
      clear hW2 hb2
      go_wp2
      go_roundw
      case rel => exact ⟨k + 1, by omega, by go_num, by rw [HST.out]; exact HW2.out, HB2.out⟩
      case measure => simp [intOf]; omega
    · obtain rfl : k = ps.length := by omega
      go_wp2
      go_ret
      refine ⟨_, rfl, ?_, HB.out⟩
      have := HW.out
      rw [List.take_length] at this
      exact this
end Go.Proofs.YtimbleaafoiidaaGreatDoor

/-
  What is right: of each of a list, of sums. Conditions: lists lie there.
-/
namespace Go.Proofs.YtimbleaafoiidaaGreatDoor
open Go.RowKit

theorem ret_bool {a b : Bool} (h : a = b) : Ending.returned (.bool a) = .returned (.bool b) := by rw [h]
theorem all_step {α : Type} (f : α → Bool) (xs : List α) (k : Nat) (hk : k < xs.length) (h : (xs.take k).all f = true) (hf : f xs[k] = true) : (xs.take (k + 1)).all f = true := by
  rw [List.take_succ_eq_append_getElem hk, List.all_append, h]
  simp [hf]
theorem all_false {α : Type} (f : α → Bool) (xs : List α) (k : Nat) (hk : k < xs.length) (hf : f xs[k] = false) : false = xs.all f := by
  refine Eq.symm (Bool.eq_false_iff.2 fun h => ?_)
  rw [List.all_eq_true] at h
  have := h _ (List.getElem_mem hk)
  rw [hf] at this
  cases this
theorem isId_any (w : World) (s : Bs) : Calls Tryz.prog 135 #[.string (strB s)] w fun e w' => e = .returned (.bool (isIdB s)) ∧ w' = w := by
  have hs := strB_size s
  go_enter Tryz.func135, Tryz.ntmps135
  go_wp2
  go_ret
  refine ⟨ret_bool ?_, rfl⟩
  unfold isIdB
  (try rw [Bool.eq_iff_iff]); simp <;> omega
theorem isKey_any (w : World) (s : Bs) : Calls Tryz.prog 126 #[.string (strB s)] w fun e w' => e = .returned (.bool (isKeyB s)) ∧ w' = w := by
  have hs := strB_size s
  by_cases h : 1 ≤ s.length
  · go_enter Tryz.func126, Tryz.ntmps126
    go_wp2
    go_ret
    refine ⟨ret_bool ?_, rfl⟩
    unfold isKeyB
    rw [Bool.eq_iff_iff]; simp; omega
  · go_enter Tryz.func126, Tryz.ntmps126
    go_wp2
    go_ret
    refine ⟨ret_bool ?_, rfl⟩
    unfold isKeyB
    rw [Bool.eq_iff_iff]; simp; omega
theorem isLevel_any (w : World) (n : Int) : Calls Tryz.prog 132 #[.int .i64 n] w fun e w' => e = .returned (.bool (levelB n)) ∧ w' = w := by
  by_cases h : 1 ≤ n
  · go_enter Tryz.func132, Tryz.ntmps132
    go_wp2
    go_ret
    refine ⟨ret_bool ?_, rfl⟩
    unfold levelB
    rw [Bool.eq_iff_iff]; simp; omega
  · go_enter Tryz.func132, Tryz.ntmps132
    go_wp2
    go_ret
    refine ⟨ret_bool ?_, rfl⟩
    unfold levelB
    rw [Bool.eq_iff_iff]; simp; omega

theorem leaf1_any (w : World) (x : Pair) : Calls Tryz.prog 125 #[.agg #[.string (strB x.1), .string (strB x.2)]] w fun e w' => e = .returned (.bool (isKeyB x.1 && decide (x.2.length ≤ 128))) ∧ Below w.heap.size w w' := by
  have hs := strB_size x.2
  by_cases h : isKeyB x.1 = true
  · go_enter Tryz.func125, Tryz.ntmps125
    go_wp2_with fail
    refine (isKey_any _ x.1).mono ?_
    rintro e w1 ⟨rfl, rfl⟩
    rw [h]
    go_wp2
    go_ret
    refine ⟨ret_bool ?_, (Below.refl _ _).alloc (Nat.le_refl _) _⟩
    rw [h, Bool.eq_iff_iff]; simp; omega
  · have h := Bool.eq_false_iff.2 h
    go_enter Tryz.func125, Tryz.ntmps125
    go_wp2_with fail
    refine (isKey_any _ x.1).mono ?_
    rintro e w1 ⟨rfl, rfl⟩
    rw [h]
    go_wp2
    go_ret
    exact ⟨ret_bool (by simp [h]), (Below.refl _ _).alloc (Nat.le_refl _) _⟩
theorem branch1_any (w : World) (x : Link) : Calls Tryz.prog 134 #[.agg #[.string (strB x.1), .string (strB x.2.1), .int .i64 x.2.2]] w fun e w' => e = .returned (.bool (isKeyB x.1 && isIdB x.2.1)) ∧ Below w.heap.size w w' := by
  by_cases h : isKeyB x.1 = true
  · go_enter Tryz.func134, Tryz.ntmps134
    go_wp2_with fail
    refine (isKey_any _ x.1).mono ?_
    rintro e w1 ⟨rfl, rfl⟩
    rw [h]
    go_wp2_with fail
    refine (isId_any _ x.2.1).mono ?_
    rintro e w1 ⟨rfl, rfl⟩
    go_wp2
    go_ret
    refine ⟨ret_bool ?_, (Below.refl _ _).alloc (Nat.le_refl _) _⟩
    simp [h]
  · have h := Bool.eq_false_iff.2 h
    go_enter Tryz.func134, Tryz.ntmps134
    go_wp2_with fail
    refine (isKey_any _ x.1).mono ?_
    rintro e w1 ⟨rfl, rfl⟩
    rw [h]
    go_wp2
    go_ret
    exact ⟨ret_bool (by simp [h]), (Below.refl _ _).alloc (Nat.le_refl _) _⟩
theorem branch3_any (w : World) (x : Link) : Calls Tryz.prog 139 #[.agg #[.string (strB x.1), .string (strB x.2.1), .int .i64 x.2.2]] w fun e w' => e = .returned (.int .i64 x.2.2) ∧ Below w.heap.size w w' := by
  go_enter Tryz.func139, Tryz.ntmps139
  go_wp2
  go_ret
  exact ⟨rfl, (Below.refl _ _).alloc (Nat.le_refl _) _⟩
theorem leaf2_any (w : World) (x : Pair) : Calls Tryz.prog 128 #[.agg #[.string (strB x.1), .string (strB x.2)]] w fun e w' => e = .returned (.string (strB x.1)) ∧ Below w.heap.size w w' := by
  go_enter Tryz.func128, Tryz.ntmps128
  go_wp2
  go_ret
  exact ⟨rfl, (Below.refl _ _).alloc (Nat.le_refl _) _⟩
theorem branch2_any (w : World) (x : Link) : Calls Tryz.prog 137 #[.agg #[.string (strB x.1), .string (strB x.2.1), .int .i64 x.2.2]] w fun e w' => e = .returned (.string (strB x.1)) ∧ Below w.heap.size w w' := by
  go_enter Tryz.func137, Tryz.ntmps137
  go_wp2
  go_ret
  exact ⟨rfl, (Below.refl _ _).alloc (Nat.le_refl _) _⟩

set_option maxRecDepth 20000 in
theorem eachPairs_any (w : World) (v : Value) (xs : List (Pair)) (hv : Ls w.heap.size w 2 pairC v xs) :
    Calls Tryz.prog 124 #[v, .func (.func 125) #[] #[]] w fun e w' => e = .returned (.bool (xs.all (fun p => isKeyB p.1 && decide (p.2.length ≤ 128)))) ∧ Below w.heap.size w w' := by
  obtain ⟨ao, cap, rfl, h1, h2, h4⟩ := hv
  unfold maxLen at h2
  go_enter Tryz.func124, Tryz.ntmps124
  go_wp2_with fail
  go_loopw [9] (fun t wr => ∃ k : Nat, k ≤ xs.length ∧ t = .int .i64 k ∧ (xs.take k).all (fun p => isKeyB p.1 && decide (p.2.length ≤ 128)) = true ∧ Below w.heap.size w wr)
    (fun t _ => xs.length - (intOf t).toNat)
  case atStart => exact ⟨0, by omega, rfl, by simp, Below.refl _ _⟩
  case round =>
    obtain ⟨k, hk, rfl, hall, hb⟩ := hrel
    have HB := hide hb
    have HA := hide hall
    clear hb hall
    by_cases hlt : k < xs.length
    · obtain ⟨b, off, rfl, hbB, hc⟩ := h4 (by rintro rfl; simp at hlt)
      have hst := all_step (fun p => isKeyB p.1 && decide (p.2.length ≤ 128)) xs k hlt HA.out
      have hno := all_false (fun p => isKeyB p.1 && decide (p.2.length ≤ 128)) xs k hlt
      have hcell : ∀ i u, (pairC xs[k])[i]? = some u → wr.cell? ⟨b, off + k * 2 + i, none⟩ = some u := fun i u hu => (HB.out.cell (p := ⟨b, off + k * 2 + i, none⟩) hbB).trans (hc k hlt i u hu)
      generalize xs[k] = x at *
      have c0 := hcell 0 _ rfl
      have c1 := hcell 1 _ rfl
      try simp only [Nat.add_zero] at c0
      have HST := hide hst
      have HNO := hide hno
      clear hst hno
      by_cases hf : ((fun p => isKeyB p.1 && decide (p.2.length ≤ 128))) x = true
      · go_wp2_with fail
        refine (leaf1_any _ x).mono ?_
        rintro e w2 ⟨rfl, hb2⟩
        have HB2 : Hid (Below w.heap.size w w2) := hide (((HB.out.alloc HB.out.size _).trans (hb2.mono (HB.out.alloc HB.out.size _).size)))
        clear hb2
        (try dsimp only at hf)
        rw [hf]
        go_wp2
        go_roundw
        case rel => exact ⟨k + 1, by omega, by go_num, HST.out hf, HB2.out⟩
        case measure => simp [intOf]; omega
      · have hf := Bool.eq_false_iff.2 hf
        go_wp2_with fail
        refine (leaf1_any _ x).mono ?_
        rintro e w2 ⟨rfl, hb2⟩
        have HB2 : Hid (Below w.heap.size w w2) := hide (((HB.out.alloc HB.out.size _).trans (hb2.mono (HB.out.alloc HB.out.size _).size)))
        clear hb2
        (try dsimp only at hf)
        rw [hf]
        go_wp2
        go_ret
        exact ⟨ret_bool (HNO.out hf), HB2.out⟩
    · obtain rfl : k = xs.length := by omega
      have ht := HA.out
      rw [List.take_length] at ht
      go_wp2
      go_ret
      exact ⟨ret_bool ht.symm, HB.out⟩

set_option maxRecDepth 20000 in
theorem eachLinks_any (w : World) (v : Value) (xs : List (Link)) (hv : Ls w.heap.size w 3 linkC v xs) :
    Calls Tryz.prog 133 #[v, .func (.func 134) #[] #[]] w fun e w' => e = .returned (.bool (xs.all (fun p => isKeyB p.1 && isIdB p.2.1))) ∧ Below w.heap.size w w' := by
  obtain ⟨ao, cap, rfl, h1, h2, h4⟩ := hv
  unfold maxLen at h2
  go_enter Tryz.func133, Tryz.ntmps133
  go_wp2_with fail
  go_loopw [9] (fun t wr => ∃ k : Nat, k ≤ xs.length ∧ t = .int .i64 k ∧ (xs.take k).all (fun p => isKeyB p.1 && isIdB p.2.1) = true ∧ Below w.heap.size w wr)
    (fun t _ => xs.length - (intOf t).toNat)
  case atStart => exact ⟨0, by omega, rfl, by simp, Below.refl _ _⟩
  case round =>
    obtain ⟨k, hk, rfl, hall, hb⟩ := hrel
    have HB := hide hb
    have HA := hide hall
    clear hb hall
    by_cases hlt : k < xs.length
    · obtain ⟨b, off, rfl, hbB, hc⟩ := h4 (by rintro rfl; simp at hlt)
      have hst := all_step (fun p => isKeyB p.1 && isIdB p.2.1) xs k hlt HA.out
      have hno := all_false (fun p => isKeyB p.1 && isIdB p.2.1) xs k hlt
      have hcell : ∀ i u, (linkC xs[k])[i]? = some u → wr.cell? ⟨b, off + k * 3 + i, none⟩ = some u := fun i u hu => (HB.out.cell (p := ⟨b, off + k * 3 + i, none⟩) hbB).trans (hc k hlt i u hu)
      generalize xs[k] = x at *
      have c0 := hcell 0 _ rfl
      have c1 := hcell 1 _ rfl
      have c2 := hcell 2 _ rfl
      try simp only [Nat.add_zero] at c0
      have HST := hide hst
      have HNO := hide hno
      clear hst hno
      by_cases hf : ((fun p => isKeyB p.1 && isIdB p.2.1)) x = true
      · go_wp2_with fail
        refine (branch1_any _ x).mono ?_
        rintro e w2 ⟨rfl, hb2⟩
        have HB2 : Hid (Below w.heap.size w w2) := hide (((HB.out.alloc HB.out.size _).trans (hb2.mono (HB.out.alloc HB.out.size _).size)))
        clear hb2
        (try dsimp only at hf)
        rw [hf]
        go_wp2
        go_roundw
        case rel => exact ⟨k + 1, by omega, by go_num, HST.out hf, HB2.out⟩
        case measure => simp [intOf]; omega
      · have hf := Bool.eq_false_iff.2 hf
        go_wp2_with fail
        refine (branch1_any _ x).mono ?_
        rintro e w2 ⟨rfl, hb2⟩
        have HB2 : Hid (Below w.heap.size w w2) := hide (((HB.out.alloc HB.out.size _).trans (hb2.mono (HB.out.alloc HB.out.size _).size)))
        clear hb2
        (try dsimp only at hf)
        rw [hf]
        go_wp2
        go_ret
        exact ⟨ret_bool (HNO.out hf), HB2.out⟩
    · obtain rfl : k = xs.length := by omega
      have ht := HA.out
      rw [List.take_length] at ht
      go_wp2
      go_ret
      exact ⟨ret_bool ht.symm, HB.out⟩

set_option maxRecDepth 20000 in
theorem sumLinks_any (w : World) (v : Value) (xs : List (Link)) (hv : Ls w.heap.size w 3 linkC v xs) :
    Calls Tryz.prog 138 #[v, .func (.func 139) #[] #[], .int .i64 4096] w fun e w' => e = .returned (.bool (within (xs.map (fun p => p.2.2)) 4096)) ∧ Below w.heap.size w w' := by
  obtain ⟨ao, cap, rfl, h1, h2, h4⟩ := hv
  unfold maxLen at h2
  go_enter Tryz.func138, Tryz.ntmps138
  go_wp2_with fail
  go_loopw [12, 2] (fun t r wr => ∃ (k : Nat) (m : Int), k ≤ xs.length ∧ t = .int .i64 k ∧ r = .int .i64 m ∧ 0 ≤ m ∧ m ≤ 4096 ∧ within (xs.map (fun p => p.2.2)) 4096 = within ((xs.drop k).map (fun p => p.2.2)) m ∧ Below w.heap.size w wr)
    (fun t _ _ => xs.length - (intOf t).toNat)
  case atStart => exact ⟨0, 4096, by omega, rfl, rfl, by omega, by omega, rfl, Below.refl _ _⟩
  case round =>
    obtain ⟨k, m, hk, rfl, rfl, hm0, hm1, hall, hb⟩ := hrel
    have HB := hide hb
    have HA := hide hall
    clear hb hall
    by_cases hlt : k < xs.length
    · obtain ⟨b, off, rfl, hbB, hc⟩ := h4 (by rintro rfl; simp at hlt)
      have hst : within ((xs.drop k).map (fun p => p.2.2)) m = (!(decide (((fun p => p.2.2)) xs[k] < 1 ∨ m < ((fun p => p.2.2)) xs[k])) && within ((xs.drop (k + 1)).map (fun p => p.2.2)) (m - ((fun p => p.2.2)) xs[k])) := by
        rw [List.drop_eq_getElem_cons hlt, List.map_cons]
        rfl
      have hcell : ∀ i u, (linkC xs[k])[i]? = some u → wr.cell? ⟨b, off + k * 3 + i, none⟩ = some u := fun i u hu => (HB.out.cell (p := ⟨b, off + k * 3 + i, none⟩) hbB).trans (hc k hlt i u hu)
      generalize xs[k] = x at *
      have c0 := hcell 0 _ rfl
      have c1 := hcell 1 _ rfl
      have c2 := hcell 2 _ rfl
      try simp only [Nat.add_zero] at c0
      obtain ⟨x1, x2, n⟩ := x
      dsimp only at hst c0 c1 c2
      have HST := hide hst
      clear hst hcell
      by_cases hf : n < 1
      · go_wp2_with fail
        refine (branch3_any _ (x1, x2, n)).mono ?_
        rintro e w2 ⟨rfl, hb2⟩
        have HB2 : Hid (Below w.heap.size w w2) := hide (((HB.out.alloc HB.out.size _).trans (hb2.mono (HB.out.alloc HB.out.size _).size)))
        clear hb2
        go_wp2
        go_ret
        refine ⟨ret_bool ?_, HB2.out⟩
        rw [HA.out, HST.out]
        simp [hf]
      · by_cases hg : m < n
        · go_wp2_with fail
          refine (branch3_any _ (x1, x2, n)).mono ?_
          rintro e w2 ⟨rfl, hb2⟩
          have HB2 : Hid (Below w.heap.size w w2) := hide (((HB.out.alloc HB.out.size _).trans (hb2.mono (HB.out.alloc HB.out.size _).size)))
          clear hb2
          go_wp2
          go_ret
          refine ⟨ret_bool ?_, HB2.out⟩
          rw [HA.out, HST.out]
          simp [hg]
        · go_wp2_with fail
          refine (branch3_any _ (x1, x2, n)).mono ?_
          rintro e w2 ⟨rfl, hb2⟩
          have HB2 : Hid (Below w.heap.size w w2) := hide (((HB.out.alloc HB.out.size _).trans (hb2.mono (HB.out.alloc HB.out.size _).size)))
          clear hb2
          go_wp2
          go_roundw
          case rel =>
            refine ⟨k + 1, m - n, by omega, by go_num, by go_num, by omega, by omega, ?_, HB2.out⟩
            rw [HA.out, HST.out]
            simp [hf, hg]
          case measure => simp [intOf]; omega
    · obtain rfl : k = xs.length := by omega
      have ht := HA.out
      rw [List.drop_length] at ht
      go_wp2
      go_ret
      exact ⟨ret_bool (by rw [ht]; rfl), HB.out⟩
end Go.Proofs.YtimbleaafoiidaaGreatDoor
