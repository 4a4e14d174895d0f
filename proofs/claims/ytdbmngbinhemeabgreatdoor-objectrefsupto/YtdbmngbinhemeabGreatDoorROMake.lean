/-
  What is written, told: its size, a piece, all of it, its object; writing begun. Conditions: the table holds its numbers; lengths within reach.
-/
import Derived.Test.YtdbmngbinhemeabGreatDoorROList
namespace Go.Proofs.YtdbmngbinhemeabGreatDoor
open Go.RowKit

theorem sl_own {w : World} {B : Nat} {v : Value} {l : Bs} (h : w.ownsRow B 5 1 v l.length (bc l)) : Sl w v l := sl_of_own h
theorem Wr.sl {B : Nat} {w : World} {g : Nat} {l : Bs} (h : Wr B w g l) : ∃ v, w.cell? ⟨g, 0, none⟩ = some v ∧ Sl w v l := by
  obtain ⟨hg, v, hh, hown⟩ := h
  exact ⟨v, by rw [cell_of_row w g 0 _ _ _ hh]; rfl, sl_of_own hown⟩
theorem size_any (w : World) (g : Nat) (v : Value) (l : Bs) (hc : w.cell? ⟨g, 0, none⟩ = some v) (hv : Sl w v l) :
    Calls Tryz.prog 70 #[.pointer (some ⟨g, 0, none⟩)] w fun e w' => e = .returned (.int .i64 (l.length : Int)) ∧ w' = w := by
  obtain ⟨ao, cap, rfl, h1, h2, h3, h4⟩ := hv
  clear h4 h3
  go_enter Tryz.func70, Tryz.ntmps70
  go_wp2
  go_ret
  exact ⟨rfl, rfl⟩
set_option maxRecDepth 20000 in
theorem piece_any (w : World) (g : Nat) (v : Value) (l : Bs) (r m : Nat) (hc : w.cell? ⟨g, 0, none⟩ = some v) (hv : Sl w v l) (hm : r + m ≤ l.length) (j : Int) (hj : j = ((r + m : Nat) : Int)) :
    Calls Tryz.prog 89 #[.pointer (some ⟨g, 0, none⟩), .int .i64 (r : Int), .int .i64 j] w fun e w' => e = .returned (.string (strB ((l.drop r).take m))) ∧ w' = w := by
  subst hj
  have h := hv
  obtain ⟨ao, cap, rfl, h1, h2, h3, h4⟩ := hv
  clear h4 h3
  unfold maxLen at h2
  rcases Nat.lt_or_ge r cap with hrc | hrc
  · have hs := Sl.cutAt hm hrc h
    clear h
    go_enter Tryz.func89, Tryz.ntmps89
    go_wp2_with (refine wpList_str _ rfl (.tmp 13) rfl hs (by first | rfl | (simp [go_sem]; done)) ?_)
    go_ret
    exact ⟨rfl, rfl⟩
  · obtain rfl : cap = r := by omega
    have hs := Sl.cutEnd hm h
    clear h
    go_enter Tryz.func89, Tryz.ntmps89
    go_wp2_with (refine wpList_str _ rfl (.tmp 13) rfl hs (by first | rfl | (simp [go_sem]; done)) ?_)
    go_ret
    exact ⟨rfl, rfl⟩
theorem text_any (w : World) (g : Nat) (v : Value) (l : Bs) (hc : w.cell? ⟨g, 0, none⟩ = some v) (hv : Sl w v l) :
    Calls Tryz.prog 54 #[.pointer (some ⟨g, 0, none⟩)] w fun e w' => e = .returned (.string (strB l)) ∧ w' = w := by
  have hp := piece_any w g v l 0 l.length hc hv (by omega) (l.length : Int) (by simp)
  rw [List.drop_zero, List.take_length] at hp
  go_enter Tryz.func54, Tryz.ntmps54
  go_wp2_with fail
  refine (size_any w g v l hc hv).mono ?_
  rintro e w1 ⟨rfl, rfl⟩
  go_wp2_with fail
  refine hp.mono ?_
  rintro e w2 ⟨rfl, rfl⟩
  go_wp2
  go_ret
  exact ⟨rfl, rfl⟩
theorem ps_one (w : World) (l : Bs) (n : Nat) (hn : n = w.heap.size) : Ps (w.alloc (.cells #[.string (strB l)] 9)) (.slice (some ⟨n, 0, none⟩) 1 1) [l] := by
  subst hn
  refine ⟨_, 1, rfl, Nat.le_refl _, by unfold maxLen; omega, fun _ => ⟨w.heap.size, 0, rfl, by simp, fun j hj => ?_⟩⟩
  obtain rfl : j = 0 := by simpa using hj
  rw [cell_of_row _ _ _ _ _ _ (heap_last w _ _ rfl)]
  rfl
theorem heap_set2 {w : World} {g : Nat} {v0 v1 u0 u1 : Value} {t : TypeId} (h : w.heap[g]? = some (.cells #[v0, v1] t)) : ((w.setCell ⟨g, 0, none⟩ u0).setCell ⟨g, 1, none⟩ u1).heap[g]? = some (.cells #[u0, u1] t) := by
  rw [heap_setCell _ _ _ _ _ _ _ (heap_setCell _ _ _ _ _ _ _ h)]
  simp
theorem Tryz.infoObj : (Tryz.prog.info? 30).map (·.size) = some 2 := by kernel_rfl
/-- An object as the program has it. -/
def objV (l : Bs) : Value := .agg #[.string (strB (sha l)), .string (strB l)]
set_option maxRecDepth 20000 in
theorem object_any (w : World) (g : Nat) (v : Value) (l : Bs) (hc : w.cell? ⟨g, 0, none⟩ = some v) (hv : Sl w v l) (hg : g < w.heap.size) (hT : TabW w) (hsz : l.length ≤ 140737488355328) :
    Calls Tryz.prog 22 #[.pointer (some ⟨g, 0, none⟩)] w fun e w' => e = .returned (objV l) ∧ Below w.heap.size w w' := by
  have h0 := hT.1
  unfold objV
  have hsum : ∀ W u, Ps W u [l] → TabW W → Calls Tryz.prog 55 #[u] W fun e w' => e = .returned (.string (strB (sha l))) ∧ Below W.heap.size W w' := fun W u h1 h2 => by
    have := sum_any W u [l] h1 h2 (by simpa using hsz)
    rw [show ([l] : List Bs).flatten = l from by simp] at this
    exact this
  generalize sha l = S at *
  have hb0 : Below w.heap.size w (w.alloc (.cells #[.string ⟨#[]⟩, .string ⟨#[]⟩] 30)) := (Below.refl _ _).alloc (Nat.le_refl _) _
  have hc0 := (hb0.cell (p := ⟨g, 0, none⟩) hg).trans hc
  have hv0 := hv.keep hb0
  have hx0 := heap_last w (.cells #[.string ⟨#[]⟩, .string ⟨#[]⟩] 30) _ rfl
  have hps := ps_one (w.alloc (.cells #[.string ⟨#[]⟩, .string ⟨#[]⟩] 30)) l (w.heap.size + 1) (by simp)
  have hb1 := hb0.alloc hb0.size (.cells #[.string (strB l)] 9)
  have hx1 := (heap_past (w.alloc (.cells #[.string ⟨#[]⟩, .string ⟨#[]⟩] 30)) (.cells #[.string (strB l)] 9) w.heap.size (by simp)).trans hx0
  have hTs := hT.keep hb1 h0
  have HPS := hide hps
  have HT := hide hTs
  have HX := hide hx1
  have HB := hide hb1
  clear hps hTs hx1 hb1 hv hc hT
  go_enter Tryz.func22, Tryz.ntmps22
  go_wp2_with fail
  refine (text_any _ g v l hc0 hv0).mono ?_
  rintro e w1 ⟨rfl, rfl⟩
  go_wp2_with fail
  refine (hsum _ _ HPS.out HT.out).mono ?_
  rintro e w2 ⟨rfl, hb2⟩
  have hx2 := (hb2.block _ (lt_of_heap HX.out)).trans HX.out
  have hbw := HB.out.trans (hb2.mono HB.out.size)
  have c0 := cell_of_row w2 w.heap.size 0 _ _ _ hx2
  have c1 := cell_of_row w2 w.heap.size 1 _ _ _ hx2
  simp only [List.getElem?_toArray, List.getElem?_cons_zero, List.getElem?_cons_succ] at c0 c1
  have f0 := frozen0 (j := 0) hx2
  have f1 := frozen0 (j := 1) hx2
  go_wp2
  refine bodyPost_ret (v := .agg #[.string (strB S), .string (strB l)]) (results_cell_row rfl _ _ _ _ _ _ _ rfl (heap_set2 hx2) Tryz.underlying30 rfl Tryz.infoObj) rfl ⟨rfl, ?_⟩
  exact (hbw.setCell (p := ⟨w.heap.size, 0, none⟩) (Nat.le_refl _) _).setCell (p := ⟨w.heap.size, 1, none⟩) (Nat.le_refl _) _

set_option maxRecDepth 20000 in
theorem write_any (w : World) (v : Value) (ps : List Bs) (hv : Ls w.heap.size w 1 idC v ps) (hsz : ps.flatten.length ≤ 140737488355328) :
    Calls Tryz.prog 21 #[v] w fun e w' => ∃ g, e = .returned (.pointer (some ⟨g, 0, none⟩)) ∧ Wr w.heap.size w' g ps.flatten ∧ Below w.heap.size w w' := by
  obtain ⟨ao, cap, rfl, h1, h2, h4⟩ := hv
  unfold maxLen at h2
  have hW0 : Wr w.heap.size (w.alloc (.cells #[.slice none 0 0] 98)) w.heap.size [] := ⟨Nat.le_refl _, _, heap_last w _ _ rfl, World.ownsRow_nil _ _ _ _⟩
  have hb0 : Below w.heap.size w (w.alloc (.cells #[.slice none 0 0] 98)) := (Below.refl _ _).alloc (Nat.le_refl _) _
  have HW0 := hide hW0
  have HB0 := hide hb0
  clear hW0 hb0
  go_enter Tryz.func21, Tryz.ntmps21
  go_wp2_with fail
  go_loopw [10] (fun t wr => ∃ k : Nat, k ≤ ps.length ∧ t = .int .i64 k ∧ Wr w.heap.size wr w.heap.size (ps.take k).flatten ∧ Below w.heap.size w wr)
    (fun t _ => ps.length - (intOf t).toNat)
  case atStart => exact ⟨0, by omega, rfl, HW0.out, HB0.out⟩
  case round =>
    clear HW0 HB0
    obtain ⟨k, hk, rfl, hWr, hb⟩ := hrel
    have HW := hide hWr
    have HB := hide hb
    clear hWr hb
    by_cases hlt : k < ps.length
    · obtain ⟨b, off, rfl, hbB, hc⟩ := h4 (by rintro rfl; simp at hlt)
      have c0 := (HB.out.cell (p := ⟨b, off + k * 1 + 0, none⟩) hbB).trans (hc k hlt 0 _ rfl)
      simp only [Nat.mul_one, Nat.add_zero] at c0
      have hst : (ps.take (k + 1)).flatten = (ps.take k).flatten ++ ps[k] := by
        rw [List.take_succ_eq_append_getElem hlt, List.flatten_append]; simp
      have hle : (ps.take (k + 1)).flatten.length ≤ ps.flatten.length := by
        have : ps.flatten = (ps.take (k + 1)).flatten ++ (ps.drop (k + 1)).flatten := by rw [← List.flatten_append, List.take_append_drop]
        rw [this, List.length_append]; omega
      rw [hst, List.length_append] at hle
      have HST := hide hst
      generalize ps[k] = x at *
      go_wp2_with fail
      refine (layBare_any w.heap.size _ w.heap.size _ x HW.out (by omega)).mono ?_
      rintro e w2 ⟨rfl, hW2, hb2, -⟩
      have HW2 := hide hW2
      have HB2 := hide (HB.out.trans hb2)
      clear hW2 hb2
      go_wp2
      go_roundw
      case rel => exact ⟨k + 1, by omega, by go_num, by rw [HST.out]; exact HW2.out, HB2.out⟩
      case measure => simp [intOf]; omega
    · obtain rfl : k = ps.length := by omega
      go_wp2
      go_ret
      refine ⟨_, rfl, ?_, HB.out⟩
      have := HW.out
      rw [List.take_length] at this
      exact this
end Go.Proofs.YtdbmngbinhemeabGreatDoor
