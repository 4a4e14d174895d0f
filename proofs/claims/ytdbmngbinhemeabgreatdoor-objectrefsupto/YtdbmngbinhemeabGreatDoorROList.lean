/-
  Lists in memory, and laying them. Conditions: lengths within reach; lists lie below the writer's base.
-/
import Derived.Test.YtdbmngbinhemeabGreatDoorROWrite
namespace Go.Proofs.YtdbmngbinhemeabGreatDoor
open Go.RowKit

def partC (p : Part) : List Value := [.string (strB p.1), .int .i64 p.2]
def pairC (p : Pair) : List Value := [.string (strB p.1), .string (strB p.2)]
def linkC (p : Link) : List Value := [.string (strB p.1), .string (strB p.2.1), .int .i64 p.2.2]
def idC (s : Bs) : List Value := [.string (strB s)]
/-- The slice v, which lies below B, has these, each of k cells. -/
def Ls {α : Type} (B : Nat) (w : World) (k : Nat) (cs : α → List Value) (v : Value) (xs : List α) : Prop :=
  ∃ ao cap, v = .slice ao xs.length cap ∧ xs.length ≤ cap ∧ cap ≤ maxLen ∧ (xs ≠ [] → ∃ b off, ao = some ⟨b, off, none⟩ ∧ b < B ∧ ∀ j (h : j < xs.length) i u, (cs (xs[j]'h))[i]? = some u → w.cell? ⟨b, off + j * k + i, none⟩ = some u)
theorem Ls.keep {α : Type} {B : Nat} {w w' : World} {k : Nat} {cs : α → List Value} {v : Value} {xs : List α} (h : Ls B w k cs v xs) (hb : Below B w w') : Ls B w' k cs v xs := by
  obtain ⟨ao, cap, hv, h1, h2, h4⟩ := h
  refine ⟨ao, cap, hv, h1, h2, fun hl => ?_⟩
  obtain ⟨b, off, ha, hlt, hc⟩ := h4 hl
  exact ⟨b, off, ha, hlt, fun j hj i u hu => (hb.cell (p := ⟨b, off + j * k + i, none⟩) hlt).trans (hc j hj i u hu)⟩
theorem Ls.up {α : Type} {B B' : Nat} {w : World} {k : Nat} {cs : α → List Value} {v : Value} {xs : List α} (h : Ls B w k cs v xs) (hb : B ≤ B') : Ls B' w k cs v xs := by
  obtain ⟨ao, cap, hv, h1, h2, h4⟩ := h
  refine ⟨ao, cap, hv, h1, h2, fun hl => ?_⟩
  obtain ⟨b, off, ha, hlt, hc⟩ := h4 hl
  exact ⟨b, off, ha, Nat.lt_of_lt_of_le hlt hb, hc⟩
theorem Ls.nil {α : Type} (B : Nat) (w : World) (k : Nat) (cs : α → List Value) : Ls B w k cs (.slice none 0 0) [] := ⟨none, 0, rfl, by simp, by simp, fun h => absurd rfl h⟩
theorem Wr.alloc {B : Nat} {w : World} {g : Nat} {l : Bs} (h : Wr B w g l) (o : Obj) : Wr B (w.alloc o) g l := by
  obtain ⟨hg, v, hh, hown⟩ := h
  exact ⟨hg, v, (heap_past w o g (lt_of_heap hh)).trans hh, hown.alloc o⟩
theorem Wr.drew {B : Nat} {w : World} {g : Nat} {l : Bs} (h : Wr B w g l) : Wr B w.drew g l := h
theorem Wr.base {B : Nat} {w : World} {g : Nat} {l : Bs} (h : Wr B w g l) : B ≤ w.heap.size := Nat.le_of_lt (Nat.lt_of_le_of_lt h.1 h.lt)
theorem Kt.cell {ts : List TypeId} {w w' : World} {k i : Nat} {cs : Array Value} {t : TypeId} {fr : Nat × Nat} {u : Value} (h : Kt ts w w') (hk : w.heap[k]? = some (Obj.cells cs t fr)) (ht : t ∉ ts) (hu : cs[i]? = some u) : w'.cell? ⟨k, i, none⟩ = some u := by
  rw [cell_of_row w' k i _ _ _ (h.2 k cs t fr hk ht), hu]
theorem Kt.alloc {ts : List TypeId} (w : World) (o : Obj) : Kt ts w (w.alloc o) := Kt.below ((Below.refl _ _).alloc (Nat.le_refl _) _)
theorem flat_step {α : Type} (enc : α → Bs) (xs : List α) (k : Nat) (hk : k < xs.length) : (xs.take (k + 1)).flatMap enc = (xs.take k).flatMap enc ++ enc xs[k] := by
  rw [List.take_succ_eq_append_getElem hk, List.flatMap_append]
  simp
theorem flat_le {α : Type} (enc : α → Bs) (xs : List α) (k : Nat) : ((xs.take k).flatMap enc).length ≤ (xs.flatMap enc).length := by
  have e : xs.flatMap enc = (xs.take k).flatMap enc ++ (xs.drop k).flatMap enc := by rw [← List.flatMap_append, List.take_append_drop]
  rw [e, List.length_append]
  omega
theorem partB_length (p : Part) : (partB p).length = p.1.length + (num p.2).length := by simp [partB]
theorem pairB_length (p : Pair) : (pairB p).length = (txt p.1).length + (txt p.2).length := by simp [pairB]
theorem linkB_length (p : Link) : (linkB p).length = (txt p.1).length + (p.2.1.length + (num p.2.2).length) := by simp [linkB, partB]

set_option maxRecDepth 20000 in
theorem layPair_any (B : Nat) (w : World) (g : Nat) (l : Bs) (p : Pair) (hW : Wr B w g l)  (hsz : l.length + (pairB p).length + 10 ≤ 140737488355328) :
    Calls Tryz.prog 26 #[.pointer (some ⟨g, 0, none⟩), .agg #[.string (strB p.1), .string (strB p.2)]] w fun e w' => e = .returned (.tuple #[]) ∧ Wr B w' g (l ++ pairB p) ∧ Below B w w' ∧ Kt wts w w' := by
  have hBw := hW.base
  have hb0 : Below B w (w.alloc (.cells #[.string (strB p.1), .string (strB p.2)] 37)) := (Below.refl _ _).alloc hBw _
  have hk0 : Kt wts w (w.alloc (.cells #[.string (strB p.1), .string (strB p.2)] 37)) := Kt.alloc w _
  have hx0 := heap_last w (.cells #[.string (strB p.1), .string (strB p.2)] 37) _ rfl
  have hW0 := hW.alloc (.cells #[.string (strB p.1), .string (strB p.2)] 37)
  have hl := pairB_length p
  have HW := hide hW0
  clear hW hW0
  go_enter Tryz.func26, Tryz.ntmps26
  go_wp2_with fail
  refine (layText_any B _ g (l) p.1 HW.out (by (try simp only [List.length_append]); omega)).mono ?_
  rintro e w1 ⟨rfl, hW1, hb1, hk1⟩
  have hkA1 := hk0.trans hk1
  have hbA1 := hb0.trans hb1
  have hx1 := hk1.2 _ _ _ _ hx0 (by decide)
  have c10 := cell_of_row w1 w.heap.size 0 _ _ _ hx1
  simp only [List.getElem?_toArray, List.getElem?_cons_zero] at c10
  have c11 := cell_of_row w1 w.heap.size 1 _ _ _ hx1
  simp only [List.getElem?_toArray, List.getElem?_cons_zero, List.getElem?_cons_succ] at c11
  have HW1 := hide hW1
  have HX1 := hide hx1
  clear hW1
  go_wp2_with fail
  refine (layText_any B _ g (l ++ txt p.1) p.2 HW1.out (by (try simp only [List.length_append]); omega)).mono ?_
  rintro e w2 ⟨rfl, hW2, hb2, hk2⟩
  have hkA2 := hkA1.trans hk2
  have hbA2 := hbA1.trans hb2
  have hx2 := hk2.2 _ _ _ _ hx1 (by decide)
  have c20 := cell_of_row w2 w.heap.size 0 _ _ _ hx2
  simp only [List.getElem?_toArray, List.getElem?_cons_zero] at c20
  have c21 := cell_of_row w2 w.heap.size 1 _ _ _ hx2
  simp only [List.getElem?_toArray, List.getElem?_cons_zero, List.getElem?_cons_succ] at c21
  have HW2 := hide hW2
  have HX2 := hide hx2
  clear hW2
  go_wp2
  go_end0
  refine ⟨rfl, ?_, hbA2, hkA2⟩
  have := HW2.out
  simp only [List.append_assoc] at this
  exact this

set_option maxRecDepth 20000 in
theorem layPairs_any (B : Nat) (w : World) (g : Nat) (l : Bs) (v : Value) (xs : List (Pair)) (hW : Wr B w g l) (hv : Ls B w 2 pairC v xs)  (hlen : xs.length ≤ 9223372036854775807) (hsz : l.length + (listB pairB xs).length + 30 ≤ 140737488355328) :
    Calls Tryz.prog 25 #[.pointer (some ⟨g, 0, none⟩), v, .func (.func 26) #[.pointer (some ⟨g, 0, none⟩)] #[]] w fun e w' => e = .returned (.tuple #[]) ∧ Wr B w' g (l ++ listB pairB xs) ∧ Below B w w' ∧ Kt wts w w' := by
  have hBw := hW.base
  have HV := hide hv
  obtain ⟨ao, cap, rfl, h1, h2, h4⟩ := hv
  have hll : (listB pairB xs).length = (num xs.length).length + (xs.flatMap pairB).length := by simp [listB]
  have hnl := num_length xs.length
  unfold maxLen at h2
  go_enter Tryz.func25, Tryz.ntmps25
  go_wp2_with fail
  refine (layNumber_any B _ g l xs.length hW ⟨by omega, by omega⟩ (by omega)).mono ?_
  rintro e w1 ⟨rfl, hW1, hb1, hk1⟩
  clear hW
  go_wp2_with fail
  go_loopw [14] (fun t wr => ∃ k : Nat, k ≤ xs.length ∧ t = .int .i64 k ∧ Wr B wr g ((l ++ num xs.length) ++ (xs.take k).flatMap pairB) ∧ Below B w wr ∧ Kt wts w wr)
    (fun t _ => xs.length - (intOf t).toNat)
  case atStart => exact ⟨0, by omega, rfl, by simpa using hW1, hb1, hk1⟩
  case round =>
    clear hW1 hb1 hk1
    obtain ⟨k, hk, rfl, hWr, hb, hkt⟩ := hrel
    have hBr := hWr.base
    have HW := hide hWr
    have HB := hide hb
    have HK := hide hkt
    clear hWr hb hkt
    by_cases hlt : k < xs.length
    · obtain ⟨b, off, rfl, hbB, hc⟩ := h4 (by rintro rfl; simp at hlt)
      have hcell : ∀ i u, (pairC xs[k])[i]? = some u → wr.cell? ⟨b, off + k * 2 + i, none⟩ = some u := fun i u hu => (HB.out.cell (p := ⟨b, off + k * 2 + i, none⟩) hbB).trans (hc k hlt i u hu)
      have hst := flat_step pairB xs k hlt
      have hle := flat_le pairB xs (k + 1)
      rw [hst, List.length_append] at hle
      have HST := hide hst
      generalize hx : xs[k] = x at *
      have c0 := hcell 0 _ rfl
      have c1 := hcell 1 _ rfl
      try simp only [Nat.add_zero] at c0
      go_wp2_with fail
      refine (layPair_any B _ g _ x (HW.out.alloc _)  (by simp only [List.length_append]; omega)).mono ?_
      rintro e w2 ⟨rfl, hW2, hb2, hk2⟩
      have HW2 := hide hW2
      have HB2 : Hid (Below B w w2) := hide ((HB.out.alloc hBr _).trans hb2)
      have HK2 : Hid (Kt wts w w2) := hide ((HK.out.trans (Kt.alloc wr _)).trans hk2)
      clear hW2 hb2 hk2
      go_wp2
      go_roundw
      case rel => exact ⟨k + 1, by omega, by go_num, by rw [HST.out, ← List.append_assoc]; exact HW2.out, HB2.out, HK2.out⟩
      case measure => simp [intOf]; omega
    · obtain rfl : k = xs.length := by omega
      go_wp2
      go_end0
      refine ⟨rfl, ?_, HB.out, HK.out⟩
      have := HW.out
      rw [List.take_length, List.append_assoc] at this
      exact this

end Go.Proofs.YtdbmngbinhemeabGreatDoor
