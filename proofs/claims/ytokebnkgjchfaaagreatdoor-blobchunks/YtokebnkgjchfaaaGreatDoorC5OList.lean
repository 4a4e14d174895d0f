/-
  Texts joined: OList, OMake, ORight.
-/
import Derived.Test.YtokebnkgjchfaaaGreatDoorC4HAdd
/-
  Lists in memory, and laying them. Conditions: lengths within reach; lists lie below the writer's base.
-/
namespace Go.Proofs.YtokebnkgjchfaaaGreatDoor
open Go.RowKit

def partC (p : Part) : List Value := [.string (strB p.1), .int .i64 p.2]
def pairC (p : Pair) : List Value := [.string (strB p.1), .string (strB p.2)]
def idC (s : Bs) : List Value := [.string (strB s)]
/-- The slice v, which lies below B, has these, each of k cells. -/
def Ls {α : Type} (B : Nat) (w : World) (k : Nat) (cs : α → List Value) (v : Value) (xs : List α) : Prop :=
  ∃ ao cap, v = .slice ao xs.length cap ∧ xs.length ≤ cap ∧ cap ≤ maxLen ∧ (xs ≠ [] → ∃ b off, ao = some ⟨b, off, none⟩ ∧ b < B ∧ ∀ j (h : j < xs.length) i u, (cs (xs[j]'h))[i]? = some u → w.cell? ⟨b, off + j * k + i, none⟩ = some u)
theorem Ls.keep {α : Type} {B : Nat} {w w' : World} {k : Nat} {cs : α → List Value} {v : Value} {xs : List α} (h : Ls B w k cs v xs) (hb : Below B w w') : Ls B w' k cs v xs := by
  obtain ⟨ao, cap, hv, h1, h2, h4⟩ := h
  refine ⟨ao, cap, hv, h1, h2, fun hl => ?_⟩
  obtain ⟨b, off, ha, hlt, hc⟩ := h4 hl
  exact ⟨b, off, ha, hlt, fun j hj i u hu => (hb.cell (p := ⟨b, off + j * k + i, none⟩) hlt).trans (hc j hj i u hu)⟩
theorem Ls.up {α : Type} {B B' : Nat} {w : World} {k : Nat} {cs : α → List Value} {v : Value} {xs : List α} (h : Ls B w k cs v xs) (hb : B ≤ B') : Ls B' w k cs v xs := by
  obtain ⟨ao, cap, hv, h1, h2, h4⟩ := h
  refine ⟨ao, cap, hv, h1, h2, fun hl => ?_⟩
  obtain ⟨b, off, ha, hlt, hc⟩ := h4 hl
  exact ⟨b, off, ha, Nat.lt_of_lt_of_le hlt hb, hc⟩
theorem Ls.nil {α : Type} (B : Nat) (w : World) (k : Nat) (cs : α → List Value) : Ls B w k cs (.slice none 0 0) [] := ⟨none, 0, rfl, by simp, by simp, fun h => absurd rfl h⟩
theorem Wr.alloc {B : Nat} {w : World} {g : Nat} {l : Bs} (h : Wr B w g l) (o : Obj) : Wr B (w.alloc o) g l := by
  obtain ⟨hg, v, hh, hown⟩ := h
  exact ⟨hg, v, (heap_past w o g (lt_of_heap hh)).trans hh, hown.alloc o⟩
theorem Wr.drew {B : Nat} {w : World} {g : Nat} {l : Bs} (h : Wr B w g l) : Wr B w.drew g l := h
theorem Wr.base {B : Nat} {w : World} {g : Nat} {l : Bs} (h : Wr B w g l) : B ≤ w.heap.size := Nat.le_of_lt (Nat.lt_of_le_of_lt h.1 h.lt)
theorem Kt.cell {ts : List TypeId} {w w' : World} {k i : Nat} {cs : Array Value} {t : TypeId} {fr : Nat × Nat} {u : Value} (h : Kt ts w w') (hk : w.heap[k]? = some (Obj.cells cs t fr)) (ht : t ∉ ts) (hu : cs[i]? = some u) : w'.cell? ⟨k, i, none⟩ = some u := by
  rw [cell_of_row w' k i _ _ _ (h.2 k cs t fr hk ht), hu]
theorem Kt.alloc {ts : List TypeId} (w : World) (o : Obj) : Kt ts w (w.alloc o) := Kt.below ((Below.refl _ _).alloc (Nat.le_refl _) _)
theorem flat_step {α : Type} (enc : α → Bs) (xs : List α) (k : Nat) (hk : k < xs.length) : (xs.take (k + 1)).flatMap enc = (xs.take k).flatMap enc ++ enc xs[k] := by
  rw [List.take_succ_eq_append_getElem hk, List.flatMap_append]
  simp
theorem flat_le {α : Type} (enc : α → Bs) (xs : List α) (k : Nat) : ((xs.take k).flatMap enc).length ≤ (xs.flatMap enc).length := by
  have e : xs.flatMap enc = (xs.take k).flatMap enc ++ (xs.drop k).flatMap enc := by rw [← List.flatMap_append, List.take_append_drop]
  rw [e, List.length_append]
  omega
theorem pairB_length (p : Pair) : (pairB p).length = (txt p.1).length + (txt p.2).length := by simp [pairB]
end Go.Proofs.YtokebnkgjchfaaaGreatDoor

/-
  What is written, told: its size, a piece, all of it, its object; writing begun. Conditions: the table holds its numbers; lengths within reach.
-/
namespace Go.Proofs.YtokebnkgjchfaaaGreatDoor
open Go.RowKit

theorem Wr.sl {B : Nat} {w : World} {g : Nat} {l : Bs} (h : Wr B w g l) : ∃ v, w.cell? ⟨g, 0, none⟩ = some v ∧ Sl w v l := by
  obtain ⟨hg, v, hh, hown⟩ := h
  exact ⟨v, by rw [cell_of_row w g 0 _ _ _ hh]; rfl, sl_of_own hown⟩
theorem size_any (w : World) (g : Nat) (v : Value) (l : Bs) (hc : w.cell? ⟨g, 0, none⟩ = some v) (hv : Sl w v l) :
    Calls Tryz.prog 110 #[.pointer (some ⟨g, 0, none⟩)] w fun e w' => e = .returned (.int .i64 (l.length : Int)) ∧ w' = w := by
  obtain ⟨ao, cap, rfl, h1, h2, h3, h4⟩ := hv
  clear h4 h3
  go_enter Tryz.func110, Tryz.ntmps110
  go_wp2
  go_ret
  exact ⟨rfl, rfl⟩
set_option maxRecDepth 20000 in
theorem piece_any (w : World) (g : Nat) (v : Value) (l : Bs) (r m : Nat) (hc : w.cell? ⟨g, 0, none⟩ = some v) (hv : Sl w v l) (hm : r + m ≤ l.length) (j : Int) (hj : j = ((r + m : Nat) : Int)) :
    Calls Tryz.prog 109 #[.pointer (some ⟨g, 0, none⟩), .int .i64 (r : Int), .int .i64 j] w fun e w' => e = .returned (.string (strB ((l.drop r).take m))) ∧ w' = w := by
  subst hj
  have h := hv
  obtain ⟨ao, cap, rfl, h1, h2, h3, h4⟩ := hv
  clear h4 h3
  unfold maxLen at h2
  rcases Nat.lt_or_ge r cap with hrc | hrc
  · have hs := Sl.cutAt hm hrc h
    clear h
    go_enter Tryz.func109, Tryz.ntmps109
    go_wp2_with (refine wpList_str _ rfl (.tmp 13) rfl hs (by first | rfl | (simp [go_sem]; done)) ?_)
    go_ret
    exact ⟨rfl, rfl⟩
  · obtain rfl : cap = r := by omega
    have hs := Sl.cutEnd hm h
    clear h
    go_enter Tryz.func109, Tryz.ntmps109
    go_wp2_with (refine wpList_str _ rfl (.tmp 13) rfl hs (by first | rfl | (simp [go_sem]; done)) ?_)
    go_ret
    exact ⟨rfl, rfl⟩
theorem text_any (w : World) (g : Nat) (v : Value) (l : Bs) (hc : w.cell? ⟨g, 0, none⟩ = some v) (hv : Sl w v l) :
    Calls Tryz.prog 92 #[.pointer (some ⟨g, 0, none⟩)] w fun e w' => e = .returned (.string (strB l)) ∧ w' = w := by
  have hp := piece_any w g v l 0 l.length hc hv (by omega) (l.length : Int) (by simp)
  rw [List.drop_zero, List.take_length] at hp
  go_enter Tryz.func92, Tryz.ntmps92
  go_wp2_with fail
  refine (size_any w g v l hc hv).mono ?_
  rintro e w1 ⟨rfl, rfl⟩
  go_wp2_with fail
  refine hp.mono ?_
  rintro e w2 ⟨rfl, rfl⟩
  go_wp2
  go_ret
  exact ⟨rfl, rfl⟩
theorem ps_one (w : World) (l : Bs) (n : Nat) (hn : n = w.heap.size) : Ps (w.alloc (.cells #[.string (strB l)] 9)) (.slice (some ⟨n, 0, none⟩) 1 1) [l] := by
  subst hn
  refine ⟨_, 1, rfl, Nat.le_refl _, by unfold maxLen; omega, fun _ => ⟨w.heap.size, 0, rfl, by simp, fun j hj => ?_⟩⟩
  obtain rfl : j = 0 := by simpa using hj
  rw [cell_of_row _ _ _ _ _ _ (heap_last w _ _ rfl)]
  rfl
theorem heap_set2 {w : World} {g : Nat} {v0 v1 u0 u1 : Value} {t : TypeId} (h : w.heap[g]? = some (.cells #[v0, v1] t)) : ((w.setCell ⟨g, 0, none⟩ u0).setCell ⟨g, 1, none⟩ u1).heap[g]? = some (.cells #[u0, u1] t) := by
  rw [heap_setCell _ _ _ _ _ _ _ (heap_setCell _ _ _ _ _ _ _ h)]
  simp
theorem Tryz.infoObj : (Tryz.prog.info? 57).map (·.size) = some 2 := by kernel_rfl
/-- An object as the program has it. -/
def objV (l : Bs) : Value := .agg #[.string (strB (sha l)), .string (strB l)]
set_option maxRecDepth 20000 in
theorem object_any (w : World) (g : Nat) (v : Value) (l : Bs) (hc : w.cell? ⟨g, 0, none⟩ = some v) (hv : Sl w v l) (hg : g < w.heap.size) (hT : TabW w) (hsz : l.length ≤ 140737488355328) :
    Calls Tryz.prog 75 #[.pointer (some ⟨g, 0, none⟩)] w fun e w' => e = .returned (objV l) ∧ Below w.heap.size w w' := by
  have h0 := hT.1
  unfold objV
  have hsum : ∀ W u, Ps W u [l] → TabW W → Calls Tryz.prog 93 #[u] W fun e w' => e = .returned (.string (strB (sha l))) ∧ Below W.heap.size W w' := fun W u h1 h2 => by
    have := sum_any W u [l] h1 h2 (by simpa using hsz)
    rw [show ([l] : List Bs).flatten = l from by simp] at this
    exact this
  generalize sha l = S at *
  have hb0 : Below w.heap.size w (w.alloc (.cells #[.string ⟨#[]⟩, .string ⟨#[]⟩] 57)) := (Below.refl _ _).alloc (Nat.le_refl _) _
  have hc0 := (hb0.cell (p := ⟨g, 0, none⟩) hg).trans hc
  have hv0 := hv.keep hb0
  have hx0 := heap_last w (.cells #[.string ⟨#[]⟩, .string ⟨#[]⟩] 57) _ rfl
  have hps := ps_one (w.alloc (.cells #[.string ⟨#[]⟩, .string ⟨#[]⟩] 57)) l (w.heap.size + 1) (by simp)
  have hb1 := hb0.alloc hb0.size (.cells #[.string (strB l)] 9)
  have hx1 := (heap_past (w.alloc (.cells #[.string ⟨#[]⟩, .string ⟨#[]⟩] 57)) (.cells #[.string (strB l)] 9) w.heap.size (by simp)).trans hx0
  have hTs := hT.keep hb1 h0
  have HPS := hide hps
  have HT := hide hTs
  have HX := hide hx1
  have HB := hide hb1
  clear hps hTs hx1 hb1 hv hc hT
  go_enter Tryz.func75, Tryz.ntmps75
  go_wp2_with fail
  refine (text_any _ g v l hc0 hv0).mono ?_
  rintro e w1 ⟨rfl, rfl⟩
  go_wp2_with fail
  refine (hsum _ _ HPS.out HT.out).mono ?_
  rintro e w2 ⟨rfl, hb2⟩
  have hx2 := (hb2.block _ (lt_of_heap HX.out)).trans HX.out
  have hbw := HB.out.trans (hb2.mono HB.out.size)
  have c0 := cell_of_row w2 w.heap.size 0 _ _ _ hx2
  have c1 := cell_of_row w2 w.heap.size 1 _ _ _ hx2
  simp only [List.getElem?_toArray, List.getElem?_cons_zero, List.getElem?_cons_succ] at c0 c1
  have f0 := frozen0 (j := 0) hx2
  have f1 := frozen0 (j := 1) hx2
  go_wp2
  refine bodyPost_ret (v := .agg #[.string (strB S), .string (strB l)]) (results_cell_row rfl _ _ _ _ _ _ _ rfl (heap_set2 hx2) Tryz.underlying57 rfl Tryz.infoObj) rfl ⟨rfl, ?_⟩
  exact (hbw.setCell (p := ⟨w.heap.size, 0, none⟩) (Nat.le_refl _) _).setCell (p := ⟨w.heap.size, 1, none⟩) (Nat.le_refl _) _

set_option maxRecDepth 20000 in
theorem write_any (w : World) (v : Value) (ps : List Bs) (hv : Ls w.heap.size w 1 idC v ps) (hsz : ps.flatten.length ≤ 140737488355328) :
    Calls Tryz.prog 71 #[v] w fun e w' => ∃ g, e = .returned (.pointer (some ⟨g, 0, none⟩)) ∧ Wr w.heap.size w' g ps.flatten ∧ Below w.heap.size w w' := by
  obtain ⟨ao, cap, rfl, h1, h2, h4⟩ := hv
  unfold maxLen at h2
  have hW0 : Wr w.heap.size (w.alloc (.cells #[.slice none 0 0] 144)) w.heap.size [] := ⟨Nat.le_refl _, _, heap_last w _ _ rfl, World.ownsRow_nil _ _ _ _⟩
  have hb0 : Below w.heap.size w (w.alloc (.cells #[.slice none 0 0] 144)) := (Below.refl _ _).alloc (Nat.le_refl _) _
  have HW0 := hide hW0
  have HB0 := hide hb0
  clear hW0 hb0
  go_enter Tryz.func71, Tryz.ntmps71
  go_wp2_with fail
  go_loopw [10] (fun t wr => ∃ k : Nat, k ≤ ps.length ∧ t = .int .i64 k ∧ Wr w.heap.size wr w.heap.size (ps.take k).flatten ∧ Below w.heap.size w wr)
    (fun t _ => ps.length - (intOf t).toNat)
  case atStart => exact ⟨0, by omega, rfl, HW0.out, HB0.out⟩
  case round =>
    clear HW0 HB0
    obtain ⟨k, hk, rfl, hWr, hb⟩ := hrel
    have HW := hide hWr
    have HB := hide hb
    clear hWr hb
    by_cases hlt : k < ps.length
    · obtain ⟨b, off, rfl, hbB, hc⟩ := h4 (by rintro rfl; simp at hlt)
      have c0 := (HB.out.cell (p := ⟨b, off + k * 1 + 0, none⟩) hbB).trans (hc k hlt 0 _ rfl)
      simp only [Nat.mul_one, Nat.add_zero] at c0
      have hst : (ps.take (k + 1)).flatten = (ps.take k).flatten ++ ps[k] := by
        rw [List.take_succ_eq_append_getElem hlt, List.flatten_append]; simp
      have hle : (ps.take (k + 1)).flatten.length ≤ ps.flatten.length := by
        have : ps.flatten = (ps.take (k + 1)).flatten ++ (ps.drop (k + 1)).flatten := by rw [← List.flatten_append, List.take_append_drop]
        rw [this, List.length_append]; omega
      rw [hst, List.length_append] at hle
      have HST := hide hst
      generalize ps[k] = x at *
      go_wp2_with fail
      refine (layBare_any w.heap.size _ w.heap.size _ x HW.out (by omega)).mono ?_
      rintro e w2 ⟨rfl, hW2, hb2, -⟩
      have HW2 := hide hW2
      have HB2 := hide (HB.out.trans hb2)
      clear hW2 hb2
      go_wp2
      go_roundw
      case rel => exact ⟨k + 1, by omega, by go_num, by rw [HST.out]; exact HW2.out, HB2.out⟩
      case measure => simp [intOf]; omega
    · obtain rfl : k = ps.length := by omega
      go_wp2
      go_ret
      refine ⟨_, rfl, ?_, HB.out⟩
      have := HW.out
      rw [List.take_length] at this
      exact this
end Go.Proofs.YtokebnkgjchfaaaGreatDoor

/-
  What is right: of each of a list, of sums. Conditions: lists lie there.
-/
namespace Go.Proofs.YtokebnkgjchfaaaGreatDoor
open Go.RowKit

theorem ret_bool {a b : Bool} (h : a = b) : Ending.returned (.bool a) = .returned (.bool b) := by rw [h]
theorem all_step {α : Type} (f : α → Bool) (xs : List α) (k : Nat) (hk : k < xs.length) (h : (xs.take k).all f = true) (hf : f xs[k] = true) : (xs.take (k + 1)).all f = true := by
  rw [List.take_succ_eq_append_getElem hk, List.all_append, h]
  simp [hf]
theorem all_false {α : Type} (f : α → Bool) (xs : List α) (k : Nat) (hk : k < xs.length) (hf : f xs[k] = false) : false = xs.all f := by
  refine Eq.symm (Bool.eq_false_iff.2 fun h => ?_)
  rw [List.all_eq_true] at h
  have := h _ (List.getElem_mem hk)
  rw [hf] at this
  cases this
theorem isId_any (w : World) (s : Bs) : Calls Tryz.prog 87 #[.string (strB s)] w fun e w' => e = .returned (.bool (isIdB s)) ∧ w' = w := by
  have hs := strB_size s
  go_enter Tryz.func87, Tryz.ntmps87
  go_wp2
  go_ret
  refine ⟨ret_bool ?_, rfl⟩
  unfold isIdB
  (try rw [Bool.eq_iff_iff]); simp <;> omega
theorem isLevel_any (w : World) (n : Int) : Calls Tryz.prog 84 #[.int .i64 n] w fun e w' => e = .returned (.bool (levelB n)) ∧ w' = w := by
  by_cases h : 1 ≤ n
  · go_enter Tryz.func84, Tryz.ntmps84
    go_wp2
    go_ret
    refine ⟨ret_bool ?_, rfl⟩
    unfold levelB
    rw [Bool.eq_iff_iff]; simp; omega
  · go_enter Tryz.func84, Tryz.ntmps84
    go_wp2
    go_ret
    refine ⟨ret_bool ?_, rfl⟩
    unfold levelB
    rw [Bool.eq_iff_iff]; simp; omega

theorem fan1_any (w : World) (x : Part) : Calls Tryz.prog 86 #[.agg #[.string (strB x.1), .int .i64 x.2]] w fun e w' => e = .returned (.bool (isIdB x.1)) ∧ Below w.heap.size w w' := by
  go_enter Tryz.func86, Tryz.ntmps86
  go_wp2_with fail
  refine (isId_any _ x.1).mono ?_
  rintro e w1 ⟨rfl, rfl⟩
  go_wp2
  go_ret
  exact ⟨rfl, (Below.refl _ _).alloc (Nat.le_refl _) _⟩
theorem fan2_any (w : World) (x : Part) : Calls Tryz.prog 89 #[.agg #[.string (strB x.1), .int .i64 x.2]] w fun e w' => e = .returned (.int .i64 x.2) ∧ Below w.heap.size w w' := by
  go_enter Tryz.func89, Tryz.ntmps89
  go_wp2
  go_ret
  exact ⟨rfl, (Below.refl _ _).alloc (Nat.le_refl _) _⟩
set_option maxRecDepth 20000 in
theorem eachParts_any (w : World) (v : Value) (xs : List (Part)) (hv : Ls w.heap.size w 2 partC v xs) :
    Calls Tryz.prog 85 #[v, .func (.func 86) #[] #[]] w fun e w' => e = .returned (.bool (xs.all (fun p => isIdB p.1))) ∧ Below w.heap.size w w' := by
  obtain ⟨ao, cap, rfl, h1, h2, h4⟩ := hv
  unfold maxLen at h2
  go_enter Tryz.func85, Tryz.ntmps85
  go_wp2_with fail
  go_loopw [9] (fun t wr => ∃ k : Nat, k ≤ xs.length ∧ t = .int .i64 k ∧ (xs.take k).all (fun p => isIdB p.1) = true ∧ Below w.heap.size w wr)
    (fun t _ => xs.length - (intOf t).toNat)
  case atStart => exact ⟨0, by omega, rfl, by simp, Below.refl _ _⟩
  case round =>
    obtain ⟨k, hk, rfl, hall, hb⟩ := hrel
    have HB := hide hb
    have HA := hide hall
    clear hb hall
    by_cases hlt : k < xs.length
    · obtain ⟨b, off, rfl, hbB, hc⟩ := h4 (by rintro rfl; simp at hlt)
      have hst := all_step (fun p => isIdB p.1) xs k hlt HA.out
      have hno := all_false (fun p => isIdB p.1) xs k hlt
      have hcell : ∀ i u, (partC xs[k])[i]? = some u → wr.cell? ⟨b, off + k * 2 + i, none⟩ = some u := fun i u hu => (HB.out.cell (p := ⟨b, off + k * 2 + i, none⟩) hbB).trans (hc k hlt i u hu)
      generalize xs[k] = x at *
      have c0 := hcell 0 _ rfl
      have c1 := hcell 1 _ rfl
      try simp only [Nat.add_zero] at c0
      have HST := hide hst
      have HNO := hide hno
      clear hst hno
      by_cases hf : ((fun p => isIdB p.1)) x = true
      · go_wp2_with fail
        refine (fan1_any _ x).mono ?_
        rintro e w2 ⟨rfl, hb2⟩
        have HB2 : Hid (Below w.heap.size w w2) := hide (((HB.out.alloc HB.out.size _).trans (hb2.mono (HB.out.alloc HB.out.size _).size)))
        clear hb2
        (try dsimp only at hf)
        rw [hf]
        go_wp2
        go_roundw
        case rel => exact ⟨k + 1, by omega, by go_num, HST.out hf, HB2.out⟩
        case measure => simp [intOf]; omega
      · have hf := Bool.eq_false_iff.2 hf
        go_wp2_with fail
        refine (fan1_any _ x).mono ?_
        rintro e w2 ⟨rfl, hb2⟩
        have HB2 : Hid (Below w.heap.size w w2) := hide (((HB.out.alloc HB.out.size _).trans (hb2.mono (HB.out.alloc HB.out.size _).size)))
        clear hb2
        (try dsimp only at hf)
        rw [hf]
        go_wp2
        go_ret
        exact ⟨ret_bool (HNO.out hf), HB2.out⟩
    · obtain rfl : k = xs.length := by omega
      have ht := HA.out
      rw [List.take_length] at ht
      go_wp2
      go_ret
      exact ⟨ret_bool ht.symm, HB.out⟩

set_option maxRecDepth 20000 in
theorem sumParts_any (w : World) (v : Value) (xs : List (Part)) (hv : Ls w.heap.size w 2 partC v xs) :
    Calls Tryz.prog 88 #[v, .func (.func 89) #[] #[], .int .i64 262144] w fun e w' => e = .returned (.bool (within (xs.map (fun p => p.2)) 262144)) ∧ Below w.heap.size w w' := by
  obtain ⟨ao, cap, rfl, h1, h2, h4⟩ := hv
  unfold maxLen at h2
  go_enter Tryz.func88, Tryz.ntmps88
  go_wp2_with fail
  go_loopw [12, 2] (fun t r wr => ∃ (k : Nat) (m : Int), k ≤ xs.length ∧ t = .int .i64 k ∧ r = .int .i64 m ∧ 0 ≤ m ∧ m ≤ 262144 ∧ within (xs.map (fun p => p.2)) 262144 = within ((xs.drop k).map (fun p => p.2)) m ∧ Below w.heap.size w wr)
    (fun t _ _ => xs.length - (intOf t).toNat)
  case atStart => exact ⟨0, 262144, by omega, rfl, rfl, by omega, by omega, rfl, Below.refl _ _⟩
  case round =>
    obtain ⟨k, m, hk, rfl, rfl, hm0, hm1, hall, hb⟩ := hrel
    have HB := hide hb
    have HA := hide hall
    clear hb hall
    by_cases hlt : k < xs.length
    · obtain ⟨b, off, rfl, hbB, hc⟩ := h4 (by rintro rfl; simp at hlt)
      have hst : within ((xs.drop k).map (fun p => p.2)) m = (!(decide (((fun p => p.2)) xs[k] < 1 ∨ m < ((fun p => p.2)) xs[k])) && within ((xs.drop (k + 1)).map (fun p => p.2)) (m - ((fun p => p.2)) xs[k])) := by
        rw [List.drop_eq_getElem_cons hlt, List.map_cons]
        rfl
      have hcell : ∀ i u, (partC xs[k])[i]? = some u → wr.cell? ⟨b, off + k * 2 + i, none⟩ = some u := fun i u hu => (HB.out.cell (p := ⟨b, off + k * 2 + i, none⟩) hbB).trans (hc k hlt i u hu)
      generalize xs[k] = x at *
      have c0 := hcell 0 _ rfl
      have c1 := hcell 1 _ rfl
      try simp only [Nat.add_zero] at c0
      obtain ⟨x1, n⟩ := x
      dsimp only at hst c0 c1
      have HST := hide hst
      clear hst hcell
      by_cases hf : n < 1
      · go_wp2_with fail
        refine (fan2_any _ (x1, n)).mono ?_
        rintro e w2 ⟨rfl, hb2⟩
        have HB2 : Hid (Below w.heap.size w w2) := hide (((HB.out.alloc HB.out.size _).trans (hb2.mono (HB.out.alloc HB.out.size _).size)))
        clear hb2
        go_wp2
        go_ret
        refine ⟨ret_bool ?_, HB2.out⟩
        rw [HA.out, HST.out]
        simp [hf]
      · by_cases hg : m < n
        · go_wp2_with fail
          refine (fan2_any _ (x1, n)).mono ?_
          rintro e w2 ⟨rfl, hb2⟩
          have HB2 : Hid (Below w.heap.size w w2) := hide (((HB.out.alloc HB.out.size _).trans (hb2.mono (HB.out.alloc HB.out.size _).size)))
          clear hb2
          go_wp2
          go_ret
          refine ⟨ret_bool ?_, HB2.out⟩
          rw [HA.out, HST.out]
          simp [hg]
        · go_wp2_with fail
          refine (fan2_any _ (x1, n)).mono ?_
          rintro e w2 ⟨rfl, hb2⟩
          have HB2 : Hid (Below w.heap.size w w2) := hide (((HB.out.alloc HB.out.size _).trans (hb2.mono (HB.out.alloc HB.out.size _).size)))
          clear hb2
          go_wp2
          go_roundw
          case rel =>
            refine ⟨k + 1, m - n, by omega, by go_num, by go_num, by omega, by omega, ?_, HB2.out⟩
            rw [HA.out, HST.out]
            simp [hf, hg]
          case measure => simp [intOf]; omega
    · obtain rfl : k = xs.length := by omega
      have ht := HA.out
      rw [List.drop_length] at ht
      go_wp2
      go_ret
      exact ⟨ret_bool (by rw [ht]; rfl), HB.out⟩

end Go.Proofs.YtokebnkgjchfaaaGreatDoor
