/-
  What strings.Clone and slices.Clone answer: the same bytes, in memory of their own. Conditions: lengths within reach.
-/
import Derived.Test.YtlejgdjkdbamkaaSmall
import Derived.Maps.AppendAt
import Derived.OwnWalk
import Derived.Lib.SliceRun
import Derived.Shelf.SlMaps.Clone
import Derived.Lib.UnsafeStr
import Derived.Lib.BufferWrite
import Derived.Laws.MakeOwn
namespace Go.Proofs.Ytlejgdjkdbamkaa
open Go.RowKit

/-- The slice v has the bytes l, in the world w. -/
def Sl (w : World) (v : Value) (l : List UInt8) : Prop :=
  ∃ ao cap, v = .slice ao l.length cap ∧ l.length ≤ cap ∧ cap ≤ maxLen ∧ (ao = none → cap = 0) ∧
    (l ≠ [] → ∃ b off, ao = some ⟨b, off, none⟩ ∧ b < w.heap.size ∧ ∀ j (h : j < l.length), w.cell? ⟨b, off + j, none⟩ = some (.int .u8 ((l[j]'h).toNat : Int)))
theorem Sl.nil (w : World) : Sl w (.slice none 0 0) [] := ⟨none, 0, rfl, Nat.le_refl _, by simp, fun _ => rfl, fun h => absurd rfl h⟩
theorem Sl.keep {F : Nat → Prop} {w w' : World} {v : Value} {l : List UInt8} (h : Sl w v l) (hc : Chg F w w') (hF : ∀ g, v.ownBlock = some g → ¬ F g) : Sl w' v l := by
  obtain ⟨ao, cap, hv, h1, h2, h3, h4⟩ := h
  refine ⟨ao, cap, hv, h1, h2, h3, fun hl => ?_⟩
  obtain ⟨b, off, ha, hlt, hcell⟩ := h4 hl
  subst ha hv
  refine ⟨b, off, rfl, Nat.lt_of_lt_of_le hlt hc.size, fun j hj => ?_⟩
  rw [← hcell j hj]
  exact World.cell?_of_block (hc.block b hlt (hF b rfl))
theorem sl_of_own {w : World} {base : Nat} {v : Value} {l : List UInt8} (h : w.ownsRow base 5 1 v l.length (bc l)) : Sl w v l := by
  obtain ⟨h1, h2⟩ := h
  rcases h2 with ⟨rfl, hn⟩ | ⟨g, cap, cur, rfl, hg, hh, hc, hm, hs, ht⟩
  · obtain rfl : l = [] := List.eq_nil_of_length_eq_zero hn
    exact Sl.nil w
  · refine ⟨_, _, rfl, hc, hm, (fun h => by cases h), fun _ => ⟨g, 0, rfl, ?_, fun j hj => ?_⟩⟩
    · exact (Array.getElem?_eq_some_iff.1 hh).1
    · have := World.ownsRow.cells (w := w) (base := base) (e := 5) (size := 1) (v := .slice (some ⟨g, 0, none⟩) l.length cap) (n := l.length) (xs := bc l) ⟨h1, Or.inr ⟨g, cap, cur, rfl, hg, hh, hc, hm, hs, ht⟩⟩ (g := g) rfl j _ (bc_get l j hj)
      rw [Addr.add_lit] at this
      exact this

/-! ### held against nil -/
theorem eqS33 (w : World) (a : Option Addr) (n c n' c' : Nat) : (binOp .eql 33 (.slice a n c) (.slice none n' c')).run Try.prog w = .ok (.bool a.isNone) w := Lib.run_eql_slice_nil w _ _ a n c n' c' Try.underlying33
theorem eqM62 (w : World) (p : Option Nat) : (binOp .eql 62 (.map p) (.map none)).run Try.prog w = .ok (.bool p.isNone) w := run_eql_map_nil_sl w _ _ _ p Try.underlying62
theorem eqM64 (w : World) (p : Option Nat) : (binOp .eql 64 (.map p) (.map none)).run Try.prog w = .ok (.bool p.isNone) w := run_eql_map_nil_sl w _ _ _ p Try.underlying64

theorem Try.info5 : (Try.prog.info? 5).map (fun i => (i.zero, i.size, i.bytes)) = some (some (.int .u8 0), 1, 1) := by kernel_rfl

set_option maxRecDepth 20000 in
/-- slices.Clone. -/
theorem clone_any (w : World) (v : Value) (l : List UInt8) (h : Sl w v l) (hl : l.length ≤ 70368744177664) :
    Calls Try.prog 49 #[v] w fun e w' => ∃ v', e = .returned v' ∧ w'.ownsRow w.heap.size 5 1 v' l.length (bc l) ∧ Below w.heap.size w w' := by
  obtain ⟨i0, hi, hz0, hz1, hz2⟩ := info_parts Try.info5
  obtain ⟨ao, cap, rfl, h1, h2, h3, h4⟩ := h
  cases ao with
  | none =>
    have : l = [] := by
      by_cases hl0 : l = []
      · exact hl0
      · obtain ⟨b, off, hh, _⟩ := h4 hl0
        cases hh
    subst this
    clear h4 h2 h1
    obtain rfl := h3 rfl
    have hq := eqS33
    go_enter Try.func49, Try.ntmps49
    go_wp2
    go_ret
    exact ⟨_, rfl, World.ownsRow_nil _ _ _ _, Below.refl _ _⟩
  | some ad =>
    have hnew : ∀ j u, (bc l)[j]? = some u → (w.alloc (.cells #[] 5)).cell? (ad.add j) = some u := by
      intro j u hu
      have hj : j < l.length := by
        have := (List.getElem?_eq_some_iff.1 hu).1
        rwa [bc_length] at this
      obtain ⟨b, off, ha, hb, hc⟩ := h4 (by rintro rfl; simp at hj)
      injection ha with ha
      subst ha
      rw [bc_get l j hj] at hu
      injection hu with hu
      subst hu
      rw [Addr.add_lit, ← hc j hj]
      exact World.cell?_of_block (Below.heap_alloc _ _ _ hb)
    have hlen := bc_length l
    have hone := bc_one l
    have HN := hide hnew
    have HO := hide hone
    have HL := hide hlen
    clear h4 hnew hone h3 hlen
    generalize hbc : bc l = xs at *
    have hq := eqS33
    go_enter Try.func49, Try.ntmps49
    have hown0 : (w.alloc (.cells #[] 5)).ownsRow w.heap.size 5 1 (.slice (some ⟨w.heap.size, 0, none⟩) 0 0) 0 [] := World.ownsRow_lit w #[] 0 (Nat.le_refl _) (by simp) rfl
    go_wp2_with (at_builtin; refine wpList_append_own_at _ rfl (.tmp 5) (.tmp 6) 33 rfl w.heap.size 5 i0 (.int .u8 0) 1 1 Try.underlying33 hi hz0 hz1 hz2 rfl (by decide) _ 0 [] rfl hown0 ad l.length cap xs rfl (by rw [HL.out, Nat.mul_one]) HN.out HO.out (by unfold maxLen; omega) (by omega) (by simp) ?_; intro v' w1 hown' hgrow hnil hloc)
    go_ret
    refine ⟨_, rfl, by simpa using hown', ?_⟩
    exact ((Below.refl _ w).alloc (Nat.le_refl _) _).grown hgrow (by simp) (by intro k hk; have hk' : some w.heap.size = some k := hk; injection hk' with hk'; omega)

theorem Try.cells5 : Try.prog.cellsOf 5 = 1 := by kernel_rfl
theorem Try.size5 : (Try.prog.info? 5).map (·.size) = some 1 := by kernel_rfl
theorem byteCells_bc (l : List UInt8) : Lib.byteCells l = bc l := rfl
theorem strB_bytes (l : List UInt8) (h : l ≠ []) : 0 < (strB l).size := by
  rw [strB_size]
  exact List.length_pos_iff.2 h

set_option maxRecDepth 20000 in
/-- What strings.Clone calls. -/
theorem copyStr_in (w : World) (l : List UInt8) (hl : l.length ≤ 70368744177664) :
    Calls Try.prog 67 #[.string (strB l)] w fun e w' => e = .returned (.string (strB l)) ∧ Below w.heap.size w w' := by
  have hsz := strB_size l
  by_cases h0 : l = []
  · subst h0
    have hz : (strB []).size = 0 := rfl
    clear hsz
    go_enter Try.func67, Try.ntmps67
    go_wp2
    go_ret
    exact ⟨rfl, Below.refl _ _⟩
  · have hpos : 0 < l.length := List.length_pos_iff.2 h0
    obtain ⟨i0, hi, hz0, hz1, hz2⟩ := info_parts Try.info5
    have hmk : ∀ W : World, ∃ M : Array Value, M.size = l.length ∧ (Instr.makeSlice 33 (.int .i64 (l.length : Int)) (.int .i64 (l.length : Int))).run Try.prog W = .ok (.slice (some ⟨W.heap.size, 0, none⟩) l.length l.length) (W.alloc (.cells M 5)) := fun W => by
      refine ⟨madeCells (Value.int .u8 0).cells (((l.length : Nat) : Int).toNat * i0.size), by rw [size_madeCells, hz1]; simp, ?_⟩
      have h := run_make (P := Try.prog) W 33 5 i0 (.int .u8 0) Try.underlying33 hi hz0 .i64 .i64 (l.length : Int) (l.length : Int) (by omega) (by omega) (by rw [hz2]; omega) (by omega)
      simpa using h
    obtain ⟨M, hM, hmk⟩ := hmk w
    have hcp := Lib.run_copy_row_string (P := Try.prog) (w.alloc (.cells M 5)) 33 9 3 5 w.heap.size 0 l.length l.length (strB l) M 5 Try.underlying33 Try.size5 (heap_last w _) (by omega) (by omega)
    have hY : (M.toList.take 0 ++ Lib.byteCells (strB l).data.toList ++ M.toList.drop (0 + (strB l).size)) = bc l := by
      rw [List.take_zero, List.nil_append, List.drop_of_length_le (by rw [Array.length_toList]; omega), List.append_nil, strB_list, byteCells_bc]
    rw [hY, hsz] at hcp
    have hgY : ((w.alloc (.cells M 5)).setRow w.heap.size (bc l).toArray).heap[w.heap.size]? = some (.cells (bc l).toArray 5 (0, 0)) := setRow_heap _ _ M _ _ (0, 0) (heap_last w _)
    have hUS := Lib.run_unsafeString_row (P := Try.prog) ((w.alloc (.cells M 5)).setRow w.heap.size (bc l).toArray) 126 3 9 5 Try.underlying126 Try.cells5 w.heap.size (bc l).toArray.size (by unfold World.shape?; rw [hgY]) l h0 (by simp [bc_length]) (by omega)
      (fun j x hx => by
        have hj : j < l.length := (List.getElem?_eq_some_iff.1 hx).1
        rw [Addr.add_lit, Nat.zero_add, cell_of hgY, List.getElem?_toArray, bc_get l j hj]
        rw [List.getElem?_eq_getElem hj] at hx
        injection hx with hx
        rw [hx])
    have hb1 : Below w.heap.size w ((w.alloc (.cells M 5)).setRow w.heap.size (bc l).toArray) :=
      ((Below.refl _ w).alloc (Nat.le_refl _) _).trans ⟨rfl, rfl, rfl, by simp, fun k hk => setRow_other _ _ _ _ (by omega)⟩
    have HB := hide (Lib.below_freeze hb1 (p := ⟨w.heap.size, 0, none⟩) (Nat.le_refl _) l.length)
    clear hb1 hgY hY hM
    generalize (w.alloc (.cells M 5)).setRow w.heap.size (bc l).toArray = W2 at *
    go_enter Try.func67, Try.ntmps67
    go_wp2
    go_ret
    exact ⟨rfl, HB.out⟩

/-- strings.Clone. -/
theorem copyStr_any (w : World) (l : List UInt8) (hl : l.length ≤ 70368744177664) :
    Calls Try.prog 42 #[.string (strB l)] w fun e w' => e = .returned (.string (strB l)) ∧ Below w.heap.size w w' := by
  go_enter Try.func42, Try.ntmps42
  go_wp2_with (go_at_call 67; refine (copyStr_in _ l hl).mono ?_; rintro e w' ⟨rfl, hb⟩)
  go_ret
  exact ⟨rfl, hb⟩
end Go.Proofs.Ytlejgdjkdbamkaa
