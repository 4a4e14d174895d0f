/-
  What the cone's smallest calls answer: strings.Clone, slices.IndexFunc and ContainsFunc of texts, isNone, Dir, Has; path.Compare by its draws alone. Conditions: lengths within reach.
-/
import Derived.Test.YtkihldkaiddbkabCPlain
import Derived.Test.YtkihldkaiddbkabSame
import Derived.Test.YtkihldkaiddbkabOrder
import Derived.Test.YtkihldkaiddbkabSplit
import Derived.Lib.BufferWrite
import Derived.Lib.UnsafeStr
import Derived.Lib.SliceRun
import Derived.Laws.MakeOwn
import Derived.OwnWalk
namespace Go.Proofs.Ytkihldkaiddbkab
open Go.RowKit

abbrev Bs := List UInt8
theorem hide {p : Prop} (h : p) : Hid p := h
theorem lt_of_heap {w : World} {n : Nat} {o : Obj} (h : w.heap[n]? = some o) : n < w.heap.size := (Array.getElem?_eq_some_iff.1 h).1
theorem heap_last (w : World) (o : Obj) : (w.alloc o).heap[w.heap.size]? = some o := by
  show (w.heap.push o)[w.heap.size]? = some o
  simp
theorem cell_of {w : World} {g : Nat} {c : Array Value} {t : TypeId} {fr : Nat × Nat} (h : w.heap[g]? = some (.cells c t fr)) (i : Nat) : w.cell? ⟨g, i, none⟩ = c[i]? := by
  simp [World.cell?, h]
/-- A text's bytes as cells. -/
def bc (l : List UInt8) : List Value := l.map fun c => Value.int .u8 (c.toNat : Int)
theorem bc_length (l : List UInt8) : (bc l).length = l.length := by simp [bc]
theorem bc_get (l : List UInt8) (j : Nat) (h : j < l.length) : (bc l)[j]? = some (.int .u8 ((l[j]'h).toNat : Int)) := by simp [bc, h]
theorem Try.info5 : (Try.prog.info? 5).map (fun i => (i.zero, i.size, i.bytes)) = some (some (.int .u8 0), 1, 1) := by kernel_rfl
theorem Try.cells5 : Try.prog.cellsOf 5 = 1 := by kernel_rfl
theorem Try.size5 : (Try.prog.info? 5).map (·.size) = some 1 := by kernel_rfl
theorem byteCells_bc (l : List UInt8) : Lib.byteCells l = bc l := rfl
theorem enters_own {P : Program} {f : FuncId} {fn : Func} {c : Code} (h1 : P.funcs[f]? = some fn) (h2 : (fn.name == "runtime.NumGoroutine") = false) (h3 : fn.body = some c) (args : Array Value) (w : World) : (callFunc f args).run P w = .ok (.enter f args) w := by
  have h4 : fn.name ≠ "runtime.NumGoroutine" := by simpa using h2
  simp [callFunc, h1, h4, h3, mark]

set_option maxRecDepth 20000 in
/-- What strings.Clone calls. -/
theorem copyStr_in (w : World) (l : List UInt8) (hl : l.length ≤ 140737488355328) :
    Calls Try.prog 27 #[.string (strB l)] w fun e w' => e = .returned (.string (strB l)) ∧ Below w.heap.size w w' := by
  have hsz := strB_size l
  by_cases h0 : l = []
  · subst h0
    have hz : (strB []).size = 0 := rfl
    clear hsz
    go_enter Try.func27, Try.ntmps27
    go_wp2
    go_ret
    exact ⟨rfl, Below.refl _ _⟩
  · have hpos : 0 < l.length := List.length_pos_iff.2 h0
    obtain ⟨i0, hi, hz0, hz1, hz2⟩ := info_parts Try.info5
    have hmk : ∀ W : World, ∃ M : Array Value, M.size = l.length ∧ (Instr.makeSlice 59 (.int .i64 (l.length : Int)) (.int .i64 (l.length : Int))).run Try.prog W = .ok (.slice (some ⟨W.heap.size, 0, none⟩) l.length l.length) (W.alloc (.cells M 5)) := fun W => by
      refine ⟨madeCells (Value.int .u8 0).cells (((l.length : Nat) : Int).toNat * i0.size), by rw [size_madeCells, hz1]; simp, ?_⟩
      have h := run_make (P := Try.prog) W 59 5 i0 (.int .u8 0) Try.underlying59 hi hz0 .i64 .i64 (l.length : Int) (l.length : Int) (by omega) (by omega) (by rw [hz2]; omega) (by omega)
      simpa using h
    obtain ⟨M, hM, hmk⟩ := hmk w
    have hcp := Lib.run_copy_row_string (P := Try.prog) (w.alloc (.cells M 5)) 59 9 3 5 w.heap.size 0 l.length l.length (strB l) M 5 Try.underlying59 Try.size5 (heap_last w _) (by omega) (by omega)
    have hY : (M.toList.take 0 ++ Lib.byteCells (strB l).data.toList ++ M.toList.drop (0 + (strB l).size)) = bc l := by
      rw [List.take_zero, List.nil_append, List.drop_of_length_le (by rw [Array.length_toList]; omega), List.append_nil, strB_list, byteCells_bc]
    rw [hY, hsz] at hcp
    have hgY : ((w.alloc (.cells M 5)).setRow w.heap.size (bc l).toArray).heap[w.heap.size]? = some (.cells (bc l).toArray 5 (0, 0)) := setRow_heap _ _ M _ _ (0, 0) (heap_last w _)
    have hUS := Lib.run_unsafeString_row (P := Try.prog) ((w.alloc (.cells M 5)).setRow w.heap.size (bc l).toArray) 60 3 9 5 Try.underlying60 Try.cells5 w.heap.size (bc l).toArray.size (by unfold World.shape?; rw [hgY]) l h0 (by simp [bc_length]) (by omega)
      (fun j x hx => by
        have hj : j < l.length := (List.getElem?_eq_some_iff.1 hx).1
        rw [Addr.add_lit, Nat.zero_add, cell_of hgY, List.getElem?_toArray, bc_get l j hj]
        rw [List.getElem?_eq_getElem hj] at hx
        injection hx with hx
        rw [hx])
    have hb1 : Below w.heap.size w ((w.alloc (.cells M 5)).setRow w.heap.size (bc l).toArray) :=
      ((Below.refl _ w).alloc (Nat.le_refl _) _).trans ⟨rfl, rfl, rfl, by simp, fun k hk => setRow_other _ _ _ _ (by omega)⟩
    have HB := hide (Lib.below_freeze hb1 (p := ⟨w.heap.size, 0, none⟩) (Nat.le_refl _) l.length)
    clear hb1 hgY hY hM
    generalize (w.alloc (.cells M 5)).setRow w.heap.size (bc l).toArray = W2 at *
    go_enter Try.func27, Try.ntmps27
    go_wp2
    go_ret
    exact ⟨rfl, HB.out⟩
/-- strings.Clone. -/
theorem copyStr_any (w : World) (l : List UInt8) (hl : l.length ≤ 140737488355328) :
    Calls Try.prog 15 #[.string (strB l)] w fun e w' => e = .returned (.string (strB l)) ∧ Below w.heap.size w w' := by
  go_enter Try.func15, Try.ntmps15
  go_wp2_with (go_at_call 27; refine (copyStr_in _ l hl).mono ?_; rintro e w' ⟨rfl, hb⟩)
  go_ret
  exact ⟨rfl, hb⟩

/-! ### path.Compare, by its draws -/
set_option maxRecDepth 20000 in
theorem compare_drew (w : World) (a b : List UInt8) (ha : a.length ≤ 4611686018427387904) (hb : b.length ≤ 4611686018427387904) :
    Calls Try.prog 13 #[.string (strB a), .string (strB b)] w fun e w' => e = .returned (.int .i64 (Pt.order a b)) ∧ ∃ q, w' = w.drewN q := by
  have ea := strB_size a
  have eb := strB_size b
  go_enter Try.func13, Try.ntmps13
  go_wp2
  go_loopw [5] (fun v wr => ∃ k : Nat, v = .int .i64 (k : Int) ∧ k ≤ a.length ∧ k ≤ b.length ∧ (∀ j, j < k → a[j]? = b[j]?) ∧ ∃ q, wr = w.drewN q)
    (fun v _ => a.length - (intOf v).toNat)
  case atStart => exact ⟨0, rfl, by omega, by omega, (fun j hj => by omega), 0, rfl⟩
  case round =>
    obtain ⟨k, rfl, h1, h2, h3, h4⟩ := hrel
    have H4 : ∃ q, wr.drew = w.drewN q := by
      obtain ⟨q, rfl⟩ := h4
      exact ⟨q + 1, rfl⟩
    by_cases hlt : k < a.length ∧ k < b.length
    · obtain ⟨ka, kb⟩ := hlt
      have hia := fun W => index_str 9 (.inl rfl) W a .i64 k ka
      have hib := fun W => index_str 9 (.inl rfl) W b .i64 k kb
      have na : a[k]? = some a[k] := by simp [ka]
      have nb : b[k]? = some b[k] := by simp [kb]
      have hm : ((k : Nat) : Int) < min (a.length : Int) (b.length : Int) := by omega
      generalize a[k] = c at *
      generalize b[k] = d at *
      by_cases hcd : c = d
      · subst hcd
        clear h4
        go_wp2_with fail
        go_region
        go_wp2_with fail
        refine ⟨⟨k + 1, by go_num, by omega, by omega, (fun j hj => ?_), H4⟩, by simp [intOf]; omega⟩
        by_cases hjk : j = k
        · subst hjk; rw [na, nb]
        · exact h3 j (by omega)
      · have HO := Pt.order_at k a b h1 h2 h3 (fun _ _ => by rw [na, nb]; simpa using hcd)
        have hcd2 : ¬ (c.toNat : Int) = (d.toNat : Int) := fun e => hcd (UInt8.toNat_inj.1 (Int.ofNat.inj e))
        clear h4
        go_wp2_with fail
        go_region
        go_wp2_with fail
        refine (rank_any _ a k h1).mono ?_
        rintro e w1 ⟨rfl, rfl⟩
        go_wp2_with fail
        refine (rank_any _ b k h2).mono ?_
        rintro e w2 ⟨rfl, rfl⟩
        go_wp2_with fail
        refine (Try.cmp_Compare_int _ _ _).mono ?_
        rintro e w3 ⟨rfl, rfl⟩
        go_wp2
        go_ret
        exact ⟨rfl, H4⟩
    · have HO := Pt.order_at k a b h1 h2 h3 (fun x y => absurd ⟨x, y⟩ hlt)
      have hm : decide (((k : Nat) : Int) < min (a.length : Int) (b.length : Int)) = false := decide_eq_false (by omega)
      clear h4
      go_wp2_with fail
      go_region
      go_wp2_with fail
      refine (rank_any _ a k h1).mono ?_
      rintro e w1 ⟨rfl, rfl⟩
      go_wp2_with fail
      refine (rank_any _ b k h2).mono ?_
      rintro e w2 ⟨rfl, rfl⟩
      go_wp2_with fail
      refine (Try.cmp_Compare_int _ _ _).mono ?_
      rintro e w3 ⟨rfl, rfl⟩
      go_wp2
      go_ret
      exact ⟨rfl, H4⟩

/-! ### slices.IndexFunc, slices.ContainsFunc -/
set_option maxRecDepth 20000 in
theorem indexFunc_any (w : World) (v : Value) (xs : List Bs) (h : Ts w v xs) (g : Nat) (cb : Array Value) (henter : ∀ args w, (callFunc g args).run Try.prog w = .ok (.enter g args) w) (p : Bs → Bool)
    (hp : ∀ x ∈ xs, ∀ W, Below w.heap.size w W → Calls Try.prog g (#[.string (strB x)] ++ cb) W fun e W' => e = .returned (.bool (p x)) ∧ Below W.heap.size W W') :
    Calls Try.prog 18 #[v, .func (.func g) #[] cb] w fun e w' => (∃ i : Int, e = .returned (.int .i64 i) ∧ -1 ≤ i ∧ i ≤ 9223372036854775807 ∧ (0 ≤ i ↔ xs.any p = true)) ∧ Below w.heap.size w w' := by
  obtain ⟨ao, cap, rfl, h1, h2, h4⟩ := h
  have hm : xs.length ≤ 9223372036854775807 := by unfold maxLen at h2; omega
  go_enter Try.func18, Try.ntmps18
  go_wp2
  go_loopw [8] (fun t wr => Below w.heap.size w wr ∧ ∃ k : Nat, t = .int .i64 (k : Int) ∧ k ≤ xs.length ∧ ∀ j (hj : j < xs.length), j < k → p xs[j] = false) (fun t _ => xs.length - (intOf t).toNat)
  case atStart => exact ⟨Below.refl _ _, 0, rfl, by omega, fun j _ h => absurd h (by omega)⟩
  case round =>
    obtain ⟨hb, k, rfl, hk, hq⟩ := hrel
    have HQ := hide hq
    have HB := hide hb
    by_cases hlt : k < xs.length
    · obtain ⟨b, off, rfl, hbl, hc⟩ := h4 (by intro e; subst e; simp at hlt)
      have c := (hb.cell (p := ⟨b, off + k, none⟩) hbl).trans (hc k hlt)
      have HC := hide (hp xs[k] (List.getElem_mem hlt) wr hb)
      cases hpk : p xs[k] with
      | false =>
        have HP := hide hpk
        rw [hpk] at HC
        clear hp hq hb hc h4 hpk
        go_wp2_with fail
        refine (HC.out).mono ?_
        rintro e w' ⟨rfl, hb'⟩
        have HB' := hide hb'
        clear hb'
        go_wp2
        go_roundw
        case rel =>
          refine ⟨HB.out.trans (HB'.out.mono HB.out.size), k + 1, by go_num, by omega, fun j hj hjk => ?_⟩
          by_cases e : j = k
          · subst e; exact HP.out
          · exact HQ.out j hj (by omega)
        case measure => simp [intOf]; omega
      | true =>
        have HA := hide (show xs.any p = true from List.any_eq_true.2 ⟨xs[k], List.getElem_mem hlt, hpk⟩)
        rw [hpk] at HC
        clear hp hq hb hc h4 hpk
        go_wp2_with fail
        refine (HC.out).mono ?_
        rintro e w' ⟨rfl, hb'⟩
        have HB' := hide hb'
        clear hb'
        go_wp2
        go_ret
        exact ⟨⟨(k : Int), rfl, by omega, by omega, fun _ => HA.out, fun _ => by omega⟩, HB.out.trans (HB'.out.mono HB.out.size)⟩
    · have HA := hide (show xs.any p = false from by
        rw [Bool.eq_false_iff]
        intro h
        obtain ⟨x, hx, hpx⟩ := List.any_eq_true.1 h
        obtain ⟨j, hj, rfl⟩ := List.getElem_of_mem hx
        rw [hq j hj (by omega)] at hpx
        cases hpx)
      clear hp hq hb h4
      go_wp2
      go_ret
      exact ⟨⟨-1, rfl, by omega, by omega, fun h => absurd h (by omega), fun h => by rw [HA.out] at h; cases h⟩, HB.out⟩
set_option maxRecDepth 20000 in
theorem containsFunc_any (w : World) (v : Value) (xs : List Bs) (h : Ts w v xs) (g : Nat) (cb : Array Value) (henter : ∀ args w, (callFunc g args).run Try.prog w = .ok (.enter g args) w) (p : Bs → Bool)
    (hp : ∀ x ∈ xs, ∀ W, Below w.heap.size w W → Calls Try.prog g (#[.string (strB x)] ++ cb) W fun e W' => e = .returned (.bool (p x)) ∧ Below W.heap.size W W') :
    Calls Try.prog 9 #[v, .func (.func g) #[] cb] w fun e w' => e = .returned (.bool (xs.any p)) ∧ Below w.heap.size w w' := by
  have HC := hide (indexFunc_any w v xs h g cb henter p hp)
  obtain ⟨ao, cap, rfl, -, -, -⟩ := h
  clear hp
  go_enter Try.func9, Try.ntmps9
  go_wp2_with fail
  refine (HC.out).mono ?_
  rintro e w' ⟨⟨i, rfl, i1, i2, i3⟩, hb⟩
  have I3 := hide i3
  have HB := hide hb
  clear i3 hb
  go_wp2
  go_ret
  refine ⟨ret_bool ?_, HB.out⟩
  rw [Bool.eq_iff_iff, ← I3.out]
  simp

/-! ### isNone, Dir, Has -/
set_option maxRecDepth 20000 in
theorem isNone_any (w : World) (l : Bs) (hl : l.length ≤ 4611686018427387000) :
    Calls Try.prog 10 #[.string (strB l)] w fun e w' => e = .returned (.bool (!Pt.path l)) ∧ Below w.heap.size w w' := by
  have hw := within_any w [] l hl
  rw [Pt.within_nil] at hw
  go_enter Try.func10, Try.ntmps10
  go_wp2_with fail
  refine hw.mono ?_
  rintro e w' ⟨rfl, hb⟩
  have HB := hide hb
  clear hb
  go_wp2
  go_ret
  exact ⟨rfl, HB.out⟩
theorem enter_isNone : ∀ args w, (callFunc 10 args).run Try.prog w = .ok (.enter 10 args) w := enters_own Try.func10 (by kernel_rfl) rfl
theorem enter_dir1 : ∀ args w, (callFunc 29 args).run Try.prog w = .ok (.enter 29 args) w := enters_own Try.func29 (by kernel_rfl) rfl
theorem enter_dir2 : ∀ args w, (callFunc 30 args).run Try.prog w = .ok (.enter 30 args) w := enters_own Try.func30 (by kernel_rfl) rfl
set_option maxRecDepth 20000 in
theorem dir1_any (w : World) (B : Nat) (s x : Bs) (hc : w.cell? ⟨B, 0, none⟩ = some (.string (strB s))) (hl : s.length ≤ 4611686018427387000) :
    Calls Try.prog 29 #[.string (strB x), .pointer (some ⟨B, 0, none⟩)] w fun e w' => e = .returned (.bool (Pt.within x s)) ∧ Below w.heap.size w w' := by
  have hw := within_any w x s hl
  go_enter Try.func29, Try.ntmps29
  go_wp2_with fail
  refine hw.mono ?_
  rintro e w' ⟨rfl, hb⟩
  have HB := hide hb
  clear hb
  go_wp2
  go_ret
  exact ⟨rfl, HB.out⟩
set_option maxRecDepth 20000 in
theorem dir2_any (w : World) (B : Nat) (s x : Bs) (hc : w.cell? ⟨B, 0, none⟩ = some (.string (strB s))) (hl : x.length ≤ 4611686018427387000) :
    Calls Try.prog 30 #[.string (strB x), .pointer (some ⟨B, 0, none⟩)] w fun e w' => e = .returned (.bool (Pt.within s x)) ∧ Below w.heap.size w w' := by
  have hw := within_any w s x hl
  go_enter Try.func30, Try.ntmps30
  go_wp2_with fail
  refine hw.mono ?_
  rintro e w' ⟨rfl, hb⟩
  have HB := hide hb
  clear hb
  go_wp2
  go_ret
  exact ⟨rfl, HB.out⟩
set_option maxRecDepth 20000 in
theorem dir_any (w : World) (v : Value) (xs : List Bs) (s : Bs) (h : Ts w v xs) (hl : s.length ≤ 4611686018427387000) (hx : ∀ x ∈ xs, x.length ≤ 4611686018427387000) :
    Calls Try.prog 17 #[v, .string (strB s)] w fun e w' => e = .returned (.int .i64 (Pt.dirM xs s)) ∧ Below w.heap.size w w' := by
  obtain ⟨W, hW⟩ : ∃ W, w.alloc (.cells #[.string (strB s)] 9) = W := ⟨_, rfl⟩
  have hB0 : Below w.heap.size w W := by rw [← hW]; exact (Below.refl _ w).alloc (Nat.le_refl _) _
  have hc0 : W.cell? ⟨w.heap.size, 0, none⟩ = some (.string (strB s)) := by rw [← hW]; exact cell_of (heap_last w _) 0
  have hlt : w.heap.size < W.heap.size := by rw [← hW]; simp
  have ts := h.keep hB0
  have hn := isNone_any W s hl
  have h1 := fun V (hV : Below W.heap.size W V) => containsFunc_any V v xs (ts.keep hV) _ #[.pointer (some ⟨w.heap.size, 0, none⟩)] enter_dir1 (fun k => Pt.within k s)
    (fun x _ U hU => dir1_any U w.heap.size s x ((hU.cell (p := ⟨w.heap.size, 0, none⟩) (Nat.lt_of_lt_of_le hlt hV.size)).trans ((hV.cell (p := ⟨w.heap.size, 0, none⟩) hlt).trans hc0)) hl)
  have h2 := fun V (hV : Below W.heap.size W V) => containsFunc_any V v xs (ts.keep hV) _ #[.pointer (some ⟨w.heap.size, 0, none⟩)] enter_dir2 (fun k => Pt.within s k)
    (fun x hxm U hU => dir2_any U w.heap.size s x ((hU.cell (p := ⟨w.heap.size, 0, none⟩) (Nat.lt_of_lt_of_le hlt hV.size)).trans ((hV.cell (p := ⟨w.heap.size, 0, none⟩) hlt).trans hc0)) (hx x hxm))
  have htl := toL s
  obtain ⟨ao, cap, rfl, -, -, -⟩ := h
  clear ts
  unfold Pt.dirM
  cases hp : Pt.path s with
  | false =>
    rw [hp] at hn
    clear h1 h2
    go_enter Try.func17, Try.ntmps17
    go_wp2_with fail
    refine hn.mono ?_
    rintro e w1 ⟨rfl, hb1⟩
    go_wp2
    go_ret
    exact ⟨rfl, hB0.trans (hb1.mono hB0.size)⟩
  | true =>
    rw [hp] at hn
    cases ha : xs.any (fun k => Pt.within k s) with
    | true =>
      simp only [ha] at h1
      clear h2
      go_enter Try.func17, Try.ntmps17
      go_wp2_with fail
      refine hn.mono ?_
      rintro e w1 ⟨rfl, hb1⟩
      go_wp2_with fail
      refine (h1 w1 hb1).mono ?_
      rintro e w2 ⟨rfl, hb2⟩
      go_wp2
      go_ret
      exact ⟨rfl, (hB0.trans (hb1.mono hB0.size)).trans (hb2.mono (hB0.trans (hb1.mono hB0.size)).size)⟩
    | false =>
      simp only [ha] at h1
      by_cases h0 : s = []
      · subst h0
        clear h2
        go_enter Try.func17, Try.ntmps17
        go_wp2_with fail
        refine hn.mono ?_
        rintro e w1 ⟨rfl, hb1⟩
        go_wp2_with fail
        refine (h1 w1 hb1).mono ?_
        rintro e w2 ⟨rfl, hb2⟩
        have hc2 := (hb2.cell (p := ⟨w.heap.size, 0, none⟩) (Nat.lt_of_lt_of_le hlt hb1.size)).trans ((hb1.cell (p := ⟨w.heap.size, 0, none⟩) hlt).trans hc0)
        go_wp2
        go_ret
        exact ⟨rfl, (hB0.trans (hb1.mono hB0.size)).trans (hb2.mono (hB0.trans (hb1.mono hB0.size)).size)⟩
      · have b0 : (s == []) = false := by simp [h0]
        rw [decide_eq_false h0, Bool.false_or]
        go_enter Try.func17, Try.ntmps17
        go_wp2_with fail
        refine hn.mono ?_
        rintro e w1 ⟨rfl, hb1⟩
        go_wp2_with fail
        refine (h1 w1 hb1).mono ?_
        rintro e w2 ⟨rfl, hb2⟩
        have hc2 := (hb2.cell (p := ⟨w.heap.size, 0, none⟩) (Nat.lt_of_lt_of_le hlt hb1.size)).trans ((hb1.cell (p := ⟨w.heap.size, 0, none⟩) hlt).trans hc0)
        have hB2 := (hB0.trans (hb1.mono hB0.size)).trans (hb2.mono (hB0.trans (hb1.mono hB0.size)).size)
        have hW2 := hb1.trans (hb2.mono hb1.size)
        go_wp2_with fail
        refine (h2 w2 hW2).mono ?_
        rintro e w3 ⟨rfl, hb3⟩
        cases hq : xs.any (fun k => Pt.within s k)
        · go_wp2
          go_ret
          exact ⟨rfl, hB2.trans (hb3.mono hB2.size)⟩
        · go_wp2
          go_ret
          exact ⟨rfl, hB2.trans (hb3.mono hB2.size)⟩
theorem dir_length {l : Bs} (h : Pt.path l = true) : (Pt.dir l).length ≤ l.length := by
  obtain ⟨t, ht⟩ := Pt.within_prefix (Pt.within_dir h)
  have := congrArg List.length ht
  rw [List.length_append] at this
  omega
set_option maxRecDepth 20000 in
theorem has_any (w : World) (v : Value) (xs : List Bs) (s : Bs) (h : Ts w v xs) (hl : s.length ≤ 4611686018427387000) (hx : ∀ x ∈ xs, x.length ≤ 4611686018427387000) :
    Calls Try.prog 8 #[v, .string (strB s)] w fun e w' => e = .returned (.bool (Pt.hasM xs s)) ∧ Below w.heap.size w w' := by
  have hs := split_any w s hl
  unfold Pt.hasM
  by_cases hok : s ≠ [] ∧ Pt.path s = true
  · have hdl := dir_length hok.2
    have hd := fun V (hV : Below w.heap.size w V) => dir_any V v xs (Pt.dir s) (h.keep hV) (by omega) hx
    rw [decide_eq_true hok.1, hok.2, Bool.true_and, Bool.true_and]
    unfold splitA at hs
    rw [if_pos hok] at hs
    obtain ⟨ao, cap, rfl, -, -, -⟩ := h
    generalize Pt.dirM xs (Pt.dir s) = n at hd ⊢
    go_enter Try.func8, Try.ntmps8
    go_wp2_with fail
    refine hs.mono ?_
    rintro e w1 ⟨rfl, hb1⟩
    go_wp2_with fail
    refine (hd w1 hb1).mono ?_
    rintro e w2 ⟨rfl, hb2⟩
    go_wp2
    go_ret
    refine ⟨ret_bool ?_, hb1.trans (hb2.mono hb1.size)⟩
    by_cases h : n = 0 <;> simp [h]
  · have hr : (decide (s ≠ []) && Pt.path s) = false := by
      by_cases h0 : s = []
      · subst h0; rfl
      · cases hp : Pt.path s with
        | false => simp
        | true => exact absurd ⟨h0, hp⟩ hok
    rw [hr, Bool.false_and]
    unfold splitA at hs
    rw [if_neg hok] at hs
    obtain ⟨ao, cap, rfl, -, -, -⟩ := h
    go_enter Try.func8, Try.ntmps8
    go_wp2_with fail
    refine hs.mono ?_
    rintro e w1 ⟨rfl, hb1⟩
    go_wp2
    go_ret
    exact ⟨rfl, hb1⟩
end Go.Proofs.Ytkihldkaiddbkab
