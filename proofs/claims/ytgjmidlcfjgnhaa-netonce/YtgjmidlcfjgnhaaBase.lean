/-
  Texts as values, rows of texts, rows of fates; strings.Clone. Conditions: lengths within reach.
-/
import Derived.Test.YtgjmidlcfjgnhaaChg
import Derived.Test.YtgjmidlcfjgnhaaSteps
import Derived.Lib.AppendStr
import Derived.Laws.IdiomStrings
import Derived.Maps.AppendAt
import Derived.OwnWalk
import Derived.Lib.SliceRun
import Derived.Lib.UnsafeStr
import Derived.Lib.BufferWrite
import Derived.Laws.MakeOwn
import Derived.LaidEqlPtr
namespace Go.Proofs.Ytgjmidlcfjgnhaa
open Go.RowKit

abbrev Bs := List UInt8
/-- A text of these bytes. -/
def strB (l : List UInt8) : ByteArray := ⟨l.toArray⟩
theorem strB_list (l : List UInt8) : (strB l).data.toList = l := by simp [strB]
theorem strB_size (l : List UInt8) : (strB l).size = l.length := by simp [strB, ByteArray.size]
theorem strB_of (s : ByteArray) : strB s.data.toList = s := by simp [strB]
theorem strB_inj {a b : List UInt8} (h : strB a = strB b) : a = b := by rw [← strB_list a, h, strB_list]
theorem toL (l : List UInt8) : (strB l).toList = l := by rw [ByteArray.toList_eq]; exact strB_list l
theorem str_ne {x y : Bs} (h : x ≠ y) : (x == y) = false := by simp [h]
/-- A text's bytes as cells. -/
def bc (l : List UInt8) : List Value := l.map fun c => Value.int .u8 (c.toNat : Int)
theorem bc_length (l : List UInt8) : (bc l).length = l.length := by simp [bc]
theorem bc_get (l : List UInt8) (j : Nat) (h : j < l.length) : (bc l)[j]? = some (.int .u8 ((l[j]'h).toNat : Int)) := by simp [bc, h]
theorem ret_bool {a b : Bool} (h : a = b) : Ending.returned (.bool a) = .returned (.bool b) := by rw [h]
theorem ret_int {a b : Int} (h : a = b) : Ending.returned (.int .i64 a) = .returned (.int .i64 b) := by rw [h]

theorem Try.info5 : (Try.prog.info? 5).map (fun i => (i.zero, i.size, i.bytes)) = some (some (.int .u8 0), 1, 1) := by kernel_rfl
theorem Try.cells5 : Try.prog.cellsOf 5 = 1 := by kernel_rfl
theorem Try.size5 : (Try.prog.info? 5).map (·.size) = some 1 := by kernel_rfl
theorem Try.info9 : (Try.prog.info? 9).map (fun i => (i.zero, i.size, i.bytes)) = some (some (.string ⟨#[]⟩), 1, 16) := by kernel_rfl
theorem Try.infoF : (Try.prog.info? 35).map (fun i => (i.zero, i.size, i.bytes)) = some (some (.agg #[.int .i64 0, .int .i64 0, .int .u8 0]), 3, 24) := by kernel_rfl
theorem byteCells_bc (l : List UInt8) : Lib.byteCells l = bc l := rfl
theorem enters_own {P : Program} {f : FuncId} {fn : Func} {c : Code} (h1 : P.funcs[f]? = some fn) (h2 : (fn.name == "runtime.NumGoroutine") = false) (h3 : fn.body = some c) (args : Array Value) (w : World) : (callFunc f args).run P w = .ok (.enter f args) w := by
  have h4 : fn.name ≠ "runtime.NumGoroutine" := by simpa using h2
  simp [callFunc, h1, h4, h3, mark]

set_option maxRecDepth 20000 in
/-- What strings.Clone calls. -/
theorem copyStr_in (w : World) (l : List UInt8) (hl : l.length ≤ 140737488355328) :
    Calls Try.prog 28 #[.string (strB l)] w fun e w' => e = .returned (.string (strB l)) ∧ Below w.heap.size w w' := by
  have hsz := strB_size l
  by_cases h0 : l = []
  · subst h0
    have hz : (strB []).size = 0 := rfl
    clear hsz
    go_enter Try.func28, Try.ntmps28
    go_wp2
    go_ret
    exact ⟨rfl, Below.refl _ _⟩
  · have hpos : 0 < l.length := List.length_pos_iff.2 h0
    obtain ⟨i0, hi, hz0, hz1, hz2⟩ := info_parts Try.info5
    have hmk : ∀ W : World, ∃ M : Array Value, M.size = l.length ∧ (Instr.makeSlice 42 (.int .i64 (l.length : Int)) (.int .i64 (l.length : Int))).run Try.prog W = .ok (.slice (some ⟨W.heap.size, 0, none⟩) l.length l.length) (W.alloc (.cells M 5)) := fun W => by
      refine ⟨madeCells (Value.int .u8 0).cells (((l.length : Nat) : Int).toNat * i0.size), by rw [size_madeCells, hz1]; simp, ?_⟩
      have h := run_make (P := Try.prog) W 42 5 i0 (.int .u8 0) Try.underlying42 hi hz0 .i64 .i64 (l.length : Int) (l.length : Int) (by omega) (by omega) (by rw [hz2]; omega) (by omega)
      simpa using h
    obtain ⟨M, hM, hmk⟩ := hmk w
    have hcp := Lib.run_copy_row_string (P := Try.prog) (w.alloc (.cells M 5)) 42 9 3 5 w.heap.size 0 l.length l.length (strB l) M 5 Try.underlying42 Try.size5 (heap_last w _) (by omega) (by omega)
    have hY : (M.toList.take 0 ++ Lib.byteCells (strB l).data.toList ++ M.toList.drop (0 + (strB l).size)) = bc l := by
      rw [List.take_zero, List.nil_append, List.drop_of_length_le (by rw [Array.length_toList]; omega), List.append_nil, strB_list, byteCells_bc]
    rw [hY, hsz] at hcp
    have hgY : ((w.alloc (.cells M 5)).setRow w.heap.size (bc l).toArray).heap[w.heap.size]? = some (.cells (bc l).toArray 5 (0, 0)) := setRow_heap _ _ M _ _ (0, 0) (heap_last w _)
    have hUS := Lib.run_unsafeString_row (P := Try.prog) ((w.alloc (.cells M 5)).setRow w.heap.size (bc l).toArray) 56 3 9 5 Try.underlying56 Try.cells5 w.heap.size (bc l).toArray.size (by unfold World.shape?; rw [hgY]) l h0 (by simp [bc_length]) (by omega)
      (fun j x hx => by
        have hj : j < l.length := (List.getElem?_eq_some_iff.1 hx).1
        rw [Addr.add_lit, Nat.zero_add, cell_of hgY, List.getElem?_toArray, bc_get l j hj]
        rw [List.getElem?_eq_getElem hj] at hx
        injection hx with hx
        rw [hx])
    have hb1 : Below w.heap.size w ((w.alloc (.cells M 5)).setRow w.heap.size (bc l).toArray) :=
      ((Below.refl _ w).alloc (Nat.le_refl _) _).trans ⟨rfl, rfl, rfl, by simp, fun k hk => setRow_other _ _ _ _ (by omega)⟩
    have HB := hide (Lib.below_freeze hb1 (p := ⟨w.heap.size, 0, none⟩) (Nat.le_refl _) l.length)
    clear hb1 hgY hY hM
    generalize (w.alloc (.cells M 5)).setRow w.heap.size (bc l).toArray = W2 at *
    go_enter Try.func28, Try.ntmps28
    go_wp2
    go_ret
    exact ⟨rfl, HB.out⟩

/-- strings.Clone. -/
theorem copyStr_any (w : World) (l : List UInt8) (hl : l.length ≤ 140737488355328) :
    Calls Try.prog 25 #[.string (strB l)] w fun e w' => e = .returned (.string (strB l)) ∧ Below w.heap.size w w' := by
  go_enter Try.func25, Try.ntmps25
  go_wp2_with (go_at_call 28; refine (copyStr_in _ l hl).mono ?_; rintro e w' ⟨rfl, hb⟩)
  go_ret
  exact ⟨rfl, hb⟩

/-! ### rows of texts -/
def tc (xs : List Bs) : List Value := xs.map fun x => .string (strB x)
theorem tc_length (xs : List Bs) : (tc xs).length = xs.length := by simp [tc]
theorem tc_get (xs : List Bs) (j : Nat) (h : j < xs.length) : (tc xs)[j]? = some (.string (strB xs[j])) := by simp [tc, h]
theorem tc_app (xs ys : List Bs) : tc xs ++ tc ys = tc (xs ++ ys) := by simp [tc]
theorem tc_one (xs : List Bs) : ∀ u ∈ tc xs, u.oneCell' = true := by
  intro u hu
  obtain ⟨x, -, rfl⟩ := List.mem_map.1 hu
  rfl
/-- The slice v has these texts, in a row of its own, made since B. -/
def Own (w : World) (B : Nat) (v : Value) (xs : List Bs) : Prop := w.ownsRow B 9 1 v xs.length (tc xs)
/-- The slice v holds the texts xs, in the world w. -/
def Ts (w : World) (v : Value) (xs : List Bs) : Prop :=
  ∃ ao cap, v = .slice ao xs.length cap ∧ xs.length ≤ cap ∧ cap ≤ maxLen ∧
    (xs ≠ [] → ∃ b off, ao = some ⟨b, off, none⟩ ∧ b < w.heap.size ∧ ∀ j (h : j < xs.length), w.cell? ⟨b, off + j, none⟩ = some (.string (strB xs[j])))
theorem Ts.nil (w : World) : Ts w (.slice none 0 0) [] := ⟨none, 0, rfl, Nat.le_refl _, by simp, fun h => absurd rfl h⟩
theorem Ts.keep {F : Nat → Prop} {w w' : World} {v : Value} {xs : List Bs} (h : Ts w v xs) (hc : Chg F w w') (hF : ∀ g, v.ownBlock = some g → ¬ F g) : Ts w' v xs := by
  obtain ⟨ao, cap, hv, h1, h2, h4⟩ := h
  refine ⟨ao, cap, hv, h1, h2, fun hl => ?_⟩
  obtain ⟨b, off, ha, hlt, hcl⟩ := h4 hl
  subst ha hv
  exact ⟨b, off, rfl, Nat.lt_of_lt_of_le hlt hc.size, fun j hj => (World.cell?_of_block (hc.block b hlt (hF b rfl))).trans (hcl j hj)⟩
theorem Ts.below {w w' : World} {v : Value} {xs : List Bs} (h : Ts w v xs) (hb : Below w.heap.size w w') : Ts w' v xs := by
  obtain ⟨ao, cap, hv, h1, h2, h4⟩ := h
  refine ⟨ao, cap, hv, h1, h2, fun hl => ?_⟩
  obtain ⟨b, off, ha, hlt, hc⟩ := h4 hl
  exact ⟨b, off, ha, Nat.lt_of_lt_of_le hlt hb.size, fun j hj => (hb.cell (p := ⟨b, off + j, none⟩) hlt).trans (hc j hj)⟩
theorem Own.ts {w : World} {B : Nat} {v : Value} {xs : List Bs} (h : Own w B v xs) : Ts w v xs := by
  obtain ⟨h1, h2⟩ := h
  rcases h2 with ⟨rfl, hn⟩ | ⟨g, cap, cur, rfl, hg, hh, hc, hm, hs, ht⟩
  · obtain rfl : xs = [] := List.eq_nil_of_length_eq_zero hn
    exact Ts.nil w
  · refine ⟨_, _, rfl, hc, hm, fun _ => ⟨g, 0, rfl, ?_, fun j hj => ?_⟩⟩
    · exact (Array.getElem?_eq_some_iff.1 hh).1
    · have := World.ownsRow.cells (w := w) (base := B) (e := 9) (size := 1) (v := .slice (some ⟨g, 0, none⟩) xs.length cap) (n := xs.length) (xs := tc xs) ⟨h1, Or.inr ⟨g, cap, cur, rfl, hg, hh, hc, hm, hs, ht⟩⟩ (g := g) rfl j _ (tc_get xs j hj)
      rw [Addr.add_lit] at this
      exact this
theorem own_shape {w : World} {base size n : Nat} {e : TypeId} {v : Value} {xs : List Value} (h : w.ownsRow base e size v n xs) : ∃ a c, v = .slice a n c := by
  rcases h.2 with ⟨rfl, rfl⟩ | ⟨q, cap, cur, rfl, _⟩
  · exact ⟨_, _, rfl⟩
  · exact ⟨_, _, rfl⟩
theorem own_keep {F : Nat → Prop} {w w' : World} {base size n : Nat} {e : TypeId} {v : Value} {xs : List Value} (h : w.ownsRow base e size v n xs) (hc : Chg F w w') (hF : ∀ k, v.ownBlock = some k → ¬ F k) : w'.ownsRow base e size v n xs := by
  obtain ⟨h1, h2⟩ := h
  refine ⟨h1, ?_⟩
  rcases h2 with h2 | ⟨g, cap, cur, rfl, hg, hh, hc', hm, hs, ht⟩
  · exact Or.inl h2
  · exact Or.inr ⟨g, cap, cur, rfl, hg, hc.keep hh (hF g rfl), hc', hm, hs, ht⟩
theorem own_down {w : World} {B B' k n : Nat} {e : TypeId} {v : Value} {xs : List Value} (h : w.ownsRow B e k v n xs) (hB : B' ≤ B) : w.ownsRow B' e k v n xs := by
  obtain ⟨h1, h2⟩ := h
  refine ⟨h1, ?_⟩
  rcases h2 with h2 | ⟨g, cap, cur, rfl, hg, h3⟩
  · exact Or.inl h2
  · exact Or.inr ⟨g, cap, cur, rfl, by omega, h3⟩
theorem own_lt {w : World} {B k n : Nat} {e : TypeId} {v : Value} {xs : List Value} (h : w.ownsRow B e k v n xs) {g : Nat} (hg : v.ownBlock = some g) : B ≤ g ∧ g < w.heap.size := h.lt g hg
theorem Own.keep {F : Nat → Prop} {w w' : World} {B : Nat} {v : Value} {xs : List Bs} (h : Own w B v xs) (hc : Chg F w w') (hF : ∀ k, v.ownBlock = some k → ¬ F k) : Own w' B v xs := own_keep h hc hF
theorem Own.down {w : World} {B B' : Nat} {v : Value} {xs : List Bs} (h : Own w B v xs) (hB : B' ≤ B) : Own w B' v xs := own_down h hB
theorem Own.nil (w : World) (B : Nat) : Own w B (.slice none 0 0) [] := World.ownsRow_nil _ _ _ _
theorem chg_set (w : World) (g i : Nat) (u : Value) : Chg (· = g) w (w.setCell ⟨g, i, none⟩ u) := (Chg.refl (· = g) w).setCell (p := ⟨g, i, none⟩) (.inl rfl) u
/-- Texts laid behind a row of texts. -/
theorem app_texts (w : World) (B : Nat) (v : Value) (xs : List Bs) (u : Value) (ys : List Bs) (h : Own w B v xs) (hu : Ts w u ys) (hB : B ≤ w.heap.size) (hn : xs.length ≤ 4294967296) (hm : ys.length ≤ 4294967296) :
    ∃ v' w', (Builtin.append_ #[23, 23] 23 #[v, u]).run Try.prog w = .ok v' w' ∧ Own w' B v' (xs ++ ys) ∧ w.grownBy w' v.ownBlock ∧ (v'.ownBlock = v.ownBlock ∨ v'.ownBlock = some w.heap.size) := by
  obtain ⟨i0, hi, hz0, hz1, hz2⟩ := info_parts Try.info9
  obtain ⟨ao, cap, rfl, k1, k2, k3⟩ := hu
  by_cases h0 : ys = []
  · subst h0
    refine ⟨v, w, ?_, by simpa using h, ⟨rfl, rfl, rfl, Nat.le_refl _, fun _ _ _ => rfl⟩, .inl rfl⟩
    have hfz : ∀ (size : Nat) (b : Addr) (c : Nat), (Builtin.firstCells size 0 (.slice (some b) 0 c)).run Try.prog w = .ok #[] w := fun size b c => by
      simpa using run_firstCells_some (P := Try.prog) (w := w) size 0 b 0 c [] (by simp) (by simp)
    have h' := h
    obtain ⟨-, ⟨rfl, h0⟩ | ⟨g, cp, cur, rfl, -, -, hle, -⟩⟩ := h'
    · cases ao <;> simp [Builtin.append_, run_underlying Try.underlying23, sizeOf, typeInfo, zeroValue, hi, Builtin.lenOf, run_firstCells_none, hfz,Result.andThen]
    · cases ao <;> simp [Builtin.append_, run_underlying Try.underlying23, sizeOf, typeInfo, zeroValue, hi, Builtin.lenOf, run_firstCells_none, hfz, hle, storeCells, Result.andThen]
  · obtain ⟨b, off, rfl, hb, hc⟩ := k3 h0
    obtain ⟨v', w', h1, h2, h3, -, h4⟩ := run_append_own_at (P := Try.prog) w B 23 23 9 i0 (.string ⟨#[]⟩) 1 16 Try.underlying23 hi hz0 hz1 hz2 rfl (by decide) v xs.length (tc xs) h ⟨b, off, none⟩ ys.length cap (tc ys) (by rw [tc_length, Nat.mul_one]) (fun j x hx => by
      have hj : j < ys.length := by have := (List.getElem?_eq_some_iff.1 hx).1; rwa [tc_length] at this
      rw [tc_get ys j hj] at hx
      injection hx with hx
      subst hx
      rw [Addr.add_lit]
      exact hc j hj) (tc_one ys) (by unfold maxLen; omega) (by omega) hB
    refine ⟨v', w', h1, ?_, h3, h4⟩
    unfold Own
    rw [List.length_append, ← tc_app]
    exact h2
theorem wp_append_run {P : Program} {o : Oper} {a : Act} {w : World} {K : Act → World → Prop} {Q : Exit → Act → World → Prop} (s x : Operand) (t : TypeId)
    (ho : o.op = .call { callee := .builtin .append, args := #[s, x], argTypes := #[t, t] }) {v1 v2 v' : Value} {w' : World} (hs : a.eval s = v1) (hx : a.eval x = v2)
    (hrun : (Builtin.append_ #[t, t] o.type #[v1, v2]).run P w = .ok v' w') (hK : K (a.put o.dst v') w') : o.wp P a w K Q := by
  unfold Oper.wp
  simp [execOp, ho, resolve, invoke, builtin, hs, hx, hrun, Result.andThen]
  exact hK
theorem wpList_append_run {P : Program} {ops : Array Oper} {rest : List Oper} {o : Oper} {a : Act} {w : World} {Q : Exit → Act → World → Prop} (hg : o.guard = none) (s x : Operand) (t : TypeId)
    (ho : o.op = .call { callee := .builtin .append, args := #[s, x], argTypes := #[t, t] }) {v1 v2 v' : Value} {w' : World} (hs : a.eval s = v1) (hx : a.eval x = v2)
    (hrun : (Builtin.append_ #[t, t] o.type #[v1, v2]).run P w = .ok v' w') (h : wpList P ops Q rest (a.put o.dst v') w') : wpList P ops Q (o :: rest) a w :=
  wpList_plain hg fun _ hK => wp_append_run s x t ho hs hx hrun (hK _ _ h)
/-- A row of texts is of their type. -/
theorem own_kind {w : World} {B : Nat} {v : Value} {xs : List Bs} (h : Own w B v xs) {g : Nat} (hg : v.ownBlock = some g) : ∃ c fr, w.heap[g]? = some (.cells c 9 fr) := by
  obtain ⟨-, ⟨rfl, -⟩ | ⟨q, cap, cur, rfl, -, hh, -⟩⟩ := h
  · cases hg
  · injection hg with hg
    subst hg
    exact ⟨_, _, hh⟩
theorem ne_type {w : World} {a b : Nat} {cs cs' : Array Value} {t t' : TypeId} {fr fr' : Nat × Nat} (h : w.heap[a]? = some (.cells cs t fr)) (h' : w.heap[b]? = some (.cells cs' t' fr')) (hne : t ≠ t') : a ≠ b := by
  rintro rfl
  rw [h] at h'
  injection h' with h'
  injection h' with _ h'
  exact hne h'
end Go.Proofs.Ytgjmidlcfjgnhaa
