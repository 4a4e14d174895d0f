/-
  Texts laid behind texts; parts of a slice of texts; what is made and laid in regions that draw. Conditions: lengths within reach.
-/
import Derived.Test.YtkihldkaiddbkaaCOf
import Derived.Test.YtkihldkaiddbkaaSteps
import Derived.Maps.AppendAt
import Derived.Laws.MakeOwn
namespace Go.Proofs.Ytkihldkaiddbkaa
open Go.RowKit

theorem tc_app (xs ys : List Bs) : tc xs ++ tc ys = tc (xs ++ ys) := by simp [tc]
theorem tc_one (xs : List Bs) : ∀ u ∈ tc xs, u.oneCell' = true := by
  intro u hu
  obtain ⟨x, -, rfl⟩ := List.mem_map.1 hu
  rfl
/-- The slice v has these texts, in a row of its own, made since B. -/
abbrev OwnT (w : World) (B : Nat) (v : Value) (xs : List Bs) : Prop := w.ownsRow B 9 1 v xs.length (tc xs)
theorem Ts.takeT {w : World} {ao : Option Addr} {n cap : Nat} {xs : List Bs} (h : Ts w (.slice ao n cap) xs) {z : Nat} (hz : z ≤ xs.length) : Ts w (.slice ao z cap) (xs.take z) := by
  obtain ⟨ao', cap', e, h1, h2, h4⟩ := h
  injection e with e1 e2 e3
  subst e1 e3
  have hl : (xs.take z).length = z := by rw [List.length_take]; omega
  refine ⟨ao, cap, by rw [hl], by rw [hl]; omega, h2, fun hne => ?_⟩
  obtain ⟨b, off, rfl, hb, hc⟩ := h4 (by rintro rfl; simp at hne)
  refine ⟨b, off, rfl, hb, fun j hj => ?_⟩
  rw [hl] at hj
  rw [hc j (by omega)]
  simp
theorem Ts.dropT {w : World} {ao : Option Addr} {n cap : Nat} {xs : List Bs} (h : Ts w (.slice ao n cap) xs) {z : Nat} (hz : z ≤ xs.length) (ao' : Option Addr) (ha : z < xs.length → ∀ b off, ao = some ⟨b, off, none⟩ → ao' = some ⟨b, off + z, none⟩) : Ts w (.slice ao' (n - z) (cap - z)) (xs.drop z) := by
  obtain ⟨ao0, cap', e, h1, h2, h4⟩ := h
  injection e with e1 e2 e3
  subst e1 e2 e3
  have hl : (xs.drop z).length = xs.length - z := List.length_drop
  refine ⟨ao', cap - z, by rw [hl], by rw [hl]; omega, by omega, fun hne => ?_⟩
  have hlt : z < xs.length := by
    rcases Nat.lt_or_ge z xs.length with q | q
    · exact q
    · rw [List.drop_eq_nil_of_le q] at hne; exact absurd rfl hne
  obtain ⟨b, off, rfl, hb, hc⟩ := h4 (by rintro rfl; simp at hlt)
  refine ⟨b, off + z, ha hlt b off rfl, hb, fun j hj => ?_⟩
  rw [hl] at hj
  have := hc (z + j) (by omega)
  rw [← Nat.add_assoc] at this
  rw [this]
  simp
/-- One text, laid anew. -/
theorem ts_one (w : World) (x : Bs) : Ts (w.alloc (.cells #[.string (strB x)] 9)) (.slice (some ⟨w.heap.size, 0, none⟩) 1 1) [x] := by
  refine ⟨_, 1, rfl, by simp, by unfold maxLen; omega, fun _ => ⟨_, _, rfl, by simp, fun j hj => ?_⟩⟩
  obtain rfl : j = 0 := by simpa using hj
  exact cell_of (heap_last w _) 0
set_option maxRecDepth 20000 in
/-- Texts laid behind a row of texts. -/
theorem app_texts (w : World) (B : Nat) (v : Value) (xs : List Bs) (u : Value) (ys : List Bs) (h : OwnT w B v xs) (hu : Ts w u ys) (hB : B ≤ w.heap.size) (hn : xs.length ≤ 4294967296) (hm : ys.length ≤ 4294967296) :
    ∃ v' w', (Builtin.append_ #[22, 22] 22 #[v, u]).run Try.prog w = .ok v' w' ∧ OwnT w' B v' (xs ++ ys) ∧ Below B w w' := by
  obtain ⟨i0, hi, hz0, hz1, hz2⟩ := info_parts Try.info9
  obtain ⟨ao, cap, rfl, k1, k2, k3⟩ := hu
  by_cases h0 : ys = []
  · subst h0
    refine ⟨v, w, ?_, by simpa using h, Below.refl _ _⟩
    have hfz : ∀ (size : Nat) (b : Addr) (c : Nat), (Builtin.firstCells size 0 (.slice (some b) 0 c)).run Try.prog w = .ok #[] w := fun size b c => by
      simpa using run_firstCells_some (P := Try.prog) (w := w) size 0 b 0 c [] (by simp) (by simp)
    have h' := h
    obtain ⟨-, ⟨rfl, h0⟩ | ⟨g, cp, cur, rfl, -, -, hle, -⟩⟩ := h'
    · cases ao <;> simp [Builtin.append_, run_underlying Try.underlying22, sizeOf, typeInfo, zeroValue, hi, Builtin.lenOf, run_firstCells_none, hfz, Result.andThen]
    · cases ao <;> simp [Builtin.append_, run_underlying Try.underlying22, sizeOf, typeInfo, zeroValue, hi, Builtin.lenOf, run_firstCells_none, hfz, hle, storeCells, Result.andThen]
  · obtain ⟨b, off, rfl, hb, hc⟩ := k3 h0
    obtain ⟨v', w', h1, h2, h3, -, h4⟩ := run_append_own_at (P := Try.prog) w B 22 22 9 i0 (.string ⟨#[]⟩) 1 16 Try.underlying22 hi hz0 hz1 hz2 rfl (by decide) v xs.length (tc xs) h ⟨b, off, none⟩ ys.length cap (tc ys) (by rw [tc_length, Nat.mul_one]) (fun j x hx => by
      have hj : j < ys.length := by have := (List.getElem?_eq_some_iff.1 hx).1; rwa [tc_length] at this
      rw [tc_get ys j hj] at hx
      injection hx with hx
      subst hx
      rw [Addr.add_lit]
      exact hc j hj) (tc_one ys) (by unfold maxLen; omega) (by omega) hB
    refine ⟨v', w', h1, ?_, (Below.refl _ w).grown h3 hB (fun q hq => (h.lt q hq).1)⟩
    unfold OwnT
    rw [List.length_append, ← tc_app]
    exact h2
theorem wp_append_run {P : Program} {o : Oper} {a : Act} {w : World} {K : Act → World → Prop} {Q : Exit → Act → World → Prop} (s x : Operand) (t : TypeId)
    (ho : o.op = .call { callee := .builtin .append, args := #[s, x], argTypes := #[t, t] }) {v1 v2 v' : Value} {w' : World} (hs : a.eval s = v1) (hx : a.eval x = v2)
    (hrun : (Builtin.append_ #[t, t] o.type #[v1, v2]).run P w = .ok v' w') (hK : K (a.put o.dst v') w') : o.wp P a w K Q := by
  unfold Oper.wp
  simp [execOp, ho, resolve, invoke, builtin, hs, hx, hrun, Result.andThen]
  exact hK
theorem wpList_append_run {P : Program} {ops : Array Oper} {rest : List Oper} {o : Oper} {a : Act} {w : World} {Q : Exit → Act → World → Prop} (hg : o.guard = none) (s x : Operand) (t : TypeId)
    (ho : o.op = .call { callee := .builtin .append, args := #[s, x], argTypes := #[t, t] }) {v1 v2 v' : Value} {w' : World} (hs : a.eval s = v1) (hx : a.eval x = v2)
    (hrun : (Builtin.append_ #[t, t] o.type #[v1, v2]).run P w = .ok v' w') (h : wpList P ops Q rest (a.put o.dst v') w') : wpList P ops Q (o :: rest) a w :=
  wpList_plain hg fun _ hK => wp_append_run s x t ho hs hx hrun (hK _ _ h)
theorem wp_make_run {P : Program} {o : Oper} {a : Act} {w : World} {K : Act → World → Prop} {Q : Exit → Act → World → Prop} (l c : Operand) (t : TypeId)
    (ho : o.op = .makeSlice t l c) {v1 v2 v' : Value} {w' : World} (hl : a.eval l = v1) (hc : a.eval c = v2)
    (hrun : (Instr.makeSlice t v1 v2).run P w = .ok v' w') (hK : K (a.put o.dst v') w') : o.wp P a w K Q := by
  unfold Oper.wp
  simp [execOp, ho, hl, hc, hrun, Result.andThen]
  exact hK
/-- A slice of texts, made with room for n. -/
theorem make_texts (w : World) (B n : Nat) (hB : B ≤ w.heap.size) (hn : n * 16 ≤ 281474976710656) :
    ∃ w', (Instr.makeSlice 22 (.int .i64 0) (.int .i64 (n : Int))).run Try.prog w = .ok (.slice (some ⟨w.heap.size, 0, none⟩) 0 n) w' ∧ OwnT w' B (.slice (some ⟨w.heap.size, 0, none⟩) 0 n) [] ∧ Below B w w' := by
  obtain ⟨i0, hi, hz0, hz1, hz2⟩ := info_parts Try.info9
  obtain ⟨w1, hmk, hown, hgr⟩ := run_make_own (P := Try.prog) w B 22 9 i0 _ 1 Try.underlying22 hi hz0 hz1 .i64 .i64 n (by rw [hz2]; omega) (by unfold maxLen; omega) hB
  exact ⟨w1, hmk, hown, (Below.refl _ w).grown hgr hB (by intro k hk; cases hk)⟩
theorem wp_make_texts {o : Oper} {a : Act} {w : World} {K : Act → World → Prop} {Q : Exit → Act → World → Prop} (B n : Nat) (l c : Operand)
    (ho : o.op = .makeSlice 22 l c) (hl : a.eval l = .int .i64 0) {q : Int} (hc : a.eval c = .int .i64 q) (hq : q = (n : Int)) (hB : B ≤ w.heap.size) (hn : n * 16 ≤ 281474976710656)
    (hK : ∀ w', OwnT w' B (.slice (some ⟨w.heap.size, 0, none⟩) 0 n) [] → Below B w w' → K (a.put o.dst (.slice (some ⟨w.heap.size, 0, none⟩) 0 n)) w') : o.wp Try.prog a w K Q := by
  subst hq
  obtain ⟨w', h1, h2, h3⟩ := make_texts w B n hB hn
  exact wp_make_run l c _ ho hl hc h1 (hK w' h2 h3)
theorem wp_append_texts {o : Oper} {a : Act} {w : World} {K : Act → World → Prop} {Q : Exit → Act → World → Prop} {B : Nat} {v u : Value} {xs ys : List Bs} (s x : Operand)
    (ho : o.op = .call { callee := .builtin .append, args := #[s, x], argTypes := #[22, 22] }) (ht : o.type = 22) (hs : a.eval s = v) (hx : a.eval x = u)
    (n : Nat) (hnn : (xs ++ ys).length = n) (h : OwnT w B v xs) (hu : Ts w u ys) (hB : B ≤ w.heap.size) (hn : xs.length ≤ 4294967296) (hm : ys.length ≤ 4294967296)
    (hK : ∀ ao cap w', OwnT w' B (.slice ao n cap) (xs ++ ys) → Below B w w' → K (a.put o.dst (.slice ao n cap)) w') : o.wp Try.prog a w K Q := by
  subst hnn
  obtain ⟨v', w', h1, h2, h3⟩ := app_texts w B v xs u ys h hu hB hn hm
  obtain ⟨ao, cap, rfl⟩ := own_shape h2
  exact wp_append_run s x _ ho hs hx (by rw [ht]; exact h1) (hK ao cap w' h2 h3)
theorem wpList_append_texts {ops : Array Oper} {rest : List Oper} {o : Oper} {a : Act} {w : World} {Q : Exit → Act → World → Prop} (hg : o.guard = none) {B : Nat} {v u : Value} {xs ys : List Bs} (s x : Operand)
    (ho : o.op = .call { callee := .builtin .append, args := #[s, x], argTypes := #[22, 22] }) (ht : o.type = 22) (hs : a.eval s = v) (hx : a.eval x = u)
    (n : Nat) (hnn : (xs ++ ys).length = n) (h : OwnT w B v xs) (hu : Ts w u ys) (hB : B ≤ w.heap.size) (hn : xs.length ≤ 4294967296) (hm : ys.length ≤ 4294967296)
    (hK : ∀ ao cap w', OwnT w' B (.slice ao n cap) (xs ++ ys) → Below B w w' → wpList Try.prog ops Q rest (a.put o.dst (.slice ao n cap)) w') : wpList Try.prog ops Q (o :: rest) a w :=
  wpList_plain hg fun _ hKK => wp_append_texts s x ho ht hs hx n hnn h hu hB hn hm (fun ao cap w' h1 h2 => hKK _ _ (hK ao cap w' h1 h2))
/-- Room made for n texts. -/
theorem make_any (n : Nat) (hn : n * 16 ≤ 281474976710656) : ∃ M : Array Value, M.size = n ∧ ∀ W : World, (Instr.makeSlice 22 (.int .i64 0) (.int .i64 (n : Int))).run Try.prog W = .ok (.slice (some ⟨W.heap.size, 0, none⟩) 0 n) (W.alloc (.cells M 9)) := by
  obtain ⟨i0, hi, hz0, hz1, hz2⟩ := info_parts Try.info9
  refine ⟨madeCells (Value.string ⟨#[]⟩).cells (((n : Nat) : Int).toNat * i0.size), by rw [size_madeCells, hz1]; simp, fun W => ?_⟩
  have h := run_make (P := Try.prog) W 22 9 i0 (.string ⟨#[]⟩) Try.underlying22 hi hz0 .i64 .i64 0 (n : Int) (by omega) (by omega) (by rw [hz2]; omega) (by omega)
  simpa using h
theorem own_made (W : World) (B n : Nat) (M : Array Value) (hM : M.size = n) (hB : B ≤ W.heap.size) (hn : n * 16 ≤ 281474976710656) : OwnT (W.alloc (.cells M 9)) B (.slice (some ⟨W.heap.size, 0, none⟩) 0 n) [] :=
  ⟨by simp [tc], .inr ⟨W.heap.size, n, M, rfl, hB, heap_last W _, Nat.zero_le _, by unfold maxLen; omega, by omega, by simp [tc]⟩⟩
end Go.Proofs.Ytkihldkaiddbkaa
