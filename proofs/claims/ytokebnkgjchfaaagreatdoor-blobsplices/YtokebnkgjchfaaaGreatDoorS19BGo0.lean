/-
  Two operations of a region that may come up in either order, and end alike; where placed parts begin and end. No condition.
-/
import Derived.Test.YtokebnkgjchfaaaGreatDoorS18BAsk
namespace Go.Proofs.YtokebnkgjchfaaaGreatDoor
open Go.RowKit
section
variable {P : Program} {l : List Oper} {Q : Exit → Act → World → Prop} {md : Region.Mode} {S : World → Prop}
end
set_option maxRecDepth 20000 in
theorem begin_any (w : World) (id : ByteArray) (z a : Int) :
    Calls Tryz.prog 48 #[.agg #[.string id, .int .i64 z, .int .i64 a]] w fun e w' => e = .returned (.int .i64 a) ∧ w' = w.alloc (.cells #[.string id, .int .i64 z, .int .i64 a] 82) := by
  go_enter Tryz.func48, Tryz.ntmps48
  go_wp2
  go_ret
  exact ⟨rfl, rfl⟩
set_option maxRecDepth 20000 in
theorem end_any (w : World) (id : ByteArray) (z a : Int) (hz : 0 ≤ z) (ha : 0 ≤ a) (h : a + z ≤ 262144) :
    Calls Tryz.prog 49 #[.agg #[.string id, .int .i64 z, .int .i64 a]] w fun e w' => e = .returned (.int .i64 (a + z)) ∧ w' = w.alloc (.cells #[.string id, .int .i64 z, .int .i64 a] 82) := by
  go_enter Tryz.func49, Tryz.ntmps49
  go_wp2
  go_ret
  exact ⟨rfl, rfl⟩
theorem enters_own {P : Program} {f : FuncId} {fn : Func} {c : Code} (h1 : P.funcs[f]? = some fn) (h2 : (fn.name == "runtime.NumGoroutine") = false) (h3 : fn.body = some c) (args : Array Value) (w : World) : (callFunc f args).run P w = .ok (.enter f args) w := by
  have h4 : fn.name ≠ "runtime.NumGoroutine" := by simpa using h2
  simp [callFunc, h1, h4, h3, mark]
theorem enters_begin : ∀ args w, (callFunc 48 args).run Tryz.prog w = .ok (.enter 48 args) w := enters_own Tryz.func48 (by kernel_rfl) rfl
theorem enters_end : ∀ args w, (callFunc 49 args).run Tryz.prog w = .ok (.enter 49 args) w := enters_own Tryz.func49 (by kernel_rfl) rfl
/-- A function value that answers x. -/
def NextV (x : Int) (u : Value) : Prop := ∃ f v, u = .func (.func f) #[v] #[] ∧ (∀ args w, (callFunc f args).run Tryz.prog w = .ok (.enter f args) w) ∧ ∀ W, Calls Tryz.prog f #[v] W fun e w' => e = .returned (.int .i64 x) ∧ Below W.heap.size W w'
theorem next_begin (id : ByteArray) (z a : Int) : NextV a (.func (.func 48) #[.agg #[.string id, .int .i64 z, .int .i64 a]] #[]) :=
  ⟨_, _, rfl, enters_begin, fun W => (begin_any W id z a).mono fun _e _w' h => ⟨h.1, h.2 ▸ (Below.refl _ _).alloc (Nat.le_refl _) _⟩⟩
theorem next_end (id : ByteArray) (z a : Int) (hz : 0 ≤ z) (ha : 0 ≤ a) (h : a + z ≤ 262144) : NextV (a + z) (.func (.func 49) #[.agg #[.string id, .int .i64 z, .int .i64 a]] #[]) :=
  ⟨_, _, rfl, enters_end, fun W => (end_any W id z a hz ha h).mono fun _e _w' h => ⟨h.1, h.2 ▸ (Below.refl _ _).alloc (Nat.le_refl _) _⟩⟩
theorem Mv.own0 {B B' : Nat} {ts : List TypeId} {w w' : World} (h : Mv B ts Option.none w w') {v : Value} {n k : Nat} {xs : List Value} {e : TypeId} (hown : w.ownsRow B' e k v n xs) (he : e ∉ ts) : w'.ownsRow B' e k v n xs :=
  h.own hown he (by cases hq : v.ownBlock with | none => exact .inl rfl | some q => exact .inr (by simp))
/-- A text laid behind a row of bytes. -/
theorem app_str {B : Nat} {w : World} {v : Value} {l m : Bs} (h : w.ownsRow B 5 1 v l.length (bc l)) (hsz : l.length + m.length ≤ 140737488355328) (hB : B ≤ w.heap.size) :
    ∃ v' w', (Builtin.append_ #[74, 9] 74 #[v, .string (strB m)]).run Tryz.prog w = .ok v' w' ∧ w'.ownsRow B 5 1 v' (l ++ m).length (bc (l ++ m)) ∧ w.grownBy w' v.ownBlock := by
  obtain ⟨i0, hi, hz0, hz1, hz2⟩ := info_parts Tryz.infoB
  have hds := strB_size m
  obtain ⟨v3, w3, hrun, own3, hgr3, -⟩ := Lib.run_append_own_string (P := Tryz.prog) w B 74 9 74 5 i0 Tryz.underlying74 Tryz.underlying9 hi hz0 hz1 hz2 v l.length (bc l) h (strB m) (by unfold maxLen; omega) (by omega) hB
  have e3 : Lib.strCells (strB m) = bc m := by show bc (strB m).data.toList = _; rw [strB_list]
  rw [e3, ← bc_append, hds, ← List.length_append] at own3
  exact ⟨v3, w3, hrun, own3, hgr3⟩
theorem heap_set4d {w : World} {g : Nat} {v0 v1 v2 v3 u3 : Value} {t : TypeId} (h : w.heap[g]? = some (.cells #[v0, v1, v2, v3] t)) : (w.setCell ⟨g, 3, none⟩ u3).heap[g]? = some (.cells #[v0, v1, v2, u3] t) := by
  rw [heap_setCell _ _ _ _ _ _ _ h]
  simp
theorem slice_str (W : World) (l : Bs) (i j : Nat) (h1 : i ≤ j) (h2 : j ≤ l.length) : (Instr.slice 9 (.string (strB l)) (some (.int .i64 (i : Int))) (some (.int .i64 (j : Int))) none).run Tryz.prog W = .ok (.string (strB ((l.take j).drop i))) W := by
  rw [run_slice_string W _ _ _ _ _ _ Tryz.underlying9 (by omega) (by omega) (by rw [strB_size]; omega), Int.toNat_natCast, Int.toNat_natCast, ext_strB]
/-- The reading g, made since B: its get, its bounds, what was read. -/
def RdW (B : Nat) (w : World) (g : Nat) (fv : Value) (lo hi : Int) (data : Bs) : Prop :=
  B ≤ g ∧ ∃ vd, w.heap[g]? = some (.cells #[fv, .int .i64 lo, .int .i64 hi, vd] 79) ∧ w.ownsRow B 5 1 vd data.length (bc data)
/-- What reading moves. -/
abbrev gts : List TypeId := [9, 37, 5, 79]
/-- What of it a get knows nothing of. -/
abbrev rts : List TypeId := [5, 96, 79, 82]
theorem RdW.keep {B B' : Nat} {w w' : World} {g : Nat} {fv : Value} {lo hi : Int} {data : Bs} {ts : List TypeId} (h : RdW B w g fv lo hi data) (hm : Mv B' ts none w w') (h1 : 79 ∉ ts) (h2 : 5 ∉ ts) : RdW B w' g fv lo hi data := by
  obtain ⟨hg, vd, hh, ho⟩ := h
  exact ⟨hg, vd, hm.k _ _ _ _ hh h1 (by simp), hm.own ho h2 (by cases hq : vd.ownBlock with | none => exact .inl rfl | some q => exact .inr (by simp))⟩
theorem RdW.below {B : Nat} {w w' : World} {g : Nat} {fv : Value} {lo hi : Int} {data : Bs} (h : RdW B w g fv lo hi data) (hb : Below w.heap.size w w') : RdW B w' g fv lo hi data :=
  h.keep (Mv.of (B := 0) (ts := []) hb (Nat.zero_le _)) (by simp) (by simp)
end Go.Proofs.YtokebnkgjchfaaaGreatDoor
