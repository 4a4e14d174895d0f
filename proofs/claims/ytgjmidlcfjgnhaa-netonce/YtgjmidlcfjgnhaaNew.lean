/-
  New; Sent, Left; of nothing. Conditions: fates lie there, within reach.
-/
import Derived.Test.YtgjmidlcfjgnhaaAsk
namespace Go.Proofs.Ytgjmidlcfjgnhaa
open Go.RowKit

def okF (f : Ft) : Bool := decide (0 ≤ f.1 ∧ f.1 ≤ 4)
theorem Fs.below {w w' : World} {v : Value} {l : List Ft} (h : Fs w v l) (hb : Below w.heap.size w w') : Fs w' v l := by
  obtain ⟨ao, cap, hv, h1, h2, h4⟩ := h
  refine ⟨ao, cap, hv, h1, h2, fun hl => ?_⟩
  obtain ⟨b, off, ha, hlt, hc⟩ := h4 hl
  exact ⟨b, off, ha, Nat.lt_of_lt_of_le hlt hb.size, fun j hj i u hu => (hb.cell (p := ⟨b, off + j * 3 + i, none⟩) hlt).trans (hc j hj i u hu)⟩
set_option maxRecDepth 20000 in
theorem isRight_any (w : World) (f : Ft) : Calls Try.prog 19 #[fv f] w fun e w' => e = .returned (.bool (okF f)) ∧ Below w.heap.size w w' := by
  obtain ⟨k, t, b⟩ := f
  have hb : Below w.heap.size w (w.alloc (.cells #[.int .i64 k, .int .i64 t, .int .u8 (b.toNat : Int)] 35)) := (Below.refl _ _).alloc (Nat.le_refl _) _
  unfold fv okF
  simp only
  by_cases h1 : 0 ≤ k
  · by_cases h2 : k ≤ 4
    · have d1 : decide (0 ≤ k) = true := decide_eq_true h1
      have d2 : decide (k ≤ 4) = true := decide_eq_true h2
      go_enter Try.func19, Try.ntmps19
      go_wp2
      go_ret
      exact ⟨ret_bool (by simp [h1, h2]), hb⟩
    · have d1 : decide (0 ≤ k) = true := decide_eq_true h1
      have d2 : decide (k ≤ 4) = false := decide_eq_false h2
      go_enter Try.func19, Try.ntmps19
      go_wp2
      go_ret
      exact ⟨ret_bool (by simp), hb⟩
  · have d1 : decide (0 ≤ k) = false := decide_eq_false h1
    go_enter Try.func19, Try.ntmps19
    go_wp2
    go_ret
    exact ⟨ret_bool (by simp), hb⟩

/-! ### a row of fates of its own -/
def OwnF (w : World) (B : Nat) (v : Value) (l : List Ft) : Prop := w.ownsRow B 35 3 v l.length (l.flatMap fc)
theorem flatF_at : ∀ (ys : List Ft) (j i : Nat) (h : j < ys.length) (u : Value), (fc (ys[j]'h))[i]? = some u → (ys.flatMap fc)[j * 3 + i]? = some u
  | y :: ys, 0, i, _, u, hu => by
    have hi : i < 3 := by have := (List.getElem?_eq_some_iff.1 hu).1; simpa [fc] using this
    rw [List.flatMap_cons, Nat.zero_mul, Nat.zero_add, List.getElem?_append_left (by simpa [fc] using hi)]
    exact hu
  | y :: ys, j + 1, i, h, u, hu => by
    have := flatF_at ys j i (by simpa using h) u hu
    rw [List.flatMap_cons, List.getElem?_append_right (by simp [fc]; omega)]
    rw [show (j + 1) * 3 + i - (fc y).length = j * 3 + i by simp [fc]; omega]
    exact this
theorem flatF_len (l : List Ft) : (l.flatMap fc).length = l.length * 3 := by
  induction l with
  | nil => rfl
  | cons f r ih => rw [List.flatMap_cons, List.length_append, ih, List.length_cons]; simp [fc]; omega
theorem flatF_one (l : List Ft) : ∀ u ∈ l.flatMap fc, u.oneCell' = true := by
  intro u hu
  obtain ⟨f, -, hf⟩ := List.mem_flatMap.1 hu
  simp [fc] at hf
  rcases hf with rfl | rfl | rfl <;> rfl
/-- A cell of a row of fates, by its place. -/
theorem flatF_get (ys : List Ft) (k : Nat) (u : Value) (h : (ys.flatMap fc)[k]? = some u) : ∃ j i, ∃ hj : j < ys.length, k = j * 3 + i ∧ (fc (ys[j]'hj))[i]? = some u := by
  have hk : k < ys.length * 3 := by have := (List.getElem?_eq_some_iff.1 h).1; rwa [flatF_len] at this
  have hj : k / 3 < ys.length := by omega
  have hi : k % 3 < 3 := Nat.mod_lt _ (by omega)
  have h3 : (fc (ys[k / 3]'hj)).length = 3 := rfl
  have hx := flatF_at ys (k / 3) (k % 3) hj _ (List.getElem?_eq_getElem (by rw [h3]; exact hi))
  rw [show k / 3 * 3 + k % 3 = k by omega, h] at hx
  exact ⟨k / 3, k % 3, hj, by omega, by rw [List.getElem?_eq_getElem (by rw [h3]; exact hi)]; exact hx.symm⟩
theorem OwnF.fs {B : Nat} {w : World} {v : Value} {l : List Ft} (h : OwnF w B v l) : Fs w v l := by
  have h' := h
  obtain ⟨-, ⟨rfl, h0⟩ | ⟨g, cap, cur, rfl, -, hh, hc, hm, -⟩⟩ := h'
  · obtain rfl : l = [] := List.eq_nil_of_length_eq_zero h0
    exact Fs.nil w
  · refine ⟨_, _, rfl, hc, hm, fun _ => ⟨g, 0, rfl, lt_of_heap hh, fun j hj i u hu => ?_⟩⟩
    have := World.ownsRow.cells h (g := g) rfl (j * 3 + i) u (flatF_at l j i hj u hu)
    rw [Addr.add_lit] at this
    rwa [Nat.zero_add] at this ⊢
theorem OwnF.kind {w : World} {B : Nat} {v : Value} {l : List Ft} (h : OwnF w B v l) {g : Nat} (hg : v.ownBlock = some g) : B ≤ g ∧ ∃ c fr, w.heap[g]? = some (.cells c 35 fr) := by
  obtain ⟨-, ⟨rfl, -⟩ | ⟨q, cap, cur, rfl, hq, hh, -⟩⟩ := h
  · cases hg
  · injection hg with hg
    subst hg
    exact ⟨hq, _, _, hh⟩
/-- Fates laid behind a row of fates. -/
theorem app_fates (w : World) (B : Nat) (v : Value) (xs : List Ft) (u : Value) (ys : List Ft) (h : OwnF w B v xs) (hu : Fs w u ys) (hB : B ≤ w.heap.size) (hn : (xs.length + ys.length) * 24 ≤ 140737488355328) :
    ∃ v' w', (Builtin.append_ #[22, 22] 22 #[v, u]).run Try.prog w = .ok v' w' ∧ OwnF w' B v' (xs ++ ys) ∧ w.grownBy w' v.ownBlock ∧ (v'.ownBlock = v.ownBlock ∨ v'.ownBlock = some w.heap.size) := by
  obtain ⟨i0, hi, hz0, hz1, hz2⟩ := info_parts Try.infoF
  obtain ⟨ao, cap, rfl, k1, k2, k3⟩ := hu
  by_cases h0 : ys = []
  · subst h0
    refine ⟨v, w, ?_, by simpa using h, ⟨rfl, rfl, rfl, Nat.le_refl _, fun _ _ _ => rfl⟩, .inl rfl⟩
    have hfz : ∀ (size : Nat) (b : Addr) (c : Nat), (Builtin.firstCells size 0 (.slice (some b) 0 c)).run Try.prog w = .ok #[] w := fun size b c => by
      simpa using run_firstCells_some (P := Try.prog) (w := w) size 0 b 0 c [] (by simp) (by simp)
    have h' := h
    obtain ⟨-, ⟨rfl, h0⟩ | ⟨g, cp, cur, rfl, -, -, hle, -⟩⟩ := h'
    · cases ao <;> simp [Builtin.append_, run_underlying Try.underlying22, sizeOf, typeInfo, zeroValue, hi, Builtin.lenOf, run_firstCells_none, hfz,Result.andThen]
    · cases ao <;> simp [Builtin.append_, run_underlying Try.underlying22, sizeOf, typeInfo, zeroValue, hi, Builtin.lenOf, run_firstCells_none, hfz, hle, storeCells, Result.andThen]
  · obtain ⟨b, off, rfl, hb, hc⟩ := k3 h0
    obtain ⟨v', w', h1, h2, h3, -, h4⟩ := run_append_own_at (P := Try.prog) w B 22 22 35 i0 (.agg #[.int .i64 0, .int .i64 0, .int .u8 0]) 3 24 Try.underlying22 hi hz0 hz1 hz2 rfl (by decide) v xs.length (xs.flatMap fc) h ⟨b, off, none⟩ ys.length cap (ys.flatMap fc) (flatF_len ys) (fun j x hx => by
      obtain ⟨q, i, hq, rfl, hx'⟩ := flatF_get ys j x hx
      rw [Addr.add_lit, ← Nat.add_assoc]
      exact hc q hq i x hx') (flatF_one ys) (by unfold maxLen; omega) (by omega) hB
    refine ⟨v', w', h1, ?_, h3, h4⟩
    unfold OwnF
    rw [List.length_append, List.flatMap_append]
    exact h2
theorem eqlS (w : World) (a : Option Addr) (n c n' c' : Nat) : (binOp .eql 22 (.slice a n c) (.slice none n' c')).run Try.prog w = .ok (.bool a.isNone) w := Lib.run_eql_slice_nil w _ _ a n c n' c' Try.underlying22
theorem ownF_lit0 (w : World) : OwnF (w.alloc (.cells #[] 35)) w.heap.size (.slice (some ⟨w.heap.size, 0, none⟩) 0 0) [] :=
  ⟨rfl, .inr ⟨w.heap.size, 0, #[], rfl, Nat.le_refl _, heap_last w _, Nat.le_refl _, by unfold maxLen; omega, rfl, rfl⟩⟩
set_option maxRecDepth 20000 in
/-- slices.Clone. -/
theorem fclone_any (w : World) (v : Value) (l : List Ft) (h : Fs w v l) (hl : l.length * 24 ≤ 140737488355328) :
    Calls Try.prog 20 #[v] w fun e w' => ∃ v', e = .returned v' ∧ OwnF w' w.heap.size v' l ∧ Below w.heap.size w w' := by
  have h' := h
  obtain ⟨ao, cap, rfl, h1, h2, h4⟩ := h'
  have hq := eqlS
  cases ao with
  | none =>
    obtain rfl : l = [] := by
      by_cases hl0 : l = []
      · exact hl0
      · obtain ⟨b, off, hh, _⟩ := h4 hl0
        cases hh
    clear h4 h2 h1 h
    go_enter Try.func20, Try.ntmps20
    go_wp2
    go_ret
    exact ⟨_, rfl, World.ownsRow_nil _ _ _ _, Below.refl _ _⟩
  | some ad =>
    have hb0 : Below w.heap.size w (w.alloc (.cells #[] 35)) := (Below.refl _ _).alloc (Nat.le_refl _) _
    obtain ⟨v', w', hrun, ho, hgr, hnx⟩ := app_fates (w.alloc (.cells #[] 35)) w.heap.size _ [] _ l (ownF_lit0 w) (h.below hb0) hb0.size (by simpa using hl)
    have HF := hide (And.intro ho (hb0.grown hgr hb0.size (fun k hk => by have hk' : some w.heap.size = some k := hk; injection hk' with hk'; omega)))
    obtain ⟨a', c', rfl⟩ := own_shape ho
    simp only [List.nil_append] at hrun HF
    clear h4 h2 h1 h ho hgr hnx hb0
    go_enter Try.func20, Try.ntmps20
    go_wp2_with (at_builtin; refine wpList_append_run rfl (.tmp 5) (.tmp 6) 22 rfl rfl rfl hrun ?_)
    go_ret
    exact ⟨_, rfl, HF.out.1, HF.out.2⟩
set_option maxRecDepth 20000 in
theorem newWay_any (w : World) (n : Nat) :
    Calls Try.prog 21 #[.func (.func 22) #[.pointer (some ⟨n, 0, none⟩)] #[]] w fun e w' => e = .returned (wayV w.heap.size (w.heap.size + 1)) ∧ w'.heap[w.heap.size]? = some (tfo n) ∧ w'.heap[w.heap.size + 1]? = some (bxo (.slice none 0 0)) ∧ w'.heap.size = w.heap.size + 2 ∧ Chg (fun _ => False) w w' := by
  go_enter Try.func21, Try.ntmps21
  go_wp2
  go_ret
  refine ⟨rfl, heap_past _ (heap_last w _), ?_, by simp, ((Chg.refl _ _).alloc _).alloc _⟩
  have := heap_last (w.alloc (tfo n)) (bxo (.slice none 0 0))
  rwa [World.size_alloc] at this
end Go.Proofs.Ytgjmidlcfjgnhaa
