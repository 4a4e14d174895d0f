/-
  Leaves made and read. Conditions: the table holds its numbers; lengths within reach.
-/
import Derived.Test.YtdbmngbinhemeabGreatDoorROTakes
import Derived.Test.YtdbmngbinhemeabGreatDoorRP3
import Derived.Deep.Onto
namespace Go.Proofs.YtdbmngbinhemeabGreatDoor
open Go.RowKit

theorem flat_get {α : Type} (cs : α → List Value) (k : Nat) (hk : ∀ x, (cs x).length = k) : ∀ (xs : List α) (j i : Nat) (hj : j < xs.length), i < k → (xs.flatMap cs)[j * k + i]? = (cs xs[j])[i]?
  | [], j, i, hj, _ => by simp at hj
  | x :: xs, 0, i, _, hi => by
    rw [List.flatMap_cons, Nat.zero_mul, Nat.zero_add, List.getElem?_append_left (by rw [hk]; exact hi)]
    rfl
  | x :: xs, j + 1, i, hj, hi => by
    rw [List.flatMap_cons, List.getElem?_append_right (by rw [hk, Nat.add_mul]; omega), hk, show (j + 1) * k + i - k = j * k + i from by rw [Nat.add_mul]; omega, flat_get cs k hk xs j i (by simpa using hj) hi]
    rfl
theorem ls_of_own {α : Type} {w : World} {base k : Nat} {t : TypeId} {v : Value} {cs : α → List Value} {xs : List α} (hk : ∀ x, (cs x).length = k) (h : w.ownsRow base t k v xs.length (xs.flatMap cs)) : Ls w.heap.size w k cs v xs := by
  have h' := h
  obtain ⟨h1, h2⟩ := h
  rcases h2 with ⟨rfl, hn⟩ | ⟨g, cap, cur, rfl, hg, hh, hc, hm, hs, ht⟩
  · obtain rfl : xs = [] := List.eq_nil_of_length_eq_zero hn
    exact Ls.nil _ _ _ _
  · refine ⟨_, _, rfl, hc, hm, fun _ => ⟨g, 0, rfl, lt_of_heap hh, fun j hj i u hu => ?_⟩⟩
    have hi : i < k := by
      have := (List.getElem?_eq_some_iff.1 hu).1
      rwa [hk] at this
    have := h'.cells (g := g) rfl (j * k + i) u (by rw [flat_get cs k hk xs j i hj hi]; exact hu)
    rw [Addr.add_lit] at this
    rw [Nat.add_assoc]
    exact this
theorem own_below {w w' : World} {base k n : Nat} {t : TypeId} {v : Value} {xs : List Value} (h : w.ownsRow base t k v n xs) (hb : Below w.heap.size w w') : w'.ownsRow base t k v n xs :=
  h.kept (row := none) (gb_below hb) (by cases hq : v.ownBlock with | none => exact .inl rfl | some k => exact .inr (by simp))
/-- What bytes behind a mark say. -/
def taken {α : Type} (m : Bs) (one : Bs → Pos → α × Pos) (right : α → Bool) (b : Bs) : Option α :=
  if (one (begin m b).1 (begin m b).2).2 = some (begin m b).1.length ∧ right (one (begin m b).1 (begin m b).2).1 = true then some (one (begin m b).1 (begin m b).2).1 else none
theorem taken_iff {α : Type} {m : UInt8} {one : Bs → Pos → α × Pos} {right : α → Bool} {b : Bs} {enc : α → Bs} (hstop : (one [] none).2 = none) (h : ∀ l, l.length ≤ b.length → ∀ x, said one right l = some x ↔ right x = true ∧ l = enc x) (x : α) :
    taken [m] one right b = some x ↔ right x = true ∧ b = m :: enc x := by
  unfold taken begin
  cases b with
  | nil =>
    simp only [List.isPrefixOf]
    constructor
    · intro h1
      simp [hstop] at h1
    · rintro ⟨_, h1⟩
      cases h1
  | cons c l =>
    by_cases hc : m = c
    · subst hc
      have hp : List.isPrefixOf [m] (m :: l) = true := by simp [List.isPrefixOf]
      rw [if_pos hp]
      have := h l (by simp) x
      unfold said at this
      simp only [List.length_cons, List.length_nil, Nat.zero_add, List.drop_succ_cons, List.drop_zero]
      rw [this]
      simp
    · have hp : List.isPrefixOf [m] (c :: l) = false := by simp [List.isPrefixOf, hc]
      rw [hp]
      simp only [Bool.false_eq_true, if_false]
      constructor
      · intro h1
        simp [hstop] at h1
      · rintro ⟨_, h1⟩
        injection h1 with h1 _
        exact absurd h1.symm hc
theorem pairC_length (x : Pair) : (pairC x).length = 2 := rfl
theorem partC_length (x : Part) : (partC x).length = 2 := rfl
theorem linkC_length (x : Link) : (linkC x).length = 3 := rfl
theorem idC_length (x : Bs) : (idC x).length = 1 := rfl
theorem begin_le (p b : Bs) : (begin p b).1.length ≤ b.length := by
  unfold begin
  split
  · simp
  · simp
def takenLeaf (b : Bs) : Option (List Pair) := taken [76] gLeaf (leafOk ltB) b
/-- What TakeLeaf answers. -/
def LeafSaid (B : Nat) (b : Bs) (e : Ending) (w' : World) : Prop :=
  match takenLeaf b with
  | some f => ∃ v, e = .returned (.tuple #[v, .int .i64 0]) ∧ w'.ownsRow B 37 2 v f.length (f.flatMap pairC)
  | none => e = .returned (.tuple #[.slice none 0 0, .int .i64 81])
set_option maxRecDepth 20000 in
theorem takeLeaf_any (w : World) (b : Bs) (hb : b.length ≤ 140737488355328) :
    Calls Tryz.prog 11 #[.string (strB b)] w fun e w' => LeafSaid w.heap.size b e w' ∧ Below w.heap.size w w' := by
  have hrd := read_any w b [76] hb (by simp)
  have hle := begin_le [76] b
  unfold LeafSaid takenLeaf taken
  generalize hx : begin [76] b = x at *
  obtain ⟨l, s⟩ := x
  simp only at *
  have hl : l.length ≤ 140737488355328 := by omega
  generalize hy : gLeaf l s = y at *
  obtain ⟨f, s2⟩ := y
  simp only at *
  have hrl : rL l 64 (rPair l l.length l.length) s = (f, s2) := hy
  clear hx hy
  by_cases h1 : s2 = some l.length
  · have hdec := decide_eq_true h1
    by_cases h2 : leafOk ltB f = true
    · rw [if_pos ⟨h1, h2⟩]
      simp only
      go_enter Tryz.func11, Tryz.ntmps11
      go_wp2_with fail
      refine hrd.mono ?_
      rintro e w1 ⟨g, rfl, hR1, hg1, hb1⟩
      have hT := takePairs_any w1 g l s 64 (by omega) hR1 hl
      rw [show ((64 : Nat) : Int) = 64 from rfl, hrl] at hT
      simp only at hT
      clear hrd hR1
      go_wp2_with fail
      refine hT.mono ?_
      rintro e w2 ⟨v, rfl, hown2, hR2, hgb2⟩
      clear hT
      have hb2 : Below w.heap.size w w2 := hb1.grown hgb2 hb1.size (fun k hk => by injection hk with hk; omega)
      have hW := wasAll_any w2 g l s2 hR2
      rw [hdec] at hW
      obtain ⟨ao, cap, rfl, -⟩ := own_form hown2
      have HO := hide (World.ownsRow.mono hown2 hb1.size)
      have HB := hide hb2
      clear hown2 hb2 hR2 hgb2 hb1 hg1
      go_wp2_with fail
      refine hW.mono ?_
      rintro e w3 ⟨rfl, hb3⟩
      have hown3 := own_below HO.out hb3
      have HB3 := hide (HB.out.trans (hb3.mono HB.out.size))
      clear hb3 hW
      have hlr := leafRight_any w3 f _ (ls_of_own pairC_length hown3)
      rw [h2] at hlr
      have HO3 := hide hown3
      clear hown3
      go_wp2_with fail
      refine hlr.mono ?_
      rintro e w4 ⟨rfl, hb4⟩
      have hown4 := own_below HO3.out hb4
      have HB4 := hide (HB3.out.trans (hb4.mono HB3.out.size))
      have HO4 := hide hown4
      clear hb4 hown4 hlr
      go_wp2
      go_ret2
      exact ⟨⟨_, rfl, HO4.out⟩, HB4.out⟩
    · have h2 := Bool.eq_false_iff.2 h2
      rw [if_neg (by rw [h2]; simp)]
      simp only
      go_enter Tryz.func11, Tryz.ntmps11
      go_wp2_with fail
      refine hrd.mono ?_
      rintro e w1 ⟨g, rfl, hR1, hg1, hb1⟩
      have hT := takePairs_any w1 g l s 64 (by omega) hR1 hl
      rw [show ((64 : Nat) : Int) = 64 from rfl, hrl] at hT
      simp only at hT
      clear hrd hR1
      go_wp2_with fail
      refine hT.mono ?_
      rintro e w2 ⟨v, rfl, hown2, hR2, hgb2⟩
      clear hT
      have hb2 : Below w.heap.size w w2 := hb1.grown hgb2 hb1.size (fun k hk => by injection hk with hk; omega)
      have hW := wasAll_any w2 g l s2 hR2
      rw [hdec] at hW
      obtain ⟨ao, cap, rfl, -⟩ := own_form hown2
      have HO := hide (World.ownsRow.mono hown2 hb1.size)
      have HB := hide hb2
      clear hown2 hb2 hR2 hgb2 hb1 hg1
      go_wp2_with fail
      refine hW.mono ?_
      rintro e w3 ⟨rfl, hb3⟩
      have hown3 := own_below HO.out hb3
      have HB3 := hide (HB.out.trans (hb3.mono HB.out.size))
      clear hb3 hW
      have hlr := leafRight_any w3 f _ (ls_of_own pairC_length hown3)
      rw [h2] at hlr
      have HO3 := hide hown3
      clear hown3
      go_wp2_with fail
      refine hlr.mono ?_
      rintro e w4 ⟨rfl, hb4⟩
      have hown4 := own_below HO3.out hb4
      have HB4 := hide (HB3.out.trans (hb4.mono HB3.out.size))
      have HO4 := hide hown4
      clear hb4 hown4 hlr
      go_wp2
      go_ret2
      exact ⟨rfl, HB4.out⟩
  · have hdec := decide_eq_false h1
    rw [if_neg (fun h => h1 h.1)]
    simp only
    go_enter Tryz.func11, Tryz.ntmps11
    go_wp2_with fail
    refine hrd.mono ?_
    rintro e w1 ⟨g, rfl, hR1, hg1, hb1⟩
    have hT := takePairs_any w1 g l s 64 (by omega) hR1 hl
    rw [show ((64 : Nat) : Int) = 64 from rfl, hrl] at hT
    simp only at hT
    clear hrd hR1
    go_wp2_with fail
    refine hT.mono ?_
    rintro e w2 ⟨v, rfl, hown2, hR2, hgb2⟩
    clear hT
    have hb2 : Below w.heap.size w w2 := hb1.grown hgb2 hb1.size (fun k hk => by injection hk with hk; omega)
    have hW := wasAll_any w2 g l s2 hR2
    rw [hdec] at hW
    obtain ⟨ao, cap, rfl, -⟩ := own_form hown2
    have HO := hide (World.ownsRow.mono hown2 hb1.size)
    have HB := hide hb2
    clear hown2 hb2 hR2 hgb2 hb1 hg1
    go_wp2_with fail
    refine hW.mono ?_
    rintro e w3 ⟨rfl, hb3⟩
    have hown3 := own_below HO.out hb3
    have HB3 := hide (HB.out.trans (hb3.mono HB.out.size))
    clear hb3 hW
    clear hown3
    go_wp2
    go_ret2
    exact ⟨rfl, HB3.out⟩

theorem objV_def (l : Bs) : objV l = .agg #[.string (strB (sha l)), .string (strB l)] := rfl
theorem results_cell_tmp_row {P : Program} {fn : Func} {p u : Tmp} {ty : TypeId} (h : fn.results = #[.cell p ty, .tmp u]) (tmps : Array Value) (w : World) (g : Nat) (t : TypeId) (cs : Array Value) (fr : Nat × Nat) (d : TypeDesc)
    (hp : tmps.getD p undef = .pointer (some ⟨g, 0, none⟩)) (hg : w.heap[g]? = some (.cells cs t fr))
    (hu : P.underlying ty = some d) (hd : (match d with | .struct _ | .array _ _ => true | _ => false) = true) (hi : (P.info? ty).map (·.size) = some cs.size) :
    (results fn tmps).run P w = .ok (.tuple #[.agg cs, tmps.getD u undef]) w := by
  have hp' : tmps[p]?.getD undef = .pointer (some ⟨g, 0, none⟩) := by simpa using hp
  rw [results_cell_tmp h]
  simp [hp', asAddr, run_loadVar_row w g t ty cs fr d hg hu hd hi]
/-- What is made: an object, or the error. -/
def made (ok : Bool) (b : Bs) : Value := if ok then .tuple #[objV b, .int .i64 0] else .tuple #[.agg #[.string ⟨#[]⟩, .string ⟨#[]⟩], .int .i64 80]
theorem listB_le {α : Type} (enc : α → Bs) (k : Nat) (xs : List α) (h : ∀ x ∈ xs, (enc x).length ≤ k) : (listB enc xs).length ≤ 10 + xs.length * k := by
  have hn := num_length xs.length
  have : (xs.flatMap enc).length ≤ xs.length * k := by
    clear hn
    induction xs with
    | nil => simp
    | cons x r ih =>
      have h1 := h x (by simp)
      have h2 := ih (fun y hy => h y (by simp [hy]))
      rw [List.flatMap_cons, List.length_append, List.length_cons, Nat.add_mul]
      omega
  unfold listB
  rw [List.length_append]
  omega
theorem leafB_le {f : List Pair} (h : leafOk ltB f = true) : (leafB f).length ≤ 20000 := by
  simp only [leafOk, isKeyB, Bool.and_eq_true, decide_eq_true_eq, List.all_eq_true] at h
  have := listB_le pairB 212 f (fun x hx => by
    have h1 := h.1.2 x hx
    have n1 := num_length (x.1.length : Int)
    have n2 := num_length (x.2.length : Int)
    simp only [pairB, txt, List.length_append]
    omega)
  unfold leafB
  have h2 := h.1.1
  have h3 : f.length * 212 ≤ 64 * 212 := Nat.mul_le_mul_right _ h2
  omega
end Go.Proofs.YtdbmngbinhemeabGreatDoor
