/-
  Texts joined: PRow, PSteps, PNode.
-/
import Derived.Test.YtimbleaafoiidaaGreatDoorE17PPlain
import Derived.Test.YtimbleaafoiidaaGreatDoorE18ORBranch2
import Derived.Test.YtimbleaafoiidaaGreatDoorE2HSpread
import Derived.RangeFuncNested
import Derived.RangeFuncBound
import Derived.RangeFuncCalls
import Derived.RangeFuncLeaves
import Derived.RangeFuncBox
import Derived.Shelf.Abstract
import Derived.Shelf.RegionOpen
import Derived.WalkKit
import Derived.OwnWalkIn
import Derived.TacticsInMore
import Derived.LoopNIn
import Derived.LoopIn
/-
  Rows of links, pairs, objects: one more, many more. Conditions: not too many.
-/
namespace Go.Proofs.YtimbleaafoiidaaGreatDoor
open Go.RowKit

theorem Tryz.zObj : (Tryz.prog.info? 69).map (fun i => (i.zero, i.size, i.bytes)) = some (some (.agg #[.string ⟨#[]⟩, .string ⟨#[]⟩]), 2, 32) := by kernel_rfl
theorem own_low {w : World} {B B' k n : Nat} {e : TypeId} {v : Value} {xs : List Value} (h : w.ownsRow B' e k v n xs) (hb : B ≤ B') : w.ownsRow B e k v n xs := by
  obtain ⟨h1, h2⟩ := h
  refine ⟨h1, ?_⟩
  rcases h2 with h2 | ⟨g, cap, cells, a, b, c⟩
  · exact .inl h2
  · exact .inr ⟨g, cap, cells, a, by omega, c⟩

theorem Ls.part {α : Type} {B : Nat} {w : World} {k : Nat} {cs : α → List Value} {b off n cap : Nat} {xs : List α} (h : Ls B w k cs (.slice (some ⟨b, off, none⟩) n cap) xs) {a z : Nat} (ha : a ≤ z) (hz : z ≤ xs.length) : Ls B w k cs (.slice (some ⟨b, off + a * k, none⟩) (z - a) (cap - a)) ((xs.take z).drop a) := by
  obtain ⟨ao, cp, hv, h1, h2, h4⟩ := h
  injection hv with e1 e2 e3
  subst e1 e2 e3
  have hl : ((xs.take z).drop a).length = z - a := by simp; omega
  refine ⟨_, _, by rw [hl], by rw [hl]; omega, by omega, fun hne => ?_⟩
  have hx : xs ≠ [] := by
    rintro rfl
    simp at hne
  obtain ⟨b', off', e, hb, hc⟩ := h4 hx
  injection e with e
  injection e with e1 e2 e3
  subst e1 e2
  refine ⟨_, _, rfl, hb, fun j hj i u hu => ?_⟩
  rw [hl] at hj
  have hu' : (cs (xs[a + j]'(by omega)))[i]? = some u := by simpa using hu
  have := hc (a + j) (by omega) i u hu'
  rwa [Nat.add_mul, ← Nat.add_assoc] at this
theorem app_obj (w : World) (B : Nat) (v : Value) (xs : List Pair) (p : Pair) (h : Rw B w 69 2 pairC v xs) (hB : B ≤ w.heap.size) (hn : xs.length ≤ 4294967296) :
    ∃ v' w', (Builtin.append_ #[25, 25] 25 #[v, .slice (some ⟨w.heap.size, 0, none⟩) 1 1]).run Tryz.prog (w.alloc (.cells #[.string (strB p.1), .string (strB p.2)] 69)) = .ok v' w' ∧
      Rw B w' 69 2 pairC v' (xs ++ [p]) ∧ (w.alloc (.cells #[.string (strB p.1), .string (strB p.2)] 69)).grownBy w' v.ownBlock ∧ (v'.ownBlock = v.ownBlock ∨ v'.ownBlock = some (w.heap.size + 1)) := by
  obtain ⟨i0, hi, hz0, hz1, hz2⟩ := info_parts Tryz.zObj
  have hx := heap_last w (.cells #[.string (strB p.1), .string (strB p.2)] 69) _ rfl
  obtain ⟨v', w', h1, h2, h3, -, h4⟩ := run_append_own_at (P := Tryz.prog) (w.alloc (.cells #[.string (strB p.1), .string (strB p.2)] 69)) B 25 25 69 i0 (.agg #[.string ⟨#[]⟩, .string ⟨#[]⟩]) 2 32 Tryz.underlying25 hi hz0 hz1 hz2 rfl (by decide) v xs.length (xs.flatMap pairC) (h.alloc _) ⟨w.heap.size, 0, none⟩ 1 1 (pairC p) rfl (fun j u hu => by
      rw [Addr.add_lit, Nat.zero_add, cell_of_row _ _ _ _ _ _ hx, List.getElem?_toArray]; exact hu) (by simp [pairC, Value.oneCell']) (by unfold maxLen; omega) (by omega) (by simp; omega)
  refine ⟨v', w', h1, ?_, h3, by simpa using h4⟩
  unfold Rw
  rw [List.length_append, List.flatMap_append]
  simpa using h2
theorem app_objs (w : World) (B B' : Nat) (v u : Value) (xs ys : List Pair) (h : Rw B w 69 2 pairC v xs) (hu : Rw B' w 69 2 pairC u ys) (hy : 1 ≤ ys.length) (hB : B ≤ w.heap.size) (hn : xs.length + ys.length ≤ 4294967296) :
    ∃ v' w', (Builtin.append_ #[25, 25] 25 #[v, u]).run Tryz.prog w = .ok v' w' ∧ Rw B w' 69 2 pairC v' (xs ++ ys) ∧ Below B w w' ∧ w.grownBy w' v.ownBlock := by
  obtain ⟨i0, hi, hz0, hz1, hz2⟩ := info_parts Tryz.zObj
  have hk2 := hu.2
  rcases hk2 with ⟨rfl, h0⟩ | ⟨g4, cap4, cur4, rfl, -, -, -, -, -, -⟩
  · omega
  have hfl : ∀ zs : List Pair, (zs.flatMap pairC).length = zs.length * 2 := fun zs => by
    induction zs with
    | nil => rfl
    | cons z zs ih => rw [List.flatMap_cons, List.length_append, ih, List.length_cons]; simp [pairC]; omega
  obtain ⟨v5, w5, hrun5, own5, hgr5, -⟩ := run_append_own (P := Tryz.prog) w B 25 25 69 i0 (.agg #[.string ⟨#[]⟩, .string ⟨#[]⟩]) 2 32 Tryz.underlying25 hi hz0 hz1 hz2 rfl (by decide) v xs.length (xs.flatMap pairC) h ⟨g4, 0, none⟩ ys.length cap4 (ys.flatMap pairC) (hfl ys) (World.ownsRow.cells hu (g := g4) rfl) (by intro x hx; obtain ⟨y, -, hy⟩ := List.mem_flatMap.1 hx; simp [pairC] at hy; rcases hy with rfl | rfl <;> simp [Value.oneCell']) (by unfold maxLen; omega) (by omega) hB
  rw [← List.flatMap_append, ← List.length_append] at own5
  exact ⟨v5, w5, hrun5, own5, (Below.refl _ _).grown hgr5 hB (fun q hq => (World.ownsRow.lt h q hq).1), hgr5⟩
theorem app_pair (w : World) (B : Nat) (v : Value) (xs : List Pair) (p : Pair) (h : Rw B w 60 2 pairC v xs) (hB : B ≤ w.heap.size) (hn : xs.length ≤ 4294967296) :
    ∃ v' w', (Builtin.append_ #[22, 22] 22 #[v, .slice (some ⟨w.heap.size, 0, none⟩) 1 1]).run Tryz.prog (w.alloc (.cells #[.string (strB p.1), .string (strB p.2)] 60)) = .ok v' w' ∧
      Rw B w' 60 2 pairC v' (xs ++ [p]) ∧ (w.alloc (.cells #[.string (strB p.1), .string (strB p.2)] 60)).grownBy w' v.ownBlock ∧ (v'.ownBlock = v.ownBlock ∨ v'.ownBlock = some (w.heap.size + 1)) := by
  obtain ⟨i0, hi, hz0, hz1, hz2⟩ := info_parts Tryz.zPair
  have hx := heap_last w (.cells #[.string (strB p.1), .string (strB p.2)] 60) _ rfl
  obtain ⟨v', w', h1, h2, h3, -, h4⟩ := run_append_own_at (P := Tryz.prog) (w.alloc (.cells #[.string (strB p.1), .string (strB p.2)] 60)) B 22 22 60 i0 (.agg #[.string ⟨#[]⟩, .string ⟨#[]⟩]) 2 32 Tryz.underlying22 hi hz0 hz1 hz2 rfl (by decide) v xs.length (xs.flatMap pairC) (h.alloc _) ⟨w.heap.size, 0, none⟩ 1 1 (pairC p) rfl (fun j u hu => by
      rw [Addr.add_lit, Nat.zero_add, cell_of_row _ _ _ _ _ _ hx, List.getElem?_toArray]; exact hu) (by simp [pairC, Value.oneCell']) (by unfold maxLen; omega) (by omega) (by simp; omega)
  refine ⟨v', w', h1, ?_, h3, by simpa using h4⟩
  unfold Rw
  rw [List.length_append, List.flatMap_append]
  simpa using h2
theorem app_link (w : World) (B : Nat) (v : Value) (xs : List Link) (p : Link) (h : Rw B w 66 3 linkC v xs) (hB : B ≤ w.heap.size) (hn : xs.length ≤ 4294967296) :
    ∃ v' w', (Builtin.append_ #[72, 72] 72 #[v, .slice (some ⟨w.heap.size, 0, none⟩) 1 1]).run Tryz.prog (w.alloc (.cells #[.string (strB p.1), .string (strB p.2.1), .int .i64 p.2.2] 66)) = .ok v' w' ∧
      Rw B w' 66 3 linkC v' (xs ++ [p]) ∧ (w.alloc (.cells #[.string (strB p.1), .string (strB p.2.1), .int .i64 p.2.2] 66)).grownBy w' v.ownBlock ∧ (v'.ownBlock = v.ownBlock ∨ v'.ownBlock = some (w.heap.size + 1)) := by
  obtain ⟨i0, hi, hz0, hz1, hz2⟩ := info_parts Tryz.zLink
  have hx := heap_last w (.cells #[.string (strB p.1), .string (strB p.2.1), .int .i64 p.2.2] 66) _ rfl
  obtain ⟨v', w', h1, h2, h3, -, h4⟩ := run_append_own_at (P := Tryz.prog) (w.alloc (.cells #[.string (strB p.1), .string (strB p.2.1), .int .i64 p.2.2] 66)) B 72 72 66 i0 (.agg #[.string ⟨#[]⟩, .string ⟨#[]⟩, .int .i64 0]) 3 40 Tryz.underlying72 hi hz0 hz1 hz2 rfl (by decide) v xs.length (xs.flatMap linkC) (h.alloc _) ⟨w.heap.size, 0, none⟩ 1 1 (linkC p) rfl (fun j u hu => by
      rw [Addr.add_lit, Nat.zero_add, cell_of_row _ _ _ _ _ _ hx, List.getElem?_toArray]; exact hu) (by simp [linkC, Value.oneCell']) (by unfold maxLen; omega) (by omega) (by simp; omega)
  refine ⟨v', w', h1, ?_, h3, by simpa using h4⟩
  unfold Rw
  rw [List.length_append, List.flatMap_append]
  simpa using h2
end Go.Proofs.YtimbleaafoiidaaGreatDoor

/-
  Laws of my own on regions that draw their order and call yield, read at the wide fence. No condition.
-/
namespace Go.Proofs.YtimbleaafoiidaaGreatDoor
open Go.RowKit
variable {P : Program} {l : List Oper} {Q : Exit → Act → World → Prop} {md : Region.Mode}

theorem semW (o : Oper) (a : Act) : o.semAt Fence.wide.round a.eval = execOp a.eval o := Oper.semAt_none _ _
theorem takeIn {i : Nat} {oi : Oper} {v : Value} {fuel : Nat} {listed : Array Bool} {a : Act} {w : World} (hi : l[i]? = some oi)
    (hs : Region.noSelect l.toArray = true) (hf : Region.free md l.toArray listed i = true) (hr : (Region.ready md l.toArray listed).contains i = true)
    (hQ : ∀ c a w, Q (.panic c) (a.put oi.dst v) w → Q (.panic c) a w) (hg : Region.wanted oi (yielded l.toArray a.tmps) = true) (hab : ∀ w, oi.about P w a.eval = none) (hy : ∀ w, (execOp a.eval oi).run P w = .ok (.value v) w)
    (h : wpAnyIn Fence.wide 0 P md l.toArray Q fuel (listed.setIfInBounds i true) (a.put oi.dst v) w) : wpAnyIn Fence.wide 0 P md l.toArray Q (fuel + 1) listed a w :=
  wpAnyIn_take rfl (by simpa using hi) hs hf hr hQ ⟨Or.inl ⟨hg, hy⟩, hab⟩ h
theorem valW {o : Oper} {a : Act} {w : World} {v : Value} {K : Act → World → Prop} (hy : (execOp a.eval o).run P w = .ok (.value v) w) (h : K (a.put o.dst v) w) : Oper.wpIn Fence.wide 0 P o a w K Q :=
  ⟨fun _ _ => trivial, by rw [semW, hy]; exact h⟩
theorem roundW {o : Oper} {a : Act} {w : World} {k f : Nat} {tmps : Array Value} {assign body : Code} {R : Ending → World → Prop} {K : Act → World → Prop} (hy : (execOp a.eval o).run P w = .ok (.round k f tmps assign body) w)
    (hR : RoundIn Fence.wide 0 P k f tmps assign body w R) (h : ∀ e w', R e w' → ∃ v, e = .returned v ∧ K (a.put o.dst v) w') : Oper.wpIn Fence.wide 0 P o a w K Q :=
  ⟨fun _ _ => trivial, by
    rw [semW, hy]
    refine ⟨(fun h => by cases h), hR.mono fun e w' he => ?_⟩
    obtain ⟨v, rfl, hK⟩ := h e w' he
    exact hK⟩
theorem onlyIn {i : Nat} {oi : Oper} {fuel : Nat} {listed : Array Bool} {a : Act} {w : World} (hi : l[i]? = some oi) (hr : Region.ready md l.toArray listed = [i]) (hg : Region.wanted oi (yielded l.toArray a.tmps) = true)
    (h : Oper.wpIn Fence.wide 0 P oi a w (wpAnyIn Fence.wide 0 P md l.toArray Q fuel (listed.setIfInBounds i true)) Q) : wpAnyIn Fence.wide 0 P md l.toArray Q (fuel + 1) listed a w :=
  wpAnyIn_ready hr (by simp) (AllReadyIn.cons (o := oi) (by simpa using hi) (fun K hK => by rw [if_pos hg]; exact Oper.wpIn_mono hK h) AllReadyIn.nil)
theorem twoIn {i j : Nat} {oi oj : Oper} {fuel : Nat} {listed : Array Bool} {a : Act} {w : World} (hi : l[i]? = some oi) (hj : l[j]? = some oj) (hr : Region.ready md l.toArray listed = [i, j])
    (hgi : Region.wanted oi (yielded l.toArray a.tmps) = true) (hgj : Region.wanted oj (yielded l.toArray a.tmps) = true)
    (h1 : Oper.wpIn Fence.wide 0 P oi a w (wpAnyIn Fence.wide 0 P md l.toArray Q fuel (listed.setIfInBounds i true)) Q)
    (h2 : Oper.wpIn Fence.wide 0 P oj a w (wpAnyIn Fence.wide 0 P md l.toArray Q fuel (listed.setIfInBounds j true)) Q) : wpAnyIn Fence.wide 0 P md l.toArray Q (fuel + 1) listed a w :=
  wpAnyIn_ready hr (by simp) (AllReadyIn.cons (o := oi) (by simpa using hi) (fun K hK => by rw [if_pos hgi]; exact Oper.wpIn_mono hK h1) (AllReadyIn.cons (o := oj) (by simpa using hj) (fun K hK => by rw [if_pos hgj]; exact Oper.wpIn_mono hK h2) AllReadyIn.nil))
theorem startIn {id : Nat} {a : Act} {w : World} (hm : P.follows .mixedOrders = true)
    (h : wpAnyIn Fence.wide 0 P .any l.toArray Q l.length (Array.replicate l.length false) a w.drew) : (Code.region id l.toArray true).wp P Q a w :=
  (wpIn_wide (n := 0)).1 (wpIn_region_any hm (by simpa using h))
end Go.Proofs.YtimbleaafoiidaaGreatDoor

/-
  What stands behind a link, plainly: a leaf's pairs, a branch's links. No program here. No condition.
-/
namespace Go.Proofs.YtimbleaafoiidaaGreatDoor

/-- A node: its level, a leaf's pairs, a branch's links. -/
abbrev NodeM := Int × (List Pair × List Link)
def nodeM (b : Bs) : Option NodeM :=
  match takenLeaf b with
  | some l => some (0, l, [])
  | none => match takenBranch b with
    | some f => some (f.1, [], f.2)
    | none => none
def countM (n : NodeM) : Int := (n.2.1.length : Int) + manyL n.2.2
/-- Is a node the one that the link says, at a level? -/
def fitsM (n : NodeM) (k : Link) (level : Int) : Bool :=
  decide (n.1 = level) && decide (countM n = k.2.2) && (if n.1 = 0 then decide (1 ≤ n.2.1.length) && lastP n.2.1 == k.1 else lastL n.2.2 == k.1)
/-- What is answered where a link is gone to: an error's number, the node. -/
def askM (fd : Bs → Option Bs) (k : Link) (level : Int) : Int × NodeM :=
  match fd k.2.1 with
  | none => (3, 0, [], [])
  | some b => match nodeM b with
    | none => (122, 0, [], [])
    | some n => if level < 0 ∨ fitsM n k level = true then (0, n) else (122, 0, [], [])
/-- What holds of every node. -/
structure RightM (n : NodeM) : Prop where
  lo : 0 ≤ n.1
  hi : n.1 ≤ 20
  leaf : n.1 = 0 → n.2.2 = [] ∧ leafOk ltB n.2.1 = true
  branch : 1 ≤ n.1 → n.2.1 = [] ∧ branchOk ltB (n.1, n.2.2) = true
theorem branch_level {f : Branch} (h : branchOk ltB f = true) : 1 ≤ f.1 ∧ f.1 ≤ 20 ∧ 1 ≤ f.2.length := by
  simp only [branchOk, levelB, Bool.and_eq_true, decide_eq_true_eq] at h
  obtain ⟨⟨⟨⟨h1, h2⟩, -⟩, -⟩, -⟩ := h
  exact ⟨h1.1, h1.2, h2.1⟩
theorem nodeM_right {b : Bs} (hb : b.length ≤ 140737488355328) {n : NodeM} (h : nodeM b = some n) : RightM n := by
  unfold nodeM at h
  cases hc : takenLeaf b with
  | some l =>
    rw [hc] at h
    simp only [Option.some.injEq] at h
    subst h
    have := ((takenLeaf_iff b hb l).1 hc).1
    exact ⟨by simp, by simp, fun _ => ⟨rfl, this⟩, fun h => absurd h (by simp)⟩
  | none =>
    rw [hc] at h
    cases hf : takenBranch b with
    | some f =>
      rw [hf] at h
      simp only [Option.some.injEq] at h
      subst h
      have g := ((takenBranch_iff b hb f).1 hf).1
      have g2 := branch_level g
      exact ⟨by simp only; omega, g2.2.1, fun h => by simp only at h; omega, fun _ => ⟨rfl, g⟩⟩
    | none =>
      rw [hf] at h
      cases h
theorem nodeM_leaf {b : Bs} {l : List Pair} (h : takenLeaf b = some l) : nodeM b = some (0, l, []) := by unfold nodeM; rw [h]
theorem nodeM_branch {b : Bs} {f : Branch} (h0 : takenLeaf b = none) (h : takenBranch b = some f) : nodeM b = some (f.1, [], f.2) := by unfold nodeM; rw [h0, h]
theorem nodeM_none {b : Bs} (h0 : takenLeaf b = none) (h : takenBranch b = none) : nodeM b = none := by unfold nodeM; rw [h0, h]
theorem askM_miss {fd : Bs → Option Bs} {k : Link} {level : Int} (h : fd k.2.1 = none) : askM fd k level = (3, 0, [], []) := by unfold askM; rw [h]
theorem askM_odd {fd : Bs → Option Bs} {k : Link} {level : Int} {b : Bs} (h : fd k.2.1 = some b) (hn : nodeM b = none) : askM fd k level = (122, 0, [], []) := by unfold askM; rw [h]; simp only [hn]
theorem askM_yes {fd : Bs → Option Bs} {k : Link} {level : Int} {b : Bs} {n : NodeM} (h : fd k.2.1 = some b) (hn : nodeM b = some n) (hl : level < 0 ∨ fitsM n k level = true) : askM fd k level = (0, n) := by unfold askM; rw [h]; simp only [hn, if_pos hl]
theorem askM_no {fd : Bs → Option Bs} {k : Link} {level : Int} {b : Bs} {n : NodeM} (h : fd k.2.1 = some b) (hn : nodeM b = some n) (hl : ¬ level < 0) (h2 : fitsM n k level = false) : askM fd k level = (122, 0, [], []) := by unfold askM; rw [h]; simp only [hn]; rw [if_neg (by rw [h2]; simp [hl])]
theorem askM_ok {fd : Bs → Option Bs} {k : Link} {level : Int} (hs : ∀ id b, fd id = some b → b.length ≤ 140737488355328) (h : (askM fd k level).1 = 0) : RightM (askM fd k level).2 ∧ (level < 0 ∨ fitsM (askM fd k level).2 k level = true) := by
  unfold askM at h ⊢
  cases hf : fd k.2.1 with
  | none => rw [hf] at h; cases h
  | some b =>
    rw [hf] at h
    cases hn : nodeM b with
    | none => simp only [hn] at h; cases h
    | some n =>
      simp only [hn] at h ⊢
      by_cases hc : level < 0 ∨ fitsM n k level = true
      · rw [if_pos hc]
        exact ⟨nodeM_right (hs _ _ hf) hn, hc⟩
      · rw [if_neg hc] at h
        cases h
theorem fitsM_leaf (l : List Pair) (k : Link) (level : Int) : fitsM (0, l, []) k level = (decide (0 = level) && decide ((l.length : Int) = k.2.2) && (decide (1 ≤ l.length) && lastP l == k.1)) := by
  unfold fitsM countM
  simp [manyL]
theorem fitsM_branch (f : Branch) (k : Link) (level : Int) (h : 1 ≤ f.1) : fitsM (f.1, [], f.2) k level = (decide (f.1 = level) && decide (manyL f.2 = k.2.2) && lastL f.2 == k.1) := by
  unfold fitsM countM
  simp only [List.length_nil, Int.natCast_zero, Int.zero_add]
  rw [if_neg (by omega : ¬ f.1 = 0)]
end Go.Proofs.YtimbleaafoiidaaGreatDoor
