/-
  Texts joined: PRList, PListP, PAll0, PRound, PRDone, PRDone2, PCnt.
-/
import Derived.Test.YtimbleaafoiidaaGreatDoorA47PRGoes
import Derived.Test.YtimbleaafoiidaaGreatDoorA41PGoing3
import Derived.Test.YtimbleaafoiidaaGreatDoorA46PShown
import Derived.Test.YtimbleaafoiidaaGreatDoorA36PPairs
import Derived.Test.YtimbleaafoiidaaGreatDoorA23PRow
import Derived.Laws.MakeOwn
import Derived.Deep.CutBlock
import Derived.Deep.CutRange
/-
  The pairs of a map between two keys, by the reference. Conditions: the objects lie there; texts within reach.
-/
namespace Go.Proofs.YtimbleaafoiidaaGreatDoor
open Go.RowKit

/-- What List goes through. -/
def listM (fd : Bs → Option Bs) (root lo hi : Bs) : LsS := goM fd lo hi 21 ([], (root, 0)) (-1) ⟨[], [], 0⟩
def outOf (s : LsS) : List Pair := if s.bad = 0 then s.out else []
set_option maxRecDepth 40000 in
set_option maxHeartbeats 1600000 in
theorem list12_any (w : World) (vo : Value) (objs : List Pair) (hv : Ls w.heap.size w 2 pairC vo objs) (hob : ∀ o ∈ objs, o.2.length ≤ 140737488351232) (root lo hi : Bs) :
    Calls Tryz.prog 18 #[vo, .string (strB root), .string (strB lo), .string (strB hi)] w fun e w' => ∃ vp va, e = .returned (.tuple #[vp, va, .int .i64 (listM (findO objs) root lo hi).bad]) ∧ Rw w.heap.size w' 60 2 pairC vp (outOf (listM (findO objs) root lo hi)) ∧ Rw w.heap.size w' 9 1 idC va (listM (findO objs) root lo hi).asked ∧ Below w.heap.size w w' := by
  have hb0 : Below w.heap.size w (w.alloc (.cells #[vo, .slice none 0 0, .slice none 0 0, .int .i64 0] 102)) := (Below.refl _ _).alloc (Nat.le_refl _) _
  have hx0 := heap_last w (.cells #[vo, .slice none 0 0, .slice none 0 0, .int .i64 0] 102) _ rfl
  have hR0 : RlW w.heap.size (w.alloc (.cells #[vo, .slice none 0 0, .slice none 0 0, .int .i64 0] 102)) w.heap.size vo objs (.slice none 0 0) ⟨[], [], 0⟩ := ⟨Nat.le_refl _, hv.keep hb0, _, hx0, World.ownsRow_nil _ _ _ _, World.ownsRow_nil _ _ _ _⟩
  have hgo := goes12_any w.heap.size vo objs w.heap.size hob lo hi 21 _ ([], (root, 0)) (-1) ⟨[], [], 0⟩ (.slice none 0 0) (.inl ⟨rfl, by omega⟩) (by omega) (show In64 0 from ⟨by decide, by decide⟩) rfl hR0 (by unfold cntM; simp) (by unfold cntM; simp)
  rw [show goM (findO objs) lo hi 21 ([], (root, 0)) (-1) ⟨[], [], 0⟩ = listM (findO objs) root lo hi from rfl] at hgo
  rw [show strB ([] : Bs) = ⟨#[]⟩ from rfl] at hgo
  generalize listM (findO objs) root lo hi = s at *
  have H0 := hide hb0
  obtain ⟨vao, vcap, hvv, -⟩ := hv
  obtain ⟨vm, hvm⟩ : ∃ vm, vm = objs.length := ⟨_, rfl⟩
  rw [← hvm] at hvv
  subst hvv
  clear hb0 hx0 hR0 hvm
  go_enter Tryz.func18, Tryz.ntmps18
  go_wp2_with fail
  refine hgo.mono ?_
  rintro e w1 ⟨rfl, vp1, hR1, hM1, -⟩
  have hB1 : Below w.heap.size w w1 := H0.out.trans hM1.b
  obtain ⟨-, -, va1, hh1, hra, hrp⟩ := hR1
  have c1 := cell_of_row w1 w.heap.size 1 _ _ _ hh1
  have c2 := cell_of_row w1 w.heap.size 2 _ _ _ hh1
  have c3 := cell_of_row w1 w.heap.size 3 _ _ _ hh1
  simp only [List.getElem?_toArray, List.getElem?_cons_zero, List.getElem?_cons_succ] at c1 c2 c3
  have HR := hide (And.intro hra (And.intro hrp hB1))
  obtain ⟨aa, am, ac, rfl⟩ := row_form hra
  obtain ⟨pa, pm, pc, rfl⟩ := row_form hrp
  clear hgo hM1 hh1 hra hrp hB1
  by_cases hb : s.bad = 0
  · have hbb : (s.bad != 0) = false := by rw [hb]; rfl
    have ho : outOf s = s.out := if_pos hb
    have HB := hide (And.intro hb ho)
    clear hb ho
    go_wp2_with fail
    refine wp_region_held_drew (S := fun W => W.cell? ⟨w.heap.size, 1, none⟩ = some (.slice aa am ac) ∧ W.cell? ⟨w.heap.size, 2, none⟩ = some (.slice pa pm pc)) (by kernel_rfl) (⟨c1, c2⟩) (fun hHeld => ?_)
    refine takeJ 0 (v := ?_) ?_ hHeld ?_
    rotate_left
    · rintro w ⟨_, _⟩; go_simp; try with_reducible rfl
    refine takeJ 1 (v := ?_) ?_ hHeld ?_
    rotate_left
    · rintro w ⟨_, _⟩; go_simp; try with_reducible rfl
    refine takeJ 2 (v := ?_) ?_ hHeld ?_
    rotate_left
    · rintro w ⟨_, _⟩; go_simp; try with_reducible rfl
    refine takeJ 3 (v := ?_) ?_ hHeld ?_
    rotate_left
    · rintro w ⟨_, _⟩; go_simp; try with_reducible rfl
    refine takeJ 4 (v := ?_) ?_ hHeld ?_
    rotate_left
    · rintro w ⟨_, _⟩; go_simp; try with_reducible rfl
    refine takeJ 5 (v := ?_) ?_ hHeld ?_
    rotate_left
    · rintro w ⟨_, _⟩; go_simp; try with_reducible rfl
    refine takeJ 6 (v := ?_) ?_ hHeld ?_
    rotate_left
    · rintro w ⟨_, _⟩; go_simp; try with_reducible rfl
    refine takeJ 7 (v := ?_) ?_ hHeld ?_
    rotate_left
    · rintro w ⟨_, _⟩; go_simp; try with_reducible rfl
    refine takeJ 8 (v := ?_) ?_ hHeld ?_
    rotate_left
    · rintro w ⟨_, _⟩; go_simp; try with_reducible rfl
    refine takeJ 9 (v := ?_) ?_ hHeld ?_
    rotate_left
    · rintro w ⟨_, _⟩; go_simp; try with_reducible rfl
    refine takeJ 10 (v := ?_) ?_ hHeld ?_
    rotate_left
    · rintro w ⟨_, _⟩; go_simp; try with_reducible rfl
    refine wpAnyH_done (by kernel_rfl) ?_ _
    clear hHeld
    go_wp2
    go_ret3
    refine ⟨.slice pa pm pc, .slice aa am ac, ?_, ?_, HR.out.1, HR.out.2.2.drew⟩
    · rw [HB.out.1]; rfl
    · rw [HB.out.2]; exact HR.out.2.1
  · have hbb : (s.bad != 0) = true := by simpa using hb
    have ho : outOf s = [] := if_neg hb
    have HB := hide ho
    clear hb ho
    go_wp2_with fail
    refine wp_region_held_drew (S := fun W => W.cell? ⟨w.heap.size, 1, none⟩ = some (.slice aa am ac) ∧ W.cell? ⟨w.heap.size, 3, none⟩ = some (.int .i64 s.bad)) (by kernel_rfl) (⟨c1, c3⟩) (fun hHeld => ?_)
    refine takeJ 0 (v := ?_) ?_ hHeld ?_
    rotate_left
    · rintro w ⟨_, _⟩; go_simp; try with_reducible rfl
    refine takeJ 1 (v := ?_) ?_ hHeld ?_
    rotate_left
    · rintro w ⟨_, _⟩; go_simp; try with_reducible rfl
    refine takeJ 2 (v := ?_) ?_ hHeld ?_
    rotate_left
    · rintro w ⟨_, _⟩; go_simp; try with_reducible rfl
    refine takeJ 3 (v := ?_) ?_ hHeld ?_
    rotate_left
    · rintro w ⟨_, _⟩; go_simp; try with_reducible rfl
    refine takeJ 4 (v := ?_) ?_ hHeld ?_
    rotate_left
    · rintro w ⟨_, _⟩; go_simp; try with_reducible rfl
    refine takeJ 5 (v := ?_) ?_ hHeld ?_
    rotate_left
    · rintro w ⟨_, _⟩; go_simp; try with_reducible rfl
    refine takeJ 6 (v := ?_) ?_ hHeld ?_
    rotate_left
    · rintro w ⟨_, _⟩; go_simp; try with_reducible rfl
    refine takeJ 7 (v := ?_) ?_ hHeld ?_
    rotate_left
    · rintro w ⟨_, _⟩; go_simp; try with_reducible rfl
    refine takeJ 8 (v := ?_) ?_ hHeld ?_
    rotate_left
    · rintro w ⟨_, _⟩; go_simp; try with_reducible rfl
    refine takeJ 9 (v := ?_) ?_ hHeld ?_
    rotate_left
    · rintro w ⟨_, _⟩; go_simp; try with_reducible rfl
    refine takeJ 10 (v := ?_) ?_ hHeld ?_
    rotate_left
    · rintro w ⟨_, _⟩; go_simp; try with_reducible rfl
    refine wpAnyH_done (by kernel_rfl) ?_ _
    clear hHeld
    go_wp2
    go_ret3
    refine ⟨.slice none 0 0, .slice aa am ac, rfl, ?_, HR.out.1, HR.out.2.2.drew⟩
    rw [HB.out]; exact World.ownsRow_nil _ _ _ _
end Go.Proofs.YtimbleaafoiidaaGreatDoor

/-
  The pairs of a map listed by the program, by any get. Conditions: the get keeps its word; not too much was asked.
-/
namespace Go.Proofs.YtimbleaafoiidaaGreatDoor
open Go.RowKit Go.Shelf
attribute [local go_sem] Oper.semAt_some

theorem wpListIn_append_run {F : Fence} {n : Nat} {P : Program} {ops : Array Oper} {Q : Exit → Act → World → Prop} {rest : List Oper} {o : Oper} {a : Act} {w : World} (hg : o.guard = none) (s x : Operand) (t : TypeId)
    (ho : o.op = .call { callee := .builtin .append, args := #[s, x], argTypes := #[t, t] }) {v1 v2 v' : Value} {w' : World} (hs : a.eval s = v1) (hx : a.eval x = v2)
    (hrun : (Builtin.append_ #[t, t] o.type #[v1, v2]).run P w = .ok v' w') (hK : wpListIn F n P ops Q rest (a.put o.dst v') w') : wpListIn F n P ops Q (o :: rest) a w := by
  refine wpListIn_plain hg fun K hK' => ?_
  unfold Oper.wpIn
  refine ⟨?_, ?_⟩
  · simp [Oper.about, ho, resolve, Target.leads, Sem.run_pure]
  · rw [Oper.semAt_plain F _ _ (by rw [ho]; intro c hc'; cases hc')]
    simp [execOp, ho, resolve, invoke, builtin, hs, hx, hrun, Result.andThen, Oper.uponIn]
    exact hK' _ _ hK
/-- What whoever lists moves; what gets must bear. -/
abbrev sts1 : List TypeId := [22, 26]
abbrev kts1 : List TypeId := [83, 60, 128, 22, 26]
/-- While it lists: the answer's cells at r, the list's own at r + 2. -/
def ListJ (r : Nat) (v : Value) (s : List Pair × Int) (W : World) : Prop :=
  W.heap[r]? = some (.cells #[.slice none 0 0] 22) ∧ W.heap[r + 1]? = some (.cells #[.int .i64 0] 26) ∧ W.heap[r + 1 + 1]? = some (.cells #[v] 22) ∧ Rw r W 60 2 pairC v s.1 ∧ s.2 = 0
/-- An error was told. -/
def ListX (r : Nat) (_ : Value) (s : List Pair × Int) (W : World) : Prop :=
  W.heap[r]? = some (.cells #[.slice none 0 0] 22) ∧ W.heap[r + 1]? = some (.cells #[.int .i64 s.2] 26) ∧ s.2 ≠ 0
theorem ListJ.mv {B r : Nat} {ts : List TypeId} {v : Value} {s : List Pair × Int} {W W' : World} (h : ListJ r v s W) (hm : Mv B ts Option.none W W') (h1 : 22 ∉ ts) (h2 : 26 ∉ ts) (h3 : 60 ∉ ts) : ListJ r v s W' :=
  ⟨hm.k _ _ _ _ h.1 h1 (by simp), hm.k _ _ _ _ h.2.1 h2 (by simp), hm.k _ _ _ _ h.2.2.1 h1 (by simp), hm.own0 h.2.2.2.1 h3, h.2.2.2.2⟩
theorem ListX.mv {B r : Nat} {v : Value} {s : List Pair × Int} {W W' : World} (h : ListX r v s W) (hm : Mv B [] Option.none W W') : ListX r v s W' :=
  ⟨hm.k _ _ _ _ h.1 (by simp) (by simp), hm.k _ _ _ _ h.2.1 (by simp) (by simp), h.2.2⟩
end Go.Proofs.YtimbleaafoiidaaGreatDoor

/-
  What ProllyAll holds while it goes through a map. No condition.
-/
namespace Go.Proofs.YtimbleaafoiidaaGreatDoor
open Go.RowKit Go.Shelf

theorem eql_nilS (W : World) (gf : Nat) (caps : Array Value) : (binOp .eql 57 (.func (.func gf) #[] caps) .nilFunc).run Tryz.prog W = .ok (.bool false) W := by
  have h : (Op.equal 57 (.func (.func gf) #[] caps) .nilFunc).run Tryz.prog W = .ok false W := by
    show (Op.equalIn (9999 + 1) 57 _ _).run Tryz.prog W = _
    unfold Op.equalIn
    simp [run_underlying Tryz.underlying57, Result.andThen]
  simp only [binOp, Sem.run_bind, h, Result.andThen, Sem.run_pure]
/-- A row of texts stays with its block. -/
theorem ids_kept {B : Nat} {W : World} {va : Value} {ids : List Bs} (h : Rw B W 9 1 idC va ids) : ∃ ks : Kept, (∀ p ∈ ks, W.heap[p.1]? = some (.cells p.2.1 9 p.2.2)) ∧ ∀ W' : World, (∀ p ∈ ks, W'.heap[p.1]? = some (.cells p.2.1 9 p.2.2)) → Rw B W' 9 1 idC va ids := by
  cases hb : va.ownBlock with
  | none =>
    refine ⟨[], by simp, fun W' _ => own_same h fun q hq => ?_⟩
    rw [hb] at hq
    cases hq
  | some b =>
    obtain ⟨cs, fr, hh⟩ := Lib.ownsRow_kind h b hb
    refine ⟨[(b, cs, fr)], by simpa using hh, fun W' hk => own_same h fun q hq => ?_⟩
    rw [hb] at hq
    injection hq with hq
    subst hq
    exact (hk (b, cs, fr) (by simp)).trans hh.symm
/-- While it goes through: what it got, in its box; no error yet. -/
def AllJ (r : Nat) (v : Value) (s : List Pair × Int) (W : World) : Prop :=
  W.heap[r]? = some (.cells #[v] 22) ∧ W.heap[r + 1]? = some (.cells #[.int .i64 0] 26) ∧ Rw r W 60 2 pairC v s.1 ∧ s.2 = 0
/-- An error was told. -/
def AllN (r : Nat) (v : Value) (s : List Pair × Int) (W : World) : Prop :=
  W.heap[r]? = some (.cells #[v] 22) ∧ W.heap[r + 1]? = some (.cells #[.int .i64 s.2] 26) ∧ Rw r W 60 2 pairC v s.1
theorem AllJ.n {r : Nat} {v : Value} {s : List Pair × Int} {W : World} (h : AllJ r v s W) : AllN r v s W := ⟨h.1, by rw [h.2.2.2]; exact h.2.1, h.2.2.1⟩
theorem AllJ.mv {B r : Nat} {ts : List TypeId} {v : Value} {s : List Pair × Int} {W W' : World} (h : AllJ r v s W) (hm : Mv B ts Option.none W W') (h1 : 22 ∉ ts) (h2 : 26 ∉ ts) (h3 : 60 ∉ ts) : AllJ r v s W' :=
  ⟨hm.k _ _ _ _ h.1 h1 (by simp), hm.k _ _ _ _ h.2.1 h2 (by simp), hm.own0 h.2.2.1 h3, h.2.2.2⟩
theorem AllN.mv {B r : Nat} {ts : List TypeId} {v : Value} {s : List Pair × Int} {W W' : World} (h : AllN r v s W) (hm : Mv B ts Option.none W W') (h1 : 22 ∉ ts) (h2 : 26 ∉ ts) (h3 : 60 ∉ ts) : AllN r v s W' :=
  ⟨hm.k _ _ _ _ h.1 h1 (by simp), hm.k _ _ _ _ h.2.1 h2 (by simp), hm.own0 h.2.2 h3⟩
/-- While it counts: what was got, its number, the most. -/
def CntJ (r nb mb : Nat) (vg : Value) (got : List Pair) (most : Int) (n : Int) (W : World) : Prop :=
  W.heap[r]? = some (.cells #[vg] 22) ∧ Rw r W 60 2 pairC vg got ∧ W.heap[nb]? = some (.cells #[.int .i64 n] 3) ∧ W.heap[mb]? = some (.cells #[.int .i64 most] 3)
theorem CntJ.mv {B r nb mb : Nat} {ts : List TypeId} {vg : Value} {got : List Pair} {most n : Int} {W W' : World} (h : CntJ r nb mb vg got most n W) (hm : Mv B ts Option.none W W') (h1 : 22 ∉ ts) (h2 : 3 ∉ ts) (h3 : 60 ∉ ts) : CntJ r nb mb vg got most n W' :=
  ⟨hm.k _ _ _ _ h.1 h1 (by simp), hm.own0 h.2.1 h3, hm.k _ _ _ _ h.2.2.1 h2 (by simp), hm.k _ _ _ _ h.2.2.2 h2 (by simp)⟩
theorem AskK.below {ks : Kept} {B : Nat} {w w' : World} {ci cl ga : Nat} {objs : List Pair} {asked : List Bs} (h : AskK ks B w ci cl ga objs asked) (hb : Below w.heap.size w w') : AskK ks B w' ci cl ga objs asked :=
  h.mv (ts := []) (Mv.of hb h.w.le) (by simp) (by simp) (by simp) (by simp)
/-- What was asked is forgotten. -/
theorem AskK.renew {ks : Kept} {B : Nat} {w : World} {ci cl ga : Nat} {objs : List Pair} {asked : List Bs} (h : AskK ks B w ci cl ga objs asked) : AskK ks B (w.setCell ⟨ga, 0, none⟩ (.slice none 0 0)) ci cl ga objs [] := by
  obtain ⟨va, g1, g2, g3⟩ := h.row
  obtain ⟨vl, l1, l2⟩ := h.list
  have hm : Mv B [32] none w (w.setCell ⟨ga, 0, none⟩ (.slice none 0 0)) := (Mv.refl B _ none w).set g1 (by simp) h.base _
  exact ⟨hm.k _ _ _ _ h.ids (by decide) (by simp), ⟨vl, hm.k _ _ _ _ l1 (by decide) (by simp), l2.keep hm.b⟩, ⟨_, heap_set0 g1, World.ownsRow_nil _ _ _ _, fun p hp => ⟨hm.k _ _ _ _ (g3 p hp).1 (by decide) (by simp), by simp [Value.ownBlock]⟩⟩, h.base⟩
/-- What the second run moves. -/
abbrev sts2 : List TypeId := [3, 4]
abbrev kts2 : List TypeId := [83, 60, 128, 3, 4]
def CntJ0 (r nb mb rb : Nat) (vg : Value) (got : List Pair) (most : Int) (v : Value) (s : Nat × Bool) (W : World) : Prop :=
  v = .slice none 0 0 ∧ s.2 = false ∧ s.1 ≤ 1000001 ∧ CntJ r nb mb vg got most s.1 W ∧ W.heap[rb]? = some (.cells #[.bool false] 4)
theorem CntJ0.mv {B r nb mb rb : Nat} {ts : List TypeId} {vg : Value} {got : List Pair} {most : Int} {v : Value} {s : Nat × Bool} {W W' : World} (h : CntJ0 r nb mb rb vg got most v s W) (hm : Mv B ts Option.none W W') (h1 : 22 ∉ ts) (h2 : 3 ∉ ts) (h3 : 60 ∉ ts) (h4 : 4 ∉ ts) : CntJ0 r nb mb rb vg got most v s W' :=
  ⟨h.1, h.2.1, h.2.2.1, h.2.2.2.1.mv hm h1 h2 h3, hm.k _ _ _ _ h.2.2.2.2 h4 (by simp)⟩
def CntN (rb : Nat) (_ : Value) (_ : Nat × Bool) (W : World) : Prop := W.heap[rb]? = some (.cells #[.bool false] 4)
def CntC (rb : Nat) (_ : Value) (s : Nat × Bool) (W : World) : Prop := s.2 = false → W.heap[rb]? = some (.cells #[.bool false] 4)
end Go.Proofs.YtimbleaafoiidaaGreatDoor

/-
  A region that draws its order inside a round of a range over a function is walked as any other one, if it has no defer statement. No condition.
-/
namespace Go.Proofs.YtimbleaafoiidaaGreatDoor
open Go.RowKit
variable {P : Program} {ops : Array Oper} {Q : Exit → Act → World → Prop} {md : Region.Mode} {S : World → Prop}

/-- No operation is a defer statement. -/
def noDefer (ops : Array Oper) : Bool := ops.toList.all fun o => match o.op with | .defer _ => false | _ => true
theorem noDefer_at (h : noDefer ops = true) {i : Nat} {o : Oper} (ho : ops[i]? = some o) (c : _) : o.op ≠ .defer c := by
  intro hc
  have hm : o ∈ ops.toList := by
    have := Array.mem_of_getElem? ho
    simpa using this
  have := List.all_eq_true.1 h o hm
  rw [hc] at this
  cases this
theorem rowsIn_of {n : Nat} {row : String} {args : Array Value} {w : World} {R : Value → World → Prop} (h : Rows P row args w R) : RowsIn Fence.wide n P row args w R := by
  intro c cs _
  obtain ⟨v, w', r, s⟩ := h c cs
  exact ⟨v, w', r, stepsIn_wide.2 s⟩
theorem Oper.wpIn_round {o : Oper} (hd : ∀ c, o.op ≠ .defer c) {l : Nat} {a : Act} {w : World} {K K' : Act → World → Prop} (hK : ∀ a w, K a w → K' a w) (h : o.wp P a w K Q) : o.wpIn (Fence.wide.inRound l) 0 P a w K' Q := by
  refine ⟨fun _ _ => trivial, ?_⟩
  rw [Oper.semAt_eq _ _ _ hd]
  unfold Oper.wp at h
  generalize (execOp a.eval o).run P w = r at *
  cases r with
  | ok x w' =>
    cases x <;> simp only [Oper.upon, Oper.uponIn] at h ⊢ <;> try exact hK _ _ h
    case enter f args =>
      refine ⟨(fun h => by cases h), CallsIn.inRound l (CallsIn.mono (callsIn_wide.2 h) fun e w'' he => ?_)⟩
      cases e <;> first | exact hK _ _ he | exact he
    case row row args =>
      exact ⟨(fun h => by cases h), RowsIn.mono (rowsIn_of h) fun _ _ he => hK _ _ he⟩
  | halt x w' => cases x <;> simp only [Oper.upon, Oper.uponIn] at h ⊢ <;> exact h
theorem wpAnyIn_round (hd : noDefer ops = true) (hno : ¬ LetsOut Q) {l : Nat} : ∀ (fuel : Nat) (listed : Array Bool) (a : Act) (w : World), wpAny P md ops Q fuel listed a w → wpAnyIn (Fence.wide.inRound l) 0 P md ops Q fuel listed a w
  | 0, _, _, _, h => h
  | fuel + 1, listed, a, w, h => ⟨h.1, fun i hi => by
      have h1 := h.2 i hi
      unfold wpOp at h1
      unfold wpOpIn
      split
      · rename_i ho; rw [ho] at h1; exact wpAnyIn_round hd hno fuel _ _ _ h1
      · rename_i o ho
        rw [ho] at h1
        simp only at h1
        split
        · rename_i hw
          rw [if_pos hw] at h1
          rcases h1 with h1 | h1
          · exact Oper.wpIn_round (fun c => noDefer_at hd ho c) (fun a w => wpAnyIn_round hd hno fuel _ a w) h1
          · exact absurd h1.2 hno
        · rename_i hw
          rw [if_neg hw] at h1
          exact ⟨fun _ _ => trivial, wpAnyIn_round hd hno fuel _ _ _ h1⟩⟩
theorem wp_region_round {id l : Nat} {a : Act} {w : World} (hm : P.follows .mixedOrders = true) (hd : noDefer ops = true) (hno : ¬ LetsOut Q) (hS : S w.drew)
    (h : S w.drew → wpAnyH P .any ops Q S ops.size (Array.replicate ops.size false) a w.drew) : (Code.region id ops true).wpIn (Fence.wide.inRound l) 0 P Q a w :=
  wpIn_region_any hm (wpAnyIn_round hd hno _ _ _ _ (wpAny_of_held _ _ _ _ (h hS)))
/-- Where nothing panics the panic's way counts for nothing. -/
theorem wp_calm {c : Code} {K : Act → World → Prop} {a : Act} {w : World} (h : c.wp P (Exit.then K (fun _ _ _ => False)) a w) : c.wp P (Exit.then K Q) a w :=
  wp_mono h fun e a w h => by cases e <;> first | exact h | exact h.elim
end Go.Proofs.YtimbleaafoiidaaGreatDoor

/-
  Pairs with a put, by the reference. Conditions: the pairs lie there, not too many.
-/
namespace Go.Proofs.YtimbleaafoiidaaGreatDoor
open Go.RowKit

end Go.Proofs.YtimbleaafoiidaaGreatDoor

/-
  Pairs with a put, by the reference: its walk. Conditions: the pairs lie there, not too many.
-/
namespace Go.Proofs.YtimbleaafoiidaaGreatDoor
open Go.RowKit

theorem Ls.takeL {α : Type} {B : Nat} {w : World} {k : Nat} {cs : α → List Value} {ao : Option Addr} {n cap : Nat} {xs : List α} (h : Ls B w k cs (.slice ao n cap) xs) {z : Nat} (hz : z ≤ xs.length) : Ls B w k cs (.slice ao z cap) (xs.take z) := by
  obtain ⟨ao', cap', e, h1, h2, h4⟩ := h
  injection e with e1 e2 e3
  subst e1 e3
  have hl : (xs.take z).length = z := by rw [List.length_take]; omega
  refine ⟨ao, cap, by rw [hl], by rw [hl]; omega, h2, fun hne => ?_⟩
  obtain ⟨b, off, rfl, hb, hc⟩ := h4 (by rintro rfl; simp at hne)
  refine ⟨b, off, rfl, hb, fun j hj i u hu => ?_⟩
  rw [hl] at hj
  exact hc j (by omega) i u (by simpa using hu)
end Go.Proofs.YtimbleaafoiidaaGreatDoor

/-
  What a round of the second loop of ProllyAll owes. No condition.
-/
namespace Go.Proofs.YtimbleaafoiidaaGreatDoor
open Go.RowKit Go.Shelf

/-- How a round may end. -/
def CntP (r nb mb rb : Nat) (vg : Value) (got : List Pair) (most : Int) (B : Nat) (W : World) (v : Value) (s : Nat × Bool) (x : Pair) (er : Int) (e : Exit) (W' : World) : Prop :=
  KO W W' ∧ ∃ v', Mv B sts2 v.ownBlock W W' ∧ Nx W v.ownBlock v'.ownBlock ∧
    ((e = .normal ∧ ((er = 0 ∧ ((stopSink got most).st s x).2 = true ∧ CntJ0 r nb mb rb vg got most v' ((stopSink got most).st s x).1 W') ∨ (er ≠ 0 ∧ CntN rb v' ((stopSink got most).er s er) W'))) ∨
      (∃ s', e = leaveX ((fun s : Nat × Bool => if s.2 then none else some 2) s') ∧ ((er = 0 ∧ ((stopSink got most).st s x).2 = false ∧ s' = ((stopSink got most).st s x).1) ∨ (er ≠ 0 ∧ s' = (stopSink got most).er s er)) ∧ CntC rb v' s' W'))
section
variable {r nb mb rb : Nat} {vg : Value} {got : List Pair} {most : Int} {B : Nat} {W W' : World} {v : Value} {s : Nat × Bool} {x : Pair} {er : Int}
theorem cnt_no : ¬ CntP r nb mb rb vg got most B W v s x er .outgrown W' := by
  rintro ⟨-, v', -, -, ⟨h, -⟩ | ⟨s', h, -⟩⟩
  · cases h
  · obtain ⟨n, t⟩ := s'
    cases t <;> cases h
theorem cnt_normal (hk : KO W W') (hm : Mv B sts2 (Value.slice none 0 0).ownBlock W W') (hw : wrong got s.1 x = false) (hmo : (s.1 : Int) + 1 < most) (hc : er = 0 → s.1 ≤ 1000000)
    (hj : CntJ r nb mb vg got most ((s.1 + 1 : Nat) : Int) W') (hr : W'.heap[rb]? = some (.cells #[.bool false] 4)) : CntP r nb mb rb vg got most B W (.slice none 0 0) s x er .normal W' := by
  refine ⟨hk, .slice none 0 0, hm, Nx.refl _ _, .inl ⟨rfl, ?_⟩⟩
  by_cases he : er = 0
  · have e : (stopSink got most).st s x = ((s.1 + 1, false), decide ((s.1 : Int) + 1 < most)) := by simp [stopSink, hw]
    rw [e]
    exact .inl ⟨he, by simpa using hmo, rfl, rfl, by have := hc he; simp only; omega, hj, hr⟩
  · exact .inr ⟨he, hr⟩
theorem cnt_exit (hk : KO W W') (hm : Mv B sts2 (Value.slice none 0 0).ownBlock W W') (hw : wrong got s.1 x = false) (hx : er ≠ 0 → x = ([], [])) (hmo : ¬ (s.1 : Int) + 1 < most)
    (hr : W'.heap[rb]? = some (.cells #[.bool false] 4)) : CntP r nb mb rb vg got most B W (.slice none 0 0) s x er (.exit 2) W' := by
  refine ⟨hk, .slice none 0 0, hm, Nx.refl _ _, .inr ?_⟩
  by_cases he : er = 0
  · have e : (stopSink got most).st s x = ((s.1 + 1, false), decide ((s.1 : Int) + 1 < most)) := by simp [stopSink, hw]
    exact ⟨(s.1 + 1, false), rfl, .inl ⟨he, by rw [e]; simpa using hmo, by rw [e]⟩, fun _ => hr⟩
  · refine ⟨(s.1, false), rfl, .inr ⟨he, ?_⟩, fun _ => hr⟩
    have := hx he
    subst this
    show (s.1, false) = (s.1, wrong got s.1 ([], []))
    rw [hw]
theorem cnt_ret (hk : KO W W') (hm : Mv B sts2 (Value.slice none 0 0).ownBlock W W') (hw : wrong got s.1 x = true) (hx : er ≠ 0 → x = ([], [])) : CntP r nb mb rb vg got most B W (.slice none 0 0) s x er .ret W' := by
  refine ⟨hk, .slice none 0 0, hm, Nx.refl _ _, .inr ?_⟩
  by_cases he : er = 0
  · have e : (stopSink got most).st s x = ((s.1, true), false) := by simp [stopSink, hw]
    exact ⟨(s.1, true), rfl, .inl ⟨he, by rw [e], by rw [e]⟩, fun h => by cases h⟩
  · refine ⟨(s.1, true), rfl, .inr ⟨he, ?_⟩, fun h => by cases h⟩
    have := hx he
    subst this
    show (s.1, true) = (s.1, wrong got s.1 ([], []))
    rw [hw]
end
end Go.Proofs.YtimbleaafoiidaaGreatDoor
