/-
  A range over a function value that has arguments bound ahead of yield, or captured behind: told once, for what comes in a given order and leaves memory alone between two rounds. Conditions: what each round owes.
-/
import Derived.RangeFuncNested
import Derived.RangeFuncBound
import Derived.RangeFuncCalls
import Derived.RangeFuncLeaves
import Derived.RangeFuncBox
import Derived.Shelf.Abstract
import Derived.Shelf.RegionOpen
import Derived.WalkKit
import Derived.OwnWalkIn
import Derived.TacticsInMore
import Derived.LoopNIn
import Derived.LoopIn
import Derived.Maps.AppendAt
import Derived.Test.YtkihldkaiddbkaaProg
namespace Go.Proofs.Ytkihldkaiddbkaa
open Go.RowKit

/-- The texts xs come, one by one, where function gf is called with yield between first and lb, in any world where what lay in w lies. -/
def Gives (P : Program) (gf : Nat) (first lb : Array Value) (xs : List ByteArray) (w : World) : Prop :=
  ∀ (l : Nat) (J Jx : Nat → World → Prop) (W : World), Below w.heap.size w W → (∀ k V, J k V → J k V.drew) → J 0 W →
    (∀ k V (hk : k < xs.length), J k V → YieldAt Fence.wide 0 P l #[.string xs[k]] V fun e V' =>
      (e = .returned (.bool true) ∧ J (k + 1) V' ∧ Below w.heap.size V V') ∨ (e = .returned (.bool false) ∧ Jx k V')) →
    CallsIn Fence.wide 0 P gf (first ++ #[.func (.yield l) #[] #[]] ++ lb) W fun e W' =>
      (∃ v, e = .returned v) ∧ (J xs.length W' ∨ ∃ k, k < xs.length ∧ Jx k W')

/-- How a round's body may be left: it goes on, or it returns. -/
def roundEnd (w0 : World) (I Ix : Nat → World → Prop) (k : Nat) (W : World) : Exit → Act → World → Prop
  | .normal, _, W' => KeepsOthers W W' ∧ Below w0.heap.size W W' ∧ I (k + 1) W'
  | .ret, _, W' => KeepsOthers W W' ∧ Ix k W'
  | _, _, _ => False

theorem wp_each {P : Program} {g : Operand} {p : Tmp} {assign body : Code} {Q : Exit → Act → World → Prop} {a : Act} {w w0 : World} {gf : Nat} {first lb : Array Value} {xs : List ByteArray}
    (hg : a.eval g = .func (.func gf) first lb) (henter : ∀ args w, (callFunc gf args).run P w = .ok (.enter gf args) w)
    (hgives : Gives P gf first lb xs w0) (h00 : Below w0.heap.size w0 w)
    (I Ix : Nat → World → Prop) (hI : OwnFrom w.heap.size I) (hIx : OwnFrom w.heap.size Ix) (h0 : I 0 w) (start : ByteArray → Act)
    (hassign : ∀ (l : Nat) (x : ByteArray) (W : World) (K : Act → World → Prop), K (start x) W →
      assign.wpIn (Fence.wide.inRound l) 0 P (Exit.then K (fun _ _ _ => False)) { tmps := a.tmps.setIfInBounds p (.string x), defers := [] } W)
    (hbody : ∀ (l k : Nat) (W : World) (hk : k < xs.length), I k W → body.wpIn (Fence.wide.inRound l) 0 P (roundEnd w0 I Ix k W) (start xs[k]) W)
    (hall : ∀ (D : Nat) (W : World), w.heap.size ≤ D → I xs.length W → W.heap[D]? = some (.deferred (some [])) → Q .normal { a with defers := { target := .collected D, args := #[] } :: a.defers } W)
    (hleft : ∀ (D k : Nat) (W : World), w.heap.size ≤ D → k < xs.length → Ix k W → W.heap[D]? = some (.deferred (some [])) → Code.ret.wpIn Fence.wide 0 P Q { a with defers := { target := .collected D, args := #[] } :: a.defers } W) :
    (Code.rangeFunc g #[p] assign body).wpIn Fence.wide 0 P Q a w := by
  refine wpIn_rangeFunc fun fn hfn => ?_
  let D := w.heap.size
  let R : LoopState → Option Code → Obj := fun st pe => .loop { state := st, pending := pe, fn, tmps := a.tmps, params := #[p], assign, body, defers := D }
  let wl := (w.alloc (.deferred (some []))).alloc (R .ready none)
  have hD : wl.heap[D]? = some (.deferred (some [])) := (Below.heap_alloc _ _ _ (by simp [D])).trans (World.alloc_heap_new w _)
  have hL : wl.heap[D + 1]? = some (R .ready none) := by
    have := World.alloc_heap_new (w.alloc (.deferred (some []))) (R .ready none)
    rwa [World.size_alloc] at this
  have hbl : Below w0.heap.size w0 wl := h00.trans ((((Below.refl _ w).alloc (Nat.le_refl _) _).alloc (by simp) _).mono h00.size)
  have nw : ∀ st pe, (R st pe).isCells = false ∧ (R st pe).isWalk = false := fun _ _ => ⟨rfl, rfl⟩
  -- the record is turned: what lay in w lies
  have turn : ∀ (W : World) st pe st' pe', W.heap[D + 1]? = some (R st pe) → Below w0.heap.size W (W.putObj (D + 1) (R st' pe')) :=
    fun W st pe st' pe' h => belowK_b h00.size W (D + 1) _ _ (Nat.le_succ _) h (nw st pe).1 (nw st pe).2
  refine ⟨D + 1, [{ target := .collected D, args := #[] }], wl, { target := .fn (.func gf) lb, args := first ++ #[.func (.yield (D + 1)) #[] #[]] }, wl, gf,
    first ++ #[.func (.yield (D + 1)) #[] #[]] ++ lb, wl, run_enterLoop_outer _ _ _ _ _, ?_, fun _ _ => trivial, ?_, (fun h => by cases h), ?_⟩
  · simp only [resolve, hg]
    simp [Deferred.ofValue, go_sem]
  · simp [invoke, henter]
  refine (hgives (D + 1) (fun k W => I k W ∧ W.heap[D + 1]? = some (R .ready none) ∧ W.heap[D]? = some (.deferred (some [])))
    (fun k W => Ix k W ∧ W.heap[D + 1]? = some (R .done (some .ret)) ∧ W.heap[D]? = some (.deferred (some []))) wl hbl (fun k V h => ⟨hI k V V.drew none h.1 ⟨rfl, rfl, rfl, Nat.le_refl _, fun _ _ _ => rfl⟩ (fun r e => by cases e), h.2⟩) ⟨hI.alloc _ (hI.alloc _ h0), hL, hD⟩ ?_).mono ?_
  · rintro k V hk ⟨hi, hl, hd⟩
    have hlt : D + 1 < V.heap.size := (Array.getElem?_eq_some_iff.1 hl).1
    refine ⟨fn, a.tmps.setIfInBounds p (.string xs[k]), assign, body, (run_yield (args := #[.string xs[k]]) hl rfl).trans (by simp), roundIn_of_wpIn hfn ?_⟩
    refine hassign (D + 1) xs[k] V (fun a1 w1 => ∃ w2, (Instr.beginRound (D + 1)).run P w1 = .ok () w2 ∧ body.wpIn (Fence.wide.inRound (D + 1)) 0 P _ a1 w2) ⟨_, run_beginRound hl rfl, ?_⟩
    have hl1 : (V.putObj (D + 1) (R .busy none)).heap[D + 1]? = some (R .busy none) := World.putObj_heap_same hlt
    have hd1 : (V.putObj (D + 1) (R .busy none)).heap[D]? = some (.deferred (some [])) := (World.putObj_heap_other (by omega)).trans hd
    refine wpIn_mono (hbody (D + 1) k (V.putObj (D + 1) (R .busy none)) hk (hI.putObj _ hi (Nat.le_succ _) hl rfl)) fun e b V2 hp => ?_
    cases e with
    | normal =>
      obtain ⟨hk2, hb2, hi2⟩ := hp
      have hl2 := hk2.same _ _ hl1 rfl
      refine ⟨_, _, run_endRound none hl2, .inl ⟨rfl, ⟨hI.putObj _ hi2 (Nat.le_succ _) hl2 rfl, World.putObj_heap_same (Array.getElem?_eq_some_iff.1 hl2).1, (World.putObj_heap_other (by omega)).trans (hk2.same _ _ hd1 rfl)⟩, ?_⟩⟩
      exact ((turn V _ _ _ _ hl).trans hb2).trans (turn V2 _ _ _ _ hl2)
    | ret =>
      obtain ⟨hk2, hi2⟩ := hp
      have hl2 := hk2.same _ _ hl1 rfl
      exact ⟨_, _, run_endRound (some .ret) hl2, .inr ⟨rfl, hIx.putObj _ hi2 (Nat.le_succ _) hl2 rfl, World.putObj_heap_same (Array.getElem?_eq_some_iff.1 hl2).1, (World.putObj_heap_other (by omega)).trans (hk2.same _ _ hd1 rfl)⟩⟩
    | exit _ => exact hp.elim
    | goto _ => exact hp.elim
    | panic _ => exact hp.elim
    | outgrown => exact hp.elim
  · rintro e V ⟨⟨v, rfl⟩, ⟨hi, hl, hd⟩ | ⟨k, hk, hi, hl, hd⟩⟩
    · exact ⟨none, _, run_endLoop hl (by simp), hall D _ (Nat.le_refl _) (hI.putObj _ hi (Nat.le_succ _) hl rfl) ((World.putObj_heap_other (by omega)).trans hd)⟩
    · exact ⟨some .ret, _, run_endLoop hl (by simp), hleft D k _ (Nat.le_refl _) hk (hIx.putObj _ hi (Nat.le_succ _) hl rfl) ((World.putObj_heap_other (by omega)).trans hd)⟩

end Go.Proofs.Ytkihldkaiddbkaa
