/-
  A range over pairs and errors that an iterator tells: told once for every iterator that keeps to its word. Conditions: what each round owes.
-/
import Derived.Test.YtfeffaeinggiiaaGreatDoorJ45PThrough
import Derived.Maps.AppendAt
namespace Go.Proofs.YtfeffaeinggiiaaGreatDoor
open Go.RowKit
attribute [local go_sem] Oper.semAt_some

/-- How a body is left: by a return, or by a break out of block id. -/
def leaveX : Option Nat → Exit
  | none => .ret
  | some id => .exit id
def leaveC : Option Nat → Code
  | none => .ret
  | some id => .exit id
/-- What a pair is, in a variable of its own. -/
abbrev pairO (x : Pair) : Obj := .cells #[.string (strB x.1), .string (strB x.2)] 60
/-- A record is turned: of cells nothing moves. -/
theorem Mv.put {B : Nat} {ts : List TypeId} {r : Option Nat} {W : World} {k : Nat} {o o' : Obj} (h : W.heap[k]? = some o) (ho : isRec o = true) (hB : B ≤ k) : Mv B ts r W (W.putObj k o') := by
  have hlt := lt_of_heap h
  refine ⟨⟨rfl, rfl, rfl, by simp [World.putObj], fun i hi => World.putObj_heap_other (by omega)⟩, fun i cs t fr hi _ _ => ?_⟩
  refine (World.putObj_heap_other ?_).trans hi
  rintro rfl
  rw [h] at hi
  injection hi with hi
  subst hi
  cases ho
set_option maxHeartbeats 1600000 in
theorem wp_told {σ : Type} {P : Program} {g : Operand} {p q : Tmp} {assign body : Code} {Q : Exit → Act → World → Prop} {a : Act} {w : World} {gf : Nat} {lb : Array Value}
    (hPP : P = Tryz.prog) (hg : a.eval g = .func (.func gf) #[] lb) (henter : ∀ args w, (callFunc gf args).run P w = .ok (.enter gf args) w)
    (k : Sink σ) (B : Nat) (sts : List TypeId) (hBw : B ≤ w.heap.size) (J0 Jn Jc : Value → σ → World → Prop) (lv : Option Nat)
    (kJ : ∀ {v : Value} {s : σ} {W W' : World}, J0 v s W → Mv B jts Option.none W W' → J0 v s W') (kn : ∀ {v : Value} {s : σ} {W W' : World}, Jn v s W → Mv B [] Option.none W W' → Jn v s W') (kc : ∀ {v : Value} {s : σ} {W W' : World}, Jc v s W → Mv B [] Option.none W W' → Jc v s W')
    (row : ∀ {v : Value} {s : σ} {W : World} {b : Nat}, J0 v s W → v.ownBlock = some b → ∃ cs fr, W.heap[b]? = some (.cells cs 60 fr))
    (apart : 128 ∉ sts ∧ 60 ∉ sts ∧ 66 ∉ sts ∧ 83 ∉ sts)
    (start : Nat → Pair → Int → Act)
    (hassign : ∀ (l : Nat) (x : Pair) (er : Int) (W : World) (K : Act → World → Prop), K (start W.heap.size x er) (W.alloc (pairO x)) →
      assign.wpIn (Fence.wide.inRound l) 0 P (Exit.then K (fun _ _ _ => False)) { tmps := (a.tmps.setIfInBounds p (.agg #[.string (strB x.1), .string (strB x.2)])).setIfInBounds q (.int .i64 er), defers := [] } W)
    (hbody : ∀ (l b : Nat) (v : Value) (s : σ) (x : Pair) (er : Int) (W : World), J0 v s W → W.heap[b]? = some (pairO x) → some b ≠ v.ownBlock → (er = 0 → k.cap s ≤ 1000000) → (er ≠ 0 → x = ([], [])) →
      body.wpIn (Fence.wide.inRound l) 0 P (fun e _ W' => KO W W' ∧ ∃ v', Mv B sts v.ownBlock W W' ∧ Nx W v.ownBlock v'.ownBlock ∧
        ((e = .normal ∧ ((er = 0 ∧ (k.st s x).2 = true ∧ J0 v' (k.st s x).1 W') ∨ (er ≠ 0 ∧ Jn v' (k.er s er) W'))) ∨ (e = leaveX lv ∧ ((er = 0 ∧ (k.st s x).2 = false ∧ Jc v' (k.st s x).1 W') ∨ (er ≠ 0 ∧ Jc v' (k.er s er) W'))))) (start b x er) W)
    (v0 : Value) (s0 : σ) (h0 : J0 v0 s0 w) (T : Tst σ × Bool) (X : World → Prop) (kX : ∀ {W W' : World}, X W → Mv B [] Option.none W W' → X W')
    (hiter : ∀ (l : Nat) (J Jx : Value → σ → World → Prop) (W : World), YieldOk l k B sts J Jx → J v0 s0 W → Below w.heap.size w W → Calls P gf (#[.func (.yield l) #[] #[]] ++ lb) W fun e W' => (∃ x, e = .returned x) ∧ ∃ v', (T.2 = true → J v' T.1.s W') ∧ (T.2 = false → Jx v' T.1.s W') ∧ X W')
    (hall : ∀ (D : Nat) (W : World) (v' : Value), w.heap.size ≤ D → (T.2 = true ∧ J0 v' T.1.s W ∨ T.2 = false ∧ Jn v' T.1.s W) → X W → W.heap[D]? = some (.deferred (some [])) → Q .normal { a with defers := { target := .collected D, args := #[] } :: a.defers } W)
    (hleft : ∀ (D : Nat) (W : World) (v' : Value), w.heap.size ≤ D → T.2 = false → Jc v' T.1.s W → X W → W.heap[D]? = some (.deferred (some [])) → (leaveC lv).wpIn Fence.wide 0 P Q { a with defers := { target := .collected D, args := #[] } :: a.defers } W) :
    (Code.rangeFunc g #[p, q] assign body).wpIn Fence.wide 0 P Q a w := by
  subst hPP
  refine wpIn_rangeFunc fun fn hfn => ?_
  let D := w.heap.size
  let R : LoopState → Option Code → Obj := fun st pe => .loop { state := st, pending := pe, fn, tmps := a.tmps, params := #[p, q], assign, body, defers := D }
  let wl := (w.alloc (.deferred (some []))).alloc (R .ready none)
  have hD : wl.heap[D]? = some (.deferred (some [])) := (Below.heap_alloc _ _ _ (by simp [D])).trans (World.alloc_heap_new w _)
  have hL : wl.heap[D + 1]? = some (R .ready none) := by
    have := World.alloc_heap_new (w.alloc (.deferred (some []))) (R .ready none)
    rwa [World.size_alloc] at this
  have hbl : Below w.heap.size w wl := ((Below.refl _ w).alloc (Nat.le_refl _) _).alloc (by simp) _
  have turn : ∀ (ts : List TypeId) (r : Option Nat) (W : World) st pe st' pe', W.heap[D + 1]? = some (R st pe) → Mv B ts r W (W.putObj (D + 1) (R st' pe')) :=
    fun ts r W st pe st' pe' h => Mv.put h rfl (Nat.le_trans hBw (Nat.le_succ _))
  refine ⟨D + 1, [{ target := .collected D, args := #[] }], wl, { target := .fn (.func gf) lb, args := #[] ++ #[.func (.yield (D + 1)) #[] #[]] }, wl, gf,
    #[.func (.yield (D + 1)) #[] #[]] ++ lb, wl, run_enterLoop_outer _ _ _ _ _, ?_, fun _ _ => trivial, ?_, (fun h => by cases h), ?_⟩
  · simp only [resolve, hg]
    simp [Deferred.ofValue, go_sem]
  · simp [invoke, henter]
  -- a round
  have hround : ∀ (v : Value) (s : σ) (x : Pair) (er : Int) (W : World), (J0 v s W ∧ W.heap[D + 1]? = some (R .ready none) ∧ W.heap[D]? = some (.deferred (some []))) → (er = 0 → k.cap s ≤ 1000000) → (er ≠ 0 → x = ([], [])) →
      YieldAt Fence.wide 0 Tryz.prog (D + 1) #[.agg #[.string (strB x.1), .string (strB x.2)], .int .i64 er] W fun e W' => ∃ v', Mv B sts v.ownBlock W W' ∧ Nx W v.ownBlock v'.ownBlock ∧ W'.heap[D]? = some (.deferred (some [])) ∧
        ((e = .returned (.bool true) ∧ W'.heap[D + 1]? = some (R .ready none) ∧ ((er = 0 ∧ (k.st s x).2 = true ∧ J0 v' (k.st s x).1 W') ∨ (er ≠ 0 ∧ Jn v' (k.er s er) W'))) ∨ (e = .returned (.bool false) ∧ W'.heap[D + 1]? = some (R .done (some (leaveC lv))) ∧ ((er = 0 ∧ (k.st s x).2 = false ∧ Jc v' (k.st s x).1 W') ∨ (er ≠ 0 ∧ Jc v' (k.er s er) W')))) := by
    rintro v s x er W ⟨hj, hl, hd⟩ hcap hx
    have hlt : D + 1 < W.heap.size := (Array.getElem?_eq_some_iff.1 hl).1
    refine ⟨fn, (a.tmps.setIfInBounds p (.agg #[.string (strB x.1), .string (strB x.2)])).setIfInBounds q (.int .i64 er), assign, body, (run_yield (args := #[.agg #[.string (strB x.1), .string (strB x.2)], .int .i64 er]) hl rfl).trans (by simp), roundIn_of_wpIn hfn ?_⟩
    refine hassign (D + 1) x er W (fun a1 w1 => ∃ w2, (Instr.beginRound (D + 1)).run Tryz.prog w1 = .ok () w2 ∧ body.wpIn (Fence.wide.inRound (D + 1)) 0 Tryz.prog _ a1 w2) ?_
    have hlA : (W.alloc (pairO x)).heap[D + 1]? = some (R .ready none) := (heap_past _ _ _ hlt).trans hl
    have hdA : (W.alloc (pairO x)).heap[D]? = some (.deferred (some [])) := (heap_past _ _ _ (lt_of_heap hd)).trans hd
    have hbA : Below W.heap.size W (W.alloc (pairO x)) := (Below.refl _ _).alloc (Nat.le_refl _) _
    have hBW : B ≤ W.heap.size := by omega
    have hMA : Mv B sts v.ownBlock W (W.alloc (pairO x)) := Mv.of hbA hBW
    have hjA := kJ hj (Mv.of hbA hBW)
    have hxA := heap_last W (pairO x) _ rfl
    have hvlt : ∀ b, v.ownBlock = some b → b < W.heap.size := fun b hb => by obtain ⟨cs, fr, h⟩ := row hj hb; exact lt_of_heap h
    have hsA : (W.alloc (pairO x)).heap.size = W.heap.size + 1 := by simp
    generalize W.alloc (pairO x) = wa at *
    refine ⟨_, run_beginRound hlA rfl, ?_⟩
    have hl1 : (wa.putObj (D + 1) (R .busy none)).heap[D + 1]? = some (R .busy none) := World.putObj_heap_same (by omega)
    have hd1 : (wa.putObj (D + 1) (R .busy none)).heap[D]? = some (.deferred (some [])) := (World.putObj_heap_other (by omega)).trans hdA
    have hM1 : Mv B sts v.ownBlock W (wa.putObj (D + 1) (R .busy none)) := hMA.trans (turn sts v.ownBlock wa _ _ _ _ hlA) (Nx.refl _ _)
    have hj1 := kJ hjA (turn jts Option.none wa _ _ .busy Option.none hlA)
    have hx1 : (wa.putObj (D + 1) (R .busy none)).heap[W.heap.size]? = some (pairO x) := (World.putObj_heap_other (by omega)).trans hxA
    have hs1 : (wa.putObj (D + 1) (R .busy none)).heap.size = wa.heap.size := by simp [World.putObj]
    refine wpIn_mono (hbody (D + 1) W.heap.size v s x er (wa.putObj (D + 1) (R .busy none)) hj1 hx1 (fun e => by have := hvlt _ e.symm; omega) hcap hx) fun e b V2 hp => ?_
    obtain ⟨hk2, v', hm2, hn2, hcs⟩ := hp
    have hl2 := hk2 _ _ hl1 rfl
    have hd2 := hk2 _ _ hd1 rfl
    have hN : Nx W v.ownBlock v'.ownBlock := (Nx.refl W v.ownBlock).trans hn2 hM1.size
    rcases hcs with ⟨rfl, hcs⟩ | ⟨rfl, hcs⟩
    · refine ⟨_, _, run_endRound none hl2, v', (hM1.trans hm2 (Nx.refl _ _)).trans ((turn sts v.ownBlock V2 _ _ _ _ hl2)) (Nx.refl _ _), hN, (World.putObj_heap_other (by omega)).trans hd2, .inl ⟨rfl, World.putObj_heap_same (Array.getElem?_eq_some_iff.1 hl2).1, ?_⟩⟩
      rcases hcs with ⟨h1, h2, h3⟩ | ⟨h1, h3⟩
      · exact .inl ⟨h1, h2, kJ h3 (turn jts Option.none V2 _ _ _ _ hl2)⟩
      · exact .inr ⟨h1, kn h3 (turn [] Option.none V2 _ _ _ _ hl2)⟩
    · cases lv with
      | none =>
        refine ⟨_, _, run_endRound (some .ret) hl2, v', (hM1.trans hm2 (Nx.refl _ _)).trans ((turn sts v.ownBlock V2 _ _ _ _ hl2)) (Nx.refl _ _), hN, (World.putObj_heap_other (by omega)).trans hd2, .inr ⟨rfl, World.putObj_heap_same (Array.getElem?_eq_some_iff.1 hl2).1, ?_⟩⟩
        rcases hcs with ⟨h1, h2, h3⟩ | ⟨h1, h3⟩
        · exact .inl ⟨h1, h2, kc h3 (turn [] Option.none V2 _ _ _ _ hl2)⟩
        · exact .inr ⟨h1, kc h3 (turn [] Option.none V2 _ _ _ _ hl2)⟩
      | some id =>
        refine ⟨_, _, run_endRound (some (.exit id)) hl2, v', (hM1.trans hm2 (Nx.refl _ _)).trans ((turn sts v.ownBlock V2 _ _ _ _ hl2)) (Nx.refl _ _), hN, (World.putObj_heap_other (by omega)).trans hd2, .inr ⟨rfl, World.putObj_heap_same (Array.getElem?_eq_some_iff.1 hl2).1, ?_⟩⟩
        rcases hcs with ⟨h1, h2, h3⟩ | ⟨h1, h3⟩
        · exact .inl ⟨h1, h2, kc h3 (turn [] Option.none V2 _ _ _ _ hl2)⟩
        · exact .inr ⟨h1, kc h3 (turn [] Option.none V2 _ _ _ _ hl2)⟩
  let J : Value → σ → World → Prop := fun v s W => J0 v s W ∧ W.heap[D + 1]? = some (R .ready none) ∧ W.heap[D]? = some (.deferred (some []))
  let Jx : Value → σ → World → Prop := fun v s W => (Jn v s W ∧ W.heap[D + 1]? = some (R .ready none) ∧ W.heap[D]? = some (.deferred (some []))) ∨ (Jc v s W ∧ W.heap[D + 1]? = some (R .done (some (leaveC lv))) ∧ W.heap[D]? = some (.deferred (some [])))
  have hY : YieldOk (D + 1) k B sts J Jx := by
    refine ⟨fun h hm hk => ⟨kJ h.1 hm, hk _ _ h.2.1 rfl, hk _ _ h.2.2 rfl⟩, fun h hb => row h.1 hb, fun v s x W hj hcap => ?_, fun v s er W hj her => ?_, apart⟩
    · obtain ⟨f1, t1, a1, b1, hy, hR⟩ := hround v s x 0 W hj (fun _ => hcap) (fun h => absurd rfl h)
      refine ⟨f1, t1, a1, b1, hy, hR.mono fun e W' hp => ?_⟩
      obtain ⟨v', hm, hn, hd, hcs⟩ := hp
      rcases hcs with ⟨rfl, hl, ⟨-, h2, h3⟩ | ⟨h1, -⟩⟩ | ⟨rfl, hl, ⟨-, h2, h3⟩ | ⟨h1, -⟩⟩
      · exact ⟨v', by rw [h2], hm, hn, fun _ => ⟨h3, hl, hd⟩, fun h => by rw [h2] at h; cases h⟩
      · exact absurd rfl h1
      · exact ⟨v', by rw [h2], hm, hn, (fun h => by rw [h2] at h; cases h), fun _ => .inr ⟨h3, hl, hd⟩⟩
      · exact absurd rfl h1
    · obtain ⟨f1, t1, a1, b1, hy, hR⟩ := hround v s ([], []) er W hj (fun h => absurd h her) (fun _ => rfl)
      refine ⟨f1, t1, a1, b1, hy, hR.mono fun e W' hp => ?_⟩
      obtain ⟨v', hm, hn, hd, hcs⟩ := hp
      rcases hcs with ⟨rfl, hl, ⟨h1, -, -⟩ | ⟨-, h3⟩⟩ | ⟨rfl, hl, ⟨h1, -, -⟩ | ⟨-, h3⟩⟩
      · exact absurd h1 her
      · exact ⟨v', true, rfl, hm, hn, .inl ⟨h3, hl, hd⟩⟩
      · exact absurd h1 her
      · exact ⟨v', false, rfl, hm, hn, .inr ⟨h3, hl, hd⟩⟩
  have hit := hiter (D + 1) J Jx wl hY ⟨kJ h0 (Mv.of hbl hBw), hL, hD⟩ hbl
  refine (callsIn_wide.2 hit).mono ?_
  rintro e V ⟨⟨v, rfl⟩, v', hJ, hJx, hX⟩
  cases hT : T.2 with
  | true =>
    obtain ⟨hj, hl, hd⟩ := hJ hT
    exact ⟨none, _, run_endLoop hl (by simp), hall D _ v' (Nat.le_refl _) (.inl ⟨hT, kJ hj (turn jts Option.none V _ _ _ _ hl)⟩) (kX hX (turn [] Option.none V _ _ _ _ hl)) ((World.putObj_heap_other (by omega)).trans hd)⟩
  | false =>
    rcases hJx hT with ⟨hj, hl, hd⟩ | ⟨hj, hl, hd⟩
    · exact ⟨none, _, run_endLoop hl (by simp), hall D _ v' (Nat.le_refl _) (.inr ⟨hT, kn hj (turn [] Option.none V _ _ _ _ hl)⟩) (kX hX (turn [] Option.none V _ _ _ _ hl)) ((World.putObj_heap_other (by omega)).trans hd)⟩
    · exact ⟨some (leaveC lv), _, run_endLoop hl (by simp), hleft D _ v' (Nat.le_refl _) hT (kc hj (turn [] Option.none V _ _ _ _ hl)) (kX hX (turn [] Option.none V _ _ _ _ hl)) ((World.putObj_heap_other (by omega)).trans hd)⟩
end Go.Proofs.YtfeffaeinggiiaaGreatDoor
