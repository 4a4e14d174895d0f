/-
  Who serves in NetPlays: it notes what it is asked, and answers in turn. Conditions: what it holds lies there; texts within reach.
-/
import Derived.Test.YtgjmidlcfjgnhaaRefNet
import Derived.Test.YtgjmidlcfjgnhaaShown
namespace Go.Proofs.Ytgjmidlcfjgnhaa
open Go.RowKit

def pstep (an : List Bs) (met : List Bs) (s : Bs) : Bs × List Bs := (if an = [] then s else an.getD (met.length % an.length) [], met ++ [s])
/-- What it knows. -/
def PSv (w0 : World) (mb ab : Nat) (va : Value) (w : World) (H : Nat → Prop) (m : Nat) (met : List Bs) : Prop :=
  ∃ vm, w.heap[mb]? = some (bxo vm) ∧ w.heap[ab]? = some (bxo va) ∧ Own w w0.heap.size vm met ∧ met.length + m ≤ 1000000 ∧ mb ≠ ab ∧ (∀ k, H k ↔ k = mb ∨ k = ab ∨ vm.ownBlock = some k) ∧ w0.heap.size ≤ mb ∧ w0.heap.size ≤ ab ∧ (∀ k, k < w0.heap.size → w.heap[k]? = w0.heap[k]?) ∧ w0.heap.size ≤ w.heap.size
theorem Ts.low {w0 w : World} {v : Value} {xs : List Bs} (h : Ts w0 v xs) (hl : ∀ k, k < w0.heap.size → w.heap[k]? = w0.heap[k]?) (hz : w0.heap.size ≤ w.heap.size) : Ts w v xs := by
  obtain ⟨ao, cap, hv, h1, h2, h4⟩ := h
  refine ⟨ao, cap, hv, h1, h2, fun hx => ?_⟩
  obtain ⟨b, off, ha, hlt, hc⟩ := h4 hx
  exact ⟨b, off, ha, by omega, fun j hj => (World.cell?_of_block (hl b hlt)).trans (hc j hj)⟩
theorem pstep_none {an met : List Bs} {s : Bs} (h : an = []) : pstep an met s = (s, met ++ [s]) := by unfold pstep; rw [if_pos h]
theorem pstep_some {an met : List Bs} {s : Bs} (h : an ≠ []) : pstep an met s = (an.getD (met.length % an.length) [], met ++ [s]) := by unfold pstep; rw [if_neg h]

set_option maxRecDepth 20000 in
set_option maxHeartbeats 1000000 in
theorem serve1_any (w0 : World) (mb ab : Nat) (va : Value) (an : List Bs) (hT : Ts w0 va an) (w : World) (H : Nat → Prop) (m : Nat) (met : List Bs) (s : Bs) (h : PSv w0 mb ab va w H (m + 1) met) (hal : an.length ≤ 4611686018427387904) :
    Calls Try.prog 8 #[.string (strB s), .pointer (some ⟨mb, 0, none⟩), .pointer (some ⟨ab, 0, none⟩)] w fun e w' => e = .returned (.string (strB (pstep an met s).1)) ∧ ∃ H', PSv w0 mb ab va w' H' m (pstep an met s).2 ∧ Chg H w w' ∧ ∀ k, H' k → H k ∨ w.heap.size ≤ k := by
  obtain ⟨vm, h1, h2, h3, h5, h6, h7, h8, h9, h10, h11⟩ := h
  have k1 : Chg (fun _ => False) w (w.alloc (.cells #[.string (strB s)] 9)) := (Chg.refl _ _).alloc _
  obtain ⟨v', w2, hrun, ho2, hgr, hnx⟩ := app_texts (w.alloc (.cells #[.string (strB s)] 9)) w0.heap.size vm met _ [s] (h3.keep k1 (fun _ _ h => h)) (own_lit w [s] (by simp)).ts (by simp; omega) (by omega) (by simp)
  have k2 : Chg (fun k => vm.ownBlock = some k) w w2 := (k1.mono (fun _ _ h => h.elim)).then ((Chg.of_grown hgr).mono (fun _ _ h => h.symm))
  have hvt : ∀ {k : Nat} {c : Array Value} {t : TypeId} {fr : Nat × Nat}, w.heap[k]? = some (.cells c t fr) → t ≠ 9 → vm.ownBlock ≠ some k := fun hk ht e => by
    obtain ⟨c', fr', h'⟩ := own_kind h3 e
    exact ne_type hk h' ht rfl
  have m2 := k2.keep h1 (hvt h1 (by decide))
  have a2 := k2.keep h2 (hvt h2 (by decide))
  have kS := chg_set w2 mb 0 v'
  have a3 := kS.keep a2 (Ne.symm h6)
  have m3 := heap_set m2 0 v'
  have hz2 := k2.size
  have hz3 := kS.size
  have hlow : ∀ k, k < w0.heap.size → (w2.setCell ⟨mb, 0, none⟩ v').heap[k]? = w0.heap[k]? := fun k hk => by
    rw [kS.block k (by omega) (by omega), k2.block k (by omega) (fun hv => by have := (own_lt h3 hv).1; omega), h10 k hk]
  have ts3 : Ts (w2.setCell ⟨mb, 0, none⟩ v') va an := hT.low hlow (by omega)
  have ho3 : Own (w2.setCell ⟨mb, 0, none⟩ v') w0.heap.size v' (met ++ [s]) := ho2.keep kS (fun k hk e => by
    obtain ⟨c', fr', h'⟩ := own_kind ho2 hk
    exact ne_type m2 h' (by decide) e.symm)
  have kT : Chg H w (w2.setCell ⟨mb, 0, none⟩ v') := (k2.mono (G := H) (fun k _ h => (h7 k).2 (.inr (.inr h)))).then (kS.mono (fun k _ h => (h7 k).2 (.inl h)))
  have HF := hide (show ∃ H', PSv w0 mb ab va (w2.setCell ⟨mb, 0, none⟩ v') H' m (met ++ [s]) ∧ Chg H w (w2.setCell ⟨mb, 0, none⟩ v') ∧ ∀ k, H' k → H k ∨ w.heap.size ≤ k from by
    refine ⟨fun k => k = mb ∨ k = ab ∨ v'.ownBlock = some k, ⟨v', m3, a3, ho3, by simp; omega, h6, fun k => Iff.rfl, h8, h9, hlow, by omega⟩, kT, fun k hk => ?_⟩
    rcases hk with hk | hk | hk
    · exact .inl ((h7 k).2 (.inl hk))
    · exact .inl ((h7 k).2 (.inr (.inl hk)))
    · rcases hnx with q | q
      · exact .inl ((h7 k).2 (.inr (.inr (q ▸ hk))))
      · rw [q] at hk
        injection hk with hk
        simp at hk
        exact .inr (by omega))
  have kT2 : Chg (fun _ => False) (w2.setCell ⟨mb, 0, none⟩ v') (w2.setCell ⟨mb, 0, none⟩ v').drew := (Chg.refl _ _).drew
  have HFD := hide (show ∃ H', PSv w0 mb ab va (w2.setCell ⟨mb, 0, none⟩ v').drew H' m (met ++ [s]) ∧ Chg H w (w2.setCell ⟨mb, 0, none⟩ v').drew ∧ ∀ k, H' k → H k ∨ w.heap.size ≤ k from by
    obtain ⟨H', ⟨vm', q1, q2, q3, q4, q5⟩, q6, q7⟩ := HF.out
    exact ⟨H', ⟨vm', q1, q2, q3, q4, q5⟩, q6.drew, q7⟩)
  have c1 := cell_of h1 0
  have e1 := cell_of m2 0
  have e2 := thawed m2 0
  have d1 := cell_of m3 0
  have d2 := cell_of a3 0
  simp only [List.getElem?_toArray, List.getElem?_cons_zero] at c1 d2 e1
  have d1' : (w2.setCell ⟨mb, 0, none⟩ v').cell? ⟨mb, 0, none⟩ = some v' := by rw [d1]; rfl
  obtain ⟨aa, ca, hva, hal1, -, hac⟩ := ts3
  subst hva
  obtain ⟨am, cm, rfl⟩ := own_shape h3
  obtain ⟨am', cm', rfl⟩ := own_shape ho2
  rw [List.length_append] at hrun HF HFD d1' d2 hac
  simp only [List.length_cons, List.length_nil, Nat.zero_add] at hrun HF HFD d1' d2 hac
  have hmm : (met.length : Int) + 1 ≤ 1000001 := by omega
  generalize hW : w2.setCell ⟨mb, 0, none⟩ (.slice am' (met.length + 1) cm') = W at *
  clear h1 h2 h3 h7 k1 hT hlow hz3 ho2 hgr hnx k2 hvt m2 a2 kS a3 m3 hz2 ho3 kT kT2 d1 h5 h6 h8 h9 h10 h11
  by_cases h0 : an = []
  · rw [pstep_none h0]
    subst h0
    clear hac HFD
    go_enter Try.func8, Try.ntmps8
    go_wp2_with (at_builtin; refine wpList_append_run rfl (.tmp 5) (.tmp 7) 23 rfl rfl rfl hrun ?_)
    go_ret
    exact ⟨rfl, HF.out⟩
  · rw [pstep_some h0]
    have hpos : 0 < an.length := List.length_pos_iff.2 h0
    obtain ⟨b, off, rfl, hbl, hcell⟩ := hac h0
    have hmod : met.length % an.length < an.length := Nat.mod_lt _ hpos
    have c := hcell _ hmod
    have hget : an.getD (met.length % an.length) [] = an[met.length % an.length] := by
      rw [List.getD_eq_getElem?_getD, List.getElem?_eq_getElem hmod]
      rfl
    rw [hget]
    have hrem : (met.length : Int).tmod (an.length : Int) = ((met.length % an.length : Nat) : Int) := by
      rw [Int.tmod_eq_emod_of_nonneg (by omega)]
      simp
    have hwc : IntKind.i64.wrap (met.length : Int) = (met.length : Int) := by rw [IntKind.wrap_i64]; omega
    have hn0 : ¬ an.length = 0 := by omega
    have hnb : ((an.length : Int) == 0) = false := by simp; omega
    clear hac hcell hget HF
    generalize an[met.length % an.length] = t at *
    generalize met.length % an.length = q at *
    have hq1 : (q : Int) < (an.length : Int) := by omega
    go_enter Try.func8, Try.ntmps8
    go_wp2_with (at_builtin; refine wpList_append_run rfl (.tmp 5) (.tmp 7) 23 rfl rfl rfl hrun ?_)
    refine wp_region_held_drew (S := fun W => W.cell? ⟨mb, 0, none⟩ = some (.slice am' (met.length + 1) cm') ∧ W.cell? ⟨ab, 0, none⟩ = some (.slice (some ⟨b, off, none⟩) an.length ca) ∧ W.cell? ⟨b, off + q, none⟩ = some (.string (strB t))) (by kernel_rfl) (⟨d1', d2, c⟩) (fun hHeld => ?_)
    refine takeH (i := 0) (v := ?_) rfl (by kernel_rfl) (by kernel_rfl) (by kernel_rfl) (fun _ _ _ h => h) rfl ?_ hHeld ?_
    rotate_left
    · intro w hS; (try dsimp only at hS); obtain ⟨hS0, hS1, hS2⟩ := hS; go_simp; first | done | (with_reducible rfl)
    try simp only [Act.put, List.setIfInBounds_toArray, List.set_cons_zero, List.set_cons_succ]
    refine takeH (i := 1) (v := ?_) rfl (by kernel_rfl) (by kernel_rfl) (by kernel_rfl) (fun _ _ _ h => h) rfl ?_ hHeld ?_
    rotate_left
    · intro w hS; (try dsimp only at hS); obtain ⟨hS0, hS1, hS2⟩ := hS; go_simp; first | done | (with_reducible rfl)
    try simp only [Act.put, List.setIfInBounds_toArray, List.set_cons_zero, List.set_cons_succ]
    refine takeH (i := 2) (v := ?_) rfl (by kernel_rfl) (by kernel_rfl) (by kernel_rfl) (fun _ _ _ h => h) rfl ?_ hHeld ?_
    rotate_left
    · intro w hS; (try dsimp only at hS); obtain ⟨hS0, hS1, hS2⟩ := hS; go_simp; first | done | (with_reducible rfl)
    try simp only [Act.put, List.setIfInBounds_toArray, List.set_cons_zero, List.set_cons_succ]
    refine takeH (i := 3) (v := ?_) rfl (by kernel_rfl) (by kernel_rfl) (by kernel_rfl) (fun _ _ _ h => h) rfl ?_ hHeld ?_
    rotate_left
    · intro w hS; (try dsimp only at hS); obtain ⟨hS0, hS1, hS2⟩ := hS; go_simp; first | done | (with_reducible rfl)
    try simp only [Act.put, List.setIfInBounds_toArray, List.set_cons_zero, List.set_cons_succ]
    refine takeH (i := 4) (v := ?_) rfl (by kernel_rfl) (by kernel_rfl) (by kernel_rfl) (fun _ _ _ h => h) rfl ?_ hHeld ?_
    rotate_left
    · intro w hS; (try dsimp only at hS); obtain ⟨hS0, hS1, hS2⟩ := hS; go_simp; first | done | (with_reducible rfl)
    try simp only [Act.put, List.setIfInBounds_toArray, List.set_cons_zero, List.set_cons_succ]
    refine takeH (i := 5) (v := ?_) rfl (by kernel_rfl) (by kernel_rfl) (by kernel_rfl) (fun _ _ _ h => h) rfl ?_ hHeld ?_
    rotate_left
    · intro w hS; (try dsimp only at hS); obtain ⟨hS0, hS1, hS2⟩ := hS; go_simp; first | done | (with_reducible rfl)
    try simp only [Act.put, List.setIfInBounds_toArray, List.set_cons_zero, List.set_cons_succ]
    refine takeH (i := 6) (v := ?_) rfl (by kernel_rfl) (by kernel_rfl) (by kernel_rfl) (fun _ _ _ h => h) rfl ?_ hHeld ?_
    rotate_left
    · intro w hS; (try dsimp only at hS); obtain ⟨hS0, hS1, hS2⟩ := hS; go_simp; first | done | (with_reducible rfl)
    try simp only [Act.put, List.setIfInBounds_toArray, List.set_cons_zero, List.set_cons_succ]
    refine takeH (i := 7) (v := ?_) rfl (by kernel_rfl) (by kernel_rfl) (by kernel_rfl) (fun _ _ _ h => h) rfl ?_ hHeld ?_
    rotate_left
    · intro w hS; (try dsimp only at hS); obtain ⟨hS0, hS1, hS2⟩ := hS; go_simp; first | done | (with_reducible rfl)
    try simp only [Act.put, List.setIfInBounds_toArray, List.set_cons_zero, List.set_cons_succ]
    refine takeH (i := 8) (v := ?_) rfl (by kernel_rfl) (by kernel_rfl) (by kernel_rfl) (fun _ _ _ h => h) rfl ?_ hHeld ?_
    rotate_left
    · intro w hS; (try dsimp only at hS); obtain ⟨hS0, hS1, hS2⟩ := hS; go_simp; first | done | (with_reducible rfl)
    try simp only [Act.put, List.setIfInBounds_toArray, List.set_cons_zero, List.set_cons_succ]
    refine takeH (i := 9) (v := ?_) rfl (by kernel_rfl) (by kernel_rfl) (by kernel_rfl) (fun _ _ _ h => h) rfl ?_ hHeld ?_
    rotate_left
    · intro w hS; (try dsimp only at hS); obtain ⟨hS0, hS1, hS2⟩ := hS; go_simp; first | done | (with_reducible rfl)
    try simp only [Act.put, List.setIfInBounds_toArray, List.set_cons_zero, List.set_cons_succ]
    refine wpAnyH_done (by kernel_rfl) ?_ _
    clear hHeld
    go_wp2_with fail
    go_ret
    exact ⟨rfl, HFD.out⟩
theorem plays_serves (w0 : World) (mb ab : Nat) (va : Value) (an : List Bs) (hT : Ts w0 va an) (ha : ∀ a ∈ an, a.length ≤ 140737488355328) (hal : an.length ≤ 4611686018427387904) : Serves w0.heap.size 8 #[.pointer (some ⟨mb, 0, none⟩), .pointer (some ⟨ab, 0, none⟩)] (pstep an) Fr (PSv w0 mb ab va) where
  eg := enters_own Try.func8 (by kernel_rfl) rfl
  frame _ h := h
  turn f s h := h.turn f
  keep w w' F H m st h hc hd hB := by
    obtain ⟨vm, h1, h2, h3, h5, h6, h7, h8, h9, h10, h11⟩ := h
    exact ⟨vm, hc.keep h1 (hd _ ((h7 _).2 (.inl rfl))), hc.keep h2 (hd _ ((h7 _).2 (.inr (.inl rfl)))), h3.keep hc (fun k hk => hd k ((h7 k).2 (.inr (.inr hk)))), h5, h6, h7, h8, h9, fun k hk => (hc.block k (by omega) (fun hF => by have := hB k hF; omega)).trans (h10 k hk), by have := hc.size; omega⟩
  lt w H m st h k hk := by
    obtain ⟨vm, h1, h2, h3, h5, h6, h7, h8, h9, h10, h11⟩ := h
    rcases (h7 k).1 hk with rfl | rfl | hk
    · exact lt_of_heap h1
    · exact lt_of_heap h2
    · exact (own_lt h3 hk).2
  call w H m st s h _ := serve1_any w0 mb ab va an hT w H m st s h hal
  short st s h := by
    by_cases h0 : an = []
    · rw [pstep_none h0]; exact h.2
    · rw [pstep_some h0]
      have hpos : 0 < an.length := List.length_pos_iff.2 h0
      have hmod : st.length % an.length < an.length := Nat.mod_lt _ hpos
      show (an.getD (st.length % an.length) []).length ≤ _
      rw [List.getD_eq_getElem?_getD, List.getElem?_eq_getElem hmod]
      exact ha _ (List.getElem_mem hmod)
theorem serveL_met (an cs : List Bs) (y : Sg (List Bs)) : (serveL (pstep an) cs y).st = y.st ++ cs := by
  induction cs generalizing y with
  | nil => simp [serveL]
  | cons c r ih =>
    have e : serveL (pstep an) (c :: r) y = serveL (pstep an) r (stepS (pstep an) y c) := rfl
    have e2 : (stepS (pstep an) y c).st = y.st ++ [c] := by
      unfold stepS
      split <;> rfl
    rw [e, ih, e2, List.append_assoc]
    rfl

/-! ### the net, who serves and the reference side by side -/
abbrev psv (mb ab : Nat) : Value := .func (.func 8) #[] #[.pointer (some ⟨mb, 0, none⟩), .pointer (some ⟨ab, 0, none⟩)]
structure PlayAt (w wr : World) (n r mb ab : Nat) (va : Value) (x : Nt) (fs : List Ft) (th bk : List Bs) (G : Gn) (H : Nat → Prop) (R : Gr) (m : Nat) (met : List Bs) : Prop where
  net : NetW wr n (psv mb ab) x G Fr
  srv : PSv w mb ab va wr H m met
  ref : RefW wr r fs th bk R
  gh : ∀ k, G.has n k → ¬ H k
  gr : ∀ k, G.has n k → ¬ R.has r k
  hr : ∀ k, H k → ¬ R.has r k
  gb : ∀ k, G.has n k → w.heap.size ≤ k
  hb : ∀ k, H k → w.heap.size ≤ k
  rb : ∀ k, R.has r k → w.heap.size ≤ k
  bel : Below w.heap.size w wr
section
variable {w wr w' : World} {n r mb ab : Nat} {va : Value} {an : List Bs} {x : Nt} {fs : List Ft} {th bk : List Bs} {G : Gn} {H : Nat → Prop} {R : Gr} {m : Nat} {met : List Bs}
theorem PlayAt.keep {F : Nat → Prop} (h : PlayAt w wr n r mb ab va x fs th bk G H R m met) (hS : Serves w.heap.size 8 #[.pointer (some ⟨mb, 0, none⟩), .pointer (some ⟨ab, 0, none⟩)] (pstep an) Fr (PSv w mb ab va)) (hc : Chg F wr w') (h1 : ∀ k, F k → ¬ G.has n k ∧ ¬ H k ∧ ¬ R.has r k ∧ w.heap.size ≤ k) : PlayAt w w' n r mb ab va x fs th bk G H R m met :=
  ⟨h.net.keep hc (fun k hk hF => (h1 k hF).1 hk), hS.keep _ _ _ _ _ _ h.srv hc (fun k hk hF => (h1 k hF).2.1 hk) (fun k hF => (h1 k hF).2.2.2), h.ref.keep hc (fun k hk hF => (h1 k hF).2.2.1 hk), h.gh, h.gr, h.hr, h.gb, h.hb, h.rb, h.bel.trans (hc.below (fun k hF => (h1 k hF).2.2.2) h.bel.size)⟩
/-- Behind an Ask. -/
theorem PlayAt.asked (h : PlayAt w wr n r mb ab va x fs th bk G H R m met) (_hS : Serves w.heap.size 8 #[.pointer (some ⟨mb, 0, none⟩), .pointer (some ⟨ab, 0, none⟩)] (pstep an) Fr (PSv w mb ab va)) {x' : Nt} {G' : Gn} {H' : Nat → Prop} {m' : Nat} {met' : List Bs} (hN : NetW w' n (psv mb ab) x' G' Fr) (hV : PSv w mb ab va w' H' m' met')
    (h1 : ∀ k, G'.has n k → ¬ H' k) (h2 : ∀ k, G'.has n k → G.has n k ∨ wr.heap.size ≤ k) (h3 : ∀ k, H' k → H k ∨ wr.heap.size ≤ k) (hc : Chg (fun k => G.has n k ∨ H k) wr w') : PlayAt w w' n r mb ab va x' fs th bk G' H' R m' met' := by
  have hz := h.bel.size
  refine ⟨hN, hV, h.ref.keep hc (fun k hk hF => ?_), h1, fun k hk hR => ?_, fun k hk hR => ?_, fun k hk => ?_, fun k hk => ?_, h.rb, h.bel.trans (hc.below (fun k hF => ?_) hz)⟩
  · rcases hF with hF | hF
    · exact h.gr k hF hk
    · exact h.hr k hF hk
  · rcases h2 k hk with q | q
    · exact h.gr k q hR
    · have := h.ref.lt k hR; omega
  · rcases h3 k hk with q | q
    · exact h.hr k q hR
    · have := h.ref.lt k hR; omega
  · rcases h2 k hk with q | q
    · exact h.gb k q
    · omega
  · rcases h3 k hk with q | q
    · exact h.hb k q
    · omega
  · rcases hF with hF | hF
    · exact h.gb k hF
    · exact h.hb k hF
/-- Behind a call of the reference. -/
theorem PlayAt.refd (h : PlayAt w wr n r mb ab va x fs th bk G H R m met) (hS : Serves w.heap.size 8 #[.pointer (some ⟨mb, 0, none⟩), .pointer (some ⟨ab, 0, none⟩)] (pstep an) Fr (PSv w mb ab va)) {fs' : List Ft} {th' bk' : List Bs} {R' : Gr} (hR : RefW w' r fs' th' bk' R') (h2 : ∀ k, R'.has r k → R.has r k ∨ wr.heap.size ≤ k) (hc : Chg (· = r) wr w') : PlayAt w w' n r mb ab va x fs' th' bk' G H R' m met := by
  have hz := h.bel.size
  have hlt := hS.lt _ _ _ _ h.srv
  refine ⟨h.net.keep hc (fun k hk e => h.gr k hk (.inl e)), hS.keep _ _ _ _ _ _ h.srv hc (fun k hk e => h.hr k hk (.inl e)) (fun k e => h.rb k (.inl e)), hR, h.gh, fun k hk hr => ?_, fun k hk hr => ?_, h.gb, h.hb, fun k hk => ?_, h.bel.trans (hc.below (fun k e => h.rb k (.inl e)) hz)⟩
  · rcases h2 k hr with q | q
    · exact h.gr k hk q
    · have := h.net.lt hk; omega
  · rcases h2 k hr with q | q
    · exact h.hr k hk q
    · have := hlt k hk; omega
  · rcases h2 k hk with q | q
    · exact h.rb k q
    · omega
end
end Go.Proofs.Ytgjmidlcfjgnhaa
