/-
  What syncing a file does: settle, keepFile, undoFile, Sync. Condition: a disk within bounds.
-/
import Derived.Test.YtbedacdakmcfpaaOnFile
namespace Go.Proofs.Ytbedacdakmcfpaa
open Go.RowKit

set_option maxRecDepth 20000 in
/-- The acts of a file, or of the directory, are taken from the loose ones. -/
theorem settle_any (w : World) (d n : Nat) (r u o1 o2 lv o4 c1 c2 fl of : Value) (vs : List (Value × Value)) (hd : w.heap[d]? = some (.cells #[r, u, o1, o2, lv, o4, c1, c2, fl] 66)) (hn : vs.length = n) (hrow : w.ownsRow 0 104 2 lv n (vc vs))
    (hp : ∀ p ∈ vs, PV w p.1) (hof : PV w of) (hb : n < 1099511627776) (hpn : ∀ p ∈ vs, ∀ b, p.1 = .pointer (some ⟨b, 0, none⟩) → lv.ownBlock ≠ some b) (hofn : ∀ b, of = .pointer (some ⟨b, 0, none⟩) → lv.ownBlock ≠ some b) (hfn : ∀ p ∈ vs, ∃ fn fs cs, p.2 = .func fn fs cs) :
    Calls Try.prog 71 #[.pointer (some ⟨d, 0, none⟩), of] w fun e w' => e = .returned (.tuple #[]) ∧ ∃ lv', w'.heap[d]? = some (.cells #[r, u, o1, o2, lv', o4, c1, c2, fl] 66) ∧ lv'.ownBlock = lv.ownBlock ∧
      w'.ownsRow 0 104 2 lv' (vs.filter fun p => !sameP p.1 of).length (vc (vs.filter fun p => !sameP p.1 of)) ∧ Chg (fun k => k = d ∨ some k = lv.ownBlock) w w' := by
  have hmf : ∀ (fn : Fn) (first cap : Array Value) (w : World), (Instr.makeFunc fn first cap).run Try.prog w = .ok (.func fn first cap) w := fun _ _ _ _ => rfl
  have hA : Chg (fun _ => False) w (w.alloc (.cells #[of] 81)) := (Chg.refl _ w).alloc _
  have hc := heap_last w (.cells #[of] 81)
  have hdA := hA.keep hd (fun h => h)
  have hdel := deleteFunc_any (w.alloc (.cells #[of] 81)) w.heap.size n lv of vs hn (own_keep hrow hA (fun _ _ h => h)) (fun p hm => (hp p hm).keep hA (fun _ _ h => h)) (hof.keep hA (fun _ _ h => h)) hc hb hpn hofn hfn
  have x4 := cell_of hdA 4
  have hld : ∀ k, lv.ownBlock = some k → k ≠ d := fun k hk => by
    obtain ⟨cur, hcur⟩ := own_block hrow hk
    exact ne_tag hcur hd (show 104 ≠ 66 by decide)
  have HLD := hide hld
  have HD := hide hdA
  have HA := hide hA
  clear hld hp hpn hfn hofn hrow
  generalize (vs.filter fun p => !sameP p.1 of) = rs at hdel ⊢
  have hpof : ∃ p, of = .pointer p := hof.shape
  obtain ⟨pof, rfl⟩ := hpof
  go_enter Try.func71, Try.ntmps71
  go_wp2_with (go_at_call 81; refine hdel.mono ?_; rintro e w1 ⟨lv', rfl, hob, hrow1, hc1⟩; obtain ⟨la, lc, rfl⟩ := own_shape hrow1; have hd1 := hc1.keep HD.out (fun e => HLD.out d e.symm rfl); have y4 := cell_of hd1 4; have z4 := thawed hd1 4)
  go_end0
  refine ⟨rfl, _, heap_set hd1 4 _, hob, own_keep hrow1 (chg_set w1 d 4 _) (fun k hk e => HLD.out k (by rw [← hob]; exact hk) e), ?_⟩
  exact Chg.setCell (F := fun k => k = d ∨ some k = lv.ownBlock) ((HA.out.mono fun _ _ h => h.elim).then (hc1.mono fun _ _ h => Or.inr h)) (p := ⟨d, 4, none⟩) (Or.inl (Or.inl rfl)) _

theorem zip_filter {α β : Type} {R : α → β → Prop} {p : α → Bool} {q : β → Bool} : ∀ (ls : List α) (bs : List β), bs.length = ls.length → (∀ (j : Nat) a b, ls[j]? = some a → bs[j]? = some b → R a b ∧ p a = q b) →
    (bs.filter q).length = (ls.filter p).length ∧ ∀ (j : Nat) a b, (ls.filter p)[j]? = some a → (bs.filter q)[j]? = some b → R a b
  | [], [], _, _ => ⟨rfl, fun j a b h => by simp at h⟩
  | [], b :: bs, h, _ => by simp at h
  | a :: ls, [], h, _ => by simp at h
  | a :: ls, b :: bs, h, hR => by
    obtain ⟨ih1, ih2⟩ := zip_filter ls bs (by simpa using h) (fun j x y hx hy => hR (j + 1) x y (by simpa using hx) (by simpa using hy))
    obtain ⟨r0, pq⟩ := hR 0 a b rfl rfl
    by_cases hpa : p a = true
    · rw [List.filter_cons_of_pos hpa, List.filter_cons_of_pos (pq ▸ hpa)]
      refine ⟨by simp [ih1], fun j x y hx hy => ?_⟩
      cases j with
      | zero =>
        simp at hx hy
        subst hx hy
        exact r0
      | succ j => exact ih2 j x y (by simpa using hx) (by simpa using hy)
    · rw [List.filter_cons_of_neg hpa, List.filter_cons_of_neg (pq ▸ hpa)]
      exact ⟨ih1, ih2⟩

section
variable {w w' : World} {F : Nat → Prop} {d : Nat} {S : Dk} {G : Gh}

/-- Of an act as it lies: its first cell, its second. -/
theorem ActW.first {fb : Nat → Nat} {a : Ac} {p : Value × Value} (h : ActW w F fb a p) : (isMore a = false ∧ p.1 = .pointer none) ∨ ∃ f k, a = .more f k ∧ p.1 = .pointer (some ⟨fb f, 0, none⟩) := by
  cases a with
  | more f k => exact Or.inr ⟨f, k, rfl, h.1⟩
  | made n f => exact Or.inl ⟨rfl, h.1⟩
  | ren a b => exact Or.inl ⟨rfl, h.1⟩
  | rem n => exact Or.inl ⟨rfl, h.1⟩
theorem ActW.second {fb : Nat → Nat} {a : Ac} {p : Value × Value} (h : ActW w F fb a p) : ∃ fn fs cs, p.2 = .func fn fs cs := by
  cases a with
  | more f k => obtain ⟨_, cf, cn, e, _⟩ := h; exact ⟨_, _, _, e⟩
  | made n f => obtain ⟨_, c, v, e, _⟩ := h; exact ⟨_, _, _, e⟩
  | ren a b => obtain ⟨_, c, v, e, _⟩ := h; exact ⟨_, _, _, e⟩
  | rem n => obtain ⟨_, c, v, e, _⟩ := h; exact ⟨_, _, _, e⟩
theorem mem_more {ls : List Ac} {f k : Nat} (h : Ac.more f k ∈ ls) : f ∈ moreIds ls := List.mem_filterMap.2 ⟨_, h, rfl⟩

theorem Rep.pair (h : Rep w F d S G) {p : Value × Value} (hp : p ∈ G.vs) : ∃ a ∈ S.acts, ActW w F G.fb a p := by
  obtain ⟨j, hj, rfl⟩ := List.getElem_of_mem hp
  have hj' : j < S.acts.length := by rw [← h.many]; exact hj
  exact ⟨_, List.getElem_mem hj', h.acts j _ _ (List.getElem?_eq_getElem hj') (List.getElem?_eq_getElem hj)⟩
theorem Rep.pv (h : Rep w F d S G) : ∀ p ∈ G.vs, PV w p.1 := fun p hp => by
  obtain ⟨a, ha, hw⟩ := h.pair hp
  rcases hw.first with ⟨_, e⟩ | ⟨f, k, rfl, e⟩
  · exact Or.inl e
  · exact Or.inr ⟨_, _, _, e, (h.files f (Or.inr (mem_more ha))).2⟩
theorem Rep.pvn (h : Rep w F d S G) : ∀ p ∈ G.vs, ∀ b, p.1 = .pointer (some ⟨b, 0, none⟩) → G.lv.ownBlock ≠ some b := fun p hp b hb hk => by
  obtain ⟨a, ha, hw⟩ := h.pair hp
  rcases hw.first with ⟨_, e⟩ | ⟨f, k, rfl, e⟩
  · rw [e] at hb
    cases hb
  · rw [e] at hb
    injection hb with hb
    injection hb with hb
    injection hb with hb
    obtain ⟨cur, hcur⟩ := own_block h.row hk
    exact ne_tag hcur (h.files f (Or.inr (mem_more ha))).2 (show 104 ≠ 95 by decide) hb.symm
theorem Rep.funcs (h : Rep w F d S G) : ∀ p ∈ G.vs, ∃ fn fs cs, p.2 = .func fn fs cs := fun p hp => by
  obtain ⟨a, _, hw⟩ := h.pair hp
  exact hw.second
/-- Which acts go, when those of a file do. -/
theorem Rep.same_of (h : Rep w F d S G) {f : Nat} (hf : S.known f) {j : Nat} {a : Ac} {p : Value × Value} (ha : S.acts[j]? = some a) (hp : G.vs[j]? = some p) : (!isOf f a) = !sameP p.1 (.pointer (some ⟨G.fb f, 0, none⟩)) := by
  rcases (h.acts j a p ha hp).first with ⟨hm, e⟩ | ⟨g, k, rfl, e⟩
  · rw [e]
    cases a <;> first | rfl | simp [isMore] at hm
  · rw [e]
    have hg : S.known g := Or.inr (mem_more (List.mem_of_getElem? ha))
    show (!(g == f)) = !(G.fb g == G.fb f)
    congr 1
    rw [Bool.eq_iff_iff, beq_iff_eq, beq_iff_eq]
    exact ⟨fun e => by rw [e], fun e => h.inj g f hg hf e⟩
theorem Rep.same_dir (h : Rep w F d S G) {j : Nat} {a : Ac} {p : Value × Value} (ha : S.acts[j]? = some a) (hp : G.vs[j]? = some p) : isMore a = !sameP p.1 (.pointer none) := by
  rcases (h.acts j a p ha hp).first with ⟨hm, e⟩ | ⟨g, k, rfl, e⟩
  · rw [e, hm]
    rfl
  · rw [e]
    rfl
end
end Go.Proofs.Ytbedacdakmcfpaa
