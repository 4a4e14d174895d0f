/-
  What settling the directory does to a disk: keepDir, undoDir. Condition: a disk within bounds.
-/
import Derived.Test.YtbedacdakmcfpaaForget
namespace Go.Proofs.Ytbedacdakmcfpaa
open Go.RowKit

def Dk.settled (S : Dk) (D : Dir) : Dk := { S with dir := D, sure := D, acts := S.acts.filter isMore }
theorem keepD_settled (S : Dk) : S.keepD = S.settled S.dir := rfl
theorem undoD_settled (S : Dk) : S.undoD = S.settled S.sure := rfl
theorem live_settled {S : Dk} {D : Dir} {i : Nat} : (S.settled D).live i ↔ i ∈ ids D := by
  unfold Dk.live Dk.settled
  simp only [(more_only (filter_isMore S.acts)).2.2]
  simp
theorem known_settled {S : Dk} {D : Dir} {i : Nat} (hD : ∀ i ∈ ids D, S.live i) (h : (S.settled D).known i) : S.known i := by
  rcases h with h | h
  · exact Or.inl (hD i (live_settled.1 h))
  · exact Or.inr (mem_moreIds_filter h)

section
variable {w w' : World} {F : Nat → Prop} {d : Nat} {S : Dk} {G : Gh}

/-- The directory is settled at D; files that have no name may have lost their bytes. -/
theorem Rep.directed (h : Rep w F d S G) {D : Dir} (hD : ∀ i ∈ ids D, S.live i) (hok : Ok (S.settled D)) {now sure : Option Nat} {lv : Value}
    (hc : Chg (fun k => k = d ∨ some k = G.now ∨ some k = G.sure ∨ some k = G.lv.ownBlock ∨ ∃ i, S.known i ∧ k = G.fb i) w w')
    (hd : w'.heap[d]? = some (.cells #[.int .i64 (S.room : Int), .int .i64 ((usedOf S.files D : Nat) : Int), .map now, .map sure, lv, .int .i64 (S.n : Int), .bool S.cut.isSome, .int .i64 G.cv, .map G.fls] 66))
    (hnow : MapO w' (Fx F w w') now (dv G.fb D)) (hsure : MapO w' (Fx F w w') sure (dv G.fb D)) (hboth : now = none ↔ sure = none) (h1 : ∀ b, now = some b → sure ≠ some b ∧ G.fls ≠ some b) (h2 : ∀ b, sure = some b → G.fls ≠ some b)
    (hbare : now = none → S.acts = [])
    (hlv : lv.ownBlock = G.lv.ownBlock) (hrow : w'.ownsRow 0 104 2 lv (G.vs.filter fun p => !sameP p.1 (.pointer none)).length (vc (G.vs.filter fun p => !sameP p.1 (.pointer none))))
    (hfiles : ∀ i, S.known i → ∃ r, w'.heap[G.fb i]? = some (.cells #[r, G.sv i, .bool (decide (i ∈ ids D))] 95) ∧ (i ∈ ids D → r = G.rv i)) :
    ∃ G', Rep w' (Fx F w w') d (S.settled D) G' := by
  have hXn : ∀ k o, w.heap[k]? = some o → tag o ≠ 66 → tag o ≠ 100000 → tag o ≠ 95 → tag o ≠ 104 → ¬ (k = d ∨ some k = G.now ∨ some k = G.sure ∨ some k = G.lv.ownBlock ∨ ∃ i, S.known i ∧ k = G.fb i) := by
    intro k o ho t1 t2 t3 t4 e
    rcases e with rfl | e | e | e | ⟨i, hi, rfl⟩
    · exact ne_tag ho h.disk t1 rfl
    · have := h.now
      rw [← e] at this
      obtain ⟨es, ck, hh, _⟩ := this.2
      exact ne_tag ho hh t2 rfl
    · have := h.sure
      rw [← e] at this
      obtain ⟨es, ck, hh, _⟩ := this.2
      exact ne_tag ho hh t2 rfl
    · obtain ⟨cur, hcur⟩ := own_block h.row e.symm
      exact ne_tag ho hcur t4 rfl
    · exact ne_tag ho (h.files i hi).2 t3 rfl
  have hsp : Spares w (fun k => k = d ∨ some k = G.now ∨ some k = G.sure ∨ some k = G.lv.ownBlock ∨ ∃ i, S.known i ∧ k = G.fb i) := by
    have hmap : ∀ {o : Option Nat} {l : List (Value × Value)}, MapO w F o l → Spares w (fun k => some k = o) := by
      intro o l hm k x t h1 h2 e
      rw [← e] at hm
      exact spares_map hm.2 k x t h1 h2 rfl
    refine (spares_cells h.disk (by decide)).or ((hmap h.now).or ((hmap h.sure).or ((spares_row h.row (by decide)).or ?_)))
    rintro k x t h1 h2 ⟨g, hg, rfl⟩
    exact spares_cells (h.files g hg).2 (by decide) _ x t h1 h2 rfl
  have hz := zip_filter (R := ActW w' (Fx F w w') G.fb) (p := isMore) (q := fun p : Value × Value => !sameP p.1 (.pointer none)) S.acts G.vs h.many (fun j a p ha hp => ⟨h.actsKeep hc hsp (fun _ h => Or.inl h) j a p ha hp, h.same_dir ha hp⟩)
  obtain ⟨rv, hrv⟩ : ∃ rv : Nat → Value, ∀ i, S.known i → w'.heap[G.fb i]? = some (.cells #[rv i, G.sv i, .bool (decide (i ∈ ids D))] 95) ∧ (i ∈ ids D → rv i = G.rv i) := by
    classical
    exact ⟨fun i => if hi : S.known i then Classical.choose (hfiles i hi) else .nilFunc, fun i hi => by
      simp only [dif_pos hi]
      exact Classical.choose_spec (hfiles i hi)⟩
  have hrd : ∀ i, i ∈ ids D → rv i = G.rv i := fun i hi => (hrv i (Or.inl (hD i hi))).2 hi
  refine ⟨{ G with rv := rv, now := now, sure := sure, lv := lv, vs := G.vs.filter fun p => !sameP p.1 (.pointer none) },
    { ok := hok
      disk := hd
      inD := Or.inl h.inD
      roomy := h.roomy
      cutv := h.cutv
      now := hnow
      sure := hsure
      both := hboth
      bare := fun e => by show S.acts.filter isMore = []; rw [hbare e]; rfl
      fails := ?_
      two := h1
      three := h2
      row := hrow
      rowF := fun k hk => Or.inl (h.rowF k (by rw [← hlv]; exact hk))
      many := hz.1
      acts := hz.2
      files := fun i hi => ⟨Or.inl (h.files i (known_settled hD hi)).1, (hrv i (known_settled hD hi)).1⟩
      inj := fun i j hi hj e => h.inj i j (known_settled hD hi) (known_settled hD hj) e
      bytes := fun i y hi hy => ?_
      apart := fun i j k hi hj e1 e2 => ?_ }⟩
  · obtain ⟨l, g1, g2⟩ := h.fails
    refine ⟨l, g1.keep hc (fun b e hX => ?_) (fun _ h => Or.inl h), g2⟩
    have hfm := g1
    rw [e] at hfm
    rcases hX with e2 | e2 | e2 | e2 | ⟨i, hi, e2⟩
    · exact hfm.2.ne h.disk e2.symm
    · exact (h.two b e2.symm).2 e
    · exact h.three b e2.symm e
    · obtain ⟨cur, hcur⟩ := own_block h.row e2.symm
      exact hfm.2.ne hcur rfl
    · exact hfm.2.ne (h.files i hi).2 e2.symm
  · have hi' := live_settled.1 hi
    obtain ⟨c1, c2, c3⟩ := h.bytes i y (hD i hi') hy
    show G.sv i = _ ∧ w'.ownsRow 0 _ 1 (rv i) _ _ ∧ ∀ k, (rv i).ownBlock = some k → _
    rw [hrd i hi']
    refine ⟨c1, own_keep c2 hc (fun k hk => ?_), fun k hk => Or.inl (c3 k hk)⟩
    obtain ⟨cur, hcur⟩ := own_block c2 hk
    exact hXn k _ hcur (show 5 ≠ 66 by decide) (show 5 ≠ 100000 by decide) (show 5 ≠ 95 by decide) (show 5 ≠ 104 by decide)
  · have hi' := live_settled.1 hi
    have hj' := live_settled.1 hj
    have e1' : (rv i).ownBlock = some k := e1
    have e2' : (rv j).ownBlock = some k := e2
    rw [hrd i hi'] at e1'
    rw [hrd j hj'] at e2'
    exact h.apart i j k (hD i hi') (hD j hj') e1' e2'
end
end Go.Proofs.Ytbedacdakmcfpaa
