/-
  FailAt: which operations fail, told. Conditions: the disk lies there; the numbers lie in a slice of its own.
-/
import Derived.Test.YtbedacdakmcfpaaAsks
namespace Go.Proofs.Ytbedacdakmcfpaa
open Go.RowKit
variable {w : World} {F : Nat → Prop} {d : Nat} {S : Dk} {G : Gh}

/-- The slice v has the numbers ks, in the world w. -/
def Is (w : World) (v : Value) (ks : List Int) : Prop :=
  ∃ b off cap, v = .slice (some ⟨b, off, none⟩) ks.length cap ∧ b < w.heap.size ∧ ks.length ≤ cap ∧ ∀ j (h : j < ks.length), w.cell? ⟨b, off + j, none⟩ = some (.int .i64 ks[j])

theorem fails_put {w : World} {F : Nat → Prop} {b : Nat} {l : List Int} (h : MapO w F (some b) (fv l)) (n : Int) :
    ∃ w' l', (Instr.mapUpdate 64 (.map (some b)) (.int .i64 n) (.agg #[])).run Try.prog w = .ok () w' ∧ MapO w' F (some b) (fv l') ∧ (∀ k, k ∈ l' ↔ k = n ∨ k ∈ l) ∧ Chg (· = b) w w' := by
  by_cases hn : n ∈ l
  · have hp : (fv l).Perm ((.int .i64 n, .agg #[]) :: fv (l.erase n)) := (List.perm_cons_erase hn).map _
    obtain ⟨w', h1, h2, h3, _⟩ := (h.2.perm hp).put_old (kint w) (fv_keys _) Try.underlying64 ⟨n, rfl⟩ (.agg #[])
    refine ⟨w', l, h1, ⟨h.1, h2.perm hp.symm⟩, fun k => ⟨Or.inr, ?_⟩, h3⟩
    rintro (rfl | h)
    · exact hn
    · exact h
  · obtain ⟨w', h1, h2, h3, _⟩ := h.2.put_new (kint w) (fv_keys _) Try.underlying64 ⟨n, rfl⟩ (fv_ne hn) (.agg #[])
    exact ⟨w', n :: l, h1, ⟨h.1, h2⟩, fun k => by simp, h3⟩

set_option maxRecDepth 20000 in
set_option maxHeartbeats 800000 in
/-- The map is there already. -/
theorem failAt_some (w : World) (F : Nat → Prop) (d b : Nat) (r u o1 o2 lv cu ct v : Value) (n : Int) (l ks : List Int) (hd : w.heap[d]? = some (.cells #[r, u, o1, o2, lv, .int .i64 n, cu, ct, .map (some b)] 66))
    (hf : MapO w F (some b) (fv l)) (hv : Is w v ks) (hvb : ∀ g, v.ownBlock = some g → g ≠ b) (hks : ks.length ≤ 4611686018427387904) :
    Calls Try.prog 24 #[.pointer (some ⟨d, 0, none⟩), v] w fun e w' => e = .returned (.tuple #[]) ∧ ∃ l', MapO w' F (some b) (fv l') ∧ (∀ k, n ≤ k → (k ∈ l' ↔ k ∈ l ∨ k ∈ ks)) ∧ Chg (· = b) w w' := by
  obtain ⟨vb, off, cap, rfl, hvl, hcap, hc⟩ := hv
  have hvb' : vb ≠ b := hvb vb rfl
  have hdb : d ≠ b := hf.2.ne hd
  have q8 := cell_of hd 8
  have hqm := eqM64
  go_enter Try.func24, Try.ntmps24
  go_wp2
  go_loopw [19, 5] (fun i x wr => ∃ (j : Nat) (l' : List Int), i = .int .i64 (j : Int) ∧ j ≤ ks.length ∧ MapO wr F (some b) (fv l') ∧ (∀ k, n ≤ k → (k ∈ l' ↔ k ∈ l ∨ k ∈ ks.take j)) ∧ Chg (· = b) w wr)
    (fun i _ _ => ks.length - (intOf i).toNat)
  case atStart => exact ⟨0, l, rfl, by omega, hf, fun k _ => by simp, Chg.refl _ _⟩
  case round =>
    obtain ⟨j, l', rfl, hj, hf', hl', hch⟩ := hrel
    by_cases hlt : j < ks.length
    · have hcj := hc j hlt
      have hcj' : wr.cell? ⟨vb, off + j, none⟩ = some (.int .i64 ks[j]) := by
        rw [← hcj]
        exact World.cell?_of_block (hch.block vb hvl hvb')
      have hd' := hch.keep hd hdb
      have q5 := cell_of hd' 5
      have q8 := cell_of hd' 8
      have htk : ks.take (j + 1) = ks.take j ++ [ks[j]] := by rw [List.take_add_one]; simp [hlt]
      obtain ⟨wp, lp, hp1, hp2, hp3, hp4⟩ := fails_put hf' ks[j]
      have hl1 : n ≤ ks[j] → ∀ k, n ≤ k → (k ∈ lp ↔ k ∈ l ∨ k ∈ ks.take (j + 1)) := fun _ k hk => by
        rw [hp3, hl' k hk, htk, List.mem_append, List.mem_singleton]
        constructor
        · rintro (h | h | h)
          · exact Or.inr (Or.inr h)
          · exact Or.inl h
          · exact Or.inr (Or.inl h)
        · rintro (h | h | h)
          · exact Or.inr (Or.inl h)
          · exact Or.inr (Or.inr h)
          · exact Or.inl h
      have hl2 : ks[j] < n → ∀ k, n ≤ k → (k ∈ l' ↔ k ∈ l ∨ k ∈ ks.take (j + 1)) := fun hlow k hk => by
        rw [hl' k hk, htk, List.mem_append, List.mem_singleton]
        constructor
        · rintro (h | h)
          · exact Or.inl h
          · exact Or.inr (Or.inl h)
        · rintro (h | h | h)
          · exact Or.inl h
          · exact Or.inr h
          · omega
      have HL1 := hide hl1
      have HL2 := hide hl2
      have HP := hide hp3
      clear hc hcj htk hl1 hl2 hp3 hl'
      generalize ks[j] = x at *
      by_cases hx : n ≤ x
      · go_wp2_with fail
        refine ⟨⟨j + 1, lp, by go_num, by omega, hp2, HL1.out hx, hch.then hp4⟩, by simp [intOf]; omega⟩
      · have hx' : x < n := by omega
        go_wp2_with fail
        refine ⟨⟨j + 1, l', by go_num, by omega, hf', HL2.out hx', hch⟩, by simp [intOf]; omega⟩
    · obtain rfl : j = ks.length := by omega
      rw [List.take_length] at hl'
      go_wp2_with fail
      go_end0
      exact ⟨rfl, l', hf', hl', hch⟩
set_option maxRecDepth 20000 in
set_option maxHeartbeats 800000 in
/-- The map is made. -/
theorem failAt_none (w : World) (F : Nat → Prop) (d : Nat) (r u o1 o2 lv cu ct v : Value) (n : Int) (ks : List Int) (hd : w.heap[d]? = some (.cells #[r, u, o1, o2, lv, .int .i64 n, cu, ct, .map none] 66))
    (hF : F w.heap.size) (hv : Is w v ks) (hvb : ∀ g, v.ownBlock = some g → g ≠ d) (hks : ks.length ≤ 4611686018427387904) :
    Calls Try.prog 24 #[.pointer (some ⟨d, 0, none⟩), v] w fun e w' => e = .returned (.tuple #[]) ∧ ∃ b, w'.heap[d]? = some (.cells #[r, u, o1, o2, lv, .int .i64 n, cu, ct, .map (some b)] 66) ∧ ∃ l', MapO w' F (some b) (fv l') ∧ (∀ k, n ≤ k → (k ∈ l' ↔ k ∈ ks)) ∧ Chg (· = d) w w' ∧ w.heap.size ≤ b ∧ b < w'.heap.size := by
  have hmm := @run_makeMap Try.prog
  obtain ⟨vb, off, cap, rfl, hvl, hcap, hc⟩ := hv
  have hvd : ¬ vb = d := hvb vb rfl
  have q8 := cell_of hd 8
  have t8 := thawed hd 8
  have hqm := eqM64
  have hdl := lt_of_heap hd
  have hd1 := heap_past (.map #[] 0) hd
  have t8' := thawed hd1 8
  have q8' := cell_of hd1 8
  have hm1 := MapW.made w
  obtain ⟨W0, hW0⟩ : ∃ W0, (w.alloc (.map #[] 0)).setCell ⟨d, 8, none⟩ (.map (some w.heap.size)) = W0 := ⟨_, rfl⟩
  have hd0 : W0.heap[d]? = some (.cells #[r, u, o1, o2, lv, .int .i64 n, cu, ct, .map (some w.heap.size)] 66) := by rw [← hW0]; exact heap_set hd1 8 _
  have hc0 : Chg (· = d) w W0 := by rw [← hW0]; exact ((Chg.refl (· = d) w).alloc _).setCell (p := ⟨d, 8, none⟩) (Or.inl rfl) _
  have hf : MapO W0 F (some w.heap.size) (fv []) := by
    refine ⟨hF, ?_⟩
    rw [← hW0]
    exact hm1.keep (chg_set _ d 8 _) (fun e => by omega)
  have hdb : d ≠ w.heap.size := by omega
  have hvb' : vb ≠ w.heap.size := by omega
  have hvl0 : vb < W0.heap.size := Nat.lt_of_lt_of_le hvl hc0.size
  clear hm1 hd1
  go_enter Try.func24, Try.ntmps24
  go_wp2
  go_loopw [19, 5] (fun i x wr => ∃ (j : Nat) (l' : List Int), i = .int .i64 (j : Int) ∧ j ≤ ks.length ∧ MapO wr F (some w.heap.size) (fv l') ∧ (∀ k, n ≤ k → (k ∈ l' ↔ k ∈ ([] : List Int) ∨ k ∈ ks.take j)) ∧ Chg (· = w.heap.size) W0 wr)
    (fun i _ _ => ks.length - (intOf i).toNat)
  case atStart => exact ⟨0, [], rfl, by omega, hf, fun k _ => by simp, Chg.refl _ _⟩
  case round =>
    obtain ⟨j, l', rfl, hj, hf', hl', hch⟩ := hrel
    by_cases hlt : j < ks.length
    · have hcj := hc j hlt
      have hcj0 : W0.cell? ⟨vb, off + j, none⟩ = some (.int .i64 ks[j]) := (World.cell?_of_block (hc0.block vb hvl hvd)).trans hcj
      have hcj' : wr.cell? ⟨vb, off + j, none⟩ = some (.int .i64 ks[j]) := by
        rw [← hcj0]
        exact World.cell?_of_block (hch.block vb hvl0 hvb')
      have hd' := hch.keep hd0 hdb
      have q5 := cell_of hd' 5
      have q8 := cell_of hd' 8
      have htk : ks.take (j + 1) = ks.take j ++ [ks[j]] := by rw [List.take_add_one]; simp [hlt]
      obtain ⟨wp, lp, hp1, hp2, hp3, hp4⟩ := fails_put hf' ks[j]
      have hl1 : n ≤ ks[j] → ∀ k, n ≤ k → (k ∈ lp ↔ k ∈ ([] : List Int) ∨ k ∈ ks.take (j + 1)) := fun _ k hk => by
        rw [hp3, hl' k hk, htk, List.mem_append, List.mem_singleton]
        constructor
        · rintro (h | h | h)
          · exact Or.inr (Or.inr h)
          · exact Or.inl h
          · exact Or.inr (Or.inl h)
        · rintro (h | h | h)
          · exact Or.inr (Or.inl h)
          · exact Or.inr (Or.inr h)
          · exact Or.inl h
      have hl2 : ks[j] < n → ∀ k, n ≤ k → (k ∈ l' ↔ k ∈ ([] : List Int) ∨ k ∈ ks.take (j + 1)) := fun hlow k hk => by
        rw [hl' k hk, htk, List.mem_append, List.mem_singleton]
        constructor
        · rintro (h | h)
          · exact Or.inl h
          · exact Or.inr (Or.inl h)
        · rintro (h | h | h)
          · exact Or.inl h
          · exact Or.inr h
          · omega
      have HL1 := hide hl1
      have HL2 := hide hl2
      have HP := hide hp3
      clear hc hcj hcj0 htk hl1 hl2 hp3 hl'
      generalize ks[j] = x at *
      by_cases hx : n ≤ x
      · go_wp2_with fail
        refine ⟨⟨j + 1, lp, by go_num, by omega, hp2, HL1.out hx, hch.then hp4⟩, by simp [intOf]; omega⟩
      · have hx' : x < n := by omega
        go_wp2_with fail
        refine ⟨⟨j + 1, l', by go_num, by omega, hf', HL2.out hx', hch⟩, by simp [intOf]; omega⟩
    · obtain rfl : j = ks.length := by omega
      rw [List.take_length] at hl'
      go_wp2_with fail
      go_end0
      exact ⟨rfl, w.heap.size, hch.keep hd0 hdb, l', hf', fun k hk => by simpa using hl' k hk, hc0.trans hch (fun k hk e => by rw [e] at hk; exact absurd hk (Nat.lt_irrefl _)), Nat.le_refl _, hf'.2.lt⟩

theorem failAt_rep (h : Rep w F d S G) {v : Value} {ks : List Int} (hv : Is w v ks) (hvF : ∀ g, v.ownBlock = some g → ¬ F g) (hks : ks.length ≤ 4611686018427387904) :
    Calls Try.prog 24 #[.pointer (some ⟨d, 0, none⟩), v] w fun e w' => e = .returned (.tuple #[]) ∧ ∃ G', Rep w' (Fx F w w') d (S.failAt ks) G' ∧ Chg F w w' := by
  have hd := h.disk
  unfold dcells at hd
  obtain ⟨l, hl1, hl2⟩ := h.fails
  cases hfls : G.fls with
  | some b =>
    rw [hfls] at hd hl1
    have hFb : F b := hl1.1
    refine (failAt_some w F d b _ _ _ _ _ _ _ v S.n l ks hd hl1 hv (fun g hg e => hvF g hg (e ▸ hFb)) hks).mono ?_
    rintro e w' ⟨rfl, l', hm, hl', hc⟩
    refine ⟨rfl, { G with fls := some b }, ?_, hc.mono fun k _ e => by rw [e]; exact hFb⟩
    have hdb : d ≠ b := hl1.2.ne hd
    have hr := h.told (F' := Fx F w w') (w' := w') (hc.mono fun k _ e => Or.inr (by rw [hfls, e])) (room := S.room) (cut := S.cut) (fails := (S.failAt ks).fails) (cv := G.cv) (fls := some b) l' h.roomy h.cutv (fun k hk => Or.inl hk)
      (by have := hc.keep hd hdb; rw [this]; rfl) ⟨Or.inl hFb, hm.2⟩
      (fun k hk => by
        rw [hl' k (by omega)]
        show (S.fails k || ks.contains (k : Int)) = true ↔ _
        rw [Bool.or_eq_true, hl2 k hk, List.contains_iff_mem])
      (fun b' e => by rw [← hfls]; exact (h.two b' e).2) (fun b' e => by rw [← hfls]; exact h.three b' e)
    exact hr
  | none =>
    rw [hfls] at hd hl1
    have hl : l = [] := by simpa [MapO, fv] using hl1
    subst hl
    refine (failAt_none w (fun k => k = w.heap.size) d _ _ _ _ _ _ _ v S.n ks hd rfl hv (fun g hg e => hvF g hg (e ▸ h.inD)) hks).mono ?_
    rintro e w' ⟨rfl, b, hd', l', hm, hl', hc, hb1, hb2⟩
    have hcF : Chg F w w' := hc.mono fun k _ e => by rw [e]; exact h.inD
    refine ⟨rfl, { G with fls := some b }, ?_, hcF⟩
    have hr := h.told (F' := Fx F w w') (w' := w') (hc.mono fun k _ e => Or.inl e) (room := S.room) (cut := S.cut) (fails := (S.failAt ks).fails) (cv := G.cv) (fls := some b) l' h.roomy h.cutv (fun k hk => Or.inl hk)
      (by rw [hd']; rfl) ⟨Or.inr ⟨hb1, hb2⟩, hm.2⟩
      (fun k hk => by
        rw [hl' k (by omega)]
        show (S.fails k || ks.contains (k : Int)) = true ↔ _
        rw [Bool.or_eq_true, hl2 k hk, List.contains_iff_mem]
        simp)
      (fun b' e => by
        have hm := h.now
        rw [e] at hm
        intro e2
        injection e2 with e2
        have := hm.2.lt
        omega)
      (fun b' e => by
        have hm := h.sure
        rw [e] at hm
        intro e2
        injection e2 with e2
        have := hm.2.lt
        omega)
    exact hr
end Go.Proofs.Ytbedacdakmcfpaa
