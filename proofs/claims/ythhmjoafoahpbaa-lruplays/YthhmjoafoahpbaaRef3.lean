/-
  The reference: first, New, Get, Put, Drop. Conditions: the list lies there; few texts.
-/
import Derived.Test.YthhmjoafoahpbaaRef2
namespace Go.Proofs.Ythhmjoafoahpbaa
open Go.RowKit

theorem rf_stored {w w2 : World} {G : Nat → Prop} {r : Nat} {S : Lr} {l : List Tx} {v lv : Value} (h : Rf w G r S) (h1 : w.heap[r]? = some (.cells #[lv, .int .i64 (S.budget : Int)] 54)) (hg : Chg (fun _ => False) w w2) (hown : w2.ownsRow w.heap.size 62 2 v l.length (kc l)) (hl : l.length ≤ 1000) (hs : ∀ p ∈ l, Short p) :
    RAfter w G r ⟨S.budget, l⟩ (w2.setCell ⟨r, 0, none⟩ v) := by
  have hrl := lt_of_heap h1
  have hsz : (w2.setCell ⟨r, 0, none⟩ v).heap.size = w2.heap.size := by simp [World.setCell]
  have hlt2 := hg.size
  refine ⟨fun k => k = r ∨ (w.heap.size ≤ k ∧ k < w2.heap.size), ⟨⟨v, heap_set (hg.keep h1 (fun h => h)) 0 _, ?_, fun k hk => Or.inr ⟨(World.ownsRow.lt hown k hk).1, (World.ownsRow.lt hown k hk).2⟩⟩, Or.inl rfl, fun k hk => ?_, hl, hs⟩, fun k hk => ?_, (hg.mono fun _ _ h => h.elim).setCell (p := ⟨r, 0, none⟩) (Or.inl h.here) _⟩
  · exact own_base (own_keep hown ((Chg.refl (· = r) w2).setCell (p := ⟨r, 0, none⟩) (Or.inl rfl) _) (fun k hk e => by
      have := (World.ownsRow.lt hown k hk).1
      omega)) (Nat.zero_le _)
  · rw [hsz]
    rcases hk with rfl | hk
    · omega
    · exact hk.2
  · rcases hk with rfl | hk
    · exact Or.inl h.here
    · exact Or.inr hk.1

set_option maxRecDepth 20000 in
set_option maxHeartbeats 1000000 in
theorem rfirst_any {w : World} {G : Nat → Prop} {r : Nat} {S : Lr} (h : Rf w G r S) (p : Tx) (hp : Short p) (hf : S.l.length < 1000) :
    Calls Try.prog 29 #[pt r, .agg #[.string (strB p.1), .string (strB p.2)]] w fun e w' => e = .returned (.tuple #[]) ∧ RAfter w G r ⟨S.budget, p :: S.l⟩ w' := by
  obtain ⟨i0, hi, hz0, hz1, hz2⟩ := info_parts infoText
  obtain ⟨lv, h1, h2, h3⟩ := h.lies
  have hfin : ∀ (w2 : World) v, Chg (fun _ => False) w w2 → w2.ownsRow w.heap.size 62 2 v (S.l.length + 1) (kc (p :: S.l)) → RAfter w G r ⟨S.budget, p :: S.l⟩ (w2.setCell ⟨r, 0, none⟩ v) := fun w2 v hg ho => rf_stored h h1 hg ho (by simp; omega) (fun q hq => by
    rcases List.mem_cons.1 hq with rfl | hq
    · exact hp
    · exact h.short q hq)
  have HF := hide hfin
  clear hfin
  obtain ⟨ao, cap, rfl⟩ := own_shape h2
  obtain ⟨W1, hW1⟩ : ∃ W1, W1 = w.alloc (.cells #[.string (strB p.1), .string (strB p.2)] 62) := ⟨_, rfl⟩
  obtain ⟨W2, hW2⟩ : ∃ W2, W2 = W1.alloc (.cells #[.string (strB p.1), .string (strB p.2)] 62) := ⟨_, rfl⟩
  have hg1 : Chg (fun _ => False) w W1 := by rw [hW1]; exact (Chg.refl _ _).alloc _
  have hg2 : Chg (fun _ => False) w W2 := by rw [hW2]; exact hg1.alloc _
  have hs1 : W1.heap.size = w.heap.size + 1 := by rw [hW1]; simp
  have hlit : W2.ownsRow w.heap.size 62 2 (.slice (some ⟨W1.heap.size, 0, none⟩) 1 1) 1 (kc [p]) := by
    rw [hW2]
    exact World.ownsRow_lit W1 #[.string (strB p.1), .string (strB p.2)] 1 (by omega) (by unfold maxLen; omega) rfl
  rw [hs1] at hlit
  have e1 := hg2.keep h1 (fun h => h)
  have c0 := cell_of e1 0
  have t0 := thawed e1 0
  simp at c0
  have hx := heap_last w (.cells #[.string (strB p.1), .string (strB p.2)] 62)
  rw [← hW1] at hx
  cases ao with
  | none =>
    have hl0 : S.l = [] := by
      rcases h2.2 with ⟨hv, h0⟩ | ⟨q, cp, cur, hv, _⟩
      · exact List.eq_nil_of_length_eq_zero h0
      · cases hv
    have hc0 : cap = 0 := by
      rcases h2.2 with ⟨hv, h0⟩ | ⟨q, cp, cur, hv, _⟩
      · injection hv with _ _ e
      · cases hv
    subst hc0
    have hap : ∀ (W : World) (a : Addr) (n c : Nat), n ≤ c → (Builtin.append_ #[52, 52] 52 #[.slice (some a) n c, .slice none 0 0]).run Try.prog W = .ok (.slice (some a) n c) W := fun W a n c hnc => by
      simp [Builtin.append_, run_underlying Try.underlying52, sizeOf, typeInfo, zeroValue, hi, Builtin.lenOf, run_firstCells_none, hnc, storeCells, Result.andThen]
    have hap2 := hap W2 ⟨w.heap.size + 1, 0, none⟩ 1 1 (Nat.le_refl _)
    have HLI := hide hlit
    have HG2 := hide hg2
    rw [hl0] at HF c0
    have HW1 := hide hW1
    have HW2 := hide hW2
    subst hW1 hW2
    clear h2 hlit hg2 hap h3 h h1 e1 hg1
    unfold pt
    go_enter Try.func29, Try.ntmps29
    go_wp2
    go_end0
    exact ⟨rfl, HF.out _ _ HG2.out HLI.out⟩
  | some ad =>
    have hgr : ad = ⟨ad.block, 0, none⟩ ∧ ∀ j u, (kc S.l)[j]? = some u → w.cell? ⟨ad.block, j, none⟩ = some u := by
      rcases h2.2 with ⟨hv, _⟩ | ⟨q, cp, cur, hv, _⟩
      · cases hv
      · injection hv with e1 e2 e3
        injection e1 with e1
        subst e1
        refine ⟨rfl, fun j u hu => ?_⟩
        have := World.ownsRow.cells h2 (g := q) rfl j u hu
        rw [Addr.add_lit, Nat.zero_add] at this
        exact this
    obtain ⟨had, hc⟩ := hgr
    generalize ad.block = gb at had hc
    have hnew : ∀ j u, (kc S.l)[j]? = some u → W2.cell? ((⟨gb, 0, none⟩ : Addr).add j) = some u := fun j u hu => by
      rw [Addr.add_lit, Nat.zero_add]
      have h4 := hc j u hu
      exact (World.cell?_of_block (hg2.block gb (World.block_lt_of_cell? w ⟨gb, j, none⟩ h4) (fun h => h))).trans h4
    subst had
    have HNW := hide hnew
    have HKL := hide (kc_length S.l)
    have HK1 := hide (kc_one S.l)
    have HLI := hide hlit
    have HG2 := hide hg2
    have hfew := hf
    clear h2 hlit h3 hc hnew hg1
    subst hW1 hW2
    clear hg2
    unfold pt
    go_enter Try.func29, Try.ntmps29
    go_wp2_with (at_builtin; refine wpList_append_own_at _ rfl (.tmp 8) (.tmp 12) 52 rfl w.heap.size 62 i0 (.agg #[.string ⟨#[]⟩, .string ⟨#[]⟩]) 2 32 Try.underlying52 hi hz0 hz1 hz2 rfl (by decide) _ 1 (kc [p]) rfl HLI.out ⟨gb, 0, none⟩ S.l.length cap (kc S.l) rfl HKL.out HNW.out HK1.out (by unfold maxLen; omega) (by omega) HG2.out.size ?_)
    intro v2 w2 hown2 hgrow2 _ _
    have hg3 : Chg (fun k => w.heap.size ≤ k) _ w2 := (Chg.of_grown hgrow2).mono fun k _ e => (World.ownsRow.lt HLI.out k e.symm).1
    have hg4 : Chg (fun _ => False) w w2 := HG2.out.trans hg3 (fun k hk h => absurd hk (Nat.not_lt.2 h))
    rw [← kc_append, Nat.add_comm] at hown2
    have f1 := hg4.keep h1 (fun h => h)
    have f2 := thawed f1 0
    have f3 := cell_of f1 0
    simp at f3
    obtain ⟨a2, c2, rfl⟩ := own_shape hown2
    have HH2 := hide hown2
    clear hown2 hgrow2 hg3
    go_wp2
    go_end0
    exact ⟨rfl, HF.out _ _ hg4 HH2.out⟩
end Go.Proofs.Ythhmjoafoahpbaa
