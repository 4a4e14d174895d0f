/-
  The reference: out, first, New, Get, Drop. Conditions: the list lies there; few texts.
-/
import Derived.Test.YthhmjoafoahpbaaRef1
namespace Go.Proofs.Ythhmjoafoahpbaa
open Go.RowKit

theorem kc_take (l : List Tx) (i : Nat) : (kc l).take (i * 2) = kc (l.take i) := by
  induction l generalizing i with
  | nil => simp [kc]
  | cons p r ih =>
    cases i with
    | zero => simp [kc]
    | succ i =>
      rw [show (i + 1) * 2 = i * 2 + 1 + 1 by omega]
      simp [kc, ih]
theorem kc_drop (l : List Tx) (i : Nat) : (kc l).drop (i * 2) = kc (l.drop i) := by
  induction l generalizing i with
  | nil => simp [kc]
  | cons p r ih =>
    cases i with
    | zero => simp [kc]
    | succ i =>
      rw [show (i + 1) * 2 = i * 2 + 1 + 1 by omega]
      simp [kc, ih]
/-- Behind a call. -/
def RAfter (w : World) (G : Nat → Prop) (r : Nat) (S : Lr) (w' : World) : Prop := ∃ G', Rf w' G' r S ∧ (∀ k, G' k → G k ∨ w.heap.size ≤ k) ∧ Chg G w w'

set_option maxRecDepth 20000 in
set_option maxHeartbeats 1000000 in
theorem out_any {w : World} {G : Nat → Prop} {r : Nat} {S : Lr} (h : Rf w G r S) (i : Nat) (hi0 : i < S.l.length) :
    Calls Try.prog 28 #[pt r, .int .i64 (i : Int)] w fun e w' => e = .returned (.tuple #[]) ∧ RAfter w G r ⟨S.budget, S.l.take i ++ S.l.drop (i + 1)⟩ w' := by
  obtain ⟨i0, hi, hz0, hz1, hz2⟩ := info_parts infoText
  obtain ⟨lv, h1, h2, h3⟩ := h.lies
  have hfew := h.few
  obtain ⟨ao, cap, rfl⟩ := own_shape h2
  obtain ⟨g, rfl, -, hgl, hcap, hc⟩ := own_pos h2 (by omega)
  have hgr : g ≠ r := fun e => by
    subst e
    obtain ⟨cur, hcur⟩ : ∃ cur, w.heap[g]? = some (.cells cur 62 (0, 0)) := by
      rcases h2.2 with ⟨hv, _⟩ | ⟨q, cp, cur, hv, _, hb, _⟩
      · cases hv
      · injection hv with e1
        injection e1 with e1
        injection e1 with e1
        subst e1
        exact ⟨cur, hb⟩
    rw [hcur] at h1
    injection h1 with h1
    injection h1 with _ h1
    exact absurd h1 (by decide)
  have hst := slice_to w (some ⟨g, 0, none⟩) S.l.length cap i (by omega)
  obtain ⟨off, hsf, hoff⟩ := slice_from g S.l.length cap (i + 1) (by omega) hcap
  rw [show (((i + 1 : Nat)) : Int) = (i : Int) + 1 by omega] at hsf
  have n1 : ∀ j u, (kc (S.l.take i))[j]? = some u → w.cell? ((⟨g, 0, none⟩ : Addr).add j) = some u := fun j u hu => by
    rw [Addr.add_lit, Nat.zero_add]
    rw [← kc_take] at hu
    have hj : j < i * 2 := by
      have := (List.getElem?_eq_some_iff.1 hu).1
      rw [List.length_take] at this
      omega
    rw [List.getElem?_take_of_lt hj] at hu
    exact hc j u hu
  have n2 : ∀ (W : World), Chg (fun _ => False) w W → ∀ j u, (kc (S.l.drop (i + 1)))[j]? = some u → W.cell? ((⟨g, off, none⟩ : Addr).add j) = some u := fun W hW j u hu => by
    have hlt : i + 1 < S.l.length := by
      have := (List.getElem?_eq_some_iff.1 hu).1
      rw [kc_length] at this
      simp at this
      omega
    rw [Addr.add_lit, hoff hlt]
    rw [← kc_drop, List.getElem?_drop] at hu
    exact (World.cell?_of_block (hW.block g hgl (fun h => h))).trans (hc _ u hu)
  have c0 := cell_of h1 0
  simp at c0
  have hR := h
  have HN1 := hide n1
  have HN2 := hide n2
  have HC := hide hc
  have l1 : (kc (S.l.take i)).length = i * 2 := by rw [kc_length, List.length_take]; congr 1; omega
  have l2 : (kc (S.l.drop (i + 1))).length = (S.l.length - (i + 1)) * 2 := by rw [kc_length, List.length_drop]
  have HL1 := hide l1
  have HL2 := hide l2
  have HO1 := hide (kc_one (S.l.take i))
  have HO2 := hide (kc_one (S.l.drop (i + 1)))
  clear n1 n2 hc hoff l1 l2 h
  unfold pt
  go_enter Try.func28, Try.ntmps28
  go_wp2_with (at_builtin; refine wpList_append_own_at _ rfl (.tmp 5) (.tmp 11) 52 rfl w.heap.size 62 i0 (.agg #[.string ⟨#[]⟩, .string ⟨#[]⟩]) 2 32 Try.underlying52 hi hz0 hz1 hz2 rfl (by decide) (.slice none 0 0) 0 [] rfl (World.ownsRow_nil _ _ _ _) ⟨g, 0, none⟩ i cap (kc (S.l.take i)) rfl HL1.out HN1.out HO1.out (by unfold maxLen; omega) (by omega) (Nat.le_refl _) ?_)
  intro v1 w1 hown1 hgrow1 _ _
  have hg1 : Chg (fun _ => False) w w1 := (Chg.of_grown hgrow1).mono fun k _ e => by cases e
  have hown1 : w1.ownsRow w.heap.size 62 2 v1 i (kc (S.l.take i)) := by simpa using hown1
  obtain ⟨a1, c1, rfl⟩ := own_shape hown1
  have d0 := cell_of (hg1.keep h1 (fun h => h)) 0
  simp at d0
  have d1 := hg1.keep h1 (fun h => h)
  clear hgrow1
  go_wp2_with (at_builtin; refine wpList_append_own_at _ rfl (.tmp 14) (.tmp 21) 52 rfl w.heap.size 62 i0 (.agg #[.string ⟨#[]⟩, .string ⟨#[]⟩]) 2 32 Try.underlying52 hi hz0 hz1 hz2 rfl (by decide) _ _ _ rfl hown1 ⟨g, off, none⟩ (S.l.length - (i + 1)) (cap - (i + 1)) (kc (S.l.drop (i + 1))) rfl HL2.out (HN2.out _ hg1) HO2.out (by unfold maxLen; omega) (by omega) hg1.size ?_)
  intro v2 w2 hown2 hgrow2 _ _
  have hg2 : Chg (fun k => w.heap.size ≤ k) w1 w2 := (Chg.of_grown hgrow2).mono fun k _ e => (World.ownsRow.lt hown1 k e.symm).1
  have hg3 : Chg (fun _ => False) w w2 := hg1.trans hg2 (fun k hk h => absurd hk (Nat.not_lt.2 h))
  rw [← kc_append] at hown2
  have hln : i + (S.l.length - (i + 1)) = (S.l.take i ++ S.l.drop (i + 1)).length := by simp; omega
  rw [hln] at hown2
  obtain ⟨a2, c2, rfl⟩ := own_shape hown2
  have e1 := hg3.keep h1 (fun h => h)
  have e2 := thawed e1 0
  have e3 := cell_of e1 0
  simp at e3
  have hsz : (w2.setCell ⟨r, 0, none⟩ (.slice a2 (S.l.take i ++ S.l.drop (i + 1)).length c2)).heap.size = w2.heap.size := by simp [World.setCell]
  have hlt2 := hg3.size
  have hrn : w.heap.size ≤ w2.heap.size := hg3.size
  have HH2 := hide hown2
  have hrl := lt_of_heap h1
  clear hown2 hgrow2 hown1 h2 hst hsf
  generalize hnn : (S.l.take i ++ S.l.drop (i + 1)).length = nn at *
  go_wp2
  go_end0
  refine ⟨rfl, fun k => k = r ∨ (w.heap.size ≤ k ∧ k < w2.heap.size), ⟨⟨.slice a2 nn c2, heap_set e1 0 _, ?_, fun k hk => Or.inr ⟨(World.ownsRow.lt HH2.out k hk).1, (World.ownsRow.lt HH2.out k hk).2⟩⟩, Or.inl rfl, fun k hk => ?_, by simp only [hnn]; omega, fun p hp => hR.short p ?_⟩, fun k hk => ?_, (hg3.mono fun _ _ h => h.elim).setCell (p := ⟨r, 0, none⟩) (Or.inl hR.here) _⟩
  · have hk2 : (w2.setCell ⟨r, 0, none⟩ (.slice a2 nn c2)).ownsRow w.heap.size 62 2 (.slice a2 nn c2) nn (kc (S.l.take i ++ S.l.drop (i + 1))) := own_keep HH2.out ((Chg.refl (· = r) w2).setCell (p := ⟨r, 0, none⟩) (Or.inl rfl) _) (fun k hk e => by
      have := (World.ownsRow.lt HH2.out k hk).1
      omega)
    simp only [hnn]
    exact own_base hk2 (Nat.zero_le _)
  · rw [hsz]
    rcases hk with rfl | hk
    · omega
    · exact hk.2
  · simp only at hp
    rcases List.mem_append.1 hp with hp | hp
    · exact List.mem_of_mem_take hp
    · exact List.mem_of_mem_drop hp
  · rcases hk with rfl | hk
    · exact Or.inl hR.here
    · exact Or.inr hk.1
end Go.Proofs.Ythhmjoafoahpbaa
