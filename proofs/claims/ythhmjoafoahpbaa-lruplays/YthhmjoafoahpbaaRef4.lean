/-
  The reference: New, Get, Drop. Conditions: the list lies there; few texts.
-/
import Derived.Test.YthhmjoafoahpbaaRef3
namespace Go.Proofs.Ythhmjoafoahpbaa
open Go.RowKit

theorem RAfter.then {w w1 w2 : World} {G : Nat → Prop} {r : Nat} {S2 : Lr} {G1 : Nat → Prop} (h1 : ∀ k, G1 k → G k ∨ w.heap.size ≤ k) (hc1 : Chg G w w1) (h2 : RAfter w1 G1 r S2 w2) : RAfter w G r S2 w2 := by
  obtain ⟨G2, a, b, c⟩ := h2
  refine ⟨G2, a, fun k hk => ?_, hc1.trans c (fun i hi hg => (h1 i hg).resolve_right (fun hh => absurd hi (Nat.not_lt.2 hh)))⟩
  rcases b k hk with hh | hh
  · exact h1 k hh
  · exact Or.inr (Nat.le_trans hc1.size hh)
theorem RAfter.self {w : World} {G : Nat → Prop} {r : Nat} {S : Lr} (h : Rf w G r S) : RAfter w G r S w := ⟨G, h, fun _ hk => Or.inl hk, Chg.refl _ _⟩

set_option maxRecDepth 20000 in
theorem rnew_any (w : World) (n : Int) (hn : I64 n) :
    Calls Try.prog 10 #[.int .i64 n] w fun e w' => ∃ r, e = .returned (pt r) ∧ r = w.heap.size ∧ Rf w' (fun k => k = r) r ⟨n.toNat, []⟩ ∧ Chg (fun _ => False) w w' := by
  have hfin : ∀ m : Int, m = (n.toNat : Int) → Rf (w.alloc (.cells #[.slice none 0 0, .int .i64 m] 54)) (fun k => k = w.heap.size) w.heap.size ⟨n.toNat, []⟩ := fun m hm => by
    subst hm
    exact ⟨⟨_, heap_last _ _, World.ownsRow_nil _ _ _ _, fun k hk => by cases hk⟩, rfl, fun k hk => by subst hk; simp, by simp, fun p hp => by cases hp⟩
  have HF := hide hfin
  clear hfin
  unfold I64 at hn
  by_cases h0 : 0 ≤ n
  · go_enter Try.func10, Try.ntmps10
    go_wp2
    go_ret
    exact ⟨_, rfl, rfl, HF.out _ (by omega), (Chg.refl _ _).alloc _⟩
  · go_enter Try.func10, Try.ntmps10
    go_wp2
    go_ret
    exact ⟨_, rfl, rfl, HF.out _ (by omega), (Chg.refl _ _).alloc _⟩

theorem mid_take {α : Type} (a b : List α) (x : α) : (a ++ x :: b).take a.length ++ (a ++ x :: b).drop (a.length + 1) = a ++ b := by
  rw [List.take_left' rfl]
  congr 1
  rw [show a.length + 1 = a.length + 1 from rfl, ← List.drop_drop, List.drop_left' rfl]
  rfl

set_option maxRecDepth 20000 in
set_option maxHeartbeats 1000000 in
theorem rget_any {w : World} {G : Nat → Prop} {r : Nat} {S : Lr} (h : Rf w G r S) (hu : Uniq S.l) (k : Bs) :
    Calls Try.prog 16 #[pt r, .string (strB k)] w fun e w' => e = .returned (.tuple #[.string (strB ((seek k S.l).getD [])), .bool (seek k S.l).isSome]) ∧ RAfter w G r (S.get k) w' := by
  have hfi := find_any h k
  rcases seek_split k S.l with hno | ⟨a, v, b, hab, ha⟩
  · have hsn := seek_none hno
    have hget : S.get k = S := by unfold Lr.get; rw [hsn]
    rw [idx_none hno] at hfi
    rw [hsn, hget]
    unfold pt at hfi ⊢
    clear hsn hget hno
    go_enter Try.func16, Try.ntmps16
    go_wp2_with fail
    refine hfi.mono ?_
    rintro e w1 ⟨rfl, rfl⟩
    go_wp2
    go_ret2
    exact ⟨rfl, RAfter.self h⟩
  · have hsk : seek k S.l = some v := by rw [hab]; exact seek_mid (p := (k, v)) ha
    have hil : a.length < S.l.length := by rw [hab]; simp
    have hix : idx k S.l = (a.length : Int) := by rw [hab]; exact idx_mid ha
    have hdel : del k S.l = a ++ b := by
      have := del_mid (p := (k, v)) (a := a) (b := b) (by rw [← hab]; exact hu)
      rw [hab]
      exact this
    have hout : S.l.take a.length ++ S.l.drop (a.length + 1) = a ++ b := by rw [hab]; exact mid_take a b (k, v)
    have hget : S.get k = ⟨S.budget, (k, v) :: (a ++ b)⟩ := by unfold Lr.get; rw [hsk, hdel]
    rw [hix] at hfi
    rw [hsk, hget]
    have hsh : Short (k, v) := h.short (k, v) (by rw [hab]; simp)
    have hln : (a ++ b).length < 1000 := by
      have h1 := h.few
      rw [hab] at h1
      simp at h1 ⊢
      omega
    obtain ⟨lv, h1, h2, h3⟩ := h.lies
    obtain ⟨ao, cap, rfl⟩ := own_shape h2
    obtain ⟨g, rfl, -, hgl, hcap, hc⟩ := own_pos h2 (by omega)
    have hat : S.l[a.length] = (k, v) := by simp [hab]
    have k1 := hc _ _ (kc_at S.l a.length hil).1
    have k2 := hc _ _ (kc_at S.l a.length hil).2
    rw [hat] at k1 k2
    simp only at k1 k2
    have c0 := cell_of h1 0
    simp at c0
    have hgA : Chg (fun _ => False) w (w.alloc (.cells #[.string (strB k), .string (strB v)] 62)) := (Chg.refl _ _).alloc _
    have hou := out_any (h.quiet hgA) a.length hil
    rw [hout] at hou
    have hAA := heap_last w (.cells #[.string (strB k), .string (strB v)] 62)
    have hqG : ¬ G w.heap.size := fun hg => Nat.lt_irrefl _ (h.inn _ hg)
    have HAA := hide hAA
    clear hsk hix hget hdel hout hat hc h1 h2 h3 hab hAA
    unfold pt at hfi hou ⊢
    generalize a.length = i at *
    generalize a ++ b = ab at *
    go_enter Try.func16, Try.ntmps16
    go_wp2_with fail
    refine hfi.mono ?_
    rintro e w1 ⟨rfl, rfl⟩
    go_wp2_with fail
    refine hou.mono ?_
    rintro e w2 ⟨rfl, G2, hr2, hG2, hc2⟩
    have hk2 := hc2.keep HAA.out hqG
    have y0 := cell_of hk2 0
    have y1 := cell_of hk2 1
    simp at y0 y1
    have hfr := rfirst_any hr2 (k, v) hsh hln
    have hnG2 : ¬ G2 w1.heap.size := fun hg => by
      rcases hG2 _ hg with hh | hh
      · exact hqG hh
      · simp at hh
        omega
    unfold pt at hfr
    go_wp2_with fail
    refine hfr.mono ?_
    rintro e w3 ⟨rfl, hra⟩
    have hra' := hra
    obtain ⟨G3, hr3, hG3, hc3⟩ := hra'
    have y2 := cell_of (hc3.keep hk2 hnG2) 1
    simp at y2
    go_wp2
    go_ret2
    refine ⟨rfl, RAfter.then (G1 := G2) (fun kk hk => ?_) ((hgA.mono fun _ _ h => h.elim).then hc2) hra⟩
    rcases hG2 kk hk with hh | hh
    · exact Or.inl hh
    · refine Or.inr ?_
      simp at hh
      omega

set_option maxRecDepth 20000 in
set_option maxHeartbeats 1000000 in
theorem rdrop_any {w : World} {G : Nat → Prop} {r : Nat} {S : Lr} (h : Rf w G r S) (hu : Uniq S.l) (v : Value) (ks : List Bs) (hv : Tf G w v ks) (hn : ks.length ≤ 4611686018427387904) :
    Calls Try.prog 18 #[pt r, v] w fun e w' => e = .returned (.int .i64 (dropNum ks S.l : Int)) ∧ RAfter w G r (S.drop ks) w' := by
  obtain ⟨ao, cap, rfl, h1, h4⟩ := hv
  unfold pt
  go_enter Try.func18, Try.ntmps18
  go_wp2
  go_loopw [5, 6] (fun d t wr => ∃ (j : Nat) (G1 : Nat → Prop), j ≤ ks.length ∧ t = .int .i64 (j : Int) ∧ d = .int .i64 (dropNum (ks.take j) S.l : Int) ∧ Rf wr G1 r ⟨S.budget, dropAll (ks.take j) S.l⟩ ∧ (∀ k, G1 k → G k ∨ w.heap.size ≤ k) ∧ Chg G w wr)
    (fun _ t _ => ks.length - (intOf t).toNat)
  case atStart => exact ⟨0, G, Nat.zero_le _, rfl, rfl, h, (fun k hk => Or.inl hk), Chg.refl _ _⟩
  case round =>
    obtain ⟨j, G1, hj, rfl, rfl, hr, hG1, hg⟩ := hrel
    by_cases hlt : j < ks.length
    · obtain ⟨b, off, rfl, hb, hFb, hc⟩ := h4 (by rintro rfl; simp at hlt)
      have hcj : wr.cell? ⟨b, off + j, none⟩ = some (.string (strB ks[j])) := (World.cell?_of_block (hg.block b hb hFb)).trans (hc j hlt)
      have hsn : ks.take (j + 1) = ks.take j ++ [ks[j]] := by
        rw [List.take_add_one, List.getElem?_eq_getElem hlt]
        rfl
      have hdn := dropNum_snoc (ks.take j) ks[j] S.l
      have hda := dropAll_snoc (ks.take j) ks[j] S.l
      rw [← hsn] at hdn hda
      have hle := dropNum_le (ks.take j) S.l
      have hle2 : (ks.take j).length ≤ j := by simp; omega
      have hu1 : Uniq (dropAll (ks.take j) S.l) := dropAll_uniq _ hu
      have hfi := find_any hr ks[j]
      clear hc h4 hsn
      generalize ks[j] = kk at *
      simp only at hfi
      generalize hLL : dropAll (ks.take j) S.l = L at *
      rcases seek_split kk L with hno | ⟨a, vv, bb, hab, ha⟩
      · rw [seek_none hno] at hdn
        rw [del_none hno] at hda
        rw [idx_none hno] at hfi
        have HDN := hide hdn
        have HDA := hide hda
        clear hdn hda hno hLL
        generalize hN : dropNum (ks.take j) S.l = N at *
        have HN := hide hN
        clear hN
        unfold pt at hfi
        go_wp2_with fail
        refine hfi.mono ?_
        rintro e w1 ⟨rfl, rfl⟩
        go_wp2
        go_roundw
        case rel => exact ⟨j + 1, G1, by omega, by go_num, by rw [HDN.out]; simp [one], by rw [HDA.out]; exact hr, hG1, hg⟩
        case measure => simp [intOf]; omega
      · have hsk : seek kk L = some vv := by rw [hab]; exact seek_mid (p := (kk, vv)) ha
        have hil : a.length < L.length := by rw [hab]; simp
        have hix : idx kk L = (a.length : Int) := by rw [hab]; exact idx_mid ha
        have hdel : del kk L = a ++ bb := by
          have := del_mid (p := (kk, vv)) (a := a) (b := bb) (by rw [← hab]; exact hu1)
          rw [hab]
          exact this
        have hout : L.take a.length ++ L.drop (a.length + 1) = a ++ bb := by rw [hab]; exact mid_take a bb (kk, vv)
        have hou := out_any hr a.length hil
        simp only at hou
        rw [hout, ← hdel, ← hda] at hou
        rw [hsk] at hdn
        rw [hix] at hfi
        have HDN := hide hdn
        clear hdn hda hLL hsk hix hdel hout hab ha
        generalize hN : dropNum (ks.take j) S.l = N at *
        have HN := hide hN
        clear hN
        generalize a.length = i at *
        unfold pt at hfi hou
        go_wp2_with fail
        refine hfi.mono ?_
        rintro e w1 ⟨rfl, rfl⟩
        go_wp2_with fail
        refine hou.mono ?_
        rintro e w2 ⟨rfl, G2, hr2, hG2, hc2⟩
        go_wp2
        go_roundw
        case rel =>
          refine ⟨j + 1, G2, by omega, by go_num, by rw [HDN.out]; simp [one], hr2, fun k hk => ?_, hg.trans hc2 (fun i hi hgi => (hG1 i hgi).resolve_right (fun hh => absurd hi (Nat.not_lt.2 hh)))⟩
          rcases hG2 k hk with hh | hh
          · exact hG1 k hh
          · exact Or.inr (Nat.le_trans hg.size hh)
        case measure => simp [intOf]; omega
    · obtain rfl : j = ks.length := by omega
      rw [List.take_length] at hr ⊢
      go_wp2
      go_ret
      exact ⟨rfl, G1, hr, hG1, hg⟩
end Go.Proofs.Ythhmjoafoahpbaa
