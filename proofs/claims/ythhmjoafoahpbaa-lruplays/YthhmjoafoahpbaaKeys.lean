/-
  first, shrink, keys. Conditions: lengths within reach, few texts.
-/
import Derived.Test.YthhmjoafoahpbaaLay
namespace Go.Proofs.Ythhmjoafoahpbaa
open Go.RowKit

/-- Texts as cells. -/
def tc (xs : List Bs) : List Value := xs.map fun x => .string (strB x)
theorem tc_length (xs : List Bs) : (tc xs).length = xs.length := by simp [tc]
theorem tc_get (xs : List Bs) (j : Nat) (h : j < xs.length) : (tc xs)[j]? = some (.string (strB xs[j])) := by simp [tc, h]
theorem tc_snoc (xs : List Bs) (x : Bs) : tc xs ++ [.string (strB x)] = tc (xs ++ [x]) := by simp [tc]
theorem Try.info9 : (Try.prog.info? 9).map (fun i => (i.zero, i.size, i.bytes)) = some (some (.string ⟨#[]⟩), 1, 16) := by kernel_rfl
/-- The slice v has these texts, made since B. -/
def Own (w : World) (B : Nat) (v : Value) (xs : List Bs) : Prop := w.ownsRow B 9 1 v xs.length (tc xs)
theorem one_new (W : World) (x : Value) (t : TypeId) : ∀ j u, [x][j]? = some u → (W.alloc (.cells #[x] t)).cell? ((⟨W.heap.size, 0, none⟩ : Addr).add j) = some u := by
  intro j u hu
  rw [Addr.add_lit, Nat.zero_add, cell_of (heap_last W _), List.getElem?_toArray]
  exact hu
theorem own_shape {w : World} {base size n : Nat} {e : TypeId} {v : Value} {xs : List Value} (h : w.ownsRow base e size v n xs) : ∃ a c, v = .slice a n c := by
  rcases h.2 with ⟨rfl, rfl⟩ | ⟨q, cap, cur, rfl, _⟩
  · exact ⟨_, _, rfl⟩
  · exact ⟨_, _, rfl⟩
theorem grown_chg {W W' : World} {o : Obj} {base size n : Nat} {e : TypeId} {v : Value} {xs : List Value} (hr : W.ownsRow base e size v n xs) (hg : (W.alloc o).grownBy W' v.ownBlock) : Chg (fun k => base ≤ k) W W' :=
  ((Chg.refl _ W).alloc o).then ((Chg.of_grown hg).mono fun k _ e => (hr.lt k e.symm).1)
theorem own_keep {F : Nat → Prop} {w w' : World} {base size n : Nat} {e : TypeId} {v : Value} {xs : List Value} (h : w.ownsRow base e size v n xs) (hc : Chg F w w') (hF : ∀ k, v.ownBlock = some k → ¬ F k) : w'.ownsRow base e size v n xs := by
  obtain ⟨h1, h2⟩ := h
  refine ⟨h1, ?_⟩
  rcases h2 with h2 | ⟨g, cap, cur, rfl, hg, hh, hc', hm, hs, ht⟩
  · exact Or.inl h2
  · exact Or.inr ⟨g, cap, cur, rfl, hg, hc.keep hh (hF g rfl), hc', hm, hs, ht⟩
def slen : Value → Nat
  | .slice _ n _ => n
  | _ => 0

set_option maxRecDepth 20000 in
/-- first. -/
theorem first_ring (w : World) (c : Nat) (a : List Ht) (e : Ht) (bud tx : Value) (o p : Nat → Nat) (h : RingL w c (a ++ [e]) bud tx o p) :
    Calls Try.prog 35 #[pt c] w fun r w' => r = .returned (pt e.1) ∧ w' = w := by
  obtain ⟨x, r, hx⟩ : ∃ x r, a ++ [e] = x :: r := by
    cases a with
    | nil => exact ⟨e, [], rfl⟩
    | cons y s => exact ⟨y, s ++ [e], rfl⟩
  have hp : p x.1 = e.1 := by
    have h0 := (h.cyc 0 (by simp [ns])).2
    have e0 : (ns (a ++ [e])).getD 0 0 = x.1 := by rw [hx]; rfl
    rw [e0] at h0
    rw [h0]
    have hl : (ns (a ++ [e])).length = a.length + 1 := by simp [ns]
    rw [hl]
    unfold pv
    rw [if_pos rfl, ns_append]
    have : a.length = (ns a).length := by simp [ns]
    rw [Nat.add_sub_cancel, this]
    exact getD_mid (ns a) [] e.1
  have hc := h.cache
  have hcell := h.cell x (by rw [hx]; simp)
  rw [hx] at hc
  have c0 := cell_of hc 0
  have c3 := cell_of hcell 3
  simp [lastv, pt] at c0 c3
  rw [hp] at c3
  clear h hc hcell
  unfold pt
  go_enter Try.func35, Try.ntmps35
  go_wp2
  go_ret
  exact ⟨rfl, rfl⟩

set_option maxRecDepth 20000 in
set_option maxHeartbeats 1000000 in
/-- shrink. -/
theorem shrink_any (w : World) (F : Nat → Prop) (c B : Nat) (l : List Tx) (h : Lied w F c B l) :
    Calls Try.prog 26 #[pt c] w fun r w' => ∃ v, r = .returned v ∧ Own w' w.heap.size v (gone B l) ∧ Lied w' F c B (fit B l) ∧ Chg F w w' := by
  obtain ⟨i0, hi, hz0, hz1, hz2⟩ := info_parts Try.info9
  have hfew : l.length ≤ 1000 := by
    obtain ⟨_, _, ts, mv, o, p, rfl, hr, _⟩ := h
    have := hr.few
    have : (kv ts).length = ts.length := List.length_map ..
    omega
  have hB := h.2.1
  have hgl : (gone B l).length ≤ l.length := by unfold gone; simp
  unfold pt
  go_enter Try.func26, Try.ntmps26
  go_wp2
  go_loopw [3, 4] (fun v _ wr => ∃ l' gl, Lied wr F c B l' ∧ fit B l' = fit B l ∧ gl ++ gone B l' = gone B l ∧ Own wr w.heap.size v gl ∧ Chg F w wr)
    (fun v _ _ => (gone B l).length - slen v)
  case atStart => exact ⟨l, [], h, rfl, rfl, World.ownsRow_nil _ _ _ _, Chg.refl _ _⟩
  case round =>
    obtain ⟨l', gl, hL, hfit, hgone, hown, hg⟩ := hrel
    obtain ⟨hu, hbb, ts, mv, o, p, hts, hr, hm, hFc, hFe⟩ := hL
    have c1 := cell_of hr.cache 1
    have c2 := cell_of hr.cache 2
    simp at c1 c2
    obtain ⟨va, vc, rfl⟩ := own_shape hown
    obtain ⟨T, hT⟩ : ∃ T, T = tot (kv ts) := ⟨_, rfl⟩
    rw [← hT] at c1
    have HT := hide hT
    have HTS := hide hts
    have HF := hide hfit
    have HGO := hide hgone
    have HL := hide (show Lied wr F c B l' from ⟨hu, hbb, ts, mv, o, p, hts, hr, hm, hFc, hFe⟩)
    have HR := hide hr
    have HO := hide hown
    have HG := hide hg
    clear hr hm hown hg hT hts hfit hgone
    by_cases hle : T ≤ B
    · have hd : decide (B < T) = false := decide_eq_false (by omega)
      go_wp2_with fail
      refine wp_region_held_drew (S := fun W => W.cell? ⟨c, 1, none⟩ = some (.int .i64 (T : Int)) ∧ W.cell? ⟨c, 2, none⟩ = some (.int .i64 (B : Int))) (by kernel_rfl) (⟨c1, c2⟩) (fun hHeld => ?_)
      refine takeH (i := 0) (v := ?_) rfl (by kernel_rfl) (by kernel_rfl) (by kernel_rfl) (fun _ _ _ h => h) rfl ?_ hHeld ?_
      rotate_left
      · intro w hS; (try dsimp only at hS); obtain ⟨hS0, hS1⟩ := hS; go_simp; first | done | (with_reducible rfl)
      try simp only [Act.put, List.setIfInBounds_toArray, List.set_cons_zero, List.set_cons_succ]
      refine takeH (i := 1) (v := ?_) rfl (by kernel_rfl) (by kernel_rfl) (by kernel_rfl) (fun _ _ _ h => h) rfl ?_ hHeld ?_
      rotate_left
      · intro w hS; (try dsimp only at hS); obtain ⟨hS0, hS1⟩ := hS; go_simp; first | done | (with_reducible rfl)
      try simp only [Act.put, List.setIfInBounds_toArray, List.set_cons_zero, List.set_cons_succ]
      refine takeH (i := 2) (v := ?_) rfl (by kernel_rfl) (by kernel_rfl) (by kernel_rfl) (fun _ _ _ h => h) rfl ?_ hHeld ?_
      rotate_left
      · intro w hS; (try dsimp only at hS); obtain ⟨hS0, hS1⟩ := hS; go_simp; first | done | (with_reducible rfl)
      try simp only [Act.put, List.setIfInBounds_toArray, List.set_cons_zero, List.set_cons_succ]
      refine takeH (i := 3) (v := ?_) rfl (by kernel_rfl) (by kernel_rfl) (by kernel_rfl) (fun _ _ _ h => h) rfl ?_ hHeld ?_
      rotate_left
      · intro w hS; (try dsimp only at hS); obtain ⟨hS0, hS1⟩ := hS; go_simp; first | done | (with_reducible rfl)
      try simp only [Act.put, List.setIfInBounds_toArray, List.set_cons_zero, List.set_cons_succ]
      refine takeH (i := 4) (v := ?_) rfl (by kernel_rfl) (by kernel_rfl) (by kernel_rfl) (fun _ _ _ h => h) rfl ?_ hHeld ?_
      rotate_left
      · intro w hS; (try dsimp only at hS); obtain ⟨hS0, hS1⟩ := hS; go_simp; first | done | (with_reducible rfl)
      try simp only [Act.put, List.setIfInBounds_toArray, List.set_cons_zero, List.set_cons_succ]
      refine takeH (i := 5) (v := ?_) rfl (by kernel_rfl) (by kernel_rfl) (by kernel_rfl) (fun _ _ _ h => h) rfl ?_ hHeld ?_
      rotate_left
      · intro w hS; (try dsimp only at hS); obtain ⟨hS0, hS1⟩ := hS; go_simp; first | done | (with_reducible rfl)
      try simp only [Act.put, List.setIfInBounds_toArray, List.set_cons_zero, List.set_cons_succ]
      refine takeH (i := 6) (v := ?_) rfl (by kernel_rfl) (by kernel_rfl) (by kernel_rfl) (fun _ _ _ h => h) rfl ?_ hHeld ?_
      rotate_left
      · intro w hS; (try dsimp only at hS); obtain ⟨hS0, hS1⟩ := hS; go_simp; first | done | (with_reducible rfl)
      try simp only [Act.put, List.setIfInBounds_toArray, List.set_cons_zero, List.set_cons_succ]
      refine takeH (i := 7) (v := ?_) rfl (by kernel_rfl) (by kernel_rfl) (by kernel_rfl) (fun _ _ _ h => h) rfl ?_ hHeld ?_
      rotate_left
      · intro w hS; (try dsimp only at hS); obtain ⟨hS0, hS1⟩ := hS; go_simp; first | done | (with_reducible rfl)
      try simp only [Act.put, List.setIfInBounds_toArray, List.set_cons_zero, List.set_cons_succ]
      refine takeH (i := 8) (v := ?_) rfl (by kernel_rfl) (by kernel_rfl) (by kernel_rfl) (fun _ _ _ h => h) rfl ?_ hHeld ?_
      rotate_left
      · intro w hS; (try dsimp only at hS); obtain ⟨hS0, hS1⟩ := hS; go_simp; first | done | (with_reducible rfl)
      try simp only [Act.put, List.setIfInBounds_toArray, List.set_cons_zero, List.set_cons_succ]
      refine takeH (i := 9) (v := ?_) rfl (by kernel_rfl) (by kernel_rfl) (by kernel_rfl) (fun _ _ _ h => h) rfl ?_ hHeld ?_
      rotate_left
      · intro w hS; (try dsimp only at hS); obtain ⟨hS0, hS1⟩ := hS; go_simp; first | done | (with_reducible rfl)
      try simp only [Act.put, List.setIfInBounds_toArray, List.set_cons_zero, List.set_cons_succ]
      refine wpAnyH_done (by kernel_rfl) ?_ _
      clear hHeld
      go_wp2
      go_ret
      have hle2 : tot l' ≤ B := by rw [← HTS.out, ← HT.out]; exact hle
      have hgone := HGO.out
      have hfit := HF.out
      rw [gone_of_le hle2, List.append_nil] at hgone
      rw [fit_of_le hle2] at hfit
      refine ⟨_, rfl, ?_, ?_, HG.out.drew⟩
      · rw [← hgone]
        exact HO.out
      · rw [← hfit]
        exact HL.out.keep ((Chg.refl (fun _ => False) _).drew) (fun _ _ h => h)
    · have hd : decide (B < T) = true := decide_eq_true (by omega)
      have hne : ts ≠ [] := by
        rintro rfl
        rw [HT.out] at hle
        simp [kv, tot] at hle
      obtain ⟨ta, e, hta⟩ : ∃ ta e, ts = ta ++ [e] := ⟨ts.dropLast, ts.getLast hne, (List.dropLast_concat_getLast hne).symm⟩
      subst hta
      have hkv : l' = kv ta ++ [e.2] := by rw [← HTS.out, kv_append]; rfl
      have hlt : B < tot (kv ta ++ [e.2]) := by rw [← hkv, ← HTS.out, ← HT.out]; omega
      have hgo2 := HGO.out
      have hfi2 := HF.out
      rw [hkv, gone_last hlt] at hgo2
      rw [hkv, fit_last hlt] at hfi2
      have hdel : del e.2.1 l' = kv ta := by
        have := del_mid (a := kv ta) (b := []) (p := e.2) (by rw [← hkv]; exact hu)
        rw [hkv]
        simpa using this
      have hgll : gl.length < (gone B l).length := by rw [← hgo2]; simp
      have hf := first_ring wr.drew c ta e _ _ o p ⟨HR.out.cache, HR.out.cell, HR.out.cyc, HR.out.nodup, HR.out.short, HR.out.few⟩
      have ck := cell_of (w := wr.drew) (HR.out.cell e (by simp)) 0
      simp at ck
      have htk := take_any wr.drew F c B l' e.2.1 (HL.out.keep ((Chg.refl (fun _ => False) _).drew) (fun _ _ h => h))
      rw [hdel] at htk
      have H1 := hide hgo2
      have H2 := hide hfi2
      have HCK := hide ck
      clear hgo2 hfi2 hkv hdel ck hlt
      unfold pt at hf htk
      go_wp2_with fail
      refine wp_region_held_drew (S := fun W => W.cell? ⟨c, 1, none⟩ = some (.int .i64 (T : Int)) ∧ W.cell? ⟨c, 2, none⟩ = some (.int .i64 (B : Int))) (by kernel_rfl) (⟨c1, c2⟩) (fun hHeld => ?_)
      refine takeH (i := 0) (v := ?_) rfl (by kernel_rfl) (by kernel_rfl) (by kernel_rfl) (fun _ _ _ h => h) rfl ?_ hHeld ?_
      rotate_left
      · intro w hS; (try dsimp only at hS); obtain ⟨hS0, hS1⟩ := hS; go_simp; first | done | (with_reducible rfl)
      try simp only [Act.put, List.setIfInBounds_toArray, List.set_cons_zero, List.set_cons_succ]
      refine takeH (i := 1) (v := ?_) rfl (by kernel_rfl) (by kernel_rfl) (by kernel_rfl) (fun _ _ _ h => h) rfl ?_ hHeld ?_
      rotate_left
      · intro w hS; (try dsimp only at hS); obtain ⟨hS0, hS1⟩ := hS; go_simp; first | done | (with_reducible rfl)
      try simp only [Act.put, List.setIfInBounds_toArray, List.set_cons_zero, List.set_cons_succ]
      refine takeH (i := 2) (v := ?_) rfl (by kernel_rfl) (by kernel_rfl) (by kernel_rfl) (fun _ _ _ h => h) rfl ?_ hHeld ?_
      rotate_left
      · intro w hS; (try dsimp only at hS); obtain ⟨hS0, hS1⟩ := hS; go_simp; first | done | (with_reducible rfl)
      try simp only [Act.put, List.setIfInBounds_toArray, List.set_cons_zero, List.set_cons_succ]
      refine takeH (i := 3) (v := ?_) rfl (by kernel_rfl) (by kernel_rfl) (by kernel_rfl) (fun _ _ _ h => h) rfl ?_ hHeld ?_
      rotate_left
      · intro w hS; (try dsimp only at hS); obtain ⟨hS0, hS1⟩ := hS; go_simp; first | done | (with_reducible rfl)
      try simp only [Act.put, List.setIfInBounds_toArray, List.set_cons_zero, List.set_cons_succ]
      refine takeH (i := 4) (v := ?_) rfl (by kernel_rfl) (by kernel_rfl) (by kernel_rfl) (fun _ _ _ h => h) rfl ?_ hHeld ?_
      rotate_left
      · intro w hS; (try dsimp only at hS); obtain ⟨hS0, hS1⟩ := hS; go_simp; first | done | (with_reducible rfl)
      try simp only [Act.put, List.setIfInBounds_toArray, List.set_cons_zero, List.set_cons_succ]
      refine takeH (i := 5) (v := ?_) rfl (by kernel_rfl) (by kernel_rfl) (by kernel_rfl) (fun _ _ _ h => h) rfl ?_ hHeld ?_
      rotate_left
      · intro w hS; (try dsimp only at hS); obtain ⟨hS0, hS1⟩ := hS; go_simp; first | done | (with_reducible rfl)
      try simp only [Act.put, List.setIfInBounds_toArray, List.set_cons_zero, List.set_cons_succ]
      refine takeH (i := 6) (v := ?_) rfl (by kernel_rfl) (by kernel_rfl) (by kernel_rfl) (fun _ _ _ h => h) rfl ?_ hHeld ?_
      rotate_left
      · intro w hS; (try dsimp only at hS); obtain ⟨hS0, hS1⟩ := hS; go_simp; first | done | (with_reducible rfl)
      try simp only [Act.put, List.setIfInBounds_toArray, List.set_cons_zero, List.set_cons_succ]
      refine takeH (i := 7) (v := ?_) rfl (by kernel_rfl) (by kernel_rfl) (by kernel_rfl) (fun _ _ _ h => h) rfl ?_ hHeld ?_
      rotate_left
      · intro w hS; (try dsimp only at hS); obtain ⟨hS0, hS1⟩ := hS; go_simp; first | done | (with_reducible rfl)
      try simp only [Act.put, List.setIfInBounds_toArray, List.set_cons_zero, List.set_cons_succ]
      refine takeH (i := 8) (v := ?_) rfl (by kernel_rfl) (by kernel_rfl) (by kernel_rfl) (fun _ _ _ h => h) rfl ?_ hHeld ?_
      rotate_left
      · intro w hS; (try dsimp only at hS); obtain ⟨hS0, hS1⟩ := hS; go_simp; first | done | (with_reducible rfl)
      try simp only [Act.put, List.setIfInBounds_toArray, List.set_cons_zero, List.set_cons_succ]
      refine takeH (i := 9) (v := ?_) rfl (by kernel_rfl) (by kernel_rfl) (by kernel_rfl) (fun _ _ _ h => h) rfl ?_ hHeld ?_
      rotate_left
      · intro w hS; (try dsimp only at hS); obtain ⟨hS0, hS1⟩ := hS; go_simp; first | done | (with_reducible rfl)
      try simp only [Act.put, List.setIfInBounds_toArray, List.set_cons_zero, List.set_cons_succ]
      refine wpAnyH_done (by kernel_rfl) ?_ _
      clear hHeld
      go_wp2_with fail
      refine hf.mono ?_
      rintro r w1 ⟨rfl, hw1⟩
      rw [hw1]
      clear hw1 w1
      have ck := HCK.out
      go_wp2_with fail
      refine htk.mono ?_
      rintro r w2 ⟨rfl, hL2, hg2, -⟩
      have hg3 : Chg F w w2 := HG.out.drew.then hg2
      have hrow : w2.ownsRow w.heap.size 9 1 (.slice va gl.length vc) gl.length (tc gl) := own_keep (HO.out) ((Chg.refl F wr).drew.then hg2) (fun k hk hF => by
        have h1 := (World.ownsRow.lt HO.out k hk).1
        have h2 := hB.2 k hF
        omega)
      go_wp2_with (at_builtin; refine wpList_append_own_at _ rfl (.tmp 25) (.tmp 27) 28 rfl w.heap.size 9 i0 (.string ⟨#[]⟩) 1 16 Try.underlying28 hi hz0 hz1 hz2 rfl (by decide) _ _ _ rfl (hrow.alloc _) ⟨w2.heap.size, 0, none⟩ 1 1 [.string (strB e.2.1)] rfl rfl (cell_one_new _ _ _) (by simp [Value.oneCell']) (by unfold maxLen; omega) (by omega) (by have := hg3.size; simp; omega) ?_)
      intro v4 w4 hown4 hgrow4 _ _
      have hg4 := grown_chg hrow hgrow4
      obtain ⟨g4, c4, rfl⟩ := own_shape hown4
      have hL4 := hL2.keep hg4 (fun k hk h => by have := hB.2 k hk; omega)
      have hg5 : Chg F w w4 := hg3.trans hg4 (fun i hi h => absurd hi (Nat.not_lt.2 h))
      have hown5 : Own w4 w.heap.size (.slice g4 (gl.length + 1) c4) (gl ++ [e.2.1]) := by
        unfold Own
        rw [← tc_snoc]
        simpa using hown4
      clear hgrow4 hown4 hrow
      go_wp2
      go_roundw
      case rel => exact ⟨kv ta, gl ++ [e.2.1], hL4, H2.out, by rw [List.append_assoc]; exact H1.out, hown5, hg5⟩
      case measure => simp [slen]; omega
end Go.Proofs.Ythhmjoafoahpbaa
