/-
  What cone.Parse answers. Conditions: the text not too long.
-/
import Derived.Test.YtkihldkaiddbkaaCParse
namespace Go.Proofs.Ytkihldkaiddbkaa
open Go.RowKit Go.Shelf
attribute [local go_sem] Oper.semAt_some

theorem keeps_below {W W' : World} (h : Below W.heap.size W W') : KeepsOthers W W' := ⟨h.size, fun k _ hk _ => (h.block k (lt_of_heap hk)).trans hk⟩
theorem boxed_below {W W' : World} {B : Nat} {t : TypeId} {v : Value} (h : Boxed W B t v) (hb : Below W.heap.size W W') : Boxed W' B t v := (hb.block B h.lt).trans h
/-- The directories that the first k lines say. -/
def dirsK (xs : List (Nat × Bs)) (k : Nat) : List Bs := (xs.take k).map fun x => dirL x.2
theorem dirsK_len {xs : List (Nat × Bs)} {k : Nat} (h : k ≤ xs.length) : (dirsK xs k).length = k := by unfold dirsK; rw [List.length_map, List.length_take]; omega
theorem dirsK_next {xs : List (Nat × Bs)} {k : Nat} (h : k < xs.length) : dirsK xs (k + 1) = dirsK xs k ++ [dirL xs[k].2] := by
  unfold dirsK
  rw [List.take_add_one, List.map_append]
  simp [h]

/-- A row stays as it is where a cell below it is set. -/
theorem own_set {w : World} {base size n : Nat} {e : TypeId} {v : Value} {xs : List Value} (h : w.ownsRow base e size v n xs) {B : Nat} (hB : B < base) (u : Value) : (w.setCell ⟨B, 0, none⟩ u).ownsRow base e size v n xs :=
  ownsRow_setCell_below h hB u
set_option maxRecDepth 100000 in
set_option maxHeartbeats 3200000 in
theorem cparse_any (w : World) (l : Bs) (hl : l.length ≤ 100000) :
    Calls Try.prog 16 #[.string (strB l)] w fun e w' => ∃ u, e = .returned (.tuple #[u, .int .i64 (parseA l).2.1, .int .i64 (parseA l).2.2]) ∧ w'.ownsRow w.heap.size 9 1 u (parseA l).1.length (tc (parseA l).1) ∧ Below w.heap.size w w' := by
  obtain ⟨i0, hi, hz0, hz1, hz2⟩ := info_parts Try.info9
  have hxl : (sayL 1 (cutN l)).length ≤ l.length + 1 := Nat.le_trans (sayL_len _ _) (cutN_len l)
  have hxs : ∀ x ∈ sayL 1 (cutN l), x.2.length ≤ l.length ∧ x.1 ≤ l.length + 2 := fun x hx => by
    have h1 := sayL_num _ _ x hx
    have h2 := cutN_len l
    exact ⟨cutN_short l _ h1.2, by omega⟩
  have HOK := hide (@parseA_ok l)
  have HBAD := hide (fun n (h : badAt 1 (cutN l) = some n) => parseA_bad h)
  rw [badAt_say (cutN l) 1] at HOK HBAD
  rw [dirsL_say (cutN l) 1] at HOK
  have hgv := fun B => said_gives B l (by omega)
  generalize sayL 1 (cutN l) = xs at *
  generalize parseA l = A at *
  refine (callsIn_wide (n := 0)).1 ?_
  refine callsIn_of_wp_marks Try.func16 rfl trivial ?_ rfl
  simp only [Try.ntmps16, List.size_toArray, List.length_cons, List.length_nil, Nat.reduceAdd, Nat.reduceSub, Array.replicate_succ, Array.replicate_zero, List.push_toArray, List.append_toArray, List.nil_append, List.cons_append]
  gi_wp2_with fail
  refine ⟨trivial, rfl, ?_⟩
  refine (callsIn_wide.2 (said_any _ l)).mono ?_
  rintro e w5 ⟨rfl, hw5⟩
  gi_wp2_with fail
  have b0 : Boxed w5 w.heap.size 22 (.slice none 0 0) := by rw [hw5]; exact ((((Boxed.new w _ _).alloc _).alloc _).alloc _).alloc _
  have b1 : Boxed w5 (w.heap.size + 1) 3 (.int .i64 0) := by
    rw [hw5]
    have := Boxed.new (w.alloc (.cells #[.slice none 0 0] 22)) 3 (.int .i64 0)
    rw [World.size_alloc] at this
    exact ((this.alloc _).alloc _).alloc _
  have b2 : Boxed w5 (w.heap.size + 1 + 1) 25 (.int .i64 0) := by
    rw [hw5]
    have := Boxed.new ((w.alloc (.cells #[.slice none 0 0] 22)).alloc (.cells #[.int .i64 0] 3)) 25 (.int .i64 0)
    rw [World.size_alloc, World.size_alloc] at this
    exact (this.alloc _).alloc _
  have b3 : Boxed w5 (w.heap.size + 1 + 1 + 1) 22 (.slice none 0 0) := by
    rw [hw5]
    have := Boxed.new (((w.alloc (.cells #[.slice none 0 0] 22)).alloc (.cells #[.int .i64 0] 3)).alloc (.cells #[.int .i64 0] 25)) 22 (.slice none 0 0)
    rw [World.size_alloc, World.size_alloc, World.size_alloc] at this
    exact this.alloc _
  have bt : Boxed w5 (w.heap.size + 1 + 1 + 1 + 1) 9 (.string (strB l)) := by
    rw [hw5]
    have := Boxed.new ((((w.alloc (.cells #[.slice none 0 0] 22)).alloc (.cells #[.int .i64 0] 3)).alloc (.cells #[.int .i64 0] 25)).alloc (.cells #[.slice none 0 0] 22)) 9 (.string (strB l))
    rw [World.size_alloc, World.size_alloc, World.size_alloc, World.size_alloc] at this
    exact this
  have hB5 : Below w.heap.size w w5 := by
    rw [hw5]
    exact (((((Below.refl _ w).alloc (Nat.le_refl _) _).alloc (by simp) _).alloc (by simp; omega) _).alloc (by simp; omega) _).alloc (by simp; omega) _
  have hz5 : w5.heap.size = w.heap.size + 5 := by rw [hw5]; simp
  rw [← hw5]
  clear hw5
  refine wp_each2 rfl enter_said (hgv (w.heap.size + 1 + 1 + 1 + 1)) (fun o1 o2 => ((bt.alloc o1).alloc o2).cell)
    (fun k W => (∀ j (hj : j < xs.length), j < k → okL xs[j].2 = true) ∧ (Boxed W w.heap.size 22 (.slice none 0 0) ∧ Boxed W (w.heap.size + 1) 3 (.int .i64 0) ∧ Boxed W (w.heap.size + 1 + 1) 25 (.int .i64 0)) ∧ (∃ v, Boxed W (w.heap.size + 1 + 1 + 1) 22 v ∧ W.ownsRow (w.heap.size + 1 + 1 + 1) 9 1 v k (tc (dirsK xs k)) ∧ True) ∧ Below w.heap.size w W)
    (fun k W => (∃ hk : k < xs.length, okL xs[k].2 = false ∧ ∀ j (hj : j < xs.length), j < k → okL xs[j].2 = true) ∧ (Boxed W w.heap.size 22 (.slice none 0 0) ∧ Boxed W (w.heap.size + 1) 3 (.int .i64 (((xs[k]?.map (·.1)).getD 0 : Nat) : Int)) ∧ Boxed W (w.heap.size + 1 + 1) 25 (.int .i64 180)) ∧ Below w.heap.size w W)
    (OwnFrom.and (ownFrom_pure _ _) (OwnFrom.and (Own.from (fun s A B row hs hg hr => ⟨boxed_own _ _ (fun _ => .slice none 0 0) s A B row hs.1 hg hr, boxed_own _ _ (fun _ => .int .i64 0) s A B row hs.2.1 hg hr, boxed_own _ _ (fun _ => .int .i64 0) s A B row hs.2.2 hg hr⟩) _) (OwnFrom.and (Own.from (holdsRow_own (w.heap.size + 1 + 1 + 1) (w.heap.size + 1 + 1 + 1) 22 9 1 (fun k : Nat => k) (fun k => tc (dirsK xs k)) (fun _ _ => True)) _) (ownFrom_below (Nat.le_refl _) (by omega)))))
    (OwnFrom.and (ownFrom_pure _ _) (OwnFrom.and (Own.from (fun s A B row hs hg hr => ⟨boxed_own _ _ (fun _ => .slice none 0 0) s A B row hs.1 hg hr, boxed_own _ _ (fun k : Nat => .int .i64 (((xs[k]?.map (·.1)).getD 0 : Nat) : Int)) s A B row hs.2.1 hg hr, boxed_own _ _ (fun _ => .int .i64 180) s A B row hs.2.2 hg hr⟩) _) (ownFrom_below (Nat.le_refl _) (by omega))))
    ⟨fun j _ h => absurd h (by omega), ⟨b0, b1, b2⟩, ⟨_, b3, World.ownsRow_nil _ _ _ _, trivial⟩, hB5⟩
    (fun x => { tmps := #[.string (strB l), undef, .pointer (some ⟨w.heap.size, 0, none⟩), .pointer (some ⟨w.heap.size + 1, 0, none⟩), .pointer (some ⟨w.heap.size + 1 + 1, 0, none⟩), .pointer (some ⟨w.heap.size + 1 + 1 + 1, 0, none⟩), .int .i64 (x.1 : Int), .string (strB x.2), undef, undef, undef, undef, .string (strB l), .func (.func 57) #[] #[.pointer (some ⟨w.heap.size + 1 + 1 + 1 + 1, 0, none⟩)], .int .i64 (x.1 : Int), .string (strB x.2), undef, undef, undef, undef, undef, undef, undef, undef, undef, undef, undef, undef, undef, undef, undef, undef, undef, undef, undef], defers := [] }) ?assign ?body ?all ?left
  case assign =>
    intro l x W K hK
    gi_wp2
    exact hK
  case body =>
    rintro L k W hk ⟨hok, ⟨c0, c1, c2⟩, ⟨v, hv, hrow, -⟩, hB⟩
    have hxk := hxs xs[k] (List.getElem_mem hk)
    have hdo := dirOf_any W xs[k].2 (by omega)
    have hget : (xs[k]?.map (·.1)).getD 0 = xs[k].1 := by simp [hk]
    have HNX := hide (dirsK_next hk)
    have HOKK := hide hok
    have HX : okL xs[k].2 = false → ∃ hk : k < xs.length, okL xs[k].2 = false ∧ ∀ j (hj : j < xs.length), j < k → okL xs[j].2 = true := fun h => ⟨hk, h, hok⟩
    have HT : okL xs[k].2 = true → ∀ j (hj : j < xs.length), j < k + 1 → okL xs[j].2 = true := fun h j hj hjk => by
      by_cases e : j = k
      · subst e; exact h
      · exact hok j hj (by omega)
    cases ho : okL xs[k].2 with
    | false =>
      replace HX := hide (HX ho)
      clear HT
      rw [ho] at hdo
      have HG := hide hget
      generalize xs[k] = x at *
      obtain ⟨n, s⟩ := x
      simp only at hdo
      gi_wp2_with fail
      refine ⟨trivial, rfl, (CallsIn.inRound L (callsIn_wide.2 hdo)).mono ?_⟩
      rintro e W2 ⟨rfl, hb2⟩
      have d0 := boxed_below c0 hb2
      have d1 := boxed_below c1 hb2
      have d2 := boxed_below c2 hb2
      have z0 := d0.cell; have z1 := d1.cell; have z2 := d2.cell
      have y0 := d0.frozen; have y1 := d1.frozen; have y2 := d2.frozen
      obtain ⟨X1, hX1⟩ : ∃ X1, W2.setCell ⟨w.heap.size, 0, none⟩ (.slice none 0 0) = X1 := ⟨_, rfl⟩
      have e0 : Boxed X1 w.heap.size 22 (.slice none 0 0) := by rw [← hX1]; exact d0.set _
      have e1 : Boxed X1 (w.heap.size + 1) 3 (.int .i64 0) := by rw [← hX1]; exact d1.other (by omega) _
      have e2 : Boxed X1 (w.heap.size + 1 + 1) 25 (.int .i64 0) := by rw [← hX1]; exact d2.other (by omega) _
      have k1 : KeepsOthers W2 X1 := by rw [← hX1]; exact KeepsOthers.setCell _ _ _
      have m1 : Below w.heap.size W2 X1 := by rw [← hX1]; exact (Below.refl _ W2).setCell (p := ⟨w.heap.size, 0, none⟩) (Nat.le_refl _) _
      have z11 := e1.cell
      have y11 := e1.frozen
      obtain ⟨X2, hX2⟩ : ∃ X2, X1.setCell ⟨w.heap.size + 1, 0, none⟩ (.int .i64 (n : Int)) = X2 := ⟨_, rfl⟩
      have g0 : Boxed X2 w.heap.size 22 (.slice none 0 0) := by rw [← hX2]; exact e0.other (by omega) _
      have g1 : Boxed X2 (w.heap.size + 1) 3 (.int .i64 (n : Int)) := by rw [← hX2]; exact e1.set _
      have g2 : Boxed X2 (w.heap.size + 1 + 1) 25 (.int .i64 0) := by rw [← hX2]; exact e2.other (by omega) _
      have k2 : KeepsOthers X1 X2 := by rw [← hX2]; exact KeepsOthers.setCell _ _ _
      have m2 : Below w.heap.size X1 X2 := by rw [← hX2]; exact (Below.refl _ X1).setCell (p := ⟨w.heap.size + 1, 0, none⟩) (by show w.heap.size ≤ w.heap.size + 1; omega) _
      have z22 := g2.cell
      have y22 := g2.frozen
      obtain ⟨X3, hX3⟩ : ∃ X3, X2.setCell ⟨w.heap.size + 1 + 1, 0, none⟩ (.int .i64 180) = X3 := ⟨_, rfl⟩
      have HE := hide (show (Boxed X3 w.heap.size 22 (.slice none 0 0) ∧ Boxed X3 (w.heap.size + 1) 3 (.int .i64 (n : Int)) ∧ Boxed X3 (w.heap.size + 1 + 1) 25 (.int .i64 180)) ∧ KeepsOthers X2 X3 ∧ Below w.heap.size X2 X3 from by
        rw [← hX3]
        exact ⟨⟨g0.other (by omega) _, g1.other (by omega) _, g2.set _⟩, KeepsOthers.setCell _ _ _, (Below.refl _ X2).setCell (p := ⟨w.heap.size + 1 + 1, 0, none⟩) (by show w.heap.size ≤ w.heap.size + 1 + 1; omega) _⟩)
      have HK := hide (((keeps_below hb2).trans k1).trans k2)
      have HBB := hide (((hB.trans (hb2.mono hB.size)).trans m1).trans m2)
      clear d0 d1 d2 e0 e1 e2 g0 g1 g2 k1 k2 m1 m2 hb2 c0 c1 c2 hv hrow hB hok hget
      gi_wp2
      refine ⟨HK.out.trans HE.out.2.1, HX.out, ⟨HE.out.1.1, ?_, HE.out.1.2.2⟩, HBB.out.trans HE.out.2.2⟩
      rw [HG.out]
      exact HE.out.1.2.1
    | true =>
      replace HT := hide (HT ho)
      clear HX
      rw [ho] at hdo
      generalize xs[k] = x at *
      obtain ⟨n, s⟩ := x
      simp only at hdo HNX
      gi_wp2_with fail
      refine ⟨trivial, rfl, (CallsIn.inRound L (callsIn_wide.2 hdo)).mono ?_⟩
      rintro e W2 ⟨rfl, hb2⟩
      have d0 := boxed_below c0 hb2
      have d1 := boxed_below c1 hb2
      have d2 := boxed_below c2 hb2
      have dv := boxed_below hv hb2
      have drow := own_keep hrow hb2
      have zc := dv.cell
      have hB2 := hB.trans (hb2.mono hB.size)
      have hzz : w.heap.size + 1 + 1 + 1 ≤ W2.heap.size := Nat.le_of_lt dv.lt
      have HKB := hide (keeps_below hb2)
      clear c0 c1 c2 hv hrow hok hget hb2 hdo
      gi_wp2_with (gi_at_builtin; refine wpListIn_append_own _ rfl _ _ 22 rfl (w.heap.size + 1 + 1 + 1) 9 i0 (.string ⟨#[]⟩) 1 16 Try.underlying22 hi hz0 hz1 hz2 rfl (by decide) _ _ _ rfl (drow.alloc _) ⟨W2.heap.size, 0, none⟩ 1 1 [.string (strB (dirL s))] rfl rfl (cell_one_new _ _ _) (by simp [Value.oneCell']) (by unfold maxLen; omega) (by omega) (by simp; omega) ?_; intro v' w1 hown' hgrow _; obtain ⟨g', cap', rfl⟩ := ownsRow_succ hown'; obtain ⟨hv1, hv2, hr2, hk2, hb2⟩ := dv.appended (by decide) drow hzz (Nat.le_refl _) hown' hgrow; have hc1 := hv1.cell; have hf1 := hv1.frozen)
      have q0 := (hb2.block _ (show w.heap.size < w.heap.size + 1 + 1 + 1 by omega)).trans d0
      have q1 := (hb2.block _ (show w.heap.size + 1 < w.heap.size + 1 + 1 + 1 by omega)).trans d1
      have q2 := (hb2.block _ (show w.heap.size + 1 + 1 < w.heap.size + 1 + 1 + 1 by omega)).trans d2
      refine ⟨HKB.out.trans hk2, HT.out, ⟨q0, q1, q2⟩, ⟨_, hv2, ?_, trivial⟩, hB2.trans (hb2.mono (by omega))⟩
      · rw [HNX.out, ← tc_snoc]
        exact hr2
  case all =>
    rintro D W hD ⟨hok, ⟨c0, c1, c2⟩, ⟨v, hv, hrow, -⟩, hB⟩ hK
    have HA := hide (HOK.out (say_ok (fun j hj => hok j hj hj)))
    have hrow' : OwnT W (w.heap.size + 1 + 1 + 1) v (dirsK xs xs.length) := by
      unfold OwnT
      rw [dirsK_len (Nat.le_refl _)]
      exact hrow
    have hdk : dirsK xs xs.length = xs.map fun x => dirL x.2 := by unfold dirsK; rw [List.take_length]
    rw [hdk] at hrow'
    have hO := of_any W v _ (ts_of_own hrow') (by rw [List.length_map]; omega) (fun x hx => by
      obtain ⟨y, hy, rfl⟩ := List.mem_map.1 hx
      have := (hxs y hy).1
      have := dirL_short y.2
      omega)
    have zc := hv.cell
    gi_wp2_with fail
    refine ⟨trivial, rfl, (callsIn_wide.2 hO).mono ?_⟩
    rintro e W2 ⟨u, rfl, hu, hb2⟩
    have d0 := boxed_below c0 hb2
    have d1 := boxed_below c1 hb2
    have d2 := boxed_below c2 hb2
    have hB2 := hB.trans (hb2.mono hB.size)
    have hK2 := (hb2.block D (lt_of_heap hK)).trans hK
    have hsz := hB.size
    have huo := own_down hu hsz
    have HUO := hide (own_down hu (show w.heap.size ≤ W.heap.size from hsz))
    have z0 := d0.cell
    have y0 := d0.frozen
    obtain ⟨X1, hX1⟩ : ∃ X1, W2.setCell ⟨w.heap.size, 0, none⟩ u = X1 := ⟨_, rfl⟩
    have e0 : Boxed X1 w.heap.size 22 u := by rw [← hX1]; exact d0.set _
    have e1 : Boxed X1 (w.heap.size + 1) 3 (.int .i64 0) := by rw [← hX1]; exact d1.other (by omega) _
    have e2 : Boxed X1 (w.heap.size + 1 + 1) 25 (.int .i64 0) := by rw [← hX1]; exact d2.other (by omega) _
    have k1 : KeepsOthers W2 X1 := by rw [← hX1]; exact KeepsOthers.setCell _ _ _
    have m1 : Below w.heap.size W2 X1 := by rw [← hX1]; exact (Below.refl _ W2).setCell (p := ⟨w.heap.size, 0, none⟩) (Nat.le_refl _) _
    have hcl := c0.lt
    have u1 := own_set hu (B := w.heap.size) c0.lt u
    rw [hX1] at u1
    have z11 := e1.cell
    have y11 := e1.frozen
    obtain ⟨X2, hX2⟩ : ∃ X2, X1.setCell ⟨w.heap.size + 1, 0, none⟩ (.int .i64 0) = X2 := ⟨_, rfl⟩
    have g0 : Boxed X2 w.heap.size 22 u := by rw [← hX2]; exact e0.other (by omega) _
    have g1 : Boxed X2 (w.heap.size + 1) 3 (.int .i64 0) := by rw [← hX2]; exact e1.set _
    have g2 : Boxed X2 (w.heap.size + 1 + 1) 25 (.int .i64 0) := by rw [← hX2]; exact e2.other (by omega) _
    have k2 : KeepsOthers X1 X2 := by rw [← hX2]; exact KeepsOthers.setCell _ _ _
    have m2 : Below w.heap.size X1 X2 := by rw [← hX2]; exact (Below.refl _ X1).setCell (p := ⟨w.heap.size + 1, 0, none⟩) (by show w.heap.size ≤ w.heap.size + 1; omega) _
    have u2 := own_set u1 (B := w.heap.size + 1) c1.lt (.int .i64 0)
    rw [hX2] at u2
    have z22 := g2.cell
    have y22 := g2.frozen
    generalize hcode : (Pt.ofM (xs.map fun x => dirL x.2)).2 = code at *
    obtain ⟨X3, hX3⟩ : ∃ X3, X2.setCell ⟨w.heap.size + 1 + 1, 0, none⟩ (.int .i64 code) = X3 := ⟨_, rfl⟩
    have f0 : Boxed X3 w.heap.size 22 u := by rw [← hX3]; exact g0.other (by omega) _
    have f1 : Boxed X3 (w.heap.size + 1) 3 (.int .i64 0) := by rw [← hX3]; exact g1.other (by omega) _
    have f2 : Boxed X3 (w.heap.size + 1 + 1) 25 (.int .i64 code) := by rw [← hX3]; exact g2.set _
    have k3 : KeepsOthers X2 X3 := by rw [← hX3]; exact KeepsOthers.setCell _ _ _
    have m3 : Below w.heap.size X2 X3 := by rw [← hX3]; exact (Below.refl _ X2).setCell (p := ⟨w.heap.size + 1 + 1, 0, none⟩) (by show w.heap.size ≤ w.heap.size + 1 + 1; omega) _
    have u3 := own_set u2 (B := w.heap.size + 1 + 1) c2.lt (.int .i64 code)
    rw [hX3] at u3
    obtain ⟨uo, uc, rfl⟩ := own_shape hu
    have hK3 := (k1.trans (k2.trans k3)).same D _ hK2 rfl
    have HR := hide (And.intro (hB2.trans (m1.trans (m2.trans m3))) (own_down u3 hsz))
    have HF := hide (And.intro f0 (And.intro f1 f2))
    clear d0 d1 d2 e0 e1 e2 g0 g1 g2 k1 k2 k3 m1 m2 m3 u1 u2 u3 hu huo HUO hrow hrow' hO hb2 c0 c1 c2 hv hB hB2 f0 f1 f2 hok hxs
    gi_wp2
    refine ⟨by simp, .inl ⟨_, _, rfl, run_takeDeferred hK3, ?_⟩⟩
    obtain ⟨f0, f1, f2⟩ := HF.out
    have hc0 := (f0.kept (grownBy_putObj' _ D (.deferred none)) (by simp at hD ⊢; omega)).cell
    have hc1 := (f1.kept (grownBy_putObj' _ D (.deferred none)) (by simp at hD ⊢; omega)).cell
    have hc2 := (f2.kept (grownBy_putObj' _ D (.deferred none)) (by simp at hD ⊢; omega)).cell
    refine ⟨.tuple #[.slice uo (Pt.ofM (xs.map fun x => dirL x.2)).1.length uc, .int .i64 0, .int .i64 code], ?_, .slice uo (Pt.ofM (xs.map fun x => dirL x.2)).1.length uc, ?_, ?_, HR.out.1.trans (belowK_b (w := w) (Nat.le_refl _) _ D _ _ (by omega) hK3 rfl rfl)⟩
    · simp [results, Try.f16, go_sem, hc0, hc1, hc2]
    · rw [HA.out]
    · rw [HA.out]
      exact ownsRow_putObj HR.out.2 _ hK3 rfl
  case left =>
    rintro D k W hD hk ⟨⟨hk', hbad, hok⟩, ⟨c0, c1, c2⟩, hB⟩ hK
    have HA := hide (HBAD.out _ (say_bad hk' hbad hok))
    have hget : (xs[k]?.map (·.1)).getD 0 = xs[k].1 := by simp [hk]
    rw [hget] at c1
    gi_wp2
    refine ⟨by simp, .inl ⟨_, _, rfl, run_takeDeferred hK, ?_⟩⟩
    have hc0 := (c0.kept (grownBy_putObj' _ D (.deferred none)) (by simp at hD ⊢; omega)).cell
    have hc1 := (c1.kept (grownBy_putObj' _ D (.deferred none)) (by simp at hD ⊢; omega)).cell
    have hc2 := (c2.kept (grownBy_putObj' _ D (.deferred none)) (by simp at hD ⊢; omega)).cell
    refine ⟨.tuple #[.slice none 0 0, .int .i64 (xs[k].1 : Int), .int .i64 180], ?_, .slice none 0 0, ?_, ?_, hB.trans (belowK_b (w := w) (Nat.le_refl _) _ D _ _ (by omega) hK rfl rfl)⟩
    · simp [results, Try.f16, go_sem, hc0, hc1, hc2]
    · rw [HA.out]
    · rw [HA.out]
      exact World.ownsRow_nil _ _ _ _
end Go.Proofs.Ytkihldkaiddbkaa
