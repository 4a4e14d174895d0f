/-
  Get, Put, Drop, Keys, Bytes, New of a cache, and of none. Conditions: lengths within reach, few texts.
-/
import Derived.Test.YthhmjoafoahpbaaApi
namespace Go.Proofs.Ythhmjoafoahpbaa
open Go.RowKit
variable {w : World} {F : Nat → Prop} {c : Nat} {S : Lr}

theorem own_base {w : World} {base base' size n : Nat} {e : TypeId} {v : Value} {xs : List Value} (h : w.ownsRow base e size v n xs) (hb : base' ≤ base) : w.ownsRow base' e size v n xs := by
  refine ⟨h.1, ?_⟩
  rcases h.2 with h | ⟨q, cap, cur, rfl, h1, h2⟩
  · exact Or.inl h
  · exact Or.inr ⟨q, cap, cur, rfl, Nat.le_trans hb h1, h2⟩
theorem Lies.few (h : Lies w F c S) : S.l.length ≤ 1000 := by
  obtain ⟨ts, mv, o, p, h1, h2, _⟩ := h.lies
  have := h2.few
  rw [← h1]
  simpa [kv] using this
theorem Lies.tot_le (h : Lies w F c S) : tot S.l ≤ 281474976702464000 := by
  obtain ⟨ts, mv, o, p, h1, h2, _⟩ := h.lies
  rw [← h1]
  exact h2.tot_le
theorem Lies.drew (h : Lies w F c S) : Lies w.drew F c S := h.keep ((Chg.refl (fun _ => False) w).drew) (fun _ _ h => h)

set_option maxRecDepth 20000 in
/-- Keys. -/
theorem keys_any (h : Lies w F c S) :
    Calls Try.prog 21 #[pt c] w fun r w' => ∃ v, r = .returned v ∧ Own w' w.heap.size v (S.l.map (·.1)) ∧ Chg (fun _ => False) w w' := by
  obtain ⟨ts, mv, o, p, h1, h2, _⟩ := h.lies
  have hk := keys_ring w c ts _ _ o p h2
  rw [h1] at hk
  clear h h1 h2
  unfold pt at hk ⊢
  go_enter Try.func21, Try.ntmps21
  go_wp2_with fail
  refine hk.mono ?_
  rintro r w1 ⟨v, rfl, hv, hg⟩
  go_wp2
  go_ret
  exact ⟨v, rfl, hv, hg⟩
set_option maxRecDepth 20000 in
theorem keys_nil (w : World) : Calls Try.prog 21 #[.pointer none] w fun r w' => r = .returned (.slice none 0 0) ∧ w' = w := by
  go_enter Try.func21, Try.ntmps21
  go_wp2
  go_ret
  exact ⟨rfl, rfl⟩
set_option maxRecDepth 20000 in
/-- Bytes. -/
theorem bytes_any (h : Lies w F c S) : Calls Try.prog 19 #[pt c] w fun r w' => r = .returned (.int .i64 (tot S.l : Int)) ∧ w' = w := by
  obtain ⟨ts, mv, o, p, h1, h2, _⟩ := h.lies
  have c1 := cell_of h2.cache 1
  rw [h1] at c1
  simp at c1
  clear h h1 h2
  unfold pt
  go_enter Try.func19, Try.ntmps19
  go_wp2
  go_ret
  exact ⟨rfl, rfl⟩
set_option maxRecDepth 20000 in
theorem bytes_nil (w : World) : Calls Try.prog 19 #[.pointer none] w fun r w' => r = .returned (.int .i64 0) ∧ w' = w := by
  go_enter Try.func19, Try.ntmps19
  go_wp2
  go_ret
  exact ⟨rfl, rfl⟩

set_option maxRecDepth 20000 in
set_option maxHeartbeats 1000000 in
/-- Get. -/
theorem get_any (h : Lies w F c S) (k : Bs) :
    Calls Try.prog 15 #[pt c, .string (strB k)] w fun r w' => r = .returned (.tuple #[.string (strB ((seek k S.l).getD [])), .bool (seek k S.l).isSome]) ∧ Lies w' F c (S.get k) ∧ Chg F w w' := by
  have hok := h.ok.get k
  have hbud := h.budget
  have hinn := h.inn
  obtain ⟨ts, mv, o, p, hts, hr, hm, hFc, hFe⟩ := h.lies
  have c3 := cell_of hr.cache 3
  simp at c3
  have hz : (zeroValue 46).run Try.prog w = .ok (.pointer none) w := by kernel_rfl
  rcases seek_split k S.l with hno | ⟨a, v, b, hab, ha⟩
  · have hlook : (Instr.lookup 49 (.map mv) (.string (strB k)) false).run Try.prog w = .ok (.pointer none) w := by
      rcases hm with ⟨rfl, _⟩ | ⟨b, rfl, hb, _⟩
      · have := nil_look (P := Try.prog) (w := w) (x := .string (strB k)) Try.underlying49 ((kstr w).check true _ ⟨_, rfl⟩) (by rcases (kstr w).find _ ⟨_, rfl⟩ [] (by simp) with h | ⟨j, e, _, h, _⟩; exact h.1; simp at h) hz false
        simpa using this
      · have := hb.look_none (kstr w) (mp_keys ts) Try.underlying49 ⟨strB k, rfl⟩ (mp_ne (by rw [hts]; exact hno)) hz false
        simpa using this
    have hsn := seek_none hno
    have hget : S.get k = S := by unfold Lr.get; rw [hsn]
    rw [hsn, hget]
    have HH := hide h
    clear hr hm h hok hsn hget hts
    unfold pt
    go_enter Try.func15, Try.ntmps15
    go_wp2
    go_ret2
    exact ⟨rfl, HH.out, Chg.refl _ _⟩
  · have hab0 := hab
    rw [← hts] at hab
    obtain ⟨ta, ebs, rfl, hta, heb⟩ := List.map_eq_append_iff.1 hab
    obtain ⟨e, tb, rfl, he, htb⟩ := List.map_eq_cons_iff.1 heb
    have hek : e.2.1 = k := by rw [he]
    have hev : e.2.2 = v := by rw [he]
    obtain ⟨mb, rfl, hmb, hFm⟩ : ∃ b, mv = some b ∧ MapW w b (mp (ta ++ e :: tb)) ∧ F b := by
      rcases hm with ⟨_, h⟩ | h
      · simp at h
      · exact h
    have hmb1 := hmb.perm (mp_mid ta tb e)
    have hmb2 : MapW w mb (mp (e :: (ta ++ tb))) := hmb1
    rw [hek] at hmb1
    have hlook : (Instr.lookup 49 (.map (some mb)) (.string (strB k)) false).run Try.prog w = .ok (pt e.1) w := by
      have := hmb1.look (kstr w) (mp_keys _) Try.underlying49 ⟨strB k, rfl⟩ false
      simpa using this
    have hus := use_ring w c ta tb e _ _ o p hr
    have hout := MapA.out hmb hr
    have hseek : seek k S.l = some v := by rw [hab0]; exact seek_mid (p := (k, v)) ha
    have hget : S.get k = { S with l := e.2 :: kv (ta ++ tb) } := by
      unfold Lr.get
      rw [hseek]
      have h2 := h.ok.uniq
      rw [hab0] at h2
      have h3 := del_mid h2
      rw [← hab0] at h3
      have hk2 : kv (ta ++ tb) = a ++ b := by
        rw [kv_append, ← hta, ← htb]
        rfl
      rw [hk2, he]
      simp only [h3]
    rw [hseek]
    have hF2 : ∀ i, inRing c (ta ++ e :: tb) i → F i := by
      rintro i (rfl | hi)
      · exact hFc
      · obtain ⟨x, hx, rfl⟩ := List.mem_map.1 hi
        exact hFe x hx
    have HM := hide hmb2
    have HK := hide hok
    have HGE := hide hget
    clear hr hm hmb hmb1 hmb2 h hok hget hts hab hab0 heb
    unfold pt at hus hlook ⊢
    go_enter Try.func15, Try.ntmps15
    go_wp2_with fail
    refine hus.mono ?_
    rintro r w1 ⟨rfl, ⟨o1, p1, hr1⟩, k2, k3⟩
    have hm1 := HM.out.keep k2 hout
    have cv := cell_of (hr1.cell e (by simp)) 1
    simp [hev] at cv
    have HR := hide hr1
    clear hr1
    go_wp2
    go_ret2
    refine ⟨rfl, ⟨HK.out, ⟨e :: (ta ++ tb), some mb, o1, p1, ?_, ?_, Or.inr ⟨mb, rfl, hm1, hFm⟩, hFc, fun x hx => hFe x ?_⟩, ?_, fun i hi => ?_⟩, k2.mono fun i _ hi => hF2 i hi⟩
    · rw [HGE.out]
      rfl
    · rw [HGE.out]
      exact HR.out
    · rcases List.mem_cons.1 hx with rfl | hx
      · simp
      · rcases List.mem_append.1 hx with m | m
        · simp [m]
        · simp [m]
    · rw [HGE.out]
      exact hbud
    · rw [k3]
      exact hinn i hi
set_option maxRecDepth 20000 in
theorem get_nil (w : World) (k : Bs) : Calls Try.prog 15 #[.pointer none, .string (strB k)] w fun r w' => r = .returned (.tuple #[.string (strB []), .bool false]) ∧ w' = w := by
  go_enter Try.func15, Try.ntmps15
  go_wp2
  go_ret2
  exact ⟨rfl, rfl⟩

set_option maxRecDepth 20000 in
set_option maxHeartbeats 1000000 in
/-- Put. -/
theorem put_any (h : Lies w F c S) (k v : Bs) (hs : Short (k, v)) (hf : S.l.length < 1000) :
    Calls Try.prog 12 #[pt c, .string (strB k), .string (strB v)] w fun r w' => ∃ gv b F', r = .returned (.tuple #[gv, .int .i64 (S.code k v)]) ∧ w.heap.size ≤ b ∧ Own w' b gv (S.went k v) ∧
      Lies w' F' c (S.put k v) ∧ (∀ i, F' i → (F i ∨ w.heap.size ≤ i) ∧ i < b) ∧ Chg F w w' := by
  have hwe := weigh_any w.drew (k, v) hs.1 hs.2
  have c2 : w.cell? ⟨c, 2, none⟩ = some (.int .i64 (S.budget : Int)) := by
    obtain ⟨ts, mv, o, p, h1, h2, _⟩ := h.lies
    exact cell_of h2.cache 2
  have hbud := h.budget
  have hwt : wt (k, v) ≤ 281474976702464 := by unfold wt; unfold Short at hs; simp at hs ⊢; omega
  have HH := hide h
  obtain ⟨T, hT⟩ : ∃ T, T = wt (k, v) := ⟨_, rfl⟩
  obtain ⟨B, hB⟩ : ∃ B, B = S.budget := ⟨_, rfl⟩
  rw [← hT] at hwe hwt
  rw [← hB] at c2 hbud
  have HT := hide hT
  have HB := hide hB
  clear h hT hB
  simp at hwe
  unfold pt
  by_cases hle : T ≤ B
  · have hd : decide (B < T) = false := decide_eq_false (by omega)
    have hle2 : wt (k, v) ≤ S.budget := by rw [← HT.out, ← HB.out]; exact hle
    have e1 : S.put k v = { S with l := fit S.budget ((k, v) :: del k S.l) } := by unfold Lr.put; rw [if_pos hle2]
    have e2 : S.went k v = gone S.budget ((k, v) :: del k S.l) := by unfold Lr.went; rw [if_pos hle2]
    have e3 : S.code k v = 0 := by unfold Lr.code; rw [if_pos hle2]
    have hok2 := HH.out.ok.put k v
    have hfew := HH.out.few
    have ht1 := take_any w.drew F c S.budget S.l k HH.out.drew.lied
    have H1 := hide e1
    have H2 := hide e2
    have HOK := hide hok2
    rw [e3]
    clear e1 e2 e3 hok2
    unfold pt at ht1
    go_enter Try.func12, Try.ntmps12
    go_wp2_with fail
    refine wp_region_held_drew (S := fun W => W.cell? ⟨c, 2, none⟩ = some (.int .i64 (B : Int))) (by kernel_rfl) (c2) (fun hHeld => ?_)
    refine takeH (i := 0) (v := ?_) rfl (by kernel_rfl) (by kernel_rfl) (by kernel_rfl) (fun _ _ _ h => h) rfl ?_ hHeld ?_
    rotate_left
    · intro w hS; (try dsimp only at hS); obtain hS0 := hS; go_simp; first | done | (with_reducible rfl)
    try simp only [Act.put, List.setIfInBounds_toArray, List.set_cons_zero, List.set_cons_succ]
    refine takeH (i := 1) (v := ?_) rfl (by kernel_rfl) (by kernel_rfl) (by kernel_rfl) (fun _ _ _ h => h) rfl ?_ hHeld ?_
    rotate_left
    · intro w hS; (try dsimp only at hS); obtain hS0 := hS; go_simp; first | done | (with_reducible rfl)
    try simp only [Act.put, List.setIfInBounds_toArray, List.set_cons_zero, List.set_cons_succ]
    refine takeH (i := 3) (v := ?_) rfl (by kernel_rfl) (by kernel_rfl) (by kernel_rfl) (fun _ _ _ h => h) rfl ?_ hHeld ?_
    rotate_left
    · intro w hS; (try dsimp only at hS); obtain hS0 := hS; go_simp; first | done | (with_reducible rfl)
    try simp only [Act.put, List.setIfInBounds_toArray, List.set_cons_zero, List.set_cons_succ]
    refine takeH (i := 4) (v := ?_) rfl (by kernel_rfl) (by kernel_rfl) (by kernel_rfl) (fun _ _ _ h => h) rfl ?_ hHeld ?_
    rotate_left
    · intro w hS; (try dsimp only at hS); obtain hS0 := hS; go_simp; first | done | (with_reducible rfl)
    try simp only [Act.put, List.setIfInBounds_toArray, List.set_cons_zero, List.set_cons_succ]
    refine takeH (i := 5) (v := ?_) rfl (by kernel_rfl) (by kernel_rfl) (by kernel_rfl) (fun _ _ _ h => h) rfl ?_ hHeld ?_
    rotate_left
    · intro w hS; (try dsimp only at hS); obtain hS0 := hS; go_simp; first | done | (with_reducible rfl)
    try simp only [Act.put, List.setIfInBounds_toArray, List.set_cons_zero, List.set_cons_succ]
    refine takeH (i := 6) (v := ?_) rfl (by kernel_rfl) (by kernel_rfl) (by kernel_rfl) (fun _ _ _ h => h) rfl ?_ hHeld ?_
    rotate_left
    · intro w hS; (try dsimp only at hS); obtain hS0 := hS; go_simp; first | done | (with_reducible rfl)
    try simp only [Act.put, List.setIfInBounds_toArray, List.set_cons_zero, List.set_cons_succ]
    refine onlyH (i := 2) rfl (by kernel_rfl) rfl (fun K hK => ?_)
    go_simp
    refine hwe.mono ?_
    rintro r w1 ⟨rfl, hw1⟩
    rw [hw1]
    clear hw1
    refine hK.out _ _ (c2) (fun hHeld => ?_)
    clear hK K
    try simp only [Act.put, List.setIfInBounds_toArray, List.set_cons_zero, List.set_cons_succ]
    refine takeH (i := 7) (v := ?_) rfl (by kernel_rfl) (by kernel_rfl) (by kernel_rfl) (fun _ _ _ h => h) rfl ?_ hHeld ?_
    rotate_left
    · intro w hS; (try dsimp only at hS); obtain hS0 := hS; go_simp; first | done | (with_reducible rfl)
    try simp only [Act.put, List.setIfInBounds_toArray, List.set_cons_zero, List.set_cons_succ]
    refine wpAnyH_done (by kernel_rfl) ?_ _
    clear hHeld
    go_wp2_with fail
    refine ht1.mono ?_
    rintro r w2 ⟨rfl, hL2, hg2, -⟩
    have hl2 := lay_any w2 F c S.budget (del k S.l) k v hL2 (del_no k S.l) hs (by have : (del k S.l).length ≤ S.l.length := List.length_filter_le ..; omega)
    unfold pt at hl2
    go_wp2_with fail
    refine hl2.mono ?_
    rintro r w3 ⟨rfl, ⟨F3, hL3, hF3⟩, hg3⟩
    have hl3 := shrink_any w3 F3 c S.budget _ hL3
    unfold pt at hl3
    go_wp2_with fail
    refine hl3.mono ?_
    rintro r w4 ⟨gv, rfl, hO4, hL4, hg4⟩
    go_wp2
    go_ret2
    have hgw2 : Chg F w w2 := ((Chg.refl F w).drew).then hg2
    have hgw3 : Chg F w w3 := hgw2.then hg3
    refine ⟨gv, w3.heap.size, F3, rfl, hgw3.size, ?_, ?_, fun i hi => ⟨?_, hL3.2.1.2 i hi⟩, hgw3.trans hg4 (fun i hi hF => ?_)⟩
    · rw [H2.out]
      exact hO4
    · have h5 := hL4.lies (fit_tot _ _)
      rw [H1.out]
      exact h5
    · rcases hF3 i hi with hh | hh
      · exact Or.inl hh
      · exact Or.inr (Nat.le_trans hgw2.size hh)
    · rcases hF3 i hF with hh | hh
      · exact hh
      · exact absurd hi (Nat.not_lt.2 (Nat.le_trans hgw2.size hh))
  · have hd : decide (B < T) = true := decide_eq_true (by omega)
    have hle2 : ¬ wt (k, v) ≤ S.budget := by rw [← HT.out, ← HB.out]; exact hle
    have e1 : S.put k v = S := by unfold Lr.put; rw [if_neg hle2]
    have e2 : S.went k v = [] := by unfold Lr.went; rw [if_neg hle2]
    have e3 : S.code k v = 70 := by unfold Lr.code; rw [if_neg hle2]
    rw [e1, e2, e3]
    clear e1 e2 e3
    go_enter Try.func12, Try.ntmps12
    go_wp2_with fail
    refine wp_region_held_drew (S := fun W => W.cell? ⟨c, 2, none⟩ = some (.int .i64 (B : Int))) (by kernel_rfl) (c2) (fun hHeld => ?_)
    refine takeH (i := 0) (v := ?_) rfl (by kernel_rfl) (by kernel_rfl) (by kernel_rfl) (fun _ _ _ h => h) rfl ?_ hHeld ?_
    rotate_left
    · intro w hS; (try dsimp only at hS); obtain hS0 := hS; go_simp; first | done | (with_reducible rfl)
    try simp only [Act.put, List.setIfInBounds_toArray, List.set_cons_zero, List.set_cons_succ]
    refine takeH (i := 1) (v := ?_) rfl (by kernel_rfl) (by kernel_rfl) (by kernel_rfl) (fun _ _ _ h => h) rfl ?_ hHeld ?_
    rotate_left
    · intro w hS; (try dsimp only at hS); obtain hS0 := hS; go_simp; first | done | (with_reducible rfl)
    try simp only [Act.put, List.setIfInBounds_toArray, List.set_cons_zero, List.set_cons_succ]
    refine takeH (i := 3) (v := ?_) rfl (by kernel_rfl) (by kernel_rfl) (by kernel_rfl) (fun _ _ _ h => h) rfl ?_ hHeld ?_
    rotate_left
    · intro w hS; (try dsimp only at hS); obtain hS0 := hS; go_simp; first | done | (with_reducible rfl)
    try simp only [Act.put, List.setIfInBounds_toArray, List.set_cons_zero, List.set_cons_succ]
    refine takeH (i := 4) (v := ?_) rfl (by kernel_rfl) (by kernel_rfl) (by kernel_rfl) (fun _ _ _ h => h) rfl ?_ hHeld ?_
    rotate_left
    · intro w hS; (try dsimp only at hS); obtain hS0 := hS; go_simp; first | done | (with_reducible rfl)
    try simp only [Act.put, List.setIfInBounds_toArray, List.set_cons_zero, List.set_cons_succ]
    refine takeH (i := 5) (v := ?_) rfl (by kernel_rfl) (by kernel_rfl) (by kernel_rfl) (fun _ _ _ h => h) rfl ?_ hHeld ?_
    rotate_left
    · intro w hS; (try dsimp only at hS); obtain hS0 := hS; go_simp; first | done | (with_reducible rfl)
    try simp only [Act.put, List.setIfInBounds_toArray, List.set_cons_zero, List.set_cons_succ]
    refine takeH (i := 6) (v := ?_) rfl (by kernel_rfl) (by kernel_rfl) (by kernel_rfl) (fun _ _ _ h => h) rfl ?_ hHeld ?_
    rotate_left
    · intro w hS; (try dsimp only at hS); obtain hS0 := hS; go_simp; first | done | (with_reducible rfl)
    try simp only [Act.put, List.setIfInBounds_toArray, List.set_cons_zero, List.set_cons_succ]
    refine onlyH (i := 2) rfl (by kernel_rfl) rfl (fun K hK => ?_)
    go_simp
    refine hwe.mono ?_
    rintro r w1 ⟨rfl, hw1⟩
    rw [hw1]
    clear hw1
    refine hK.out _ _ (c2) (fun hHeld => ?_)
    clear hK K
    try simp only [Act.put, List.setIfInBounds_toArray, List.set_cons_zero, List.set_cons_succ]
    refine takeH (i := 7) (v := ?_) rfl (by kernel_rfl) (by kernel_rfl) (by kernel_rfl) (fun _ _ _ h => h) rfl ?_ hHeld ?_
    rotate_left
    · intro w hS; (try dsimp only at hS); obtain hS0 := hS; go_simp; first | done | (with_reducible rfl)
    try simp only [Act.put, List.setIfInBounds_toArray, List.set_cons_zero, List.set_cons_succ]
    refine wpAnyH_done (by kernel_rfl) ?_ _
    clear hHeld
    go_wp2
    go_ret2
    exact ⟨_, w.heap.size, F, rfl, Nat.le_refl _, World.ownsRow_nil _ _ _ _, HH.out.drew, fun i hi => ⟨Or.inl hi, HH.out.inn i hi⟩, (Chg.refl _ _).drew⟩
set_option maxRecDepth 20000 in
theorem put_nil (w : World) (k v : Bs) : Calls Try.prog 12 #[.pointer none, .string (strB k), .string (strB v)] w fun r w' => r = .returned (.tuple #[.slice none 0 0, .int .i64 1]) ∧ w' = w := by
  go_enter Try.func12, Try.ntmps12
  go_wp2
  go_ret2
  exact ⟨rfl, rfl⟩

/-- The slice v has these texts, in a block that is not in F. -/
def Tf (F : Nat → Prop) (w : World) (v : Value) (ks : List Bs) : Prop :=
  ∃ ao cap, v = .slice ao ks.length cap ∧ ks.length ≤ cap ∧ (ks ≠ [] → ∃ b off, ao = some ⟨b, off, none⟩ ∧ b < w.heap.size ∧ ¬ F b ∧ ∀ j (h : j < ks.length), w.cell? ⟨b, off + j, none⟩ = some (.string (strB ks[j])))

set_option maxRecDepth 20000 in
set_option maxHeartbeats 1000000 in
/-- Drop. -/
theorem drop_any (h : Lies w F c S) (v : Value) (ks : List Bs) (hv : Tf F w v ks) (hn : ks.length ≤ 4611686018427387904) :
    Calls Try.prog 17 #[pt c, v] w fun r w' => r = .returned (.int .i64 (dropNum ks S.l : Int)) ∧ Lies w' F c (S.drop ks) ∧ Chg F w w' := by
  obtain ⟨ao, cap, rfl, h1, h4⟩ := hv
  have hL := h.lied
  have hok := h.ok.drop ks
  clear h
  have hp : ∀ (w' : World), Lied w' F c S.budget (dropAll ks S.l) → Lies w' F c (S.drop ks) := fun w' hx => hx.lies hok.tot
  have HP := hide hp
  have HL := hide hL
  clear hp hL
  unfold pt
  go_enter Try.func17, Try.ntmps17
  go_wp2
  go_loopw [5, 7, 12] (fun d _ t wr => ∃ j : Nat, j ≤ ks.length ∧ t = .int .i64 (j : Int) ∧ d = .int .i64 (dropNum (ks.take j) S.l : Int) ∧ Lied wr F c S.budget (dropAll (ks.take j) S.l) ∧ Chg F w wr)
    (fun _ _ t _ => ks.length - (intOf t).toNat)
  case atStart => exact ⟨0, Nat.zero_le _, rfl, rfl, HL.out, Chg.refl _ _⟩
  case round =>
    obtain ⟨j, hj, rfl, rfl, hl, hg⟩ := hrel
    by_cases hlt : j < ks.length
    · obtain ⟨b, off, rfl, hb, hFb, hc⟩ := h4 (by rintro rfl; simp at hlt)
      have hcj : wr.cell? ⟨b, off + j, none⟩ = some (.string (strB ks[j])) := (World.cell?_of_block (hg.block b hb hFb)).trans (hc j hlt)
      have htk := take_any wr F c S.budget _ ks[j] hl
      have hsn : ks.take (j + 1) = ks.take j ++ [ks[j]] := by
        rw [List.take_add_one, List.getElem?_eq_getElem hlt]
        rfl
      have hdn := dropNum_snoc (ks.take j) ks[j] S.l
      have hda := dropAll_snoc (ks.take j) ks[j] S.l
      rw [← hsn] at hdn hda
      rw [← hda] at htk
      have hle := dropNum_le (ks.take j) S.l
      have hle2 : (ks.take j).length ≤ j := by simp; omega
      have HDN := hide hdn
      clear hc h4 hsn hda hdn hl
      unfold pt at htk
      generalize ks[j] = kk at *
      generalize hN : dropNum (ks.take j) S.l = N at *
      have HN := hide hN
      clear hN
      cases hsk : (seek kk (dropAll (ks.take j) S.l)).isSome with
      | true =>
        rw [hsk] at htk
        have hd2 := HDN.out
        rw [hsk] at hd2
        go_wp2_with fail
        refine htk.mono ?_
        rintro r w1 ⟨rfl, hl1, hg1, -⟩
        go_wp2
        go_roundw
        case rel => exact ⟨j + 1, by omega, by go_num, by rw [hd2]; simp [one], hl1, hg.then hg1⟩
        case measure => simp [intOf]; omega
      | false =>
        rw [hsk] at htk
        have hd2 := HDN.out
        rw [hsk] at hd2
        go_wp2_with fail
        refine htk.mono ?_
        rintro r w1 ⟨rfl, hl1, hg1, -⟩
        go_wp2
        go_roundw
        case rel => exact ⟨j + 1, by omega, by go_num, by rw [hd2]; simp [one], hl1, hg.then hg1⟩
        case measure => simp [intOf]; omega
    · obtain rfl : j = ks.length := by omega
      rw [List.take_length] at hl ⊢
      go_wp2
      go_ret
      exact ⟨rfl, HP.out _ hl, hg⟩
set_option maxRecDepth 20000 in
theorem drop_nil (w : World) (v : Value) : Calls Try.prog 17 #[.pointer none, v] w fun r w' => r = .returned (.int .i64 0) ∧ w' = w := by
  go_enter Try.func17, Try.ntmps17
  go_wp2
  go_ret
  exact ⟨rfl, rfl⟩

set_option maxRecDepth 20000 in
/-- New. -/
theorem new_any (w : World) (n : Int) (h1 : -9223372036854775808 ≤ n) (h2 : n ≤ 9223372036854775807) :
    Calls Try.prog 9 #[.int .i64 n] w fun r w' => ∃ c, r = .returned (pt c) ∧ c = w.heap.size ∧ Lies w' (fun k => k = c) c ⟨n.toNat, []⟩ ∧ Chg (fun _ => False) w w' ∧ w'.heap.size = w.heap.size + 1 := by
  have hfin : ∀ m : Int, m = (n.toNat : Int) → Lies (w.alloc (.cells #[.pointer none, .int .i64 0, .int .i64 m, .map none] 51)) (fun k => k = w.heap.size) w.heap.size ⟨n.toNat, []⟩ := fun m hm => by
    subst hm
    refine ⟨⟨by simp [Uniq], by simp [tot]⟩, ⟨[], none, fun _ => 0, fun _ => 0, rfl, ⟨heap_last _ _, (fun e he => by cases he), (fun i hi => by simp [ns] at hi), by simp [ns], (fun e he => by cases he), by simp⟩, Or.inl ⟨rfl, rfl⟩, rfl, fun e he => by cases he⟩, by simp; omega, fun k hk => by subst hk; simp⟩
  have HF := hide hfin
  clear hfin
  by_cases h0 : 0 ≤ n
  · go_enter Try.func9, Try.ntmps9
    go_wp2
    go_ret
    exact ⟨_, rfl, rfl, HF.out _ (by omega), (Chg.refl _ _).alloc _, by simp⟩
  · go_enter Try.func9, Try.ntmps9
    go_wp2
    go_ret
    exact ⟨_, rfl, rfl, HF.out _ (by omega), (Chg.refl _ _).alloc _, by simp⟩
end Go.Proofs.Ythhmjoafoahpbaa
