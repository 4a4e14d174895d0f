/-
  lay: a text under a key that has none. Conditions: lengths within reach, few texts.
-/
import Derived.Test.YthhmjoafoahpbaaCache
import Derived.WalkSpells
namespace Go.Proofs.Ythhmjoafoahpbaa
open Go.RowKit

theorem RingL.below {w w' : World} {c : Nat} {ts : List Ht} {bud tx : Value} {o p : Nat → Nat} (h : RingL w c ts bud tx o p) (hb : Below w.heap.size w w') : RingL w' c ts bud tx o p :=
  h.keep (Chg.of_below hb) (Nat.not_le.2 (lt_of_heap h.cache)) (fun e he => Nat.not_le.2 (lt_of_heap (h.cell e he)))
theorem MapW.below {w w' : World} {b : Nat} {l : List (Value × Value)} (h : MapW w b l) (hb : Below w.heap.size w w') : MapW w' b l :=
  h.keep (Chg.of_below hb) (Nat.not_le.2 h.lt)
theorem eqM (w : World) (p : Option Nat) : (binOp .eql 49 (.map p) (.map none)).run Try.prog w = .ok (.bool p.isNone) w := run_eql_map_nil w _ _ _ p Try.underlying49

set_option maxRecDepth 20000 in
set_option maxHeartbeats 1000000 in
/-- lay. -/
theorem lay_any (w : World) (F : Nat → Prop) (c B : Nat) (l : List Tx) (k v : Bs) (h : Lied w F c B l) (hno : ∀ q ∈ l, q.1 ≠ k) (hs : Short (k, v)) (hf : l.length < 1000) :
    Calls Try.prog 25 #[pt c, .string (strB k), .string (strB v)] w fun r w' => r = .returned (.tuple #[]) ∧ (∃ F', Lied w' F' c B ((k, v) :: l) ∧ ∀ i, F' i → F i ∨ w.heap.size ≤ i) ∧ Chg F w w' := by
  obtain ⟨hu, hbb, ts, mv, o, p, rfl, hr, hm, hFc, hFe⟩ := h
  have hu2 : Uniq ((k, v) :: kv ts) := uniq_cons.2 ⟨hno, hu⟩
  have hf : ts.length < 1000 := by
    have : (kv ts).length = ts.length := List.length_map ..
    omega
  have c3 := cell_of hr.cache 3
  simp at c3
  rcases hm with ⟨rfl, rfl⟩ | ⟨mb, rfl, hm, hFm0⟩
  · have e0 := eqM w none
    have f3 := thawed (heap_past (.map #[] 0) hr.cache) 3
    have d3 := cell_of (heap_past (.map #[] 0) hr.cache) 3
    simp at d3 e0
    have q1 := heap_set (heap_past (.map #[] 0) hr.cache) 3 (.map (some w.heap.size))
    obtain ⟨mb, hmb⟩ : ∃ mb, mb = w.heap.size := ⟨_, rfl⟩
    have hm0 : MapW (w.alloc (.map #[] 0)) mb (mp []) := by rw [hmb]; exact MapW.made w
    have hcm : c ≠ mb := by have := lt_of_heap hr.cache; omega
    have gv : Chg F w ((w.alloc (.map #[] 0)).setCell ⟨c, 3, none⟩ (.map (some w.heap.size))) := ((Chg.refl F w).alloc _).setCell (p := ⟨c, 3, none⟩) (Or.inl hFc) _
    have rv : RingL ((w.alloc (.map #[] 0)).setCell ⟨c, 3, none⟩ (.map (some w.heap.size))) c [] (.int .i64 (B : Int)) (.map (some mb)) o p := ⟨by rw [hmb]; exact q1, (fun e he => by cases he), hr.cyc, hr.nodup, hr.short, hr.few⟩
    have mv : MapW ((w.alloc (.map #[] 0)).setCell ⟨c, 3, none⟩ (.map (some w.heap.size))) mb (mp []) := hm0.keep ((Chg.refl (· = c) _).setCell (p := ⟨c, 3, none⟩) (Or.inl rfl) _) (fun e => hcm e.symm)
    have hFm : F mb ∨ w.heap.size ≤ mb := Or.inr (by omega)
    have HRV := hide rv
    have HMV := hide mv
    have HGV := hide gv
    clear rv mv gv q1 hm0 hr hmb
    obtain ⟨ts, hts⟩ : ∃ ts : List Ht, ts = [] := ⟨_, rfl⟩
    rw [← hts] at HRV HMV hf hFe hno hu2 ⊢
    have hmk : (Instr.makeMap 49 none).run Try.prog w = .ok (.map (some w.heap.size)) (w.alloc (.map #[] 0)) := by kernel_rfl
    unfold pt
    go_enter Try.func25, Try.ntmps25
    go_wp2_with (go_at_call 33; first | (refine (copyStr_any ((w.alloc (.map #[] 0)).setCell ⟨c, 3, none⟩ (.map (some w.heap.size))) k hs.1).mono ?_; rintro r W1 ⟨rfl, b1⟩) | (refine (copyStr_any _ v hs.2).mono ?_; rintro r W2 ⟨rfl, b2⟩))
    have r1 := HRV.out.below b1
    have m1 := HMV.out.below b1
    have r2 := r1.below b2
    have m2 := m1.below b2
    have g2 : Chg F w W2 := (HGV.out.trans (Chg.of_below b1) (fun i hi h => absurd hi (Nat.not_lt.2 (Nat.le_trans HGV.out.size h)))).trans (Chg.of_below b2) (fun i hi h => absurd hi (Nat.not_lt.2 (Nat.le_trans (Nat.le_trans HGV.out.size b1.size) h)))
    obtain ⟨t, ht⟩ : ∃ t, t = W2.heap.size := ⟨_, rfl⟩
    have hwt : w.heap.size ≤ t := by rw [ht]; exact g2.size
    have lt1 : (W2.alloc (.cells #[.string (strB k), .string (strB v), .pointer none, .pointer none] 65)).heap[t]? = some (.cells #[.string (strB k), .string (strB v), .pointer none, .pointer none] 65) := by rw [ht]; exact heap_last _ _
    have a3 : Chg (fun _ => False) W2 (W2.alloc (.cells #[.string (strB k), .string (strB v), .pointer none, .pointer none] 65)) := (Chg.refl _ _).alloc _
    have r3 := r2.keep a3 (fun h => h) (fun _ _ h => h)
    have m3 := m2.keep a3 (fun h => h)
    have g3 : Chg F w (W2.alloc (.cells #[.string (strB k), .string (strB v), .pointer none, .pointer none] 65)) := g2.alloc _
    have htn : t ∉ ns ts := fun hx => by
      obtain ⟨q, hq⟩ := r2.at hx
      have := lt_of_heap hq
      omega
    have hsz3 := lt_of_heap lt1
    rw [← ht]
    generalize W2.alloc (.cells #[.string (strB k), .string (strB v), .pointer none, .pointer none] 65) = W3 at *
    obtain ⟨W4, hp4, m4, c4, s4⟩ := (m3.same (w' := W3.drew) rfl).put_new (kstr W3.drew) (mp_keys ts) Try.underlying49 ⟨strB k, rfl⟩ (mp_ne hno) (pt t)
    have hmc : ∀ x cc tt, W3.heap[x]? = some (.cells cc tt) → x ≠ mb := fun x cc tt hx => m3.ne hx
    have r4 : RingL W4 c ts (.int .i64 (B : Int)) (.map (some mb)) o p := RingL.keep (w := W3.drew) ⟨r3.cache, r3.cell, r3.cyc, r3.nodup, r3.short, r3.few⟩ c4 (hmc _ _ _ r3.cache) (fun e he => hmc _ _ _ (r3.cell e he))
    have lt4 : W4.heap[t]? = some (txo (k, v) (.pointer none) (.pointer none)) := c4.keep (w := W3.drew) lt1 (hmc _ _ _ lt1)
    have S3 : W3.drew.cell? ⟨c, 3, none⟩ = some (.map (some mb)) ∧ W3.drew.cell? ⟨t, 0, none⟩ = some (.string (strB k)) := ⟨cell_of (w := W3.drew) r3.cache 3, cell_of (w := W3.drew) lt1 0⟩
    have S4 : W4.cell? ⟨c, 3, none⟩ = some (.map (some mb)) ∧ W4.cell? ⟨t, 0, none⟩ = some (.string (strB k)) := ⟨cell_of r4.cache 3, cell_of lt4 0⟩
    have g4 : Chg F w W4 := g3.drew.trans c4 (fun i hi h => (by subst h; exact (hFm.resolve_right (fun hx => by omega))))
    have hh := hang_ring W4 c t ts (k, v) _ _ _ _ o p r4 lt4 htn hs hf
    have hout : ¬ inRing c ((t, (k, v)) :: ts) mb := by
      rintro (e | e)
      · exact m4.ne r4.cache e.symm
      · rcases List.mem_cons.1 e with e | e
        · exact m4.ne lt4 e.symm
        · obtain ⟨x, hx, ex⟩ := List.mem_map.1 e
          exact m4.ne (r4.cell x hx) ex
    have hmlt := m4.lt
    have H3 := hide S3
    have H4 := hide S4
    have HM4 := hide m4
    have HG4 := hide g4
    have HHH := hide hh
    have hs3 : t < W4.heap.size := by rw [s4]; exact hsz3
    clear r1 m1 r2 m2 r3 m3 r4 lt1 lt4 S3 S4 m4 g4 g3 g2 hmc hh a3 c4 ht
    unfold pt at hp4
    refine wp_region_held_drew (S := fun W => W.cell? ⟨c, 3, none⟩ = some (.map (some mb)) ∧ W.cell? ⟨t, 0, none⟩ = some (.string (strB k))) (by kernel_rfl) (H3.out) (fun hHeld => ?_)
    refine takeH (i := 0) (v := ?_) rfl (by kernel_rfl) (by kernel_rfl) (by kernel_rfl) (fun _ _ _ h => h) rfl ?_ hHeld ?_
    rotate_left
    · intro w hS; (try dsimp only at hS); obtain ⟨hS0, hS1⟩ := hS; go_simp; first | done | (with_reducible rfl)
    try simp only [Act.put, List.setIfInBounds_toArray, List.set_cons_zero, List.set_cons_succ]
    refine takeH (i := 1) (v := ?_) rfl (by kernel_rfl) (by kernel_rfl) (by kernel_rfl) (fun _ _ _ h => h) rfl ?_ hHeld ?_
    rotate_left
    · intro w hS; (try dsimp only at hS); obtain ⟨hS0, hS1⟩ := hS; go_simp; first | done | (with_reducible rfl)
    try simp only [Act.put, List.setIfInBounds_toArray, List.set_cons_zero, List.set_cons_succ]
    refine takeH (i := 2) (v := ?_) rfl (by kernel_rfl) (by kernel_rfl) (by kernel_rfl) (fun _ _ _ h => h) rfl ?_ hHeld ?_
    rotate_left
    · intro w hS; (try dsimp only at hS); obtain ⟨hS0, hS1⟩ := hS; go_simp; first | done | (with_reducible rfl)
    try simp only [Act.put, List.setIfInBounds_toArray, List.set_cons_zero, List.set_cons_succ]
    refine takeH (i := 3) (v := ?_) rfl (by kernel_rfl) (by kernel_rfl) (by kernel_rfl) (fun _ _ _ h => h) rfl ?_ hHeld ?_
    rotate_left
    · intro w hS; (try dsimp only at hS); obtain ⟨hS0, hS1⟩ := hS; go_simp; first | done | (with_reducible rfl)
    try simp only [Act.put, List.setIfInBounds_toArray, List.set_cons_zero, List.set_cons_succ]
    refine takeH (i := 4) (v := ?_) rfl (by kernel_rfl) (by kernel_rfl) (by kernel_rfl) (fun _ _ _ h => h) rfl ?_ hHeld ?_
    rotate_left
    · intro w hS; (try dsimp only at hS); obtain ⟨hS0, hS1⟩ := hS; go_simp; first | done | (with_reducible rfl)
    try simp only [Act.put, List.setIfInBounds_toArray, List.set_cons_zero, List.set_cons_succ]
    refine takeH (i := 5) (v := ?_) rfl (by kernel_rfl) (by kernel_rfl) (by kernel_rfl) (fun _ _ _ h => h) rfl ?_ hHeld ?_
    rotate_left
    · intro w hS; (try dsimp only at hS); obtain ⟨hS0, hS1⟩ := hS; go_simp; first | done | (with_reducible rfl)
    try simp only [Act.put, List.setIfInBounds_toArray, List.set_cons_zero, List.set_cons_succ]
    refine takeH (i := 6) (v := ?_) rfl (by kernel_rfl) (by kernel_rfl) (by kernel_rfl) (fun _ _ _ h => h) rfl ?_ hHeld ?_
    rotate_left
    · intro w hS; (try dsimp only at hS); obtain ⟨hS0, hS1⟩ := hS; go_simp; first | done | (with_reducible rfl)
    try simp only [Act.put, List.setIfInBounds_toArray, List.set_cons_zero, List.set_cons_succ]
    refine takeH (i := 7) (v := ?_) rfl (by kernel_rfl) (by kernel_rfl) (by kernel_rfl) (fun _ _ _ h => h) rfl ?_ hHeld ?_
    rotate_left
    · intro w hS; (try dsimp only at hS); obtain ⟨hS0, hS1⟩ := hS; go_simp; first | done | (with_reducible rfl)
    try simp only [Act.put, List.setIfInBounds_toArray, List.set_cons_zero, List.set_cons_succ]
    refine takeH (i := 8) (v := ?_) rfl (by kernel_rfl) (by kernel_rfl) (by kernel_rfl) (fun _ _ _ h => h) rfl ?_ hHeld ?_
    rotate_left
    · intro w hS; (try dsimp only at hS); obtain ⟨hS0, hS1⟩ := hS; go_simp; first | done | (with_reducible rfl)
    try simp only [Act.put, List.setIfInBounds_toArray, List.set_cons_zero, List.set_cons_succ]
    refine onlyH (i := 9) rfl (by kernel_rfl) rfl (fun K hK => ?_)
    go_simp
    refine hK.out _ _ (H4.out) (fun hHeld => ?_)
    clear hK K
    try simp only [Act.put, List.setIfInBounds_toArray, List.set_cons_zero, List.set_cons_succ]
    refine wpAnyH_done (by kernel_rfl) ?_ _
    clear hHeld
    go_wp2_with fail
    refine HHH.out.mono ?_
    rintro r W5 ⟨rfl, ⟨o5, p5, r5⟩, c5, s5⟩
    go_wp2
    go_end0
    exact ⟨rfl, ⟨fun i => (F i ∨ w.heap.size ≤ i) ∧ i < W5.heap.size, ⟨hu2, ⟨hbb.1, fun i hi => hi.2⟩, (t, (k, v)) :: ts, some mb, o5, p5, rfl, r5, Or.inr ⟨mb, rfl, HM4.out.keep c5 hout, hFm, by rw [s5]; exact hmlt⟩, ⟨Or.inl hFc, lt_of_heap r5.cache⟩, fun e he => ⟨by
      rcases List.mem_cons.1 he with rfl | he
      · exact Or.inr hwt
      · exact Or.inl (hFe e he), lt_of_heap (r5.cell e he)⟩⟩, fun i hi => hi.1⟩, HG4.out.trans c5 (fun i hi h => by
      rcases h with rfl | h
      · exact hFc
      · rcases List.mem_cons.1 h with rfl | h
        · exact absurd hi (Nat.not_lt.2 hwt)
        · obtain ⟨x, hx, rfl⟩ := List.mem_map.1 h
          exact hFe x hx)⟩
  · have e0 := eqM w (some mb)
    simp at e0
    have hFm : F mb ∨ w.heap.size ≤ mb := Or.inl hFm0
    have HRV := hide hr
    have HMV := hide hm
    have HGV := hide (Chg.refl F w)
    clear hr hm
    unfold pt
    go_enter Try.func25, Try.ntmps25
    go_wp2_with (go_at_call 33; first | (refine (copyStr_any w k hs.1).mono ?_; rintro r W1 ⟨rfl, b1⟩) | (refine (copyStr_any _ v hs.2).mono ?_; rintro r W2 ⟨rfl, b2⟩))
    have r1 := HRV.out.below b1
    have m1 := HMV.out.below b1
    have r2 := r1.below b2
    have m2 := m1.below b2
    have g2 : Chg F w W2 := (HGV.out.trans (Chg.of_below b1) (fun i hi h => absurd hi (Nat.not_lt.2 (Nat.le_trans HGV.out.size h)))).trans (Chg.of_below b2) (fun i hi h => absurd hi (Nat.not_lt.2 (Nat.le_trans (Nat.le_trans HGV.out.size b1.size) h)))
    obtain ⟨t, ht⟩ : ∃ t, t = W2.heap.size := ⟨_, rfl⟩
    have hwt : w.heap.size ≤ t := by rw [ht]; exact g2.size
    have lt1 : (W2.alloc (.cells #[.string (strB k), .string (strB v), .pointer none, .pointer none] 65)).heap[t]? = some (.cells #[.string (strB k), .string (strB v), .pointer none, .pointer none] 65) := by rw [ht]; exact heap_last _ _
    have a3 : Chg (fun _ => False) W2 (W2.alloc (.cells #[.string (strB k), .string (strB v), .pointer none, .pointer none] 65)) := (Chg.refl _ _).alloc _
    have r3 := r2.keep a3 (fun h => h) (fun _ _ h => h)
    have m3 := m2.keep a3 (fun h => h)
    have g3 : Chg F w (W2.alloc (.cells #[.string (strB k), .string (strB v), .pointer none, .pointer none] 65)) := g2.alloc _
    have htn : t ∉ ns ts := fun hx => by
      obtain ⟨q, hq⟩ := r2.at hx
      have := lt_of_heap hq
      omega
    have hsz3 := lt_of_heap lt1
    rw [← ht]
    generalize W2.alloc (.cells #[.string (strB k), .string (strB v), .pointer none, .pointer none] 65) = W3 at *
    obtain ⟨W4, hp4, m4, c4, s4⟩ := (m3.same (w' := W3.drew) rfl).put_new (kstr W3.drew) (mp_keys ts) Try.underlying49 ⟨strB k, rfl⟩ (mp_ne hno) (pt t)
    have hmc : ∀ x cc tt, W3.heap[x]? = some (.cells cc tt) → x ≠ mb := fun x cc tt hx => m3.ne hx
    have r4 : RingL W4 c ts (.int .i64 (B : Int)) (.map (some mb)) o p := RingL.keep (w := W3.drew) ⟨r3.cache, r3.cell, r3.cyc, r3.nodup, r3.short, r3.few⟩ c4 (hmc _ _ _ r3.cache) (fun e he => hmc _ _ _ (r3.cell e he))
    have lt4 : W4.heap[t]? = some (txo (k, v) (.pointer none) (.pointer none)) := c4.keep (w := W3.drew) lt1 (hmc _ _ _ lt1)
    have S3 : W3.drew.cell? ⟨c, 3, none⟩ = some (.map (some mb)) ∧ W3.drew.cell? ⟨t, 0, none⟩ = some (.string (strB k)) := ⟨cell_of (w := W3.drew) r3.cache 3, cell_of (w := W3.drew) lt1 0⟩
    have S4 : W4.cell? ⟨c, 3, none⟩ = some (.map (some mb)) ∧ W4.cell? ⟨t, 0, none⟩ = some (.string (strB k)) := ⟨cell_of r4.cache 3, cell_of lt4 0⟩
    have g4 : Chg F w W4 := g3.drew.trans c4 (fun i hi h => (by subst h; exact (hFm.resolve_right (fun hx => by omega))))
    have hh := hang_ring W4 c t ts (k, v) _ _ _ _ o p r4 lt4 htn hs hf
    have hout : ¬ inRing c ((t, (k, v)) :: ts) mb := by
      rintro (e | e)
      · exact m4.ne r4.cache e.symm
      · rcases List.mem_cons.1 e with e | e
        · exact m4.ne lt4 e.symm
        · obtain ⟨x, hx, ex⟩ := List.mem_map.1 e
          exact m4.ne (r4.cell x hx) ex
    have hmlt := m4.lt
    have H3 := hide S3
    have H4 := hide S4
    have HM4 := hide m4
    have HG4 := hide g4
    have HHH := hide hh
    have hs3 : t < W4.heap.size := by rw [s4]; exact hsz3
    clear r1 m1 r2 m2 r3 m3 r4 lt1 lt4 S3 S4 m4 g4 g3 g2 hmc hh a3 c4 ht
    unfold pt at hp4
    refine wp_region_held_drew (S := fun W => W.cell? ⟨c, 3, none⟩ = some (.map (some mb)) ∧ W.cell? ⟨t, 0, none⟩ = some (.string (strB k))) (by kernel_rfl) (H3.out) (fun hHeld => ?_)
    refine takeH (i := 0) (v := ?_) rfl (by kernel_rfl) (by kernel_rfl) (by kernel_rfl) (fun _ _ _ h => h) rfl ?_ hHeld ?_
    rotate_left
    · intro w hS; (try dsimp only at hS); obtain ⟨hS0, hS1⟩ := hS; go_simp; first | done | (with_reducible rfl)
    try simp only [Act.put, List.setIfInBounds_toArray, List.set_cons_zero, List.set_cons_succ]
    refine takeH (i := 1) (v := ?_) rfl (by kernel_rfl) (by kernel_rfl) (by kernel_rfl) (fun _ _ _ h => h) rfl ?_ hHeld ?_
    rotate_left
    · intro w hS; (try dsimp only at hS); obtain ⟨hS0, hS1⟩ := hS; go_simp; first | done | (with_reducible rfl)
    try simp only [Act.put, List.setIfInBounds_toArray, List.set_cons_zero, List.set_cons_succ]
    refine takeH (i := 2) (v := ?_) rfl (by kernel_rfl) (by kernel_rfl) (by kernel_rfl) (fun _ _ _ h => h) rfl ?_ hHeld ?_
    rotate_left
    · intro w hS; (try dsimp only at hS); obtain ⟨hS0, hS1⟩ := hS; go_simp; first | done | (with_reducible rfl)
    try simp only [Act.put, List.setIfInBounds_toArray, List.set_cons_zero, List.set_cons_succ]
    refine takeH (i := 3) (v := ?_) rfl (by kernel_rfl) (by kernel_rfl) (by kernel_rfl) (fun _ _ _ h => h) rfl ?_ hHeld ?_
    rotate_left
    · intro w hS; (try dsimp only at hS); obtain ⟨hS0, hS1⟩ := hS; go_simp; first | done | (with_reducible rfl)
    try simp only [Act.put, List.setIfInBounds_toArray, List.set_cons_zero, List.set_cons_succ]
    refine takeH (i := 4) (v := ?_) rfl (by kernel_rfl) (by kernel_rfl) (by kernel_rfl) (fun _ _ _ h => h) rfl ?_ hHeld ?_
    rotate_left
    · intro w hS; (try dsimp only at hS); obtain ⟨hS0, hS1⟩ := hS; go_simp; first | done | (with_reducible rfl)
    try simp only [Act.put, List.setIfInBounds_toArray, List.set_cons_zero, List.set_cons_succ]
    refine takeH (i := 5) (v := ?_) rfl (by kernel_rfl) (by kernel_rfl) (by kernel_rfl) (fun _ _ _ h => h) rfl ?_ hHeld ?_
    rotate_left
    · intro w hS; (try dsimp only at hS); obtain ⟨hS0, hS1⟩ := hS; go_simp; first | done | (with_reducible rfl)
    try simp only [Act.put, List.setIfInBounds_toArray, List.set_cons_zero, List.set_cons_succ]
    refine takeH (i := 6) (v := ?_) rfl (by kernel_rfl) (by kernel_rfl) (by kernel_rfl) (fun _ _ _ h => h) rfl ?_ hHeld ?_
    rotate_left
    · intro w hS; (try dsimp only at hS); obtain ⟨hS0, hS1⟩ := hS; go_simp; first | done | (with_reducible rfl)
    try simp only [Act.put, List.setIfInBounds_toArray, List.set_cons_zero, List.set_cons_succ]
    refine takeH (i := 7) (v := ?_) rfl (by kernel_rfl) (by kernel_rfl) (by kernel_rfl) (fun _ _ _ h => h) rfl ?_ hHeld ?_
    rotate_left
    · intro w hS; (try dsimp only at hS); obtain ⟨hS0, hS1⟩ := hS; go_simp; first | done | (with_reducible rfl)
    try simp only [Act.put, List.setIfInBounds_toArray, List.set_cons_zero, List.set_cons_succ]
    refine takeH (i := 8) (v := ?_) rfl (by kernel_rfl) (by kernel_rfl) (by kernel_rfl) (fun _ _ _ h => h) rfl ?_ hHeld ?_
    rotate_left
    · intro w hS; (try dsimp only at hS); obtain ⟨hS0, hS1⟩ := hS; go_simp; first | done | (with_reducible rfl)
    try simp only [Act.put, List.setIfInBounds_toArray, List.set_cons_zero, List.set_cons_succ]
    refine onlyH (i := 9) rfl (by kernel_rfl) rfl (fun K hK => ?_)
    go_simp
    refine hK.out _ _ (H4.out) (fun hHeld => ?_)
    clear hK K
    try simp only [Act.put, List.setIfInBounds_toArray, List.set_cons_zero, List.set_cons_succ]
    refine wpAnyH_done (by kernel_rfl) ?_ _
    clear hHeld
    go_wp2_with fail
    refine HHH.out.mono ?_
    rintro r W5 ⟨rfl, ⟨o5, p5, r5⟩, c5, s5⟩
    go_wp2
    go_end0
    exact ⟨rfl, ⟨fun i => (F i ∨ w.heap.size ≤ i) ∧ i < W5.heap.size, ⟨hu2, ⟨hbb.1, fun i hi => hi.2⟩, (t, (k, v)) :: ts, some mb, o5, p5, rfl, r5, Or.inr ⟨mb, rfl, HM4.out.keep c5 hout, hFm, by rw [s5]; exact hmlt⟩, ⟨Or.inl hFc, lt_of_heap r5.cache⟩, fun e he => ⟨by
      rcases List.mem_cons.1 he with rfl | he
      · exact Or.inr hwt
      · exact Or.inl (hFe e he), lt_of_heap (r5.cell e he)⟩⟩, fun i hi => hi.1⟩, HG4.out.trans c5 (fun i hi h => by
      rcases h with rfl | h
      · exact hFc
      · rcases List.mem_cons.1 h with rfl | h
        · exact absurd hi (Nat.not_lt.2 hwt)
        · obtain ⟨x, hx, rfl⟩ := List.mem_map.1 h
          exact hFe x hx)⟩
end Go.Proofs.Ythhmjoafoahpbaa
