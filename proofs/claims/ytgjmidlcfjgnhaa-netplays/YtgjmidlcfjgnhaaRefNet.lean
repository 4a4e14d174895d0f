/-
  The reference: Go, Come, Right. Conditions: what it holds lies there; frames within reach, not empty; fates are right.
-/
import Derived.Test.YtgjmidlcfjgnhaaRefGoes
namespace Go.Proofs.Ytgjmidlcfjgnhaa
open Go.RowKit

/-- Where the reference's parts lie. -/
structure Gr where
  vf : Value
  vt : Value
  vb : Value
def Gr.has (R : Gr) (r k : Nat) : Prop := k = r ∨ R.vf.ownBlock = some k ∨ R.vt.ownBlock = some k ∨ R.vb.ownBlock = some k
/-- The reference has this state. -/
structure RefW (w : World) (r : Nat) (fs : List Ft) (th bk : List Bs) (R : Gr) : Prop where
  ok : ∀ f ∈ fs, okF f = true ∧ I64 f.2.1
  ref : w.heap[r]? = some (rob R.vf R.vt R.vb)
  fs : Fs w R.vf fs
  th : Ts w R.vt th
  bk : Ts w R.vb bk
  nf : R.vf.ownBlock ≠ some r
  nt : R.vt.ownBlock ≠ some r
  nb : R.vb.ownBlock ≠ some r
  lt : ∀ k, R.has r k → k < w.heap.size
theorem RefW.keep {F : Nat → Prop} {w w' : World} {r : Nat} {fs : List Ft} {th bk : List Bs} {R : Gr} (h : RefW w r fs th bk R) (hc : Chg F w w') (hF : ∀ k, R.has r k → ¬ F k) : RefW w' r fs th bk R :=
  ⟨h.ok, hc.keep h.ref (hF r (.inl rfl)), h.fs.keep hc (fun k hk => hF k (.inr (.inl hk))), h.th.keep hc (fun k hk => hF k (.inr (.inr (.inl hk)))), h.bk.keep hc (fun k hk => hF k (.inr (.inr (.inr hk)))), h.nf, h.nt, h.nb, fun k hk => Nat.lt_of_lt_of_le (h.lt k hk) hc.size⟩

set_option maxRecDepth 20000 in
set_option maxHeartbeats 1000000 in
theorem rgo_any (w : World) (r : Nat) (fs : List Ft) (th bk : List Bs) (R : Gr) (s : Bs) (h : RefW w r fs th bk R) (hs : Fr s) (hl : th.length ≤ 4294967290) :
    Calls Try.prog 12 #[.pointer (some ⟨r, 0, none⟩), .string (strB s)] w fun e w' => ∃ v R', e = .returned v ∧ Own w' w.heap.size v (goP fs th s).1 ∧ RefW w' r (goP fs th s).2.1 (goP fs th s).2.2 bk R' ∧ (∀ k, R'.has r k → R.has r k ∨ w.heap.size ≤ k) ∧ (∀ k, v.ownBlock = some k → ¬ R'.has r k) ∧ Chg (· = r) w w' := by
  have hg := rgoes_any w r R.vf R.vt R.vb R.vt fs th s h.ref h.fs h.nf h.th h.nt h.ok hs hl
  have c1 := cell_of h.ref 1
  simp only [List.getElem?_toArray, List.getElem?_cons_zero, List.getElem?_cons_succ] at c1
  have htail := goP_tail fs th s
  have HH := hide h
  go_enter Try.func12, Try.ntmps12
  go_wp2_with fail
  refine hg.mono ?_
  rintro e w1 ⟨vo, vw', vf', rfl, d⟩
  have hrw := d.ref
  have c2 := cell_of hrw 1
  have t2 := thawed hrw 1
  simp only [List.getElem?_toArray, List.getElem?_cons_zero, List.getElem?_cons_succ] at c2
  have kS := chg_set w1 r 1 vw'
  have h := HH.out
  have hrlt := lt_of_heap h.ref
  have hz : w.heap.size ≤ w1.heap.size := d.chg.size
  have hlt : ∀ k, (Gr.mk vf' vw' R.vb).has r k → (R.has r k ∨ w.heap.size ≤ k) ∧ k < w1.heap.size := fun k hk => by
    rcases hk with hk | hk | hk | hk
    · exact ⟨.inl (.inl hk), by omega⟩
    · have hk : R.vf.ownBlock = some k := d.same ▸ hk
      have hh : R.has r k := .inr (.inl hk)
      exact ⟨.inl hh, by have := h.lt k hh; omega⟩
    · have hk : vw'.ownBlock = some k := hk
      rcases d.wnx k hk with hk | hk
      · have hh : R.has r k := .inr (.inr (.inl hk))
        exact ⟨.inl hh, by have := h.lt k hh; omega⟩
      · exact ⟨.inr hk.1, hk.2⟩
    · have hk : R.vb.ownBlock = some k := hk
      have hh : R.has r k := .inr (.inr (.inr hk))
      exact ⟨.inl hh, by have := h.lt k hh; omega⟩
  have hnw : vw'.ownBlock ≠ some r := fun hk => by
    rcases d.wnx r hk with hk | hk
    · exact h.nt hk
    · omega
  have HF := hide (show ∃ R', Own (w1.setCell ⟨r, 1, none⟩ vw') w.heap.size vo (goP fs th s).1 ∧ RefW (w1.setCell ⟨r, 1, none⟩ vw') r (goP fs th s).2.1 (goP fs th s).2.2 bk R' ∧ (∀ k, R'.has r k → R.has r k ∨ w.heap.size ≤ k) ∧ (∀ k, vo.ownBlock = some k → ¬ R'.has r k) ∧ Chg (· = r) w (w1.setCell ⟨r, 1, none⟩ vw') from by
    refine ⟨⟨vf', vw', R.vb⟩, d.out.keep kS (fun k hk e => by have := (own_lt d.out hk).1; omega), ⟨fun f hf => h.ok f ?_, heap_set hrw 1 vw', d.fs.keep kS (fun k hk e => h.nf (by rw [← d.same, ← e]; exact hk)), ?_, ?_, fun hk => h.nf (d.same ▸ hk), ?_, ?_, fun k hk => by have := (hlt k hk).2; simp [World.setCell]; exact this⟩, fun k hk => (hlt k hk).1, fun k hk hh => ?_, d.chg.then kS⟩
    · rw [htail] at hf
      exact List.mem_of_mem_tail hf
    · exact d.wait.keep kS (fun k hk e => hnw (e ▸ hk))
    · exact (h.bk.keep d.chg (fun k hk e => h.nb (e ▸ hk))).keep kS (fun k hk e => h.nb (e ▸ hk))
    · exact hnw
    · exact h.nb
    · have hge := (own_lt d.out hk).1
      rcases hh with hh | hh | hh | hh
      · omega
      · have hh : R.has r k := .inr (.inl (d.same ▸ hh))
        have := h.lt k hh
        omega
      · have hh : vw'.ownBlock = some k := hh
        rcases d.apart with q | q
        · rw [q] at hk; cases hk
        · rw [q] at hh; cases hh
      · have hh : R.vb.ownBlock = some k := hh
        have := h.lt k (.inr (.inr (.inr hh)))
        omega
    )
  obtain ⟨aw, cw, hvw, -⟩ := id d.wait
  subst hvw
  clear hg d hrw kS hlt hnw h c1
  go_wp2_with fail
  go_ret
  obtain ⟨R', q⟩ := HF.out
  exact ⟨_, R', rfl, q⟩

set_option maxRecDepth 20000 in
set_option maxHeartbeats 1000000 in
theorem rcome_any (w : World) (r : Nat) (fs : List Ft) (th bk : List Bs) (R : Gr) (s : Bs) (h : RefW w r fs th bk R) (hs : Fr s) (hl : bk.length ≤ 4294967290) :
    Calls Try.prog 13 #[.pointer (some ⟨r, 0, none⟩), .string (strB s)] w fun e w' => ∃ v R', e = .returned v ∧ Own w' w.heap.size v (goP fs bk s).1 ∧ RefW w' r (goP fs bk s).2.1 th (goP fs bk s).2.2 R' ∧ (∀ k, R'.has r k → R.has r k ∨ w.heap.size ≤ k) ∧ (∀ k, v.ownBlock = some k → ¬ R'.has r k) ∧ Chg (· = r) w w' := by
  have hg := rgoes_any w r R.vf R.vt R.vb R.vb fs bk s h.ref h.fs h.nf h.bk h.nb h.ok hs hl
  have c1 := cell_of h.ref 2
  simp only [List.getElem?_toArray, List.getElem?_cons_zero, List.getElem?_cons_succ] at c1
  have htail := goP_tail fs bk s
  have HH := hide h
  go_enter Try.func13, Try.ntmps13
  go_wp2_with fail
  refine hg.mono ?_
  rintro e w1 ⟨vo, vw', vf', rfl, d⟩
  have hrw := d.ref
  have c2 := cell_of hrw 2
  have t2 := thawed hrw 2
  simp only [List.getElem?_toArray, List.getElem?_cons_zero, List.getElem?_cons_succ] at c2
  have kS := chg_set w1 r 2 vw'
  have h := HH.out
  have hrlt := lt_of_heap h.ref
  have hz : w.heap.size ≤ w1.heap.size := d.chg.size
  have hlt : ∀ k, (Gr.mk vf' R.vt vw').has r k → (R.has r k ∨ w.heap.size ≤ k) ∧ k < w1.heap.size := fun k hk => by
    rcases hk with hk | hk | hk | hk
    · exact ⟨.inl (.inl hk), by omega⟩
    · have hk : R.vf.ownBlock = some k := d.same ▸ hk
      have hh : R.has r k := .inr (.inl hk)
      exact ⟨.inl hh, by have := h.lt k hh; omega⟩
    · have hk : R.vt.ownBlock = some k := hk
      have hh : R.has r k := .inr (.inr (.inl hk))
      exact ⟨.inl hh, by have := h.lt k hh; omega⟩
    · have hk : vw'.ownBlock = some k := hk
      rcases d.wnx k hk with hk | hk
      · have hh : R.has r k := .inr (.inr (.inr hk))
        exact ⟨.inl hh, by have := h.lt k hh; omega⟩
      · exact ⟨.inr hk.1, hk.2⟩
  have hnw : vw'.ownBlock ≠ some r := fun hk => by
    rcases d.wnx r hk with hk | hk
    · exact h.nb hk
    · omega
  have HF := hide (show ∃ R', Own (w1.setCell ⟨r, 2, none⟩ vw') w.heap.size vo (goP fs bk s).1 ∧ RefW (w1.setCell ⟨r, 2, none⟩ vw') r (goP fs bk s).2.1 th (goP fs bk s).2.2 R' ∧ (∀ k, R'.has r k → R.has r k ∨ w.heap.size ≤ k) ∧ (∀ k, vo.ownBlock = some k → ¬ R'.has r k) ∧ Chg (· = r) w (w1.setCell ⟨r, 2, none⟩ vw') from by
    refine ⟨⟨vf', R.vt, vw'⟩, d.out.keep kS (fun k hk e => by have := (own_lt d.out hk).1; omega), ⟨fun f hf => h.ok f ?_, heap_set hrw 2 vw', d.fs.keep kS (fun k hk e => h.nf (by rw [← d.same, ← e]; exact hk)), ?_, ?_, fun hk => h.nf (d.same ▸ hk), ?_, ?_, fun k hk => by have := (hlt k hk).2; simp [World.setCell]; exact this⟩, fun k hk => (hlt k hk).1, fun k hk hh => ?_, d.chg.then kS⟩
    · rw [htail] at hf
      exact List.mem_of_mem_tail hf
    · exact (h.th.keep d.chg (fun k hk e => h.nt (e ▸ hk))).keep kS (fun k hk e => h.nt (e ▸ hk))
    · exact d.wait.keep kS (fun k hk e => hnw (e ▸ hk))
    · exact h.nt
    · exact hnw
    · have hge := (own_lt d.out hk).1
      rcases hh with hh | hh | hh | hh
      · omega
      · have hh : R.has r k := .inr (.inl (d.same ▸ hh))
        have := h.lt k hh
        omega
      · have hh : R.vt.ownBlock = some k := hh
        have := h.lt k (.inr (.inr (.inl hh)))
        omega
      · have hh : vw'.ownBlock = some k := hh
        rcases d.apart with q | q
        · rw [q] at hk; cases hk
        · rw [q] at hh; cases hh
    )
  obtain ⟨aw, cw, hvw, -⟩ := id d.wait
  subst hvw
  clear hg d hrw kS hlt hnw h c1
  go_wp2_with fail
  go_ret
  obtain ⟨R', q⟩ := HF.out
  exact ⟨_, R', rfl, q⟩

set_option maxRecDepth 20000 in
set_option maxHeartbeats 1000000 in
theorem rright_any (w : World) (v : Value) (l : List Ft) (h : Fs w v l) (hl : l.length ≤ 4611686018427387904) :
    Calls Try.prog 10 #[v] w fun e w' => e = .returned (.bool (l.all okF)) ∧ w' = w := by
  obtain ⟨ao, cap, rfl, h1, h2, h4⟩ := h
  go_enter Try.func10, Try.ntmps10
  go_wp2
  go_loopw [3] (fun i wr => ∃ j : Nat, i = .int .i64 (j : Int) ∧ j ≤ l.length ∧ (∀ q (hq : q < l.length), q < j → okF l[q] = true) ∧ wr = w)
    (fun i _ => l.length - (intOf i).toNat)
  case atStart => exact ⟨0, rfl, by omega, (fun q _ h => by omega), rfl⟩
  case round =>
    obtain ⟨j, rfl, hj, hall, rfl⟩ := hrel
    by_cases hlt : j < l.length
    · obtain ⟨b, off, rfl, hbl, hcell⟩ := h4 (by rintro rfl; simp at hlt)
      have c0 := hcell j hlt 0 _ rfl
      simp only [Nat.add_zero] at c0
      have hall2 : okF l[j] = true → ∀ q (hq : q < l.length), q < j + 1 → okF l[q] = true := fun h q hq hqj => by
        by_cases e : q = j
        · subst e; exact h
        · exact hall q hq (by omega)
      have hno : okF l[j] = false → l.all okF = false := fun h => by
        rw [List.all_eq_false]
        exact ⟨l[j], List.getElem_mem hlt, by rw [h]; simp⟩
      have HA := hide (And.intro hall2 hno)
      clear hcell h4 hall hall2 hno
      generalize l[j] = f at *
      have hof : okF f = decide (0 ≤ f.1 ∧ f.1 ≤ 4) := rfl
      by_cases e1 : f.1 < 0
      · have q1 : decide (f.1 < 0) = true := decide_eq_true e1
        have HN := hide (HA.out.2 (by rw [hof]; exact decide_eq_false (by omega)))
        clear hof
        go_wp2_with fail
        go_ret
        exact ⟨ret_bool HN.out.symm, rfl⟩
      · have q1 : decide (f.1 < 0) = false := decide_eq_false e1
        by_cases e2 : 4 < f.1
        · have q2 : decide (4 < f.1) = true := decide_eq_true e2
          have HN := hide (HA.out.2 (by rw [hof]; exact decide_eq_false (by omega)))
          clear hof
          go_wp2_with fail
          go_ret
          exact ⟨ret_bool HN.out.symm, rfl⟩
        · have q2 : decide (4 < f.1) = false := decide_eq_false e2
          have HN := hide (HA.out.1 (by rw [hof]; exact decide_eq_true (by omega)))
          clear hof
          go_wp2_with fail
          go_roundw
          case rel => exact ⟨j + 1, by go_num, by omega, HN.out, by trivial⟩
          case measure => simp [intOf]; omega
    · obtain rfl : j = l.length := by omega
      have hok : l.all okF = true := by
        rw [List.all_eq_true]
        intro f hf
        obtain ⟨q, hq, rfl⟩ := List.getElem_of_mem hf
        exact hall q hq hq
      have HO := hide hok
      clear hall h4 hok
      go_wp2_with fail
      go_ret
      exact ⟨ret_bool HO.out.symm, rfl⟩
end Go.Proofs.Ytgjmidlcfjgnhaa
