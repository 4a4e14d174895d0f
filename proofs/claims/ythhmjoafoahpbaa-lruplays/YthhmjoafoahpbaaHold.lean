/-
  A ring of texts in memory; what hang, unhang, use make of it. Conditions: lengths within reach.
-/
import Derived.Test.YthhmjoafoahpbaaRing
namespace Go.Proofs.Ythhmjoafoahpbaa
open Go.RowKit

abbrev Ht := Nat × Tx
def ns (ts : List Ht) : List Nat := ts.map (·.1)
def kv (ts : List Ht) : List Tx := ts.map (·.2)
def lastv : List Ht → Value
  | [] => .pointer none
  | e :: _ => pt e.1
theorem kv_append (a b : List Ht) : kv (a ++ b) = kv a ++ kv b := List.map_append
theorem kv_cons (e : Ht) (b : List Ht) : kv (e :: b) = e.2 :: kv b := rfl
theorem ns_append (a b : List Ht) : ns (a ++ b) = ns a ++ ns b := List.map_append
theorem ns_cons (e : Ht) (b : List Ht) : ns (e :: b) = e.1 :: ns b := rfl
theorem mem_ns {e : Ht} {ts : List Ht} (h : e ∈ ts) : e.1 ∈ ns ts := List.mem_map.2 ⟨e, h, rfl⟩
def Short (p : Tx) : Prop := p.1.length ≤ 140737488351232 ∧ p.2.length ≤ 140737488351232
theorem tot_small {l : List Tx} (h : ∀ p ∈ l, Short p) : tot l ≤ l.length * 281474976702464 := by
  induction l with
  | nil => simp [tot]
  | cons p r ih =>
    have h1 := h p (by simp)
    have h2 := ih (fun q hq => h q (by simp [hq]))
    unfold Short at h1
    simp only [tot, wt, List.length_cons]
    omega

/-- A ring of these texts hangs in the cache c. -/
structure RingL (w : World) (c : Nat) (ts : List Ht) (bud tx : Value) (o p : Nat → Nat) : Prop where
  cache : w.heap[c]? = some (.cells #[lastv ts, .int .i64 (tot (kv ts) : Int), bud, tx] 51)
  cell : ∀ e ∈ ts, w.heap[e.1]? = some (txo e.2 (pt (o e.1)) (pt (p e.1)))
  cyc : Cyc (ns ts) o p
  nodup : (ns ts).Nodup
  short : ∀ e ∈ ts, Short e.2
  few : ts.length ≤ 1000
def inRing (c : Nat) (ts : List Ht) (k : Nat) : Prop := k = c ∨ k ∈ ns ts

theorem cyc_in {ns : List Nat} {o p : Nat → Nat} (h : Cyc ns o p) {t : Nat} (ht : t ∈ ns) : o t ∈ ns ∧ p t ∈ ns := by
  obtain ⟨i, hi, rfl⟩ := List.getElem_of_mem ht
  have := h i hi
  have e : ns.getD i 0 = ns[i] := by rw [List.getD_eq_getElem?_getD, List.getElem?_eq_getElem hi]; rfl
  rw [e] at this
  rw [this.1, this.2]
  exact ⟨getD_mem (by unfold nx; split <;> omega), getD_mem (by unfold pv; split <;> omega)⟩
theorem cyc_alone {ns : List Nat} {o p : Nat → Nat} (h : Cyc ns o p) (hn : ns.Nodup) {t : Nat} (ht : t ∈ ns) : (o t = t ↔ ns = [t]) ∧ (p t = t ↔ ns = [t]) := by
  obtain ⟨i, hi, rfl⟩ := List.getElem_of_mem ht
  have h1 := h i hi
  have e : ns.getD i 0 = ns[i] := by rw [List.getD_eq_getElem?_getD, List.getElem?_eq_getElem hi]; rfl
  rw [e] at h1
  have hone : ns.length = 1 → ns = [ns[i]] := fun hl => by
    match ns, hl, hi with
    | [x], _, hi =>
      have : i = 0 := by simpa using hi
      subst this
      rfl
  refine ⟨⟨fun he => ?_, fun he => ?_⟩, ⟨fun he => ?_, fun he => ?_⟩⟩
  · rw [h1.1, ← e] at he
    have := getD_inj hn (by unfold nx; split <;> omega) hi he
    refine hone ?_
    unfold nx at this
    split at this <;> omega
  · have hl : ns.length = 1 := by rw [he]; rfl
    rw [h1.1, ← e]
    congr 1
    unfold nx
    rw [if_pos (by omega)]
    omega
  · rw [h1.2, ← e] at he
    have := getD_inj hn (by unfold pv; split <;> omega) hi he
    refine hone ?_
    unfold pv at this
    split at this <;> omega
  · have hl : ns.length = 1 := by rw [he]; rfl
    rw [h1.2, ← e]
    congr 1
    unfold pv
    rw [if_pos (by omega)]
    omega
theorem RingL.at {w : World} {c : Nat} {ts : List Ht} {bud tx : Value} {o p : Nat → Nat} (h : RingL w c ts bud tx o p) {t : Nat} (ht : t ∈ ns ts) : ∃ q, w.heap[t]? = some (txo q (pt (o t)) (pt (p t))) := by
  obtain ⟨e, he, rfl⟩ := List.mem_map.1 ht
  exact ⟨e.2, h.cell e he⟩
theorem RingL.tot_le {w : World} {c : Nat} {ts : List Ht} {bud tx : Value} {o p : Nat → Nat} (h : RingL w c ts bud tx o p) : tot (kv ts) ≤ 281474976702464000 := by
  have h1 := tot_small (l := kv ts) (fun q hq => by obtain ⟨e, he, rfl⟩ := List.mem_map.1 hq; exact h.short e he)
  have h2 := h.few
  have h3 : (kv ts).length = ts.length := List.length_map ..
  rw [h3] at h1
  have := Nat.mul_le_mul_right 281474976702464 h2
  omega

/-- unhang. -/
theorem unhang_ring (w : World) (c : Nat) (a b : List Ht) (e : Ht) (bud tx : Value) (o p : Nat → Nat) (h : RingL w c (a ++ e :: b) bud tx o p) :
    Calls Try.prog 32 #[pt c, pt e.1] w fun r w' => r = .returned (.tuple #[]) ∧ (∃ o' p', RingL w' c (a ++ b) bud tx o' p') ∧ w'.heap[e.1]? = some (txo e.2 (.pointer none) (.pointer none)) ∧
      Chg (inRing c (a ++ e :: b)) w w' ∧ w'.heap.size = w.heap.size := by
  have hin : e.1 ∈ ns (a ++ e :: b) := mem_ns (by simp)
  obtain ⟨ho, hp⟩ := cyc_in h.cyc hin
  obtain ⟨al1, al2⟩ := cyc_alone h.cyc h.nodup hin
  obtain ⟨l, hl, hlin⟩ : ∃ l, lastv (a ++ e :: b) = pt l ∧ l ∈ ns (a ++ e :: b) := by
    cases a with
    | nil => exact ⟨e.1, rfl, hin⟩
    | cons x r => exact ⟨x.1, rfl, mem_ns (by simp)⟩
  have hc := h.cache
  rw [hl] at hc
  have ht := h.cell e (by simp)
  have hs := h.short e (by simp)
  have htot := h.tot_le
  have hmid : tot (kv (a ++ e :: b)) = tot (kv (a ++ b)) + wt e.2 := by
    rw [kv_append, kv_append, kv_cons]
    exact tot_mid _ _ _
  obtain ⟨qo, hqo⟩ := h.at ho
  obtain ⟨qp, hqp⟩ := h.at hp
  obtain ⟨ql, hql⟩ := h.at hlin
  refine (unhang_raw w c e.1 (o e.1) (p e.1) e.2 l _ bud tx hc ht ⟨_, _, _, hqo⟩ ⟨_, _, _, hqp⟩ ⟨_, _, _, hql⟩ (al1.trans al2.symm) hs.1 hs.2 (by omega) (by omega)).mono ?_
  rintro r w' ⟨rfl, k1, k2, k3, k4, k5⟩
  have hnd := h.nodup
  have hcy := h.cyc
  rw [ns_append, ns_cons] at hnd hcy
  have hnot : ∀ x ∈ a ++ b, x.1 ≠ e.1 := fun x hx ex => by
    have hnd' := hnd
    rw [List.nodup_append] at hnd'
    obtain ⟨_, n2, n3⟩ := hnd'
    rcases List.mem_append.1 hx with hx | hx
    · exact n3 x.1 (mem_ns hx) e.1 (by simp) ex
    · rw [List.nodup_cons] at n2
      rw [← ex] at n2
      exact n2.1 (mem_ns hx)
  refine ⟨rfl, ⟨upd o (p e.1) (o e.1), upd p (o e.1) (p e.1), ?_⟩, k2, k4.mono ?_, k5⟩
  · refine ⟨?_, ?_, ?_, ?_, ?_, ?_⟩
    · rw [k1]
      have hw : ((tot (kv (a ++ e :: b)) : Nat) : Int) - (wt e.2 : Int) = (tot (kv (a ++ b)) : Nat) := by omega
      rw [hw]
      have hv : (if o e.1 = e.1 then Value.pointer none else if l = e.1 then pt (o e.1) else pt l) = lastv (a ++ b) := by
        cases a with
        | nil =>
          obtain rfl : e.1 = l := by simp [lastv, pt] at hl; exact hl
          cases b with
          | nil =>
            rw [if_pos (al1.2 rfl)]
            rfl
          | cons y r =>
            have : o e.1 ≠ e.1 := fun x => by
              have := al1.1 x
              simp [ns] at this
            rw [if_neg this, if_pos rfl]
            have := (h.cyc 0 (by simp [ns])).1
            have e0 : (ns ([] ++ e :: y :: r)).getD 0 0 = e.1 := rfl
            rw [e0] at this
            rw [this]
            unfold nx
            rw [if_neg (by simp [ns])]
            rfl
        | cons x r =>
          obtain rfl : x.1 = l := by simp [lastv, pt] at hl; exact hl
          have h1 : x.1 ≠ e.1 := hnot x (by simp)
          have : o e.1 ≠ e.1 := fun y => by
            have := al1.1 y
            simp [ns] at this
          rw [if_neg this, if_neg h1]
          rfl
      rw [hv]
    · intro x hx
      have hx' : x ∈ a ++ e :: b := by
        rcases List.mem_append.1 hx with m | m
        · simp [m]
        · simp [m]
      exact k3 x.1 x.2 _ _ (hnot x hx) (h.cell x hx')
    · rw [ns_append]
      exact hcy.out hnd
    · rw [ns_append]
      refine List.Sublist.nodup ?_ hnd
      exact (List.Sublist.refl _).append (List.sublist_cons_self _ _)
    · intro x hx
      refine h.short x ?_
      rcases List.mem_append.1 hx with m | m
      · simp [m]
      · simp [m]
    · have := h.few
      simp at this ⊢
      omega
  · intro i _ hi
    rcases hi with rfl | rfl | rfl | rfl
    · exact Or.inl rfl
    · exact Or.inr hin
    · exact Or.inr ho
    · exact Or.inr hp

/-- hang. -/
theorem hang_ring (w : World) (c t : Nat) (ts : List Ht) (q : Tx) (x y bud tx : Value) (o p : Nat → Nat) (h : RingL w c ts bud tx o p) (ht : w.heap[t]? = some (txo q x y)) (hn : t ∉ ns ts) (hs : Short q) (hf : ts.length < 1000) :
    Calls Try.prog 34 #[pt c, pt t] w fun r w' => r = .returned (.tuple #[]) ∧ (∃ o' p', RingL w' c ((t, q) :: ts) bud tx o' p') ∧ Chg (inRing c ((t, q) :: ts)) w w' ∧ w'.heap.size = w.heap.size := by
  have hc := h.cache
  have htot := h.tot_le
  cases ts with
  | nil =>
    refine (hang_none w c t q _ x y bud tx hc ht hs.1 hs.2 (by omega) (by omega)).mono ?_
    rintro r w' ⟨rfl, k1, k2, k3, k4⟩
    refine ⟨rfl, ⟨fun _ => t, fun _ => t, ⟨?_, ?_, Cyc.one t rfl rfl, by simp [ns], ?_, by simp⟩⟩, k3.mono ?_, k4⟩
    · rw [k1]
      simp [lastv, kv, tot]
    · intro e he
      obtain rfl : e = (t, q) := by simpa using he
      exact k2
    · intro e he
      obtain rfl : e = (t, q) := by simpa using he
      exact hs
    · rintro i _ (rfl | rfl)
      · exact Or.inl rfl
      · exact Or.inr (by simp [ns])
  | cons e r =>
    have hin : e.1 ∈ ns (e :: r) := mem_ns (by simp)
    obtain ⟨_, hp⟩ := cyc_in h.cyc hin
    obtain ⟨qz, hqz⟩ := h.at hp
    refine (hang_some w c t e.1 (p e.1) q e.2 qz _ x y _ _ bud tx _ hc ht (h.cell e (by simp)) hqz (fun z => hn (z ▸ hin)) (fun z => hn (z ▸ hp)) hs.1 hs.2 (by omega) (by omega)).mono ?_
    rintro r' w' ⟨rfl, k1, k2, k3, k4, k5⟩
    have hnd : (t :: e.1 :: ns r).Nodup := List.nodup_cons.2 ⟨hn, h.nodup⟩
    have hcy : Cyc (e.1 :: ns r) o p := h.cyc
    refine ⟨rfl, ⟨upd (upd o (p e.1) t) t e.1, upd (upd p e.1 t) t (p e.1), ⟨?_, ?_, ?_, hnd, ?_, by simp at hf ⊢; omega⟩⟩, k4.mono ?_, k5⟩
    · rw [k1]
      have : ((tot (kv (e :: r)) : Nat) : Int) + (wt q : Int) = (tot (kv ((t, q) :: e :: r)) : Nat) := by
        rw [kv_cons (t, q)]
        simp only [tot]
        omega
      rw [this]
      rfl
    · intro z hz
      rcases List.mem_cons.1 hz with rfl | hz
      · rw [k2]
        unfold upd
        rw [if_pos rfl, if_pos rfl]
      · have hzt : z.1 ≠ t := fun ee => hn (ee ▸ mem_ns hz)
        have := k3 z.1 z.2 _ _ hzt (h.cell z hz)
        rw [this]
        unfold upd
        rw [if_neg hzt, if_neg hzt]
    · exact hcy.hung hnd
    · intro z hz
      rcases List.mem_cons.1 hz with rfl | hz
      · exact hs
      · exact h.short z hz
    · rintro i _ (rfl | rfl | rfl | rfl)
      · exact Or.inl rfl
      · exact Or.inr (by simp [ns])
      · exact Or.inr (by simp [ns])
      · exact Or.inr (List.mem_cons_of_mem _ hp)

set_option maxRecDepth 20000 in
/-- use. -/
theorem use_ring (w : World) (c : Nat) (a b : List Ht) (e : Ht) (bud tx : Value) (o p : Nat → Nat) (h : RingL w c (a ++ e :: b) bud tx o p) :
    Calls Try.prog 30 #[pt c, pt e.1] w fun r w' => r = .returned (.tuple #[]) ∧ (∃ o' p', RingL w' c (e :: (a ++ b)) bud tx o' p') ∧ Chg (inRing c (a ++ e :: b)) w w' ∧ w'.heap.size = w.heap.size := by
  have h1 := unhang_ring w c a b e bud tx o p h
  have hnd := h.nodup
  rw [ns_append, ns_cons] at hnd
  have hnot : e.1 ∉ ns (a ++ b) := by
    rw [List.nodup_append] at hnd
    obtain ⟨_, n2, n3⟩ := hnd
    rw [ns_append]
    intro hx
    rcases List.mem_append.1 hx with hx | hx
    · exact n3 _ hx e.1 (by simp) rfl
    · exact (List.nodup_cons.1 n2).1 hx
  have hs := h.short e (by simp)
  have hf := h.few
  unfold pt at h1 ⊢
  clear h hnd
  go_enter Try.func30, Try.ntmps30
  go_wp2_with fail
  refine h1.mono ?_
  rintro r w1 ⟨rfl, ⟨o1, p1, hr1⟩, k1, k2, k3⟩
  have h2 := hang_ring w1 c e.1 (a ++ b) e.2 _ _ bud tx o1 p1 hr1 k1 hnot hs (by simp at hf ⊢; omega)
  unfold pt at h2
  go_wp2_with fail
  refine h2.mono ?_
  rintro r w2 ⟨rfl, hr2, k4, k5⟩
  go_wp2
  go_end0
  refine ⟨rfl, hr2, k2.trans k4 (fun i _ hi => ?_), k5.trans k3⟩
  rcases hi with rfl | hi
  · exact Or.inl rfl
  · refine Or.inr ?_
    rw [ns_append, ns_cons]
    rw [ns_cons, ns_append] at hi
    simp at hi ⊢
    rcases hi with h | h | h
    · exact Or.inr (Or.inl h)
    · exact Or.inl h
    · exact Or.inr (Or.inr h)
end Go.Proofs.Ythhmjoafoahpbaa
