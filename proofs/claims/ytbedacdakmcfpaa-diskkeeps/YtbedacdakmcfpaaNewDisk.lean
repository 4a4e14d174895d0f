/-
  A disk that is laid anew, file by file. No condition.
-/
import Derived.Test.YtbedacdakmcfpaaMCopy
namespace Go.Proofs.Ytbedacdakmcfpaa
open Go.RowKit

def sumQ (q : Nat → Nat) (l : Dir) : Nat := (l.map fun p => q p.2).sum
/-- In wr lies a disk that was not there in w: the files of dl, each with its bytes. -/
structure New (w : World) (d2 nm : Nat) (room : Int) (sure : Option Nat) (fb : Nat → Nat) (rv : Nat → Value) (q : Nat → Nat) (cut : Nat → List UInt8) (dl : Dir) (wr : World) : Prop where
  disk : wr.heap[d2]? = some (.cells #[.int .i64 room, .int .i64 ((sumQ q dl : Nat) : Int), .map (some nm), .map sure, .slice none 0 0, .int .i64 0, .bool false, .int .i64 0, .map none] 66)
  map : MapW wr nm (dv fb dl)
  files : ∀ i ∈ ids dl, w.heap.size ≤ fb i ∧ wr.heap[fb i]? = some (.cells #[rv i, .int .i64 (q i : Int), .bool true] 95)
  inj : ∀ i ∈ ids dl, ∀ j ∈ ids dl, fb i = fb j → i = j
  rows : ∀ i ∈ ids dl, wr.ownsRow 0 5 1 (rv i) (q i) (bc (cut i)) ∧ ∀ k, (rv i).ownBlock = some k → w.heap.size ≤ k
  apart : ∀ i ∈ ids dl, ∀ j ∈ ids dl, ∀ k, (rv i).ownBlock = some k → (rv j).ownBlock = some k → i = j
  chg : Chg (fun _ => False) w wr
  newD : w.heap.size ≤ d2
  newM : w.heap.size ≤ nm

section
variable {w wr wr' : World} {d2 nm : Nat} {room : Int} {sure : Option Nat} {fb : Nat → Nat} {rv : Nat → Value} {q : Nat → Nat} {cut : Nat → List UInt8} {dl : Dir}
/-- It stays while none of its blocks is written. -/
theorem New.keep {X : Nat → Prop} (h : New w d2 nm room sure fb rv q cut dl wr) (hc : Chg X wr wr') (hX : ∀ k, X k → w.heap.size ≤ k) (h1 : ¬ X d2) (h2 : ¬ X nm) (h3 : ∀ k c t, wr.heap[k]? = some (.cells c t (0, 0)) → t = 95 ∨ t = 5 → ¬ X k) : New w d2 nm room sure fb rv q cut dl wr' where
  disk := hc.keep h.disk h1
  map := h.map.keep hc h2
  files i hi := ⟨(h.files i hi).1, hc.keep (h.files i hi).2 (h3 _ _ _ (h.files i hi).2 (Or.inl rfl))⟩
  inj := h.inj
  rows i hi := ⟨own_keep (h.rows i hi).1 hc (fun k hk => by
    obtain ⟨cur, hcur⟩ := own_block (h.rows i hi).1 hk
    exact h3 _ _ _ hcur (Or.inr rfl)), (h.rows i hi).2⟩
  apart := h.apart
  chg := h.chg.trans hc (fun i hi e => absurd hi (Nat.not_lt_of_le (hX i e)))
  newD := h.newD
  newM := h.newM

/-- One more file. -/
theorem New.add (h : New w d2 nm room sure fb rv q cut dl wr) {n : Nm} {f : Nat} (hf : f ∉ ids dl) {v : Value} {wb wc : World} (hb : Below wr.heap.size wr wb) (hv : wb.ownsRow wr.heap.size 5 1 v (q f) (bc (cut f)))
    (hm : MapW wc nm ((.string (strB n), .pointer (some ⟨wb.heap.size, 0, none⟩)) :: dv fb dl)) (hc : Chg (· = nm) (wb.alloc (.cells #[v, .int .i64 (q f : Int), .bool true] 95)) wc) :
    New w d2 nm room sure (upd fb f wb.heap.size) (upd rv f v) q cut ((n, f) :: dl) (wc.setCell ⟨d2, 1, none⟩ (.int .i64 ((sumQ q dl : Int) + (q f : Int)))) := by
  have hbs := hb.size
  have hws := h.chg.size
  have h1 : Chg (fun _ => False) wr wb := (Chg.of_below hb).mono fun k hk e => absurd hk (Nat.not_lt_of_le e)
  have h2 : Chg (fun _ => False) wr (wb.alloc (.cells #[v, .int .i64 (q f : Int), .bool true] 95)) := h1.alloc _
  have h3 : Chg (· = nm) wr wc := (h2.mono fun _ _ e => e.elim).then hc
  have h4 : Chg (fun k => k = nm ∨ k = d2) wr (wc.setCell ⟨d2, 1, none⟩ (.int .i64 ((sumQ q dl : Int) + (q f : Int)))) := Chg.setCell (F := fun k => k = nm ∨ k = d2) (h3.mono fun _ _ e => Or.inl e) (p := ⟨d2, 1, none⟩) (Or.inl (Or.inr rfl)) _
  have hdn : d2 ≠ nm := h.map.ne h.disk
  have hdc := h3.keep h.disk hdn
  have hfn := heap_last wb (.cells #[v, .int .i64 (q f : Int), .bool true] 95)
  have hlm := h.map.lt
  have hld := lt_of_heap h.disk
  have hfc := hc.keep hfn (by omega)
  have e1 : ∀ i ∈ ids ((n, f) :: dl), i = f ∨ i ∈ ids dl := fun i hi => List.mem_cons.1 hi
  have enf : ∀ i ∈ ids dl, i ≠ f := fun i hi e => hf (e ▸ hi)
  have hnX : ∀ k c t, wr.heap[k]? = some (.cells c t (0, 0)) → t = 95 ∨ t = 5 → ¬ (k = nm ∨ k = d2) := fun k c t hk ht e => by
    rcases e with rfl | rfl
    · exact h.map.ne hk rfl
    · rcases ht with rfl | rfl
      · exact ne_tag hk h.disk (show 95 ≠ 66 by decide) rfl
      · exact ne_tag hk h.disk (show 5 ≠ 66 by decide) rfl
  have hvb : ∀ k, v.ownBlock = some k → wr.heap.size ≤ k ∧ k < wb.heap.size := fun k hk => by
    rcases hv.2 with ⟨rfl, _⟩ | ⟨g, cap, cur, rfl, a1, a2, _⟩
    · cases hk
    · injection hk with hk
      subst hk
      exact ⟨a1, lt_of_heap a2⟩
  refine ⟨?_, ?_, fun i hi => ?_, fun i hi j hj e => ?_, fun i hi => ?_, fun i hi j hj k e2 e3 => ?_, ?_, h.newD, h.newM⟩
  · have := heap_set hdc 1 (.int .i64 ((sumQ q dl : Int) + (q f : Int)))
    rw [this]
    have e : ((sumQ q ((n, f) :: dl) : Nat) : Int) = (sumQ q dl : Int) + (q f : Int) := by
      unfold sumQ
      simp
      omega
    rw [e]
    rfl
  · have e : dv (upd fb f wb.heap.size) ((n, f) :: dl) = (.string (strB n), .pointer (some ⟨wb.heap.size, 0, none⟩)) :: dv fb dl := by
      unfold dv
      rw [List.map_cons, upd_same]
      congr 1
      refine List.map_congr_left fun p hp => ?_
      rw [upd_other _ _ (enf p.2 (List.mem_map.2 ⟨p, hp, rfl⟩))]
    rw [e]
    exact hm.keep (chg_set wc d2 1 _) (fun e => hdn e.symm)
  · rcases e1 i hi with rfl | hi'
    · rw [upd_same, upd_same]
      exact ⟨by omega, heap_set_other hfc (show wb.heap.size ≠ d2 by omega)⟩
    · rw [upd_other _ _ (enf i hi'), upd_other _ _ (enf i hi')]
      obtain ⟨g1, g2⟩ := h.files i hi'
      exact ⟨g1, h4.keep g2 (hnX _ _ _ g2 (Or.inl rfl))⟩
  · rcases e1 i hi with rfl | hi' <;> rcases e1 j hj with rfl | hj'
    · rfl
    · rw [upd_same, upd_other _ _ (enf j hj')] at e
      have := lt_of_heap (h.files j hj').2
      omega
    · rw [upd_same, upd_other _ _ (enf i hi')] at e
      have := lt_of_heap (h.files i hi').2
      omega
    · rw [upd_other _ _ (enf i hi'), upd_other _ _ (enf j hj')] at e
      exact h.inj i hi' j hj' e
  · rcases e1 i hi with rfl | hi'
    · rw [upd_same]
      refine ⟨ownsRow_base_le (own_keep (own_keep (hv.alloc _) hc (fun k hk e => ?_)) (chg_set wc d2 1 _) (fun k hk e => ?_)) (Nat.zero_le _), fun k hk => Nat.le_trans hws (hvb k hk).1⟩
      · have := hvb k hk
        omega
      · have := hvb k hk
        omega
    · rw [upd_other _ _ (enf i hi')]
      obtain ⟨g1, g2⟩ := h.rows i hi'
      refine ⟨own_keep g1 h4 (fun k hk => ?_), g2⟩
      obtain ⟨cur, hcur⟩ := own_block g1 hk
      exact hnX _ _ _ hcur (Or.inr rfl)
  · have old : ∀ i ∈ ids dl, ∀ k, (rv i).ownBlock = some k → k < wr.heap.size := fun i hi k hk => by
      obtain ⟨cur, hcur⟩ := own_block (h.rows i hi).1 hk
      exact lt_of_heap hcur
    rcases e1 i hi with rfl | hi' <;> rcases e1 j hj with rfl | hj'
    · rfl
    · rw [upd_same] at e2
      rw [upd_other _ _ (enf j hj')] at e3
      have := (hvb k e2).1
      have := old j hj' k e3
      omega
    · rw [upd_same] at e3
      rw [upd_other _ _ (enf i hi')] at e2
      have := (hvb k e3).1
      have := old i hi' k e2
      omega
    · rw [upd_other _ _ (enf i hi')] at e2
      rw [upd_other _ _ (enf j hj')] at e3
      exact h.apart i hi' j hj' k e2 e3
  · exact h.chg.trans h4 (fun i hi e => by
      have := h.newD
      have := h.newM
      rcases e with e | e <;> omega)
end
end Go.Proofs.Ytbedacdakmcfpaa
