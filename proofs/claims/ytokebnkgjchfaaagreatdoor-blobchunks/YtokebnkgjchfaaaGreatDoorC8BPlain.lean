/-
  Texts joined: BPlain, HPadded, HWords, HConsts.
-/
import Derived.Test.YtokebnkgjchfaaaGreatDoorC7OTake
import Derived.Test.YtokebnkgjchfaaaGreatDoorC4HAdd
import Derived.Deep.RegionLaw
/-
  Files as trees, plainly: what stands behind a part, going to bytes, going through all fans. No program. No condition.
-/
namespace Go.Proofs.YtokebnkgjchfaaaGreatDoor

/-- How many bytes parts have. -/
def sizeP (xs : List Part) : Int := (xs.map (·.2)).sum
theorem sizeP_nil : sizeP [] = 0 := rfl
theorem sizeP_cons (p : Part) (xs : List Part) : sizeP (p :: xs) = p.2 + sizeP xs := by simp [sizeP]
theorem sizeP_append (xs ys : List Part) : sizeP (xs ++ ys) = sizeP xs + sizeP ys := by simp [sizeP, List.sum_append]
theorem sizeP_step (xs : List Part) (k : Nat) (h : k < xs.length) : sizeP (xs.take (k + 1)) = sizeP (xs.take k) + xs[k].2 := by
  rw [List.take_succ_eq_append_getElem h, sizeP_append]
  simp [sizeP]
theorem sizeP_nonneg : ∀ (xs : List Part), (∀ p ∈ xs, 1 ≤ p.2) → 0 ≤ sizeP xs
  | [], _ => by simp [sizeP]
  | p :: r, h => by
    have h1 := sizeP_nonneg r (fun q hq => h q (by simp [hq]))
    have h2 := h p (by simp)
    rw [sizeP_cons]
    omega
theorem sizeP_split (xs : List Part) (k : Nat) : sizeP xs = sizeP (xs.take k) + sizeP (xs.drop k) := by
  rw [← sizeP_append, List.take_append_drop]
/-- Of the first ones, and one more: no more than all. -/
theorem sizeP_within (xs : List Part) (h : ∀ p ∈ xs, 1 ≤ p.2) (k : Nat) (hk : k < xs.length) : 0 ≤ sizeP (xs.take k) ∧ 1 ≤ xs[k].2 ∧ sizeP (xs.take k) + xs[k].2 ≤ sizeP xs := by
  have h1 := sizeP_nonneg (xs.take k) (fun q hq => h q (List.mem_of_mem_take hq))
  have h2 := h xs[k] (List.getElem_mem hk)
  have h3 := sizeP_split xs (k + 1)
  have h4 := sizeP_nonneg (xs.drop (k + 1)) (fun q hq => h q (List.mem_of_mem_drop hq))
  rw [sizeP_step xs k hk] at h3
  omega
theorem sizeP_many : ∀ (xs : List Part), (∀ p ∈ xs, 1 ≤ p.2) → (xs.length : Int) ≤ sizeP xs
  | [], _ => by simp [sizeP]
  | p :: r, h => by
    have h1 := sizeP_many r (fun q hq => h q (by simp [hq]))
    have h2 := h p (by simp)
    rw [sizeP_cons]
    simp
    omega

/-- What a part stands for: its level, its data, its kids. -/
abbrev Node := Int × (Bs × List Part)
def nodeOf (b : Bs) : Option Node :=
  match takenChunk b with
  | some d => some (0, d, [])
  | none => match takenFan b with
    | some f => some (f.1, [], f.2)
    | none => none
def sizeN (n : Node) : Int := n.2.1.length + sizeP n.2.2
/-- What holds of every node. -/
structure Right (n : Node) : Prop where
  lo : 0 ≤ n.1
  hi : n.1 ≤ 20
  data : n.2.1.length ≤ 1024
  none : 1 ≤ n.1 → n.2.1 = []
  kids : n.1 = 0 → n.2.2 = []
  some : 1 ≤ n.1 → 1 ≤ n.2.2.length
  most : n.2.2.length ≤ 32
  each : ∀ p ∈ n.2.2, 1 ≤ p.2
  sum : sizeP n.2.2 ≤ 262144
theorem fan_facts {f : Fan} (h : fanOk f = true) : 1 ≤ f.1 ∧ f.1 ≤ 20 ∧ 1 ≤ f.2.length ∧ f.2.length ≤ 32 ∧ (∀ p ∈ f.2, 1 ≤ p.2) ∧ sizeP f.2 ≤ 262144 := by
  simp only [fanOk, levelB, isIdB, Bool.and_eq_true, decide_eq_true_eq, List.all_eq_true] at h
  obtain ⟨⟨⟨h1, h2⟩, h3⟩, h4⟩ := h
  have h5 := (within_iff _ _ (by omega)).1 h4
  exact ⟨h1.1, h1.2, h2.1, h2.2, fun p hp => h5.1 _ (List.mem_map_of_mem hp), h5.2⟩
theorem nodeOf_right {b : Bs} {n : Node} (h : nodeOf b = some n) : Right n := by
  unfold nodeOf at h
  cases hc : takenChunk b with
  | some d =>
    rw [hc] at h
    simp only [Option.some.injEq] at h
    subst h
    have := ((takenChunk_iff b d).1 hc).1
    unfold chunkOk at this
    simp only [decide_eq_true_eq] at this
    exact ⟨by simp, by simp, this, fun h => absurd h (by simp), fun _ => rfl, fun h => absurd h (by simp), by simp, by simp, by simp [sizeP]⟩
  | none =>
    rw [hc] at h
    cases hf : takenFan b with
    | some f =>
      rw [hf] at h
      simp only [Option.some.injEq] at h
      subst h
      have g := fan_facts ((takenFan_iff b f).1 hf).1
      exact ⟨by simp only; omega, g.2.1, by simp, fun _ => rfl, fun h => by simp only at h; omega, fun _ => g.2.2.1, g.2.2.2.1, g.2.2.2.2.1, g.2.2.2.2.2⟩
    | none =>
      rw [hf] at h
      cases h
/-- The first object that has the id. -/
def findO (objs : List Pair) (id : Bs) : Option Bs := (objs.find? (fun o => o.1 == id)).map (·.2)
/-- What is answered where a part is asked for: an error's number, the node. -/
def askN (fd : Bs → Option Bs) (p : Part) (level : Int) : Int × Node :=
  match fd p.1 with
  | none => (3, 0, [], [])
  | some b => match nodeOf b with
    | none => (101, 0, [], [])
    | some n => if sizeN n = p.2 ∧ (level = -1 ∨ level = n.1) then (0, n) else (101, 0, [], [])
theorem askN_ok {fd : Bs → Option Bs} {p : Part} {level : Int} (h : (askN fd p level).1 = 0) : Right (askN fd p level).2 ∧ sizeN (askN fd p level).2 = p.2 ∧ (level = -1 ∨ level = (askN fd p level).2.1) := by
  unfold askN at h ⊢
  cases hf : fd p.1 with
  | none => rw [hf] at h; cases h
  | some b =>
    rw [hf] at h
    cases hn : nodeOf b with
    | none => simp only [hn] at h; cases h
    | some n =>
      simp only [hn] at h ⊢
      by_cases hc : sizeN n = p.2 ∧ (level = -1 ∨ level = n.1)
      · rw [if_pos hc]
        exact ⟨nodeOf_right hn, hc.1, hc.2⟩
      · rw [if_neg hc] at h
        cases h
/-- What was asked, read, met so far; the first error. -/
structure Wk where
  asked : List Bs
  data : Bs
  parts : List Part
  bad : Int
/-- One after another, each where the one ahead ends. -/
def eachP (f : Part → Int → Wk → Wk) : List Part → Int → Wk → Wk
  | [], _, s => s
  | p :: r, a, s => eachP f r (a + p.2) (f p a s)
theorem eachP_snoc (f : Part → Int → Wk → Wk) : ∀ (l : List Part) (p : Part) (a : Int) (s : Wk), eachP f (l ++ [p]) a s = f p (a + sizeP l) (eachP f l a s)
  | [], p, a, s => by simp [eachP, sizeP]
  | q :: r, p, a, s => by
    rw [List.cons_append, eachP, eachP_snoc f r p, eachP, sizeP_cons, Int.add_assoc]
theorem eachP_step (f : Part → Int → Wk → Wk) (l : List Part) (k : Nat) (h : k < l.length) (a : Int) (s : Wk) : eachP f (l.take (k + 1)) a s = f l[k] (a + sizeP (l.take k)) (eachP f (l.take k) a s) := by
  rw [List.take_succ_eq_append_getElem h, eachP_snoc]
theorem eachP_dead {f : Part → Int → Wk → Wk} (hf : ∀ p a s, s.bad ≠ 0 → f p a s = s) : ∀ (l : List Part) (a : Int) (s : Wk), s.bad ≠ 0 → eachP f l a s = s
  | [], _, _, _ => rfl
  | p :: r, a, s, h => by rw [eachP, hf p a s h, eachP_dead hf r _ s h]
theorem eachP_append (f : Part → Int → Wk → Wk) : ∀ (l m : List Part) (a : Int) (s : Wk), eachP f (l ++ m) a s = eachP f m (a + sizeP l) (eachP f l a s)
  | [], m, a, s => by simp [eachP, sizeP]
  | p :: r, m, a, s => by rw [List.cons_append, eachP, eachP_append f r m, eachP, sizeP_cons, Int.add_assoc]
/-- Once something is bad, it stays so. -/
theorem eachP_stop {f : Part → Int → Wk → Wk} (hf : ∀ p a s, s.bad ≠ 0 → f p a s = s) (l : List Part) (k : Nat) (a : Int) (s : Wk) (h : (eachP f (l.take k) a s).bad ≠ 0) : eachP f l a s = eachP f (l.take k) a s := by
  have e : eachP f l a s = eachP f (l.drop k) (a + sizeP (l.take k)) (eachP f (l.take k) a s) := by rw [← eachP_append, List.take_append_drop]
  rw [e, eachP_dead hf _ _ _ h]
/-- Going to bytes from lo up to hi, at most so many levels down. -/
def goS (fd : Bs → Option Bs) (lo hi : Int) : Nat → Part → Int → Int → Wk → Wk
  | 0, _, _, _, s => s
  | k + 1, p, a, level, s =>
    if s.bad ≠ 0 ∨ min hi (a + p.2) ≤ max lo a then s
    else if (askN fd p level).1 ≠ 0 then ⟨s.asked ++ [p.1], s.data, s.parts, (askN fd p level).1⟩
    else if (askN fd p level).2.1 = 0 then ⟨s.asked ++ [p.1], s.data ++ ((askN fd p level).2.2.1.take (min hi (a + p.2) - a).toNat).drop (max lo a - a).toNat, s.parts ++ [p], 0⟩
    else eachP (fun q b t => goS fd lo hi k q b ((askN fd p level).2.1 - 1) t) (askN fd p level).2.2.2 a ⟨s.asked ++ [p.1], s.data, s.parts, 0⟩
theorem goS_dead (fd : Bs → Option Bs) (lo hi : Int) (k : Nat) (p : Part) (a level : Int) (s : Wk) (h : s.bad ≠ 0) : goS fd lo hi k p a level s = s := by
  cases k with
  | zero => rfl
  | succ k => rw [goS, if_pos (.inl h)]
/-- Going through all fans: the parts of level 0. -/
def chS (fd : Bs → Option Bs) : Nat → Part → Int → Wk → Wk
  | 0, _, _, s => s
  | k + 1, p, level, s =>
    if s.bad ≠ 0 then s
    else if (askN fd p level).1 ≠ 0 then ⟨s.asked ++ [p.1], s.data, s.parts, (askN fd p level).1⟩
    else if (askN fd p level).2.1 = 0 then ⟨s.asked ++ [p.1], s.data, s.parts ++ [p], 0⟩
    else if (askN fd p level).2.1 = 1 then ⟨s.asked ++ [p.1], s.data, s.parts ++ (askN fd p level).2.2.2, 0⟩
    else eachP (fun q _ t => chS fd k q ((askN fd p level).2.1 - 1) t) (askN fd p level).2.2.2 0 ⟨s.asked ++ [p.1], s.data, s.parts, 0⟩
theorem chS_dead (fd : Bs → Option Bs) (k : Nat) (p : Part) (level : Int) (s : Wk) (h : s.bad ≠ 0) : chS fd k p level s = s := by
  cases k with
  | zero => rfl
  | succ k => rw [chS, if_pos h]
/-- No more than so many more. -/
def Grows (s t : Wk) (n m : Nat) : Prop := t.asked.length ≤ s.asked.length + n ∧ t.data.length ≤ s.data.length + m ∧ t.parts.length ≤ s.parts.length + m
theorem Grows.trans {s t u : Wk} {n m n' m' : Nat} (h : Grows s t n m) (k : Grows t u n' m') : Grows s u (n + n') (m + m') := ⟨by have := h.1; have := k.1; omega, by have := h.2.1; have := k.2.1; omega, by have := h.2.2; have := k.2.2; omega⟩
theorem Grows.refl (s : Wk) : Grows s s 0 0 := ⟨by omega, by omega, by omega⟩
theorem Grows.le {s t : Wk} {n m n' m' : Nat} (h : Grows s t n m) (h1 : n ≤ n') (h2 : m ≤ m') : Grows s t n' m' := ⟨by have := h.1; omega, by have := h.2.1; omega, by have := h.2.2; omega⟩
theorem eachP_grows {f : Part → Int → Wk → Wk} {c : Nat} (hf : ∀ p a s, 1 ≤ p.2 → Grows s (f p a s) (c * p.2.toNat) p.2.toNat) : ∀ (l : List Part) (a : Int) (s : Wk), (∀ p ∈ l, 1 ≤ p.2) → Grows s (eachP f l a s) (c * (sizeP l).toNat) (sizeP l).toNat
  | [], a, s, _ => by simp only [eachP, sizeP_nil]; exact (Grows.refl s).le (by simp) (by simp)
  | p :: r, a, s, h => by
    have h1 := hf p a s (h p (by simp))
    have h2 := eachP_grows hf r (a + p.2) (f p a s) (fun q hq => h q (by simp [hq]))
    have h3 := sizeP_nonneg r (fun q hq => h q (by simp [hq]))
    have h4 := h p (by simp)
    rw [eachP, sizeP_cons]
    have e : (p.2 + sizeP r).toNat = p.2.toNat + (sizeP r).toNat := by omega
    rw [e, Nat.mul_add]
    exact h1.trans h2
theorem goS_grows (fd : Bs → Option Bs) (lo hi : Int) : ∀ (k : Nat) (p : Part) (a level : Int) (s : Wk), 1 ≤ p.2 → Grows s (goS fd lo hi k p a level s) (k * p.2.toNat) p.2.toNat
  | 0, p, a, level, s, _ => by simp only [goS]; exact (Grows.refl s).le (by simp) (by simp)
  | k + 1, p, a, level, s, hp => by
    rw [goS]
    have hk : (k + 1) * p.2.toNat = k * p.2.toNat + p.2.toNat := by rw [Nat.add_mul]; simp
    by_cases h1 : s.bad ≠ 0 ∨ min hi (a + p.2) ≤ max lo a
    · rw [if_pos h1]; exact (Grows.refl s).le (by simp) (by simp)
    · rw [if_neg h1]
      by_cases h2 : (askN fd p level).1 ≠ 0
      · rw [if_pos h2]
        exact ⟨by simp only [List.length_append, List.length_singleton]; omega, by simp only; omega, by simp only; omega⟩
      · rw [if_neg h2]
        obtain ⟨g1, g2, -⟩ := askN_ok (by simpa using h2)
        generalize (askN fd p level).2 = n at *
        by_cases h3 : n.1 = 0
        · rw [if_pos h3]
          have g3 := g1.kids h3
          unfold sizeN at g2
          rw [g3, sizeP_nil] at g2
          refine ⟨by simp only [List.length_append, List.length_singleton]; omega, ?_, by simp only [List.length_append, List.length_singleton]; omega⟩
          simp only [List.length_append, List.length_drop, List.length_take]
          omega
        · rw [if_neg h3]
          have h4 : 1 ≤ n.1 := by have := g1.lo; omega
          have g3 := g1.none h4
          unfold sizeN at g2
          rw [g3] at g2
          simp only [List.length_nil] at g2
          have h5 := eachP_grows (f := fun q b t => goS fd lo hi k q b (n.1 - 1) t) (c := k) (fun q b t hq => goS_grows fd lo hi k q b (n.1 - 1) t hq) n.2.2 a ⟨s.asked ++ [p.1], s.data, s.parts, 0⟩ g1.each
          have e : sizeP n.2.2 = p.2 := by omega
          rw [e] at h5
          obtain ⟨x1, x2, x3⟩ := h5
          simp only [List.length_append, List.length_singleton] at x1 x2 x3
          exact ⟨by omega, x2, x3⟩
theorem chS_grows (fd : Bs → Option Bs) : ∀ (k : Nat) (p : Part) (level : Int) (s : Wk), 1 ≤ p.2 → Grows s (chS fd k p level s) (k * p.2.toNat) p.2.toNat
  | 0, p, level, s, _ => by simp only [chS]; exact (Grows.refl s).le (by simp) (by simp)
  | k + 1, p, level, s, hp => by
    rw [chS]
    have hk : (k + 1) * p.2.toNat = k * p.2.toNat + p.2.toNat := by rw [Nat.add_mul]; simp
    by_cases h1 : s.bad ≠ 0
    · rw [if_pos h1]; exact (Grows.refl s).le (by simp) (by simp)
    · rw [if_neg h1]
      by_cases h2 : (askN fd p level).1 ≠ 0
      · rw [if_pos h2]
        exact ⟨by simp only [List.length_append, List.length_singleton]; omega, by simp only; omega, by simp only; omega⟩
      · rw [if_neg h2]
        obtain ⟨g1, g2, -⟩ := askN_ok (by simpa using h2)
        generalize (askN fd p level).2 = n at *
        by_cases h3 : n.1 = 0
        · rw [if_pos h3]
          exact ⟨by simp only [List.length_append, List.length_singleton]; omega, by simp only; omega, by simp only [List.length_append, List.length_singleton]; omega⟩
        · rw [if_neg h3]
          have h4 : 1 ≤ n.1 := by have := g1.lo; omega
          have g3 := g1.none h4
          unfold sizeN at g2
          rw [g3] at g2
          simp only [List.length_nil] at g2
          have e : sizeP n.2.2 = p.2 := by omega
          by_cases h5 : n.1 = 1
          · rw [if_pos h5]
            have h6 := sizeP_many _ g1.each
            exact ⟨by simp only [List.length_append, List.length_singleton]; omega, by simp only; omega, by simp only [List.length_append]; omega⟩
          · rw [if_neg h5]
            have h6 := eachP_grows (f := fun q _ t => chS fd k q (n.1 - 1) t) (c := k) (fun q _ t hq => chS_grows fd k q (n.1 - 1) t hq) n.2.2 0 ⟨s.asked ++ [p.1], s.data, s.parts, 0⟩ g1.each
            rw [e] at h6
            obtain ⟨x1, x2, x3⟩ := h6
            simp only [List.length_append, List.length_singleton] at x1 x2 x3
            exact ⟨by omega, x2, x3⟩
end Go.Proofs.YtokebnkgjchfaaaGreatDoor

/-
  What the reference's padding answers. Condition: at most 1048576 bytes.
-/
namespace Go.Proofs.YtokebnkgjchfaaaGreatDoor
open Go.RowKit

end Go.Proofs.YtokebnkgjchfaaaGreatDoor

/-
  What the reference's words of a block, and its constants, answer. Condition: a slice of sixty-four bytes.
-/
namespace Go.Proofs.YtokebnkgjchfaaaGreatDoor
open Go.RowKit

/-- What making words finds in memory: the numbers so far, noughts behind them. -/
def SW (w : World) (L : List UInt32) (wr : World) : Prop := Below w.heap.size w wr ∧ (∃ z, wr.heap[w.heap.size]? = some (.cells z 149) ∧ z.size = 64) ∧ wr.heap[w.heap.size + 1]? = some (.cells (uc (L ++ List.replicate (64 - L.length) 0)) 149)

theorem SW.store {w : World} {L : List UInt32} {wr : World} (h : SW w L wr) (hL : L.length < 64) (k : Nat) (hk : L.length = k) (x : UInt32) : SW w (L ++ [x]) (wr.setCell ⟨w.heap.size + 1, k, none⟩ (.int .u32 (u x))) := by
  subst hk
  obtain ⟨h1, ⟨z, h3, h3'⟩, h4⟩ := h
  have hb : Below (w.heap.size + 1) wr (wr.setCell ⟨w.heap.size + 1, L.length, none⟩ (.int .u32 (u x))) := (Below.refl _ _).setCell (p := ⟨w.heap.size + 1, L.length, none⟩) (Nat.le_refl _) _
  refine ⟨h1.setCell (p := ⟨w.heap.size + 1, L.length, none⟩) (by simp) _, ⟨z, (hb.block _ (by omega)).trans h3, h3'⟩, ?_⟩
  rw [heap_setCell _ _ _ _ _ _ _ h4, uc_set L x 64 hL]
theorem SW.drew {w : World} {L : List UInt32} {wr : World} (h : SW w L wr) : SW w L wr.drew := by
  obtain ⟨h1, h3, h4⟩ := h
  exact ⟨h1.drew, h3, h4⟩
theorem SW.get {w : World} {L : List UInt32} {wr : World} (h : SW w L wr) (k : Nat) (hk : k < L.length) : wr.cell? ⟨w.heap.size + 1, k, none⟩ = some (.int .u32 (u (L.getD k 0))) := by
  rw [cell_of_row _ _ _ _ _ _ h.2.2, uc_get _ _ (by simp; omega)]
  simp [List.getD, List.getElem?_append_left hk]
theorem SW.room {w : World} {L : List UInt32} {wr : World} (h : SW w L wr) (k : Nat) (hk : L.length = k) (hL : k < 64) : wr.cell? ⟨w.heap.size + 1, k, none⟩ = some (.int .u32 (u 0)) ∧ wr.frozen? ⟨w.heap.size + 1, k, none⟩ = false := by
  subst hk
  constructor
  · rw [cell_of_row _ _ _ _ _ _ h.2.2, uc_get _ _ (by simp; omega)]
    obtain ⟨m, hm⟩ : ∃ m, 64 - L.length = m + 1 := ⟨64 - L.length - 1, by omega⟩
    simp [List.getD, hm, List.replicate_succ]
  · simp [World.frozen?, h.2.2]

end Go.Proofs.YtokebnkgjchfaaaGreatDoor

/-
  What the reference's constants answer. No condition.
-/
namespace Go.Proofs.YtokebnkgjchfaaaGreatDoor
open Go.RowKit

end Go.Proofs.YtokebnkgjchfaaaGreatDoor
