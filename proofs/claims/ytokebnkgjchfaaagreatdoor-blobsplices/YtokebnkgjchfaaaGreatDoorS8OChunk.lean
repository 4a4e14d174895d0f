/-
  Texts joined: OChunk, BPlain, HPadded, HWords, HConsts.
-/
import Derived.Test.YtokebnkgjchfaaaGreatDoorS7OTake
import Derived.Test.YtokebnkgjchfaaaGreatDoorS4HAdd
import Derived.Deep.RegionLaw
/-
  Objects of parts; chunks made and read. Conditions: the table holds its numbers; lengths within reach.
-/
namespace Go.Proofs.YtokebnkgjchfaaaGreatDoor
open Go.RowKit

set_option maxRecDepth 20000 in
theorem of_any (w : World) (v : Value) (ps : List Bs) (hv : Ls w.heap.size w 1 idC v ps) (hT : TabW w) (hsz : ps.flatten.length ≤ 140737488355328) :
    Calls Tryz.prog 69 #[v] w fun e w' => e = .returned (objV ps.flatten) ∧ Below w.heap.size w w' := by
  have h0 := hT.1
  have hb0 : Below w.heap.size w (w.alloc (.cells #[.string ⟨#[]⟩, .string ⟨#[]⟩] 57)) := (Below.refl _ _).alloc (Nat.le_refl _) _
  have hx0 := heap_last w (.cells #[.string ⟨#[]⟩, .string ⟨#[]⟩] 57) _ rfl
  have hw := write_any _ v ps (hv.past hb0) hsz
  have hob : ∀ (W : World) (g : Nat) (u : Value), W.cell? ⟨g, 0, none⟩ = some u → Sl W u ps.flatten → g < W.heap.size → TabW W → Calls Tryz.prog 75 #[.pointer (some ⟨g, 0, none⟩)] W fun e w' => e = .returned (objV ps.flatten) ∧ Below W.heap.size W w' := fun W g u h1 h2 h3 h4 => object_any W g u _ h1 h2 h3 h4 hsz
  rw [objV_def] at hob ⊢
  generalize sha ps.flatten = S at *
  have hn0 : (w.alloc (.cells #[.string ⟨#[]⟩, .string ⟨#[]⟩] 57)).heap.size = w.heap.size + 1 := by simp
  generalize hw0 : w.alloc (.cells #[.string ⟨#[]⟩, .string ⟨#[]⟩] 57) = w0 at *
  obtain ⟨ao, cap, rfl, -⟩ := hv
  go_enter Tryz.func69, Tryz.ntmps69
  go_wp2_with fail
  try rw [hw0]
  refine hw.mono ?_
  rintro e w1 ⟨g, rfl, hW1, hb1⟩
  have hx1 := (hb1.block _ (lt_of_heap hx0)).trans hx0
  have hB1 := hb0.trans (hb1.mono hb0.size)
  obtain ⟨u4, hc4, hsl4⟩ := hW1.sl
  have hOB := hob w1 g u4 hc4 hsl4 hW1.lt (hT.keep hB1 h0)
  clear hw hb1 hW1 hob hc4 hsl4
  go_wp2_with fail
  refine hOB.mono ?_
  rintro e w5 ⟨rfl, hb5⟩
  have hx5 := (hb5.block _ (lt_of_heap hx1)).trans hx1
  have hbA5 := hB1.trans (hb5.mono hB1.size)
  have c0 := cell_of_row w5 w.heap.size 0 _ _ _ hx5
  have c1 := cell_of_row w5 w.heap.size 1 _ _ _ hx5
  simp only [List.getElem?_toArray, List.getElem?_cons_zero, List.getElem?_cons_succ] at c0 c1
  have f0 := frozen0 (j := 0) hx5
  have f1 := frozen0 (j := 1) hx5
  clear hOB hb5
  go_wp2
  refine bodyPost_ret (results_cell_row rfl _ _ _ _ _ _ _ rfl (heap_set2 hx5) Tryz.underlying57 rfl Tryz.infoObj) rfl ⟨rfl, ?_⟩
  exact (hbA5.setCell (p := ⟨w.heap.size, 0, none⟩) (by simp) _).setCell (p := ⟨w.heap.size, 1, none⟩) (by simp) _
def chunkOk (d : Bs) : Bool := decide (d.length ≤ 1024)
set_option maxRecDepth 20000 in
theorem chunk_any (w : World) (d : Bs) (hT : TabW w) :
    Calls Tryz.prog 51 #[.string (strB d)] w fun e w' => e = .returned (made (chunkOk d) (67 :: d)) ∧ Below w.heap.size w w' := by
  have h0 := hT.1
  have hds := strB_size d
  have hb0 : Below w.heap.size w (w.alloc (.cells #[.string ⟨#[]⟩, .string ⟨#[]⟩] 57)) := (Below.refl _ _).alloc (Nat.le_refl _) _
  have hx0 := heap_last w (.cells #[.string ⟨#[]⟩, .string ⟨#[]⟩] 57) _ rfl
  have hn0 : (w.alloc (.cells #[.string ⟨#[]⟩, .string ⟨#[]⟩] 57)).heap.size = w.heap.size + 1 := by simp
  generalize hw0 : w.alloc (.cells #[.string ⟨#[]⟩, .string ⟨#[]⟩] 57) = w0 at *
  by_cases hok : d.length ≤ 1024
  · have hm : made (chunkOk d) (67 :: d) = .tuple #[objV (67 :: d), .int .i64 0] := by unfold chunkOk; rw [decide_eq_true hok]; rfl
    rw [hm]
    have hls := ls_two w0 [67] d (w.heap.size + 1) (by omega)
    have hbM : Below w0.heap.size w0 (w0.alloc (.cells #[.string (strB [67]), .string (strB d)] 9)) := (Below.refl _ _).alloc (Nat.le_refl _) _
    have hBM := hb0.trans (hbM.mono hb0.size)
    have hof := of_any _ _ [[67], d] hls (hT.keep hBM h0) (by simp; omega)
    rw [show ([[67], d] : List Bs).flatten = 67 :: d from by simp] at hof
    rw [objV_def] at hof ⊢
    generalize sha (67 :: d) = S at *
    have hxM := (hbM.block _ (lt_of_heap hx0)).trans hx0
    clear hls hbM hm
    go_enter Tryz.func51, Tryz.ntmps51
    go_wp2_with fail
    try rw [hw0]
    generalize hwM : w0.alloc (.cells #[.string (strB [67]), .string (strB d)] 9) = wM at *
    try rw [show (w0.alloc (.cells #[.string ⟨#[67]⟩, .string (strB d)] 9)) = wM from hwM]
    refine hof.mono ?_
    rintro e w5 ⟨rfl, hb5⟩
    have hx5 := (hb5.block _ (lt_of_heap hxM)).trans hxM
    have hbA5 := hBM.trans (hb5.mono hBM.size)
    have c0 := cell_of_row w5 w.heap.size 0 _ _ _ hx5
    have c1 := cell_of_row w5 w.heap.size 1 _ _ _ hx5
    simp only [List.getElem?_toArray, List.getElem?_cons_zero, List.getElem?_cons_succ] at c0 c1
    have f0 := frozen0 (j := 0) hx5
    have f1 := frozen0 (j := 1) hx5
    clear hof hb5
    go_wp2
    refine bodyPost_ret (results_cell_tmp_row rfl _ _ _ _ _ _ _ rfl (heap_set2 hx5) Tryz.underlying57 rfl Tryz.infoObj) rfl ⟨rfl, ?_⟩
    exact (hbA5.setCell (p := ⟨w.heap.size, 0, none⟩) (by simp) _).setCell (p := ⟨w.heap.size, 1, none⟩) (by simp) _
  · have hm : made (chunkOk d) (67 :: d) = .tuple #[.agg #[.string ⟨#[]⟩, .string ⟨#[]⟩], .int .i64 80] := by unfold chunkOk; rw [decide_eq_false hok]; rfl
    rw [hm]
    have c0 := cell_of_row w0 w.heap.size 0 _ _ _ hx0
    have c1 := cell_of_row w0 w.heap.size 1 _ _ _ hx0
    simp only [List.getElem?_toArray, List.getElem?_cons_zero, List.getElem?_cons_succ] at c0 c1
    have f0 := frozen0 (j := 0) hx0
    have f1 := frozen0 (j := 1) hx0
    go_enter Tryz.func51, Tryz.ntmps51
    go_wp2_with fail
    try rw [hw0]
    try go_wp2
    refine bodyPost_ret (results_cell_tmp_row rfl _ _ _ _ #[.string ⟨#[]⟩, .string ⟨#[]⟩] _ _ rfl (by first | exact hx0 | (exact heap_last w _ _ rfl) | exact heap_set2 hx0) Tryz.underlying57 rfl Tryz.infoObj) rfl ⟨rfl, ?_⟩
    first | exact hb0 | exact (hb0.setCell (p := ⟨w.heap.size, 0, none⟩) (by simp) _).setCell (p := ⟨w.heap.size, 1, none⟩) (by simp) _ | exact (Below.refl _ _).alloc (Nat.le_refl _) _
/-- What a chunk's bytes say. -/
def takenChunk (b : Bs) : Option Bs := if List.isPrefixOf [67] b = true ∧ (b.drop 1).length ≤ 1024 then some (b.drop 1) else none
theorem takenChunk_iff (b d : Bs) : takenChunk b = some d ↔ chunkOk d = true ∧ b = 67 :: d := by
  unfold takenChunk chunkOk
  cases b with
  | nil => simp [List.isPrefixOf]
  | cons c l =>
    by_cases hc : c = 67
    · subst hc
      by_cases hl : l.length ≤ 1024
      · simp [List.isPrefixOf, hl]
        rintro rfl
        exact hl
      · simp [List.isPrefixOf, hl]
        rintro h rfl
        omega
    · have : List.isPrefixOf [67] (c :: l) = false := by simp [List.isPrefixOf, Ne.symm hc]
      simp [this]
      rintro _ h
      exact absurd h hc
set_option maxRecDepth 20000 in
theorem takeChunk_any (w : World) (b : Bs) (hb : b.length ≤ 140737488355328) :
    Calls Tryz.prog 79 #[.string (strB b)] w fun e w' => e = .returned (match takenChunk b with | some d => .tuple #[.string (strB d), .int .i64 0] | none => .tuple #[.string (strB []), .int .i64 81]) ∧ Below w.heap.size w w' := by
  have hcp := cutPrefix_any w b [67] hb (by simp)
  unfold takenChunk
  simp only [List.length_cons, List.length_nil, Nat.zero_add] at hcp
  by_cases h : List.isPrefixOf [67] b = true
  · rw [if_pos h] at hcp
    have hle : (b.drop 1).length ≤ b.length := by simp
    by_cases hl : (b.drop 1).length ≤ 1024
    · rw [if_pos ⟨h, hl⟩]
      simp only
      generalize b.drop 1 = d at *
      have hds := strB_size d
      go_enter Tryz.func79, Tryz.ntmps79
      go_wp2_with fail
      refine hcp.mono ?_
      rintro e w1 ⟨rfl, rfl⟩
      go_wp2_with fail
      refine (copyStr_any _ d (by omega)).mono ?_
      rintro e w2 ⟨rfl, hb2⟩
      go_wp2
      go_ret2
      exact ⟨rfl, hb2⟩
    · rw [if_neg (fun h => hl h.2)]
      simp only
      generalize b.drop 1 = d at *
      have hds := strB_size d
      go_enter Tryz.func79, Tryz.ntmps79
      go_wp2_with fail
      refine hcp.mono ?_
      rintro e w1 ⟨rfl, rfl⟩
      go_wp2
      go_ret2
      exact ⟨rfl, Below.refl _ _⟩
  · rw [if_neg (fun g => h g.1)]
    rw [if_neg h] at hcp
    simp only
    go_enter Tryz.func79, Tryz.ntmps79
    go_wp2_with fail
    refine hcp.mono ?_
    rintro e w1 ⟨rfl, rfl⟩
    go_wp2
    go_ret2
    exact ⟨rfl, Below.refl _ _⟩
end Go.Proofs.YtokebnkgjchfaaaGreatDoor

/-
  Files as trees, plainly: what stands behind a part, going to bytes, going through all fans. No program. No condition.
-/
namespace Go.Proofs.YtokebnkgjchfaaaGreatDoor

/-- How many bytes parts have. -/
def sizeP (xs : List Part) : Int := (xs.map (·.2)).sum
theorem sizeP_nil : sizeP [] = 0 := rfl
theorem sizeP_cons (p : Part) (xs : List Part) : sizeP (p :: xs) = p.2 + sizeP xs := by simp [sizeP]
theorem sizeP_append (xs ys : List Part) : sizeP (xs ++ ys) = sizeP xs + sizeP ys := by simp [sizeP, List.sum_append]
theorem sizeP_step (xs : List Part) (k : Nat) (h : k < xs.length) : sizeP (xs.take (k + 1)) = sizeP (xs.take k) + xs[k].2 := by
  rw [List.take_succ_eq_append_getElem h, sizeP_append]
  simp [sizeP]
theorem sizeP_nonneg : ∀ (xs : List Part), (∀ p ∈ xs, 1 ≤ p.2) → 0 ≤ sizeP xs
  | [], _ => by simp [sizeP]
  | p :: r, h => by
    have h1 := sizeP_nonneg r (fun q hq => h q (by simp [hq]))
    have h2 := h p (by simp)
    rw [sizeP_cons]
    omega
theorem sizeP_split (xs : List Part) (k : Nat) : sizeP xs = sizeP (xs.take k) + sizeP (xs.drop k) := by
  rw [← sizeP_append, List.take_append_drop]
/-- Of the first ones, and one more: no more than all. -/
theorem sizeP_within (xs : List Part) (h : ∀ p ∈ xs, 1 ≤ p.2) (k : Nat) (hk : k < xs.length) : 0 ≤ sizeP (xs.take k) ∧ 1 ≤ xs[k].2 ∧ sizeP (xs.take k) + xs[k].2 ≤ sizeP xs := by
  have h1 := sizeP_nonneg (xs.take k) (fun q hq => h q (List.mem_of_mem_take hq))
  have h2 := h xs[k] (List.getElem_mem hk)
  have h3 := sizeP_split xs (k + 1)
  have h4 := sizeP_nonneg (xs.drop (k + 1)) (fun q hq => h q (List.mem_of_mem_drop hq))
  rw [sizeP_step xs k hk] at h3
  omega
theorem sizeP_many : ∀ (xs : List Part), (∀ p ∈ xs, 1 ≤ p.2) → (xs.length : Int) ≤ sizeP xs
  | [], _ => by simp [sizeP]
  | p :: r, h => by
    have h1 := sizeP_many r (fun q hq => h q (by simp [hq]))
    have h2 := h p (by simp)
    rw [sizeP_cons]
    simp
    omega

/-- What a part stands for: its level, its data, its kids. -/
abbrev Node := Int × (Bs × List Part)
def nodeOf (b : Bs) : Option Node :=
  match takenChunk b with
  | some d => some (0, d, [])
  | none => match takenFan b with
    | some f => some (f.1, [], f.2)
    | none => none
def sizeN (n : Node) : Int := n.2.1.length + sizeP n.2.2
/-- What holds of every node. -/
structure Right (n : Node) : Prop where
  lo : 0 ≤ n.1
  hi : n.1 ≤ 20
  data : n.2.1.length ≤ 1024
  none : 1 ≤ n.1 → n.2.1 = []
  kids : n.1 = 0 → n.2.2 = []
  some : 1 ≤ n.1 → 1 ≤ n.2.2.length
  most : n.2.2.length ≤ 32
  each : ∀ p ∈ n.2.2, 1 ≤ p.2
  sum : sizeP n.2.2 ≤ 262144
theorem fan_facts {f : Fan} (h : fanOk f = true) : 1 ≤ f.1 ∧ f.1 ≤ 20 ∧ 1 ≤ f.2.length ∧ f.2.length ≤ 32 ∧ (∀ p ∈ f.2, 1 ≤ p.2) ∧ sizeP f.2 ≤ 262144 := by
  simp only [fanOk, levelB, isIdB, Bool.and_eq_true, decide_eq_true_eq, List.all_eq_true] at h
  obtain ⟨⟨⟨h1, h2⟩, h3⟩, h4⟩ := h
  have h5 := (within_iff _ _ (by omega)).1 h4
  exact ⟨h1.1, h1.2, h2.1, h2.2, fun p hp => h5.1 _ (List.mem_map_of_mem hp), h5.2⟩
theorem nodeOf_right {b : Bs} {n : Node} (h : nodeOf b = some n) : Right n := by
  unfold nodeOf at h
  cases hc : takenChunk b with
  | some d =>
    rw [hc] at h
    simp only [Option.some.injEq] at h
    subst h
    have := ((takenChunk_iff b d).1 hc).1
    unfold chunkOk at this
    simp only [decide_eq_true_eq] at this
    exact ⟨by simp, by simp, this, fun h => absurd h (by simp), fun _ => rfl, fun h => absurd h (by simp), by simp, by simp, by simp [sizeP]⟩
  | none =>
    rw [hc] at h
    cases hf : takenFan b with
    | some f =>
      rw [hf] at h
      simp only [Option.some.injEq] at h
      subst h
      have g := fan_facts ((takenFan_iff b f).1 hf).1
      exact ⟨by simp only; omega, g.2.1, by simp, fun _ => rfl, fun h => by simp only at h; omega, fun _ => g.2.2.1, g.2.2.2.1, g.2.2.2.2.1, g.2.2.2.2.2⟩
    | none =>
      rw [hf] at h
      cases h
/-- The first object that has the id. -/
def findO (objs : List Pair) (id : Bs) : Option Bs := (objs.find? (fun o => o.1 == id)).map (·.2)
/-- What is answered where a part is asked for: an error's number, the node. -/
def askN (fd : Bs → Option Bs) (p : Part) (level : Int) : Int × Node :=
  match fd p.1 with
  | none => (3, 0, [], [])
  | some b => match nodeOf b with
    | none => (101, 0, [], [])
    | some n => if sizeN n = p.2 ∧ (level = -1 ∨ level = n.1) then (0, n) else (101, 0, [], [])
theorem askN_ok {fd : Bs → Option Bs} {p : Part} {level : Int} (h : (askN fd p level).1 = 0) : Right (askN fd p level).2 ∧ sizeN (askN fd p level).2 = p.2 ∧ (level = -1 ∨ level = (askN fd p level).2.1) := by
  unfold askN at h ⊢
  cases hf : fd p.1 with
  | none => rw [hf] at h; cases h
  | some b =>
    rw [hf] at h
    cases hn : nodeOf b with
    | none => simp only [hn] at h; cases h
    | some n =>
      simp only [hn] at h ⊢
      by_cases hc : sizeN n = p.2 ∧ (level = -1 ∨ level = n.1)
      · rw [if_pos hc]
        exact ⟨nodeOf_right hn, hc.1, hc.2⟩
      · rw [if_neg hc] at h
        cases h
/-- What was asked, read, met so far; the first error. -/
structure Wk where
  asked : List Bs
  data : Bs
  parts : List Part
  bad : Int
/-- One after another, each where the one ahead ends. -/
def eachP (f : Part → Int → Wk → Wk) : List Part → Int → Wk → Wk
  | [], _, s => s
  | p :: r, a, s => eachP f r (a + p.2) (f p a s)
theorem eachP_snoc (f : Part → Int → Wk → Wk) : ∀ (l : List Part) (p : Part) (a : Int) (s : Wk), eachP f (l ++ [p]) a s = f p (a + sizeP l) (eachP f l a s)
  | [], p, a, s => by simp [eachP, sizeP]
  | q :: r, p, a, s => by
    rw [List.cons_append, eachP, eachP_snoc f r p, eachP, sizeP_cons, Int.add_assoc]
theorem eachP_step (f : Part → Int → Wk → Wk) (l : List Part) (k : Nat) (h : k < l.length) (a : Int) (s : Wk) : eachP f (l.take (k + 1)) a s = f l[k] (a + sizeP (l.take k)) (eachP f (l.take k) a s) := by
  rw [List.take_succ_eq_append_getElem h, eachP_snoc]
theorem eachP_dead {f : Part → Int → Wk → Wk} (hf : ∀ p a s, s.bad ≠ 0 → f p a s = s) : ∀ (l : List Part) (a : Int) (s : Wk), s.bad ≠ 0 → eachP f l a s = s
  | [], _, _, _ => rfl
  | p :: r, a, s, h => by rw [eachP, hf p a s h, eachP_dead hf r _ s h]
theorem eachP_append (f : Part → Int → Wk → Wk) : ∀ (l m : List Part) (a : Int) (s : Wk), eachP f (l ++ m) a s = eachP f m (a + sizeP l) (eachP f l a s)
  | [], m, a, s => by simp [eachP, sizeP]
  | p :: r, m, a, s => by rw [List.cons_append, eachP, eachP_append f r m, eachP, sizeP_cons, Int.add_assoc]
/-- Once something is bad, it stays so. -/
theorem eachP_stop {f : Part → Int → Wk → Wk} (hf : ∀ p a s, s.bad ≠ 0 → f p a s = s) (l : List Part) (k : Nat) (a : Int) (s : Wk) (h : (eachP f (l.take k) a s).bad ≠ 0) : eachP f l a s = eachP f (l.take k) a s := by
  have e : eachP f l a s = eachP f (l.drop k) (a + sizeP (l.take k)) (eachP f (l.take k) a s) := by rw [← eachP_append, List.take_append_drop]
  rw [e, eachP_dead hf _ _ _ h]
/-- Going to bytes from lo up to hi, at most so many levels down. -/
def goS (fd : Bs → Option Bs) (lo hi : Int) : Nat → Part → Int → Int → Wk → Wk
  | 0, _, _, _, s => s
  | k + 1, p, a, level, s =>
    if s.bad ≠ 0 ∨ min hi (a + p.2) ≤ max lo a then s
    else if (askN fd p level).1 ≠ 0 then ⟨s.asked ++ [p.1], s.data, s.parts, (askN fd p level).1⟩
    else if (askN fd p level).2.1 = 0 then ⟨s.asked ++ [p.1], s.data ++ ((askN fd p level).2.2.1.take (min hi (a + p.2) - a).toNat).drop (max lo a - a).toNat, s.parts ++ [p], 0⟩
    else eachP (fun q b t => goS fd lo hi k q b ((askN fd p level).2.1 - 1) t) (askN fd p level).2.2.2 a ⟨s.asked ++ [p.1], s.data, s.parts, 0⟩
theorem goS_dead (fd : Bs → Option Bs) (lo hi : Int) (k : Nat) (p : Part) (a level : Int) (s : Wk) (h : s.bad ≠ 0) : goS fd lo hi k p a level s = s := by
  cases k with
  | zero => rfl
  | succ k => rw [goS, if_pos (.inl h)]
/-- No more than so many more. -/
def Grows (s t : Wk) (n m : Nat) : Prop := t.asked.length ≤ s.asked.length + n ∧ t.data.length ≤ s.data.length + m ∧ t.parts.length ≤ s.parts.length + m
theorem Grows.trans {s t u : Wk} {n m n' m' : Nat} (h : Grows s t n m) (k : Grows t u n' m') : Grows s u (n + n') (m + m') := ⟨by have := h.1; have := k.1; omega, by have := h.2.1; have := k.2.1; omega, by have := h.2.2; have := k.2.2; omega⟩
theorem Grows.refl (s : Wk) : Grows s s 0 0 := ⟨by omega, by omega, by omega⟩
theorem Grows.le {s t : Wk} {n m n' m' : Nat} (h : Grows s t n m) (h1 : n ≤ n') (h2 : m ≤ m') : Grows s t n' m' := ⟨by have := h.1; omega, by have := h.2.1; omega, by have := h.2.2; omega⟩
theorem eachP_grows {f : Part → Int → Wk → Wk} {c : Nat} (hf : ∀ p a s, 1 ≤ p.2 → Grows s (f p a s) (c * p.2.toNat) p.2.toNat) : ∀ (l : List Part) (a : Int) (s : Wk), (∀ p ∈ l, 1 ≤ p.2) → Grows s (eachP f l a s) (c * (sizeP l).toNat) (sizeP l).toNat
  | [], a, s, _ => by simp only [eachP, sizeP_nil]; exact (Grows.refl s).le (by simp) (by simp)
  | p :: r, a, s, h => by
    have h1 := hf p a s (h p (by simp))
    have h2 := eachP_grows hf r (a + p.2) (f p a s) (fun q hq => h q (by simp [hq]))
    have h3 := sizeP_nonneg r (fun q hq => h q (by simp [hq]))
    have h4 := h p (by simp)
    rw [eachP, sizeP_cons]
    have e : (p.2 + sizeP r).toNat = p.2.toNat + (sizeP r).toNat := by omega
    rw [e, Nat.mul_add]
    exact h1.trans h2
theorem goS_grows (fd : Bs → Option Bs) (lo hi : Int) : ∀ (k : Nat) (p : Part) (a level : Int) (s : Wk), 1 ≤ p.2 → Grows s (goS fd lo hi k p a level s) (k * p.2.toNat) p.2.toNat
  | 0, p, a, level, s, _ => by simp only [goS]; exact (Grows.refl s).le (by simp) (by simp)
  | k + 1, p, a, level, s, hp => by
    rw [goS]
    have hk : (k + 1) * p.2.toNat = k * p.2.toNat + p.2.toNat := by rw [Nat.add_mul]; simp
    by_cases h1 : s.bad ≠ 0 ∨ min hi (a + p.2) ≤ max lo a
    · rw [if_pos h1]; exact (Grows.refl s).le (by simp) (by simp)
    · rw [if_neg h1]
      by_cases h2 : (askN fd p level).1 ≠ 0
      · rw [if_pos h2]
        exact ⟨by simp only [List.length_append, List.length_singleton]; omega, by simp only; omega, by simp only; omega⟩
      · rw [if_neg h2]
        obtain ⟨g1, g2, -⟩ := askN_ok (by simpa using h2)
        generalize (askN fd p level).2 = n at *
        by_cases h3 : n.1 = 0
        · rw [if_pos h3]
          have g3 := g1.kids h3
          unfold sizeN at g2
          rw [g3, sizeP_nil] at g2
          refine ⟨by simp only [List.length_append, List.length_singleton]; omega, ?_, by simp only [List.length_append, List.length_singleton]; omega⟩
          simp only [List.length_append, List.length_drop, List.length_take]
          omega
        · rw [if_neg h3]
          have h4 : 1 ≤ n.1 := by have := g1.lo; omega
          have g3 := g1.none h4
          unfold sizeN at g2
          rw [g3] at g2
          simp only [List.length_nil] at g2
          have h5 := eachP_grows (f := fun q b t => goS fd lo hi k q b (n.1 - 1) t) (c := k) (fun q b t hq => goS_grows fd lo hi k q b (n.1 - 1) t hq) n.2.2 a ⟨s.asked ++ [p.1], s.data, s.parts, 0⟩ g1.each
          have e : sizeP n.2.2 = p.2 := by omega
          rw [e] at h5
          obtain ⟨x1, x2, x3⟩ := h5
          simp only [List.length_append, List.length_singleton] at x1 x2 x3
          exact ⟨by omega, x2, x3⟩
end Go.Proofs.YtokebnkgjchfaaaGreatDoor

/-
  What the reference's padding answers. Condition: at most 1048576 bytes.
-/
namespace Go.Proofs.YtokebnkgjchfaaaGreatDoor
open Go.RowKit

/-- A slice's length. -/
def lenV : Value → Nat
  | .slice _ n _ => n
  | _ => 0
/-- The length's eight bytes. -/
def be8 (size : Nat) : List UInt8 := be4 (UInt32.ofNat (size * 8 % 18446744073709551616 / 4294967296)) ++ be4 (UInt32.ofNat (size * 8 % 18446744073709551616))
theorem tail_eq (size : Nat) : tail size = 128 :: (List.replicate ((119 - size % 64) % 64) 0 ++ be8 size) := by
  unfold tail be8
  rw [List.cons_append]
theorem be8_length (size : Nat) : (be8 size).length = 8 := rfl

theorem be8_get (size : Nat) (hs : size ≤ 1048576) : ∀ k, k < 8 → ((size : Int) * 8) / 2 ^ (56 - 8 * k) % 256 = (((be8 size).getD k 0).toNat : Int)
  | 0, _ => by simp [be8, be4, Nat.shiftRight_eq_div_pow]; omega
  | 1, _ => by simp [be8, be4, Nat.shiftRight_eq_div_pow]; omega
  | 2, _ => by simp [be8, be4, Nat.shiftRight_eq_div_pow]; omega
  | 3, _ => by simp [be8, be4]; omega
  | 4, _ => by simp [be8, be4, Nat.shiftRight_eq_div_pow]; omega
  | 5, _ => by simp [be8, be4, Nat.shiftRight_eq_div_pow]; omega
  | 6, _ => by simp [be8, be4, Nat.shiftRight_eq_div_pow]; omega
  | 7, _ => by simp [be8, be4]
  | k + 8, h => by omega

set_option maxRecDepth 20000 in
set_option maxHeartbeats 800000 in
theorem padded_any (w : World) (v : Value) (l : List UInt8) (h : Sl w v l) (hl : l.length ≤ 1048576) :
    Calls Tryz.prog 95 #[v] w fun e w' => ∃ m, m = (l ++ tail l.length).length ∧ e = .returned (.slice (some ⟨w.heap.size, 0, none⟩) m (l.length + 72)) ∧
      w'.ownsRow w.heap.size 5 1 (.slice (some ⟨w.heap.size, 0, none⟩) m (l.length + 72)) m (bc (l ++ tail l.length)) ∧ Below w.heap.size w w' ∧ w.heap.size < w'.heap.size := by
  have h' := h
  obtain ⟨ao, cap, rfl, h1, h2, h3, h4⟩ := h'
  clear h4
  obtain ⟨i0, hi, hz0, hz1, hz2⟩ := info_parts Tryz.infoB
  go_enter Tryz.func95, Tryz.ntmps95
  go_wp2_with (first
    | (at_make; refine wpList_make_own _ rfl _ _ 74 rfl w.heap.size 5 i0 (.int .u8 0) 1 Tryz.underlying74 hi hz0 hz1 .i64 .i64 _ (l.length + 72) rfl rfl (by omega) (by rw [hz2]; omega) (by unfold maxLen; omega) (Nat.le_refl _) ?_; intro w1 hown1 hgrow1)
    | (at_builtin; refine wpList_append_fits_any _ rfl (.tmp 10) (.tmp 11) 74 rfl w.heap.size 5 i0 1 Tryz.underlying74 hi hz1 w.heap.size 0 (l.length + 72) [] rfl hown1 ao l.length cap (bc l) rfl (by rw [bc_length, Nat.mul_one]) (by intro hn; have := h3 hn; omega) (h.cells ((Below.refl _ _).grown hgrow1 (Nat.le_refl _) (by intro k hk; cases hk))) (bc_one l) (by omega) ?_; intro w2 hown2 hgrow2; simp only [Nat.zero_add, List.nil_append] at hown2)
    | (at_builtin; refine wpList_append_fits _ rfl (.tmp 13) (.tmp 14) 74 rfl w.heap.size 5 i0 1 Tryz.underlying74 hi hz1 w.heap.size l.length (l.length + 72) (bc l) rfl (hown2.alloc _) ⟨w2.heap.size, 0, none⟩ 1 1 (bc [128]) rfl rfl ?c1 (bc_one _) (by omega) ?_))
  case c1 =>
    intro j x hj
    match j, hj with
    | 0, hj => simp [bc] at hj; subst hj; simp [Addr.add_lit]
  intro w3 hown3 hgrow3
  have hb3 : Below w.heap.size w w3 := ((((Below.refl _ _).grown hgrow1 (Nat.le_refl _) (by intro k hk; cases hk)).grown hgrow2 hgrow1.size (by intro k hk; injection hk with hk; omega)).alloc (Nat.le_trans hgrow1.size hgrow2.size) _).grown hgrow3 (by have := hgrow1.size; have := hgrow2.size; simp; omega) (by intro k hk; injection hk with hk; omega)
  rw [← bc_append] at hown3
  clear hgrow1 hgrow2 hgrow3 hown1 hown2
  go_wp2_with fail
  obtain ⟨N, hN⟩ : ∃ N, N = (119 - l.length % 64) % 64 := ⟨_, rfl⟩
  have hT := tail_eq l.length
  rw [← hN] at hT
  have HT := hide hT
  have HN := hide hN
  have hN64 : N < 64 := by omega
  clear hT hN h
  go_loopw [3] (fun v wr => ∃ z m : Nat, z ≤ N ∧ m = l.length + 1 + z ∧ v = .slice (some ⟨w.heap.size, 0, none⟩) m (l.length + 72) ∧
      wr.ownsRow w.heap.size 5 1 (.slice (some ⟨w.heap.size, 0, none⟩) m (l.length + 72)) m (bc (l ++ 128 :: List.replicate z 0)) ∧ Below w.heap.size w wr)
    (fun v _ => l.length + 65 - lenV v)
  case atStart => exact ⟨0, l.length + 1, by omega, rfl, rfl, hown3, hb3⟩
  case round =>
    clear hown3 hb3
    obtain ⟨z, m, hz, hm, rfl, hown, hb⟩ := hrel
    have hmod : ((m : Nat) : Int).tmod 64 = ((m % 64 : Nat) : Int) := by rw [Int.tmod_eq_emod_of_nonneg (by omega)]; omega
    by_cases hlt : z < N
    · have hne : m % 64 ≠ 56 := by have := HN.out; omega
      have hm64 : m % 64 < 64 := Nat.mod_lt _ (by omega)
      generalize m % 64 = r at *
      have HM := hide hm
      have hmc : m + 1 ≤ l.length + 72 := by omega
      have hml : m < 2000000 := by omega
      clear hm
      go_wp2_with (at_builtin; refine wpList_append_fits _ rfl (.tmp 20) (.tmp 21) 74 rfl w.heap.size 5 i0 1 Tryz.underlying74 hi hz1 w.heap.size m (l.length + 72) _ rfl (hown.alloc _) ⟨wr.heap.size, 0, none⟩ 1 1 (bc [0]) rfl rfl ?c1 (bc_one _) hmc ?_)
      case c1 =>
        intro j x hj
        match j, hj with
        | 0, hj => simp [bc] at hj; subst hj; simp [Addr.add_lit]
      intro w4 hown4 hgrow4
      have hb4 := (hb.alloc hb.size (.cells #[.int .u8 0] 5)).grown hgrow4 (by have := hb.size; simp; omega) (by intro k hk; injection hk with hk; omega)
      have hown4' : w4.ownsRow w.heap.size 5 1 (.slice (some ⟨w.heap.size, 0, none⟩) (m + 1) (l.length + 72)) (m + 1) (bc (l ++ 128 :: List.replicate (z + 1) 0)) := by
        rw [List.replicate_succ', ← List.cons_append, ← List.append_assoc, bc_append]
        exact hown4
      have HO := hide hown4'
      have HB := hide hb4
      clear hown hgrow4 hown4 hown4' hb hb4
      go_wp2
      go_roundw
      case rel => exact ⟨z + 1, m + 1, by omega, by have := HM.out; omega, rfl, HO.out, HB.out⟩
      case measure => simp [lenV]; have := HM.out; omega
    · obtain rfl : z = N := by omega
      have h56 : m % 64 = 56 := by have := HN.out; omega
      rw [h56] at hmod
      have HM := hide hm
      have hml : m + 8 ≤ l.length + 72 := by omega
      have hml2 : m < 2000000 := by omega
      have HO := hide hown
      have HB := hide hb
      clear hm h56 hown hb
      have hX : l ++ tail l.length = (l ++ 128 :: List.replicate z 0) ++ be8 l.length := by rw [HT.out]; simp
      have hXl : (l ++ 128 :: List.replicate z 0).length = m := by have := HM.out; simp; omega
      have HX := hide hX
      have HXL := hide hXl
      clear hX hXl
      generalize l ++ 128 :: List.replicate z 0 = X at *
      go_wp2_with fail
      go_loopw [3, 5] (fun v t wr => ∃ k mk : Nat, k ≤ 8 ∧ mk = m + k ∧ t = .int .i64 k ∧ v = .slice (some ⟨w.heap.size, 0, none⟩) mk (l.length + 72) ∧
          wr.ownsRow w.heap.size 5 1 (.slice (some ⟨w.heap.size, 0, none⟩) mk (l.length + 72)) mk (bc (X ++ (be8 l.length).take k)) ∧ Below w.heap.size w wr)
        (fun _ t _ => 8 - (intOf t).toNat)
      case atStart => exact ⟨0, m, by omega, rfl, rfl, rfl, by simpa using HO.out, HB.out⟩
      case round =>
        clear HO HB
        obtain ⟨k, mk, hk, hmk, rfl, rfl, hown, hb⟩ := hrel
        by_cases hlt : k < 8
        · have hv := be8_get l.length hl k hlt
          have htk : (be8 l.length).take (k + 1) = (be8 l.length).take k ++ [(be8 l.length).getD k 0] := by
            have hlt' : k < (be8 l.length).length := by rw [be8_length]; exact hlt
            rw [List.take_succ_eq_append_getElem hlt', List.getD_eq_getElem?_getD, List.getElem?_eq_getElem hlt']
            rfl
          have HTK := hide htk
          clear htk
          generalize (be8 l.length).getD k 0 = c at *
          have hmc : mk + 1 ≤ l.length + 72 := by omega
          have HMK := hide hmk
          clear hmk
          go_wp2_with (at_builtin; refine wpList_append_fits _ rfl (.tmp 31) (.tmp 38) 74 rfl w.heap.size 5 i0 1 Tryz.underlying74 hi hz1 w.heap.size mk (l.length + 72) _ rfl (hown.alloc _) ⟨wr.heap.size, 0, none⟩ 1 1 (bc [c]) rfl rfl ?c1 (bc_one _) hmc ?_)
          case c1 =>
            intro j x hj
            match j, hj with
            | 0, hj => simp [bc] at hj; subst hj; simp [Addr.add_lit]
          intro w4 hown4 hgrow4
          have hb4 := (hb.alloc hb.size (.cells #[.int .u8 (c.toNat : Int)] 5)).grown hgrow4 (by have := hb.size; simp; omega) (by intro k hk; injection hk with hk; omega)
          rw [← bc_append, List.append_assoc, ← HTK.out] at hown4
          have HO := hide hown4
          have HB := hide hb4
          clear hown hgrow4 hown4 hb hb4 hv
          go_wp2
          go_roundw
          case rel => exact ⟨k + 1, mk + 1, by omega, by have := HMK.out; omega, by go_num, rfl, HO.out, HB.out⟩
          case measure => simp [intOf]; omega
        · obtain rfl : k = 8 := by omega
          rw [List.take_of_length_le (by rw [be8_length]; omega), ← HX.out] at hown
          have HMK := hide hmk
          have HO := hide hown
          have hls : w.heap.size < wr.heap.size := by
            obtain ⟨_, hv⟩ := hown.lt w.heap.size rfl
            exact hv
          clear hmk hown
          go_wp2
          go_ret
          exact ⟨mk, by rw [HX.out, List.length_append, HXL.out, be8_length]; exact HMK.out, rfl, HO.out, hb, hls⟩
end Go.Proofs.YtokebnkgjchfaaaGreatDoor

/-
  What the reference's words of a block, and its constants, answer. Condition: a slice of sixty-four bytes.
-/
namespace Go.Proofs.YtokebnkgjchfaaaGreatDoor
open Go.RowKit

/-- What making words finds in memory: the numbers so far, noughts behind them. -/
def SW (w : World) (L : List UInt32) (wr : World) : Prop := Below w.heap.size w wr ∧ (∃ z, wr.heap[w.heap.size]? = some (.cells z 149) ∧ z.size = 64) ∧ wr.heap[w.heap.size + 1]? = some (.cells (uc (L ++ List.replicate (64 - L.length) 0)) 149)

theorem sw_start (w : World) : SW w [] ((w.alloc (.cells (uc (List.replicate 64 0)) 149)).alloc (.cells (uc (List.replicate 64 0)) 149)) := by
  refine ⟨((Below.refl _ _).alloc (Nat.le_refl _) _).alloc (by simp) _, ⟨uc (List.replicate 64 0), ?_, by simp [uc]⟩, ?_⟩
  · rw [heap_past _ _ _ (by simp), heap_last _ _ _ rfl]
  · rw [heap_last _ _ _ (by simp)]
    rfl
theorem SW.store {w : World} {L : List UInt32} {wr : World} (h : SW w L wr) (hL : L.length < 64) (k : Nat) (hk : L.length = k) (x : UInt32) : SW w (L ++ [x]) (wr.setCell ⟨w.heap.size + 1, k, none⟩ (.int .u32 (u x))) := by
  subst hk
  obtain ⟨h1, ⟨z, h3, h3'⟩, h4⟩ := h
  have hb : Below (w.heap.size + 1) wr (wr.setCell ⟨w.heap.size + 1, L.length, none⟩ (.int .u32 (u x))) := (Below.refl _ _).setCell (p := ⟨w.heap.size + 1, L.length, none⟩) (Nat.le_refl _) _
  refine ⟨h1.setCell (p := ⟨w.heap.size + 1, L.length, none⟩) (by simp) _, ⟨z, (hb.block _ (by omega)).trans h3, h3'⟩, ?_⟩
  rw [heap_setCell _ _ _ _ _ _ _ h4, uc_set L x 64 hL]
theorem SW.drew {w : World} {L : List UInt32} {wr : World} (h : SW w L wr) : SW w L wr.drew := by
  obtain ⟨h1, h3, h4⟩ := h
  exact ⟨h1.drew, h3, h4⟩
theorem SW.get {w : World} {L : List UInt32} {wr : World} (h : SW w L wr) (k : Nat) (hk : k < L.length) : wr.cell? ⟨w.heap.size + 1, k, none⟩ = some (.int .u32 (u (L.getD k 0))) := by
  rw [cell_of_row _ _ _ _ _ _ h.2.2, uc_get _ _ (by simp; omega)]
  simp [List.getD, List.getElem?_append_left hk]
theorem SW.room {w : World} {L : List UInt32} {wr : World} (h : SW w L wr) (k : Nat) (hk : L.length = k) (hL : k < 64) : wr.cell? ⟨w.heap.size + 1, k, none⟩ = some (.int .u32 (u 0)) ∧ wr.frozen? ⟨w.heap.size + 1, k, none⟩ = false := by
  subst hk
  constructor
  · rw [cell_of_row _ _ _ _ _ _ h.2.2, uc_get _ _ (by simp; omega)]
    obtain ⟨m, hm⟩ : ∃ m, 64 - L.length = m + 1 := ⟨64 - L.length - 1, by omega⟩
    simp [List.getD, hm, List.replicate_succ]
  · simp [World.frozen?, h.2.2]

set_option maxRecDepth 20000 in
set_option maxHeartbeats 1600000 in
theorem words_any (w : World) (b off cap : Nat) (l : List UInt8) (hl : l.length = 64) (h : Sl w (.slice (some ⟨b, off, none⟩) 64 cap) l) :
    Calls Tryz.prog 96 #[.slice (some ⟨b, off, none⟩) 64 cap] w fun e w' => e = .returned (.agg (uc (ext (words l) 48))) ∧ Below w.heap.size w w' := by
  obtain ⟨hbl, hcell⟩ : b < w.heap.size ∧ ∀ j, j < 64 → w.cell? ⟨b, off + j, none⟩ = some (.int .u8 ((l.getD j 0).toNat : Int)) := by
    obtain ⟨ao, cap', hv, h1, h2, h3, h4⟩ := h
    obtain ⟨b', off', ha, hb, hc⟩ := h4 (by rintro rfl; simp at hl)
    injection hv with e1 e2 e3
    rw [← e1] at ha
    injection ha with ha
    injection ha with e4 e5
    subst e4 e5
    refine ⟨hb, fun j hj => ?_⟩
    rw [hc j (by omega), List.getD_eq_getElem?_getD, List.getElem?_eq_getElem (by omega)]
    rfl
  clear h
  go_enter Tryz.func96, Tryz.ntmps96
  go_wp2_with fail
  go_loopw [4] (fun t wr => ∃ k : Nat, k ≤ 16 ∧ t = .int .i64 k ∧ SW w ((words l).take k) wr)
    (fun t _ => 16 - (intOf t).toNat)
  case atStart =>
    refine ⟨0, by omega, rfl, ?_⟩
    exact sw_start w
  case round =>
    obtain ⟨k, hk, rfl, hR⟩ := hrel
    by_cases hlt : k < 16
    · have c0 := (hR.1.cell (p := ⟨b, off + 4 * k, none⟩) hbl).trans (hcell (4 * k) (by omega))
      have c1 := (hR.1.cell (p := ⟨b, off + (4 * k + 1), none⟩) hbl).trans (hcell (4 * k + 1) (by omega))
      have c2 := (hR.1.cell (p := ⟨b, off + (4 * k + 2), none⟩) hbl).trans (hcell (4 * k + 2) (by omega))
      have c3 := (hR.1.cell (p := ⟨b, off + (4 * k + 3), none⟩) hbl).trans (hcell (4 * k + 3) (by omega))
      have hS : (words l).take (k + 1) = (words l).take k ++ [word (l.getD (4 * k) 0) (l.getD (4 * k + 1) 0) (l.getD (4 * k + 2) 0) (l.getD (4 * k + 3) 0)] := words_take l k hlt
      have hlen : ((words l).take k).length = k := by simp [words]; omega
      obtain ⟨hroom, hfr⟩ := hR.room k hlen (by omega)
      generalize l.getD (4 * k) 0 = b0 at *
      generalize l.getD (4 * k + 1) 0 = b1 at *
      generalize l.getD (4 * k + 2) 0 = b2 at *
      generalize l.getD (4 * k + 3) 0 = b3 at *
      rw [u_of8] at c0 c1 c2 c3
      have HS := hide hS
      have HR := hide hR
      have HL := hide hlen
      clear hS hR hlen hcell
      go_wp2_with fail
      go_region
      go_wp2_with fail
      refine ⟨⟨k + 1, by omega, by go_num, ?_⟩, by simp [intOf]; omega⟩
      rw [word_u, HS.out]
      exact (HR.out.store (by rw [HL.out]; omega) k HL.out _).drew
    · obtain rfl : k = 16 := by omega
      rw [List.take_of_length_le (by rw [words_length]; omega)] at hR
      rw [show ((16 : Nat) : Int) = 16 from rfl]
      clear hcell
      go_wp2_with fail
      go_loopw [5] (fun t wr => ∃ k : Nat, 16 ≤ k ∧ k ≤ 64 ∧ t = .int .i64 (k : Int) ∧ SW w (ext (words l) (k - 16)) wr)
        (fun t _ => 64 - (intOf t).toNat)
      case atStart => exact ⟨16, by omega, by omega, rfl, hR⟩
      case round =>
        clear hR
        obtain ⟨k, hk0, hk, rfl, hR⟩ := hrel
        have hlen : (ext (words l) (k - 16)).length = k := by rw [ext_length, words_length]; omega
        by_cases hlt : k < 64
        · have hS : ext (words l) (k + 1 - 16) = ext (words l) (k - 16) ++ [s1 ((ext (words l) (k - 16)).getD (k - 2) 0) + (ext (words l) (k - 16)).getD (k - 7) 0 + s0 ((ext (words l) (k - 16)).getD (k - 15) 0) + (ext (words l) (k - 16)).getD (k - 16) 0] := by
            rw [show k + 1 - 16 = (k - 16) + 1 from by omega]
            show _ ++ [next _] = _
            unfold next
            rw [hlen]
          have c0 := hR.get (k - 2) (by omega)
          have c1 := hR.get (k - 7) (by omega)
          have c2 := hR.get (k - 15) (by omega)
          have c3 := hR.get (k - 16) (by omega)
          obtain ⟨hroom, hfr⟩ := hR.room k hlen (by omega)
          generalize (ext (words l) (k - 16)).getD (k - 2) 0 = b0 at *
          generalize (ext (words l) (k - 16)).getD (k - 7) 0 = b1 at *
          generalize (ext (words l) (k - 16)).getD (k - 15) 0 = b2 at *
          generalize (ext (words l) (k - 16)).getD (k - 16) 0 = b3 at *
          have HS := hide hS
          have HR := hide hR
          have HL := hide hlen
          clear hS hR hlen
          have hx := u_xor
          have hp := u_add
          have hp' := u_add'
          have h3 := u_shr3
          have h10 := u_shr10
          go_wp2_with fail
          refine (rr7 _ b2).mono ?_
          rintro e1 w1 ⟨rfl, rfl⟩
          go_wp2_with fail
          refine (rr18 _ b2).mono ?_
          rintro e1 w1 ⟨rfl, rfl⟩
          go_wp2_with fail
          refine (rr17 _ b0).mono ?_
          rintro e1 w1 ⟨rfl, rfl⟩
          go_wp2_with fail
          refine (rr19 _ b0).mono ?_
          rintro e1 w1 ⟨rfl, rfl⟩
          go_wp2_with fail
          go_region
          go_wp2_with fail
          refine ⟨⟨k + 1, by omega, by omega, by go_num, ?_⟩, by simp [intOf]; omega⟩
          rw [HS.out]
          exact (HR.out.store (by rw [HL.out]; exact hlt) k HL.out _).drew
        · obtain rfl : k = 64 := by omega
          have hb := hR.1
          have hrow := hR.2.2
          rw [hlen] at hrow
          simp only [Nat.sub_self, List.replicate_zero, List.append_nil] at hrow
          obtain ⟨z, hz, hz'⟩ := hR.2.1
          have hsz : (uc (ext (words l) 48)).size = 64 := by rw [uc_size]; exact hlen
          clear hR hlen
          have hi : (Tryz.prog.info? 149).map (·.size) = some (uc (ext (words l) 48)).size := by rw [hsz]; exact Tryz.infoA64
          have HI := hide hi
          have HZ := hide hz'
          have HS := hide hsz
          have hone := hide (uc_one (ext (words l) 48))
          clear hi hz' hsz
          have hrow' : wr.heap[w.heap.size + 1]? = some (.cells (uc (ext (words l) 48)) 149) := hrow
          clear hrow
          generalize hC : uc (ext (words l) 48) = C at *
          have HC := hide hC
          clear hC
          go_wp2_with (first | (refine wpList_load_row rfl 149 (.tmp 3) rfl _ rfl 149 C (0, 0) _ hrow' Tryz.underlying149 rfl HI.out ?_) | (refine wpList_store_arr _ rfl 149 (.tmp 2) (.tmp 92) rfl _ C rfl rfl 149 z hz HI.out (by rw [HZ.out, HS.out]) hone.out ?_; intro w2 hrow2 hg2))
          have hb2 := hb.grown hg2 hb.size (by intro k hk; injection hk with hk; omega)
          refine bodyPost_ret (v := .agg C) (results_cell_row rfl _ _ _ _ _ _ _ rfl hrow2 Tryz.underlying149 rfl HI.out) rfl ⟨ret_agg HC.out.symm, hb2⟩

end Go.Proofs.YtokebnkgjchfaaaGreatDoor

/-
  What the reference's constants answer. No condition.
-/
namespace Go.Proofs.YtokebnkgjchfaaaGreatDoor
open Go.RowKit

/-- The sixty-four, as they stand in the program's text. -/
def kB : Array (Nat × Operand) := ((List.range 64).map fun i => (i, Operand.const (.int .u32 (u (kL.getD i 0))))).toArray
theorem build43 (a : Act) (w : World) (d : Option Tmp) (ty : TypeId) (p : String) (af : Array Edge) (g : Option (Nat × Bool)) :
    (execOp a.eval { dst := d, op := .build 149 kB, type := ty, pos := p, after := af, guard := g }).run Tryz.prog w = .ok (.value (.agg (uc kL))) w := by
  kernel_rfl
theorem wpList_build43 (w : World) {ops : Array Oper} {rest : List Oper} {d : Option Tmp} {x : Array (Nat × Operand)} {ty : TypeId} {p : String} {af : Array Edge} {a : Act} {Q : Exit → Act → World → Prop} (hx : x = kB)
    (h : wpList Tryz.prog ops Q rest (a.put d (.agg (uc kL))) w) : wpList Tryz.prog ops Q ({ dst := d, op := .build 149 x, type := ty, pos := p, after := af, guard := none } :: rest) a w := by
  subst hx
  exact wpList_plain rfl fun K hK => by
    unfold Oper.wp
    rw [build43]
    exact hK _ _ h

set_option maxRecDepth 20000 in
theorem consts_any (w : World) : Calls Tryz.prog 94 #[] w fun e w' => e = .returned (.agg (uc kL)) ∧ Below w.heap.size w w' := by
  have hi : (Tryz.prog.info? 149).map (·.size) = some (uc kL).size := Tryz.infoA64
  have hz : (uc (List.replicate 64 0)).size = (uc kL).size := by rw [uc_size, uc_size]; rfl
  have ho := hide (uc_one kL)
  have hz0 := z64
  have HI := hide hi
  have HZ := hide hz
  clear hi hz
  go_enter Tryz.func94, Tryz.ntmps94
  go_wp2_with (first | (refine wpList_build43 _ (by kernel_rfl) ?_) | (refine wpList_store_arr _ rfl 149 (.tmp 0) (.tmp 1) rfl _ (uc kL) rfl rfl 149 (uc (List.replicate 64 0)) (heap_last _ _ _ rfl) HI.out HZ.out ho.out ?_; intro w2 hrow2 hg2))
  have hb2 := ((Below.refl w.heap.size w).alloc (Nat.le_refl _) _).grown hg2 (by simp) (by intro k hk; injection hk with hk; omega)
  exact bodyPost_ret (v := .agg (uc kL)) (results_cell_row rfl _ _ _ _ _ _ _ rfl hrow2 Tryz.underlying149 rfl HI.out) rfl ⟨rfl, hb2⟩
end Go.Proofs.YtokebnkgjchfaaaGreatDoor
