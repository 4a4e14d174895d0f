/-
  Texts joined: PRMany, PList, PRGo0.
-/
import Derived.Test.YtldfjpgcemfpjaaM20PRNode
/-
  How many pairs a map has, by the reference. Conditions: the objects lie there; texts within reach.
-/
namespace Go.Proofs.Ytldfjpgcemfpjaa
open Go.RowKit

theorem findO_short {objs : List Pair} (hob : ∀ o ∈ objs, o.2.length ≤ 140737488351232) (id b : Bs) (h : findO objs id = some b) : b.length ≤ 140737488355328 := by
  obtain ⟨o, ho, rfl⟩ := findO_mem h
  have := hob o ho
  omega
theorem RightM.links {n : NodeM} (h : RightM n) : n.2.1.length ≤ 64 ∧ (∀ k ∈ n.2.2, rlinkOk k = true) ∧ manyL n.2.2 ≤ 4096 ∧ n.2.2.length ≤ 64 := by
  by_cases hz : n.1 = 0
  · obtain ⟨h1, h2⟩ := h.leaf hz
    rw [h1]
    exact ⟨(leafOk_pairs h2).1, by simp, by simp [manyL], by simp⟩
  · have h3 := h.lo
    obtain ⟨h1, h2⟩ := h.branch (by omega)
    rw [h1]
    have h4 := branchOk_links h2
    exact ⟨by simp, h4.2, branch_sum h2, h4.1⟩
end Go.Proofs.Ytldfjpgcemfpjaa

/-
  Going to the pairs of a map between two keys, plainly. No program here.
-/
namespace Go.Proofs.Ytldfjpgcemfpjaa
open Go.RowKit

/-- What was asked, told so far; the first error. -/
structure LsS where
  asked : List Bs
  out : List Pair
  bad : Int
/-- From lo on, ahead of hi? -/
def inM (lo hi k : Bs) : Bool := !ltB k lo && (hi.isEmpty || ltB k hi)
/-- Is a key not behind the one that was told ahead of it? -/
def backM (s : LsS) (k : Bs) : Bool := !s.out.isEmpty && !ltB (lastP s.out) k
/-- The pairs of a leaf. -/
def takeM (lo hi : Bs) : List Pair → LsS → LsS
  | [], s => s
  | x :: r, s => if inM lo hi x.1 then (if backM s x.1 then ⟨s.asked, s.out, 122⟩ else takeM lo hi r ⟨s.asked, s.out ++ [x], s.bad⟩) else takeM lo hi r s
/-- Behind this kid there is none to go to. -/
def endM (hi k : Bs) : Bool := !hi.isEmpty && !ltB k hi
/-- The kids of a branch. -/
def eachM (f : Link → LsS → LsS) (lo hi : Bs) : List Link → LsS → LsS
  | [], s => s
  | k :: r, s => if endM hi k.1 then (if s.bad = 0 ∧ ltB k.1 lo = false then f k s else s) else eachM f lo hi r (if s.bad = 0 ∧ ltB k.1 lo = false then f k s else s)
/-- Going to a link, at most so many levels down. -/
def goM (fd : Bs → Option Bs) (lo hi : Bs) : Nat → Link → Int → LsS → LsS
  | 0, _, _, s => s
  | d + 1, k, level, s =>
    if (askM fd k level).1 ≠ 0 then ⟨s.asked ++ [k.2.1], s.out, (askM fd k level).1⟩
    else eachM (fun q t => goM fd lo hi d q ((askM fd k level).2.1 - 1) t) lo hi (askM fd k level).2.2.2 (takeM lo hi (askM fd k level).2.2.1 ⟨s.asked ++ [k.2.1], s.out, s.bad⟩)
def GrowM (s t : LsS) (n m : Nat) : Prop := t.asked.length ≤ s.asked.length + n ∧ t.out.length ≤ s.out.length + m
theorem GrowM.refl (s : LsS) : GrowM s s 0 0 := ⟨by omega, by omega⟩
theorem GrowM.trans {s t u : LsS} {n m n' m' : Nat} (h : GrowM s t n m) (k : GrowM t u n' m') : GrowM s u (n + n') (m + m') := ⟨by have := h.1; have := k.1; omega, by have := h.2; have := k.2; omega⟩
theorem GrowM.le {s t : LsS} {n m n' m' : Nat} (h : GrowM s t n m) (h1 : n ≤ n') (h2 : m ≤ m') : GrowM s t n' m' := ⟨by have := h.1; omega, by have := h.2; omega⟩
theorem takeM_grows (lo hi : Bs) : ∀ (ps : List Pair) (s : LsS), GrowM s (takeM lo hi ps s) 0 ps.length
  | [], s => GrowM.refl s
  | x :: r, s => by
    rw [takeM]
    by_cases h1 : inM lo hi x.1 = true
    · rw [if_pos h1]
      by_cases h2 : backM s x.1 = true
      · rw [if_pos h2]
        exact ⟨by simp only; omega, by simp only; omega⟩
      · rw [if_neg h2]
        obtain ⟨h3, h4⟩ := takeM_grows lo hi r ⟨s.asked, s.out ++ [x], s.bad⟩
        simp only [List.length_append, List.length_singleton] at h3 h4
        exact ⟨h3, by rw [List.length_cons]; omega⟩
    · rw [if_neg h1]
      exact (takeM_grows lo hi r s).le (Nat.le_refl _) (by simp)
theorem manyL_cons (k : Link) (r : List Link) : manyL (k :: r) = k.2.2 + manyL r := by simp [manyL]
theorem eachM_grows {f : Link → LsS → LsS} {c : Nat} {lo hi : Bs} (hf : ∀ k s, rlinkOk k = true → GrowM s (f k s) (c * k.2.2.toNat) k.2.2.toNat) : ∀ (ks : List Link) (s : LsS), (∀ k ∈ ks, rlinkOk k = true) → GrowM s (eachM f lo hi ks s) (c * (manyL ks).toNat) (manyL ks).toNat
  | [], s, _ => (GrowM.refl s).le (by simp) (by simp)
  | k :: r, s, h => by
    have h0 := h k (by simp)
    have h2 := manyL_many r (fun q hq => h q (by simp [hq]))
    have h3 := ((rlinkOk_iff k).1 h0).2.2.1
    have e : (manyL (k :: r)).toNat = k.2.2.toNat + (manyL r).toNat := by rw [manyL_cons]; omega
    have h1 : GrowM s (if s.bad = 0 ∧ ltB k.1 lo = false then f k s else s) (c * k.2.2.toNat) k.2.2.toNat := by
      by_cases hc : s.bad = 0 ∧ ltB k.1 lo = false
      · rw [if_pos hc]; exact hf k s h0
      · rw [if_neg hc]; exact (GrowM.refl s).le (by simp) (by simp)
    rw [eachM, e, Nat.mul_add]
    by_cases hc : endM hi k.1 = true
    · rw [if_pos hc]
      exact h1.le (by omega) (by omega)
    · rw [if_neg hc]
      exact h1.trans (eachM_grows hf r _ (fun q hq => h q (by simp [hq])))
theorem fitsM_count {n : NodeM} {k : Link} {level : Int} (h : fitsM n k level = true) : n.1 = level ∧ countM n = k.2.2 := by
  unfold fitsM at h
  simp only [Bool.and_eq_true, decide_eq_true_eq] at h
  exact h.1
theorem goM_grows (fd : Bs → Option Bs) (hs : ∀ id b, fd id = some b → b.length ≤ 140737488355328) (lo hi : Bs) : ∀ (d : Nat) (k : Link) (level : Int) (s : LsS), rlinkOk k = true → 0 ≤ level → level ≤ 20 → GrowM s (goM fd lo hi d k level s) (d * k.2.2.toNat) k.2.2.toNat
  | 0, k, level, s, _, _, _ => (GrowM.refl s).le (by simp) (by simp)
  | d + 1, k, level, s, hk, hl, hl2 => by
    have hm := ((rlinkOk_iff k).1 hk).2.2.1
    rw [goM]
    have hd : (d + 1) * k.2.2.toNat = d * k.2.2.toNat + k.2.2.toNat := by rw [Nat.add_mul]; simp
    by_cases h1 : (askM fd k level).1 ≠ 0
    · rw [if_pos h1]
      exact ⟨by simp only [List.length_append, List.length_singleton]; omega, by simp only; omega⟩
    · rw [if_neg h1]
      obtain ⟨hR, hF⟩ := askM_ok hs (by simpa using h1)
      rcases hF with hF | hF
      · omega
      obtain ⟨g1, g2⟩ := fitsM_count hF
      generalize (askM fd k level).2 = n at *
      obtain ⟨l1, l2, l3, l4⟩ := hR.links
      have h3 := takeM_grows lo hi n.2.1 ⟨s.asked ++ [k.2.1], s.out, s.bad⟩
      have h5 := manyL_many n.2.2 l2
      unfold countM at g2
      by_cases hz : n.1 = 0
      · obtain ⟨q1, q2⟩ := hR.leaf hz
        rw [q1, eachM]
        obtain ⟨x1, x2⟩ := h3
        simp only [List.length_append, List.length_singleton] at x1 x2
        rw [q1] at g2
        simp only [manyL, List.map_nil, List.sum_nil] at g2
        exact ⟨by omega, by omega⟩
      · have hlo := hR.lo
        have h4 := eachM_grows (f := fun q t => goM fd lo hi d q (n.1 - 1) t) (c := d) (lo := lo) (hi := hi) (fun q t hq => goM_grows fd hs lo hi d q (n.1 - 1) t hq (by omega) (by omega)) n.2.2 (takeM lo hi n.2.1 ⟨s.asked ++ [k.2.1], s.out, s.bad⟩) l2
        obtain ⟨x1, x2⟩ := h3.trans h4
        simp only [List.length_append, List.length_singleton] at x1 x2
        have h6 : (manyL n.2.2).toNat ≤ k.2.2.toNat := by omega
        have h7 := Nat.mul_le_mul_left d h6
        exact ⟨by omega, by omega⟩
/-- Of the root. -/
theorem goM_root (fd : Bs → Option Bs) (hs : ∀ id b, fd id = some b → b.length ≤ 140737488355328) (lo hi : Bs) (d : Nat) (k : Link) (s : LsS) : GrowM s (goM fd lo hi (d + 1) k (-1) s) (1 + d * 4096) 4160 := by
  rw [goM]
  by_cases h1 : (askM fd k (-1)).1 ≠ 0
  · rw [if_pos h1]
    exact ⟨by simp only [List.length_append, List.length_singleton]; omega, by simp only; omega⟩
  · rw [if_neg h1]
    obtain ⟨hR, -⟩ := askM_ok hs (by simpa using h1)
    generalize (askM fd k (-1)).2 = n at *
    obtain ⟨l1, l2, l3, l4⟩ := hR.links
    have h3 := takeM_grows lo hi n.2.1 ⟨s.asked ++ [k.2.1], s.out, s.bad⟩
    have hlo := hR.lo
    have hhi := hR.hi
    by_cases hz : n.1 = 0
    · obtain ⟨q1, q2⟩ := hR.leaf hz
      rw [q1, eachM]
      obtain ⟨x1, x2⟩ := h3
      simp only [List.length_append, List.length_singleton] at x1 x2
      exact ⟨by omega, by omega⟩
    · have h4 := eachM_grows (f := fun q t => goM fd lo hi d q (n.1 - 1) t) (c := d) (lo := lo) (hi := hi) (fun q t hq => goM_grows fd hs lo hi d q (n.1 - 1) t hq (by omega) (by omega)) n.2.2 (takeM lo hi n.2.1 ⟨s.asked ++ [k.2.1], s.out, s.bad⟩) l2
      obtain ⟨x1, x2⟩ := h3.trans h4
      simp only [List.length_append, List.length_singleton] at x1 x2
      have h6 : (manyL n.2.2).toNat ≤ 4096 := by omega
      have h7 := Nat.mul_le_mul_left d h6
      exact ⟨by omega, by omega⟩
end Go.Proofs.Ytldfjpgcemfpjaa

/-
  The reference's list under way. Conditions: not too many.
-/
namespace Go.Proofs.Ytldfjpgcemfpjaa
open Go.RowKit

/-- The reference's list g: the objects, what was asked, told (the row vp), the first error. -/
def RlW (B : Nat) (w : World) (g : Nat) (vo : Value) (objs : List Pair) (vp : Value) (s : LsS) : Prop :=
  B ≤ g ∧ Ls B w 2 pairC vo objs ∧ ∃ va, w.heap[g]? = some (.cells #[vo, va, vp, .int .i64 s.bad] 90) ∧ Rw B w 9 1 idC va s.asked ∧ Rw B w 48 2 pairC vp s.out
/-- What it moves. -/
abbrev lts : List TypeId := [9, 90]
theorem RlW.le {B : Nat} {w : World} {g : Nat} {vo : Value} {objs : List Pair} {vp : Value} {s : LsS} (h : RlW B w g vo objs vp s) : B ≤ w.heap.size := by
  obtain ⟨hg, -, va, hh, -⟩ := h
  have := lt_of_heap hh
  omega
theorem RlW.below {B : Nat} {w w' : World} {g : Nat} {vo : Value} {objs : List Pair} {vp : Value} {s : LsS} (h : RlW B w g vo objs vp s) (hb : Below w.heap.size w w') : RlW B w' g vo objs vp s := by
  have hB := h.le
  obtain ⟨hg, hl, va, hh, h1, h3⟩ := h
  exact ⟨hg, hl.keep (hb.mono hB), va, (hb.block _ (lt_of_heap hh)).trans hh, own_same h1 (fun q hq => hb.block q (h1.lt q hq).2), own_same h3 (fun q hq => hb.block q (h3.lt q hq).2)⟩
theorem RlW.lt {B : Nat} {w : World} {g : Nat} {vo : Value} {objs : List Pair} {vp : Value} {s : LsS} (h : RlW B w g vo objs vp s) {q : Nat} (hq : vp.ownBlock = some q) : q < w.heap.size := by
  obtain ⟨-, -, va, -, -, h3⟩ := h
  exact (h3.lt q hq).2
theorem set4 {w : World} {g : Nat} {v0 v1 v2 v3 : Value} {t : TypeId} (h : w.heap[g]? = some (.cells #[v0, v1, v2, v3] t)) (u : Value) :
    (w.setCell ⟨g, 1, none⟩ u).heap[g]? = some (.cells #[v0, u, v2, v3] t) ∧ (w.setCell ⟨g, 2, none⟩ u).heap[g]? = some (.cells #[v0, v1, u, v3] t) ∧ (w.setCell ⟨g, 3, none⟩ u).heap[g]? = some (.cells #[v0, v1, v2, u] t) := by
  refine ⟨?_, ?_, ?_⟩ <;> (rw [heap_setCell _ _ _ _ _ _ _ h]; simp)
/-- One more is asked. -/
theorem RlW.ask {B : Nat} {w : World} {g : Nat} {vo : Value} {objs : List Pair} {vp : Value} {s : LsS} (h : RlW B w g vo objs vp s) (id : Bs) (hn : s.asked.length ≤ 4294967296) :
    ∃ va va' w1, w.heap[g]? = some (.cells #[vo, va, vp, .int .i64 s.bad] 90) ∧ (∃ a m c, va' = .slice a m c) ∧
      (Builtin.append_ #[34, 34] 34 #[va, .slice (some ⟨w.heap.size, 0, none⟩) 1 1]).run Try.prog (w.alloc (.cells #[.string (strB id)] 9)).drew = .ok va' w1 ∧
      w1.heap[g]? = some (.cells #[vo, va, vp, .int .i64 s.bad] 90) ∧ RlW B (w1.setCell ⟨g, 1, none⟩ va') g vo objs vp ⟨s.asked ++ [id], s.out, s.bad⟩ ∧ Mv B lts none w w1 ∧ Mv B lts none w (w1.setCell ⟨g, 1, none⟩ va') := by
  have hB := h.le
  obtain ⟨hg, hl, va, hh, h1, h3⟩ := h
  obtain ⟨va', w1, hrun, hrow, hgr, -⟩ := app_id w.drew B va s.asked id h1 hB hn
  rw [drew_alloc] at hrun hgr
  rw [show w.drew.heap.size = w.heap.size from rfl] at hrun
  have h1' : Rw B (w.alloc (.cells #[.string (strB id)] 9)).drew 9 1 idC va s.asked := World.ownsRow.alloc h1 _
  have h3' : Rw B (w.alloc (.cells #[.string (strB id)] 9)).drew 48 2 pairC vp s.out := World.ownsRow.alloc h3 _
  have hh' := (heap_past w (.cells #[.string (strB id)] 9) _ (lt_of_heap hh)).trans hh
  have hh1 := grow_keep h1' hgr (show (w.alloc _).drew.heap[g]? = _ from hh') (by decide)
  have hm1 : Mv B lts none w w1 := ((Mv.refl B lts none w).alloc hB _).drew.grown h1' hgr (by decide) (by simp; omega)
  have hm2 := hm1.set (j := 1) hh1 (by decide) hg va'
  refine ⟨va, va', w1, hh, row_form hrow, hrun, hh1, ⟨hg, hl.keep hm2.b, va', (set4 hh1 _).1, own_setCell hrow hh1 (by decide) _, own_setCell (grow_other h3' h1' hgr (own_ne h3' h1' (by decide))) hh1 (by decide) _⟩, hm1, hm2⟩
/-- One more pair is told. -/
theorem RlW.tell {B : Nat} {w : World} {g : Nat} {vo : Value} {objs : List Pair} {vp : Value} {s : LsS} (h : RlW B w g vo objs vp s) (p : Pair) (hn : s.out.length ≤ 4294967296) :
    ∃ va vp' w1, w.heap[g]? = some (.cells #[vo, va, vp, .int .i64 s.bad] 90) ∧ (∃ a m c, vp' = .slice a m c) ∧
      (Builtin.append_ #[49, 49] 49 #[vp, .slice (some ⟨w.heap.size, 0, none⟩) 1 1]).run Try.prog (w.alloc (.cells #[.string (strB p.1), .string (strB p.2)] 48)).drew = .ok vp' w1 ∧
      w1.heap[g]? = some (.cells #[vo, va, vp, .int .i64 s.bad] 90) ∧ RlW B (w1.setCell ⟨g, 2, none⟩ vp') g vo objs vp' ⟨s.asked, s.out ++ [p], s.bad⟩ ∧ Mv B lts vp.ownBlock w w1 ∧ Mv B lts vp.ownBlock w (w1.setCell ⟨g, 2, none⟩ vp') ∧ Nx w vp.ownBlock vp'.ownBlock := by
  have hB := h.le
  obtain ⟨hg, hl, va, hh, h1, h3⟩ := h
  obtain ⟨vp', w1, hrun, hrow, hgr, hloc⟩ := app_pair w.drew B vp s.out p h3 hB hn
  rw [drew_alloc] at hrun hgr
  rw [show w.drew.heap.size = w.heap.size from rfl] at hrun hloc
  have h1' : Rw B (w.alloc (.cells #[.string (strB p.1), .string (strB p.2)] 48)).drew 9 1 idC va s.asked := World.ownsRow.alloc h1 _
  have h3' : Rw B (w.alloc (.cells #[.string (strB p.1), .string (strB p.2)] 48)).drew 48 2 pairC vp s.out := World.ownsRow.alloc h3 _
  have hh' := (heap_past w (.cells #[.string (strB p.1), .string (strB p.2)] 48) _ (lt_of_heap hh)).trans hh
  have hh1 := grow_keep h3' hgr (show (w.alloc _).drew.heap[g]? = _ from hh') (by decide)
  have hm1 : Mv B lts vp.ownBlock w w1 := ((Mv.refl B lts vp.ownBlock w).alloc hB _).drew.grownRow h3' hgr (Nx.refl _ _) (by simp; omega)
  have hm2 := hm1.set (j := 2) hh1 (by decide) hg vp'
  refine ⟨va, vp', w1, hh, row_form hrow, hrun, hh1, ⟨hg, hl.keep hm2.b, va, (set4 hh1 _).2.1, own_setCell (grow_other h1' h3' hgr (own_ne h1' h3' (by decide))) hh1 (by decide) _, own_setCell hrow hh1 (by decide) _⟩, hm1, hm2, ?_⟩
  rcases hloc with h | h
  · exact .inl h
  · exact .inr ⟨_, h, by omega⟩
/-- The error is laid. -/
theorem RlW.err {B : Nat} {w : World} {g : Nat} {vo : Value} {objs : List Pair} {vp : Value} {s : LsS} (h : RlW B w g vo objs vp s) (e : Int) : RlW B (w.setCell ⟨g, 3, none⟩ (.int .i64 e)) g vo objs vp ⟨s.asked, s.out, e⟩ ∧ Mv B lts none w (w.setCell ⟨g, 3, none⟩ (.int .i64 e)) := by
  obtain ⟨hg, hl, va, hh, h1, h3⟩ := h
  have hm : Mv B lts none w (w.setCell ⟨g, 3, none⟩ (.int .i64 e)) := (Mv.refl B lts none w).set (j := 3) hh (by decide) hg _
  exact ⟨⟨hg, hl.keep hm.b, va, (set4 hh _).2.2, own_setCell h1 hh (by decide) _, own_setCell h3 hh (by decide) _⟩, hm⟩
/-- The first ones of what is gone to. -/
theorem takeM_skip {lo hi : Bs} {x : Pair} {r : List Pair} {s : LsS} (h : inM lo hi x.1 = false) : takeM lo hi (x :: r) s = takeM lo hi r s := by rw [takeM, if_neg (by rw [h]; simp)]
theorem takeM_stop {lo hi : Bs} {x : Pair} {r : List Pair} {s : LsS} (h : inM lo hi x.1 = true) (h2 : backM s x.1 = true) : takeM lo hi (x :: r) s = ⟨s.asked, s.out, 122⟩ := by rw [takeM, if_pos h, if_pos h2]
theorem takeM_more {lo hi : Bs} {x : Pair} {r : List Pair} {s : LsS} (h : inM lo hi x.1 = true) (h2 : backM s x.1 = false) : takeM lo hi (x :: r) s = takeM lo hi r ⟨s.asked, s.out ++ [x], s.bad⟩ := by rw [takeM, if_pos h, if_neg (by rw [h2]; simp)]
end Go.Proofs.Ytldfjpgcemfpjaa
