/-
  Texts joined: PRMany, PList, PGoT, PSize, PEnd.
-/
import Derived.Test.YtimbleaafoiidaaGreatDoorE20PRNode
import Derived.Test.YtimbleaafoiidaaGreatDoorE17PPlain
import Derived.Test.YtimbleaafoiidaaGreatDoorE19PRow
import Derived.Test.YtimbleaafoiidaaGreatDoorE10OEntry2
/-
  How many pairs a map has, by the reference. Conditions: the objects lie there; texts within reach.
-/
namespace Go.Proofs.YtimbleaafoiidaaGreatDoor
open Go.RowKit

theorem findO_short {objs : List Pair} (hob : ∀ o ∈ objs, o.2.length ≤ 140737488351232) (id b : Bs) (h : findO objs id = some b) : b.length ≤ 140737488355328 := by
  obtain ⟨o, ho, rfl⟩ := findO_mem h
  have := hob o ho
  omega
theorem RightM.links {n : NodeM} (h : RightM n) : n.2.1.length ≤ 64 ∧ (∀ k ∈ n.2.2, rlinkOk k = true) ∧ manyL n.2.2 ≤ 4096 ∧ n.2.2.length ≤ 64 := by
  by_cases hz : n.1 = 0
  · obtain ⟨h1, h2⟩ := h.leaf hz
    rw [h1]
    exact ⟨(leafOk_pairs h2).1, by simp, by simp [manyL], by simp⟩
  · have h3 := h.lo
    obtain ⟨h1, h2⟩ := h.branch (by omega)
    rw [h1]
    have h4 := branchOk_links h2
    exact ⟨by simp, h4.2, branch_sum h2, h4.1⟩
end Go.Proofs.YtimbleaafoiidaaGreatDoor

/-
  Going to the pairs of a map between two keys, plainly. No program here.
-/
namespace Go.Proofs.YtimbleaafoiidaaGreatDoor
open Go.RowKit

/-- What was asked, told so far; the first error. -/
structure LsS where
  asked : List Bs
  out : List Pair
  bad : Int
/-- From lo on, ahead of hi? -/
def inM (lo hi k : Bs) : Bool := !ltB k lo && (hi.isEmpty || ltB k hi)
/-- Is a key not behind the one that was told ahead of it? -/
def backM (s : LsS) (k : Bs) : Bool := !s.out.isEmpty && !ltB (lastP s.out) k
/-- The pairs of a leaf. -/
def takeM (lo hi : Bs) : List Pair → LsS → LsS
  | [], s => s
  | x :: r, s => if inM lo hi x.1 then (if backM s x.1 then ⟨s.asked, s.out, 122⟩ else takeM lo hi r ⟨s.asked, s.out ++ [x], s.bad⟩) else takeM lo hi r s
/-- Behind this kid there is none to go to. -/
def endM (hi k : Bs) : Bool := !hi.isEmpty && !ltB k hi
/-- The kids of a branch. -/
def eachM (f : Link → LsS → LsS) (lo hi : Bs) : List Link → LsS → LsS
  | [], s => s
  | k :: r, s => if endM hi k.1 then (if s.bad = 0 ∧ ltB k.1 lo = false then f k s else s) else eachM f lo hi r (if s.bad = 0 ∧ ltB k.1 lo = false then f k s else s)
/-- Going to a link, at most so many levels down. -/
def goM (fd : Bs → Option Bs) (lo hi : Bs) : Nat → Link → Int → LsS → LsS
  | 0, _, _, s => s
  | d + 1, k, level, s =>
    if (askM fd k level).1 ≠ 0 then ⟨s.asked ++ [k.2.1], s.out, (askM fd k level).1⟩
    else eachM (fun q t => goM fd lo hi d q ((askM fd k level).2.1 - 1) t) lo hi (askM fd k level).2.2.2 (takeM lo hi (askM fd k level).2.2.1 ⟨s.asked ++ [k.2.1], s.out, s.bad⟩)
def GrowM (s t : LsS) (n m : Nat) : Prop := t.asked.length ≤ s.asked.length + n ∧ t.out.length ≤ s.out.length + m
theorem GrowM.refl (s : LsS) : GrowM s s 0 0 := ⟨by omega, by omega⟩
theorem GrowM.trans {s t u : LsS} {n m n' m' : Nat} (h : GrowM s t n m) (k : GrowM t u n' m') : GrowM s u (n + n') (m + m') := ⟨by have := h.1; have := k.1; omega, by have := h.2; have := k.2; omega⟩
theorem GrowM.le {s t : LsS} {n m n' m' : Nat} (h : GrowM s t n m) (h1 : n ≤ n') (h2 : m ≤ m') : GrowM s t n' m' := ⟨by have := h.1; omega, by have := h.2; omega⟩
theorem takeM_grows (lo hi : Bs) : ∀ (ps : List Pair) (s : LsS), GrowM s (takeM lo hi ps s) 0 ps.length
  | [], s => GrowM.refl s
  | x :: r, s => by
    rw [takeM]
    by_cases h1 : inM lo hi x.1 = true
    · rw [if_pos h1]
      by_cases h2 : backM s x.1 = true
      · rw [if_pos h2]
        exact ⟨by simp only; omega, by simp only; omega⟩
      · rw [if_neg h2]
        obtain ⟨h3, h4⟩ := takeM_grows lo hi r ⟨s.asked, s.out ++ [x], s.bad⟩
        simp only [List.length_append, List.length_singleton] at h3 h4
        exact ⟨h3, by rw [List.length_cons]; omega⟩
    · rw [if_neg h1]
      exact (takeM_grows lo hi r s).le (Nat.le_refl _) (by simp)
theorem manyL_cons (k : Link) (r : List Link) : manyL (k :: r) = k.2.2 + manyL r := by simp [manyL]
theorem eachM_grows {f : Link → LsS → LsS} {c : Nat} {lo hi : Bs} (hf : ∀ k s, rlinkOk k = true → GrowM s (f k s) (c * k.2.2.toNat) k.2.2.toNat) : ∀ (ks : List Link) (s : LsS), (∀ k ∈ ks, rlinkOk k = true) → GrowM s (eachM f lo hi ks s) (c * (manyL ks).toNat) (manyL ks).toNat
  | [], s, _ => (GrowM.refl s).le (by simp) (by simp)
  | k :: r, s, h => by
    have h0 := h k (by simp)
    have h2 := manyL_many r (fun q hq => h q (by simp [hq]))
    have h3 := ((rlinkOk_iff k).1 h0).2.2.1
    have e : (manyL (k :: r)).toNat = k.2.2.toNat + (manyL r).toNat := by rw [manyL_cons]; omega
    have h1 : GrowM s (if s.bad = 0 ∧ ltB k.1 lo = false then f k s else s) (c * k.2.2.toNat) k.2.2.toNat := by
      by_cases hc : s.bad = 0 ∧ ltB k.1 lo = false
      · rw [if_pos hc]; exact hf k s h0
      · rw [if_neg hc]; exact (GrowM.refl s).le (by simp) (by simp)
    rw [eachM, e, Nat.mul_add]
    by_cases hc : endM hi k.1 = true
    · rw [if_pos hc]
      exact h1.le (by omega) (by omega)
    · rw [if_neg hc]
      exact h1.trans (eachM_grows hf r _ (fun q hq => h q (by simp [hq])))
theorem fitsM_count {n : NodeM} {k : Link} {level : Int} (h : fitsM n k level = true) : n.1 = level ∧ countM n = k.2.2 := by
  unfold fitsM at h
  simp only [Bool.and_eq_true, decide_eq_true_eq] at h
  exact h.1
theorem goM_grows (fd : Bs → Option Bs) (hs : ∀ id b, fd id = some b → b.length ≤ 140737488355328) (lo hi : Bs) : ∀ (d : Nat) (k : Link) (level : Int) (s : LsS), rlinkOk k = true → 0 ≤ level → level ≤ 20 → GrowM s (goM fd lo hi d k level s) (d * k.2.2.toNat) k.2.2.toNat
  | 0, k, level, s, _, _, _ => (GrowM.refl s).le (by simp) (by simp)
  | d + 1, k, level, s, hk, hl, hl2 => by
    have hm := ((rlinkOk_iff k).1 hk).2.2.1
    rw [goM]
    have hd : (d + 1) * k.2.2.toNat = d * k.2.2.toNat + k.2.2.toNat := by rw [Nat.add_mul]; simp
    by_cases h1 : (askM fd k level).1 ≠ 0
    · rw [if_pos h1]
      exact ⟨by simp only [List.length_append, List.length_singleton]; omega, by simp only; omega⟩
    · rw [if_neg h1]
      obtain ⟨hR, hF⟩ := askM_ok hs (by simpa using h1)
      rcases hF with hF | hF
      · omega
      obtain ⟨g1, g2⟩ := fitsM_count hF
      generalize (askM fd k level).2 = n at *
      obtain ⟨l1, l2, l3, l4⟩ := hR.links
      have h3 := takeM_grows lo hi n.2.1 ⟨s.asked ++ [k.2.1], s.out, s.bad⟩
      have h5 := manyL_many n.2.2 l2
      unfold countM at g2
      by_cases hz : n.1 = 0
      · obtain ⟨q1, q2⟩ := hR.leaf hz
        rw [q1, eachM]
        obtain ⟨x1, x2⟩ := h3
        simp only [List.length_append, List.length_singleton] at x1 x2
        rw [q1] at g2
        simp only [manyL, List.map_nil, List.sum_nil] at g2
        exact ⟨by omega, by omega⟩
      · have hlo := hR.lo
        have h4 := eachM_grows (f := fun q t => goM fd lo hi d q (n.1 - 1) t) (c := d) (lo := lo) (hi := hi) (fun q t hq => goM_grows fd hs lo hi d q (n.1 - 1) t hq (by omega) (by omega)) n.2.2 (takeM lo hi n.2.1 ⟨s.asked ++ [k.2.1], s.out, s.bad⟩) l2
        obtain ⟨x1, x2⟩ := h3.trans h4
        simp only [List.length_append, List.length_singleton] at x1 x2
        have h6 : (manyL n.2.2).toNat ≤ k.2.2.toNat := by omega
        have h7 := Nat.mul_le_mul_left d h6
        exact ⟨by omega, by omega⟩
/-- Of the root. -/
theorem goM_root (fd : Bs → Option Bs) (hs : ∀ id b, fd id = some b → b.length ≤ 140737488355328) (lo hi : Bs) (d : Nat) (k : Link) (s : LsS) : GrowM s (goM fd lo hi (d + 1) k (-1) s) (1 + d * 4096) 4160 := by
  rw [goM]
  by_cases h1 : (askM fd k (-1)).1 ≠ 0
  · rw [if_pos h1]
    exact ⟨by simp only [List.length_append, List.length_singleton]; omega, by simp only; omega⟩
  · rw [if_neg h1]
    obtain ⟨hR, -⟩ := askM_ok hs (by simpa using h1)
    generalize (askM fd k (-1)).2 = n at *
    obtain ⟨l1, l2, l3, l4⟩ := hR.links
    have h3 := takeM_grows lo hi n.2.1 ⟨s.asked ++ [k.2.1], s.out, s.bad⟩
    have hlo := hR.lo
    have hhi := hR.hi
    by_cases hz : n.1 = 0
    · obtain ⟨q1, q2⟩ := hR.leaf hz
      rw [q1, eachM]
      obtain ⟨x1, x2⟩ := h3
      simp only [List.length_append, List.length_singleton] at x1 x2
      exact ⟨by omega, by omega⟩
    · have h4 := eachM_grows (f := fun q t => goM fd lo hi d q (n.1 - 1) t) (c := d) (lo := lo) (hi := hi) (fun q t hq => goM_grows fd hs lo hi d q (n.1 - 1) t hq (by omega) (by omega)) n.2.2 (takeM lo hi n.2.1 ⟨s.asked ++ [k.2.1], s.out, s.bad⟩) l2
      obtain ⟨x1, x2⟩ := h3.trans h4
      simp only [List.length_append, List.length_singleton] at x1 x2
      have h6 : (manyL n.2.2).toNat ≤ 4096 := by omega
      have h7 := Nat.mul_le_mul_left d h6
      exact ⟨by omega, by omega⟩
end Go.Proofs.YtimbleaafoiidaaGreatDoor

/-
  Going through a map's pairs and telling each to somebody, plainly: somebody may say 'no more'. No program here.
-/
namespace Go.Proofs.YtimbleaafoiidaaGreatDoor
open Go.RowKit

/-- What was asked so far, the last key that was told, what whoever is told has come to. -/
structure Tst (σ : Type) where
  asked : List Bs
  told : Bs
  s : σ
/-- Whoever is told: what a pair makes of it, and whether to go on; what an error makes of it; how many pairs it was told. -/
structure Sink (σ : Type) where
  st : σ → Pair → σ × Bool
  er : σ → Int → σ
  cap : σ → Nat
  grows : ∀ s x, cap (st s x).1 ≤ cap s + 1
  stays : ∀ s e, cap (er s e) ≤ cap s
variable {σ : Type}
/-- The pairs of a leaf. -/
def tellT (k : Sink σ) (lo hi : Bs) : List Pair → Tst σ → Tst σ × Bool
  | [], t => (t, true)
  | x :: r, t => if inM lo hi x.1 then (if ltB t.told x.1 then (if (k.st t.s x).2 then tellT k lo hi r ⟨t.asked, x.1, (k.st t.s x).1⟩ else (⟨t.asked, x.1, (k.st t.s x).1⟩, false)) else (⟨t.asked, t.told, k.er t.s 122⟩, false)) else tellT k lo hi r t
/-- The kids of a branch. -/
def eachT (f : Link → Tst σ → Tst σ × Bool) (lo hi : Bs) : List Link → Tst σ → Tst σ × Bool
  | [], t => (t, true)
  | k :: r, t =>
    if ltB k.1 lo then (if endM hi k.1 then (t, true) else eachT f lo hi r t)
    else if (f k t).2 then (if endM hi k.1 then ((f k t).1, true) else eachT f lo hi r (f k t).1)
    else ((f k t).1, false)
/-- Into a node that was asked for. -/
def intoT (k : Sink σ) (f : Link → Int → Tst σ → Tst σ × Bool) (lo hi : Bs) (a : Int × NodeM) (t : Tst σ) : Tst σ × Bool :=
  if a.1 ≠ 0 then (⟨t.asked, t.told, k.er t.s a.1⟩, false)
  else if (tellT k lo hi a.2.2.1 t).2 then eachT (fun q u => f q (a.2.1 - 1) u) lo hi a.2.2.2 (tellT k lo hi a.2.2.1 t).1
  else ((tellT k lo hi a.2.2.1 t).1, false)
def goT (k : Sink σ) (fd : Bs → Option Bs) (lo hi : Bs) : Nat → Link → Int → Tst σ → Tst σ × Bool
  | 0, _, _, t => (t, false)
  | d + 1, q, level, t => intoT k (goT k fd lo hi d) lo hi (askM fd q level) ⟨t.asked ++ [q.2.1], t.told, t.s⟩
/-- How much more was asked, told. -/
def GrowT (k : Sink σ) (s t : Tst σ) (n m : Nat) : Prop := t.asked.length ≤ s.asked.length + n ∧ k.cap t.s ≤ k.cap s.s + m
theorem GrowT.refl {k : Sink σ} (s : Tst σ) : GrowT k s s 0 0 := ⟨by omega, by omega⟩
theorem GrowT.trans {k : Sink σ} {s t u : Tst σ} {n m n' m' : Nat} (h : GrowT k s t n m) (g : GrowT k t u n' m') : GrowT k s u (n + n') (m + m') := ⟨by have := h.1; have := g.1; omega, by have := h.2; have := g.2; omega⟩
theorem GrowT.le {k : Sink σ} {s t : Tst σ} {n m n' m' : Nat} (h : GrowT k s t n m) (h1 : n ≤ n') (h2 : m ≤ m') : GrowT k s t n' m' := ⟨by have := h.1; omega, by have := h.2; omega⟩
theorem tellT_grows (k : Sink σ) (lo hi : Bs) : ∀ (ps : List Pair) (t : Tst σ), GrowT k t (tellT k lo hi ps t).1 0 ps.length
  | [], t => GrowT.refl t
  | x :: r, t => by
    rw [tellT]
    have h0 := k.grows t.s x
    by_cases h1 : inM lo hi x.1 = true
    · rw [if_pos h1]
      by_cases h2 : ltB t.told x.1 = true
      · rw [if_pos h2]
        by_cases h3 : (k.st t.s x).2 = true
        · rw [if_pos h3]
          obtain ⟨g1, g2⟩ := tellT_grows k lo hi r ⟨t.asked, x.1, (k.st t.s x).1⟩
          exact ⟨g1, by simp only at g2; rw [List.length_cons]; omega⟩
        · rw [if_neg h3]
          exact ⟨by simp only; omega, by simp only [List.length_cons]; omega⟩
      · rw [if_neg h2]
        have := k.stays t.s 122
        exact ⟨by simp only; omega, by simp only [List.length_cons]; omega⟩
    · rw [if_neg h1]
      exact (tellT_grows k lo hi r t).le (Nat.le_refl _) (by simp)
theorem eachT_grows {k : Sink σ} {f : Link → Tst σ → Tst σ × Bool} {c : Nat} {lo hi : Bs} (hf : ∀ q t, rlinkOk q = true → GrowT k t (f q t).1 (c * q.2.2.toNat) q.2.2.toNat) : ∀ (ks : List Link) (t : Tst σ), (∀ q ∈ ks, rlinkOk q = true) → GrowT k t (eachT f lo hi ks t).1 (c * (manyL ks).toNat) (manyL ks).toNat
  | [], t, _ => (GrowT.refl t).le (by simp) (by simp)
  | q :: r, t, h => by
    have h0 := h q (by simp)
    have h2 := manyL_many r (fun p hp => h p (by simp [hp]))
    have h3 := ((rlinkOk_iff q).1 h0).2.2.1
    have e : (manyL (q :: r)).toNat = q.2.2.toNat + (manyL r).toNat := by rw [manyL_cons]; omega
    have h1 := hf q t h0
    have hr := fun u => eachT_grows (lo := lo) (hi := hi) hf r u (fun p hp => h p (by simp [hp]))
    rw [eachT, e, Nat.mul_add]
    split
    · split
      · exact (GrowT.refl t).le (by simp) (by simp)
      · exact (hr t).le (by omega) (by omega)
    · split
      · split
        · exact h1.le (by omega) (by omega)
        · exact h1.trans (hr _)
      · exact h1.le (by omega) (by omega)
theorem intoT_grows {k : Sink σ} {f : Link → Int → Tst σ → Tst σ × Bool} {c : Nat} {lo hi : Bs} {n : NodeM} (hR : RightM n) (hf : 1 ≤ n.1 → ∀ q t, rlinkOk q = true → GrowT k t (f q (n.1 - 1) t).1 (c * q.2.2.toNat) q.2.2.toNat) (e : Int) (t : Tst σ) : GrowT k t (intoT k f lo hi (e, n) t).1 (c * (manyL n.2.2).toNat) (n.2.1.length + (manyL n.2.2).toNat) := by
  unfold intoT
  have h1 := k.stays t.s e
  split
  · exact ⟨by simp only; omega, by simp only; omega⟩
  · have h2 := tellT_grows k lo hi n.2.1 t
    split
    · by_cases h0 : 1 ≤ n.1
      · have h3 := eachT_grows (f := fun q u => f q (n.1 - 1) u) (lo := lo) (hi := hi) (hf h0) n.2.2 (tellT k lo hi n.2.1 t).1 hR.links.2.1
        have := h2.trans h3
        exact this.le (by omega) (by omega)
      · have hz : n.1 = 0 := by have := hR.lo; omega
        obtain ⟨q1, -⟩ := hR.leaf hz
        simp only [q1, eachT]
        exact h2.le (by omega) (by omega)
    · exact h2.le (by omega) (by omega)
theorem goT_grows {k : Sink σ} (fd : Bs → Option Bs) (hs : ∀ id b, fd id = some b → b.length ≤ 140737488355328) (lo hi : Bs) : ∀ (d : Nat) (q : Link) (level : Int) (t : Tst σ), rlinkOk q = true → 0 ≤ level → level ≤ 20 → GrowT k t (goT k fd lo hi d q level t).1 (d * q.2.2.toNat) q.2.2.toNat
  | 0, q, level, t, _, _, _ => (GrowT.refl t).le (by simp) (by simp)
  | d + 1, q, level, t, hk, hl, hl2 => by
    have hm := ((rlinkOk_iff q).1 hk).2.2.1
    have hd : (d + 1) * q.2.2.toNat = d * q.2.2.toNat + q.2.2.toNat := by rw [Nat.add_mul]; simp
    rw [goT]
    obtain ⟨e, n, hen⟩ : ∃ e n, askM fd q level = (e, n) := ⟨_, _, rfl⟩
    rw [hen]
    by_cases h1 : e = 0
    · have hok := askM_ok (fd := fd) (k := q) (level := level) hs (by rw [hen]; exact h1)
      rw [hen] at hok
      have hok : RightM n ∧ (level < 0 ∨ fitsM n q level = true) := hok
      obtain ⟨hR, hF⟩ := hok
      rcases hF with hF | hF
      · omega
      obtain ⟨g1, g2⟩ := fitsM_count hF
      unfold countM at g2
      have h5 := manyL_many n.2.2 hR.links.2.1
      have := intoT_grows (k := k) (f := goT k fd lo hi d) (c := d) (lo := lo) (hi := hi) hR (fun h0 p u hp => goT_grows fd hs lo hi d p (n.1 - 1) u hp (by omega) (by have := hR.hi; omega)) e ⟨t.asked ++ [q.2.1], t.told, t.s⟩
      obtain ⟨x1, x2⟩ := this
      simp only [List.length_append, List.length_singleton] at x1 x2
      have h6 : (manyL n.2.2).toNat ≤ q.2.2.toNat := by omega
      have h7 := Nat.mul_le_mul_left d h6
      exact ⟨by omega, by omega⟩
    · unfold intoT
      rw [if_pos h1]
      have := k.stays t.s e
      exact ⟨by simp only [List.length_append, List.length_singleton]; omega, by simp only; omega⟩
/-- Whoever is told keeps a list, up to the first error. -/
def listSink : Sink (List Pair × Int) where
  st s x := ((s.1 ++ [x], s.2), true)
  er s e := (s.1, e)
  cap s := s.1.length
  grows s x := by simp
  stays s e := by simp
/-- It is what goM says. -/
def Same (u : LsS) (t : Tst (List Pair × Int) × Bool) : Prop := u.asked = t.1.asked ∧ u.out = t.1.s.1 ∧ u.bad = t.1.s.2 ∧ (t.2 = true ↔ u.bad = 0) ∧ (u.bad = 0 → t.1.told = lastP u.out)
theorem told_first {out : List Pair} {k : Bs} (hk : 1 ≤ k.length) (asked : List Bs) (bad : Int) : backM ⟨asked, out, bad⟩ k = !ltB (lastP out) k := by
  unfold backM
  cases out with
  | nil =>
    cases k with
    | nil => simp at hk
    | cons a r => simp [lastP, ltB_nil_cons]
  | cons a r => simp
theorem tellT_same (lo hi : Bs) : ∀ (ps : List Pair) (asked : List Bs) (out : List Pair) (told : Bs), (∀ p ∈ ps, 1 ≤ p.1.length) → told = lastP out → Same (takeM lo hi ps ⟨asked, out, 0⟩) (tellT listSink lo hi ps ⟨asked, told, (out, 0)⟩)
  | [], asked, out, told, _, ht => ⟨rfl, rfl, rfl, by simp [tellT, takeM], fun _ => ht⟩
  | x :: r, asked, out, told, hp, ht => by
    rw [takeM, tellT]
    by_cases h1 : inM lo hi x.1 = true
    · rw [if_pos h1, if_pos h1, told_first (hp x (by simp))]
      simp only
      rw [ht]
      cases h2 : ltB (lastP out) x.1 with
      | true =>
        simp only [Bool.not_true, Bool.false_eq_true, if_false, if_true]
        exact tellT_same lo hi r asked (out ++ [x]) x.1 (fun p hp' => hp p (by simp [hp'])) (by simp [lastP])
      | false =>
        simp only [Bool.not_false, if_true, Bool.false_eq_true, if_false]
        exact ⟨rfl, rfl, rfl, by simp, by simp⟩
    · rw [if_neg h1, if_neg h1]
      exact tellT_same lo hi r asked out told (fun p hp' => hp p (by simp [hp'])) ht
theorem eachM_bad {f : Link → LsS → LsS} {lo hi : Bs} : ∀ (ks : List Link) (s : LsS), s.bad ≠ 0 → eachM f lo hi ks s = s
  | [], _, _ => rfl
  | k :: r, s, h => by
    rw [eachM, if_neg (show ¬ (s.bad = 0 ∧ ltB k.1 lo = false) from fun q => h q.1)]
    split
    · rfl
    · exact eachM_bad r s h
theorem eachT_same {f : Link → LsS → LsS} {g : Link → Tst (List Pair × Int) → Tst (List Pair × Int) × Bool} {lo hi : Bs} (h : ∀ k asked out told, rlinkOk k = true → told = lastP out → Same (f k ⟨asked, out, 0⟩) (g k ⟨asked, told, (out, 0)⟩)) : ∀ (ks : List Link) (asked : List Bs) (out : List Pair) (told : Bs), (∀ k ∈ ks, rlinkOk k = true) → told = lastP out → Same (eachM f lo hi ks ⟨asked, out, 0⟩) (eachT g lo hi ks ⟨asked, told, (out, 0)⟩)
  | [], asked, out, told, _, ht => ⟨rfl, rfl, rfl, by simp [eachT, eachM], fun _ => ht⟩
  | k :: r, asked, out, told, hk, ht => by
    have ih := fun asked out told => eachT_same (lo := lo) (hi := hi) h r asked out told (fun q hq => hk q (by simp [hq]))
    rw [eachM, eachT]
    by_cases h1 : ltB k.1 lo = true
    · rw [if_pos h1, if_neg (show ¬ ((⟨asked, out, 0⟩ : LsS).bad = 0 ∧ ltB k.1 lo = false) by rw [h1]; simp)]
      by_cases h2 : endM hi k.1 = true
      · rw [if_pos h2, if_pos h2]
        exact ⟨rfl, rfl, rfl, by simp, fun _ => ht⟩
      · rw [if_neg h2, if_neg h2]
        exact ih asked out told ht
    · have h1 : ltB k.1 lo = false := by simpa using h1
      rw [h1, if_pos (show (⟨asked, out, 0⟩ : LsS).bad = 0 ∧ false = false from ⟨rfl, rfl⟩)]
      simp only [Bool.false_eq_true, if_false]
      obtain ⟨e1, e2, e3, e4, e5⟩ := h k asked out told (hk k (by simp)) ht
      rcases hg : g k ⟨asked, told, (out, 0)⟩ with ⟨⟨a', t', o', b'⟩, fl⟩
      rcases hfk : f k ⟨asked, out, 0⟩ with ⟨a'', o'', b''⟩
      simp only [hg, hfk] at e1 e2 e3 e4 e5
      subst e1 e2 e3
      by_cases hb : b'' = 0
      · have hfl : fl = true := e4.2 hb
        subst hb
        simp only [hfl, if_true]
        by_cases h2 : endM hi k.1 = true
        · rw [if_pos h2, if_pos h2]
          exact ⟨rfl, rfl, rfl, by simp, e5⟩
        · rw [if_neg h2, if_neg h2]
          exact ih _ _ _ (e5 rfl)
      · have hfl : fl = false := by cases fl; rfl; exact absurd (e4.1 rfl) hb
        simp only [hfl, Bool.false_eq_true, if_false]
        have : (if endM hi k.1 = true then (⟨a'', o'', b''⟩ : LsS) else eachM f lo hi r ⟨a'', o'', b''⟩) = ⟨a'', o'', b''⟩ := by
          split
          · rfl
          · exact eachM_bad r _ hb
        rw [this]
        exact ⟨rfl, rfl, rfl, by simp [hb], fun q => absurd q hb⟩
theorem leaf_keys {n : NodeM} (h : RightM n) : ∀ p ∈ n.2.1, 1 ≤ p.1.length := by
  intro p hp
  by_cases h0 : n.1 = 0
  · obtain ⟨-, hl⟩ := h.leaf h0
    have := (leafOk_pairs hl).2 p hp
    unfold pairOk isKeyB at this
    simp at this
    omega
  · obtain ⟨he, -⟩ := h.branch (by have := h.lo; omega)
    rw [he] at hp
    cases hp
theorem goT_same (fd : Bs → Option Bs) (hs : ∀ id b, fd id = some b → b.length ≤ 140737488355328) (lo hi : Bs) : ∀ (d : Nat) (k : Link) (level : Int) (asked : List Bs) (out : List Pair) (told : Bs), (level = -1 ∧ 21 ≤ d ∨ 0 ≤ level ∧ level ≤ 20 ∧ level < d) → told = lastP out → Same (goM fd lo hi d k level ⟨asked, out, 0⟩) (goT listSink fd lo hi d k level ⟨asked, told, (out, 0)⟩)
  | 0, _, _, _, _, _, h, _ => by omega
  | d + 1, k, level, asked, out, told, hlv, ht => by
    rw [goM, goT]
    obtain ⟨e, n, hen⟩ : ∃ e n, askM fd k level = (e, n) := ⟨_, _, rfl⟩
    have hok := fun h => askM_ok (fd := fd) (k := k) (level := level) hs h
    rw [hen] at hok ⊢
    simp only at hok ⊢
    unfold intoT
    simp only
    by_cases h1 : e = 0
    · rw [if_neg (by rw [h1]; simp), if_neg (by rw [h1]; simp)]
      obtain ⟨hR, hF⟩ := hok h1
      obtain ⟨e1, e2, e3, e4, e5⟩ := tellT_same lo hi n.2.1 (asked ++ [k.2.1]) out told (leaf_keys hR) ht
      rcases hg : tellT listSink lo hi n.2.1 ⟨asked ++ [k.2.1], told, (out, 0)⟩ with ⟨⟨a', t', o', b'⟩, fl⟩
      rcases hfk : takeM lo hi n.2.1 ⟨asked ++ [k.2.1], out, 0⟩ with ⟨a'', o'', b''⟩
      simp only [hg, hfk] at e1 e2 e3 e4 e5
      subst e1 e2 e3
      simp only
      by_cases hb : b'' = 0
      · have hfl : fl = true := e4.2 hb
        subst hb
        simp only [hfl, if_true]
        by_cases h0 : n.1 = 0
        · obtain ⟨q1, -⟩ := hR.leaf h0
          simp only [q1, eachM, eachT]
          exact ⟨rfl, rfl, rfl, by simp, e5⟩
        · have hlo := hR.lo
          have hhi := hR.hi
          have hn : n.1 = level ∨ level = -1 := by
            rcases hF with h | h
            · right; omega
            · left; exact (fitsM_count h).1
          exact eachT_same (f := fun q t => goM fd lo hi d q (n.1 - 1) t) (g := fun q u => goT listSink fd lo hi d q (n.1 - 1) u) (fun q asked out told _ ht => goT_same fd hs lo hi d q (n.1 - 1) asked out told (.inr ⟨by omega, by omega, by omega⟩) ht) n.2.2 _ _ _ hR.links.2.1 (e5 rfl)
      · have hfl : fl = false := by cases fl; rfl; exact absurd (e4.1 rfl) hb
        simp only [hfl, Bool.false_eq_true, if_false]
        rw [eachM_bad _ _ (by exact hb)]
        exact ⟨rfl, rfl, rfl, by simp [hb], fun q => absurd q hb⟩
    · rw [if_pos h1, if_pos h1]
      exact ⟨rfl, rfl, rfl, by simp [h1], fun q => absurd q h1⟩
end Go.Proofs.YtimbleaafoiidaaGreatDoor

/-
  How many make the first node of a level, plainly. No program here. No condition.
-/
namespace Go.Proofs.YtimbleaafoiidaaGreatDoor

/-- How many of the rest come to the group under way. -/
def firstE {α : Type} (e : Nat → α → Bool) : Nat → List α → Nat
  | _, [] => 0
  | j, x :: r => if e (j + 1) x then 1 else 1 + firstE e (j + 1) r
theorem firstE_le {α : Type} (e : Nat → α → Bool) : ∀ (l : List α) (j : Nat), firstE e j l ≤ l.length
  | [], _ => by simp [firstE]
  | x :: r, j => by
    rw [firstE]
    have := firstE_le e r (j + 1)
    split
    · simp
    · simp; omega
theorem firstE_pos {α : Type} (e : Nat → α → Bool) {l : List α} (j : Nat) (h : l ≠ []) : 1 ≤ firstE e j l := by
  cases l with
  | nil => exact absurd rfl h
  | cons x r =>
    rw [firstE]
    split
    · omega
    · omega
theorem gath_first {α : Type} (e : Nat → α → Bool) : ∀ (r cur : List α), cur ≠ [] ∨ r ≠ [] → gath e cur r = (cur ++ r.take (firstE e cur.length r)) :: gath e [] (r.drop (firstE e cur.length r))
  | [], cur, h => by
    have h : cur ≠ [] := by simpa using h
    rw [gath, firstE]
    cases cur with
    | nil => exact absurd rfl h
    | cons a l => simp [gath]
  | x :: r, cur, _ => by
    rw [gath, firstE]
    by_cases h : e (cur.length + 1) x = true
    · rw [if_pos h, if_pos h]
      simp
    · rw [if_neg h, if_neg h, gath_first e r (cur ++ [x]) (.inl (by simp))]
      rw [Nat.add_comm 1, List.take_succ_cons, List.drop_succ_cons]
      simp
/-- Does a key end a node of a level, however many there are? -/
def endK (level : Nat) (key : Bs) : Bool := (((sha key)[31 - level]?.getD 0).toNat : Int) % 16 == 0
theorem ends12_endK (n : Nat) (key : Bs) (level : Nat) : ends12 n key level = (endK level key && (decide (level = 0) || decide (2 ≤ n)) || decide (n = 64)) := rfl
/-- A node's end by keys. -/
abbrev endE {α : Type} (key : α → Bs) (level : Nat) : Nat → α → Bool := fun n p => ends12 n (key p) level
/-- So many have been passed by. -/
def SizeAt {α : Type} (key : α → Bs) (level : Nat) (l : List α) (j : Nat) : Prop := firstE (endE key level) 0 l = j + firstE (endE key level) j (l.drop j)
theorem size_start0 {α : Type} (key : α → Bs) (level : Nat) (l : List α) : SizeAt key level l 0 := by unfold SizeAt; simp
theorem firstE_no {α : Type} {e : Nat → α → Bool} {j : Nat} {l : List α} (h : j < l.length) (he : e (j + 1) l[j] = false) : firstE e j (l.drop j) = 1 + firstE e (j + 1) (l.drop (j + 1)) := by
  rw [List.drop_eq_getElem_cons h, firstE, he]
  rfl
theorem firstE_yes {α : Type} {e : Nat → α → Bool} {j : Nat} {l : List α} (h : j < l.length) (he : e (j + 1) l[j] = true) : firstE e j (l.drop j) = 1 := by
  rw [List.drop_eq_getElem_cons h, firstE, he]
  rfl
theorem size_start1 {α : Type} (key : α → Bs) (level : Nat) (hl : 1 ≤ level) {l : List α} (h : 1 ≤ l.length) : SizeAt key level l 1 := by
  have h0 : 0 < l.length := h
  have := firstE_no (e := endE key level) (j := 0) h0 (by
    show ends12 1 _ level = false
    rw [ends12_endK]
    simp
    omega)
  unfold SizeAt
  simpa using this
theorem size_next {α : Type} {key : α → Bs} {level : Nat} {l : List α} {j : Nat} (h : SizeAt key level l j) (hj : j < l.length) (h63 : j + 1 < 64) (he : endK level (key l[j]) = false) : SizeAt key level l (j + 1) := by
  unfold SizeAt at h ⊢
  rw [h, firstE_no hj (by show ends12 _ _ _ = false; rw [ends12_endK, he]; simp; omega)]
  omega
theorem size_hit {α : Type} {key : α → Bs} {level : Nat} {l : List α} {j : Nat} (h : SizeAt key level l j) (hj : j < l.length) (h2 : level = 0 ∨ 1 ≤ j) (he : endK level (key l[j]) = true) : firstE (endE key level) 0 l = j + 1 := by
  unfold SizeAt at h
  rw [h, firstE_yes hj (by
    show ends12 _ _ _ = true
    rw [ends12_endK, he]
    simp
    omega)]
theorem size_most {α : Type} {key : α → Bs} {level : Nat} {l : List α} (h : SizeAt key level l 63) (hj : 63 < l.length) : firstE (endE key level) 0 l = 64 := by
  unfold SizeAt at h
  rw [h, firstE_yes hj (by show ends12 _ _ _ = true; rw [ends12_endK]; simp)]
theorem size_all {α : Type} {key : α → Bs} {level : Nat} {l : List α} {j : Nat} (h : SizeAt key level l j) (hj : j = l.length ∨ j + 1 = l.length) : firstE (endE key level) 0 l = l.length := by
  unfold SizeAt at h
  rcases hj with rfl | hj
  · rw [h, List.drop_length]
    rfl
  · have hlt : j < l.length := by omega
    rw [h, List.drop_eq_getElem_cons hlt, firstE, List.drop_eq_nil_of_le (by omega)]
    split
    · omega
    · rw [firstE]; omega
/-- How many pairs, links make the first node. -/
def leafN (l : List Pair) : Nat := firstE (endE (fun p : Pair => p.1) 0) 0 l
def brN (level : Nat) (l : List Link) : Nat := firstE (endE (fun p : Link => p.1) level) 0 l
theorem leafG_step {l : List Pair} (h : l ≠ []) : leafG l = l.take (leafN l) :: leafG (l.drop (leafN l)) := by
  have := gath_first (fun n (p : Pair) => ends12 n p.1 0) l [] (.inr h)
  simp only [List.nil_append, List.length_nil] at this
  exact this
theorem brG_step {level : Nat} {l : List Link} (h : l ≠ []) : brG level l = l.take (brN level l) :: brG level (l.drop (brN level l)) := by
  have := gath_first (fun n (p : Link) => ends12 n p.1 level) l [] (.inr h)
  simp only [List.nil_append, List.length_nil] at this
  exact this
theorem leafG_nil : leafG [] = [] := rfl
theorem brG_nil (level : Nat) : brG level [] = [] := rfl
theorem leafN_le (l : List Pair) : leafN l ≤ l.length := firstE_le _ _ _
theorem brN_le (level : Nat) (l : List Link) : brN level l ≤ l.length := firstE_le _ _ _
theorem leafN_pos {l : List Pair} (h : l ≠ []) : 1 ≤ leafN l := firstE_pos _ _ h
theorem brN_pos {level : Nat} {l : List Link} (h : l ≠ []) : 1 ≤ brN level l := firstE_pos _ _ h
end Go.Proofs.YtimbleaafoiidaaGreatDoor

/-
  Where a node ends, by the program; which keys and pairs are right. Conditions: keys of a length within reach; the table holds its numbers; lists lie there.
-/
namespace Go.Proofs.YtimbleaafoiidaaGreatDoor
open Go.RowKit

theorem endK_form (level : Nat) (key : Bs) (hl : level ≤ 31) : ∃ c : UInt8, endK level key = ((c.toNat : Int) % 16 == 0) ∧ ∀ W : World, (Instr.index 9 (.string (strB (sha key))) (.int .i64 ((31 - level : Nat) : Int))).run Tryz.prog W = .ok (.int .u8 (c.toNat : Int)) W := by
  have hs := sha_length key
  refine ⟨(sha key)[31 - level]'(by omega), ?_, fun W => index_str W (sha key) .i64 (31 - level) (by omega)⟩
  unfold endK
  rw [List.getElem?_eq_getElem (by omega)]
  rfl
set_option maxRecDepth 20000 in
theorem endsNode_any (w : World) (level : Nat) (key : Bs) (hlv : level ≤ 31) (hk : key.length ≤ 140737488355328) (hT : TabW w) :
    Calls Tryz.prog 96 #[.int .i64 (level : Int), .string (strB key)] w fun e w' => e = .returned (.bool (endK level key)) ∧ Below w.heap.size w w' := by
  obtain ⟨c, hc, hix⟩ := endK_form level key hlv
  rw [hc]
  have hc256 : (c.toNat : Int) < 256 := by have := c.toNat_lt; omega
  have hsum := sum_any (w.alloc (.cells #[.string (strB key)] 9)) _ [key] (ps_one w key w.heap.size rfl) (hT.keep ((Below.refl _ _).alloc (Nat.le_refl _) _) hT.1) (by simpa using hk)
  rw [show ([key] : List Bs).flatten = key from by simp] at hsum
  have hss := strB_size (sha key)
  have hsl := sha_length key
  generalize sha key = S at *
  have hsub : (31 : Int) - (level : Int) = ((31 - level : Nat) : Int) := by omega
  have hb0 : Below w.heap.size w (w.alloc (.cells #[.string (strB key)] 9)) := (Below.refl _ _).alloc (Nat.le_refl _) _
  have HB := hide hb0
  clear hb0 hc hT
  go_enter Tryz.func96, Tryz.ntmps96
  go_wp2_with fail
  refine hsum.mono ?_
  rintro e w1 ⟨rfl, hb1⟩
  have HB1 := hide (HB.out.trans (hb1.mono HB.out.size))
  clear hsum hb1
  go_wp2
  go_ret
  exact ⟨rfl, HB1.out⟩
theorem leastSize_any (w : World) (level : Nat) : Calls Tryz.prog 95 #[.int .i64 (level : Int)] w fun e w' => e = .returned (.int .i64 (if level = 0 then 1 else 2)) ∧ w' = w := by
  by_cases h : level = 0
  · subst h
    go_enter Tryz.func95, Tryz.ntmps95
    go_wp2
    go_ret
    exact ⟨rfl, rfl⟩
  · have h2 : ((level : Int) == 0) = false := by simp; omega
    rw [if_neg h]
    go_enter Tryz.func95, Tryz.ntmps95
    go_wp2
    go_ret
    exact ⟨rfl, rfl⟩
theorem keyP_any (w : World) (x : Pair) : Calls Tryz.prog 70 #[.agg #[.string (strB x.1), .string (strB x.2)]] w fun e w' => e = .returned (.string (strB x.1)) ∧ Below w.heap.size w w' := by
  go_enter Tryz.func70, Tryz.ntmps70
  go_wp2
  go_ret
  exact ⟨rfl, (Below.refl _ _).alloc (Nat.le_refl _) _⟩
theorem keyL_any (w : World) (x : Link) : Calls Tryz.prog 72 #[.agg #[.string (strB x.1), .string (strB x.2.1), .int .i64 x.2.2]] w fun e w' => e = .returned (.string (strB x.1)) ∧ Below w.heap.size w w' := by
  go_enter Tryz.func72, Tryz.ntmps72
  go_wp2
  go_ret
  exact ⟨rfl, (Below.refl _ _).alloc (Nat.le_refl _) _⟩
theorem pisKey_any (w : World) (s : Bs) : Calls Tryz.prog 33 #[.string (strB s)] w fun e w' => e = .returned (.bool (isKeyB s)) ∧ w' = w := by
  have hs := strB_size s
  by_cases h : 1 ≤ s.length
  · go_enter Tryz.func33, Tryz.ntmps33
    go_wp2
    go_ret
    refine ⟨ret_bool ?_, rfl⟩
    unfold isKeyB
    rw [Bool.eq_iff_iff]; simp; omega
  · go_enter Tryz.func33, Tryz.ntmps33
    go_wp2
    go_ret
    refine ⟨ret_bool ?_, rfl⟩
    unfold isKeyB
    rw [Bool.eq_iff_iff]; simp; omega
end Go.Proofs.YtimbleaafoiidaaGreatDoor
