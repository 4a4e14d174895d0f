/-
  Texts joined: PPairs, PList.
-/
import Derived.Test.YtfeffaeinggiiaaGreatDoorJ24PRow
import Derived.Test.YtfeffaeinggiiaaGreatDoorJ37PRRight
import Derived.Test.YtfeffaeinggiiaaGreatDoorJ28PRMany
/-
  Which pairs are right, by the program. Conditions: the pairs lie there.
-/
namespace Go.Proofs.YtfeffaeinggiiaaGreatDoor
open Go.RowKit

theorem ltB_le : ∀ (a b : Bs), (ltB a b || a == b) = !ltB b a
  | [], [] => by rw [ltB_nil]; rfl
  | [], b :: m => by rw [ltB_nil_cons, ltB_nil]; rfl
  | a :: l, [] => by rw [ltB_nil_cons, ltB_nil]; rfl
  | a :: l, b :: m => by
    have ih := ltB_le l m
    rw [ltB_cons, ltB_cons]
    by_cases h : a = b
    · subst h
      have h1 : ¬ a < a := UInt8.lt_irrefl a
      simp [h1, ih]
    · have h1 : (a == b) = false := by simpa using h
      have h2 : (b == a) = false := by simpa using fun e => h e.symm
      have h3 : (a :: l == b :: m) = false := by simp [h]
      rw [h1, h2, h3]
      by_cases h4 : a < b
      · have h5 : ¬ b < a := UInt8.lt_asymm h4
        simp [h4, h5]
      · have h5 : b < a := by
          rcases UInt8.lt_or_lt_of_ne h with q | q
          · exact absurd q h4
          · exact q
        simp [h4, h5]
theorem leq_str (t : TypeId) (a b : Bs) : binOp .leq t (.string (strB a)) (.string (strB b)) = pure (.bool (!ltB b a)) := by
  have := ltB_le a b
  unfold ltB at this
  simp [binOp, Op.stringOp, toLr, ltB, this]
theorem lastP_take (l : List Pair) (k : Nat) (hk : k < l.length) : lastP (l.take (k + 1)) = l[k].1 := by
  unfold lastP
  rw [List.take_succ_eq_append_getElem hk, List.getLast?_concat]
  rfl
theorem nextOk_last {l : List Pair} {k : Nat} {x : Pair} (hx : pairOk x = true) (hk : k ≤ l.length) : nextOk l k x = ltB (lastP (l.take k)) x.1 := by
  unfold nextOk
  rw [hx]
  cases k with
  | zero =>
    have : 1 ≤ x.1.length := by
      unfold pairOk isKeyB at hx
      simp at hx
      omega
    cases hq : x.1 with
    | nil => rw [hq] at this; simp at this
    | cons a r => simp [lastP, ltB_nil_cons]
  | succ k =>
    rw [lastP_take l k (by omega)]
    have : (k + 1 - 1) = k := by omega
    simp [this, List.getElem?_eq_getElem (show k < l.length by omega)]
theorem pairsOk_no {l : List Pair} {k : Nat} (hk : k < l.length) (h : nextOk l k l[k] = false) : pairsOk l = false := by
  have h1 := pairsOk_step l k hk
  rw [h, Bool.and_false] at h1
  cases hq : pairsOk l with
  | false => rfl
  | true => rw [pairsOk_take hq (k + 1)] at h1; cases h1
set_option maxRecDepth 20000 in
set_option maxHeartbeats 800000 in
theorem pairsAreRight_any (w : World) (l : List Pair) (v : Value) (hv : Ls w.heap.size w 2 pairC v l) :
    Calls Tryz.prog 26 #[v] w fun e w' => e = .returned (.bool (pairsOk l)) ∧ Below w.heap.size w w' := by
  obtain ⟨ao, cap, rfl, h1, h2, h4⟩ := hv
  unfold maxLen at h2
  have hnil : strB (lastP (l.take 0)) = ⟨#[]⟩ := rfl
  go_enter Tryz.func26, Tryz.ntmps26
  go_wp2_with fail
  go_loopw [8, 3] (fun t u wr => ∃ k : Nat, k ≤ l.length ∧ t = .int .i64 k ∧ u = .string (strB (lastP (l.take k))) ∧ pairsOk (l.take k) = true ∧ Below w.heap.size w wr)
    (fun t _ _ => l.length - (intOf t).toNat)
  case atStart => exact ⟨0, by omega, rfl, rfl, rfl, Below.refl _ _⟩
  case round =>
    obtain ⟨k, hk, rfl, rfl, hok, hb⟩ := hrel
    have HB := hide hb
    have HOK := hide hok
    clear hok
    by_cases hlt : k < l.length
    · obtain ⟨b, off, rfl, hbB, hc⟩ := h4 (by rintro rfl; simp at hlt)
      have c0 := (hb.cell (p := ⟨b, off + k * 2 + 0, none⟩) hbB).trans (hc k hlt 0 _ rfl)
      have c1 := (hb.cell (p := ⟨b, off + k * 2 + 1, none⟩) hbB).trans (hc k hlt 1 _ rfl)
      simp only [Nat.add_zero] at c0
      have hstep := pairsOk_step l k hlt
      have hno := fun h => pairsOk_no (l := l) hlt h
      have hlast := lastP_take l k hlt
      have hnx := fun (h : pairOk (l[k]'hlt) = true) => nextOk_last (l := l) (k := k) h hk
      have HB1 := hide (HB.out.alloc HB.out.size (.cells #[.string (strB l[k].1), .string (strB l[k].2)] 60))
      generalize l[k] = x at *
      have HX := hide (And.intro hstep (And.intro hno (And.intro hlast hnx)))
      have hx2 := strB_size x.2
      have hleq := leq_str 9 x.1 (lastP (l.take k))
      generalize lastP (l.take k) = last at *
      clear hstep hno hlast hnx hc hb
      cases hkey : isKeyB x.1 with
      | false =>
        have HN := hide (HX.out.2.1 (nextOk_no (pairOk_no (.inl hkey))))
        go_wp2_with fail
        refine (pisKey_any _ x.1).mono ?_
        rintro e w1 ⟨rfl, rfl⟩
        rw [hkey]
        go_wp2
        go_ret
        exact ⟨ret_bool HN.out.symm, HB1.out⟩
      | true =>
        by_cases hv : 128 < x.2.length
        · have HN := hide (HX.out.2.1 (nextOk_no (pairOk_no (.inr hv))))
          have hgt : decide ((128 : Int) < (x.2.length : Int)) = true := by simp; omega
          cases hlb : ltB last x.1 with
          | false =>
            rw [hlb] at hleq
            go_wp2_with fail
            refine (pisKey_any _ x.1).mono ?_
            rintro e w1 ⟨rfl, rfl⟩
            rw [hkey]
            go_wp2
            go_ret
            exact ⟨ret_bool HN.out.symm, HB1.out⟩
          | true =>
            rw [hlb] at hleq
            go_wp2_with fail
            refine (pisKey_any _ x.1).mono ?_
            rintro e w1 ⟨rfl, rfl⟩
            rw [hkey]
            go_wp2
            go_ret
            exact ⟨ret_bool HN.out.symm, HB1.out⟩
        · have hpo : pairOk x = true := by unfold pairOk; rw [hkey]; simp; omega
          have hgt : decide ((128 : Int) < (x.2.length : Int)) = false := by simp; omega
          have hnx := HX.out.2.2.2 hpo
          have HPO := hide hpo
          clear hpo
          cases hlb : ltB last x.1 with
          | false =>
            rw [hlb] at hnx hleq
            have HN := hide (HX.out.2.1 hnx)
            clear hnx
            go_wp2_with fail
            refine (pisKey_any _ x.1).mono ?_
            rintro e w1 ⟨rfl, rfl⟩
            rw [hkey]
            go_wp2
            go_ret
            exact ⟨ret_bool HN.out.symm, HB1.out⟩
          | true =>
            rw [hlb] at hnx hleq
            have HN := hide (show pairsOk (l.take (k + 1)) = true by rw [HX.out.1, HOK.out, hnx]; rfl)
            clear hnx
            go_wp2_with fail
            refine (pisKey_any _ x.1).mono ?_
            rintro e w1 ⟨rfl, rfl⟩
            rw [hkey]
            go_wp2
            go_roundw
            case rel => exact ⟨k + 1, by omega, by go_num, by rw [HX.out.2.2.1], HN.out, HB1.out⟩
            case measure => simp [intOf]; omega
    · obtain rfl : k = l.length := by omega
      rw [List.take_length] at HOK
      clear hb
      go_wp2
      go_ret
      exact ⟨ret_bool HOK.out.symm, HB.out⟩
end Go.Proofs.YtfeffaeinggiiaaGreatDoor

/-
  Going to the pairs of a map between two keys, plainly. No program here.
-/
namespace Go.Proofs.YtfeffaeinggiiaaGreatDoor
open Go.RowKit

/-- What was asked, told so far; the first error. -/
structure LsS where
  asked : List Bs
  out : List Pair
  bad : Int
/-- From lo on, ahead of hi? -/
def inM (lo hi k : Bs) : Bool := !ltB k lo && (hi.isEmpty || ltB k hi)
/-- Is a key not behind the one that was told ahead of it? -/
def backM (s : LsS) (k : Bs) : Bool := !s.out.isEmpty && !ltB (lastP s.out) k
/-- The pairs of a leaf. -/
def takeM (lo hi : Bs) : List Pair → LsS → LsS
  | [], s => s
  | x :: r, s => if inM lo hi x.1 then (if backM s x.1 then ⟨s.asked, s.out, 122⟩ else takeM lo hi r ⟨s.asked, s.out ++ [x], s.bad⟩) else takeM lo hi r s
/-- Behind this kid there is none to go to. -/
def endM (hi k : Bs) : Bool := !hi.isEmpty && !ltB k hi
/-- The kids of a branch. -/
def eachM (f : Link → LsS → LsS) (lo hi : Bs) : List Link → LsS → LsS
  | [], s => s
  | k :: r, s => if endM hi k.1 then (if s.bad = 0 ∧ ltB k.1 lo = false then f k s else s) else eachM f lo hi r (if s.bad = 0 ∧ ltB k.1 lo = false then f k s else s)
/-- Going to a link, at most so many levels down. -/
def goM (fd : Bs → Option Bs) (lo hi : Bs) : Nat → Link → Int → LsS → LsS
  | 0, _, _, s => s
  | d + 1, k, level, s =>
    if (askM fd k level).1 ≠ 0 then ⟨s.asked ++ [k.2.1], s.out, (askM fd k level).1⟩
    else eachM (fun q t => goM fd lo hi d q ((askM fd k level).2.1 - 1) t) lo hi (askM fd k level).2.2.2 (takeM lo hi (askM fd k level).2.2.1 ⟨s.asked ++ [k.2.1], s.out, s.bad⟩)
def GrowM (s t : LsS) (n m : Nat) : Prop := t.asked.length ≤ s.asked.length + n ∧ t.out.length ≤ s.out.length + m
theorem GrowM.refl (s : LsS) : GrowM s s 0 0 := ⟨by omega, by omega⟩
theorem GrowM.trans {s t u : LsS} {n m n' m' : Nat} (h : GrowM s t n m) (k : GrowM t u n' m') : GrowM s u (n + n') (m + m') := ⟨by have := h.1; have := k.1; omega, by have := h.2; have := k.2; omega⟩
theorem GrowM.le {s t : LsS} {n m n' m' : Nat} (h : GrowM s t n m) (h1 : n ≤ n') (h2 : m ≤ m') : GrowM s t n' m' := ⟨by have := h.1; omega, by have := h.2; omega⟩
theorem takeM_grows (lo hi : Bs) : ∀ (ps : List Pair) (s : LsS), GrowM s (takeM lo hi ps s) 0 ps.length
  | [], s => GrowM.refl s
  | x :: r, s => by
    rw [takeM]
    by_cases h1 : inM lo hi x.1 = true
    · rw [if_pos h1]
      by_cases h2 : backM s x.1 = true
      · rw [if_pos h2]
        exact ⟨by simp only; omega, by simp only; omega⟩
      · rw [if_neg h2]
        obtain ⟨h3, h4⟩ := takeM_grows lo hi r ⟨s.asked, s.out ++ [x], s.bad⟩
        simp only [List.length_append, List.length_singleton] at h3 h4
        exact ⟨h3, by rw [List.length_cons]; omega⟩
    · rw [if_neg h1]
      exact (takeM_grows lo hi r s).le (Nat.le_refl _) (by simp)
theorem manyL_cons (k : Link) (r : List Link) : manyL (k :: r) = k.2.2 + manyL r := by simp [manyL]
theorem eachM_grows {f : Link → LsS → LsS} {c : Nat} {lo hi : Bs} (hf : ∀ k s, rlinkOk k = true → GrowM s (f k s) (c * k.2.2.toNat) k.2.2.toNat) : ∀ (ks : List Link) (s : LsS), (∀ k ∈ ks, rlinkOk k = true) → GrowM s (eachM f lo hi ks s) (c * (manyL ks).toNat) (manyL ks).toNat
  | [], s, _ => (GrowM.refl s).le (by simp) (by simp)
  | k :: r, s, h => by
    have h0 := h k (by simp)
    have h2 := manyL_many r (fun q hq => h q (by simp [hq]))
    have h3 := ((rlinkOk_iff k).1 h0).2.2.1
    have e : (manyL (k :: r)).toNat = k.2.2.toNat + (manyL r).toNat := by rw [manyL_cons]; omega
    have h1 : GrowM s (if s.bad = 0 ∧ ltB k.1 lo = false then f k s else s) (c * k.2.2.toNat) k.2.2.toNat := by
      by_cases hc : s.bad = 0 ∧ ltB k.1 lo = false
      · rw [if_pos hc]; exact hf k s h0
      · rw [if_neg hc]; exact (GrowM.refl s).le (by simp) (by simp)
    rw [eachM, e, Nat.mul_add]
    by_cases hc : endM hi k.1 = true
    · rw [if_pos hc]
      exact h1.le (by omega) (by omega)
    · rw [if_neg hc]
      exact h1.trans (eachM_grows hf r _ (fun q hq => h q (by simp [hq])))
theorem fitsM_count {n : NodeM} {k : Link} {level : Int} (h : fitsM n k level = true) : n.1 = level ∧ countM n = k.2.2 := by
  unfold fitsM at h
  simp only [Bool.and_eq_true, decide_eq_true_eq] at h
  exact h.1
theorem goM_grows (fd : Bs → Option Bs) (hs : ∀ id b, fd id = some b → b.length ≤ 140737488355328) (lo hi : Bs) : ∀ (d : Nat) (k : Link) (level : Int) (s : LsS), rlinkOk k = true → 0 ≤ level → level ≤ 20 → GrowM s (goM fd lo hi d k level s) (d * k.2.2.toNat) k.2.2.toNat
  | 0, k, level, s, _, _, _ => (GrowM.refl s).le (by simp) (by simp)
  | d + 1, k, level, s, hk, hl, hl2 => by
    have hm := ((rlinkOk_iff k).1 hk).2.2.1
    rw [goM]
    have hd : (d + 1) * k.2.2.toNat = d * k.2.2.toNat + k.2.2.toNat := by rw [Nat.add_mul]; simp
    by_cases h1 : (askM fd k level).1 ≠ 0
    · rw [if_pos h1]
      exact ⟨by simp only [List.length_append, List.length_singleton]; omega, by simp only; omega⟩
    · rw [if_neg h1]
      obtain ⟨hR, hF⟩ := askM_ok hs (by simpa using h1)
      rcases hF with hF | hF
      · omega
      obtain ⟨g1, g2⟩ := fitsM_count hF
      generalize (askM fd k level).2 = n at *
      obtain ⟨l1, l2, l3, l4⟩ := hR.links
      have h3 := takeM_grows lo hi n.2.1 ⟨s.asked ++ [k.2.1], s.out, s.bad⟩
      have h5 := manyL_many n.2.2 l2
      unfold countM at g2
      by_cases hz : n.1 = 0
      · obtain ⟨q1, q2⟩ := hR.leaf hz
        rw [q1, eachM]
        obtain ⟨x1, x2⟩ := h3
        simp only [List.length_append, List.length_singleton] at x1 x2
        rw [q1] at g2
        simp only [manyL, List.map_nil, List.sum_nil] at g2
        exact ⟨by omega, by omega⟩
      · have hlo := hR.lo
        have h4 := eachM_grows (f := fun q t => goM fd lo hi d q (n.1 - 1) t) (c := d) (lo := lo) (hi := hi) (fun q t hq => goM_grows fd hs lo hi d q (n.1 - 1) t hq (by omega) (by omega)) n.2.2 (takeM lo hi n.2.1 ⟨s.asked ++ [k.2.1], s.out, s.bad⟩) l2
        obtain ⟨x1, x2⟩ := h3.trans h4
        simp only [List.length_append, List.length_singleton] at x1 x2
        have h6 : (manyL n.2.2).toNat ≤ k.2.2.toNat := by omega
        have h7 := Nat.mul_le_mul_left d h6
        exact ⟨by omega, by omega⟩
/-- Of the root. -/
theorem goM_root (fd : Bs → Option Bs) (hs : ∀ id b, fd id = some b → b.length ≤ 140737488355328) (lo hi : Bs) (d : Nat) (k : Link) (s : LsS) : GrowM s (goM fd lo hi (d + 1) k (-1) s) (1 + d * 4096) 4160 := by
  rw [goM]
  by_cases h1 : (askM fd k (-1)).1 ≠ 0
  · rw [if_pos h1]
    exact ⟨by simp only [List.length_append, List.length_singleton]; omega, by simp only; omega⟩
  · rw [if_neg h1]
    obtain ⟨hR, -⟩ := askM_ok hs (by simpa using h1)
    generalize (askM fd k (-1)).2 = n at *
    obtain ⟨l1, l2, l3, l4⟩ := hR.links
    have h3 := takeM_grows lo hi n.2.1 ⟨s.asked ++ [k.2.1], s.out, s.bad⟩
    have hlo := hR.lo
    have hhi := hR.hi
    by_cases hz : n.1 = 0
    · obtain ⟨q1, q2⟩ := hR.leaf hz
      rw [q1, eachM]
      obtain ⟨x1, x2⟩ := h3
      simp only [List.length_append, List.length_singleton] at x1 x2
      exact ⟨by omega, by omega⟩
    · have h4 := eachM_grows (f := fun q t => goM fd lo hi d q (n.1 - 1) t) (c := d) (lo := lo) (hi := hi) (fun q t hq => goM_grows fd hs lo hi d q (n.1 - 1) t hq (by omega) (by omega)) n.2.2 (takeM lo hi n.2.1 ⟨s.asked ++ [k.2.1], s.out, s.bad⟩) l2
      obtain ⟨x1, x2⟩ := h3.trans h4
      simp only [List.length_append, List.length_singleton] at x1 x2
      have h6 : (manyL n.2.2).toNat ≤ 4096 := by omega
      have h7 := Nat.mul_le_mul_left d h6
      exact ⟨by omega, by omega⟩
end Go.Proofs.YtfeffaeinggiiaaGreatDoor
