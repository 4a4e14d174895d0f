/-
  Where texts are cut, plainly: bytes' numbers, the sum of a chunk under way, chunks. No program here. Conditions: none.
-/
import Derived.Test.YthkhmjdenenikaaProg
namespace Go.Proofs.Ythkhmjdenenikaa

/-- A text of these bytes. -/
def strB (l : List UInt8) : ByteArray := ⟨l.toArray⟩
theorem strB_list (l : List UInt8) : (strB l).data.toList = l := by simp [strB]
theorem strB_size (l : List UInt8) : (strB l).size = l.length := by simp [strB, ByteArray.size]
theorem strB_of (s : ByteArray) : strB s.data.toList = s := by simp [strB]
theorem strB_inj {a b : List UInt8} (h : strB a = strB b) : a = b := by rw [← strB_list a, h, strB_list]

/-- A byte's number. -/
def tab (c : UInt8) : UInt64 :=
  let z := (c.toUInt64 + 1) * 11400714819323198485
  let z := (z ^^^ (z >>> 30)) * 13787848793156543929
  let z := (z ^^^ (z >>> 27)) * 10723151780598845931
  z ^^^ (z >>> 31)
def nxt (s : UInt64) (c : UInt8) : UInt64 := 2 * s + tab c
/-- The sum of what a chunk has. -/
def sm (h : List UInt8) : UInt64 := (h.drop 64).foldl nxt 0
theorem sm_nil : sm [] = 0 := rfl
theorem sm_snoc (h : List UInt8) (c : UInt8) : sm (h ++ [c]) = if h.length + 1 > 64 then nxt (sm h) c else sm h := by
  unfold sm
  by_cases hl : 64 ≤ h.length
  · rw [if_pos (by omega), List.drop_append_of_le_length hl, List.foldl_append]
    rfl
  · rw [if_neg (by omega), List.drop_eq_nil_of_le (by simp; omega), List.drop_eq_nil_of_le (by omega)]
/-- Does a chunk of n bytes and that sum end? -/
def full (n : Nat) (s : UInt64) : Bool :=
  if n ≤ 64 then false else if n ≤ 256 then s >>> 54 == 0 else if n < 1024 then s >>> 58 == 0 else true
/-- It ends with its last byte. -/
def ended (h : List UInt8) : Bool := full h.length (sm h)
theorem ended_short {h : List UInt8} (hl : h.length ≤ 64) : ended h = false := by unfold ended full; rw [if_pos hl]
theorem ended_long {h : List UInt8} (hl : 1024 ≤ h.length) : ended h = true := by
  unfold ended full; rw [if_neg (by omega), if_neg (by omega), if_neg (by omega)]

/-- Nothing ends within it. -/
def Hd (h : List UInt8) : Prop := ∀ n, n ≤ h.length → ended (h.take n) = false
/-- It ends with its last byte, and not sooner. -/
def Ck (c : List UInt8) : Prop := ended c = true ∧ ∀ n, n < c.length → ended (c.take n) = false
theorem Hd.nil : Hd [] := fun n hn => ended_short (by simp)
theorem Hd.lt {h : List UInt8} (k : Hd h) : h.length < 1024 := by
  rcases Nat.lt_or_ge h.length 1024 with a | a
  · exact a
  · have := k h.length (Nat.le_refl _)
    rw [List.take_length, ended_long a] at this
    cases this
theorem Ck.pos {c : List UInt8} (k : Ck c) : 64 < c.length := by
  rcases Nat.lt_or_ge 64 c.length with a | a
  · exact a
  · have := k.1
    rw [ended_short a] at this
    cases this
theorem Ck.le {c : List UInt8} (k : Ck c) : c.length ≤ 1024 := by
  rcases Nat.lt_or_ge 1024 c.length with a | a
  · have := k.2 1024 a
    rw [ended_long (by simp; omega)] at this
    cases this
  · exact a
theorem Hd.snoc {h : List UInt8} {c : UInt8} (k : Hd h) (he : ended (h ++ [c]) = false) : Hd (h ++ [c]) := by
  intro n hn
  rcases Nat.lt_or_ge h.length n with a | a
  · rw [List.take_of_length_le (by simp; omega)]; exact he
  · rw [List.take_append_of_le_length a]; exact k n a
theorem Hd.cut {h : List UInt8} {c : UInt8} (k : Hd h) (he : ended (h ++ [c]) = true) : Ck (h ++ [c]) := by
  refine ⟨he, fun n hn => ?_⟩
  rw [List.take_append_of_le_length (by simp at hn; omega)]
  exact k n (by simp at hn; omega)
theorem Hd.pre {a b : List UInt8} (k : Hd (a ++ b)) : Hd a := by
  intro n hn
  have := k n (by simp; omega)
  rwa [List.take_append_of_le_length hn] at this
theorem Ck.pre {a b : List UInt8} (k : Ck (a ++ b)) (hb : b ≠ []) : Hd a := by
  intro n hn
  have := k.2 n (by have := List.length_pos_iff.2 hb; simp; omega)
  rwa [List.take_append_of_le_length hn] at this

/-- What is told so far, and what is held. -/
structure Sp where
  t : List (List UInt8)
  h : List UInt8
def adv (x : Sp) (c : UInt8) : Sp := if ended (x.h ++ [c]) then ⟨x.t ++ [x.h ++ [c]], []⟩ else ⟨x.t, x.h ++ [c]⟩
def spl (x : Sp) (l : List UInt8) : Sp := l.foldl adv x
theorem spl_nil (x : Sp) : spl x [] = x := rfl
theorem spl_cons (x : Sp) (c : UInt8) (l : List UInt8) : spl x (c :: l) = spl (adv x c) l := rfl
theorem spl_append (x : Sp) (a b : List UInt8) : spl x (a ++ b) = spl (spl x a) b := List.foldl_append ..
theorem spl_snoc (x : Sp) (a : List UInt8) (c : UInt8) : spl x (a ++ [c]) = adv (spl x a) c := by rw [spl_append]; rfl
theorem adv_told (t : List (List UInt8)) (h : List UInt8) (c : UInt8) : adv ⟨t, h⟩ c = ⟨t ++ (adv ⟨[], h⟩ c).t, (adv ⟨[], h⟩ c).h⟩ := by
  unfold adv
  split <;> simp_all
theorem spl_told (l : List UInt8) : ∀ (t : List (List UInt8)) (h : List UInt8), spl ⟨t, h⟩ l = ⟨t ++ (spl ⟨[], h⟩ l).t, (spl ⟨[], h⟩ l).h⟩ := by
  induction l with
  | nil => intro t h; simp [spl_nil]
  | cons c l ih =>
    intro t h
    rw [spl_cons, spl_cons, adv_told, ih]
    have e := ih (adv ⟨[], h⟩ c).t (adv ⟨[], h⟩ c).h
    rw [show (⟨(adv ⟨[], h⟩ c).t, (adv ⟨[], h⟩ c).h⟩ : Sp) = adv ⟨[], h⟩ c from rfl] at e
    rw [e]
    simp
/-- All that is told are chunks; what is held has no end. -/
def Sp.ok (x : Sp) : Prop := (∀ c ∈ x.t, Ck c) ∧ Hd x.h
theorem Sp.ok.adv {x : Sp} (k : x.ok) (c : UInt8) : (adv x c).ok := by
  unfold Proofs.Ythkhmjdenenikaa.adv
  cases he : ended (x.h ++ [c]) with
  | true =>
    refine ⟨fun d hd => ?_, Hd.nil⟩
    simp at hd
    rcases hd with hd | rfl
    · exact k.1 d hd
    · exact k.2.cut he
  | false => exact ⟨k.1, k.2.snoc he⟩
theorem Sp.ok.spl {l : List UInt8} : ∀ {x : Sp}, x.ok → (spl x l).ok := by
  induction l with
  | nil => intro x k; exact k
  | cons c l ih => intro x k; exact ih (k.adv c)
theorem Sp.ok.nil : Sp.ok ⟨[], []⟩ := ⟨by simp, Hd.nil⟩
theorem adv_all (x : Sp) (c : UInt8) : (adv x c).t.flatten ++ (adv x c).h = x.t.flatten ++ x.h ++ [c] := by
  unfold adv
  split <;> simp
theorem spl_all (l : List UInt8) : ∀ x : Sp, (spl x l).t.flatten ++ (spl x l).h = x.t.flatten ++ x.h ++ l := by
  induction l with
  | nil => intro x; simp [spl_nil]
  | cons c l ih => intro x; rw [spl_cons, ih, adv_all]; simp
theorem spl_hd (t : List (List UInt8)) (l : List UInt8) : ∀ h, Hd (h ++ l) → spl ⟨t, h⟩ l = ⟨t, h ++ l⟩ := by
  induction l with
  | nil => intro h _; simp [spl_nil]
  | cons c l ih =>
    intro h k
    have e : h ++ c :: l = (h ++ [c]) ++ l := by simp
    rw [e] at k ⊢
    have k1 := k.pre (h.length + 1) (by simp)
    rw [List.take_of_length_le (by simp)] at k1
    rw [spl_cons, ← ih _ k]
    unfold adv
    simp [k1]
theorem spl_ck (t : List (List UInt8)) (c : List UInt8) (k : Ck c) : spl ⟨t, []⟩ c = ⟨t ++ [c], []⟩ := by
  obtain ⟨a, b, rfl⟩ : ∃ a b, c = a ++ [b] := ⟨c.dropLast, c.getLast (by rintro rfl; have := k.pos; simp at this), (List.dropLast_concat_getLast _).symm⟩
  have ha := k.pre (by simp)
  rw [spl_snoc, spl_hd t a [] (by simpa using ha)]
  unfold adv
  simp [k.1]
theorem spl_cks : ∀ (T : List (List UInt8)) (t : List (List UInt8)), (∀ c ∈ T, Ck c) → spl ⟨t, []⟩ T.flatten = ⟨t ++ T, []⟩
  | [], t, _ => by simp [spl_nil]
  | c :: T, t, k => by
    rw [List.flatten_cons, spl_append, spl_ck t c (k c (by simp)), spl_cks T _ (fun d hd => k d (by simp [hd]))]
    simp
/-- What chunks make, and what no chunk is behind them, is cut just so. -/
theorem spl_made (T : List (List UInt8)) (h : List UInt8) (k : ∀ c ∈ T, Ck c) (kh : Hd h) : spl ⟨[], []⟩ (T.flatten ++ h) = ⟨T, h⟩ := by
  rw [spl_append, spl_cks T [] k, spl_hd _ h [] (by simpa using kh)]
  simp

/-- A text's chunks. -/
def Sp.all (x : Sp) : List (List UInt8) := x.t ++ (if x.h = [] then [] else [x.h])
def chunks (l : List UInt8) : List (List UInt8) := (spl ⟨[], []⟩ l).all
/-- Places behind chunks. -/
def sums : Nat → List (List UInt8) → List Nat
  | _, [] => []
  | p, c :: r => (p + c.length) :: sums (p + c.length) r
def cuts (l : List UInt8) : List Nat := sums 0 (chunks l)
theorem sums_length : ∀ (p : Nat) (T : List (List UInt8)), (sums p T).length = T.length
  | _, [] => rfl
  | p, c :: r => by simp [sums, sums_length]
theorem sums_append : ∀ (p : Nat) (T U : List (List UInt8)), sums p (T ++ U) = sums p T ++ sums (p + T.flatten.length) U
  | p, [], U => by simp [sums]
  | p, c :: r, U => by simp [sums, sums_append]; rw [Nat.add_assoc]
theorem sums_get : ∀ (p : Nat) (T : List (List UInt8)) (j : Nat), j < T.length → (sums p T)[j]? = some (p + (T.take (j + 1)).flatten.length)
  | p, c :: r, 0, _ => by simp [sums]
  | p, c :: r, j + 1, h => by
    have := sums_get (p + c.length) r j (by simpa using h)
    simp only [sums, List.getElem?_cons_succ, this, List.take_succ_cons, List.flatten_cons, List.length_append]
    congr 1
    omega
/-- A list of chunks as a text has it. -/
def Tail (R : List (List UInt8)) : Prop := ∃ T h, (∀ c ∈ T, Ck c) ∧ Hd h ∧ R = T ++ (if h = [] then [] else [h])
theorem Sp.ok.tail {x : Sp} (k : x.ok) : Tail x.all := ⟨x.t, x.h, k.1, k.2, rfl⟩
theorem all_flat (x : Sp) : x.all.flatten = x.t.flatten ++ x.h := by
  unfold Sp.all
  by_cases h : x.h = []
  · simp [h]
  · simp [h]
theorem chunks_flat (l : List UInt8) : (chunks l).flatten = l := by
  unfold chunks
  rw [all_flat, spl_all]
  simp
theorem chunks_tail (l : List UInt8) : Tail (chunks l) := (Sp.ok.nil.spl).tail
theorem Tail.chunks {R : List (List UInt8)} (k : Tail R) : chunks R.flatten = R := by
  obtain ⟨T, h, k1, k2, rfl⟩ := k
  have e : (T ++ if h = [] then [] else [h]).flatten = T.flatten ++ h := by
    by_cases hh : h = []
    · simp [hh]
    · simp [hh]
  unfold Proofs.Ythkhmjdenenikaa.chunks
  rw [e, spl_made T h k1 k2]
  rfl
theorem Tail.rest {c : List UInt8} {R : List (List UInt8)} (k : Tail (c :: R)) : Tail R := by
  obtain ⟨T, h, k1, k2, e⟩ := k
  cases T with
  | nil =>
    by_cases hh : h = []
    · simp [hh] at e
    · simp [hh] at e
      obtain ⟨_, rfl⟩ := e
      exact ⟨[], [], by simp, Hd.nil, by simp⟩
  | cons d T =>
    simp at e
    exact ⟨T, h, fun x hx => k1 x (by simp [hx]), k2, e.2⟩
theorem Tail.drop {R : List (List UInt8)} (k : Tail R) : ∀ n, Tail (R.drop n)
  | 0 => k
  | n + 1 => by
    have := k.drop n
    cases h : R.drop n with
    | nil =>
      rw [List.drop_eq_nil_iff] at h
      rw [List.drop_eq_nil_of_le (by omega)]
      exact ⟨[], [], by simp, Hd.nil, by simp⟩
    | cons c r =>
      rw [h] at this
      have e : R.drop (n + 1) = r := by rw [← List.drop_drop, h]; rfl
      rw [e]
      exact this.rest
theorem Tail.size {R : List (List UInt8)} (k : Tail R) {j : Nat} (hj : j < R.length) : 1 ≤ R[j].length ∧ R[j].length ≤ 1024 ∧ (j + 1 < R.length → 64 ≤ R[j].length) := by
  obtain ⟨T, h, k1, k2, rfl⟩ := k
  by_cases hT : j < T.length
  · rw [List.getElem_append_left hT]
    have := k1 _ (List.getElem_mem hT)
    have a := this.pos
    have b := this.le
    exact ⟨by omega, b, fun _ => by omega⟩
  · by_cases hh : h = []
    · simp [hh] at hj
      omega
    · simp [hh] at hj
      have e : j = T.length := by omega
      subst e
      have := k2.lt
      have := List.length_pos_iff.2 hh
      simp [hh]
      omega
/-- The chunk that comes first, and whether it is sure. -/
theorem Tail.head {c : List UInt8} {R : List (List UInt8)} (k : Tail (c :: R)) : (Ck c) ∨ (Hd c ∧ R = [] ∧ c ≠ []) := by
  obtain ⟨T, h, k1, k2, e⟩ := k
  cases T with
  | nil =>
    by_cases hh : h = []
    · simp [hh] at e
    · simp [hh] at e
      obtain ⟨rfl, rfl⟩ := e
      exact .inr ⟨k2, rfl, hh⟩
  | cons d T =>
    simp at e
    rw [e.1]
    exact .inl (k1 d (by simp))
end Go.Proofs.Ythkhmjdenenikaa
