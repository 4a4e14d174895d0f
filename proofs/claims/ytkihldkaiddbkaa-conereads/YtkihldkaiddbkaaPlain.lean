/-
  Paths, plainly: lists of bytes, what stands between slashes, names, the order of texts. No program here. Conditions: none.
-/
import Derived.Lib.Join
import Derived.Lib.Bytealg
import Derived.Lib.LastIndexByte
import Derived.Lib.Small
import Derived.Test.YtkihldkaiddbkaaProg
namespace Go.Proofs.Ytkihldkaiddbkaa

/-- A text of these bytes. -/
def strB (l : List UInt8) : ByteArray := ⟨l.toArray⟩
theorem strB_list (l : List UInt8) : (strB l).data.toList = l := by simp [strB]
theorem strB_size (l : List UInt8) : (strB l).size = l.length := by simp [strB, ByteArray.size]
theorem strB_of (s : ByteArray) : strB s.data.toList = s := by simp [strB]
theorem strB_inj {a b : List UInt8} (h : strB a = strB b) : a = b := by rw [← strB_list a, h, strB_list]

namespace Pt

def name (l : List UInt8) : Bool := decide (1 ≤ l.length ∧ l.length ≤ 64 ∧ l ≠ [46] ∧ l ≠ [46, 46] ∧ 47 ∉ l ∧ 0 ∉ l)
def cut : List UInt8 → List (List UInt8)
  | [] => [[]]
  | c :: t => if c = 47 then [] :: cut t else
    match cut t with
    | [] => [[c]]
    | h :: r => (c :: h) :: r
def parts (l : List UInt8) : List (List UInt8) := if l = [] then [] else cut l
def few (ps : List (List UInt8)) : Bool := decide (ps.length ≤ 16) && ps.all name
def path (l : List UInt8) : Bool := few (parts l)
def joined : List (List UInt8) → List UInt8
  | [] => []
  | [p] => p
  | p :: q :: r => p ++ 47 :: joined (q :: r)

theorem name_ne {l : List UInt8} (h : name l = true) : l ≠ [] := by
  have := of_decide_eq_true h
  rintro rfl
  simp at this
theorem name_no {l : List UInt8} (h : name l = true) : 47 ∉ l := (of_decide_eq_true h).2.2.2.2.1
theorem name_le {l : List UInt8} (h : name l = true) : l.length ≤ 64 := (of_decide_eq_true h).2.1

theorem cut_ne (l : List UInt8) : cut l ≠ [] := by
  cases l with
  | nil => simp [cut]
  | cons c t =>
    unfold cut
    split
    · simp
    · split <;> simp
theorem cut_no {p : List UInt8} (h : 47 ∉ p) : cut p = [p] := by
  induction p with
  | nil => rfl
  | cons c t ih =>
    simp only [List.mem_cons, not_or] at h
    unfold cut
    rw [if_neg (fun e => h.1 e.symm), ih h.2]
theorem cut_slash (t : List UInt8) : cut (47 :: t) = [] :: cut t := by simp [cut]
theorem cut_cons {c : UInt8} {t a : List UInt8} {b : List (List UInt8)} (hc : c ≠ 47) (he : cut t = a :: b) : cut (c :: t) = (c :: a) :: b := by
  show (if c = 47 then _ else _) = _
  rw [if_neg hc, he]
theorem cut_mid (d r : List UInt8) : cut (d ++ 47 :: r) = cut d ++ cut r := by
  induction d with
  | nil => exact cut_slash r
  | cons c t ih =>
    show cut (c :: (t ++ 47 :: r)) = _
    by_cases hc : c = 47
    · subst hc; rw [cut_slash, cut_slash, ih]; rfl
    · cases he : cut t with
      | nil => exact absurd he (cut_ne t)
      | cons a b => rw [cut_cons hc he, cut_cons hc (by rw [ih, he]; rfl)]; rfl
theorem cut_app {p : List UInt8} (l : List UInt8) (h : 47 ∉ p) : cut (p ++ 47 :: l) = p :: cut l := by rw [cut_mid, cut_no h]; rfl
theorem cut_end (d : List UInt8) {p : List UInt8} (h : 47 ∉ p) : cut (d ++ 47 :: p) = cut d ++ [p] := by rw [cut_mid, cut_no h]
/-- The first slash, if there is one. -/
theorem first_slash (l : List UInt8) : 47 ∉ l ∨ ∃ p r, l = p ++ 47 :: r ∧ 47 ∉ p := by
  induction l with
  | nil => exact .inl (by simp)
  | cons c t ih =>
    by_cases hc : c = 47
    · exact .inr ⟨[], t, by simp [hc], by simp⟩
    · rcases ih with h | ⟨p, r, rfl, hp⟩
      · exact .inl (by simp [h]; exact fun e => hc e.symm)
      · exact .inr ⟨c :: p, r, rfl, by simp [hp]; exact fun e => hc e.symm⟩
theorem joined_cons {p : List UInt8} {q : List (List UInt8)} (h : q ≠ []) : joined (p :: q) = p ++ 47 :: joined q := by
  cases q with
  | nil => exact absurd rfl h
  | cons _ _ => rfl
theorem joined_app {a t : List (List UInt8)} (ha : a ≠ []) (ht : t ≠ []) : joined (a ++ t) = joined a ++ 47 :: joined t := by
  induction a with
  | nil => exact absurd rfl ha
  | cons p q ih =>
    by_cases hq : q = []
    · subst hq; simp [joined_cons ht, joined]
    · rw [List.cons_append, joined_cons (by simp [hq]), joined_cons hq, ih hq]; simp
theorem joined_cut (l : List UInt8) : joined (cut l) = l := by
  induction l with
  | nil => rfl
  | cons c t ih =>
    unfold cut
    by_cases hc : c = 47
    · rw [if_pos hc, joined_cons (cut_ne t), ih, hc]; rfl
    · rw [if_neg hc]
      cases he : cut t with
      | nil => exact absurd he (cut_ne t)
      | cons a b =>
        rw [he] at ih
        show joined ((c :: a) :: b) = _
        cases b with
        | nil => simp [joined] at ih ⊢; exact ih
        | cons x y => simp [joined] at ih ⊢; exact ih
theorem joined_parts (l : List UInt8) : joined (parts l) = l := by
  unfold parts
  split
  · next h => rw [h]; rfl
  · exact joined_cut l
theorem cut_joined {ps : List (List UInt8)} (h : ps ≠ []) (hn : ∀ p ∈ ps, 47 ∉ p) : cut (joined ps) = ps := by
  induction ps with
  | nil => exact absurd rfl h
  | cons p q ih =>
    by_cases hq : q = []
    · subst hq; exact cut_no (hn p (by simp))
    · rw [joined_cons hq, cut_app _ (hn p (by simp)), ih hq (fun x hx => hn x (by simp [hx]))]
theorem joined_ne {ps : List (List UInt8)} (h : ps ≠ []) (hn : ∀ p ∈ ps, p ≠ []) : joined ps ≠ [] := by
  cases ps with
  | nil => exact absurd rfl h
  | cons p q =>
    by_cases hq : q = []
    · subst hq; exact hn p (by simp)
    · rw [joined_cons hq]; simp
theorem few_all {ps : List (List UInt8)} (h : few ps = true) : ∀ p ∈ ps, name p = true := by
  unfold few at h
  simp only [Bool.and_eq_true, List.all_eq_true] at h
  exact h.2
theorem few_len {ps : List (List UInt8)} (h : few ps = true) : ps.length ≤ 16 := by
  unfold few at h
  simp only [Bool.and_eq_true, decide_eq_true_eq] at h
  exact h.1
theorem parts_joined {ps : List (List UInt8)} (h : few ps = true) : parts (joined ps) = ps := by
  by_cases h0 : ps = []
  · subst h0; rfl
  · unfold parts
    rw [if_neg (joined_ne h0 fun p hp => name_ne (few_all h p hp))]
    exact cut_joined h0 fun p hp => name_no (few_all h p hp)
theorem few_prefix {a t : List (List UInt8)} (h : few (a ++ t) = true) : few a = true := by
  unfold few at *
  simp only [Bool.and_eq_true, decide_eq_true_eq, List.all_eq_true, List.length_append, List.mem_append] at *
  exact ⟨by omega, fun p hp => h.2 p (.inl hp)⟩
theorem parts_nil_iff (l : List UInt8) : parts l = [] ↔ l = [] := by
  unfold parts
  split
  · next h => simp [h]
  · next h => simp [h, cut_ne]

/-! ### the directory and the last part -/
def dir (l : List UInt8) : List UInt8 := joined (parts l).dropLast
def last (l : List UInt8) : List UInt8 := (parts l).getLast?.getD []
theorem split_none {l : List UInt8} (h0 : l ≠ []) (h : 47 ∉ l) : dir l = [] ∧ last l = l := by
  unfold dir last parts
  rw [if_neg h0, cut_no h]
  simp [joined]
theorem split_at (d : List UInt8) {p : List UInt8} (h : 47 ∉ p) : dir (d ++ 47 :: p) = d ∧ last (d ++ 47 :: p) = p := by
  unfold dir last parts
  rw [if_neg (by simp), cut_end d h]
  simp [joined_cut]
/-- The last slash, if there is one. -/
theorem last_slash (l : List UInt8) : 47 ∉ l ∨ ∃ d p, l = d ++ 47 :: p ∧ 47 ∉ p := by
  induction l with
  | nil => exact .inl (by simp)
  | cons c t ih =>
    rcases ih with h | ⟨d, p, rfl, hp⟩
    · by_cases hc : c = 47
      · exact .inr ⟨[], t, by simp [hc], h⟩
      · exact .inl (by simp [h]; exact fun e => hc e.symm)
    · exact .inr ⟨c :: d, p, rfl, hp⟩

/-! ### below -/
def below (l d : List UInt8) : Bool := d.isPrefixOf l && (decide (d = []) || decide (l.drop d.length = []) || decide ((l.drop d.length).head? = some 47))
def within (d l : List UInt8) : Bool := path d && path l && (parts d).isPrefixOf (parts l)

theorem below_iff (l d : List UInt8) : below l d = true ↔ d = [] ∨ l = d ∨ ∃ r, l = d ++ 47 :: r := by
  unfold below
  simp only [Bool.and_eq_true, Bool.or_eq_true, decide_eq_true_eq, List.isPrefixOf_iff_prefix]
  constructor
  · rintro ⟨⟨t, rfl⟩, h⟩
    simp only [List.drop_left] at h
    rcases h with (h | h) | h
    · exact .inl h
    · subst h; exact .inr (.inl (by simp))
    · cases t with
      | nil => simp at h
      | cons x y => simp at h; subst h; exact .inr (.inr ⟨y, rfl⟩)
  · rintro (rfl | rfl | ⟨r, rfl⟩)
    · simp
    · simp
    · simp
theorem below_within {l d : List UInt8} (hl : path l = true) : below l d = within d l := by
  rw [Bool.eq_iff_iff, below_iff]
  unfold within
  simp only [Bool.and_eq_true, List.isPrefixOf_iff_prefix, hl, and_true]
  constructor
  · rintro (rfl | rfl | ⟨r, rfl⟩)
    · exact ⟨by decide, by simp [parts]⟩
    · exact ⟨hl, List.prefix_rfl⟩
    · by_cases hd : d = []
      · subst hd; exact ⟨by decide, by simp [parts]⟩
      · have e : parts (d ++ 47 :: r) = parts d ++ cut r := by unfold parts; rw [if_neg (by simp), if_neg hd, cut_mid]
        unfold path at hl
        rw [e] at hl
        exact ⟨few_prefix hl, by rw [e]; exact List.prefix_append _ _⟩
  · rintro ⟨_, t, ht⟩
    have hj : l = joined (parts d ++ t) := by rw [ht, joined_parts]
    by_cases hd : parts d = []
    · exact .inl ((parts_nil_iff d).1 hd)
    · by_cases h0 : t = []
      · subst h0
        rw [List.append_nil, joined_parts] at hj
        exact .inr (.inl hj)
      · rw [joined_app hd h0, joined_parts] at hj
        exact .inr (.inr ⟨_, hj⟩)
theorem within_prefix {d l : List UInt8} (h : within d l = true) : ∃ t, l = d ++ t := by
  have hl : path l = true := by unfold within at h; simp only [Bool.and_eq_true] at h; exact h.1.2
  rw [← below_within hl, below_iff] at h
  rcases h with rfl | rfl | ⟨r, rfl⟩
  · exact ⟨l, rfl⟩
  · exact ⟨[], by simp⟩
  · exact ⟨_, rfl⟩
theorem within_trans {a b c : List UInt8} (h : within a b = true) (k : within b c = true) : within a c = true := by
  unfold within at *
  simp only [Bool.and_eq_true, List.isPrefixOf_iff_prefix] at *
  exact ⟨⟨h.1.1, k.1.2⟩, h.2.trans k.2⟩
theorem within_dir {l : List UInt8} (h : path l = true) : within (dir l) l = true := by
  have hp : (parts l).dropLast <+: parts l := List.dropLast_prefix _
  have hf : few (parts l).dropLast = true := by
    obtain ⟨t, ht⟩ := hp
    unfold path at h
    rw [← ht] at h
    exact few_prefix h
  unfold within dir path
  rw [parts_joined hf]
  simp only [Bool.and_eq_true, List.isPrefixOf_iff_prefix]
  exact ⟨⟨hf, h⟩, hp⟩

/-! ### the order -/
def rank (c : UInt8) : Int := if c = 47 then -1 else (c.toNat : Int)
def order : List UInt8 → List UInt8 → Int
  | [], [] => 0
  | [], _ :: _ => -1
  | _ :: _, [] => 1
  | c :: s, d :: t => if c = d then order s t else if rank c < rank d then -1 else 1
theorem rank_inj {c d : UInt8} (h : rank c = rank d) : c = d := by
  unfold rank at h
  by_cases h1 : c = 47 <;> by_cases h2 : d = 47
  · rw [h1, h2]
  · rw [if_pos h1, if_neg h2] at h; omega
  · rw [if_neg h1, if_pos h2] at h; omega
  · rw [if_neg h1, if_neg h2] at h; exact UInt8.toNat_inj.1 (by omega)
theorem order_self (a : List UInt8) : order a a = 0 := by
  induction a with
  | nil => rfl
  | cons c t ih => simp [order, ih]
theorem order_eq : ∀ {a b : List UInt8}, order a b = 0 → a = b
  | [], [], _ => rfl
  | [], _ :: _, h => by simp [order] at h
  | _ :: _, [], h => by simp [order] at h
  | c :: s, d :: t, h => by
    unfold order at h
    split at h
    · next e => rw [e, order_eq h]
    · split at h <;> omega
theorem order_neg : ∀ (a b : List UInt8), order b a = - order a b
  | [], [] => rfl
  | [], _ :: _ => rfl
  | _ :: _, [] => rfl
  | c :: s, d :: t => by
    unfold order
    by_cases e : c = d
    · rw [if_pos e, if_pos e.symm]; exact order_neg s t
    · rw [if_neg e, if_neg (fun x => e x.symm)]
      have : rank c ≠ rank d := fun h => e (rank_inj h)
      by_cases h : rank c < rank d
      · rw [if_pos h, if_neg (by omega)]; rfl
      · rw [if_neg h, if_pos (by omega)]
theorem order_range (a b : List UInt8) : order a b = -1 ∨ order a b = 0 ∨ order a b = 1 := by
  induction a generalizing b with
  | nil => cases b <;> simp [order]
  | cons c s ih =>
    cases b with
    | nil => simp [order]
    | cons d t =>
      unfold order
      split
      · exact ih t
      · split <;> simp
theorem order_trans : ∀ {a b c : List UInt8}, order a b ≤ 0 → order b c ≤ 0 → order a c ≤ 0
  | [], _, [], _, _ => by simp [order]
  | [], _, _ :: _, _, _ => by simp [order]
  | _ :: _, [], _, h, _ => by simp [order] at h
  | _ :: _, _ :: _, [], _, h => by simp [order] at h
  | x :: a, y :: b, z :: c, h, k => by
    unfold order at *
    by_cases e1 : x = y
    · subst e1
      rw [if_pos rfl] at h
      by_cases e2 : x = z
      · rw [if_pos e2] at k ⊢
        exact order_trans h k
      · rw [if_neg e2] at k ⊢
        exact k
    · rw [if_neg e1] at h
      have h1 : rank x < rank y := by
        by_cases hh : rank x < rank y
        · exact hh
        · rw [if_neg hh] at h; omega
      by_cases e2 : y = z
      · subst e2
        rw [if_neg e1, if_pos h1]
        omega
      · rw [if_neg e2] at k
        have h2 : rank y < rank z := by
          by_cases hh : rank y < rank z
          · exact hh
          · rw [if_neg hh] at k; omega
        have : x ≠ z := by rintro rfl; omega
        rw [if_neg this, if_pos (by omega)]
        omega
theorem order_prefix (a t : List UInt8) : order a (a ++ t) ≤ 0 := by
  induction a with
  | nil => cases t <;> simp [order]
  | cons c s ih => simpa [order] using ih
theorem order_proper (a t : List UInt8) (h : t ≠ []) : order a (a ++ t) < 0 := by
  induction a with
  | nil => cases t <;> simp [order] at *
  | cons c s ih => simpa [order] using ih
/-- Where the byte at k stands among others; the end stands first. -/
def rk (l : List UInt8) (k : Nat) : Int := match l[k]? with
  | none => -2
  | some c => rank c
theorem order_at (k : Nat) : ∀ (a b : List UInt8), k ≤ a.length → k ≤ b.length → (∀ j, j < k → a[j]? = b[j]?) → (k < a.length → k < b.length → a[k]? ≠ b[k]?) → Lib.compareInt (rk a k) (rk b k) = order a b := by
  induction k with
  | zero =>
    intro a b _ _ _ h
    have hr : ∀ c, -2 < rank c := by intro c; unfold rank; split <;> omega
    cases a with
    | nil =>
      cases b with
      | nil => rfl
      | cons d t => have := hr d; simp [rk, order, Lib.compareInt, this]
    | cons c s =>
      cases b with
      | nil => have := hr c; simp [rk, order, Lib.compareInt, this]; omega
      | cons d t =>
        have e : c ≠ d := by simpa using h (by simp) (by simp)
        have : rank c ≠ rank d := fun h => e (rank_inj h)
        show Lib.compareInt (rank c) (rank d) = if c = d then _ else _
        rw [if_neg e]
        unfold Lib.compareInt
        by_cases h1 : rank c < rank d
        · rw [if_pos h1, if_pos h1]
        · rw [if_neg h1, if_neg h1, if_pos (by omega)]
  | succ k ih =>
    intro a b ha hb he h
    cases a with
    | nil => simp at ha
    | cons c s =>
      cases b with
      | nil => simp at hb
      | cons d t =>
        have e : c = d := by simpa using he 0 (by omega)
        subst e
        simp only [List.length_cons, Nat.add_le_add_iff_right] at ha hb
        have := ih s t ha hb (fun j hj => by simpa using he (j + 1) (by omega)) (fun h1 h2 => by simpa using h (by simp; omega) (by simp; omega))
        simpa [rk, order] using this

/-! ### where a byte stands -/
theorem indexByte_none {l : List UInt8} {c : UInt8} (h : c ∉ l) : Lib.indexByte l c = -1 := by
  induction l with
  | nil => rfl
  | cons b t ih =>
    simp only [List.mem_cons, not_or] at h
    unfold Lib.indexByte
    rw [ih h.2]
    simp [show ¬ b = c from fun e => h.1 e.symm]
theorem indexByte_app {p r : List UInt8} {c : UInt8} (h : c ∉ p) : Lib.indexByte (p ++ c :: r) c = p.length := by
  induction p with
  | nil => simp [Lib.indexByte]
  | cons b t ih =>
    simp only [List.mem_cons, not_or] at h
    show Lib.indexByte (b :: (t ++ c :: r)) c = _
    unfold Lib.indexByte
    rw [ih h.2]
    simp only [beq_iff_eq, show ¬ b = c from fun e => h.1 e.symm, if_false, List.length_cons]
    rw [if_neg (by omega)]
    omega
theorem indexByte_neg (l : List UInt8) (c : UInt8) : decide (Lib.indexByte l c < 0) = decide (c ∉ l) := by
  by_cases h : c ∈ l
  · obtain ⟨p, r, rfl, hp⟩ : ∃ p r, l = p ++ c :: r ∧ c ∉ p := by
      induction l with
      | nil => simp at h
      | cons b t ih =>
        by_cases e : b = c
        · exact ⟨[], t, by simp [e], by simp⟩
        · obtain ⟨p, r, rfl, hp⟩ := ih (by simpa [show ¬ c = b from fun x => e x.symm] using h)
          exact ⟨b :: p, r, rfl, by simp [hp]; exact fun x => e x.symm⟩
    rw [indexByte_app hp]
    simp
  · rw [indexByte_none h]
    simp [h]

end Pt
end Go.Proofs.Ytkihldkaiddbkaa
