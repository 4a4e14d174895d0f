/-
  Cones, plainly: lists of directories, their one form, what lies in them. No program here. Conditions: none.
-/
import Derived.Test.YtkihldkaiddbkaaPlain
namespace Go.Proofs.Ytkihldkaiddbkaa.Pt

theorem within_self {d : List UInt8} (h : path d = true) : within d d = true := by
  unfold within
  simp [h, List.isPrefixOf_iff_prefix]
theorem within_path {d l : List UInt8} (h : within d l = true) : path d = true ∧ path l = true := by
  unfold within at h
  simp only [Bool.and_eq_true] at h
  exact h.1
theorem within_root {l : List UInt8} (h : path l = true) : within [] l = true := by
  rw [← below_within h, below_iff]
  exact .inl rfl
theorem within_nil (l : List UInt8) : within [] l = path l := by
  cases h : path l with
  | true => exact within_root h
  | false =>
    cases k : within [] l with
    | false => rfl
    | true => rw [(within_path k).2] at h; cases h
theorem within_iff {d l : List UInt8} (hl : path l = true) : within d l = true ↔ d = [] ∨ l = d ∨ ∃ r, l = d ++ 47 :: r := by
  rw [← below_within hl, below_iff]
theorem within_parts {d l : List UInt8} : within d l = true ↔ path d = true ∧ path l = true ∧ parts d <+: parts l := by
  unfold within
  simp only [Bool.and_eq_true, List.isPrefixOf_iff_prefix, and_assoc]
theorem parts_inj {a b : List UInt8} (h : parts a = parts b) : a = b := by rw [← joined_parts a, h, joined_parts]
theorem within_anti {a b : List UInt8} (h : within a b = true) (k : within b a = true) : a = b := by
  rw [within_parts] at h k
  exact parts_inj (h.2.2.eq_of_length (Nat.le_antisymm h.2.2.length_le k.2.2.length_le))
/-- Two directories above one are one above the other. -/
theorem within_either {a b d : List UInt8} (h : within a d = true) (k : within b d = true) : within a b = true ∨ within b a = true := by
  rw [within_parts] at h k
  rw [within_parts, within_parts]
  rcases Nat.le_total (parts a).length (parts b).length with hl | hl
  · exact .inl ⟨h.1, k.1, List.prefix_of_prefix_length_le h.2.2 k.2.2 hl⟩
  · exact .inr ⟨k.1, h.1, List.prefix_of_prefix_length_le k.2.2 h.2.2 hl⟩
theorem parts_dir {l : List UInt8} (h : path l = true) : parts (dir l) = (parts l).dropLast := by
  unfold dir
  apply parts_joined
  obtain ⟨t, ht⟩ := List.dropLast_prefix (parts l)
  unfold path at h
  rw [← ht] at h
  exact few_prefix h
theorem path_dir {l : List UInt8} (h : path l = true) : path (dir l) = true := (within_path (within_dir h)).1
/-- What is above a path is it, or above its directory. -/
theorem within_up {d l : List UInt8} (h : within d l = true) : d = l ∨ within d (dir l) = true := by
  by_cases e : d = l
  · exact .inl e
  · right
    have hp := within_parts.1 h
    rw [within_parts, parts_dir hp.2.1]
    refine ⟨hp.1, path_dir hp.2.1, ?_⟩
    refine List.prefix_of_prefix_length_le hp.2.2 (List.dropLast_prefix _) ?_
    have h1 := hp.2.2.length_le
    have h2 : (parts d).length ≠ (parts l).length := fun hh => e (parts_inj (hp.2.2.eq_of_length hh))
    rw [List.length_dropLast]
    omega

/-! ### the order -/
theorem order_lt_le {a b c : List UInt8} (h : order a b < 0) (k : order b c ≤ 0) : order a c < 0 := by
  have h1 := order_trans (Int.le_of_lt h) k
  rcases Int.lt_or_eq_of_le h1 with h2 | h2
  · exact h2
  · exfalso
    have := order_eq h2
    subst this
    have := order_neg a b
    omega
theorem order_le_lt {a b c : List UInt8} (h : order a b ≤ 0) (k : order b c < 0) : order a c < 0 := by
  have h1 := order_trans h (Int.le_of_lt k)
  rcases Int.lt_or_eq_of_le h1 with h2 | h2
  · exact h2
  · exfalso
    have := order_eq h2
    subst this
    have := order_neg a b
    omega
theorem order_both {a b : List UInt8} (h : order a b ≤ 0) (k : order b a ≤ 0) : a = b := by
  have := order_neg a b
  exact order_eq (by omega)
theorem order_app (a s t : List UInt8) : order (a ++ s) (a ++ t) = order s t := by
  induction a with
  | nil => rfl
  | cons c r ih => simpa [order] using ih
theorem rank_slash (c : UInt8) : rank 47 ≤ rank c := by
  unfold rank
  rw [if_pos rfl]
  split <;> omega
/-- What stands between a text and one that begins with it begins with it. -/
theorem between_prefix : ∀ (a f t : List UInt8), order a f ≤ 0 → order f (a ++ t) ≤ 0 → ∃ s, f = a ++ s
  | [], f, _, _, _ => ⟨f, rfl⟩
  | c :: a, [], t, h, _ => by simp [order] at h
  | c :: a, d :: f, t, h, k => by
    simp only [List.cons_append, order] at h k
    by_cases e : c = d
    · subst e
      rw [if_pos rfl] at h k
      obtain ⟨s, rfl⟩ := between_prefix a f t h k
      exact ⟨s, rfl⟩
    · rw [if_neg e] at h
      rw [if_neg (fun x => e x.symm)] at k
      have h1 : rank c < rank d := by
        by_cases hh : rank c < rank d
        · exact hh
        · rw [if_neg hh] at h; omega
      rw [if_neg (by omega)] at k
      omega
/-- What lies within a directory stands in one row behind it. -/
theorem between_within {m f d : List UInt8} (h : within m d = true) (hf : path f = true) (h1 : order m f ≤ 0) (h2 : order f d ≤ 0) : within m f = true := by
  have hd := (within_path h).2
  rw [within_iff hd] at h
  rw [within_iff hf]
  rcases h with rfl | rfl | ⟨r, rfl⟩
  · exact .inl rfl
  · exact .inr (.inl (order_both h2 h1))
  · obtain ⟨s, rfl⟩ := between_prefix m f _ h1 h2
    rw [order_app] at h2
    cases s with
    | nil => exact .inr (.inl (by simp))
    | cons c s =>
      right; right
      unfold order at h2
      by_cases e : c = 47
      · subst e; exact ⟨s, rfl⟩
      · rw [if_neg e, if_neg (by have := rank_slash c; omega)] at h2
        omega
theorem within_order {a b : List UInt8} (h : within a b = true) : order a b ≤ 0 := by
  obtain ⟨t, rfl⟩ := within_prefix h
  exact order_prefix a t

/-! ### the one form -/
/-- Has another one of these d within? -/
def inner (ds : List (List UInt8)) (d : List UInt8) : Bool := ds.any fun k => within k d && decide (k ≠ d)
theorem inner_false {ds : List (List UInt8)} {d : List UInt8} : inner ds d = false ↔ ∀ k ∈ ds, within k d = true → k = d := by
  unfold inner
  rw [Bool.eq_false_iff]
  simp only [ne_eq, List.any_eq_true, Bool.and_eq_true, decide_eq_true_eq, not_exists, not_and, Decidable.not_not]
def Rising (l : List (List UInt8)) : Prop := l.Pairwise fun a b => order a b < 0
/-- A rising list is told by what is in it. -/
theorem rising_unique : ∀ {a b : List (List UInt8)}, Rising a → Rising b → (∀ x, x ∈ a ↔ x ∈ b) → a = b
  | [], [], _, _, _ => rfl
  | [], y :: b, _, _, h => by simpa using (h y).2
  | x :: a, [], _, _, h => by simpa using (h x).1
  | x :: a, y :: b, ha, hb, h => by
    unfold Rising at ha hb
    rw [List.pairwise_cons] at ha hb
    have hxy : x = y := by
      have h1 := (h x).1 (by simp)
      have h2 := (h y).2 (by simp)
      rw [List.mem_cons] at h1 h2
      rcases h1 with e | h1
      · exact e
      · rcases h2 with e | h2
        · exact e.symm
        · have := ha.1 y h2
          have := hb.1 x h1
          have := order_neg x y
          omega
    subst hxy
    have hself := order_self x
    congr 1
    refine rising_unique ha.2 hb.2 fun z => ?_
    have hz := h z
    rw [List.mem_cons, List.mem_cons] at hz
    constructor
    · intro hm
      rcases hz.1 (.inr hm) with e | k
      · subst e; have := ha.1 z hm; omega
      · exact k
    · intro hm
      rcases hz.2 (.inr hm) with e | k
      · subst e; have := hb.1 z hm; omega
      · exact k

/-- Where d stands among these. -/
def place : List (List UInt8) → List UInt8 → Nat
  | [], _ => 0
  | o :: r, d => if order o d < 0 then place r d + 1 else 0
theorem place_le (out : List (List UInt8)) (d : List UInt8) : place out d ≤ out.length := by
  induction out with
  | nil => simp [place]
  | cons o r ih => unfold place; split <;> simp; exact ih
theorem place_lt : ∀ {out : List (List UInt8)} {d : List UInt8} {k : Nat} (_h : k < place out d), ∃ hk : k < out.length, order out[k] d < 0
  | [], d, k, h => by simp [place] at h
  | o :: r, d, k, h => by
    unfold place at h
    split at h
    · next ho =>
      cases k with
      | zero => exact ⟨by simp, ho⟩
      | succ k =>
        obtain ⟨h1, h2⟩ := place_lt (out := r) (d := d) (k := k) (by omega)
        exact ⟨by simp; omega, by simpa using h2⟩
    · omega
theorem place_stop : ∀ {out : List (List UInt8)} {d : List UInt8} (hk : place out d < out.length), ¬ order out[place out d] d < 0
  | [], d, h => by simp at h
  | o :: r, d, h => by
    by_cases ho : order o d < 0
    · have hp : place (o :: r) d = place r d + 1 := by simp [place, ho]
      have h' : place r d < r.length := by rw [hp] at h; simpa using h
      have := place_stop h'
      simp only [hp, List.getElem_cons_succ]
      exact this
    · have hp : place (o :: r) d = 0 := by simp [place, ho]
      simp only [hp, List.getElem_cons_zero]
      exact ho
def insS (out : List (List UInt8)) (d : List UInt8) : List (List UInt8) :=
  if out[place out d]? = some d then out else out.take (place out d) ++ d :: out.drop (place out d)
theorem insS_nil (d : List UInt8) : insS [] d = [d] := by simp [insS, place]
theorem insS_cons_lt {o d : List UInt8} (r : List (List UInt8)) (h : order o d < 0) : insS (o :: r) d = o :: insS r d := by
  unfold insS
  have : place (o :: r) d = place r d + 1 := by simp [place, h]
  rw [this, List.getElem?_cons_succ]
  split <;> simp
theorem insS_cons_eq {d : List UInt8} (r : List (List UInt8)) : insS (d :: r) d = d :: r := by
  unfold insS
  have : place (d :: r) d = 0 := by simp [place, order_self]
  rw [this]
  simp
theorem insS_cons_gt {o d : List UInt8} (r : List (List UInt8)) (h : ¬ order o d < 0) (e : o ≠ d) : insS (o :: r) d = d :: o :: r := by
  unfold insS
  have : place (o :: r) d = 0 := by simp [place, h]
  rw [this]
  simp [e]
theorem mem_insS (out : List (List UInt8)) (d x : List UInt8) : x ∈ insS out d ↔ x ∈ out ∨ x = d := by
  induction out with
  | nil => rw [insS_nil]; simp
  | cons o r ih =>
    by_cases h : order o d < 0
    · rw [insS_cons_lt r h, List.mem_cons, ih, List.mem_cons, or_assoc]
    · by_cases e : o = d
      · subst e
        rw [insS_cons_eq]
        simp only [List.mem_cons]
        constructor
        · exact .inl
        · rintro (h | h)
          · exact h
          · exact .inl h
      · rw [insS_cons_gt r h e]
        simp only [List.mem_cons]
        constructor
        · rintro (h | h)
          · exact .inr h
          · exact .inl h
        · rintro (h | h)
          · exact .inr h
          · exact .inl h
theorem insS_rising (out : List (List UInt8)) (d : List UInt8) (hr : Rising out) : Rising (insS out d) := by
  induction out with
  | nil => rw [insS_nil]; simp [Rising]
  | cons o r ih =>
    have hr' := hr
    unfold Rising at hr'
    rw [List.pairwise_cons] at hr'
    by_cases h : order o d < 0
    · rw [insS_cons_lt r h]
      unfold Rising
      rw [List.pairwise_cons]
      refine ⟨fun x hx => ?_, ih hr'.2⟩
      rcases (mem_insS r d x).1 hx with h1 | rfl
      · exact hr'.1 x h1
      · exact h
    · by_cases e : o = d
      · subst e
        rw [insS_cons_eq]
        exact hr
      · rw [insS_cons_gt r h e]
        have h1 : order d o < 0 := by
          have := order_neg o d
          rcases order_range o d with k | k | k
          · omega
          · exact absurd (order_eq k) e
          · omega
        unfold Rising
        rw [List.pairwise_cons]
        refine ⟨fun x hx => ?_, hr⟩
        rcases List.mem_cons.1 hx with rfl | hx
        · exact h1
        · exact order_lt_le h1 (Int.le_of_lt (hr'.1 x hx))
theorem insS_len (out : List (List UInt8)) (d : List UInt8) : (insS out d).length ≤ out.length + 1 := by
  unfold insS
  split
  · omega
  · have := place_le out d
    simp
    omega
/-- Directories put one by one, those left out that another one of ds has within. -/
def formS (ds : List (List UInt8)) : List (List UInt8) → List (List UInt8) → List (List UInt8)
  | out, [] => out
  | out, d :: r => formS ds (if inner ds d then out else insS out d) r
theorem formS_snoc (ds : List (List UInt8)) (d : List UInt8) : ∀ (r out : List (List UInt8)), formS ds out (r ++ [d]) = if inner ds d then formS ds out r else insS (formS ds out r) d
  | [], out => by simp [formS]
  | x :: r, out => by simp only [List.cons_append, formS]; exact formS_snoc ds d r _
def formM (ds : List (List UInt8)) : List (List UInt8) := formS ds [] ds
theorem formS_spec (ds : List (List UInt8)) : ∀ (r out : List (List UInt8)), Rising out → Rising (formS ds out r) ∧ ∀ x, x ∈ formS ds out r ↔ x ∈ out ∨ (x ∈ r ∧ inner ds x = false)
  | [], out, h => ⟨h, by simp [formS]⟩
  | d :: r, out, h => by
    unfold formS
    cases hi : inner ds d with
    | true =>
      rw [if_pos rfl]
      obtain ⟨h1, h2⟩ := formS_spec ds r out h
      refine ⟨h1, fun x => ?_⟩
      rw [h2, List.mem_cons]
      constructor
      · rintro (h | h)
        · exact .inl h
        · exact .inr ⟨.inr h.1, h.2⟩
      · rintro (h | ⟨rfl | h, k⟩)
        · exact .inl h
        · rw [hi] at k; cases k
        · exact .inr ⟨h, k⟩
    | false =>
      rw [if_neg (by simp)]
      obtain ⟨h1, h2⟩ := formS_spec ds r _ (insS_rising out d h)
      refine ⟨h1, fun x => ?_⟩
      rw [h2, mem_insS, List.mem_cons]
      constructor
      · rintro ((h | rfl) | h)
        · exact .inl h
        · exact .inr ⟨.inl rfl, hi⟩
        · exact .inr ⟨.inr h.1, h.2⟩
      · rintro (h | ⟨rfl | h, k⟩)
        · exact .inl (.inl h)
        · exact .inl (.inr rfl)
        · exact .inr ⟨h, k⟩
theorem formM_rising (ds : List (List UInt8)) : Rising (formM ds) := (formS_spec ds ds [] (by simp [Rising])).1
theorem mem_formM {ds : List (List UInt8)} {x : List UInt8} : x ∈ formM ds ↔ x ∈ ds ∧ inner ds x = false := by
  rw [formM, (formS_spec ds ds [] (by simp [Rising])).2]
  simp
theorem formM_of {ds f : List (List UInt8)} (hr : Rising f) (h : ∀ x, x ∈ f ↔ x ∈ ds ∧ inner ds x = false) : formM ds = f :=
  rising_unique (formM_rising ds) hr fun x => by rw [mem_formM, h]
theorem formS_len (ds : List (List UInt8)) : ∀ (r out : List (List UInt8)), (formS ds out r).length ≤ out.length + r.length
  | [], out => by simp [formS]
  | d :: r, out => by
    unfold formS
    have h1 := insS_len out d
    split
    · have := formS_len ds r out; simp; omega
    · have := formS_len ds r (insS out d); simp; omega
theorem formM_len (ds : List (List UInt8)) : (formM ds).length ≤ ds.length := by
  have := formS_len ds ds []
  simp only [List.length_nil, Nat.zero_add] at this
  exact this
/-- Each directory has one of the one form above it. -/
theorem exists_min (ds : List (List UInt8)) (hp : ∀ d ∈ ds, path d = true) : ∀ (n : Nat) (d : List UInt8), (parts d).length ≤ n → d ∈ ds → ∃ m, m ∈ formM ds ∧ within m d = true := by
  intro n
  induction n with
  | zero =>
    intro d hn hd
    refine ⟨d, mem_formM.2 ⟨hd, inner_false.2 fun k hk hw => ?_⟩, within_self (hp d hd)⟩
    have h1 := (within_parts.1 hw).2.2
    exact parts_inj (h1.eq_of_length (by have := h1.length_le; omega))
  | succ n ih =>
    intro d hn hd
    cases hi : inner ds d with
    | false => exact ⟨d, mem_formM.2 ⟨hd, hi⟩, within_self (hp d hd)⟩
    | true =>
      obtain ⟨k, hk, hw⟩ := List.any_eq_true.1 hi
      simp only [Bool.and_eq_true, decide_eq_true_eq] at hw
      have h1 := (within_parts.1 hw.1).2.2
      have h2 : (parts k).length ≠ (parts d).length := fun hh => hw.2 (parts_inj (h1.eq_of_length hh))
      have h3 := h1.length_le
      obtain ⟨m, hm, hmw⟩ := ih k (by omega) hk
      exact ⟨m, hm, within_trans hmw hw.1⟩
theorem has_min {ds : List (List UInt8)} (hp : ∀ d ∈ ds, path d = true) {d : List UInt8} (hd : d ∈ ds) : ∃ m, m ∈ formM ds ∧ within m d = true :=
  exists_min ds hp _ d (Nat.le_refl _) hd

/-! ### as the program goes: sorted first, then only the last one is asked -/
def addC (form : List (List UInt8)) (d : List UInt8) : List (List UInt8) :=
  match form.getLast? with
  | some f => if within f d then form else form ++ [d]
  | none => form ++ [d]
def formC (xs : List (List UInt8)) : List (List UInt8) := xs.foldl addC []
theorem formC_snoc (xs : List (List UInt8)) (d : List UInt8) : formC (xs ++ [d]) = addC (formC xs) d := by simp [formC]
theorem addC_len (form : List (List UInt8)) (d : List UInt8) : form.length ≤ (addC form d).length ∧ (addC form d).length ≤ form.length + 1 := by
  unfold addC
  split
  · split <;> simp
  · simp
theorem foldC_len (r : List (List UInt8)) : ∀ form : List (List UInt8), form.length ≤ (r.foldl addC form).length := by
  induction r with
  | nil => intro form; simp
  | cons d r ih => intro form; rw [List.foldl_cons]; exact Nat.le_trans (addC_len form d).1 (ih _)
theorem formC_len (xs r : List (List UInt8)) : (formC xs).length ≤ (formC (xs ++ r)).length := by
  unfold formC
  rw [List.foldl_append]
  exact foldC_len r _
/-- Sorted as path.Compare says. -/
def SortedC (xs : List (List UInt8)) : Prop := xs.Pairwise fun a b => order a b ≤ 0
theorem formC_inv : ∀ (r p : List (List UInt8)), SortedC (p ++ r) → (∀ d ∈ p ++ r, path d = true) → (Rising (formC p) ∧ ∀ x, x ∈ formC p ↔ x ∈ p ∧ inner p x = false) →
    Rising (formC (p ++ r)) ∧ ∀ x, x ∈ formC (p ++ r) ↔ x ∈ p ++ r ∧ inner (p ++ r) x = false
  | [], p, _, _, h => by rw [List.append_nil]; exact h
  | d :: r, p, hs, hp, ⟨hr, hm⟩ => by
    rw [show p ++ d :: r = (p ++ [d]) ++ r by simp] at hs hp ⊢
    refine formC_inv r (p ++ [d]) hs hp ?_
    have hs1 : SortedC (p ++ [d]) := (List.pairwise_append.1 hs).1
    have hpd : path d = true := hp d (by simp)
    have hpp : ∀ x ∈ p, path x = true := fun x hx => hp x (by simp [hx])
    have hle : ∀ x ∈ p, order x d ≤ 0 := fun x hx => (List.pairwise_append.1 hs1).2.2 x hx d (by simp)
    have hfm : formC p = formM p := (formM_of hr hm).symm
    rw [formC_snoc]
    -- what is in the form stays in it
    have hstay : ∀ x ∈ p, inner p x = false → inner (p ++ [d]) x = false := by
      intro x hx hi
      rw [inner_false] at hi ⊢
      intro k hk hw
      rcases List.mem_append.1 hk with hk | hk
      · exact hi k hk hw
      · have : k = d := by simpa using hk
        subst this
        exact order_both (within_order hw) (hle x hx)
    have hless : ∀ x, inner (p ++ [d]) x = false → inner p x = false := by
      intro x hi
      rw [inner_false] at hi ⊢
      exact fun k hk hw => hi k (by simp [hk]) hw
    unfold addC
    cases hl : (formC p).getLast? with
    | none =>
      have h0 : formC p = [] := List.getLast?_eq_none_iff.1 hl
      have hp0 : p = [] := by
        cases p with
        | nil => rfl
        | cons a b =>
          exfalso
          obtain ⟨m, hm1, _⟩ := has_min hpp (d := a) (by simp)
          rw [← hfm, h0] at hm1
          simp at hm1
      subst hp0
      rw [h0]
      refine ⟨by simp [Rising], fun x => ?_⟩
      simp only [List.nil_append, List.mem_singleton]
      constructor
      · rintro rfl
        exact ⟨rfl, inner_false.2 fun k hk _ => by simpa using hk⟩
      · exact fun h => h.1
    | some f =>
      have hf : f ∈ formC p := List.mem_of_getLast? hl
      have hfp := (hm f).1 hf
      have hlast : ∀ x ∈ formC p, order x f ≤ 0 := by
        intro x hx
        obtain ⟨ys, hys⟩ := List.getLast?_eq_some_iff.1 hl
        rw [hys] at hx hr
        rcases List.mem_append.1 hx with h | h
        · exact Int.le_of_lt ((List.pairwise_append.1 hr).2.2 x h f (by simp))
        · have : x = f := by simpa using h
          rw [this, order_self]
          omega
      show Rising (if within f d = true then formC p else formC p ++ [d]) ∧ ∀ x, x ∈ (if within f d = true then formC p else formC p ++ [d]) ↔ x ∈ p ++ [d] ∧ inner (p ++ [d]) x = false
      cases hw : within f d with
      | true =>
        rw [if_pos rfl]
        refine ⟨hr, fun x => ?_⟩
        rw [hm]
        constructor
        · rintro ⟨h1, h2⟩
          exact ⟨by simp [h1], hstay x h1 h2⟩
        · rintro ⟨h1, h2⟩
          refine ⟨?_, hless x h2⟩
          rcases List.mem_append.1 h1 with h | h
          · exact h
          · have : x = d := by simpa using h
            subst this
            have := inner_false.1 h2 f (by simp [hfp.1]) hw
            rw [← this]
            exact hfp.1
      | false =>
        rw [if_neg (by simp)]
        -- nothing ahead has d within
        have hno : ∀ k ∈ p, within k d = false := by
          intro k hk
          cases hkw : within k d with
          | false => rfl
          | true =>
            exfalso
            obtain ⟨m, hm1, hm2⟩ := has_min hpp hk
            have hmd := within_trans hm2 hkw
            have hm1' : m ∈ formC p := by rw [hfm]; exact hm1
            have hmf := between_within hmd (hpp f hfp.1) (hlast m hm1') (hle f hfp.1)
            have := inner_false.1 hfp.2 m ((hm m).1 hm1').1 hmf
            subst this
            rw [hmd] at hw
            cases hw
        refine ⟨?_, fun x => ?_⟩
        · unfold Rising
          rw [List.pairwise_append]
          refine ⟨hr, by simp, fun x hx y hy => ?_⟩
          have : y = d := by simpa using hy
          subst this
          have hx' := ((hm x).1 hx).1
          rcases Int.lt_or_eq_of_le (hle x hx') with h | h
          · exact h
          · have := order_eq h
            subst this
            have := hno x hx'
            rw [within_self hpd] at this
            cases this
        · rw [List.mem_append, List.mem_append, hm]
          constructor
          · rintro (⟨h1, h2⟩ | h)
            · exact ⟨.inl h1, hstay x h1 h2⟩
            · have : x = d := by simpa using h
              subst this
              refine ⟨.inr h, inner_false.2 fun k hk hw' => ?_⟩
              rcases List.mem_append.1 hk with hk | hk
              · rw [hno k hk] at hw'; cases hw'
              · simpa using hk
          · rintro ⟨h | h, k⟩
            · exact .inl ⟨h, hless x k⟩
            · exact .inr h
theorem inner_perm {a b : List (List UInt8)} (h : ∀ x, x ∈ a ↔ x ∈ b) (d : List UInt8) : inner a d = inner b d := by
  rw [Bool.eq_iff_iff]
  unfold inner
  simp only [List.any_eq_true]
  constructor
  · rintro ⟨k, hk, hw⟩; exact ⟨k, (h k).1 hk, hw⟩
  · rintro ⟨k, hk, hw⟩; exact ⟨k, (h k).2 hk, hw⟩
theorem formM_perm {a b : List (List UInt8)} (h : ∀ x, x ∈ a ↔ x ∈ b) : formM a = formM b :=
  formM_of (formM_rising b) fun x => by rw [mem_formM, h, inner_perm h]
/-- Sorted, then gone through: the one form. -/
theorem formC_eq {xs ds : List (List UInt8)} (hs : SortedC xs) (hp : ∀ d ∈ ds, path d = true) (h : ∀ x, x ∈ xs ↔ x ∈ ds) : formC xs = formM ds := by
  have := formC_inv xs [] (by simpa using hs) (by intro d hd; exact hp d ((h d).1 (by simpa using hd))) ⟨by simp [formC, Rising], by simp [formC]⟩
  simp only [List.nil_append] at this
  rw [← formM_perm h]
  exact (formM_of this.1 this.2).symm

/-! ### what Of, Dir, Has answer -/
def ofM (ds : List (List UInt8)) : List (List UInt8) × Int :=
  if ds.all path then (if (formM ds).length ≤ 64 then (formM ds, 0) else ([], 181)) else ([], 40)
def dirM (l : List (List UInt8)) (s : List UInt8) : Int :=
  if path s then (if l.any (fun k => within k s) then 2 else if decide (s = []) || l.any (fun k => within s k) then 1 else 0) else 0
def hasM (l : List (List UInt8)) (s : List UInt8) : Bool := decide (s ≠ []) && path s && decide (dirM l (dir s) ≠ 0)
theorem dirM_range (l : List (List UInt8)) (s : List UInt8) : dirM l s = 0 ∨ dirM l s = 1 ∨ dirM l s = 2 := by
  unfold dirM
  split
  · split
    · exact .inr (.inr rfl)
    · split
      · exact .inr (.inl rfl)
      · exact .inl rfl
  · exact .inl rfl
theorem dirM_two {l : List (List UInt8)} {s : List UInt8} : dirM l s = 2 ↔ ∃ k ∈ l, within k s = true := by
  unfold dirM
  constructor
  · intro h
    split at h
    · split at h
      · next h1 => exact List.any_eq_true.1 h1
      · split at h <;> cases h
    · cases h
  · rintro ⟨k, hk, hw⟩
    rw [if_pos (within_path hw).2, if_pos (List.any_eq_true.2 ⟨k, hk, hw⟩)]
theorem dirM_some {l : List (List UInt8)} {s : List UInt8} : dirM l s ≠ 0 ↔ path s = true ∧ (s = [] ∨ ∃ k ∈ l, within k s = true ∨ within s k = true) := by
  unfold dirM
  cases hp : path s with
  | false => simp
  | true =>
    simp only [if_true, true_and]
    constructor
    · intro h
      split at h
      · next h1 => obtain ⟨k, hk, hw⟩ := List.any_eq_true.1 h1; exact .inr ⟨k, hk, .inl hw⟩
      · split at h
        · next h1 =>
          rw [Bool.or_eq_true, decide_eq_true_eq] at h1
          rcases h1 with h1 | h1
          · exact .inl h1
          · obtain ⟨k, hk, hw⟩ := List.any_eq_true.1 h1; exact .inr ⟨k, hk, .inr hw⟩
        · exact absurd rfl h
    · intro h
      split
      · decide
      · next h1 =>
        rw [if_pos]
        · decide
        · rw [Bool.or_eq_true, decide_eq_true_eq]
          rcases h with h | ⟨k, hk, h | h⟩
          · exact .inl h
          · exact absurd (List.any_eq_true.2 ⟨k, hk, h⟩) h1
          · exact .inr (List.any_eq_true.2 ⟨k, hk, h⟩)
/-- As the reference asks. -/
theorem hasM_ref (l : List (List UInt8)) (s : List UInt8) (h0 : s ≠ []) (hp : path s = true) : hasM l s = (decide (dirM l s = 2) || decide (dirM l (dir s) ≠ 0)) := by
  unfold hasM
  rw [hp, decide_eq_true h0, Bool.true_and, Bool.true_and]
  by_cases h : dirM l s = 2
  · rw [decide_eq_true h, Bool.true_or, decide_eq_true_eq]
    obtain ⟨k, hk, hw⟩ := dirM_two.1 h
    refine dirM_some.2 ⟨path_dir hp, .inr ⟨k, hk, ?_⟩⟩
    rcases within_up hw with rfl | h1
    · exact .inr (within_dir hp)
    · exact .inl h1
  · rw [decide_eq_false h, Bool.false_or]
/-- As far as Dir asks, directories are as their one form. -/
theorem dirM_form {ds : List (List UInt8)} (hp : ∀ d ∈ ds, path d = true) (s : List UInt8) : dirM (formM ds) s = dirM ds s := by
  have hsub : ∀ x ∈ formM ds, x ∈ ds := fun x hx => (mem_formM.1 hx).1
  by_cases h2 : dirM ds s = 2
  · rw [h2]
    obtain ⟨k, hk, hw⟩ := dirM_two.1 h2
    obtain ⟨m, hm, hmw⟩ := has_min hp hk
    exact dirM_two.2 ⟨m, hm, within_trans hmw hw⟩
  · have h3 : ¬ dirM (formM ds) s = 2 := fun h => by
      obtain ⟨k, hk, hw⟩ := dirM_two.1 h
      exact h2 (dirM_two.2 ⟨k, hsub k hk, hw⟩)
    have h4 : dirM (formM ds) s ≠ 0 ↔ dirM ds s ≠ 0 := by
      rw [dirM_some, dirM_some]
      constructor
      · rintro ⟨h, h' | ⟨k, hk, hw⟩⟩
        · exact ⟨h, .inl h'⟩
        · exact ⟨h, .inr ⟨k, hsub k hk, hw⟩⟩
      · rintro ⟨h, h' | ⟨k, hk, hw⟩⟩
        · exact ⟨h, .inl h'⟩
        · refine ⟨h, .inr ?_⟩
          obtain ⟨m, hm, hmw⟩ := has_min hp hk
          rcases hw with hw | hw
          · exact ⟨m, hm, .inl (within_trans hmw hw)⟩
          · exact ⟨m, hm, within_either hmw hw⟩
    have r1 := dirM_range ds s
    have r2 := dirM_range (formM ds) s
    omega
theorem hasM_form {ds : List (List UInt8)} (hp : ∀ d ∈ ds, path d = true) (s : List UInt8) : hasM (formM ds) s = hasM ds s := by
  unfold hasM
  rw [dirM_form hp]
/-- The one form of a one form is it. -/
theorem formM_again (ds : List (List UInt8)) : formM (formM ds) = formM ds := by
  refine formM_of (formM_rising ds) fun x => ⟨fun h => ⟨h, inner_false.2 fun k hk hw => ?_⟩, fun h => h.1⟩
  exact inner_false.1 (mem_formM.1 h).2 k (mem_formM.1 hk).1 hw
/-- The one form of directories and others is that of their two one forms. -/
theorem formM_two {a b : List (List UInt8)} (ha : ∀ d ∈ a, path d = true) (hb : ∀ d ∈ b, path d = true) : formM (a ++ b) = formM (formM a ++ formM b) := by
  have hsub : ∀ x, x ∈ formM a ++ formM b → x ∈ a ++ b := by
    intro x hx
    rcases List.mem_append.1 hx with h | h
    · exact List.mem_append.2 (.inl (mem_formM.1 h).1)
    · exact List.mem_append.2 (.inr (mem_formM.1 h).1)
  have hmin : ∀ k, k ∈ a ++ b → ∃ m, m ∈ formM a ++ formM b ∧ within m k = true := by
    intro k hk
    rcases List.mem_append.1 hk with h | h
    · obtain ⟨m, hm, hw⟩ := has_min ha h; exact ⟨m, List.mem_append.2 (.inl hm), hw⟩
    · obtain ⟨m, hm, hw⟩ := has_min hb h; exact ⟨m, List.mem_append.2 (.inr hm), hw⟩
  refine formM_of (formM_rising _) fun x => ?_
  rw [mem_formM]
  constructor
  · rintro ⟨h1, h2⟩
    refine ⟨hsub x h1, inner_false.2 fun k hk hw => ?_⟩
    obtain ⟨m, hm, hmw⟩ := hmin k hk
    have := inner_false.1 h2 m hm (within_trans hmw hw)
    subst this
    exact within_anti hw hmw
  · rintro ⟨h1, h2⟩
    obtain ⟨m, hm, hmw⟩ := hmin x h1
    have := inner_false.1 h2 m (hsub m hm) hmw
    subst this
    exact ⟨hm, inner_false.2 fun k hk hw => inner_false.1 h2 k (hsub k hk) hw⟩
/-- More directories have more. -/
theorem dirM_more (l m : List (List UInt8)) (s : List UInt8) : dirM l s ≤ dirM (l ++ m) s := by
  have h2 : dirM l s = 2 → dirM (l ++ m) s = 2 := fun h => by
    obtain ⟨k, hk, hw⟩ := dirM_two.1 h
    exact dirM_two.2 ⟨k, List.mem_append.2 (.inl hk), hw⟩
  have h1 : dirM l s ≠ 0 → dirM (l ++ m) s ≠ 0 := fun h => by
    obtain ⟨hp, h | ⟨k, hk, hw⟩⟩ := dirM_some.1 h
    · exact dirM_some.2 ⟨hp, .inl h⟩
    · exact dirM_some.2 ⟨hp, .inr ⟨k, List.mem_append.2 (.inl hk), hw⟩⟩
  have r1 := dirM_range l s
  have r2 := dirM_range (l ++ m) s
  omega
theorem hasM_more (l m : List (List UInt8)) (s : List UInt8) (h : hasM l s = true) : hasM (l ++ m) s = true := by
  unfold hasM at *
  simp only [Bool.and_eq_true, decide_eq_true_eq] at *
  refine ⟨h.1, ?_⟩
  have := dirM_more l m (dir s)
  have r1 := dirM_range l (dir s)
  have r2 := dirM_range (l ++ m) (dir s)
  have := h.2
  omega
theorem hasM_root (l : List (List UInt8)) (s : List UInt8) : hasM (l ++ [[]]) s = (decide (s ≠ []) && path s) := by
  unfold hasM
  by_cases h0 : s = []
  · subst h0; simp
  · cases hp : path s with
    | false => simp
    | true =>
      rw [decide_eq_true h0, Bool.true_and, Bool.true_and, decide_eq_true_eq]
      exact dirM_some.2 ⟨path_dir hp, .inr ⟨[], by simp, .inl (within_root (path_dir hp))⟩⟩
/-- A file is in a cone just if the directory in which it stands has something there. -/
theorem hasM_files (l : List (List UInt8)) (s : List UInt8) (h0 : s ≠ []) (hp : path s = true) :
    (hasM l s == (decide (dirM l (dir s) > 0) || decide (dirM l s = 2))) = true ∧ (decide (dirM l (dir s) ≠ 2) || decide (dirM l s = 2)) = true := by
  constructor
  · rw [hasM_ref l s h0 hp, beq_iff_eq, Bool.or_comm]
    congr 1
    rcases dirM_range l (dir s) with a | a | a <;> rw [a] <;> decide
  · by_cases h : dirM l (dir s) = 2
    · obtain ⟨k, hk, hw⟩ := dirM_two.1 h
      rw [decide_eq_true (dirM_two.2 ⟨k, hk, within_trans hw (within_dir hp)⟩), Bool.or_true]
    · rw [decide_eq_true h, Bool.true_or]
/-! ### lines -/
/-- May a line say this directory? -/
def saidM (l : List UInt8) : Bool := decide (l ≠ [42]) && decide (l.head? ≠ some 35) && decide (10 ∉ l)
end Go.Proofs.Ytkihldkaiddbkaa.Pt
