/-
  Texts joined: OPlain, OKinds, OWrite, OList, OMake, ORight.
-/
import Derived.Test.YtldfjpgcemfpjaaM0WPlain
import Derived.Test.YtldfjpgcemfpjaaM2HSpread
import Derived.Lib.OwnKind
import Derived.Deep.AppendSrc
/-
  What objects are, plainly: how bytes are gone through, what is right. No program. No condition.
-/
namespace Go.Proofs.Ytldfjpgcemfpjaa

/-- From a to q the bytes bs stand. -/
def Sees (l : List UInt8) (a q : Nat) (bs : List UInt8) : Prop := l.drop a = bs ++ l.drop q ∧ q = a + bs.length ∧ q ≤ l.length
theorem Sees.refl {l : List UInt8} {a : Nat} (h : a ≤ l.length) : Sees l a a [] := ⟨by simp, by simp, h⟩
theorem Sees.trans {l : List UInt8} {a q r : Nat} {x y : List UInt8} (h : Sees l a q x) (k : Sees l q r y) : Sees l a r (x ++ y) := by
  refine ⟨by rw [h.1, k.1, List.append_assoc], ?_, k.2.2⟩
  rw [k.2.1, h.2.1, List.length_append]
  omega
theorem Sees.part {l : List UInt8} {a r : Nat} {x y : List UInt8} (h : Sees l a r (x ++ y)) : Sees l a (a + x.length) x ∧ Sees l (a + x.length) r y := by
  obtain ⟨h1, h2, h3⟩ := h
  rw [List.length_append] at h2
  have e : l.drop (a + x.length) = y ++ l.drop r := by
    rw [← List.drop_drop, h1, List.append_assoc, List.drop_left]
  exact ⟨⟨by rw [e, h1, List.append_assoc], rfl, by omega⟩, e, by omega, h3⟩
theorem Sees.all {l bs : List UInt8} (h : Sees l 0 l.length bs) : l = bs := by
  have := h.1
  simpa using this
theorem Sees.whole (l : List UInt8) : Sees l 0 l.length l := ⟨by simp, by simp, Nat.le_refl _⟩
theorem Sees.le {l x : List UInt8} {a q : Nat} (h : Sees l a q x) : a ≤ q ∧ x.length ≤ l.length := by
  obtain ⟨_, h2, h3⟩ := h
  omega

/-- Where a reading stands; none: something was not there. -/
abbrev Pos := Option Nat
def rI (l : List UInt8) : Pos → Int × Pos
  | none => (0, none)
  | some a => match takeI l a with
    | some (n, q) => (n, some q)
    | none => (0, none)
def rT (l : List UInt8) (most : Int) : Pos → List UInt8 × Pos
  | none => ([], none)
  | some a => match takeT l a most with
    | some (t, q) => (t, some q)
    | none => ([], none)
def rD (l : List UInt8) : Pos → List UInt8 × Pos
  | none => ([], none)
  | some a => if a + 32 ≤ l.length then ((l.drop a).take 32, some (a + 32)) else ([], none)
def rC (l : List UInt8) (most : Int) (s : Pos) : Int × Pos := if (rI l s).1 < 0 ∨ most < (rI l s).1 then (0, none) else rI l s
def rP {α β : Type} (f : Pos → α × Pos) (g : Pos → β × Pos) (s : Pos) : (α × β) × Pos := (((f s).1, (g (f s).2).1), (g (f s).2).2)
def rN {α : Type} (one : Pos → α × Pos) : Nat → Pos → List α × Pos
  | 0, s => ([], s)
  | n + 1, s => ((one s).1 :: (rN one n (one s).2).1, (rN one n (one s).2).2)

/-- What is read so is written so. -/
structure Fm {α : Type} (l : List UInt8) (one : Pos → α × Pos) (enc : α → List UInt8) (ok : α → Prop) : Prop where
  stop : (one none).2 = none
  sound : ∀ a q, a ≤ l.length → (one (some a)).2 = some q → Sees l a q (enc (one (some a)).1) ∧ ok (one (some a)).1
  put : ∀ a q x, ok x → Sees l a q (enc x) → one (some a) = (x, some q)

theorem Fm.weak {α : Type} {l : List UInt8} {one : Pos → α × Pos} {enc : α → List UInt8} {ok ok' : α → Prop} (h : Fm l one enc ok) (h1 : ∀ x, ok x → ok' x) (h2 : ∀ x, (enc x).length ≤ l.length → ok' x → ok x) : Fm l one enc ok' :=
  ⟨h.stop, fun a q ha hq => ⟨(h.sound a q ha hq).1, h1 _ (h.sound a q ha hq).2⟩, fun a q x hx hs => h.put a q x (h2 x hs.le.2 hx) hs⟩
theorem Fm.both {α β : Type} {l : List UInt8} {f : Pos → α × Pos} {g : Pos → β × Pos} {ef : α → List UInt8} {eg : β → List UInt8} {of : α → Prop} {og : β → Prop} (hf : Fm l f ef of) (hg : Fm l g eg og) :
    Fm l (rP f g) (fun x => ef x.1 ++ eg x.2) (fun x => of x.1 ∧ og x.2) := by
  refine ⟨by simp only [rP]; rw [hf.stop, hg.stop], fun a q ha hq => ?_, fun a q x hx hs => ?_⟩
  · simp only [rP] at hq ⊢
    cases h1 : (f (some a)).2 with
    | none => rw [h1, hg.stop] at hq; cases hq
    | some r =>
      obtain ⟨s1, o1⟩ := hf.sound a r ha h1
      rw [h1] at hq
      obtain ⟨s2, o2⟩ := hg.sound r q s1.2.2 hq
      exact ⟨s1.trans s2, o1, o2⟩
  · obtain ⟨s1, s2⟩ := hs.part
    simp only [rP]
    rw [hf.put _ _ _ hx.1 s1]
    simp only
    rw [hg.put _ _ _ hx.2 s2]
theorem Fm.list {α : Type} {l : List UInt8} {one : Pos → α × Pos} {enc : α → List UInt8} {ok : α → Prop} (h : Fm l one enc ok) : ∀ n, Fm l (rN one n) (fun xs => xs.flatMap enc) (fun xs => xs.length = n ∧ ∀ x ∈ xs, ok x)
  | 0 => by
    refine ⟨rfl, fun a q ha hq => ?_, fun a q x hx hs => ?_⟩
    · simp only [rN] at hq ⊢
      injection hq with hq
      subst hq
      exact ⟨by simpa using Sees.refl ha, by simp⟩
    · obtain rfl : x = [] := List.eq_nil_of_length_eq_zero hx.1
      have := hs.2.1
      simp at this
      simp [rN, this]
  | n + 1 => by
    have ih := Fm.list h n
    refine ⟨by simp only [rN]; rw [h.stop, ih.stop], fun a q ha hq => ?_, fun a q x hx hs => ?_⟩
    · simp only [rN] at hq ⊢
      cases h1 : (one (some a)).2 with
      | none => rw [h1, ih.stop] at hq; cases hq
      | some r =>
        obtain ⟨s1, o1⟩ := h.sound a r ha h1
        rw [h1] at hq
        obtain ⟨s2, o2, o3⟩ := ih.sound r q s1.2.2 hq
        refine ⟨by rw [List.flatMap_cons]; exact s1.trans s2, by rw [List.length_cons, o2], fun x hx => ?_⟩
        rcases List.mem_cons.1 hx with rfl | hx
        · exact o1
        · exact o3 x hx
    · obtain ⟨hx1, hx2⟩ := hx
      cases x with
      | nil => simp at hx1
      | cons y ys =>
        rw [List.flatMap_cons] at hs
        obtain ⟨s1, s2⟩ := hs.part
        simp only [rN]
        rw [h.put _ _ _ (hx2 y (by simp)) s1]
        simp only
        rw [ih.put _ _ ys ⟨by simpa using hx1, fun z hz => hx2 z (by simp [hz])⟩ s2]

def In64 (n : Int) : Prop := -9223372036854775808 ≤ n ∧ n ≤ 9223372036854775807
theorem sees_take {l bs : List UInt8} {a q : Nat} (h : (l.drop a).take (q - a) = bs) (h1 : a ≤ q) (h2 : q ≤ l.length) : Sees l a q bs := by
  subst h
  refine ⟨?_, by simp; omega, h2⟩
  have e : l.drop q = (l.drop a).drop (q - a) := by rw [List.drop_drop]; congr 1; omega
  rw [e, List.take_append_drop]
theorem fmI (l : List UInt8) : Fm l (rI l) num In64 := by
  refine ⟨rfl, fun a q ha hq => ?_, fun a q x hx hs => ?_⟩
  · simp only [rI] at hq ⊢
    cases h1 : takeI l a with
    | none => rw [h1] at hq; cases hq
    | some r =>
      obtain ⟨n, r⟩ := r
      rw [h1] at hq
      obtain rfl : r = q := by simpa using hq
      obtain ⟨_, g2, g3, g4, g5, g6, _⟩ := takeI_sound h1
      rw [Int.toNat_natCast] at g2 g4
      exact ⟨sees_take g4 g2 g3, g5, g6⟩
  · have hle := hs.le.1
    have e : l = l.take a ++ (num x ++ l.drop q) := by rw [← hs.1, List.take_append_drop]
    have hl : (l.take a).length = a := by rw [List.length_take]; have := hs.2.2; omega
    have h1 := takeI_put (l.take a) (l.drop q) x hx.1 hx.2
    rw [← e, hl] at h1
    simp only [rI]
    rw [h1, hs.2.1]
theorem fmT (l : List UInt8) (most : Int) (hm : most ≤ 9223372036854775807) : Fm l (rT l most) txt (fun t => (t.length : Int) ≤ most) := by
  refine ⟨rfl, fun a q ha hq => ?_, fun a q x hx hs => ?_⟩
  · simp only [rT] at hq ⊢
    cases h1 : takeT l a most with
    | none => rw [h1] at hq; cases hq
    | some r =>
      obtain ⟨n, r⟩ := r
      rw [h1] at hq
      obtain rfl : r = q := by simpa using hq
      obtain ⟨_, g2, g3, g4, g5⟩ := takeT_sound h1
      rw [Int.toNat_natCast] at g2 g4
      exact ⟨sees_take g4 g2 g3, g5⟩
  · have hle := hs.le.1
    have e : l = l.take a ++ (txt x ++ l.drop q) := by rw [← hs.1, List.take_append_drop]
    have hl : (l.take a).length = a := by rw [List.length_take]; have := hs.2.2; omega
    have h1 := takeT_put (l.take a) (l.drop q) x most hx (by omega)
    rw [← e, hl] at h1
    simp only [rT]
    rw [h1, hs.2.1]
theorem txt_length (t : List UInt8) : t.length ≤ (txt t).length := by unfold txt; simp
/-- A text of any length, as the bytes may have. -/
theorem fmT' (l : List UInt8) (hl : (l.length : Int) ≤ 9223372036854775807) : Fm l (rT l l.length) txt (fun _ => True) :=
  (fmT l l.length hl).weak (fun _ _ => trivial) (fun x hx _ => by have := txt_length x; omega)
theorem fmD (l : List UInt8) : Fm l (rD l) (fun t => t) (fun t => t.length = 32) := by
  refine ⟨rfl, fun a q ha hq => ?_, fun a q x hx hs => ?_⟩
  · simp only [rD] at hq ⊢
    split at hq
    · rename_i h
      rw [if_pos h]
      obtain rfl : a + 32 = q := by simpa using hq
      exact ⟨sees_take (by rw [Nat.add_sub_cancel_left]) (by omega) h, by rw [List.length_take, List.length_drop]; omega⟩
    · cases hq
  · obtain ⟨h1, h2, h3⟩ := hs
    simp only [rD]
    rw [if_pos (by omega), h1, List.take_left' hx, h2, hx]
theorem fmC (l : List UInt8) (most : Int) (hm : most ≤ 9223372036854775807) : Fm l (rC l most) num (fun n => 0 ≤ n ∧ n ≤ most) := by
  have h := fmI l
  refine ⟨by unfold rC; split <;> rfl, fun a q ha hq => ?_, fun a q x hx hs => ?_⟩
  · unfold rC at hq ⊢
    split at hq
    · cases hq
    · rename_i hn
      rw [if_neg hn]
      obtain ⟨s1, s2⟩ := h.sound a q ha hq
      exact ⟨s1, by omega⟩
  · have := h.put a q x ⟨by omega, by omega⟩ hs
    unfold rC
    rw [this]
    simp only
    rw [if_neg (by omega)]
/-- How many, and each. -/
def rL {α : Type} (l : List UInt8) (most : Int) (one : Pos → α × Pos) (s : Pos) : List α × Pos := rN one (rC l most s).1.toNat (rC l most s).2
def listB {α : Type} (enc : α → List UInt8) (xs : List α) : List UInt8 := num xs.length ++ xs.flatMap enc
theorem Fm.many {α : Type} {l : List UInt8} {one : Pos → α × Pos} {enc : α → List UInt8} {ok : α → Prop} (h : Fm l one enc ok) (most : Int) (hm : most ≤ 9223372036854775807) :
    Fm l (rL l most one) (listB enc) (fun xs => (xs.length : Int) ≤ most ∧ ∀ x ∈ xs, ok x) := by
  have hc := fmC l most hm
  refine ⟨?_, fun a q ha hq => ?_, fun a q x hx hs => ?_⟩
  · unfold rL
    rw [hc.stop, (h.list _).stop]
  · unfold rL at hq ⊢
    cases h1 : (rC l most (some a)).2 with
    | none => rw [h1, (h.list _).stop] at hq; cases hq
    | some r =>
      obtain ⟨s1, o1⟩ := hc.sound a r ha h1
      rw [h1] at hq
      obtain ⟨s2, o2, o3⟩ := (h.list _).sound r q s1.2.2 hq
      have e : ((rN one (rC l most (some a)).1.toNat (some r)).1.length : Int) = (rC l most (some a)).1 := by rw [o2]; omega
      refine ⟨?_, by rw [e]; exact o1.2, o3⟩
      unfold listB
      rw [e]
      exact s1.trans s2
  · unfold listB at hs
    obtain ⟨s1, s2⟩ := hs.part
    unfold rL
    rw [hc.put _ _ _ ⟨by omega, hx.1⟩ s1]
    simp only
    rw [(h.list _).put _ _ x ⟨by simp, hx.2⟩ s2]
theorem Fm.read {α : Type} {l : List UInt8} {one : Pos → α × Pos} {enc : α → List UInt8} {ok : α → Prop} (h : Fm l one enc ok) (h1 : (one (some 0)).2 = some l.length) : l = enc (one (some 0)).1 ∧ ok (one (some 0)).1 := by
  obtain ⟨s, o⟩ := h.sound 0 _ (Nat.zero_le _) h1
  exact ⟨s.all, o⟩
theorem Fm.back {α : Type} {l : List UInt8} {one : Pos → α × Pos} {enc : α → List UInt8} {ok : α → Prop} (h : Fm l one enc ok) {x : α} (ho : ok x) (hl : l = enc x) : one (some 0) = (x, some l.length) :=
  h.put 0 _ x ho (by rw [← hl]; exact Sees.whole l)

end Go.Proofs.Ytldfjpgcemfpjaa

/-
  The five kinds of objects, and entries' values, plainly. No program. No condition.
-/
namespace Go.Proofs.Ytldfjpgcemfpjaa

abbrev Bs := List UInt8
/-- A part: its id, its size. A pair: its key, its value. A link: its last key, its id, how many. -/
abbrev Part := Bs × Int
abbrev Pair := Bs × Bs
abbrev Link := Bs × (Bs × Int)
abbrev Branch := Int × List Link
def partB (p : Part) : Bs := p.1 ++ num p.2
def pairB (p : Pair) : Bs := txt p.1 ++ txt p.2
def linkB (p : Link) : Bs := txt p.1 ++ partB p.2
def leafB (l : List Pair) : Bs := listB pairB l
def branchB (f : Branch) : Bs := num f.1 ++ listB linkB f.2
/-- All 1 or above, together at most so many. -/
def within : List Int → Int → Bool
  | [], _ => true
  | n :: r, most => !(decide (n < 1 ∨ most < n)) && within r (most - n)
theorem within_iff : ∀ (xs : List Int) (m : Int), 0 ≤ m → (within xs m = true ↔ (∀ x ∈ xs, 1 ≤ x) ∧ xs.sum ≤ m)
  | [], m, hm => by simp [within, hm]
  | n :: r, m, hm => by
    have nonneg : ∀ (ys : List Int), (∀ x ∈ ys, 1 ≤ x) → 0 ≤ ys.sum := by
      intro ys
      induction ys with
      | nil => intro _; simp
      | cons y ys ih => intro h; have h1 := ih (fun x hx => h x (by simp [hx])); have h2 := h y (by simp); simp; omega
    by_cases h : n < 1 ∨ m < n
    · simp only [within, h, decide_true, Bool.not_true, Bool.false_and, Bool.false_eq_true, false_iff]
      rintro ⟨h1, h2⟩
      have g1 := h1 n (by simp)
      have g2 := nonneg r (fun x hx => h1 x (by simp [hx]))
      rw [List.sum_cons] at h2
      omega
    · simp only [within, h, decide_false, Bool.not_false, Bool.true_and]
      rw [within_iff r (m - n) (by omega), List.sum_cons]
      constructor
      · rintro ⟨h1, h2⟩
        refine ⟨fun x hx => ?_, by omega⟩
        rcases List.mem_cons.1 hx with rfl | hx
        · omega
        · exact h1 x hx
      · rintro ⟨h1, h2⟩
        exact ⟨fun x hx => h1 x (by simp [hx]), by omega⟩
/-- Each ahead of the next one. -/
def rise (lt : Bs → Bs → Bool) : List Bs → Bool
  | [] => true
  | [_] => true
  | a :: b :: r => lt a b && rise lt (b :: r)
def isKeyB (k : Bs) : Bool := decide (1 ≤ k.length ∧ k.length ≤ 64)
def isIdB (k : Bs) : Bool := decide (k.length = 32)
def levelB (n : Int) : Bool := decide (1 ≤ n ∧ n ≤ 20)
def leafOk (lt : Bs → Bs → Bool) (l : List Pair) : Bool := decide (l.length ≤ 64) && l.all (fun p => isKeyB p.1 && decide (p.2.length ≤ 128)) && rise lt (l.map (·.1))
def branchOk (lt : Bs → Bs → Bool) (f : Branch) : Bool := levelB f.1 && decide (1 ≤ f.2.length ∧ f.2.length ≤ 64) && f.2.all (fun p => isKeyB p.1 && isIdB p.2.1) && rise lt (f.2.map (·.1)) && within (f.2.map (·.2.2)) 4096
def rPart (l : Bs) : Pos → Part × Pos := rP (rD l) (rI l)
def rPair (l : Bs) (m n : Int) : Pos → Pair × Pos := rP (rT l m) (rT l n)
def rLink (l : Bs) (m : Int) : Pos → Link × Pos := rP (rT l m) (rPart l)
def gLeaf (l : Bs) : Pos → List Pair × Pos := rL l 64 (rPair l l.length l.length)
def gBranch (l : Bs) : Pos → Branch × Pos := rP (rC l 20) (rL l 64 (rLink l l.length))
theorem fmPart (l : Bs) : Fm l (rPart l) partB (fun p => p.1.length = 32 ∧ In64 p.2) := (fmD l).both (fmI l)
theorem fmLeaf (l : Bs) (hl : (l.length : Int) ≤ 9223372036854775807) : Fm l (gLeaf l) leafB (fun f => ((f.length : Int) ≤ 64 ∧ ∀ p ∈ f, True ∧ True)) := ((fmT' l hl).both (fmT' l hl)).many 64 (by omega)
theorem fmBranch (l : Bs) (hl : (l.length : Int) ≤ 9223372036854775807) : Fm l (gBranch l) branchB (fun f => (0 ≤ f.1 ∧ f.1 ≤ 20) ∧ ((f.2.length : Int) ≤ 64 ∧ ∀ p ∈ f.2, True ∧ p.2.1.length = 32 ∧ In64 p.2.2)) := (fmC l 20 (by omega)).both (((fmT' l hl).both (fmPart l)).many 64 (by omega))
/-- What bytes behind a mark say, if all is read and right. -/
def said {α : Type} (one : Bs → Pos → α × Pos) (right : α → Bool) (l : Bs) : Option α := if (one l (some 0)).2 = some l.length ∧ right (one l (some 0)).1 = true then some (one l (some 0)).1 else none
theorem said_iff {α : Type} {one : Bs → Pos → α × Pos} {right : α → Bool} {l : Bs} {enc : α → Bs} {ok : α → Prop} (h : Fm l (one l) enc ok) (hr : ∀ x, right x = true → ok x) (x : α) : said one right l = some x ↔ right x = true ∧ l = enc x := by
  unfold said
  constructor
  · intro g
    split at g
    · rename_i g1
      injection g with g
      subst g
      exact ⟨g1.2, (h.read g1.1).1⟩
    · cases g
  · rintro ⟨h1, h2⟩
    have e := h.back (hr x h1) h2
    rw [if_pos (by rw [e]; exact ⟨rfl, h1⟩), e]
theorem within_64 {xs : List Int} {m : Int} (h : within xs m = true) (h0 : 0 ≤ m) (hm : m ≤ 9223372036854775807) : ∀ x ∈ xs, In64 x := by
  induction xs generalizing m with
  | nil => intro x hx; simp at hx
  | cons n r ih =>
    simp only [within, Bool.and_eq_true, Bool.not_eq_true', decide_eq_false_iff_not] at h
    intro x hx
    rcases List.mem_cons.1 hx with rfl | hx
    · exact ⟨by omega, by omega⟩
    · exact ih h.2 (by omega) (by omega) x hx
theorem leaf_iff (lt : Bs → Bs → Bool) (l : Bs) (hl : (l.length : Int) ≤ 9223372036854775807) (f : List Pair) : said gLeaf (leafOk lt) l = some f ↔ leafOk lt f = true ∧ l = leafB f := by
  refine said_iff (fmLeaf l hl) (fun x hx => ?_) f
  simp only [leafOk, Bool.and_eq_true, decide_eq_true_eq] at hx
  exact ⟨by omega, fun _ _ => ⟨trivial, trivial⟩⟩
theorem branch_iff (lt : Bs → Bs → Bool) (l : Bs) (hl : (l.length : Int) ≤ 9223372036854775807) (f : Branch) : said gBranch (branchOk lt) l = some f ↔ branchOk lt f = true ∧ l = branchB f := by
  refine said_iff (fmBranch l hl) (fun x hx => ?_) f
  simp only [branchOk, levelB, isIdB, Bool.and_eq_true, decide_eq_true_eq, List.all_eq_true] at hx
  obtain ⟨⟨⟨⟨h1, h2⟩, h3⟩, _⟩, h4⟩ := hx
  exact ⟨by omega, by omega, fun p hp => ⟨trivial, (h3 p hp).2, within_64 h4 (by omega) (by omega) _ (List.mem_map_of_mem (f := fun p : Link => p.2.2) hp)⟩⟩
end Go.Proofs.Ytldfjpgcemfpjaa

/-
  What is written: a writer in memory, and what its methods do. Conditions: lengths within reach; the writer's bytes lie at or behind its base.
-/
namespace Go.Proofs.Ytldfjpgcemfpjaa
open Go.RowKit

theorem own_form {w : World} {base size n : Nat} {e : TypeId} {v : Value} {xs : List Value} (h : w.ownsRow base e size v n xs) : ∃ ao cap, v = .slice ao n cap ∧ n ≤ cap ∧ cap ≤ maxLen := by
  rcases h.2 with ⟨rfl, rfl⟩ | ⟨g, cap, cur, rfl, _, _, h1, h2, _⟩
  · exact ⟨none, 0, rfl, by simp, by simp⟩
  · exact ⟨_, _, rfl, h1, h2⟩
theorem wp_append_run {P : Program} {o : Oper} {a : Act} {w : World} {K : Act → World → Prop} {Q : Exit → Act → World → Prop} (s x : Operand) (t : TypeId)
    (ho : o.op = .call { callee := .builtin .append, args := #[s, x], argTypes := #[t, t] }) {v1 v2 v' : Value} {w' : World} (hs : a.eval s = v1) (hx : a.eval x = v2)
    (hrun : (Builtin.append_ #[t, t] o.type #[v1, v2]).run P w = .ok v' w') (hK : K (a.put o.dst v') w') : o.wp P a w K Q := by
  unfold Oper.wp
  simp [execOp, ho, resolve, invoke, builtin, hs, hx, hrun, Result.andThen]
  exact hK

/-- The writer g, which began at base B or behind it, has the bytes l. -/
def Wr (B : Nat) (w : World) (g : Nat) (l : Bs) : Prop := B ≤ g ∧ ∃ v, w.heap[g]? = some (.cells #[v] 161) ∧ w.ownsRow B 5 1 v l.length (bc l)
theorem Wr.lt {B : Nat} {w : World} {g : Nat} {l : Bs} (h : Wr B w g l) : g < w.heap.size := by
  obtain ⟨_, v, h1, _⟩ := h
  exact lt_of_heap h1
theorem frozen0 {w : World} {g j : Nat} {cs : Array Value} {t : TypeId} (h : w.heap[g]? = some (.cells cs t)) : w.frozen? ⟨g, j, none⟩ = false := by simp [World.frozen?, h]
/-- Blocks of other types than these stay as they are. -/
def Kt (ts : List TypeId) (w w' : World) : Prop := w.heap.size ≤ w'.heap.size ∧ ∀ (k : Nat) (cs : Array Value) (t : TypeId) (fr : Nat × Nat), w.heap[k]? = some (Obj.cells cs t fr) → t ∉ ts → w'.heap[k]? = some (Obj.cells cs t fr)
theorem Kt.refl (ts : List TypeId) (w : World) : Kt ts w w := ⟨Nat.le_refl _, fun _ _ _ _ h _ => h⟩
theorem Kt.trans {ts : List TypeId} {a b c : World} (h : Kt ts a b) (k : Kt ts b c) : Kt ts a c := ⟨Nat.le_trans h.1 k.1, fun i cs t fr hi ht => k.2 i cs t fr (h.2 i cs t fr hi ht) ht⟩
theorem Kt.below {ts : List TypeId} {a b : World} (h : Below a.heap.size a b) : Kt ts a b := ⟨h.size, fun k _ _ _ hk _ => (h.block k (lt_of_heap hk)).trans hk⟩
theorem Kt.set {ts : List TypeId} {w : World} {g j : Nat} {cs : Array Value} {t : TypeId} {fr : Nat × Nat} (hh : w.heap[g]? = some (.cells cs t fr)) (ht : t ∈ ts) (u : Value) : Kt ts w (w.setCell ⟨g, j, none⟩ u) := by
  refine ⟨by simp [World.setCell], fun k cs' t' fr' hk ht' => ?_⟩
  have hne : k ≠ g := by
    rintro rfl
    rw [hh] at hk
    injection hk with hk
    injection hk with _ hk
    exact ht' (hk ▸ ht)
  rw [← hk]
  unfold World.setCell
  simp [Array.getElem?_modify, Ne.symm hne]
theorem Kt.grown {w w1 : World} {B : Nat} {v : Value} {n : Nat} {xs : List Value} {e : TypeId} {ts : List TypeId} (hown : w.ownsRow B e 1 v n xs) (hgr : w.grownBy w1 v.ownBlock) (he : e ∈ ts) : Kt ts w w1 := by
  refine ⟨hgr.size, fun k cs t fr hk ht => (hgr.block k (lt_of_heap hk) fun hq => ?_).trans hk⟩
  obtain ⟨c, fz, h1⟩ := Lib.ownsRow_kind hown k hq.symm
  rw [hk] at h1
  injection h1 with h1
  injection h1 with _ h1
  exact ht (h1 ▸ he)
end Go.Proofs.Ytldfjpgcemfpjaa

/-
  Lists in memory, and laying them. Conditions: lengths within reach; lists lie below the writer's base.
-/
namespace Go.Proofs.Ytldfjpgcemfpjaa
open Go.RowKit

def pairC (p : Pair) : List Value := [.string (strB p.1), .string (strB p.2)]
def linkC (p : Link) : List Value := [.string (strB p.1), .string (strB p.2.1), .int .i64 p.2.2]
def idC (s : Bs) : List Value := [.string (strB s)]
/-- The slice v, which lies below B, has these, each of k cells. -/
def Ls {α : Type} (B : Nat) (w : World) (k : Nat) (cs : α → List Value) (v : Value) (xs : List α) : Prop :=
  ∃ ao cap, v = .slice ao xs.length cap ∧ xs.length ≤ cap ∧ cap ≤ maxLen ∧ (xs ≠ [] → ∃ b off, ao = some ⟨b, off, none⟩ ∧ b < B ∧ ∀ j (h : j < xs.length) i u, (cs (xs[j]'h))[i]? = some u → w.cell? ⟨b, off + j * k + i, none⟩ = some u)
theorem Ls.keep {α : Type} {B : Nat} {w w' : World} {k : Nat} {cs : α → List Value} {v : Value} {xs : List α} (h : Ls B w k cs v xs) (hb : Below B w w') : Ls B w' k cs v xs := by
  obtain ⟨ao, cap, hv, h1, h2, h4⟩ := h
  refine ⟨ao, cap, hv, h1, h2, fun hl => ?_⟩
  obtain ⟨b, off, ha, hlt, hc⟩ := h4 hl
  exact ⟨b, off, ha, hlt, fun j hj i u hu => (hb.cell (p := ⟨b, off + j * k + i, none⟩) hlt).trans (hc j hj i u hu)⟩
theorem Ls.up {α : Type} {B B' : Nat} {w : World} {k : Nat} {cs : α → List Value} {v : Value} {xs : List α} (h : Ls B w k cs v xs) (hb : B ≤ B') : Ls B' w k cs v xs := by
  obtain ⟨ao, cap, hv, h1, h2, h4⟩ := h
  refine ⟨ao, cap, hv, h1, h2, fun hl => ?_⟩
  obtain ⟨b, off, ha, hlt, hc⟩ := h4 hl
  exact ⟨b, off, ha, Nat.lt_of_lt_of_le hlt hb, hc⟩
theorem Ls.nil {α : Type} (B : Nat) (w : World) (k : Nat) (cs : α → List Value) : Ls B w k cs (.slice none 0 0) [] := ⟨none, 0, rfl, by simp, by simp, fun h => absurd rfl h⟩
theorem Wr.alloc {B : Nat} {w : World} {g : Nat} {l : Bs} (h : Wr B w g l) (o : Obj) : Wr B (w.alloc o) g l := by
  obtain ⟨hg, v, hh, hown⟩ := h
  exact ⟨hg, v, (heap_past w o g (lt_of_heap hh)).trans hh, hown.alloc o⟩
theorem Wr.drew {B : Nat} {w : World} {g : Nat} {l : Bs} (h : Wr B w g l) : Wr B w.drew g l := h
theorem Wr.base {B : Nat} {w : World} {g : Nat} {l : Bs} (h : Wr B w g l) : B ≤ w.heap.size := Nat.le_of_lt (Nat.lt_of_le_of_lt h.1 h.lt)
theorem Kt.cell {ts : List TypeId} {w w' : World} {k i : Nat} {cs : Array Value} {t : TypeId} {fr : Nat × Nat} {u : Value} (h : Kt ts w w') (hk : w.heap[k]? = some (Obj.cells cs t fr)) (ht : t ∉ ts) (hu : cs[i]? = some u) : w'.cell? ⟨k, i, none⟩ = some u := by
  rw [cell_of_row w' k i _ _ _ (h.2 k cs t fr hk ht), hu]
theorem Kt.alloc {ts : List TypeId} (w : World) (o : Obj) : Kt ts w (w.alloc o) := Kt.below ((Below.refl _ _).alloc (Nat.le_refl _) _)
theorem pairB_length (p : Pair) : (pairB p).length = (txt p.1).length + (txt p.2).length := by simp [pairB]
theorem linkB_length (p : Link) : (linkB p).length = (txt p.1).length + (p.2.1.length + (num p.2.2).length) := by simp [linkB, partB]

end Go.Proofs.Ytldfjpgcemfpjaa

/-
  What is written, told: its size, a piece, all of it, its object; writing begun. Conditions: the table holds its numbers; lengths within reach.
-/
namespace Go.Proofs.Ytldfjpgcemfpjaa
open Go.RowKit

theorem Wr.sl {B : Nat} {w : World} {g : Nat} {l : Bs} (h : Wr B w g l) : ∃ v, w.cell? ⟨g, 0, none⟩ = some v ∧ Sl w v l := by
  obtain ⟨hg, v, hh, hown⟩ := h
  exact ⟨v, by rw [cell_of_row w g 0 _ _ _ hh]; rfl, sl_of_own hown⟩
theorem size_any (w : World) (g : Nat) (v : Value) (l : Bs) (hc : w.cell? ⟨g, 0, none⟩ = some v) (hv : Sl w v l) :
    Calls Try.prog 89 #[.pointer (some ⟨g, 0, none⟩)] w fun e w' => e = .returned (.int .i64 (l.length : Int)) ∧ w' = w := by
  obtain ⟨ao, cap, rfl, h1, h2, h3, h4⟩ := hv
  clear h4 h3
  go_enter Try.func89, Try.ntmps89
  go_wp2
  go_ret
  exact ⟨rfl, rfl⟩
set_option maxRecDepth 20000 in
theorem piece_any (w : World) (g : Nat) (v : Value) (l : Bs) (r m : Nat) (hc : w.cell? ⟨g, 0, none⟩ = some v) (hv : Sl w v l) (hm : r + m ≤ l.length) (j : Int) (hj : j = ((r + m : Nat) : Int)) :
    Calls Try.prog 109 #[.pointer (some ⟨g, 0, none⟩), .int .i64 (r : Int), .int .i64 j] w fun e w' => e = .returned (.string (strB ((l.drop r).take m))) ∧ w' = w := by
  subst hj
  have h := hv
  obtain ⟨ao, cap, rfl, h1, h2, h3, h4⟩ := hv
  clear h4 h3
  unfold maxLen at h2
  rcases Nat.lt_or_ge r cap with hrc | hrc
  · have hs := Sl.cutAt hm hrc h
    clear h
    go_enter Try.func109, Try.ntmps109
    go_wp2_with (refine wpList_str _ rfl (.tmp 13) rfl hs (by first | rfl | (simp [go_sem]; done)) ?_)
    go_ret
    exact ⟨rfl, rfl⟩
  · obtain rfl : cap = r := by omega
    have hs := Sl.cutEnd hm h
    clear h
    go_enter Try.func109, Try.ntmps109
    go_wp2_with (refine wpList_str _ rfl (.tmp 13) rfl hs (by first | rfl | (simp [go_sem]; done)) ?_)
    go_ret
    exact ⟨rfl, rfl⟩
theorem heap_set2 {w : World} {g : Nat} {v0 v1 u0 u1 : Value} {t : TypeId} (h : w.heap[g]? = some (.cells #[v0, v1] t)) : ((w.setCell ⟨g, 0, none⟩ u0).setCell ⟨g, 1, none⟩ u1).heap[g]? = some (.cells #[u0, u1] t) := by
  rw [heap_setCell _ _ _ _ _ _ _ (heap_setCell _ _ _ _ _ _ _ h)]
  simp
theorem Try.infoObj : (Try.prog.info? 73).map (·.size) = some 2 := by kernel_rfl
/-- An object as the program has it. -/
def objV (l : Bs) : Value := .agg #[.string (strB (sha l)), .string (strB l)]
end Go.Proofs.Ytldfjpgcemfpjaa

/-
  What is right: of each of a list, of sums. Conditions: lists lie there.
-/
namespace Go.Proofs.Ytldfjpgcemfpjaa
open Go.RowKit

theorem ret_bool {a b : Bool} (h : a = b) : Ending.returned (.bool a) = .returned (.bool b) := by rw [h]
theorem all_step {α : Type} (f : α → Bool) (xs : List α) (k : Nat) (hk : k < xs.length) (h : (xs.take k).all f = true) (hf : f xs[k] = true) : (xs.take (k + 1)).all f = true := by
  rw [List.take_succ_eq_append_getElem hk, List.all_append, h]
  simp [hf]
theorem all_false {α : Type} (f : α → Bool) (xs : List α) (k : Nat) (hk : k < xs.length) (hf : f xs[k] = false) : false = xs.all f := by
  refine Eq.symm (Bool.eq_false_iff.2 fun h => ?_)
  rw [List.all_eq_true] at h
  have := h _ (List.getElem_mem hk)
  rw [hf] at this
  cases this
theorem isId_any (w : World) (s : Bs) : Calls Try.prog 101 #[.string (strB s)] w fun e w' => e = .returned (.bool (isIdB s)) ∧ w' = w := by
  have hs := strB_size s
  go_enter Try.func101, Try.ntmps101
  go_wp2
  go_ret
  refine ⟨ret_bool ?_, rfl⟩
  unfold isIdB
  (try rw [Bool.eq_iff_iff]); simp <;> omega
theorem isKey_any (w : World) (s : Bs) : Calls Try.prog 92 #[.string (strB s)] w fun e w' => e = .returned (.bool (isKeyB s)) ∧ w' = w := by
  have hs := strB_size s
  by_cases h : 1 ≤ s.length
  · go_enter Try.func92, Try.ntmps92
    go_wp2
    go_ret
    refine ⟨ret_bool ?_, rfl⟩
    unfold isKeyB
    rw [Bool.eq_iff_iff]; simp; omega
  · go_enter Try.func92, Try.ntmps92
    go_wp2
    go_ret
    refine ⟨ret_bool ?_, rfl⟩
    unfold isKeyB
    rw [Bool.eq_iff_iff]; simp; omega
theorem isLevel_any (w : World) (n : Int) : Calls Try.prog 98 #[.int .i64 n] w fun e w' => e = .returned (.bool (levelB n)) ∧ w' = w := by
  by_cases h : 1 ≤ n
  · go_enter Try.func98, Try.ntmps98
    go_wp2
    go_ret
    refine ⟨ret_bool ?_, rfl⟩
    unfold levelB
    rw [Bool.eq_iff_iff]; simp; omega
  · go_enter Try.func98, Try.ntmps98
    go_wp2
    go_ret
    refine ⟨ret_bool ?_, rfl⟩
    unfold levelB
    rw [Bool.eq_iff_iff]; simp; omega

theorem leaf1_any (w : World) (x : Pair) : Calls Try.prog 91 #[.agg #[.string (strB x.1), .string (strB x.2)]] w fun e w' => e = .returned (.bool (isKeyB x.1 && decide (x.2.length ≤ 128))) ∧ Below w.heap.size w w' := by
  have hs := strB_size x.2
  by_cases h : isKeyB x.1 = true
  · go_enter Try.func91, Try.ntmps91
    go_wp2_with fail
    refine (isKey_any _ x.1).mono ?_
    rintro e w1 ⟨rfl, rfl⟩
    rw [h]
    go_wp2
    go_ret
    refine ⟨ret_bool ?_, (Below.refl _ _).alloc (Nat.le_refl _) _⟩
    rw [h, Bool.eq_iff_iff]; simp; omega
  · have h := Bool.eq_false_iff.2 h
    go_enter Try.func91, Try.ntmps91
    go_wp2_with fail
    refine (isKey_any _ x.1).mono ?_
    rintro e w1 ⟨rfl, rfl⟩
    rw [h]
    go_wp2
    go_ret
    exact ⟨ret_bool (by simp [h]), (Below.refl _ _).alloc (Nat.le_refl _) _⟩
theorem branch1_any (w : World) (x : Link) : Calls Try.prog 100 #[.agg #[.string (strB x.1), .string (strB x.2.1), .int .i64 x.2.2]] w fun e w' => e = .returned (.bool (isKeyB x.1 && isIdB x.2.1)) ∧ Below w.heap.size w w' := by
  by_cases h : isKeyB x.1 = true
  · go_enter Try.func100, Try.ntmps100
    go_wp2_with fail
    refine (isKey_any _ x.1).mono ?_
    rintro e w1 ⟨rfl, rfl⟩
    rw [h]
    go_wp2_with fail
    refine (isId_any _ x.2.1).mono ?_
    rintro e w1 ⟨rfl, rfl⟩
    go_wp2
    go_ret
    refine ⟨ret_bool ?_, (Below.refl _ _).alloc (Nat.le_refl _) _⟩
    simp [h]
  · have h := Bool.eq_false_iff.2 h
    go_enter Try.func100, Try.ntmps100
    go_wp2_with fail
    refine (isKey_any _ x.1).mono ?_
    rintro e w1 ⟨rfl, rfl⟩
    rw [h]
    go_wp2
    go_ret
    exact ⟨ret_bool (by simp [h]), (Below.refl _ _).alloc (Nat.le_refl _) _⟩
theorem branch3_any (w : World) (x : Link) : Calls Try.prog 105 #[.agg #[.string (strB x.1), .string (strB x.2.1), .int .i64 x.2.2]] w fun e w' => e = .returned (.int .i64 x.2.2) ∧ Below w.heap.size w w' := by
  go_enter Try.func105, Try.ntmps105
  go_wp2
  go_ret
  exact ⟨rfl, (Below.refl _ _).alloc (Nat.le_refl _) _⟩
theorem leaf2_any (w : World) (x : Pair) : Calls Try.prog 94 #[.agg #[.string (strB x.1), .string (strB x.2)]] w fun e w' => e = .returned (.string (strB x.1)) ∧ Below w.heap.size w w' := by
  go_enter Try.func94, Try.ntmps94
  go_wp2
  go_ret
  exact ⟨rfl, (Below.refl _ _).alloc (Nat.le_refl _) _⟩
theorem branch2_any (w : World) (x : Link) : Calls Try.prog 103 #[.agg #[.string (strB x.1), .string (strB x.2.1), .int .i64 x.2.2]] w fun e w' => e = .returned (.string (strB x.1)) ∧ Below w.heap.size w w' := by
  go_enter Try.func103, Try.ntmps103
  go_wp2
  go_ret
  exact ⟨rfl, (Below.refl _ _).alloc (Nat.le_refl _) _⟩

set_option maxRecDepth 20000 in
theorem eachPairs_any (w : World) (v : Value) (xs : List (Pair)) (hv : Ls w.heap.size w 2 pairC v xs) :
    Calls Try.prog 90 #[v, .func (.func 91) #[] #[]] w fun e w' => e = .returned (.bool (xs.all (fun p => isKeyB p.1 && decide (p.2.length ≤ 128)))) ∧ Below w.heap.size w w' := by
  obtain ⟨ao, cap, rfl, h1, h2, h4⟩ := hv
  unfold maxLen at h2
  go_enter Try.func90, Try.ntmps90
  go_wp2_with fail
  go_loopw [9] (fun t wr => ∃ k : Nat, k ≤ xs.length ∧ t = .int .i64 k ∧ (xs.take k).all (fun p => isKeyB p.1 && decide (p.2.length ≤ 128)) = true ∧ Below w.heap.size w wr)
    (fun t _ => xs.length - (intOf t).toNat)
  case atStart => exact ⟨0, by omega, rfl, by simp, Below.refl _ _⟩
  case round =>
    obtain ⟨k, hk, rfl, hall, hb⟩ := hrel
    have HB := hide hb
    have HA := hide hall
    clear hb hall
    by_cases hlt : k < xs.length
    · obtain ⟨b, off, rfl, hbB, hc⟩ := h4 (by rintro rfl; simp at hlt)
      have hst := all_step (fun p => isKeyB p.1 && decide (p.2.length ≤ 128)) xs k hlt HA.out
      have hno := all_false (fun p => isKeyB p.1 && decide (p.2.length ≤ 128)) xs k hlt
      have hcell : ∀ i u, (pairC xs[k])[i]? = some u → wr.cell? ⟨b, off + k * 2 + i, none⟩ = some u := fun i u hu => (HB.out.cell (p := ⟨b, off + k * 2 + i, none⟩) hbB).trans (hc k hlt i u hu)
      generalize xs[k] = x at *
      have c0 := hcell 0 _ rfl
      have c1 := hcell 1 _ rfl
      try simp only [Nat.add_zero] at c0
      have HST := hide hst
      have HNO := hide hno
      clear hst hno
      by_cases hf : ((fun p => isKeyB p.1 && decide (p.2.length ≤ 128))) x = true
      · go_wp2_with fail
        refine (leaf1_any _ x).mono ?_
        rintro e w2 ⟨rfl, hb2⟩
        have HB2 : Hid (Below w.heap.size w w2) := hide (((HB.out.alloc HB.out.size _).trans (hb2.mono (HB.out.alloc HB.out.size _).size)))
        clear hb2
        (try dsimp only at hf)
        rw [hf]
        go_wp2
        go_roundw
        case rel => exact ⟨k + 1, by omega, by go_num, HST.out hf, HB2.out⟩
        case measure => simp [intOf]; omega
      · have hf := Bool.eq_false_iff.2 hf
        go_wp2_with fail
        refine (leaf1_any _ x).mono ?_
        rintro e w2 ⟨rfl, hb2⟩
        have HB2 : Hid (Below w.heap.size w w2) := hide (((HB.out.alloc HB.out.size _).trans (hb2.mono (HB.out.alloc HB.out.size _).size)))
        clear hb2
        (try dsimp only at hf)
        rw [hf]
        go_wp2
        go_ret
        exact ⟨ret_bool (HNO.out hf), HB2.out⟩
    · obtain rfl : k = xs.length := by omega
      have ht := HA.out
      rw [List.take_length] at ht
      go_wp2
      go_ret
      exact ⟨ret_bool ht.symm, HB.out⟩

set_option maxRecDepth 20000 in
theorem eachLinks_any (w : World) (v : Value) (xs : List (Link)) (hv : Ls w.heap.size w 3 linkC v xs) :
    Calls Try.prog 99 #[v, .func (.func 100) #[] #[]] w fun e w' => e = .returned (.bool (xs.all (fun p => isKeyB p.1 && isIdB p.2.1))) ∧ Below w.heap.size w w' := by
  obtain ⟨ao, cap, rfl, h1, h2, h4⟩ := hv
  unfold maxLen at h2
  go_enter Try.func99, Try.ntmps99
  go_wp2_with fail
  go_loopw [9] (fun t wr => ∃ k : Nat, k ≤ xs.length ∧ t = .int .i64 k ∧ (xs.take k).all (fun p => isKeyB p.1 && isIdB p.2.1) = true ∧ Below w.heap.size w wr)
    (fun t _ => xs.length - (intOf t).toNat)
  case atStart => exact ⟨0, by omega, rfl, by simp, Below.refl _ _⟩
  case round =>
    obtain ⟨k, hk, rfl, hall, hb⟩ := hrel
    have HB := hide hb
    have HA := hide hall
    clear hb hall
    by_cases hlt : k < xs.length
    · obtain ⟨b, off, rfl, hbB, hc⟩ := h4 (by rintro rfl; simp at hlt)
      have hst := all_step (fun p => isKeyB p.1 && isIdB p.2.1) xs k hlt HA.out
      have hno := all_false (fun p => isKeyB p.1 && isIdB p.2.1) xs k hlt
      have hcell : ∀ i u, (linkC xs[k])[i]? = some u → wr.cell? ⟨b, off + k * 3 + i, none⟩ = some u := fun i u hu => (HB.out.cell (p := ⟨b, off + k * 3 + i, none⟩) hbB).trans (hc k hlt i u hu)
      generalize xs[k] = x at *
      have c0 := hcell 0 _ rfl
      have c1 := hcell 1 _ rfl
      have c2 := hcell 2 _ rfl
      try simp only [Nat.add_zero] at c0
      have HST := hide hst
      have HNO := hide hno
      clear hst hno
      by_cases hf : ((fun p => isKeyB p.1 && isIdB p.2.1)) x = true
      · go_wp2_with fail
        refine (branch1_any _ x).mono ?_
        rintro e w2 ⟨rfl, hb2⟩
        have HB2 : Hid (Below w.heap.size w w2) := hide (((HB.out.alloc HB.out.size _).trans (hb2.mono (HB.out.alloc HB.out.size _).size)))
        clear hb2
        (try dsimp only at hf)
        rw [hf]
        go_wp2
        go_roundw
        case rel => exact ⟨k + 1, by omega, by go_num, HST.out hf, HB2.out⟩
        case measure => simp [intOf]; omega
      · have hf := Bool.eq_false_iff.2 hf
        go_wp2_with fail
        refine (branch1_any _ x).mono ?_
        rintro e w2 ⟨rfl, hb2⟩
        have HB2 : Hid (Below w.heap.size w w2) := hide (((HB.out.alloc HB.out.size _).trans (hb2.mono (HB.out.alloc HB.out.size _).size)))
        clear hb2
        (try dsimp only at hf)
        rw [hf]
        go_wp2
        go_ret
        exact ⟨ret_bool (HNO.out hf), HB2.out⟩
    · obtain rfl : k = xs.length := by omega
      have ht := HA.out
      rw [List.take_length] at ht
      go_wp2
      go_ret
      exact ⟨ret_bool ht.symm, HB.out⟩

set_option maxRecDepth 20000 in
theorem sumLinks_any (w : World) (v : Value) (xs : List (Link)) (hv : Ls w.heap.size w 3 linkC v xs) :
    Calls Try.prog 104 #[v, .func (.func 105) #[] #[], .int .i64 4096] w fun e w' => e = .returned (.bool (within (xs.map (fun p => p.2.2)) 4096)) ∧ Below w.heap.size w w' := by
  obtain ⟨ao, cap, rfl, h1, h2, h4⟩ := hv
  unfold maxLen at h2
  go_enter Try.func104, Try.ntmps104
  go_wp2_with fail
  go_loopw [12, 2] (fun t r wr => ∃ (k : Nat) (m : Int), k ≤ xs.length ∧ t = .int .i64 k ∧ r = .int .i64 m ∧ 0 ≤ m ∧ m ≤ 4096 ∧ within (xs.map (fun p => p.2.2)) 4096 = within ((xs.drop k).map (fun p => p.2.2)) m ∧ Below w.heap.size w wr)
    (fun t _ _ => xs.length - (intOf t).toNat)
  case atStart => exact ⟨0, 4096, by omega, rfl, rfl, by omega, by omega, rfl, Below.refl _ _⟩
  case round =>
    obtain ⟨k, m, hk, rfl, rfl, hm0, hm1, hall, hb⟩ := hrel
    have HB := hide hb
    have HA := hide hall
    clear hb hall
    by_cases hlt : k < xs.length
    · obtain ⟨b, off, rfl, hbB, hc⟩ := h4 (by rintro rfl; simp at hlt)
      have hst : within ((xs.drop k).map (fun p => p.2.2)) m = (!(decide (((fun p => p.2.2)) xs[k] < 1 ∨ m < ((fun p => p.2.2)) xs[k])) && within ((xs.drop (k + 1)).map (fun p => p.2.2)) (m - ((fun p => p.2.2)) xs[k])) := by
        rw [List.drop_eq_getElem_cons hlt, List.map_cons]
        rfl
      have hcell : ∀ i u, (linkC xs[k])[i]? = some u → wr.cell? ⟨b, off + k * 3 + i, none⟩ = some u := fun i u hu => (HB.out.cell (p := ⟨b, off + k * 3 + i, none⟩) hbB).trans (hc k hlt i u hu)
      generalize xs[k] = x at *
      have c0 := hcell 0 _ rfl
      have c1 := hcell 1 _ rfl
      have c2 := hcell 2 _ rfl
      try simp only [Nat.add_zero] at c0
      obtain ⟨x1, x2, n⟩ := x
      dsimp only at hst c0 c1 c2
      have HST := hide hst
      clear hst hcell
      by_cases hf : n < 1
      · go_wp2_with fail
        refine (branch3_any _ (x1, x2, n)).mono ?_
        rintro e w2 ⟨rfl, hb2⟩
        have HB2 : Hid (Below w.heap.size w w2) := hide (((HB.out.alloc HB.out.size _).trans (hb2.mono (HB.out.alloc HB.out.size _).size)))
        clear hb2
        go_wp2
        go_ret
        refine ⟨ret_bool ?_, HB2.out⟩
        rw [HA.out, HST.out]
        simp [hf]
      · by_cases hg : m < n
        · go_wp2_with fail
          refine (branch3_any _ (x1, x2, n)).mono ?_
          rintro e w2 ⟨rfl, hb2⟩
          have HB2 : Hid (Below w.heap.size w w2) := hide (((HB.out.alloc HB.out.size _).trans (hb2.mono (HB.out.alloc HB.out.size _).size)))
          clear hb2
          go_wp2
          go_ret
          refine ⟨ret_bool ?_, HB2.out⟩
          rw [HA.out, HST.out]
          simp [hg]
        · go_wp2_with fail
          refine (branch3_any _ (x1, x2, n)).mono ?_
          rintro e w2 ⟨rfl, hb2⟩
          have HB2 : Hid (Below w.heap.size w w2) := hide (((HB.out.alloc HB.out.size _).trans (hb2.mono (HB.out.alloc HB.out.size _).size)))
          clear hb2
          go_wp2
          go_roundw
          case rel =>
            refine ⟨k + 1, m - n, by omega, by go_num, by go_num, by omega, by omega, ?_, HB2.out⟩
            rw [HA.out, HST.out]
            simp [hf, hg]
          case measure => simp [intOf]; omega
    · obtain rfl : k = xs.length := by omega
      have ht := HA.out
      rw [List.drop_length] at ht
      go_wp2
      go_ret
      exact ⟨ret_bool (by rw [ht]; rfl), HB.out⟩
end Go.Proofs.Ytldfjpgcemfpjaa
