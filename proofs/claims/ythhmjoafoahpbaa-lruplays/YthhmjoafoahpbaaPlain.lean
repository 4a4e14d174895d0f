/-
  A cache, plainly: texts by keys, the one used last first. No program, no condition.
-/
import Derived.Test.YthhmjoafoahpbaaRows
namespace Go.Proofs.Ythhmjoafoahpbaa

abbrev Bs := List UInt8
abbrev Tx := Bs × Bs
def wt (p : Tx) : Nat := p.1.length + p.2.length
/-- All weights together. -/
def tot : List Tx → Nat
  | [] => 0
  | p :: r => wt p + tot r
theorem tot_append (a b : List Tx) : tot (a ++ b) = tot a + tot b := by
  induction a with
  | nil => simp [tot]
  | cons p r ih => simp only [List.cons_append, tot, ih]; omega
/-- Without a key's text. -/
def del (k : Bs) (l : List Tx) : List Tx := l.filter fun p => decide (p.1 ≠ k)
/-- What stays within a budget, of the first ones. -/
def fit : Nat → List Tx → List Tx
  | _, [] => []
  | B, p :: r => if wt p ≤ B then p :: fit (B - wt p) r else []
def gone (B : Nat) (l : List Tx) : List Bs := ((l.drop (fit B l).length).map (·.1)).reverse
/-- A key's text. -/
def seek (k : Bs) : List Tx → Option Bs
  | [] => none
  | p :: r => if p.1 = k then some p.2 else seek k r
def Uniq (l : List Tx) : Prop := (l.map (·.1)).Nodup

theorem fit_prefix (B : Nat) (l : List Tx) : fit B l <+: l := by
  induction l generalizing B with
  | nil => simp [fit]
  | cons p r ih =>
    unfold fit
    split
    · exact List.cons_prefix_cons.2 ⟨rfl, ih _⟩
    · exact List.nil_prefix
theorem fit_tot (B : Nat) (l : List Tx) : tot (fit B l) ≤ B := by
  induction l generalizing B with
  | nil => simp [fit, tot]
  | cons p r ih =>
    unfold fit
    split
    · have := ih (B - wt p)
      simp only [tot]
      omega
    · simp [tot]
theorem fit_of_le {B : Nat} {l : List Tx} (h : tot l ≤ B) : fit B l = l := by
  induction l generalizing B with
  | nil => rfl
  | cons p r ih =>
    simp only [tot] at h
    unfold fit
    rw [if_pos (by omega), ih (by omega)]
/-- The last one goes, as long as all are more than the budget. -/
theorem fit_last {B : Nat} {l : List Tx} {p : Tx} (h : B < tot (l ++ [p])) : fit B (l ++ [p]) = fit B l := by
  induction l generalizing B with
  | nil =>
    simp only [List.nil_append, tot] at h
    simp only [List.nil_append, fit]
    rw [if_neg (by omega)]
  | cons q r ih =>
    simp only [List.cons_append, tot] at h
    simp only [List.cons_append, fit]
    split
    · rw [ih (by omega)]
    · rfl
theorem gone_of_le {B : Nat} {l : List Tx} (h : tot l ≤ B) : gone B l = [] := by
  unfold gone
  rw [fit_of_le h]
  simp
theorem gone_last {B : Nat} {l : List Tx} {p : Tx} (h : B < tot (l ++ [p])) : gone B (l ++ [p]) = p.1 :: gone B l := by
  unfold gone
  rw [fit_last h]
  have hl : (fit B l).length ≤ l.length := (fit_prefix B l).length_le
  rw [List.drop_append_of_le_length hl]
  simp
theorem fit_more {A B : Nat} {l m : List Tx} (h : l <+: m) (hb : A ≤ B) : fit A l <+: fit B m := by
  induction l generalizing A B m with
  | nil => simp [fit]
  | cons p r ih =>
    obtain ⟨t, rfl⟩ := h
    simp only [List.cons_append, fit]
    by_cases h1 : wt p ≤ A
    · rw [if_pos h1, if_pos (by omega)]
      exact List.cons_prefix_cons.2 ⟨rfl, ih ⟨t, rfl⟩ (by omega)⟩
    · rw [if_neg h1]
      exact List.nil_prefix
theorem del_prefix (k : Bs) {l m : List Tx} (h : l <+: m) : del k l <+: del k m := by
  obtain ⟨t, rfl⟩ := h
  unfold del
  rw [List.filter_append]
  exact ⟨_, rfl⟩
theorem uniq_cons {p : Tx} {l : List Tx} : Uniq (p :: l) ↔ (∀ q ∈ l, q.1 ≠ p.1) ∧ Uniq l := by
  unfold Uniq
  rw [List.map_cons, List.nodup_cons]
  constructor
  · rintro ⟨h1, h2⟩
    exact ⟨fun q hq e => h1 (List.mem_map.2 ⟨q, hq, e⟩), h2⟩
  · rintro ⟨h1, h2⟩
    refine ⟨fun h => ?_, h2⟩
    obtain ⟨q, hq, e⟩ := List.mem_map.1 h
    exact h1 q hq e
theorem Uniq.sub {l m : List Tx} (h : Uniq m) (hs : l.Sublist m) : Uniq l := List.Sublist.nodup (hs.map _) h
theorem Uniq.dele {l : List Tx} (h : Uniq l) (k : Bs) : Uniq (del k l) := h.sub List.filter_sublist
theorem Uniq.fitted {l : List Tx} (h : Uniq l) (B : Nat) : Uniq (fit B l) := h.sub (fit_prefix B l).sublist
theorem del_no (k : Bs) (l : List Tx) : ∀ q ∈ del k l, q.1 ≠ k := by
  intro q hq
  have := (List.mem_filter.1 hq).2
  simpa using this
theorem Uniq.front {l : List Tx} (h : Uniq l) (k v : Bs) : Uniq ((k, v) :: del k l) := uniq_cons.2 ⟨del_no k l, h.dele k⟩
theorem del_none {k : Bs} {l : List Tx} (h : ∀ q ∈ l, q.1 ≠ k) : del k l = l := List.filter_eq_self.2 (fun q hq => by simp [h q hq])
theorem del_append (k : Bs) (a b : List Tx) : del k (a ++ b) = del k a ++ del k b := List.filter_append ..
theorem Uniq.parts {a b : List Tx} {p : Tx} (h : Uniq (a ++ p :: b)) : (∀ q ∈ a, q.1 ≠ p.1) ∧ ∀ q ∈ b, q.1 ≠ p.1 := by
  unfold Uniq at h
  rw [List.map_append, List.map_cons, List.nodup_append] at h
  obtain ⟨_, h2, h3⟩ := h
  rw [List.nodup_cons] at h2
  exact ⟨fun q hq => h3 _ (List.mem_map.2 ⟨q, hq, rfl⟩) _ (by simp), fun q hq e => h2.1 (List.mem_map.2 ⟨q, hq, e⟩)⟩
theorem del_mid {a b : List Tx} {p : Tx} (h : Uniq (a ++ p :: b)) : del p.1 (a ++ p :: b) = a ++ b := by
  obtain ⟨h1, h2⟩ := h.parts
  rw [del_append, del_none h1]
  unfold del
  rw [List.filter_cons_of_neg (by simp)]
  congr 1
  exact List.filter_eq_self.2 (fun q hq => by simp [h2 q hq])
theorem tot_mid (a b : List Tx) (p : Tx) : tot (a ++ p :: b) = tot (a ++ b) + wt p := by
  rw [tot_append, tot_append]
  simp only [tot]
  omega
theorem tot_del_le (k : Bs) (l : List Tx) : tot (del k l) ≤ tot l := by
  induction l with
  | nil => simp [del, tot]
  | cons p r ih =>
    unfold del at *
    rw [List.filter_cons]
    split
    · simp only [tot]; omega
    · simp only [tot]; omega
theorem seek_none {k : Bs} {l : List Tx} (h : ∀ q ∈ l, q.1 ≠ k) : seek k l = none := by
  induction l with
  | nil => rfl
  | cons p r ih =>
    unfold seek
    rw [if_neg (h p (by simp)), ih (fun q hq => h q (by simp [hq]))]
theorem seek_mid {a b : List Tx} {p : Tx} (h : ∀ q ∈ a, q.1 ≠ p.1) : seek p.1 (a ++ p :: b) = some p.2 := by
  induction a with
  | nil => simp [seek]
  | cons q r ih =>
    rw [List.cons_append]
    unfold seek
    rw [if_neg (h q (by simp)), ih (fun x hx => h x (by simp [hx]))]
theorem seek_split (k : Bs) (l : List Tx) : (∀ q ∈ l, q.1 ≠ k) ∨ ∃ a v b, l = a ++ (k, v) :: b ∧ ∀ q ∈ a, q.1 ≠ k := by
  induction l with
  | nil => exact .inl (by simp)
  | cons p r ih =>
    by_cases h : p.1 = k
    · obtain ⟨p1, p2⟩ := p
      cases h
      exact .inr ⟨[], p2, r, rfl, by simp⟩
    · rcases ih with h1 | ⟨a, v, b, rfl, ha⟩
      · left
        intro q hq
        rcases List.mem_cons.1 hq with rfl | hq
        · exact h
        · exact h1 q hq
      · refine .inr ⟨p :: a, v, b, rfl, fun q hq => ?_⟩
        rcases List.mem_cons.1 hq with rfl | hq
        · exact h
        · exact ha q hq

/-- A cache. -/
structure Lr where
  budget : Nat
  l : List Tx
/-- A text is used. -/
def Lr.get (S : Lr) (k : Bs) : Lr := match seek k S.l with
  | some v => { S with l := (k, v) :: del k S.l }
  | none => S
def Lr.put (S : Lr) (k v : Bs) : Lr := if wt (k, v) ≤ S.budget then { S with l := fit S.budget ((k, v) :: del k S.l) } else S
def Lr.went (S : Lr) (k v : Bs) : List Bs := if wt (k, v) ≤ S.budget then gone S.budget ((k, v) :: del k S.l) else []
def Lr.code (S : Lr) (k v : Bs) : Int := if wt (k, v) ≤ S.budget then 0 else 70
def dropAll : List Bs → List Tx → List Tx
  | [], l => l
  | k :: ks, l => dropAll ks (del k l)
/-- One, or none. -/
def one : Bool → Nat
  | true => 1
  | false => 0
theorem one_le (b : Bool) : one b ≤ 1 := by cases b <;> simp [one]
def dropNum : List Bs → List Tx → Nat
  | [], _ => 0
  | k :: ks, l => one (seek k l).isSome + dropNum ks (del k l)
def Lr.drop (S : Lr) (ks : List Bs) : Lr := { S with l := dropAll ks S.l }
structure Lr.Ok (S : Lr) : Prop where
  uniq : Uniq S.l
  tot : tot S.l ≤ S.budget
theorem Lr.Ok.get {S : Lr} (h : S.Ok) (k : Bs) : (S.get k).Ok := by
  unfold Lr.get
  cases hs : seek k S.l with
  | none => exact h
  | some v =>
    refine ⟨h.uniq.front k v, ?_⟩
    rcases seek_split k S.l with h1 | ⟨a, v', b, e, ha⟩
    · rw [seek_none h1] at hs
      cases hs
    · have hu := h.uniq
      have ht := h.tot
      have h2 : seek k S.l = some v' := by rw [e]; exact seek_mid (p := (k, v')) ha
      rw [h2] at hs
      injection hs with hs
      subst hs
      rw [e] at hu ht
      have h3 := del_mid hu
      have h4 := tot_mid a b (k, v')
      simp only [e, h3, Go.Proofs.Ythhmjoafoahpbaa.tot]
      omega
theorem Lr.Ok.put {S : Lr} (h : S.Ok) (k v : Bs) : (S.put k v).Ok := by
  unfold Lr.put
  split
  · exact ⟨(h.uniq.front k v).fitted _, fit_tot _ _⟩
  · exact h
theorem dropAll_uniq (ks : List Bs) {l : List Tx} (h : Uniq l) : Uniq (dropAll ks l) := by
  induction ks generalizing l with
  | nil => exact h
  | cons k r ih => exact ih (h.dele k)
theorem dropAll_tot (ks : List Bs) (l : List Tx) : tot (dropAll ks l) ≤ tot l := by
  induction ks generalizing l with
  | nil => exact Nat.le_refl _
  | cons k r ih => exact Nat.le_trans (ih _) (tot_del_le k l)
theorem dropAll_prefix (ks : List Bs) {l m : List Tx} (h : l <+: m) : dropAll ks l <+: dropAll ks m := by
  induction ks generalizing l m with
  | nil => exact h
  | cons k r ih => exact ih (del_prefix k h)
theorem Lr.Ok.drop {S : Lr} (h : S.Ok) (ks : List Bs) : (S.drop ks).Ok := ⟨dropAll_uniq ks h.uniq, Nat.le_trans (dropAll_tot ks S.l) h.tot⟩
theorem dropAll_snoc (ks : List Bs) (k : Bs) (l : List Tx) : dropAll (ks ++ [k]) l = del k (dropAll ks l) := by
  induction ks generalizing l with
  | nil => rfl
  | cons x r ih => exact ih _
theorem dropNum_snoc (ks : List Bs) (k : Bs) (l : List Tx) : dropNum (ks ++ [k]) l = dropNum ks l + one (seek k (dropAll ks l)).isSome := by
  induction ks generalizing l with
  | nil => simp only [List.nil_append, dropNum, dropAll]; omega
  | cons x r ih =>
    simp only [List.cons_append, dropNum, dropAll, ih]
    omega
theorem dropNum_le (ks : List Bs) (l : List Tx) : dropNum ks l ≤ ks.length := by
  induction ks generalizing l with
  | nil => simp [dropNum]
  | cons x r ih =>
    have := ih (del x l)
    have := one_le (seek x l).isSome
    simp only [dropNum, List.length_cons]
    omega

/-! ### a ring: who hangs behind whom -/
def nx (n i : Nat) : Nat := if i + 1 = n then 0 else i + 1
def pv (n i : Nat) : Nat := if i = 0 then n - 1 else i - 1
def Cyc (ns : List Nat) (o p : Nat → Nat) : Prop := ∀ i, i < ns.length → o (ns.getD i 0) = ns.getD (nx ns.length i) 0 ∧ p (ns.getD i 0) = ns.getD (pv ns.length i) 0
def upd (f : Nat → Nat) (a b : Nat) : Nat → Nat := fun x => if x = a then b else f x
theorem getD_inj {ns : List Nat} (h : ns.Nodup) {i j : Nat} (hi : i < ns.length) (hj : j < ns.length) (e : ns.getD i 0 = ns.getD j 0) : i = j := by
  rw [List.getD_eq_getElem?_getD, List.getD_eq_getElem?_getD, List.getElem?_eq_getElem hi, List.getElem?_eq_getElem hj] at e
  simp at e
  exact (List.getElem_inj h).1 e
theorem getD_mem {ns : List Nat} {i : Nat} (hi : i < ns.length) : ns.getD i 0 ∈ ns := by
  rw [List.getD_eq_getElem?_getD, List.getElem?_eq_getElem hi]
  simp
theorem getD_mid (a b : List Nat) (t : Nat) : (a ++ t :: b).getD a.length 0 = t := by
  rw [List.getD_eq_getElem?_getD]
  simp
theorem getD_out (a b : List Nat) (t i : Nat) : (a ++ b).getD i 0 = (a ++ t :: b).getD (if i < a.length then i else i + 1) 0 := by
  simp only [List.getD_eq_getElem?_getD]
  split
  · rw [List.getElem?_append_left (by omega), List.getElem?_append_left (by omega)]
  · rw [List.getElem?_append_right (by omega), List.getElem?_append_right (by omega), show i + 1 - a.length = (i - a.length) + 1 by omega]
    simp
theorem Cyc.out {a b : List Nat} {t : Nat} {o p : Nat → Nat} (h : Cyc (a ++ t :: b) o p) (hn : (a ++ t :: b).Nodup) : Cyc (a ++ b) (upd o (p t) (o t)) (upd p (o t) (p t)) := by
  have hl : (a ++ t :: b).length = a.length + b.length + 1 := by simp; omega
  have hl2 : (a ++ b).length = a.length + b.length := by simp
  have hot := (h a.length (by omega)).1
  have hpt := (h a.length (by omega)).2
  rw [getD_mid] at hot hpt
  rw [hl] at hot hpt
  intro i hi
  rw [hl2] at hi
  rw [hl2, getD_out a b t, getD_out a b t, getD_out a b t]
  obtain ⟨k, hk⟩ : ∃ k, k = if i < a.length then i else i + 1 := ⟨_, rfl⟩
  rw [← hk]
  have hkl : k < (a ++ t :: b).length := by rw [hl, hk]; split <;> omega
  obtain ⟨h1, h2⟩ := h k hkl
  rw [hl] at h1 h2 hkl
  have hpl : pv (a.length + b.length + 1) a.length < (a ++ t :: b).length := by rw [hl]; unfold pv; split <;> omega
  have hol : nx (a.length + b.length + 1) a.length < (a ++ t :: b).length := by rw [hl]; unfold nx; split <;> omega
  constructor
  · unfold upd
    split
    · rename_i e
      rw [hpt] at e
      have e1 := getD_inj hn (by omega) hpl e
      rw [hot]
      congr 1
      clear h1 h2 hot hpt e
      unfold pv at e1
      unfold nx
      grind
    · rename_i e
      rw [hpt] at e
      rw [h1]
      congr 1
      have e1 : k ≠ pv (a.length + b.length + 1) a.length := fun x => e (by rw [x])
      clear h1 h2 hot hpt e
      unfold pv at e1
      unfold nx
      grind
  · unfold upd
    split
    · rename_i e
      rw [hot] at e
      have e1 := getD_inj hn (by omega) hol e
      rw [hpt]
      congr 1
      clear h1 h2 hot hpt e
      unfold nx at e1
      unfold pv
      grind
    · rename_i e
      rw [hot] at e
      rw [h2]
      congr 1
      have e1 : k ≠ nx (a.length + b.length + 1) a.length := fun x => e (by rw [x])
      clear h1 h2 hot hpt e
      unfold nx at e1
      unfold pv
      grind
theorem Cyc.hung {ns : List Nat} {t h : Nat} {o p : Nat → Nat} (hc : Cyc (h :: ns) o p) (hn : (t :: h :: ns).Nodup) : Cyc (t :: h :: ns) (upd (upd o (p h) t) t h) (upd (upd p h t) t (p h)) := by
  have h0 := (hc 0 (by simp)).2
  have e0 : (h :: ns).getD 0 0 = h := rfl
  rw [e0] at h0
  have hnt : ∀ i, i < (h :: ns).length → (h :: ns).getD i 0 ≠ t := fun i hi e => by
    have := getD_mem hi
    rw [e] at this
    exact (List.nodup_cons.1 hn).1 this
  have hn2 := (List.nodup_cons.1 hn).2
  intro i hi
  match i with
  | 0 =>
    have et : (t :: h :: ns).getD 0 0 = t := rfl
    rw [et]
    have hl : (t :: h :: ns).length = ns.length + 2 := rfl
    refine ⟨?_, ?_⟩
    · unfold upd nx
      simp
    · unfold upd
      rw [if_pos rfl, h0]
      unfold pv
      simp
  | i + 1 =>
    have hi' : i < (h :: ns).length := by simpa using hi
    have e1 : (t :: h :: ns).getD (i + 1) 0 = (h :: ns).getD i 0 := rfl
    obtain ⟨h1, h2⟩ := hc i hi'
    have hl : (h :: ns).length = ns.length + 1 := rfl
    have hl2 : (t :: h :: ns).length = ns.length + 2 := rfl
    rw [e1, hl2]
    rw [hl] at h1 h2 h0
    have hlast : pv (ns.length + 1) 0 = ns.length := by unfold pv; simp
    rw [hlast] at h0
    constructor
    · unfold upd
      rw [if_neg (hnt i hi')]
      split
      · rename_i e
        rw [h0] at e
        have := getD_inj hn2 hi' (by simp) e
        subst this
        unfold nx
        simp
      · rename_i e
        have hne : i ≠ ns.length := fun x => e (by rw [x, h0])
        rw [h1]
        have hi3 : i < ns.length := by rw [hl] at hi'; omega
        unfold nx
        rw [if_neg (by omega), if_neg (by omega)]
        rfl
    · unfold upd
      rw [if_neg (hnt i hi')]
      split
      · rename_i e
        have : i = 0 := getD_inj hn2 hi' (by simp) e
        subst this
        unfold pv
        simp
      · rename_i e
        have hne : i ≠ 0 := fun x => e (by rw [x]; rfl)
        rw [h2]
        unfold pv
        rw [if_neg hne, if_neg (by omega)]
        obtain ⟨j, rfl⟩ : ∃ j, i = j + 1 := ⟨i - 1, by omega⟩
        rfl
theorem Cyc.one (t : Nat) {o p : Nat → Nat} (ho : o t = t) (hp : p t = t) : Cyc [t] o p := by
  intro i hi
  have : i = 0 := by simpa using hi
  subst this
  exact ⟨ho, hp⟩
end Go.Proofs.Ythhmjoafoahpbaa
