/-
  Texts joined: Groups, Conv, Puts, Takes.
-/
import Derived.Test.YthjcimgollfmgaaGreatDoorP12WPut
import Derived.Test.YthjcimgollfmgaaGreatDoorP1Chg
import Derived.Test.YthjcimgollfmgaaGreatDoorP3Made
import Derived.Deep.Upon
import Derived.Laws.AppendOwn
import Derived.Maps.AppendAt
import Derived.Test.YthjcimgollfmgaaGreatDoorP2Acts
import Derived.Deep.CutBlock
/-
  What laid groups tell, plainly: whole ones are read as they were, and a last one that is torn is none. No program here. Conditions: none.
-/
namespace Go.Proofs.YthjcimgollfmgaaGreatDoor

theorem isPre_iff {a b : List UInt8} : a.isPrefixOf b = true ↔ ∃ c, b = a ++ c := by
  rw [List.isPrefixOf_iff_prefix]
  exact ⟨fun ⟨c, h⟩ => ⟨c, h.symm⟩, fun ⟨c, h⟩ => ⟨c, h.symm⟩⟩
theorem isPre_take (b : List UInt8) (n : Nat) : (b.take n).isPrefixOf b = true := isPre_iff.2 ⟨b.drop n, (List.take_append_drop n b).symm⟩
theorem un4 {l : List UInt8} {a b c d : UInt8} {s : Nat} (h : l = [a, b, c, d]) (hs : a.toNat * 16777216 + b.toNat * 65536 + c.toNat * 256 + d.toNat = s) : unword l = s := by
  subst h
  simp only [unword, List.getD_cons_zero, List.getD_cons_succ]
  exact hs
theorem z4 : (0 : UInt8).toNat * 16777216 + (0 : UInt8).toNat * 65536 + (0 : UInt8).toNat * 256 + (0 : UInt8).toNat = 0 := by decide
theorem headW_of {cs : List UInt8 → List UInt8} (l : List UInt8) (s : Nat) (h0 : l.length ≤ 12) (h1 : unword (((l ++ List.replicate (12 - l.length) 0).drop 4).take 4) = s) (h2 : ¬ 2129920 < s) (h3 : l.isPrefixOf (hdW cs s) = true) (x : List UInt8) (hx : l.length = 12 ∨ x = []) : headW cs (l ++ x) = (s, true) := by
  have e : (l ++ x).take 12 = l := by
    rcases hx with hx | hx
    · exact List.take_left' hx
    · subst hx
      rw [List.append_nil, List.take_of_length_le h0]
  unfold headW
  simp only [e, h1]
  rw [if_neg h2, h3]
section
variable {cs : List UInt8 → List UInt8} (hcs : ∀ b, (cs b).length = 4)
include hcs
theorem headW_put (n : Nat) (x : List UInt8) (h : ¬ 2129920 < n) : headW cs (hdW cs n ++ x) = (n, true) := by
  have hl := hdW_length hcs n
  refine headW_of _ n (by omega) ?_ h (isPre_iff.2 ⟨[], by simp⟩) x (.inl hl)
  rw [hl]
  unfold hdW
  rw [List.append_assoc, List.append_assoc, List.drop_left' (show mkW.length = 4 from rfl), List.take_left' (word_length n)]
  exact unword_word n (by omega)
theorem pre8 {n s j : Nat} (h : (mkW ++ word n).take j = (mkW ++ word s).take j) : ((mkW ++ word n).take j).isPrefixOf (hdW cs s) = true := by
  have := hcs []
  rw [h]
  refine isPre_iff.2 ⟨(mkW ++ word s).drop j ++ cs (mkW ++ word s), ?_⟩
  unfold hdW
  rw [← List.append_assoc, List.take_append_drop]
theorem headW_cut8 (n j : Nat) (h : ¬ 2129920 < n) (h8 : j < 8) : ∃ s, headW cs ((mkW ++ word n).take j) = (s, true) := by
  have key : ∀ s, unword (((((mkW ++ word n).take j) ++ List.replicate (12 - ((mkW ++ word n).take j).length) 0).drop 4).take 4) = s → ¬ 2129920 < s → (mkW ++ word n).take j = (mkW ++ word s).take j → ∃ s, headW cs ((mkW ++ word n).take j) = (s, true) := by
    intro s h1 h2 h3
    refine ⟨s, ?_⟩
    have := headW_of _ s (by rw [List.length_take]; omega) h1 h2 (pre8 hcs h3) [] (.inr rfl)
    rw [List.append_nil] at this
    exact this
  have b0 : n / 16777216 = 0 := by omega
  rcases (by omega : j = 0 ∨ j = 1 ∨ j = 2 ∨ j = 3 ∨ j = 4 ∨ j = 5 ∨ j = 6 ∨ j = 7) with rfl | rfl | rfl | rfl | rfl | rfl | rfl | rfl
  · exact key 0 (un4 rfl z4) (by omega) rfl
  · exact key 0 (un4 rfl z4) (by omega) rfl
  · exact key 0 (un4 rfl z4) (by omega) rfl
  · exact key 0 (un4 rfl z4) (by omega) rfl
  · exact key 0 (un4 rfl z4) (by omega) rfl
  · have e5 : ∀ m, (mkW ++ word m).take 5 = mkW ++ [UInt8.ofNat (m / 16777216)] := fun _ => rfl
    refine key 0 ?_ (by omega) ?_
    · rw [e5, b0]; exact un4 rfl z4
    · rw [e5, e5, b0]
  · have e6 : ∀ m, (mkW ++ word m).take 6 = mkW ++ [UInt8.ofNat (m / 16777216), UInt8.ofNat (m / 65536)] := fun _ => rfl
    refine key (n / 65536 * 65536) ?_ (by omega) ?_
    · rw [e6, b0]
      refine un4 (a := 0) (b := UInt8.ofNat (n / 65536)) (c := 0) (d := 0) rfl ?_
      rw [byte_nat, show (0 : UInt8).toNat = 0 from rfl]
      omega
    · rw [e6, e6, show n / 65536 * 65536 / 16777216 = n / 16777216 by omega, show n / 65536 * 65536 / 65536 = n / 65536 by omega]
  · have e7 : ∀ m, (mkW ++ word m).take 7 = mkW ++ [UInt8.ofNat (m / 16777216), UInt8.ofNat (m / 65536), UInt8.ofNat (m / 256)] := fun _ => rfl
    refine key (n / 256 * 256) ?_ (by omega) ?_
    · rw [e7, b0]
      refine un4 (a := 0) (b := UInt8.ofNat (n / 65536)) (c := UInt8.ofNat (n / 256)) (d := 0) rfl ?_
      rw [byte_nat, byte_nat, show (0 : UInt8).toNat = 0 from rfl]
      omega
    · rw [e7, e7, show n / 256 * 256 / 16777216 = n / 16777216 by omega, show n / 256 * 256 / 65536 = n / 65536 by omega, show n / 256 * 256 / 256 = n / 256 by omega]
theorem headW_cut (n j : Nat) (h : ¬ 2129920 < n) (hj : j < 12) : ∃ s, headW cs ((hdW cs n).take j) = (s, true) := by
  by_cases h8 : j < 8
  · have e8 : (hdW cs n).take j = (mkW ++ word n).take j := by unfold hdW; exact List.take_append_of_le_length (by rw [h8_length]; omega)
    rw [e8]
    exact headW_cut8 hcs n j h h8
  · have hs := hcs (mkW ++ word n)
    have e8 : (hdW cs n).take j = (mkW ++ word n) ++ (cs (mkW ++ word n)).take (j - 8) := by
      unfold hdW; rw [List.take_append, List.take_of_length_le (by rw [h8_length]; omega), h8_length]
    have hl := hdW_length hcs n
    have := headW_of ((hdW cs n).take j) n (by rw [List.length_take]; omega) ?_ h (isPre_take _ _) [] (.inr rfl)
    · rw [List.append_nil] at this
      exact ⟨n, this⟩
    · rw [e8, List.append_assoc, List.append_assoc, List.drop_left' (show mkW.length = 4 from rfl), List.take_left' (word_length n)]
      exact unword_word n (by omega)
end
theorem body_many (rs : List (List UInt8)) : rs.length ≤ (bodyW rs).length := by
  induction rs with
  | nil => simp [bodyW]
  | cons r rs ih =>
    have hl : 0 < (txt r).length := by have := num_length r.length; unfold txt; simp; omega
    rw [body_cons, List.length_append]
    simp
    omega
section
variable {cs : List UInt8 → List UInt8} (hcs : ∀ b, (cs b).length = 4)
include hcs
/-- A whole group, whatever comes behind it. -/
theorem groupW_put (rs : List (List UInt8)) (x : List UInt8) (h : right rs = true) : groupW cs (grp cs rs ++ x) = (rs, (grp cs rs).length, true) := by
  have hb : ¬ 2129920 < (bodyW rs).length := by have := right_body h; omega
  have e0 : grp cs rs ++ x = hdW cs (bodyW rs).length ++ (bodyW rs ++ (cs (bodyW rs) ++ x)) := by unfold grp; simp only [List.append_assoc]
  have hr := recsW_put (bodyW rs).length rs [] ((bodyW rs).length + 1) (right_each h) (by have := body_many rs; omega)
  rw [List.nil_append, List.length_nil] at hr
  have hl := hdW_length hcs (bodyW rs).length
  have e1 : (hdW cs (bodyW rs).length ++ (bodyW rs ++ (cs (bodyW rs) ++ x))).drop 12 = bodyW rs ++ (cs (bodyW rs) ++ x) := List.drop_left' hl
  have e2 : (cs (bodyW rs) ++ x).take 4 = cs (bodyW rs) := List.take_left' (hcs _)
  have e3 : (cs (bodyW rs)).isPrefixOf (cs (bodyW rs)) = true := isPre_iff.2 ⟨[], by simp⟩
  have hlen : ¬ (hdW cs (bodyW rs).length ++ (bodyW rs ++ (cs (bodyW rs) ++ x))).length < 12 := by rw [List.length_append, hl]; omega
  have h4 := hcs (bodyW rs)
  have hgl := grp_length hcs rs
  show groupB cs _ _ = _
  rw [e0, headW_put hcs _ _ hb]
  unfold groupB
  rw [if_neg (fun e => e.elim (fun e => by cases e) hlen), e1]
  show recB cs _ ((bodyW rs ++ (cs (bodyW rs) ++ x)).take (bodyW rs).length) ((bodyW rs ++ (cs (bodyW rs) ++ x)).drop (bodyW rs).length) (recsW (((bodyW rs ++ (cs (bodyW rs) ++ x)).take (bodyW rs).length).length + 1) ((bodyW rs ++ (cs (bodyW rs) ++ x)).take (bodyW rs).length) 0 _) = _
  rw [List.take_left, List.drop_left, hr]
  unfold recB
  rw [if_neg (fun e => e.elim (fun e => by cases e) (fun e => by rw [h] at e; cases e)), if_neg (by omega), e2]
  unfold sumB
  rw [e3, if_neg (fun e => e.elim (fun e => by cases e) (fun e => by omega)), hgl]
/-- A group of which the end is missing. -/
theorem groupW_cut (rs : List (List UInt8)) (j : Nat) (h : right rs = true) (hj : j < (grp cs rs).length) : groupW cs ((grp cs rs).take j) = ([], 0, true) := by
  have hb : ¬ 2129920 < (bodyW rs).length := by have := right_body h; omega
  have hgl := grp_length hcs rs
  have hl := hdW_length hcs (bodyW rs).length
  have e0 : grp cs rs = hdW cs (bodyW rs).length ++ (bodyW rs ++ cs (bodyW rs)) := rfl
  show groupB cs _ _ = _
  by_cases h12 : j < 12
  · have e : (grp cs rs).take j = (hdW cs (bodyW rs).length).take j := by rw [e0]; exact List.take_append_of_le_length (by omega)
    obtain ⟨s, hs⟩ := headW_cut hcs (bodyW rs).length j hb h12
    rw [e, hs]
    unfold groupB
    rw [if_pos (Or.inr (by rw [List.length_take]; omega))]
  · have e : (grp cs rs).take j = hdW cs (bodyW rs).length ++ (bodyW rs ++ cs (bodyW rs)).take (j - 12) := by
      rw [e0, List.take_append, List.take_of_length_le (by omega), hl]
    have e1 : (hdW cs (bodyW rs).length ++ (bodyW rs ++ cs (bodyW rs)).take (j - 12)).drop 12 = (bodyW rs ++ cs (bodyW rs)).take (j - 12) := List.drop_left' hl
    have hlen : ¬ (hdW cs (bodyW rs).length ++ (bodyW rs ++ cs (bodyW rs)).take (j - 12)).length < 12 := by rw [List.length_append, hl]; omega
    rw [e, headW_put hcs _ _ hb]
    unfold groupB
    rw [if_neg (fun e => e.elim (fun e => by cases e) hlen), e1]
    generalize hq : (bodyW rs ++ cs (bodyW rs)).take (j - 12) = q
    show recB cs _ (q.take (bodyW rs).length) (q.drop (bodyW rs).length) (recsW ((q.take (bodyW rs).length).length + 1) (q.take (bodyW rs).length) 0 _) = _
    by_cases hi : j - 12 < (bodyW rs).length
    · have e2 : q.take (bodyW rs).length = (bodyW rs).take (j - 12) := by
        rw [← hq, List.take_take, Nat.min_eq_right (by omega)]
        exact List.take_append_of_le_length (by omega)
      have hl2 : ((bodyW rs).take (j - 12)).length = j - 12 := by rw [List.length_take]; omega
      obtain ⟨a, b, ea, er⟩ := recsW_cut' (bodyW rs).length rs [] (((bodyW rs).take (j - 12)).length + 1) (j - 12) (right_each h) (by omega) (by omega) (by simp)
      rw [List.nil_append, List.length_nil] at er
      have hra : right a = true := right_pre (ea ▸ h)
      rw [e2, er]
      unfold recB
      rw [if_neg (fun e => e.elim (fun e => by cases e) (fun e => by rw [hra] at e; cases e)), if_pos (by rw [hl2]; exact hi)]
    · have e2 : q.take (bodyW rs).length = bodyW rs := by
        rw [← hq, List.take_take, Nat.min_eq_left (by omega), List.take_left]
      have e3 : q.drop (bodyW rs).length = (cs (bodyW rs)).take (j - 12 - (bodyW rs).length) := by
        rw [← hq, List.take_append, List.take_of_length_le (by omega), List.drop_left]
      have hr := recsW_put (bodyW rs).length rs [] ((bodyW rs).length + 1) (right_each h) (by have := body_many rs; omega)
      rw [List.nil_append, List.length_nil] at hr
      have hs4 := hcs (bodyW rs)
      have e4 : ((cs (bodyW rs)).take (j - 12 - (bodyW rs).length)).take 4 = (cs (bodyW rs)).take (j - 12 - (bodyW rs).length) := List.take_of_length_le (by rw [List.length_take]; omega)
      have e5 := isPre_take (cs (bodyW rs)) (j - 12 - (bodyW rs).length)
      rw [e2, hr, e3]
      unfold recB
      rw [if_neg (fun e => e.elim (fun e => by cases e) (fun e => by rw [h] at e; cases e)), if_neg (by omega), e4]
      unfold sumB
      rw [e5, if_pos (Or.inr (by rw [List.length_take]; omega))]
end

/-! ### all groups -/
def laid (cs : List UInt8 → List UInt8) (gs : List (List (List UInt8))) : List UInt8 := (gs.map (grp cs)).flatten
theorem laid_cons (cs : List UInt8 → List UInt8) (g : List (List UInt8)) (gs : List (List (List UInt8))) : laid cs (g :: gs) = grp cs g ++ laid cs gs := rfl
theorem laid_append (cs : List UInt8 → List UInt8) (a b : List (List (List UInt8))) : laid cs (a ++ b) = laid cs a ++ laid cs b := by simp [laid]
theorem laid_one (cs : List UInt8 → List UInt8) (g : List (List UInt8)) : laid cs [g] = grp cs g := by simp [laid]
/-- One more group: what it tells, and what tell those behind it. -/
def stepG (a : Nat) (r : List (List UInt8) × Nat × Bool) (k : Option (List (List (List UInt8)) × Nat)) : Option (List (List (List UInt8)) × Nat) :=
  if r.2.2 = false ∨ r.2.1 = 0 ∧ a = 0 then none else if r.2.1 = 0 then some ([], a) else k.map fun x => (r.1 :: x.1, x.2)
theorem stepG_put {a n : Nat} {rs : List (List UInt8)} {gs : List (List (List UInt8))} {e : Nat} (hn : 0 < n) : stepG a (rs, n, true) (some (gs, e)) = some (rs :: gs, e) := by
  unfold stepG
  rw [if_neg (fun h => h.elim (fun h => by cases h) (fun h => by have := h.1; simp only at this; omega)), if_neg (by simp only; omega)]
  rfl
theorem stepG_cut {a : Nat} {k : Option (List (List (List UInt8)) × Nat)} (ha : 0 < a) : stepG a ([], 0, true) k = some ([], a) := by
  unfold stepG
  rw [if_neg (fun h => h.elim (fun h => by cases h) (fun h => by have := h.2; omega)), if_pos rfl]
/-- All groups from a place on, and how far they go; none: no log laid that. -/
def groupsW (cs : List UInt8 → List UInt8) : Nat → List UInt8 → Nat → Option (List (List (List UInt8)) × Nat)
  | 0, _, a => some ([], a)
  | f + 1, b, a => if a < b.length then stepG a (groupW cs (b.drop a)) (groupsW cs f b (a + (groupW cs (b.drop a)).2.1)) else some ([], a)
theorem groupsW_in (cs : List UInt8 → List UInt8) (f : Nat) (b : List UInt8) (a : Nat) (h : a < b.length) : groupsW cs (f + 1) b a = stepG a (groupW cs (b.drop a)) (groupsW cs f b (a + (groupW cs (b.drop a)).2.1)) := if_pos h
theorem groupsW_end (cs : List UInt8 → List UInt8) (f : Nat) (b : List UInt8) (a : Nat) (h : ¬ a < b.length) : groupsW cs (f + 1) b a = some ([], a) := if_neg h
section
variable {cs : List UInt8 → List UInt8} (hcs : ∀ b, (cs b).length = 4)
include hcs
theorem groupsW_put : ∀ (gs : List (List (List UInt8))) (p : List UInt8) (f : Nat), (∀ g ∈ gs, right g = true) → gs.length < f → groupsW cs f (p ++ laid cs gs) p.length = some (gs, (p ++ laid cs gs).length)
  | [], p, f + 1, _, _ => by
    have e0 : laid cs [] = [] := rfl
    rw [e0, List.append_nil, groupsW_end _ _ _ _ (Nat.lt_irrefl _)]
  | g :: gs, p, f + 1, h, hf => by
    have hg := h g (List.mem_cons_self ..)
    have hl := grp_length hcs g
    have ih := groupsW_put gs (p ++ grp cs g) f (fun x hx => h x (List.mem_cons_of_mem _ hx)) (by rw [List.length_cons] at hf; omega)
    rw [List.append_assoc, List.length_append] at ih
    rw [laid_cons, groupsW_in _ _ _ _ (by rw [List.length_append, List.length_append]; omega), List.drop_left, groupW_put hcs g _ hg]
    show stepG p.length (g, (grp cs g).length, true) (groupsW cs f (p ++ (grp cs g ++ laid cs gs)) (p.length + (grp cs g).length)) = _
    rw [ih, stepG_put (by omega)]
theorem groupsW_cut (g : List (List UInt8)) (j : Nat) (hg : right g = true) (hj : j < (grp cs g).length) : ∀ (gs : List (List (List UInt8))) (p : List UInt8) (f : Nat), (∀ g ∈ gs, right g = true) → gs.length + 1 < f → p ++ laid cs gs ≠ [] →
    groupsW cs f (p ++ laid cs gs ++ (grp cs g).take j) p.length = some (gs, (p ++ laid cs gs).length)
  | [], p, f + 1, _, _, hne => by
    have e0 : laid cs [] = [] := rfl
    rw [e0, List.append_nil] at hne ⊢
    have hp := List.length_pos_iff.2 hne
    by_cases h0 : j = 0
    · rw [h0, List.take_zero, List.append_nil, groupsW_end _ _ _ _ (Nat.lt_irrefl _)]
    · rw [groupsW_in _ _ _ _ (by rw [List.length_append, List.length_take]; omega), List.drop_left, groupW_cut hcs g j hg hj, stepG_cut hp]
  | g' :: gs, p, f + 1, h, hf, _ => by
    have hg' := h g' (List.mem_cons_self ..)
    have hl := grp_length hcs g'
    have hne : p ++ grp cs g' ++ laid cs gs ≠ [] := fun e => by
      have := congrArg List.length e
      rw [List.length_append, List.length_append, List.length_nil] at this
      omega
    have ih := groupsW_cut g j hg hj gs (p ++ grp cs g') f (fun x hx => h x (List.mem_cons_of_mem _ hx)) (by rw [List.length_cons] at hf; omega) hne
    have e : p ++ (grp cs g' ++ laid cs gs) ++ (grp cs g).take j = p ++ (grp cs g' ++ (laid cs gs ++ (grp cs g).take j)) := by rw [List.append_assoc, List.append_assoc]
    have e2 : p ++ grp cs g' ++ laid cs gs ++ (grp cs g).take j = p ++ (grp cs g' ++ (laid cs gs ++ (grp cs g).take j)) := by rw [List.append_assoc, List.append_assoc]
    rw [e2, List.length_append] at ih
    rw [laid_cons, e, groupsW_in _ _ _ _ (by rw [List.length_append, List.length_append]; omega), List.drop_left, groupW_put hcs g' _ hg']
    show stepG p.length (g', (grp cs g').length, true) (groupsW cs f (p ++ (grp cs g' ++ (laid cs gs ++ (grp cs g).take j))) (p.length + (grp cs g').length)) = _
    rw [ih, stepG_put (by omega), List.append_assoc]
end
end Go.Proofs.YthjcimgollfmgaaGreatDoor

/-
  Bytes of a constant. Conditions: none.
-/
namespace Go.Proofs.YthjcimgollfmgaaGreatDoor
open Go.RowKit

theorem freeze_new (w : World) (C : Array Value) (n : Nat) : (w.alloc (.cells C 5)).freeze ⟨w.heap.size, n, none⟩ 1 = w.alloc (.cells C 5 (n, n + 1)) := by
  have hm : ∀ (a : Array Obj) (x : Obj) (f : Obj → Obj), (a.push x).modify a.size f = a.push (f x) := by
    intro a x f
    apply Array.ext
    · simp
    · intro i h1 h2
      simp only [Array.getElem_modify, Array.getElem_push]
      by_cases h : a.size = i
      · subst h
        simp
      · have hi : i < a.size := by simp at h1; omega
        simp [h, hi]
  unfold World.freeze
  rw [if_neg (by decide)]
  show ({ w.alloc (.cells C 5) with heap := (w.heap.push (.cells C 5)).modify w.heap.size _ } : World) = _
  rw [hm]
  rfl
/-- '[]byte("..")' of a constant: the row that was built gets the run-time's mark. -/
theorem conv33 (w : World) (C : Array Value) (l c n : Nat) (hn : w.heap.size = n) : (convert 78 78 (.slice (some ⟨n, 0, none⟩) l c)).run Tryz.prog (w.alloc (.cells C 5)) =
    .ok (.slice (some ⟨n, 0, none⟩) l c) (w.alloc (.cells C 5 (C.size, C.size + 1))) := by
  subst hn
  have hsh : (w.alloc (.cells C 5)).shape? w.heap.size = some (5, C.size) := by
    have : (w.alloc (.cells C 5)).heap[w.heap.size]? = some (.cells C 5) := by
      show (w.heap.push (.cells C 5))[w.heap.size]? = _
      simp
    unfold World.shape?
    rw [this]
  simp [convert, run_underlying Tryz.underlying78, run_underlying Tryz.underlying5, markStringish, hsh, freeze_new]
end Go.Proofs.YthjcimgollfmgaaGreatDoor

/-
  What making a group's bytes answers: putWord, putSum, putHead, isRight, putGroup. Conditions: the table holds its numbers; the texts lie there.
-/
namespace Go.Proofs.YthjcimgollfmgaaGreatDoor
open Go.RowKit

theorem own_form {w : World} {base n size : Nat} {e : TypeId} {v : Value} {xs : List Value} (h : w.ownsRow base e size v n xs) : ∃ ao cap, v = .slice ao n cap ∧ n ≤ cap ∧ cap ≤ maxLen := by
  rcases h.2 with ⟨rfl, rfl⟩ | ⟨g, cap', cur, rfl, hg, hh, h1, h2, -⟩
  · exact ⟨none, 0, rfl, Nat.le_refl _, by simp⟩
  · exact ⟨_, _, rfl, h1, h2⟩
theorem own_keepB {w w' : World} {base n size : Nat} {e : TypeId} {v : Value} {xs : List Value} (h : w.ownsRow base e size v n xs) (hb : Below w.heap.size w w') : w'.ownsRow base e size v n xs := by
  refine ⟨h.1, ?_⟩
  rcases h.2 with h | ⟨g', cap', cur, rfl, hb', hh, r⟩
  · exact Or.inl h
  · exact Or.inr ⟨g', cap', cur, rfl, hb', (hb.block _ (lt_of_heap hh)).trans hh, r⟩
theorem own_low {w : World} {base base' n size : Nat} {e : TypeId} {v : Value} {xs : List Value} (h : w.ownsRow base e size v n xs) (hb : base' ≤ base) : w.ownsRow base' e size v n xs := by
  refine ⟨h.1, ?_⟩
  rcases h.2 with h | ⟨g', cap', cur, rfl, hb', r⟩
  · exact Or.inl h
  · exact Or.inr ⟨g', cap', cur, rfl, by omega, r⟩
/-- Bytes behind an own row. -/
theorem run_append_sl (w : World) {base : Nat} {v x : Value} {a b : List UInt8} (ho : w.ownsRow base 5 1 v a.length (bc a)) (hs : Sl w x b) (hl : a.length + b.length ≤ 140737488355328) (hB : base ≤ w.heap.size) (ty : TypeId) :
    ∃ v' w', (Builtin.append_ #[78, 78] ty #[v, x]).run Tryz.prog w = .ok v' w' ∧ w'.ownsRow base 5 1 v' (a ++ b).length (bc (a ++ b)) ∧ w.grownBy w' v.ownBlock := by
  obtain ⟨i0, hi, hz0, hz1, hz2⟩ := info_parts Tryz.infoB
  by_cases he : b = []
  · subst he
    obtain ⟨ao, cap, rfl, h1, h2, h3, -⟩ := hs
    cases ao with
    | none =>
      obtain ⟨av, cv, rfl, c1, c2⟩ := own_form ho
      refine ⟨_, w, run_append_nothing w _ _ _ _ i0 Tryz.underlying78 hi av a.length cv c1 _ ?_, by simpa using ho, ⟨rfl, rfl, rfl, Nat.le_refl _, fun _ _ _ => rfl⟩⟩
      rw [hz1]
      exact Src.ofNil w Tryz.underlying78 cap
    | some ad =>
      obtain ⟨v', w', hr, hown, hg, _⟩ := run_append_own (P := Tryz.prog) w base 78 ty 5 i0 (.int .u8 0) 1 1 Tryz.underlying78 hi hz0 hz1 hz2 rfl (by decide) v a.length (bc a) ho ad 0 cap [] rfl (fun j u hu => by cases hu) (fun u hu => by cases hu) (by unfold maxLen; simp at hl; omega) (by simp at hl; omega) hB
      exact ⟨v', w', hr, by simpa using hown, hg⟩
  · obtain ⟨g, off, cap, rfl, hg, hc⟩ := hs.some he
    obtain ⟨v', w', hr, hown, hg, _⟩ := run_append_own (P := Tryz.prog) w base 78 ty 5 i0 (.int .u8 0) 1 1 Tryz.underlying78 hi hz0 hz1 hz2 rfl (by decide) v a.length (bc a) ho ⟨g, off, none⟩ b.length cap (bc b) (by rw [bc_length, Nat.mul_one]) (fun j u hu => by rw [Addr.add_lit]; exact hc j u hu) (bc_one b) (by unfold maxLen; omega) (by omega) hB
    exact ⟨v', w', hr, by rw [bc_append, List.length_append]; exact hown, hg⟩

/-- Bytes behind a row that is full: a new row. -/
theorem run_append_new (w : World) {ad : Addr} {x : Value} {a b : List UInt8} {cap : Nat} (ha : ∀ j u, (bc a)[j]? = some u → w.cell? (ad.add j) = some u) (hs : Sl w x b) (hne : b ≠ []) (hc : cap < a.length + b.length) (_hca : a.length ≤ cap) (hl : a.length + b.length ≤ 140737488355328) (ty : TypeId) :
    ∃ v' w', (Builtin.append_ #[78, 78] ty #[.slice (some ad) a.length cap, x]).run Tryz.prog w = .ok v' w' ∧ w'.ownsRow w.heap.size 5 1 v' (a ++ b).length (bc (a ++ b)) ∧ Below w.heap.size w w' := by
  obtain ⟨i0, hi, hz0, hz1, hz2⟩ := info_parts Tryz.infoB
  obtain ⟨g, off, c2, rfl, hg, hcb⟩ := hs.some hne
  have h63 : a.length + b.length ≤ maxLen := by unfold maxLen; omega
  have hge := grownCap_ge w (a.length + b.length) cap 5
  have hcm := grownCap_le_maxLen w (a.length + b.length) cap 5 h63
  refine ⟨_, _, run_append_grow (P := Tryz.prog) w 78 ty 5 i0 (.int .u8 0) Tryz.underlying78 hi hz0 ad a.length cap (bc a) (by rw [bc_length, hz1, Nat.mul_one]) ha ⟨g, off, none⟩ b.length c2 (bc b) (by rw [bc_length, hz1, Nat.mul_one]) (fun j u hu => by rw [Addr.add_lit]; exact hcb j u hu) hc (by omega) (by rw [hz2]; exact growslice_fits (by omega) (by omega)), ⟨by rw [bc_length, Nat.mul_one], .inr ⟨w.heap.size, _, _, by rw [List.length_append], Nat.le_refl _, heap_last w.drew _, by rw [List.length_append]; exact hge, hcm, ?_, ?_⟩⟩, ((Below.refl _ w).drew).alloc (Nat.le_refl _) _⟩
  · simp only [Array.size_append, List.size_toArray, bc_length, size_zeroCells]
    have : (Value.int IntKind.u8 0).cells.size = 1 := rfl
    rw [this]
    omega
  · rw [Array.toList_append, Array.toList_append, ← bc_append, Nat.mul_one]
    exact List.take_left' (bc_length _)
theorem u8_low (n k : Nat) (_h : n < 4294967296) (d : Int) (hd : d = (k : Int)) : IntKind.u8.wrap ((n : Int) / d) = ((UInt8.ofNat (n / k)).toNat : Int) := by
  rw [hd, byte_nat, IntKind.wrap_u8]
  omega
theorem u8_low0 (n : Nat) (_h : n < 4294967296) : IntKind.u8.wrap (n : Int) = ((UInt8.ofNat n).toNat : Int) := by
  rw [byte_nat, IntKind.wrap_u8]
  omega
set_option maxRecDepth 20000 in
theorem putWord_any (w : World) (base : Nat) (v : Value) (l : List UInt8) (n : Nat) (hn : n < 4294967296) (ho : w.ownsRow base 5 1 v l.length (bc l)) (hB : base ≤ w.heap.size) (hl : l.length ≤ 1000) :
    Calls Tryz.prog 69 #[v, .int .u32 (n : Int)] w fun e w' => ∃ v', e = .returned v' ∧ w'.ownsRow base 5 1 v' (l ++ word n).length (bc (l ++ word n)) ∧ Below base w w' := by
  have e1 := u8_low n 16777216 hn 16777216 rfl
  have e2 := u8_low n 65536 hn 65536 rfl
  have e3 := u8_low n 256 hn 256 rfl
  have e4 := u8_low0 n hn
  have hsl : Sl (w.alloc (.cells (bc (word n)).toArray 5)) (.slice (some ⟨w.heap.size, 0, none⟩) 4 4) (word n) := by
    refine ⟨_, _, rfl, Nat.le_refl _, by decide, by simp, fun _ => ⟨w.heap.size, 0, rfl, by simp, fun j hj => ?_⟩⟩
    rw [Nat.zero_add, cell_of (heap_last w _), List.getElem?_toArray]
    exact bc_get _ j hj
  obtain ⟨v', w', hrun, hown, hg⟩ := run_append_sl _ (ho.alloc _) hsl (by rw [word_length]; omega) (by simp; omega) 78
  have hb : Below base w w' := ((Below.refl base w).alloc hB _).grown hg (by simp; omega) (fun k hk => (ho.lt k hk).1)
  have HR := hide hrun
  clear hrun hsl hg
  obtain ⟨ao, cap, rfl, c1, c2⟩ := own_form ho
  go_enter Tryz.func69, Tryz.ntmps69
  go_wp2_with (at_builtin; refine wpList_plain rfl (fun K hK => wp_append_run (.tmp 5) (.tmp 17) 78 rfl rfl rfl HR.out (hK _ _ ?_)))
  go_ret
  exact ⟨_, rfl, hown, hb⟩

set_option maxRecDepth 20000 in
/-- Behind a full row that is not one's own. -/
theorem putWord_new (w : World) (ad : Addr) (l : List UInt8) (n : Nat) (hn : n < 4294967296) (_hne : l ≠ []) (hs : Sl w (.slice (some ad) l.length l.length) l) (hl : l.length ≤ 1000) :
    Calls Tryz.prog 69 #[.slice (some ad) l.length l.length, .int .u32 (n : Int)] w fun e w' => ∃ v', e = .returned v' ∧ w'.ownsRow w.heap.size 5 1 v' (l ++ word n).length (bc (l ++ word n)) ∧ Below w.heap.size w w' := by
  have e1 := u8_low n 16777216 hn 16777216 rfl
  have e2 := u8_low n 65536 hn 65536 rfl
  have e3 := u8_low n 256 hn 256 rfl
  have e4 := u8_low0 n hn
  have hb0 : Below w.heap.size w (w.alloc (.cells (bc (word n)).toArray 5)) := (Below.refl _ w).alloc (Nat.le_refl _) _
  have hsl : Sl (w.alloc (.cells (bc (word n)).toArray 5)) (.slice (some ⟨w.heap.size, 0, none⟩) 4 4) (word n) := by
    refine ⟨_, _, rfl, Nat.le_refl _, by decide, by simp, fun _ => ⟨w.heap.size, 0, rfl, by simp, fun j hj => ?_⟩⟩
    rw [Nat.zero_add, cell_of (heap_last w _), List.getElem?_toArray]
    exact bc_get _ j hj
  obtain ⟨v', w', hrun, hown, hg⟩ := run_append_new (w.alloc (.cells (bc (word n)).toArray 5)) (a := l) (cap := l.length) (hs.cells hb0 ad rfl) hsl (by unfold word; simp) (by rw [word_length]; omega) (Nat.le_refl _) (by rw [word_length]; omega) 78
  have hb : Below w.heap.size w w' := hb0.trans (hg.mono hb0.size)
  have HR := hide hrun
  clear hrun hsl hg hs hb0
  go_enter Tryz.func69, Tryz.ntmps69
  go_wp2_with (at_builtin; refine wpList_plain rfl (fun K hK => wp_append_run (.tmp 5) (.tmp 17) 78 rfl rfl rfl HR.out (hK _ _ ?_)))
  go_ret
  exact ⟨_, rfl, own_low hown (by simp), hb⟩
theorem crc_lt (l : List UInt8) : crc l < 4294967296 := by
  unfold crc
  exact Nat.xor_lt_two_pow (n := 32) (by omega) (crcL_lt l _ (by omega))
set_option maxRecDepth 20000 in
theorem putSum_any (w : World) (v : Value) (l : List UInt8) (hs : Sl w v l) (hT : TabW w) :
    Calls Tryz.prog 51 #[v] w fun e w' => ∃ v', e = .returned v' ∧ w'.ownsRow w.heap.size 5 1 v' 4 (bc (sum4 l)) ∧ Below w.heap.size w w' := by
  have hb : Below w.heap.size w (w.alloc (.cells #[v] 78)) := (Below.refl _ w).alloc (Nat.le_refl _) _
  have hss : Ss (w.alloc (.cells #[v] 78)) (.slice (some ⟨w.heap.size, 0, none⟩) 1 1) [l] := by
    refine ⟨_, _, rfl, Nat.le_refl _, by decide, fun _ => ⟨w.heap.size, 0, rfl, by simp, fun j hj => ⟨v, ?_, ?_⟩⟩⟩
    · obtain rfl : j = 0 := by simp at hj; omega
      rw [cell_of (heap_last w _)]
      rfl
    · obtain rfl : j = 0 := by simp at hj; omega
      exact hs.keepB hb
  have hc := crc_any _ _ _ hss (hT.keep hb)
  simp only [List.flatten_cons, List.flatten_nil, List.append_nil] at hc
  have hlt := crc_lt l
  unfold sum4
  have hp := fun W => putWord_any W W.heap.size (.slice none 0 0) [] (crc l) hlt (World.ownsRow_nil _ _ _ _) (Nat.le_refl _) (by simp)
  generalize crc l = c at *
  obtain ⟨ao, cap, rfl, -⟩ := hs
  clear hss hT
  go_enter Tryz.func51, Tryz.ntmps51
  go_wp2_with fail
  refine hc.mono ?_
  rintro e w1 ⟨rfl, rfl⟩
  go_wp2_with fail
  refine (hp _).mono ?_
  rintro e w2 ⟨v', rfl, hown, hb2⟩
  go_wp2
  go_ret
  rw [List.nil_append, word_length] at hown
  exact ⟨_, rfl, own_low hown hb.size, hb.trans (hb2.mono hb.size)⟩
set_option maxRecDepth 20000 in
theorem putHead_any (w : World) (n : Nat) (hn : n < 4294967296) (hT : TabW w) :
    Calls Tryz.prog 50 #[.int .i64 (n : Int)] w fun e w' => ∃ v', e = .returned v' ∧ w'.ownsRow w.heap.size 5 1 v' 12 (bc (hdW sum4 n)) ∧ Below w.heap.size w w' := by
  have hb : Below w.heap.size w (w.alloc (.cells #[.int .u8 245, .int .u8 119, .int .u8 97, .int .u8 108] 5 (4, 5))) := (Below.refl _ w).alloc (Nat.le_refl _) _
  have hcv := conv33 w #[.int .u8 245, .int .u8 119, .int .u8 97, .int .u8 108] 4 4 w.heap.size rfl
  have ho : Sl (w.alloc (.cells #[.int .u8 245, .int .u8 119, .int .u8 97, .int .u8 108] 5 (4, 5))) (.slice (some ⟨w.heap.size, 0, none⟩) mkW.length mkW.length) mkW := by
    refine ⟨_, _, rfl, Nat.le_refl _, by decide, by simp, fun _ => ⟨w.heap.size, 0, rfl, by simp, fun j hj => ?_⟩⟩
    rw [Nat.zero_add, cell_of (heap_last w _)]
    have : (#[.int .u8 245, .int .u8 119, .int .u8 97, .int .u8 108] : Array Value) = (bc mkW).toArray := rfl
    rw [this, List.getElem?_toArray]
    exact bc_get _ j hj
  have hw : IntKind.u32.wrap (n : Int) = (n : Int) := by rw [IntKind.wrap_u32]; omega
  have hp := putWord_new _ _ mkW n hn (by decide) ho (by decide)
  rw [show mkW.length = 4 from rfl] at hp
  have HT := hide hT
  clear ho hT
  go_enter Tryz.func50, Tryz.ntmps50
  go_wp2_with fail
  refine hp.mono ?_
  rintro e w1 ⟨v1, rfl, ho1, hb1⟩
  have ho1 := own_low ho1 hb.size
  have hB1 := hb.trans (hb1.mono hb.size)
  have hsl := sl_of_own ho1
  have hps := putSum_any w1 v1 _ hsl (HT.out.keep hB1)
  have HO1 := hide ho1
  obtain ⟨ao, cap, rfl, -⟩ := own_form ho1
  clear hsl ho1 hp hb1
  go_wp2_with fail
  refine hps.mono ?_
  rintro e w2 ⟨v2, rfl, ho2, hb2⟩
  have hB2 := hB1.trans (hb2.mono hB1.size)
  have hs2 := sl_of_own (l := sum4 (mkW ++ word n)) (by rw [sum4_length]; exact ho2)
  obtain ⟨v3, w3, hrun, hown, hg⟩ := run_append_sl w2 (own_keepB HO1.out hb2) hs2 (by rw [h8_length, sum4_length]; omega) hB2.size 78
  have hB3 : Below w.heap.size w w3 := hB2.grown hg hB2.size (fun k hk => (HO1.out.lt k hk).1)
  have HR := hide hrun
  obtain ⟨a2, c2, rfl, -⟩ := own_form ho2
  obtain ⟨a3, c3, rfl, -⟩ := own_form hown
  clear hrun hg hs2 ho2 hps
  go_wp2_with (at_builtin; refine wpList_plain rfl (fun K hK => wp_append_run (.tmp 9) (.tmp 11) 78 rfl rfl rfl HR.out (hK _ _ ?_)))
  go_ret
  exact ⟨_, rfl, hown, hB3⟩

/-- The slice v holds the texts xs, in the world w. -/
def Tx (w : World) (v : Value) (xs : List (List UInt8)) : Prop :=
  ∃ ao cap, v = .slice ao xs.length cap ∧ xs.length ≤ cap ∧ cap ≤ maxLen ∧
    (xs ≠ [] → ∃ b off, ao = some ⟨b, off, none⟩ ∧ b < w.heap.size ∧ ∀ j (h : j < xs.length), w.cell? ⟨b, off + j, none⟩ = some (.string (strB xs[j])))
theorem Tx.nil (w : World) : Tx w (.slice none 0 0) [] := ⟨none, 0, rfl, Nat.le_refl _, by simp, fun h => absurd rfl h⟩
theorem Tx.keep {w w' : World} {v : Value} {xs : List (List UInt8)} (h : Tx w v xs) (hb : Below w.heap.size w w') : Tx w' v xs := by
  obtain ⟨ao, cap, hv, h1, h2, h4⟩ := h
  refine ⟨ao, cap, hv, h1, h2, fun hl => ?_⟩
  obtain ⟨b, off, ha, hlt, hc⟩ := h4 hl
  exact ⟨b, off, ha, Nat.lt_of_lt_of_le hlt hb.size, fun j hj => (hb.cell (p := ⟨b, off + j, none⟩) hlt).trans (hc j hj)⟩
theorem sum_take {xs : List (List UInt8)} {k : Nat} (h : k < xs.length) : ((xs.take (k + 1)).map List.length).sum = ((xs.take k).map List.length).sum + xs[k].length := by
  rw [List.take_add_one, List.getElem?_eq_getElem h]
  simp only [Option.toList_some, List.map_append, List.map_cons, List.map_nil, List.sum_append, List.sum_cons, List.sum_nil]
  omega

set_option maxRecDepth 20000 in
theorem isRight_any (w : World) (v : Value) (rs : List (List UInt8)) (h : Tx w v rs) (hl : ∀ r ∈ rs, r.length ≤ 140737488355328) :
    Calls Tryz.prog 35 #[v] w fun e w' => e = .returned (.bool (right rs)) ∧ w' = w := by
  obtain ⟨ao, cap, rfl, h1, h2, h4⟩ := h
  unfold maxLen at h2
  by_cases hm : 8192 < rs.length
  · have hr : right rs = false := by unfold right; rw [decide_eq_false (by omega)]; rfl
    go_enter Tryz.func35, Tryz.ntmps35
    go_wp2
    go_ret
    exact ⟨ret_bool hr.symm, rfl⟩
  · have hbd : ∀ k, k ≤ rs.length → ((rs.take k).map List.length).sum ≤ 140737488355328 * k := fun k => by
      induction k with
      | zero => intro _; simp
      | succ k ih =>
        intro hk
        rw [sum_take (by omega)]
        have := ih (by omega)
        have := hl rs[k] (List.getElem_mem _)
        omega
    have HL := hide hl
    clear hl
    go_enter Tryz.func35, Tryz.ntmps35
    go_wp2
    go_loopw [11, 3] (fun i n wr => ∃ k : Nat, i = .int .i64 (k : Int) ∧ k ≤ rs.length ∧ n = .int .i64 (((rs.take k).map List.length).sum : Int) ∧ wr = w)
      (fun i _ _ => rs.length - (intOf i).toNat)
    case atStart => exact ⟨0, rfl, Nat.zero_le _, by simp, rfl⟩
    case round =>
      obtain ⟨k, rfl, hk, rfl, rfl⟩ := hrel
      have hb0 := hbd k hk
      by_cases hlt : k < rs.length
      · obtain ⟨b, off, rfl, hb, hc⟩ := h4 (by rintro rfl; simp at hlt)
        have hck := hc k hlt
        have hst := sum_take hlt
        have hll := HL.out rs[k] (List.getElem_mem _)
        have hss := strB_size rs[k]
        clear hc h4 hbd
        have HST := hide hst
        clear hst
        generalize rs[k] = r at *
        generalize ((rs.take k).map List.length).sum = m at *
        go_wp2_with fail
        exact ⟨⟨k + 1, by go_num, by omega, by rw [HST.out]; go_num, trivial⟩, by simp [intOf]; omega⟩
      · obtain rfl : k = rs.length := by omega
        rw [List.take_length] at *
        have hr : right rs = decide ((rs.map List.length).sum ≤ 2097152) := by unfold right; rw [decide_eq_true (by omega)]; rfl
        clear h4 hbd
        generalize (rs.map List.length).sum = m at *
        by_cases hm2 : m ≤ 2097152
        · go_wp2
          go_ret
          exact ⟨ret_bool (by rw [hr, decide_eq_true hm2]; exact decide_eq_true (by omega)), rfl⟩
        · go_wp2
          go_ret
          exact ⟨ret_bool (by rw [hr, decide_eq_false hm2]; exact decide_eq_false (by omega)), rfl⟩

theorem txt_put (r : List UInt8) : [] ++ (Pl.enc (Pl.zz (strB r).size) ++ (strB r).data.toList) = txt r := by
  rw [strB_size, strB_list]
  rfl
theorem body_snoc {rs : List (List UInt8)} {k : Nat} (h : k < rs.length) : bodyW (rs.take (k + 1)) = bodyW (rs.take k) ++ txt rs[k] := by
  rw [List.take_add_one, List.getElem?_eq_getElem h, body_append]
  simp [bodyW]
theorem body_part {rs : List (List UInt8)} (k : Nat) : (bodyW (rs.take k)).length ≤ (bodyW rs).length := by
  have := congrArg (fun x => (bodyW x).length) (List.take_append_drop k rs)
  simp only [body_append, List.length_append] at this
  omega
set_option maxRecDepth 20000 in
set_option maxHeartbeats 800000 in
theorem putGroup_any (w : World) (v : Value) (rs : List (List UInt8)) (h : Tx w v rs) (hr : right rs = true) (hT : TabW w) :
    Calls Tryz.prog 37 #[v] w fun e w' => ∃ v', e = .returned v' ∧ w'.ownsRow w.heap.size 5 1 v' (grp sum4 rs).length (bc (grp sum4 rs)) ∧ Below w.heap.size w w' := by
  have hbl := right_body hr
  have hea := right_each hr
  obtain ⟨ao, cap, rfl, h1, h2, h4⟩ := h
  unfold maxLen at h2
  have hcnt := (right_len hr).1
  have HT := hide hT
  have HE := hide hea
  clear hT hr hea
  go_enter Tryz.func37, Tryz.ntmps37
  go_wp2
  go_loopw [8, 3] (fun i b wr => ∃ k : Nat, i = .int .i64 (k : Int) ∧ k ≤ rs.length ∧ wr.ownsRow w.heap.size 5 1 b (bodyW (rs.take k)).length (bc (bodyW (rs.take k))) ∧ Below w.heap.size w wr)
    (fun i _ _ => rs.length - (intOf i).toNat)
  case atStart => exact ⟨0, rfl, Nat.zero_le _, World.ownsRow_nil _ _ _ _, Below.refl _ _⟩
  case round =>
    obtain ⟨k, rfl, hk, hrow, hB⟩ := hrel
    by_cases hlt : k < rs.length
    · obtain ⟨b, off, rfl, hb, hc⟩ := h4 (by rintro rfl; simp at hlt)
      have hck := (hB.cell (p := ⟨b, off + k, none⟩) hb).trans (hc k hlt)
      have hbs := body_snoc hlt
      have hrl := HE.out rs[k] (List.getElem_mem _)
      have hbp := body_part (rs := rs) (k + 1)
      have hpt := fun W => putText_any W (.slice none 0 0) [] (strB rs[k]) (Sl.nil _) (by rw [strB_size]; simp; omega)
      rw [txt_put] at hpt
      have HBS := hide hbs
      have HRW := hide hrow
      rw [hbs, List.length_append] at hbp
      clear hc h4 hbs
      generalize rs[k] = r at *
      obtain ⟨ab, cb, rfl, -⟩ := own_form hrow
      clear hrow
      go_wp2_with fail
      refine (hpt _).mono ?_
      rintro e w1 ⟨g, m, c, rfl, hm, hmc, hsl, hb1⟩
      clear hm
      have hB1 := hB.trans (hb1.mono hB.size)
      obtain ⟨v2, w2, hrun, hown, hg⟩ := run_append_sl w1 (own_keepB HRW.out hb1) hsl (by omega) hB1.size 78
      have hB2 : Below w.heap.size w w2 := hB1.grown hg hB1.size (fun j hj => (HRW.out.lt j hj).1)
      have HR := hide hrun
      rw [← HBS.out] at hown
      obtain ⟨a2, c2, rfl, -⟩ := own_form hown
      clear hrun hg hsl hpt
      go_wp2_with (at_builtin; refine wpList_plain rfl (fun K hK => wp_append_run (.tmp 12) (.tmp 14) 78 rfl rfl rfl HR.out (hK _ _ ?_)))
      exact ⟨⟨k + 1, by go_num, by omega, hown, hB2⟩, by simp [intOf]; omega⟩
    · obtain rfl : k = rs.length := by omega
      rw [List.take_length] at hrow
      have HRW := hide hrow
      have hph := fun W hW => putHead_any W (bodyW rs).length (by omega) hW
      obtain ⟨ab, cb, rfl, -⟩ := own_form hrow
      clear hrow h4
      go_wp2_with fail
      refine (hph _ (HT.out.keep hB)).mono ?_
      rintro e w1 ⟨v1, rfl, ho1, hb1⟩
      have hB1 := hB.trans (hb1.mono hB.size)
      have hrw1 := own_keepB HRW.out hb1
      obtain ⟨v2, w2, hrun, hown, hg⟩ := run_append_sl w1 (a := hdW sum4 (bodyW rs).length) (by rw [hdW_length sum4_length]; exact own_low ho1 hB.size) (sl_of_own hrw1) (by rw [hdW_length sum4_length]; omega) hB1.size 78
      have hB2 : Below w.heap.size w w2 := hB1.grown hg hB1.size (fun j hj => Nat.le_trans hB.size (ho1.lt j hj).1)
      have hne1 : ∀ k, (Value.slice ab (bodyW rs).length cb).ownBlock = some k → some k ≠ v1.ownBlock := fun k hk e => by
        have a1 := (HRW.out.lt k hk).2
        have a2 := (ho1.lt k e.symm).1
        omega
      have hrw2 : w2.ownsRow w.heap.size 5 1 (.slice ab (bodyW rs).length cb) (bodyW rs).length (bc (bodyW rs)) := hrw1.kept hg (by
        cases hv : (Value.slice ab (bodyW rs).length cb).ownBlock with
        | none => exact .inl rfl
        | some k => exact .inr (fun e => hne1 k hv (by rw [← e])))
      have HR := hide hrun
      have hps := putSum_any w2 _ _ (sl_of_own hrw2) (HT.out.keep hB2)
      have HO2 := hide hown
      obtain ⟨a1, c1, rfl, -⟩ := own_form ho1
      obtain ⟨a2, c2, rfl, -⟩ := own_form hown
      clear hrun hg hph ho1 hrw1 hrw2 hown hne1
      generalize hL2 : (hdW sum4 (bodyW rs).length ++ bodyW rs).length = L2 at *
      have HL2 := hide hL2
      have hL2b : L2 ≤ 2129932 := by rw [← hL2, List.length_append, hdW_length sum4_length]; omega
      clear hL2
      go_wp2_with (at_builtin; refine wpList_plain rfl (fun K hK => wp_append_run (.tmp 19) (.tmp 20) 78 rfl rfl rfl HR.out (hK _ _ ?_)))
      refine hps.mono ?_
      rintro e w3 ⟨v3, rfl, ho3, hb3⟩
      have hB3 := hB2.trans (hb3.mono hB2.size)
      obtain ⟨v4, w4, hrun, hown, hg⟩ := run_append_sl w3 (a := hdW sum4 (bodyW rs).length ++ bodyW rs) (by rw [HL2.out]; exact own_keepB HO2.out hb3) (sl_of_own (l := sum4 (bodyW rs)) (by rw [sum4_length]; exact ho3)) (by rw [HL2.out, sum4_length]; omega) hB3.size 78
      have hB4 : Below w.heap.size w w4 := hB3.grown hg hB3.size (fun j hj => (HO2.out.lt j hj).1)
      have HR2 := hide hrun
      have eg : hdW sum4 (bodyW rs).length ++ bodyW rs ++ sum4 (bodyW rs) = grp sum4 rs := by unfold grp; rw [List.append_assoc]
      rw [eg] at hown
      obtain ⟨a3, c3, rfl, -⟩ := own_form ho3
      obtain ⟨a4, c4, rfl, -⟩ := own_form hown
      clear hrun hg hps ho3
      go_wp2_with (at_builtin; refine wpList_plain rfl (fun K hK => wp_append_run (.tmp 21) (.tmp 23) 78 rfl rfl rfl HR2.out (hK _ _ ?_)))
      go_ret
      exact ⟨_, rfl, hown, hB4⟩
end Go.Proofs.YthjcimgollfmgaaGreatDoor

/-
  What reading groups' bytes answers: cut, HasPrefix, takeWord, takeHead, isTorn, takeRecords, takeGroup, takeGroups. Conditions: the bytes lie there, within reach.
-/
namespace Go.Proofs.YthjcimgollfmgaaGreatDoor
open Go.RowKit

theorem run_from (w : World) {ao : Option Addr} {n cap : Nat} {l : List UInt8} (h : Sl w (.slice ao n cap) l) (i : Nat) (hi : i ≤ l.length) : ∃ v', (∀ W : World, (Instr.slice 78 (.slice ao n cap) (some (.int .i64 (i : Int))) none none).run Tryz.prog W = .ok v' W) ∧ Sl w v' (l.drop i) := by
  have h0 := h
  obtain ⟨ao0, cap0, hv, h1, h2, h3, h4⟩ := h0
  injection hv with e1 e2 e3
  subst e1 e2 e3
  have a1 : (i : Int) ≤ (l.length : Int) := by omega
  by_cases hc : i < cap
  · refine ⟨.slice (Option.map (fun x => x.add i) ao) (l.length - i) (cap - i), fun W => ?_, ?_⟩
    · have e : ¬ cap - i = 0 := by omega
      have e2 : ¬ cap = i := by omega
      simp [Instr.slice, run_underlying Tryz.underlying78, Instr.sliceBounds, run_sliceBound, a1, e2, Result.andThen]
    · have := Sl.cutAt (r := i) (m := l.length - i) (by omega) hc h
      rwa [List.take_of_length_le (by simp)] at this
  · have hil : i = l.length := by omega
    have hic : i = cap := by omega
    refine ⟨.slice ao (l.length - i) 0, fun W => ?_, ?_⟩
    · have e : cap - i = 0 := by omega
      have e2 : cap = i := by omega
      have e3 : ¬ i < cap := by omega
      simp [Instr.slice, run_underlying Tryz.underlying78, Instr.sliceBounds, run_sliceBound, a1, e2, Result.andThen]
    · have := Sl.cutEnd (n := l.length) (r := i) (m := l.length - i) (l := l) (ao := ao) (w := w) (by omega) (by rw [hic]; exact h)
      rwa [List.take_of_length_le (by simp)] at this
theorem run_to (w : World) {ao : Option Addr} {n cap : Nat} {l : List UInt8} (h : Sl w (.slice ao n cap) l) (i : Nat) (hi : i ≤ l.length) : (∀ W : World, (Instr.slice 78 (.slice ao n cap) none (some (.int .i64 (i : Int))) none).run Tryz.prog W = .ok (.slice ao i cap) W) ∧ Sl w (.slice ao i cap) (l.take i) := by
  have h0 := h
  obtain ⟨ao0, cap0, hv, h1, h2, h3, h4⟩ := h0
  injection hv with e1 e2 e3
  subst e1 e2 e3
  have a1 : (i : Int) ≤ (cap : Int) := by omega
  refine ⟨fun W => ?_, ?_⟩
  · simp [Instr.slice, run_underlying Tryz.underlying78, Instr.sliceBounds, run_sliceBound, a1, Result.andThen]
    intro _
    cases ao <;> simp [Addr.add]
  · have hl : (l.take i).length = i := by rw [List.length_take]; omega
    refine ⟨ao, cap, by rw [hl], by omega, h2, h3, fun hne => ?_⟩
    obtain ⟨b, off, ha, hb, hc⟩ := h4 (by rintro rfl; simp at hne)
    refine ⟨b, off, ha, hb, fun j hj => ?_⟩
    rw [hl] at hj
    rw [hc j (by omega), List.getElem_take]
theorem Sl.form {w : World} {v : Value} {l : List UInt8} (h : Sl w v l) : ∃ ao cap, v = .slice ao l.length cap ∧ l.length ≤ cap ∧ cap ≤ maxLen := by
  obtain ⟨ao, cap, rfl, h1, h2, -⟩ := h
  exact ⟨ao, cap, rfl, h1, h2⟩

set_option maxRecDepth 20000 in
theorem cutW_any (w : World) (v : Value) (l : List UInt8) (n : Nat) (h : Sl w v l) (_hn : n ≤ 9223372036854775807) :
    Calls Tryz.prog 85 #[v, .int .i64 (n : Int)] w fun e w' => ∃ v1 v2, e = .returned (.tuple #[v1, v2]) ∧ Sl w' v1 (l.take n) ∧ Sl w' v2 (l.drop n) ∧ Below w.heap.size w w' := by
  obtain ⟨ao, cap, rfl, h1, h2⟩ := h.form
  unfold maxLen at h2
  by_cases hc : n ≤ l.length
  · obtain ⟨v2, hr2, hs2⟩ := run_from w h n hc
    obtain ⟨hr1, hs1⟩ := run_to w h n hc
    have H1 := hide hs1
    have H2 := hide hs2
    obtain ⟨a2, c2, rfl, -⟩ := hs2.form
    generalize (l.drop n).length = m2 at *
    clear h hs1 hs2
    go_enter Tryz.func85, Tryz.ntmps85
    go_wp2_with fail
    all_goals (go_region; go_wp2; go_ret2; exact ⟨_, _, rfl, H1.out, H2.out, (Below.refl _ w).drew⟩)
  · obtain ⟨v2, hr2, hs2⟩ := run_from w h l.length (Nat.le_refl _)
    obtain ⟨hr1, hs1⟩ := run_to w h l.length (Nat.le_refl _)
    rw [show l.drop l.length = l.drop n by rw [List.drop_eq_nil_of_le (Nat.le_refl _), List.drop_eq_nil_of_le (by omega)]] at hs2
    rw [show l.take l.length = l.take n by rw [List.take_of_length_le (Nat.le_refl _), List.take_of_length_le (by omega)]] at hs1
    have H1 := hide hs1
    have H2 := hide hs2
    obtain ⟨a2, c2, rfl, -⟩ := hs2.form
    generalize (l.drop n).length = m2 at *
    clear h hs1 hs2
    go_enter Tryz.func85, Tryz.ntmps85
    go_wp2_with fail
    all_goals (go_region; go_wp2; go_ret2; exact ⟨_, _, rfl, H1.out, H2.out, (Below.refl _ w).drew⟩)

theorem eq_strB (a b : List UInt8) : ((strB a).toList == (strB b).toList) = decide (a = b) := by
  rw [ByteArray.toList_eq, ByteArray.toList_eq, strB_list, strB_list]
  by_cases h : a = b
  · rw [h, decide_eq_true rfl]; exact beq_self_eq_true _
  · rw [decide_eq_false h]; exact beq_eq_false_iff_ne.2 h
set_option maxRecDepth 20000 in
theorem equal_any (w : World) (v u : Value) (a b : List UInt8) (h : Sl w v a) (k : Sl w u b) :
    Calls Tryz.prog 110 #[v, u] w fun e w' => e = .returned (.bool (decide (a = b))) ∧ w' = w := by
  have h1 : (convert 78 9 v).run Tryz.prog w = .ok (.string (strB a)) w := run_strW w v a h
  have h2 : (convert 78 9 u).run Tryz.prog w = .ok (.string (strB b)) w := run_strW w u b k
  have he := eq_strB a b
  obtain ⟨ao, ca, rfl, -⟩ := h.form
  obtain ⟨bo, cb, rfl, -⟩ := k.form
  clear h k
  go_enter Tryz.func110, Tryz.ntmps110
  go_wp2
  go_ret
  exact ⟨rfl, rfl⟩
set_option maxRecDepth 20000 in
theorem hasPrefix_any (w : World) (v u : Value) (a b : List UInt8) (h : Sl w v a) (k : Sl w u b) :
    Calls Tryz.prog 87 #[v, u] w fun e w' => e = .returned (.bool (b.isPrefixOf a)) ∧ w' = w := by
  obtain ⟨ao, ca, rfl, h1, h2⟩ := h.form
  obtain ⟨bo, cb, rfl, k1, k2⟩ := k.form
  unfold maxLen at h2 k2
  by_cases hl : b.length ≤ a.length
  · obtain ⟨hr, hs⟩ := run_to w h b.length hl
    have heq := equal_any w _ _ _ _ hs k
    have hp : b.isPrefixOf a = decide (a.take b.length = b) := by
      by_cases e : a.take b.length = b
      · rw [decide_eq_true e]; exact isPre_iff.2 ⟨a.drop b.length, by conv => lhs; rw [← List.take_append_drop b.length a, e]⟩
      · rw [decide_eq_false e]
        cases hq : b.isPrefixOf a with
        | false => rfl
        | true =>
          obtain ⟨c, hc⟩ := isPre_iff.1 hq
          exact absurd (by rw [hc, List.take_left]) e
    rw [hp]
    generalize decide (a.take b.length = b) = r at *
    clear h k hs hp
    go_enter Tryz.func87, Tryz.ntmps87
    go_wp2_with fail
    refine heq.mono ?_
    rintro e w1 ⟨rfl, rfl⟩
    go_wp2
    go_ret
    exact ⟨rfl, rfl⟩
  · have hp : b.isPrefixOf a = false := by
      cases hq : b.isPrefixOf a with
      | false => rfl
      | true =>
        obtain ⟨c, hc⟩ := isPre_iff.1 hq
        rw [hc, List.length_append] at hl
        omega
    rw [hp]
    clear h k
    go_enter Tryz.func87, Tryz.ntmps87
    go_wp2
    go_ret
    exact ⟨rfl, rfl⟩
end Go.Proofs.YthjcimgollfmgaaGreatDoor
