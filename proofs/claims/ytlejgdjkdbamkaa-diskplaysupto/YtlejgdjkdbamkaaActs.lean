/-
  What acts do to a directory's map, and to the map of how much more a file has: the closures that the program keeps. Conditions: the act can be done.
-/
import Derived.Test.YtlejgdjkdbamkaaCopy
namespace Go.Proofs.Ytlejgdjkdbamkaa
open Go.RowKit

/-- A directory as the pairs of a map: names, and where their files lie. -/
def dv (fb : Nat → Nat) (l : Dir) : List (Value × Value) := l.map fun p => (.string (strB p.1), .pointer (some ⟨fb p.2, 0, none⟩))
def pv (fb : Nat → Nat) : Option Nat → Value
  | none => .pointer none
  | some f => .pointer (some ⟨fb f, 0, none⟩)
theorem dv_keys (fb : Nat → Nat) (l : Dir) : ∀ p ∈ dv fb l, KStr p.1 := by
  intro p hp
  obtain ⟨q, _, rfl⟩ := List.mem_map.1 hp
  exact ⟨_, rfl⟩
theorem dv_ne {fb : Nat → Nat} {l : Dir} {n : Nm} (h : look l n = none) : ∀ p ∈ dv fb l, p.1 ≠ .string (strB n) := by
  intro p hp e
  obtain ⟨q, hq, rfl⟩ := List.mem_map.1 hp
  injection e with e
  exact look_none h q hq (strB_inj e)
theorem dv_del {fb : Nat → Nat} {l : Dir} (hs : Sorted l) {n : Nm} {f : Nat} (h : look l n = some f) : (dv fb l).Perm ((.string (strB n), .pointer (some ⟨fb f, 0, none⟩)) :: dv fb (del n l)) :=
  (del_perm hs h).map fun p : Nm × Nat => ((.string (strB p.1), .pointer (some ⟨fb p.2, 0, none⟩)) : Value × Value)
theorem dv_ins (fb : Nat → Nat) (l : Dir) (n : Nm) (f : Nat) : ((.string (strB n), .pointer (some ⟨fb f, 0, none⟩)) :: dv fb l).Perm (dv fb (ins n f l)) :=
  ((ins_perm n f l).map fun p : Nm × Nat => ((.string (strB p.1), .pointer (some ⟨fb p.2, 0, none⟩)) : Value × Value)).symm

theorem zero81 (w : World) : (zeroValue 81).run Try.prog w = .ok (.pointer none) w := by kernel_rfl
theorem kstr (w : World) : KeyKind Try.prog 9 w KStr := kind_str Try.underlying9

/-- A name is looked up. -/
theorem dir_look {w : World} {b : Nat} {fb : Nat → Nat} {l : Dir} (h : MapW w b (dv fb l)) (hs : Sorted l) (n : Nm) :
    (Instr.lookup 62 (.map (some b)) (.string (strB n)) false).run Try.prog w = .ok (pv fb (look l n)) w := by
  cases hl : look l n with
  | none => exact h.look_none (kstr w) (dv_keys fb l) Try.underlying62 ⟨_, rfl⟩ (dv_ne hl) (zero81 w) false
  | some f => exact (h.perm (dv_del hs hl)).look (kstr w) (dv_keys fb _) Try.underlying62 ⟨_, rfl⟩ false
/-- .. in a directory that is nil. -/
theorem dir_look_nil (w : World) (n : Nm) : (Instr.lookup 62 (.map none) (.string (strB n)) false).run Try.prog w = .ok (.pointer none) w :=
  nil_look Try.underlying62 ((kstr w).check true _ ⟨_, rfl⟩) (MapKept.run_findKey Try.underlying9 rfl) (zero81 w) false

set_option maxRecDepth 20000 in
theorem made1_raw (w : World) (b cf cn : Nat) (l : List (Value × Value)) (n : Nm) (v : Nat) (h : MapW w b l) (hk : ∀ p ∈ l, KStr p.1) (hl : ∀ p ∈ l, p.1 ≠ .string (strB n))
    (h1 : w.heap[cf]? = some (.cells #[.pointer (some ⟨v, 0, none⟩)] 81)) (h2 : w.heap[cn]? = some (.cells #[.string (strB n)] 9)) :
    Calls Try.prog 69 #[.map (some b), .pointer (some ⟨cf, 0, none⟩), .pointer (some ⟨cn, 0, none⟩)] w fun e w' => e = .returned (.tuple #[]) ∧ MapW w' b ((.string (strB n), .pointer (some ⟨v, 0, none⟩)) :: l) ∧ Chg (· = b) w w' := by
  obtain ⟨w', hr, hm, hc, _⟩ := h.put_new (kstr w) hk Try.underlying62 ⟨_, rfl⟩ hl (.pointer (some ⟨v, 0, none⟩))
  have c1 := cell_of h1 0
  have c2 := cell_of h2 0
  have HM := hide hm
  clear h h1 h2 hm
  go_enter Try.func69, Try.ntmps69
  go_wp2
  go_end0
  exact ⟨rfl, HM.out, hc⟩
theorem made1_any (w : World) (b cf cn : Nat) (fb : Nat → Nat) (l : Dir) (n : Nm) (f : Nat) (h : MapW w b (dv fb l)) (hl : look l n = none)
    (h1 : w.heap[cf]? = some (.cells #[.pointer (some ⟨fb f, 0, none⟩)] 81)) (h2 : w.heap[cn]? = some (.cells #[.string (strB n)] 9)) :
    Calls Try.prog 69 #[.map (some b), .pointer (some ⟨cf, 0, none⟩), .pointer (some ⟨cn, 0, none⟩)] w fun e w' => e = .returned (.tuple #[]) ∧ MapW w' b (dv fb (ins n f l)) ∧ Chg (· = b) w w' := by
  refine (made1_raw w b cf cn (dv fb l) n (fb f) h (dv_keys fb l) (dv_ne hl) h1 h2).mono ?_
  rintro e w' ⟨he, hm, hc⟩
  exact ⟨he, hm.perm (dv_ins fb l n f), hc⟩

set_option maxRecDepth 20000 in
theorem rem1_any (w : World) (b cn : Nat) (fb : Nat → Nat) (l : Dir) (n : Nm) (hs : Sorted l) (h : MapW w b (dv fb l)) (hl : look l n ≠ none)
    (h2 : w.heap[cn]? = some (.cells #[.string (strB n)] 9)) :
    Calls Try.prog 44 #[.map (some b), .pointer (some ⟨cn, 0, none⟩)] w fun e w' => e = .returned (.tuple #[]) ∧ MapW w' b (dv fb (del n l)) ∧ Chg (· = b) w w' := by
  obtain ⟨f, hf⟩ := Option.ne_none_iff_exists'.1 hl
  obtain ⟨w', hr, hm, hc, _⟩ := (h.perm (dv_del hs hf)).drop_old (kstr w) (dv_keys fb _) Try.underlying62 ⟨_, rfl⟩ 0 9
  have c2 := cell_of h2 0
  clear h h2
  go_enter Try.func44, Try.ntmps44
  go_wp2
  go_end0
  exact ⟨rfl, hm, hc⟩
theorem del_comm (a b : Nm) (l : Dir) : del a (del b l) = del b (del a l) := by
  unfold del
  rw [List.filter_filter, List.filter_filter]
  exact List.filter_congr fun p _ => Bool.and_comm _ _

set_option maxRecDepth 20000 in
theorem ren1_any (w : World) (b ca cb : Nat) (fb : Nat → Nat) (l : Dir) (x y : Nm) (hs : Sorted l) (h : MapW w b (dv fb l)) (hl : look l x ≠ none) (hne : x ≠ y)
    (h1 : w.heap[ca]? = some (.cells #[.string (strB x)] 9)) (h2 : w.heap[cb]? = some (.cells #[.string (strB y)] 9)) :
    Calls Try.prog 54 #[.map (some b), .pointer (some ⟨ca, 0, none⟩), .pointer (some ⟨cb, 0, none⟩)] w fun e w' => e = .returned (.tuple #[]) ∧ MapW w' b (dv fb (doneD l (.ren x y))) ∧ Chg (· = b) w w' := by
  obtain ⟨f, hf⟩ := Option.ne_none_iff_exists'.1 hl
  have hd : doneD l (.ren x y) = ins y f (del y (del x l)) := by simp only [doneD, hf]
  rw [hd]
  have hk := dir_look h hs x
  rw [hf] at hk
  have hk' : (Instr.lookup 62 (.map (some b)) (.string (strB x)) false).run Try.prog w = .ok (.pointer (some ⟨fb f, 0, none⟩)) w := hk
  have hput : ∃ w1, (Instr.mapUpdate 62 (.map (some b)) (.string (strB y)) (.pointer (some ⟨fb f, 0, none⟩))).run Try.prog w = .ok () w1 ∧
      MapW w1 b ((.string (strB x), .pointer (some ⟨fb f, 0, none⟩)) :: (.string (strB y), .pointer (some ⟨fb f, 0, none⟩)) :: dv fb (del y (del x l))) ∧ Chg (· = b) w w1 := by
    cases hy : look l y with
    | none =>
      obtain ⟨w1, r1, r2, r3, _⟩ := h.put_new (kstr w) (dv_keys fb l) Try.underlying62 ⟨_, rfl⟩ (dv_ne hy) (.pointer (some ⟨fb f, 0, none⟩))
      refine ⟨w1, r1, r2.perm ?_, r3⟩
      have hn : look (del x l) y = none := by rw [look_del, if_neg (fun e => hne e.symm), hy]
      rw [del_none hn]
      exact ((dv_del hs hf).cons _).trans (List.Perm.swap _ _ _)
    | some g =>
      obtain ⟨w1, r1, r2, r3, _⟩ := (h.perm (dv_del hs hy)).put_old (kstr w) (dv_keys fb _) Try.underlying62 ⟨_, rfl⟩ (.pointer (some ⟨fb f, 0, none⟩))
      refine ⟨w1, r1, r2.perm ?_, r3⟩
      have hx : look (del y l) x = some f := by rw [look_del, if_neg hne, hf]
      rw [del_comm y x]
      exact ((dv_del (sorted_del hs y) hx).cons _).trans (List.Perm.swap _ _ _)
  obtain ⟨w1, hr1, hm1, hc1⟩ := hput
  have hne1 := h.ne h1
  have g1 := hc1.keep h1 hne1
  obtain ⟨w2, hr2, hm2, hc2, _⟩ := hm1.drop_old (kstr w1) (consK ⟨_, rfl⟩ (dv_keys fb _)) Try.underlying62 ⟨_, rfl⟩ 0 9
  have c1 := cell_of h1 0
  have c2 := cell_of h2 0
  have c3 := cell_of g1 0
  have HM := hide (hm2.perm (dv_ins fb _ y f))
  have HC := hide (hc1.then hc2)
  clear h h1 h2 hm1 hm2 hc1 hc2 g1 hk hd
  go_enter Try.func54, Try.ntmps54
  go_wp2
  go_end0
  exact ⟨rfl, HM.out, HC.out⟩

/-! ### how much more files have -/
def mv (fb : Nat → Nat) (ml : List (Nat × Nat)) : List (Value × Value) := ml.map fun p => (.pointer (some ⟨fb p.1, 0, none⟩), .int .i64 (p.2 : Int))
def mlook (ml : List (Nat × Nat)) (i : Nat) : Nat := ((ml.find? (fun p => p.1 == i)).map (·.2)).getD 0
def mput (ml : List (Nat × Nat)) (i v : Nat) : List (Nat × Nat) := (i, v) :: ml.filter fun p => p.1 != i
theorem mlook_put (ml : List (Nat × Nat)) (i v j : Nat) : mlook (mput ml i v) j = if j = i then v else mlook ml j := by
  unfold mlook mput
  by_cases h : j = i
  · subst h
    simp
  · rw [List.find?_cons_of_neg (by simpa using fun e => h e.symm), if_neg h]
    congr 2
    induction ml with
    | nil => rfl
    | cons p r ih =>
      by_cases e : p.1 = i
      · rw [List.filter_cons_of_neg (by simpa using e), ih, List.find?_cons_of_neg (by simp; intro e2; exact h (e2.symm.trans e))]
      · rw [List.filter_cons_of_pos (by simpa using e), List.find?_cons, List.find?_cons, ih]
theorem mlook_mem {ml : List (Nat × Nat)} {i : Nat} (hn : (ml.map (·.1)).Nodup) (h : i ∈ ml.map (·.1)) : ml.Perm ((i, mlook ml i) :: ml.filter fun p => p.1 != i) := by
  induction ml with
  | nil => simp at h
  | cons p r ih =>
    rw [List.map_cons, List.nodup_cons] at hn
    by_cases e : p.1 = i
    · subst e
      have h1 : mlook (p :: r) p.1 = p.2 := by simp [mlook]
      have h2 : (r.filter fun q => q.1 != p.1) = r := List.filter_eq_self.2 fun q hq => by
        simp
        intro e
        exact hn.1 (List.mem_map.2 ⟨q, hq, e⟩)
      rw [h1, List.filter_cons_of_neg (by simp), h2]
    · have hm : i ∈ r.map (·.1) := by
        rcases List.mem_cons.1 h with h | h
        · exact absurd h.symm e
        · exact h
      have h1 : mlook (p :: r) i = mlook r i := by
        unfold mlook
        rw [List.find?_cons_of_neg (by simpa using e)]
      rw [h1, List.filter_cons_of_pos (by simpa using e)]
      exact ((ih hn.2 hm).cons p).trans (List.Perm.swap _ _ _)
theorem mlook_none {ml : List (Nat × Nat)} {i : Nat} (h : i ∉ ml.map (·.1)) : mlook ml i = 0 ∧ (ml.filter fun p => p.1 != i) = ml := by
  constructor
  · unfold mlook
    rw [List.find?_eq_none.2 fun p hp => by simp; intro e; exact h (List.mem_map.2 ⟨p, hp, e⟩)]
    rfl
  · exact List.filter_eq_self.2 fun p hp => by simp; intro e; exact h (List.mem_map.2 ⟨p, hp, e⟩)

theorem zero3 (w : World) : (zeroValue 3).run Try.prog w = .ok (.int .i64 0) w := by kernel_rfl
theorem size95 (w : World) : (sizeOf 95).run Try.prog w = .ok 3 w := by kernel_rfl
theorem kptr (w : World) : KeyKind Try.prog 81 w (KPtr w) := kind_ptr (n := 2) Try.underlying81 (size95 w)
/-- These files lie in blocks of cells, each in one of its own. -/
def Lies (w : World) (fb : Nat → Nat) (is : List Nat) : Prop := (∀ i ∈ is, ∃ c, w.heap[fb i]? = some (.cells c 95 (0, 0))) ∧ ∀ i ∈ is, ∀ j ∈ is, fb i = fb j → i = j
theorem Lies.keep {F : Nat → Prop} {w w' : World} {fb : Nat → Nat} {is : List Nat} (h : Lies w fb is) (hc : Chg F w w') (hF : ∀ i ∈ is, ¬ F (fb i)) : Lies w' fb is :=
  ⟨fun i hi => by obtain ⟨c, h1⟩ := h.1 i hi; exact ⟨c, hc.keep h1 (hF i hi)⟩, h.2⟩
theorem mv_keys {w : World} {fb : Nat → Nat} {is : List Nat} {ml : List (Nat × Nat)} (h : Lies w fb is) (hm : ∀ p ∈ ml, p.1 ∈ is) : ∀ p ∈ mv fb ml, KPtr w p.1 := by
  intro p hp
  obtain ⟨q, hq, rfl⟩ := List.mem_map.1 hp
  obtain ⟨c, h1⟩ := h.1 _ (hm q hq)
  exact ⟨_, c, _, rfl, h1⟩
theorem mv_nodup {w : World} {b : Nat} {fb : Nat → Nat} {ml : List (Nat × Nat)} (h : MapW w b (mv fb ml)) : (ml.map (·.1)).Nodup := by
  have h1 := h.keys
  unfold mv at h1
  rw [List.map_map, List.Nodup, List.pairwise_map] at h1
  rw [List.Nodup, List.pairwise_map]
  exact h1.imp fun {a b} hne e => hne (by simp [e])
theorem more_look {w : World} {b : Nat} {fb : Nat → Nat} {is : List Nat} {ml : List (Nat × Nat)} (h : MapW w b (mv fb ml)) (hl : Lies w fb is) (hm : ∀ p ∈ ml, p.1 ∈ is) {f : Nat} (hf : f ∈ is) :
    (Instr.lookup 98 (.map (some b)) (.pointer (some ⟨fb f, 0, none⟩)) false).run Try.prog w = .ok (.int .i64 (mlook ml f : Int)) w := by
  obtain ⟨c, hc⟩ := hl.1 f hf
  by_cases h1 : f ∈ ml.map (·.1)
  · have hp := (mlook_mem (mv_nodup h) h1).map fun p : Nat × Nat => ((.pointer (some ⟨fb p.1, 0, none⟩), .int .i64 (p.2 : Int)) : Value × Value)
    exact (h.perm hp).look (kptr w) (mv_keys hl fun p hp => hm p (List.mem_filter.1 hp).1) Try.underlying98 ⟨_, c, _, rfl, hc⟩ false
  · rw [(mlook_none h1).1]
    refine h.look_none (kptr w) (mv_keys hl hm) Try.underlying98 ⟨_, c, _, rfl, hc⟩ (fun p hp e => ?_) (zero3 w) false
    obtain ⟨q, hq, rfl⟩ := List.mem_map.1 hp
    injection e with e
    injection e with e
    injection e with e
    exact h1 (List.mem_map.2 ⟨q, hq, hl.2 _ (hm q hq) _ hf e⟩)
theorem more_put {w : World} {b : Nat} {fb : Nat → Nat} {is : List Nat} {ml : List (Nat × Nat)} (h : MapW w b (mv fb ml)) (hl : Lies w fb is) (hm : ∀ p ∈ ml, p.1 ∈ is) {f : Nat} (hf : f ∈ is) (v : Nat) :
    ∃ w', (Instr.mapUpdate 98 (.map (some b)) (.pointer (some ⟨fb f, 0, none⟩)) (.int .i64 (v : Int))).run Try.prog w = .ok () w' ∧ MapW w' b (mv fb (mput ml f v)) ∧ Chg (· = b) w w' := by
  obtain ⟨c, hc⟩ := hl.1 f hf
  by_cases h1 : f ∈ ml.map (·.1)
  · have hp := (mlook_mem (mv_nodup h) h1).map fun p : Nat × Nat => ((.pointer (some ⟨fb p.1, 0, none⟩), .int .i64 (p.2 : Int)) : Value × Value)
    obtain ⟨w', r1, r2, r3, _⟩ := (h.perm hp).put_old (kptr w) (mv_keys hl fun p hp => hm p (List.mem_filter.1 hp).1) Try.underlying98 ⟨_, c, _, rfl, hc⟩ (.int .i64 (v : Int))
    exact ⟨w', r1, r2, r3⟩
  · obtain ⟨w', r1, r2, r3, _⟩ := h.put_new (kptr w) (mv_keys hl hm) Try.underlying98 (x := .pointer (some ⟨fb f, 0, none⟩)) ⟨_, c, _, rfl, hc⟩ (fun p hp e => by
      obtain ⟨q, hq, rfl⟩ := List.mem_map.1 hp
      injection e with e
      injection e with e
      injection e with e
      exact h1 (List.mem_map.2 ⟨q, hq, hl.2 _ (hm q hq) _ hf e⟩)) (.int .i64 (v : Int))
    refine ⟨w', r1, ?_, r3⟩
    unfold mput
    rw [(mlook_none h1).2]
    exact r2

set_option maxRecDepth 20000 in
theorem more1_any (w : World) (b cf cn : Nat) (nv : Value) (fb : Nat → Nat) (is : List Nat) (ml : List (Nat × Nat)) (f k : Nat) (most : Int) (h : MapW w b (mv fb ml)) (hl : Lies w fb is) (hm : ∀ p ∈ ml, p.1 ∈ is) (hf : f ∈ is)
    (h0 : 0 ≤ most) (hsum : mlook ml f + k < 4611686018427387904) (hk : k < 4611686018427387904)
    (h1 : w.heap[cf]? = some (.cells #[.pointer (some ⟨fb f, 0, none⟩)] 81)) (h2 : w.heap[cn]? = some (.cells #[.int .i64 (k : Int)] 3)) :
    Calls Try.prog 70 #[.agg #[nv, .map (some b)], .int .i64 most, .pointer (some ⟨cf, 0, none⟩), .pointer (some ⟨cn, 0, none⟩)] w fun e w' =>
      e = .returned (.tuple #[]) ∧ MapW w' b (mv fb (mput ml f (mlook ml f + min k most.toNat))) ∧ Chg (· = b) w w' := by
  have ha := h.keep ((Chg.refl (fun _ => False) w).alloc (.cells #[nv, .map (some b)] 100)) (fun h => h)
  have hla := hl.keep ((Chg.refl (fun _ => False) w).alloc (.cells #[nv, .map (some b)] 100)) (fun _ _ h => h)
  have g1 := heap_past (.cells #[nv, .map (some b)] 100) h1
  have g2 := heap_past (.cells #[nv, .map (some b)] 100) h2
  have hlk := more_look ha hla hm hf
  obtain ⟨w', r1, r2, r3⟩ := more_put ha hla hm hf (mlook ml f + min k most.toNat)
  have c1 := cell_of g1 0
  have c2 := cell_of g2 0
  have HM := hide r2
  have HC := hide (((Chg.refl (· = b) w).alloc (.cells #[nv, .map (some b)] 100)).then r3)
  clear h h1 h2 ha hla g1 g2 r2 r3
  obtain ⟨v, hgv⟩ : ∃ v, v = mlook ml f + min k most.toNat := ⟨_, rfl⟩
  have HG := hide hgv
  rw [← hgv] at r1
  by_cases hmk : most < (k : Int)
  · have hv : (v : Int) = (mlook ml f : Int) + most := by omega
    rw [hv] at r1
    clear hv hgv
    go_enter Try.func70, Try.ntmps70
    go_wp2
    go_end0
    exact ⟨rfl, HM.out, HC.out⟩
  · have hv : (v : Int) = (mlook ml f : Int) + (k : Int) := by omega
    rw [hv] at r1
    clear hv
    have hm2 := HM.out
    rw [← hgv] at hm2
    have HM2 := hide hm2
    clear hm2
    rw [← hgv]
    clear hgv HM
    go_enter Try.func70, Try.ntmps70
    go_wp2
    go_end0
    exact ⟨rfl, HM2.out, HC.out⟩

/-! ### the closures that are kept -/
/-- What is done to names. -/
def DoW (w : World) (F : Nat → Prop) (fb : Nat → Nat) : Ac → Value → Prop
  | .made n f, v => ∃ cf cn, v = .func (.func 69) #[] #[.pointer (some ⟨cf, 0, none⟩), .pointer (some ⟨cn, 0, none⟩)] ∧ F cf ∧ F cn ∧
      w.heap[cf]? = some (.cells #[.pointer (some ⟨fb f, 0, none⟩)] 81) ∧ w.heap[cn]? = some (.cells #[.string (strB n)] 9)
  | .ren a b, v => ∃ ca cb, v = .func (.func 54) #[] #[.pointer (some ⟨ca, 0, none⟩), .pointer (some ⟨cb, 0, none⟩)] ∧ F ca ∧ F cb ∧
      w.heap[ca]? = some (.cells #[.string (strB a)] 9) ∧ w.heap[cb]? = some (.cells #[.string (strB b)] 9)
  | .rem n, v => ∃ cn, v = .func (.func 44) #[] #[.pointer (some ⟨cn, 0, none⟩)] ∧ F cn ∧ w.heap[cn]? = some (.cells #[.string (strB n)] 9)
  | .more _ _, _ => False
/-- An act as it lies among the loose ones. -/
def ActW (w : World) (F : Nat → Prop) (fb : Nat → Nat) : Ac → Value × Value → Prop
  | .more f k, p => p.1 = .pointer (some ⟨fb f, 0, none⟩) ∧ ∃ cf cn, p.2 = .func (.func 70) #[] #[.pointer (some ⟨cf, 0, none⟩), .pointer (some ⟨cn, 0, none⟩)] ∧ F cf ∧ F cn ∧
      w.heap[cf]? = some (.cells #[.pointer (some ⟨fb f, 0, none⟩)] 81) ∧ w.heap[cn]? = some (.cells #[.int .i64 (k : Int)] 3)
  | a, p => p.1 = .pointer none ∧ ∃ c v, p.2 = .func (.func 68) #[] #[.pointer (some ⟨c, 0, none⟩)] ∧ F c ∧ w.heap[c]? = some (.cells #[v] 87) ∧ DoW w F fb a v

theorem DoW.keep {F G F' : Nat → Prop} {w w' : World} {fb fb' : Nat → Nat} {a : Ac} {v : Value} (h : DoW w F fb a v) (hc : Chg G w w')
    (hG : ∀ c x t, w.heap[c]? = some (.cells x t (0, 0)) → t = 81 ∨ t = 9 → F c → ¬ G c) (hF : ∀ c, F c → F' c) (hfb : ∀ i ∈ madeIds [a], fb' i = fb i) : DoW w' F' fb' a v := by
  cases a with
  | made n f =>
    obtain ⟨cf, cn, h1, h2, h3, h4, h5⟩ := h
    refine ⟨cf, cn, h1, hF _ h2, hF _ h3, ?_, hc.keep h5 (hG _ _ _ h5 (Or.inr rfl) h3)⟩
    rw [hfb f (by simp [madeIds])]
    exact hc.keep h4 (hG _ _ _ h4 (Or.inl rfl) h2)
  | ren a b =>
    obtain ⟨ca, cb, h1, h2, h3, h4, h5⟩ := h
    exact ⟨ca, cb, h1, hF _ h2, hF _ h3, hc.keep h4 (hG _ _ _ h4 (Or.inr rfl) h2), hc.keep h5 (hG _ _ _ h5 (Or.inr rfl) h3)⟩
  | rem n =>
    obtain ⟨cn, h1, h2, h3⟩ := h
    exact ⟨cn, h1, hF _ h2, hc.keep h3 (hG _ _ _ h3 (Or.inr rfl) h2)⟩
  | more f k => exact h.elim
/-- An act stays while nothing of it is written. -/
theorem ActW.keep {F G F' : Nat → Prop} {w w' : World} {fb fb' : Nat → Nat} {a : Ac} {p : Value × Value} (h : ActW w F fb a p) (hc : Chg G w w')
    (hG : ∀ c x t, w.heap[c]? = some (.cells x t (0, 0)) → (t = 81 ∨ t = 9) ∨ t = 3 ∨ t = 87 → F c → ¬ G c) (hF : ∀ c, F c → F' c) (hfb : ∀ i ∈ madeIds [a] ++ moreIds [a], fb' i = fb i) : ActW w' F' fb' a p := by
  have hG1 : ∀ c x t, w.heap[c]? = some (.cells x t (0, 0)) → t = 81 ∨ t = 9 → F c → ¬ G c := fun c x t h1 h2 h3 => hG c x t h1 (Or.inl h2) h3
  have dir : ∀ a, isMore a = false → madeIds [a] ++ moreIds [a] = madeIds [a] := by
    intro a ha
    cases a <;> first | rfl | simp [isMore] at ha
  have hd : isMore a = false → (p.1 = .pointer none ∧ ∃ c v, p.2 = .func (.func 68) #[] #[.pointer (some ⟨c, 0, none⟩)] ∧ F c ∧ w.heap[c]? = some (.cells #[v] 87) ∧ DoW w F fb a v) →
      (p.1 = .pointer none ∧ ∃ c v, p.2 = .func (.func 68) #[] #[.pointer (some ⟨c, 0, none⟩)] ∧ F' c ∧ w'.heap[c]? = some (.cells #[v] 87) ∧ DoW w' F' fb' a v) := by
    intro hm ⟨h1, c, v, h2, h3, h4, h5⟩
    exact ⟨h1, c, v, h2, hF _ h3, hc.keep h4 (hG _ _ _ h4 (Or.inr (Or.inr rfl)) h3), h5.keep hc hG1 hF (fun i hi => hfb i (by rw [dir a hm]; exact hi))⟩
  cases a with
  | more f k =>
    obtain ⟨h0, cf, cn, h1, h2, h3, h4, h5⟩ := h
    have e := hfb f (by simp [moreIds])
    refine ⟨by rw [e]; exact h0, cf, cn, h1, hF _ h2, hF _ h3, ?_, hc.keep h5 (hG _ _ _ h5 (Or.inr (Or.inl rfl)) h3)⟩
    rw [e]
    exact hc.keep h4 (hG _ _ _ h4 (Or.inl (Or.inl rfl)) h2)
  | made n f => exact hd rfl h
  | ren a b => exact hd rfl h
  | rem n => exact hd rfl h

set_option maxRecDepth 20000 in
/-- A kept act of the directory, done once more. -/
theorem dirDo_any (w : World) (b c : Nat) (mo : Value) (most : Int) (v : Value) (F : Nat → Prop) (fb : Nat → Nat) (l : Dir) (a : Ac) (hs : Sorted l) (h : MapW w b (dv fb l)) (hc : canD l a) (hd : DoW w F fb a v)
    (h1 : w.heap[c]? = some (.cells #[v] 87)) :
    Calls Try.prog 68 #[.agg #[.map (some b), mo], .int .i64 most, .pointer (some ⟨c, 0, none⟩)] w fun e w' => e = .returned (.tuple #[]) ∧ MapW w' b (dv fb (doneD l a)) ∧ Chg (· = b) w w' := by
  have ha := h.keep ((Chg.refl (fun _ => False) w).alloc (.cells #[.map (some b), mo] 100)) (fun h => h)
  have g1 := heap_past (.cells #[.map (some b), mo] 100) h1
  have c1 := cell_of g1 0
  have hC0 : Chg (· = b) w (w.alloc (.cells #[.map (some b), mo] 100)) := (Chg.refl _ _).alloc _
  cases a with
  | made n f =>
    obtain ⟨cf, cn, rfl, _, _, h4, h5⟩ := hd
    have k4 := heap_past (.cells #[.map (some b), mo] 100) h4
    have k5 := heap_past (.cells #[.map (some b), mo] 100) h5
    have hcall := made1_any _ b cf cn fb l n f ha hc k4 k5
    clear ha h h1 g1 h4 h5 k4 k5
    go_enter Try.func68, Try.ntmps68
    go_wp2_with (go_at_call 69; refine hcall.mono ?_; rintro e w' ⟨rfl, hm, hcg⟩)
    go_end0
    exact ⟨rfl, hm, hC0.then hcg⟩
  | ren x y =>
    obtain ⟨cf, cn, rfl, _, _, h4, h5⟩ := hd
    have k4 := heap_past (.cells #[.map (some b), mo] 100) h4
    have k5 := heap_past (.cells #[.map (some b), mo] 100) h5
    have hcall := ren1_any _ b cf cn fb l x y hs ha hc.1 hc.2 k4 k5
    clear ha h h1 g1 h4 h5 k4 k5
    go_enter Try.func68, Try.ntmps68
    go_wp2_with (go_at_call 54; refine hcall.mono ?_; rintro e w' ⟨rfl, hm, hcg⟩)
    go_end0
    exact ⟨rfl, hm, hC0.then hcg⟩
  | rem n =>
    obtain ⟨cn, rfl, _, h5⟩ := hd
    have k5 := heap_past (.cells #[.map (some b), mo] 100) h5
    have hcall := rem1_any _ b cn fb l n hs ha hc k5
    clear ha h h1 g1 h5 k5
    go_enter Try.func68, Try.ntmps68
    go_wp2_with (go_at_call 44; refine hcall.mono ?_; rintro e w' ⟨rfl, hm, hcg⟩)
    go_end0
    exact ⟨rfl, hm, hC0.then hcg⟩
  | more f k => exact hd.elim
end Go.Proofs.Ytlejgdjkdbamkaa
