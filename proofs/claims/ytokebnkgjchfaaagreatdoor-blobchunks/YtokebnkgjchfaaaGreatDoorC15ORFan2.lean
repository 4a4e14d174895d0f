/-
  Texts joined: ORFan2, BFind, BRow, BAsked, ORBegun, ORTake.
-/
import Derived.Test.YtokebnkgjchfaaaGreatDoorC14ORFan
import Derived.Test.YtokebnkgjchfaaaGreatDoorC8BPlain
import Derived.Maps.AppendAt
/-
  A fan, made by the reference. Conditions: its parts lie there; its level is a number of 64 bits.
-/
namespace Go.Proofs.YtokebnkgjchfaaaGreatDoor
open Go.RowKit

/-- A row of its own, made since B. -/
def Ow (B : Nat) (w : World) (v : Value) (l : Bs) : Prop := w.ownsRow B 5 1 v l.length (bc l)
theorem Ow.sl {B : Nat} {w : World} {v : Value} {l : Bs} (h : Ow B w v l) : Sl w v l := sl_of_own h
theorem Ow.keep {B : Nat} {w w' : World} {v : Value} {l : Bs} (h : Ow B w v l) (hb : Below w.heap.size w w') : Ow B w' v l :=
  World.ownsRow.kept (row := none) h ⟨hb.os, hb.tape, hb.output, hb.size, fun k hk _ => hb.block k hk⟩ (by cases hq : v.ownBlock with | none => exact .inl rfl | some k => exact .inr (by simp))
theorem fanOk_parts {f : Fan} (h : fanOk f = true) : f.2.length ≤ 32 ∧ ∀ p ∈ f.2, p.1.length = 32 ∧ In64 p.2 := by
  simp only [fanOk, levelB, isIdB, Bool.and_eq_true, decide_eq_true_eq, List.all_eq_true] at h
  obtain ⟨⟨⟨h1, h2⟩, h3⟩, h4⟩ := h
  exact ⟨by omega, fun p hp => ⟨h3 p hp, within_64 h4 (by omega) (by omega) _ (List.mem_map_of_mem hp)⟩⟩
end Go.Proofs.YtokebnkgjchfaaaGreatDoor

/-
  Objects found by their id; the gets that find them. Conditions: lists lie there.
-/
namespace Go.Proofs.YtokebnkgjchfaaaGreatDoor
open Go.RowKit

/-- What a get answers. -/
def foundV (o : Option Bs) : Value := match o with | some b => .tuple #[.string (strB b), .int .i64 0] | none => .tuple #[.string (strB []), .int .i64 3]
theorem findO_none {objs : List Pair} {id : Bs} (h : ∀ o ∈ objs, o.1 ≠ id) : findO objs id = none := by
  unfold findO
  rw [List.find?_eq_none.2 (fun o ho => by simpa using h o ho)]
  rfl
theorem findO_at {objs : List Pair} {id : Bs} {k : Nat} (hk : k < objs.length) (he : objs[k].1 = id) (h : ∀ o ∈ objs.take k, o.1 ≠ id) : findO objs id = some objs[k].2 := by
  unfold findO
  have : objs.find? (fun o => o.1 == id) = some objs[k] := by
    rw [List.find?_eq_some_iff_getElem]
    refine ⟨by simpa using he, k, hk, rfl, fun j hj => ?_⟩
    have hm : objs[j] ∈ objs.take k := by rw [List.mem_take_iff_getElem]; exact ⟨j, by omega, rfl⟩
    simpa using h _ hm
  rw [this]
  rfl
theorem foundV_form (o : Option Bs) : ∃ s k, foundV o = .tuple #[.string (strB s), .int .i64 k] := by
  cases o with
  | none => exact ⟨[], 3, rfl⟩
  | some b => exact ⟨b, 0, rfl⟩
theorem findO_mem {objs : List Pair} {id b : Bs} (h : findO objs id = some b) : ∃ o ∈ objs, o.2 = b := by
  unfold findO at h
  cases hf : objs.find? (fun o => o.1 == id) with
  | none => rw [hf] at h; cases h
  | some o =>
    rw [hf] at h
    exact ⟨o, List.mem_of_find?_eq_some hf, by simpa using h⟩
set_option maxRecDepth 20000 in
theorem find_any (w : World) (v : Value) (objs : List Pair) (id : Bs) (hv : Ls w.heap.size w 2 pairC v objs) :
    Calls Tryz.prog 28 #[v, .string (strB id)] w fun e w' => e = .returned (foundV (findO objs id)) ∧ w' = w := by
  obtain ⟨ao, cap, rfl, h1, h2, h4⟩ := hv
  unfold maxLen at h2
  have hx := toL id
  go_enter Tryz.func28, Tryz.ntmps28
  go_wp2_with fail
  go_loopw [6] (fun t wr => ∃ k : Nat, k ≤ objs.length ∧ t = .int .i64 k ∧ (∀ o ∈ objs.take k, o.1 ≠ id) ∧ wr = w)
    (fun t _ => objs.length - (intOf t).toNat)
  case atStart => exact ⟨0, by omega, rfl, by simp, rfl⟩
  case round =>
    obtain ⟨k, hk, rfl, hno, rfl⟩ := hrel
    by_cases hlt : k < objs.length
    · obtain ⟨b, off, rfl, hbB, hc⟩ := h4 (by rintro rfl; simp at hlt)
      have c0 := hc k hlt 0 _ rfl
      have c1 := hc k hlt 1 _ rfl
      simp only [Nat.add_zero] at c0
      have hy := toL objs[k].1
      by_cases he : objs[k].1 = id
      · have hbe : (objs[k].1 == id) = true := by simpa using he
        have hfo := findO_at hlt he hno
        have HF := hide hfo
        clear hfo hno
        generalize objs[k] = y at *
        go_wp2
        go_ret2
        exact ⟨by rw [HF.out]; rfl, rfl⟩
      · have hbe : (objs[k].1 == id) = false := by simpa using he
        have hno2 : ∀ o ∈ objs.take (k + 1), o.1 ≠ id := by
          rw [List.take_succ_eq_append_getElem hlt]
          intro o ho
          rcases List.mem_append.1 ho with ho | ho
          · exact hno o ho
          · simp only [List.mem_singleton] at ho; subst ho; exact he
        generalize objs[k] = y at *
        go_wp2
        go_roundw
        case rel => exact ⟨k + 1, by omega, by go_num, hno2, trivial⟩
        case measure => simp [intOf]; omega
    · obtain rfl : k = objs.length := by omega
      rw [List.take_length] at hno
      have HF := hide (findO_none hno)
      clear hno
      go_wp2
      go_ret2
      exact ⟨by rw [HF.out]; rfl, rfl⟩
set_option maxRecDepth 20000 in
theorem from1_any (w : World) (c : Nat) (v : Value) (objs : List Pair) (id : Bs) (hc : w.heap[c]? = some (.cells #[v] 26)) (hv : Ls w.heap.size w 2 pairC v objs) :
    Calls Tryz.prog 27 #[.string (strB id), .pointer (some ⟨c, 0, none⟩)] w fun e w' => e = .returned (foundV (findO objs id)) ∧ w' = w := by
  have hf := find_any w v objs id hv
  have c0 := cell_of_row w c 0 _ _ _ hc
  simp only [List.getElem?_toArray, List.getElem?_cons_zero] at c0
  obtain ⟨ao, cap, rfl, -⟩ := hv
  obtain ⟨s, k, hfv⟩ := foundV_form (findO objs id)
  rw [hfv] at hf ⊢
  go_enter Tryz.func27, Tryz.ntmps27
  go_wp2_with fail
  refine hf.mono ?_
  rintro e w1 ⟨rfl, rfl⟩
  go_wp2
  go_ret2
  exact ⟨rfl, rfl⟩
end Go.Proofs.YtokebnkgjchfaaaGreatDoor

/-
  Rows of a call's own, and what of memory moves: blocks of some types, and one row. No condition.
-/
namespace Go.Proofs.YtokebnkgjchfaaaGreatDoor
open Go.RowKit

/-- The row v, made since B, has these, each of k cells of the type e. -/
def Rw {α : Type} (B : Nat) (w : World) (e : TypeId) (k : Nat) (cs : α → List Value) (v : Value) (xs : List α) : Prop := w.ownsRow B e k v xs.length (xs.flatMap cs)
theorem own_same {w w' : World} {B k n : Nat} {e : TypeId} {v : Value} {xs : List Value} (h : w.ownsRow B e k v n xs) (hs : ∀ g, v.ownBlock = some g → w'.heap[g]? = w.heap[g]?) : w'.ownsRow B e k v n xs := by
  refine ⟨h.1, ?_⟩
  rcases h.2 with h | ⟨g, cap, cur, h1, h2, h3, h4⟩
  · exact .inl h
  · exact .inr ⟨g, cap, cur, h1, h2, by rw [hs g (by rw [h1]; rfl)]; exact h3, h4⟩
theorem row_form {w : World} {B k n : Nat} {e : TypeId} {v : Value} {xs : List Value} (h : w.ownsRow B e k v n xs) : ∃ a m c, v = .slice a m c := by
  obtain ⟨a, c, h1, -⟩ := own_form h
  exact ⟨a, _, c, h1⟩
/-- The row is where it was, or new. -/
def Nx (w : World) (a b : Option Nat) : Prop := b = a ∨ ∃ q, b = some q ∧ w.heap.size ≤ q
theorem Nx.refl (w : World) (a : Option Nat) : Nx w a a := .inl rfl
theorem Nx.trans {w w1 : World} {a b c : Option Nat} (h : Nx w a b) (k : Nx w1 b c) (hs : w.heap.size ≤ w1.heap.size) : Nx w a c := by
  rcases k with rfl | ⟨q, rfl, hq⟩
  · exact h
  · exact .inr ⟨q, rfl, Nat.le_trans hs hq⟩
/-- Nothing below B moves; above it blocks of these types alone, and the row r. -/
structure Mv (B : Nat) (ts : List TypeId) (r : Option Nat) (w w' : World) : Prop where
  b : Below B w w'
  k : ∀ (k : Nat) (cs : Array Value) (t : TypeId) (fr : Nat × Nat), w.heap[k]? = some (Obj.cells cs t fr) → t ∉ ts → some k ≠ r → w'.heap[k]? = some (Obj.cells cs t fr)
theorem Mv.refl (B : Nat) (ts : List TypeId) (r : Option Nat) (w : World) : Mv B ts r w w := ⟨Below.refl _ _, fun _ _ _ _ h _ _ => h⟩
theorem Mv.size {B : Nat} {ts : List TypeId} {r : Option Nat} {w w' : World} (h : Mv B ts r w w') : w.heap.size ≤ w'.heap.size := h.b.size
theorem Mv.trans {B : Nat} {ts : List TypeId} {r r1 : Option Nat} {a b c : World} (h : Mv B ts r a b) (k : Mv B ts r1 b c) (hn : Nx a r r1) : Mv B ts r a c :=
  ⟨h.b.trans k.b, fun i cs t fr hi ht hr => k.k i cs t fr (h.k i cs t fr hi ht hr) ht (by
    rcases hn with rfl | ⟨q, rfl, hq⟩
    · exact hr
    · intro e
      injection e with e
      have := lt_of_heap hi
      omega)⟩
theorem Mv.of {B : Nat} {ts : List TypeId} {r : Option Nat} {w w' : World} (h : Below w.heap.size w w') (hB : B ≤ w.heap.size) : Mv B ts r w w' := ⟨h.mono hB, fun k _ _ _ hk _ _ => (h.block k (lt_of_heap hk)).trans hk⟩
theorem Mv.more {B : Nat} {ts : List TypeId} {r : Option Nat} {a b c : World} (h : Mv B ts r a b) (k : Below b.heap.size b c) (hB : B ≤ b.heap.size) : Mv B ts r a c :=
  ⟨h.b.trans (k.mono hB), fun i cs t fr hi ht hr => by have := h.k i cs t fr hi ht hr; exact (k.block i (lt_of_heap this)).trans this⟩
theorem Mv.alloc {B : Nat} {ts : List TypeId} {r : Option Nat} {w w' : World} (h : Mv B ts r w w') (hB : B ≤ w'.heap.size) (o : Obj) : Mv B ts r w (w'.alloc o) := h.more ((Below.refl _ _).alloc (Nat.le_refl _) _) hB
theorem Mv.drew {B : Nat} {ts : List TypeId} {r : Option Nat} {w w' : World} (h : Mv B ts r w w') : Mv B ts r w w'.drew := ⟨h.b.drew, h.k⟩
theorem Mv.none {B : Nat} {ts : List TypeId} {r : Option Nat} {w w' : World} (h : Mv B ts Option.none w w') : Mv B ts r w w' := ⟨h.b, fun k cs t fr hk ht _ => h.k k cs t fr hk ht (by simp)⟩
theorem Mv.types {B : Nat} {ts ts' : List TypeId} {r : Option Nat} {w w' : World} (h : Mv B ts r w w') (hs : ∀ t ∈ ts, t ∈ ts') : Mv B ts' r w w' := ⟨h.b, fun k cs t fr hk ht hr => h.k k cs t fr hk (fun hm => ht (hs t hm)) hr⟩
theorem Mv.set {B : Nat} {ts : List TypeId} {r : Option Nat} {w w' : World} (h : Mv B ts r w w') {g j : Nat} {cs : Array Value} {t : TypeId} {fr : Nat × Nat} (hh : w'.heap[g]? = some (.cells cs t fr)) (ht : t ∈ ts) (hg : B ≤ g) (u : Value) : Mv B ts r w (w'.setCell ⟨g, j, Option.none⟩ u) :=
  ⟨h.b.setCell (p := ⟨g, j, Option.none⟩) hg _, fun k cs' t' fr' hk ht' hr => by
    exact (Kt.set (ts := ts) hh ht u).2 k cs' t' fr' (h.k k cs' t' fr' hk ht' hr) ht'⟩
/-- A row of one of the types has grown. -/
theorem Mv.grown {B : Nat} {ts : List TypeId} {r : Option Nat} {w w1 w2 : World} (h : Mv B ts r w w1) {v : Value} {n k : Nat} {xs : List Value} {e : TypeId} (hown : w1.ownsRow B e k v n xs) (hgr : w1.grownBy w2 v.ownBlock) (he : e ∈ ts) (hB : B ≤ w1.heap.size) : Mv B ts r w w2 := by
  refine ⟨h.b.trans ((Below.refl _ _).grown hgr hB (fun q hq => (hown.lt q hq).1)), fun i cs t fr hi ht hr => ?_⟩
  have hi1 := h.k i cs t fr hi ht hr
  refine (hgr.block i (lt_of_heap hi1) fun hq => ?_).trans hi1
  obtain ⟨c, fz, h1⟩ := Lib.ownsRow_kind hown i hq.symm
  rw [hi1] at h1
  injection h1 with h1
  injection h1 with _ h1
  exact ht (h1 ▸ he)
/-- The row itself has grown. -/
theorem Mv.grownRow {B : Nat} {ts : List TypeId} {r : Option Nat} {w w1 w2 : World} (h : Mv B ts r w w1) {v : Value} {n k : Nat} {xs : List Value} {e : TypeId} (hown : w1.ownsRow B e k v n xs) (hgr : w1.grownBy w2 v.ownBlock) (hn : Nx w r v.ownBlock) (hB : B ≤ w1.heap.size) : Mv B ts r w w2 := by
  refine ⟨h.b.trans ((Below.refl _ _).grown hgr hB (fun q hq => (hown.lt q hq).1)), fun i cs t fr hi ht hr => ?_⟩
  have hi1 := h.k i cs t fr hi ht hr
  refine (hgr.block i (lt_of_heap hi1) fun hq => ?_).trans hi1
  rcases hn with hn | ⟨q, hn, hl⟩
  · exact hr (hq.trans hn)
  · rw [hn] at hq
    injection hq with hq
    have := lt_of_heap hi
    omega
/-- A row of a type that does not move stays. -/
theorem Mv.own {B B' : Nat} {ts : List TypeId} {r : Option Nat} {w w' : World} (h : Mv B ts r w w') {v : Value} {n k : Nat} {xs : List Value} {e : TypeId} (hown : w.ownsRow B' e k v n xs) (he : e ∉ ts) (hr : v.ownBlock = Option.none ∨ v.ownBlock ≠ r) : w'.ownsRow B' e k v n xs := by
  refine own_same hown (fun g hg => ?_)
  rcases hr with hr | hr
  · rw [hr] at hg; cases hg
  · obtain ⟨c, fz, h1⟩ := Lib.ownsRow_kind hown g hg
    rw [h.k g c e fz h1 he (by rw [← hg]; exact hr), h1]
theorem grow_other {w w1 : World} {B B' k k' n n' : Nat} {e e' : TypeId} {v u : Value} {xs ys : List Value} (h : w.ownsRow B e k v n xs) (_hu : w.ownsRow B' e' k' u n' ys) (hgr : w.grownBy w1 u.ownBlock) (hne : v.ownBlock = none ∨ v.ownBlock ≠ u.ownBlock) : w1.ownsRow B e k v n xs := by
  refine own_same h (fun g hg => hgr.block g (h.lt g hg).2 ?_)
  rcases hne with hne | hne
  · rw [hne] at hg; cases hg
  · rw [← hg]; exact hne
theorem own_ne {w : World} {B B' k k' n n' : Nat} {e e' : TypeId} {v u : Value} {xs ys : List Value} (h : w.ownsRow B e k v n xs) (hu : w.ownsRow B' e' k' u n' ys) (he : e ≠ e') : v.ownBlock = none ∨ v.ownBlock ≠ u.ownBlock := by
  cases hv : v.ownBlock with
  | none => exact .inl rfl
  | some g =>
    refine .inr fun hq => ?_
    obtain ⟨c, fz, h1⟩ := Lib.ownsRow_kind h g hv
    obtain ⟨c', fz', h2⟩ := Lib.ownsRow_kind hu g hq.symm
    rw [h1] at h2
    injection h2 with h2
    injection h2 with _ h2
    exact he h2
theorem grow_keep {w w1 : World} {B k n : Nat} {e : TypeId} {u : Value} {ys : List Value} (hu : w.ownsRow B e k u n ys) (hgr : w.grownBy w1 u.ownBlock) {g : Nat} {cs : Array Value} {t : TypeId} {fr : Nat × Nat} (hh : w.heap[g]? = some (.cells cs t fr)) (ht : t ≠ e) : w1.heap[g]? = some (.cells cs t fr) := by
  refine (hgr.block g (lt_of_heap hh) fun hq => ?_).trans hh
  obtain ⟨c, fz, h1⟩ := Lib.ownsRow_kind hu g hq.symm
  rw [hh] at h1
  injection h1 with h1
  injection h1 with _ h1
  exact ht h1
theorem own_setCell {w : World} {B k n g j : Nat} {e t : TypeId} {v : Value} {xs : List Value} {cs : Array Value} {fr : Nat × Nat} (h : w.ownsRow B e k v n xs) (hh : w.heap[g]? = some (.cells cs t fr)) (hte : t ≠ e) (u : Value) : (w.setCell ⟨g, j, none⟩ u).ownsRow B e k v n xs := by
  refine own_same h (fun q hq => ?_)
  have hne : q ≠ g := by
    rintro rfl
    obtain ⟨c, fz, h1⟩ := Lib.ownsRow_kind h q hq
    rw [hh] at h1
    injection h1 with h1
    injection h1 with _ h1
    exact hte h1
  unfold World.setCell
  simp [Array.getElem?_modify, Ne.symm hne]
theorem heap_setOther {w : World} {g j q : Nat} {u : Value} (hne : q ≠ g) : (w.setCell ⟨g, j, none⟩ u).heap[q]? = w.heap[q]? := by
  unfold World.setCell
  simp [Array.getElem?_modify, Ne.symm hne]
theorem ne_type {w : World} {a b : Nat} {cs cs' : Array Value} {t t' : TypeId} {fr fr' : Nat × Nat} (h : w.heap[a]? = some (.cells cs t fr)) (h' : w.heap[b]? = some (.cells cs' t' fr')) (hne : t ≠ t') : a ≠ b := by
  rintro rfl
  rw [h] at h'
  injection h' with h'
  injection h' with _ h'
  exact hne h'

/-- A text laid behind a row of texts. -/
theorem app_id (w : World) (B : Nat) (v : Value) (xs : List Bs) (id : Bs) (h : Rw B w 9 1 idC v xs) (hB : B ≤ w.heap.size) (hn : xs.length ≤ 4294967296) :
    ∃ v' w', (Builtin.append_ #[37, 37] 37 #[v, .slice (some ⟨w.heap.size, 0, none⟩) 1 1]).run Tryz.prog (w.alloc (.cells #[.string (strB id)] 9)) = .ok v' w' ∧
      Rw B w' 9 1 idC v' (xs ++ [id]) ∧ (w.alloc (.cells #[.string (strB id)] 9)).grownBy w' v.ownBlock ∧ (v'.ownBlock = v.ownBlock ∨ v'.ownBlock = some (w.heap.size + 1)) := by
  obtain ⟨i0, hi, hz0, hz1, hz2⟩ := info_parts Tryz.zStr
  have hx := heap_last w (.cells #[.string (strB id)] 9) _ rfl
  obtain ⟨v', w', h1, h2, h3, -, h4⟩ := run_append_own_at (P := Tryz.prog) (w.alloc (.cells #[.string (strB id)] 9)) B 37 37 9 i0 (.string ⟨#[]⟩) 1 16 Tryz.underlying37 hi hz0 hz1 hz2 rfl (by decide) v xs.length (xs.flatMap idC) (h.alloc _) ⟨w.heap.size, 0, none⟩ 1 1 (idC id) rfl (fun j u hu => by
      rw [Addr.add_lit, Nat.zero_add, cell_of_row _ _ _ _ _ _ hx, List.getElem?_toArray]; exact hu) (by simp [idC, Value.oneCell']) (by unfold maxLen; omega) (by omega) (by simp; omega)
  refine ⟨v', w', h1, ?_, h3, by simpa using h4⟩
  unfold Rw
  rw [List.length_append, List.flatMap_append]
  simpa using h2
/-- A part laid behind a row of parts. -/
theorem app_part (w : World) (B : Nat) (v : Value) (xs : List Part) (p : Part) (h : Rw B w 25 2 partC v xs) (hB : B ≤ w.heap.size) (hn : xs.length ≤ 4294967296) :
    ∃ v' w', (Builtin.append_ #[38, 38] 38 #[v, .slice (some ⟨w.heap.size, 0, none⟩) 1 1]).run Tryz.prog (w.alloc (.cells #[.string (strB p.1), .int .i64 p.2] 25)) = .ok v' w' ∧
      Rw B w' 25 2 partC v' (xs ++ [p]) ∧ (w.alloc (.cells #[.string (strB p.1), .int .i64 p.2] 25)).grownBy w' v.ownBlock ∧ (v'.ownBlock = v.ownBlock ∨ v'.ownBlock = some (w.heap.size + 1)) := by
  obtain ⟨i0, hi, hz0, hz1, hz2⟩ := info_parts Tryz.zPart
  have hx := heap_last w (.cells #[.string (strB p.1), .int .i64 p.2] 25) _ rfl
  obtain ⟨v', w', h1, h2, h3, -, h4⟩ := run_append_own_at (P := Tryz.prog) (w.alloc (.cells #[.string (strB p.1), .int .i64 p.2] 25)) B 38 38 25 i0 (.agg #[.string ⟨#[]⟩, .int .i64 0]) 2 24 Tryz.underlying38 hi hz0 hz1 hz2 rfl (by decide) v xs.length (xs.flatMap partC) (h.alloc _) ⟨w.heap.size, 0, none⟩ 1 1 (partC p) rfl (fun j u hu => by
      rw [Addr.add_lit, Nat.zero_add, cell_of_row _ _ _ _ _ _ hx, List.getElem?_toArray]; exact hu) (by simp [partC, Value.oneCell']) (by unfold maxLen; omega) (by omega) (by simp; omega)
  refine ⟨v', w', h1, ?_, h3, by simpa using h4⟩
  unfold Rw
  rw [List.length_append, List.flatMap_append]
  simpa using h2
end Go.Proofs.YtokebnkgjchfaaaGreatDoor

/-
  The get that notes what is asked. Conditions: what it holds lies there; not too much was asked.
-/
namespace Go.Proofs.YtokebnkgjchfaaaGreatDoor
open Go.RowKit

/-- What the noting get holds: the objects, below B, and what was asked so far, since B. -/
structure AskW (B : Nat) (w : World) (ci cl ga : Nat) (objs : List Pair) (asked : List Bs) : Prop where
  ids : w.heap[ci]? = some (.cells #[.pointer (some ⟨ga, 0, none⟩)] 42)
  list : ∃ vl, w.heap[cl]? = some (.cells #[vl] 26) ∧ Ls B w 2 pairC vl objs
  row : ∃ va, w.heap[ga]? = some (.cells #[va] 37) ∧ Rw B w 9 1 idC va asked
  base : B ≤ ga
/-- What it moves. -/
abbrev ats : List TypeId := [9, 37]
theorem AskW.le {B : Nat} {w : World} {ci cl ga : Nat} {objs : List Pair} {asked : List Bs} (h : AskW B w ci cl ga objs asked) : B ≤ w.heap.size := by
  obtain ⟨va, hv, -⟩ := h.row
  have := lt_of_heap hv
  have := h.base
  omega
/-- It stays where nothing of it moves. -/
theorem AskW.keep {B B' : Nat} {w w' : World} {ci cl ga : Nat} {objs : List Pair} {asked : List Bs} {ts : List TypeId} {r : Option Nat} (h : AskW B w ci cl ga objs asked) (hm : Mv B' ts r w w') (hB : B ≤ B') (h1 : 42 ∉ ts) (h2 : 26 ∉ ts) (h3 : 37 ∉ ts) (h4 : 9 ∉ ts)
    (hr : ∀ q, r = some q → ∃ c t fr, w.heap[q]? = some (.cells c t fr) ∧ t ≠ 42 ∧ t ≠ 26 ∧ t ≠ 37 ∧ t ≠ 9) : AskW B w' ci cl ga objs asked := by
  obtain ⟨vl, hl, hv⟩ := h.list
  obtain ⟨va, ha, hw⟩ := h.row
  have ne : ∀ {k : Nat} {cs : Array Value} {t : TypeId} {fr : Nat × Nat}, w.heap[k]? = some (.cells cs t fr) → (t = 42 ∨ t = 26 ∨ t = 37 ∨ t = 9) → some k ≠ r := by
    intro k cs t fr hk ht hq
    obtain ⟨c, t', fr', g1, g2, g3, g4, g5⟩ := hr k hq.symm
    rw [hk] at g1
    injection g1 with g1
    injection g1 with _ g1
    subst g1
    rcases ht with h | h | h | h
    · exact g2 h
    · exact g3 h
    · exact g4 h
    · exact g5 h
  refine ⟨hm.k _ _ _ _ h.ids h1 (ne h.ids (.inl rfl)), ⟨vl, hm.k _ _ _ _ hl h2 (ne hl (.inr (.inl rfl))), hv.keep (hm.b.mono hB)⟩, ⟨va, hm.k _ _ _ _ ha h3 (ne ha (.inr (.inr (.inl rfl)))), ?_⟩, h.base⟩
  refine own_same hw (fun g hg => ?_)
  obtain ⟨c, fz, g1⟩ := Lib.ownsRow_kind hw g hg
  rw [hm.k _ _ _ _ g1 h4 (ne g1 (.inr (.inr (.inr rfl)))), g1]
theorem AskW.below {B : Nat} {w w' : World} {ci cl ga : Nat} {objs : List Pair} {asked : List Bs} (h : AskW B w ci cl ga objs asked) (hb : Below w.heap.size w w') : AskW B w' ci cl ga objs asked :=
  h.keep (ts := []) (r := none) (Mv.of hb (Nat.le_refl _)) h.le (by simp) (by simp) (by simp) (by simp) (by simp)
theorem AskW.alloc {B : Nat} {w : World} {ci cl ga : Nat} {objs : List Pair} {asked : List Bs} (h : AskW B w ci cl ga objs asked) (o : Obj) : AskW B (w.alloc o) ci cl ga objs asked := h.below ((Below.refl _ _).alloc (Nat.le_refl _) _)
theorem AskW.drew {B : Nat} {w : World} {ci cl ga : Nat} {objs : List Pair} {asked : List Bs} (h : AskW B w ci cl ga objs asked) : AskW B w.drew ci cl ga objs asked := ⟨h.ids, h.list, h.row, h.base⟩
theorem drew_alloc (w : World) (o : Obj) : w.drew.alloc o = (w.alloc o).drew := rfl
set_option maxRecDepth 20000 in
theorem asked1_any (B : Nat) (w : World) (ci cl ga : Nat) (objs : List Pair) (asked : List Bs) (id : Bs) (h : AskW B w ci cl ga objs asked) (hn : asked.length ≤ 4294967296) :
    Calls Tryz.prog 32 #[.string (strB id), .pointer (some ⟨ci, 0, none⟩), .pointer (some ⟨cl, 0, none⟩)] w fun e w' => e = .returned (foundV (findO objs id)) ∧ AskW B w' ci cl ga objs (asked ++ [id]) ∧ Mv B ats none w w' := by
  have hB := h.le
  have hgaB := h.base
  obtain ⟨vl, hl, hv⟩ := h.list
  obtain ⟨va, ha, hw⟩ := h.row
  have hi := h.ids
  obtain ⟨v', w1, hrun, hrow1, hgr, -⟩ := app_id w.drew B va asked id hw hB hn
  rw [drew_alloc] at hrun hgr
  rw [show w.drew.heap.size = w.heap.size from rfl] at hrun
  have hb0 : Below w.heap.size w (w.alloc (.cells #[.string (strB id)] 9)) := (Below.refl _ _).alloc (Nat.le_refl _) _
  have hw0 : Rw B (w.alloc (.cells #[.string (strB id)] 9)).drew 9 1 idC va asked := World.ownsRow.alloc hw _
  have hi0 := heap_past w (.cells #[.string (strB id)] 9) _ (lt_of_heap hi) |>.trans hi
  have hl0 := heap_past w (.cells #[.string (strB id)] 9) _ (lt_of_heap hl) |>.trans hl
  have ha0 := heap_past w (.cells #[.string (strB id)] 9) _ (lt_of_heap ha) |>.trans ha
  have hi1 := grow_keep hw0 hgr (show (w.alloc _).drew.heap[ci]? = _ from hi0) (by decide)
  have hl1 := grow_keep hw0 hgr (show (w.alloc _).drew.heap[cl]? = _ from hl0) (by decide)
  have ha1 := grow_keep hw0 hgr (show (w.alloc _).drew.heap[ga]? = _ from ha0) (by decide)
  have hne : ci ≠ ga := ne_type hi1 ha1 (by decide)
  have hne2 : cl ≠ ga := ne_type hl1 ha1 (by decide)
  have hm1 : Mv B ats none w w1 := ((Mv.refl B ats none w).alloc hB _).drew.grown hw0 hgr (by decide) (by simp; omega)
  have hm2 : Mv B ats none w (w1.setCell ⟨ga, 0, none⟩ v') := hm1.set ha1 (by decide) hgaB _
  have hi2 : (w1.setCell ⟨ga, 0, none⟩ v').heap[ci]? = some (.cells #[.pointer (some ⟨ga, 0, none⟩)] 42) := (heap_setOther hne).trans hi1
  have hl2 : (w1.setCell ⟨ga, 0, none⟩ v').heap[cl]? = some (.cells #[vl] 26) := (heap_setOther hne2).trans hl1
  have hv2 : Ls B (w1.setCell ⟨ga, 0, none⟩ v') 2 pairC vl objs := hv.keep hm2.b
  have hA : AskW B (w1.setCell ⟨ga, 0, none⟩ v') ci cl ga objs (asked ++ [id]) := ⟨hi2, ⟨vl, hl2, hv2⟩, ⟨v', heap_set0 ha1, own_setCell hrow1 ha1 (by decide) _⟩, hgaB⟩
  have hf := find_any (w1.setCell ⟨ga, 0, none⟩ v') vl objs id (hv2.up (Nat.le_trans hB hm2.size))
  have c0 := cell_of_row w ci 0 _ _ _ hi
  have c1 := cell_of_row w ga 0 _ _ _ ha
  have d0 := cell_of_row _ ci 0 _ _ _ hi0
  have d1 := cell_of_row _ ga 0 _ _ _ ha0
  have e0 := cell_of_row _ ci 0 _ _ _ hi1
  have g0 := cell_of_row _ ci 0 _ _ _ hi2
  have g1 := cell_of_row _ cl 0 _ _ _ hl2
  have c2 := cell_of_row w1 ga 0 _ _ _ ha1
  simp only [List.getElem?_toArray, List.getElem?_cons_zero] at c0 c1 c2 d0 d1 e0 g0 g1
  have f2 := frozen0 (j := 0) ha1
  have HA := hide (And.intro hA hm2)
  obtain ⟨ao', m', ca', rfl⟩ := row_form hrow1
  obtain ⟨al, cap, rfl, -⟩ := hv
  obtain ⟨s, k, hfv⟩ := foundV_form (findO objs id)
  rw [hfv] at hf ⊢
  clear hm1 hi hl ha hw hgr hrow1 hb0 hw0 hi0 hl0 ha0 hi1 hl1 ha1 hi2 hl2 hv2 h hfv hA hm2
  go_enter Tryz.func32, Tryz.ntmps32
  go_wp2_with fail
  refine wp_region_held_drew (S := fun W => W.cell? ⟨ci, 0, none⟩ = some (.pointer (some ⟨ga, 0, none⟩))) (by kernel_rfl) (c0) (fun hHeld => ?_)
  refine takeJ 0 (v := ?_) ?_ hHeld ?_
  rotate_left
  · intro w hS; (try dsimp only at hS); go_simp; try with_reducible rfl
  refine takeJ 1 (v := ?_) ?_ hHeld ?_
  rotate_left
  · intro w hS; (try dsimp only at hS); go_simp; try with_reducible rfl
  refine takeJ 2 (v := ?_) ?_ hHeld ?_
  rotate_left
  · intro w hS; (try dsimp only at hS); go_simp; try with_reducible rfl
  refine takeJ 4 (v := ?_) ?_ hHeld ?_
  rotate_left
  · intro w hS; (try dsimp only at hS); go_simp; try with_reducible rfl
  refine twoH (i := 3) (j := 5) rfl rfl (by kernel_rfl) rfl rfl (fun K hK => ?_) (fun K hK => ?_)
  · go_simp
    refine hK.out _ _ (c0) (fun hHeld => ?_)
    clear hK K
    try simp only [Act.put, List.setIfInBounds_toArray, List.set_cons_zero, List.set_cons_succ]
    refine onlyH (i := 5) rfl (by kernel_rfl) rfl (fun K hK => ?_)
    go_simp
    refine hK.out _ _ (d0) (fun hHeld => ?_)
    clear hK K
    try simp only [Act.put, List.setIfInBounds_toArray, List.set_cons_zero, List.set_cons_succ]
    refine onlyH (i := 6) rfl (by kernel_rfl) rfl (fun K hK => ?_)
    refine wp_append_run (.tmp 9) (.tmp 11) 37 rfl rfl rfl hrun ?_
    refine hK.out _ _ (e0) (fun hHeld => ?_)
    clear hK K
    try simp only [Act.put, List.setIfInBounds_toArray, List.set_cons_zero, List.set_cons_succ]
    refine takeJ 7 (v := ?_) ?_ hHeld ?_
    rotate_left
    · intro w hS; (try dsimp only at hS); go_simp; try with_reducible rfl
    refine onlyH (i := 8) rfl (by kernel_rfl) rfl (fun K hK => ?_)
    go_simp
    refine hK.out _ _ (g0) (fun hHeld => ?_)
    clear hK K
    try simp only [Act.put, List.setIfInBounds_toArray, List.set_cons_zero, List.set_cons_succ]
    refine wpAnyH_done (by kernel_rfl) ?_ _
    clear hHeld
    go_wp2_with fail
    refine hf.mono ?_
    rintro e w1 ⟨rfl, rfl⟩
    go_wp2
    go_ret2
    exact ⟨rfl, HA.out.1, HA.out.2⟩
  · go_simp
    refine hK.out _ _ (d0) (fun hHeld => ?_)
    clear hK K
    try simp only [Act.put, List.setIfInBounds_toArray, List.set_cons_zero, List.set_cons_succ]
    refine onlyH (i := 3) rfl (by kernel_rfl) rfl (fun K hK => ?_)
    go_simp
    refine hK.out _ _ (d0) (fun hHeld => ?_)
    clear hK K
    try simp only [Act.put, List.setIfInBounds_toArray, List.set_cons_zero, List.set_cons_succ]
    refine onlyH (i := 6) rfl (by kernel_rfl) rfl (fun K hK => ?_)
    refine wp_append_run (.tmp 9) (.tmp 11) 37 rfl rfl rfl hrun ?_
    refine hK.out _ _ (e0) (fun hHeld => ?_)
    clear hK K
    try simp only [Act.put, List.setIfInBounds_toArray, List.set_cons_zero, List.set_cons_succ]
    refine takeJ 7 (v := ?_) ?_ hHeld ?_
    rotate_left
    · intro w hS; (try dsimp only at hS); go_simp; try with_reducible rfl
    refine onlyH (i := 8) rfl (by kernel_rfl) rfl (fun K hK => ?_)
    go_simp
    refine hK.out _ _ (g0) (fun hHeld => ?_)
    clear hK K
    try simp only [Act.put, List.setIfInBounds_toArray, List.set_cons_zero, List.set_cons_succ]
    refine wpAnyH_done (by kernel_rfl) ?_ _
    clear hHeld
    go_wp2_with fail
    refine hf.mono ?_
    rintro e w1 ⟨rfl, rfl⟩
    go_wp2
    go_ret2
    exact ⟨rfl, HA.out.1, HA.out.2⟩
end Go.Proofs.YtokebnkgjchfaaaGreatDoor

/-
  The reference's reader begun, counts, a chunk read. Conditions: lengths within reach.
-/
namespace Go.Proofs.YtokebnkgjchfaaaGreatDoor
open Go.RowKit
variable {N : Nat}

/-- Where the reference begins, behind a mark. -/
def rBegin (c : UInt8) (b : Bs) : Pos := if b.head? = some c then some 1 else none
theorem bool_neq (x c : UInt8) : (((x.toNat : Nat) : Int) = ((c.toNat : Nat) : Int)) ↔ x = c := by
  constructor
  · intro h
    have : x.toNat = c.toNat := by omega
    exact UInt8.toNat.inj this
  · intro h; rw [h]
set_option maxRecDepth 20000 in
set_option maxHeartbeats 800000 in
theorem rbegun_any (w : World) (b : Bs) (c : UInt8) (hb : b.length ≤ 140737488351232) :
    Calls Tryz.prog 63 #[.string (strB b), .int .u8 (c.toNat : Int)] w fun e w' => ∃ g, e = .returned (.pointer (some ⟨g, 0, none⟩)) ∧ Rr w.heap.size w' g b (rBegin c b) ∧ w.heap.size ≤ g ∧ Below w.heap.size w w' := by
  have hs := strB_size b
  have HV := hide hb
  cases b with
  | nil =>
    have hr : rBegin c [] = none := rfl
    rw [hr]
    go_enter Tryz.func63, Tryz.ntmps63
    go_wp2_with (refine wpList_tobytes _ rfl (.tmp 5) rfl (strB []) (by rw [strB_size]; unfold maxLen; have := HV.out; omega) rfl ?_; intro v2 w2 hsl2 hb2 hbk2; rw [strB_list] at hsl2; have HS := hide hsl2; have HBK := hide hbk2; clear hbk2; have HB := hide hb2; obtain ⟨ao, cap, rfl, -⟩ := hsl2; clear hb2)
    go_wp2
    go_ret
    refine ⟨_, rfl, ⟨_, 1, heap_last w2 _ _ rfl, fun w' hu => HS.out.und HBK.out ⟨Nat.le_trans (by simp) hu.1, fun k hN hk => (hu.2 k hN hk).trans (heap_past w2 _ k hk)⟩, fun a ha => by cases ha⟩, HB.out.size, HB.out.alloc HB.out.size _⟩
  | cons x r =>
    have hix : ∀ W, (Instr.index 9 (.string (strB (x :: r))) (.int .i64 0)).run Tryz.prog W = .ok (.int .u8 (x.toNat : Int)) W := fun W => index_str W (x :: r) .i64 0 (by simp)
    by_cases hx : x = c
    · subst hx
      have hr : rBegin x (x :: r) = some 1 := by unfold rBegin; simp
      rw [hr]
      have hpos : 1 ≤ (x :: r).length := by simp
      generalize (x :: r) = l at *
      have hz : ((l.length : Int) == 0) = false := by rw [beq_eq_false_iff_ne]; omega
      go_enter Tryz.func63, Tryz.ntmps63
      go_wp2_with (refine wpList_tobytes _ rfl (.tmp 5) rfl (strB l) (by rw [strB_size]; unfold maxLen; have := HV.out; omega) rfl ?_; intro v2 w2 hsl2 hb2 hbk2; rw [strB_list] at hsl2; have HS := hide hsl2; have HBK := hide hbk2; clear hbk2; have HB := hide hb2; obtain ⟨ao, cap, rfl, -⟩ := hsl2; clear hb2)
      go_wp2
      try simp only [hz, Bool.false_or, bne_self_eq_false]
      go_ret
      refine ⟨_, rfl, ⟨_, 1, heap_last w2 _ _ rfl, fun w' hu => HS.out.und HBK.out ⟨Nat.le_trans (by simp) hu.1, fun k hN hk => (hu.2 k hN hk).trans (heap_past w2 _ k hk)⟩, fun a ha => by injection ha with ha; subst ha; exact ⟨rfl, by omega⟩⟩, HB.out.size, HB.out.alloc HB.out.size _⟩
    · have hr : rBegin c (x :: r) = none := by unfold rBegin; simp [hx]
      rw [hr]
      have hne : ¬ (((x.toNat : Nat) : Int) = ((c.toNat : Nat) : Int)) := fun h => hx ((bool_neq x c).1 h)
      have hxc : (((x.toNat : Nat) : Int) != ((c.toNat : Nat) : Int)) = true := by simpa using hne
      have hpos : 1 ≤ (x :: r).length := by simp
      generalize (x :: r) = l at *
      have hz : ((l.length : Int) == 0) = false := by rw [beq_eq_false_iff_ne]; omega
      go_enter Tryz.func63, Tryz.ntmps63
      go_wp2_with (refine wpList_tobytes _ rfl (.tmp 5) rfl (strB l) (by rw [strB_size]; unfold maxLen; have := HV.out; omega) rfl ?_; intro v2 w2 hsl2 hb2 hbk2; rw [strB_list] at hsl2; have HS := hide hsl2; have HBK := hide hbk2; clear hbk2; have HB := hide hb2; obtain ⟨ao, cap, rfl, -⟩ := hsl2; clear hb2)
      go_wp2
      try simp only [hz, hxc, Bool.false_or]
      go_ret
      refine ⟨_, rfl, ⟨_, 1, heap_last w2 _ _ rfl, fun w' hu => HS.out.und HBK.out ⟨Nat.le_trans (by simp) hu.1, fun k hN hk => (hu.2 k hN hk).trans (heap_past w2 _ k hk)⟩, fun a ha => by cases ha⟩, HB.out.size, HB.out.alloc HB.out.size _⟩
set_option maxRecDepth 20000 in
theorem rcount_any (w : World) (g : Nat) (l : Bs) (s : Pos) (most : Int) (h : Rr N w g l s) (hl : l.length ≤ 140737488351232) :
    Calls Tryz.prog 65 #[.pointer (some ⟨g, 0, none⟩), .int .i64 most] w fun e w' => e = .returned (.int .i64 (rC l most s).1) ∧ Rr N w' g l (rC l most s).2 ∧ w.grownBy w' (some g) := by
  have hT := rint_any w g l s h hl
  unfold rC
  obtain ⟨n, q, hn⟩ : ∃ n q, rI l s = (n, q) := ⟨_, _, rfl⟩
  rw [hn] at hT ⊢
  simp only at hT ⊢
  by_cases h1 : n < 0
  · rw [if_pos (.inl h1)]
    simp only
    go_enter Tryz.func65, Tryz.ntmps65
    go_wp2_with fail
    refine hT.mono ?_
    rintro e w1 ⟨rfl, R1, gb1⟩
    obtain ⟨v, p, h5, h6, h7⟩ := R1
    have d2 := rc (i := 2) h5 rfl
    have f2 := frozen0 (j := 2) h5
    have hlt := lt_of_heap h5
    go_wp2
    go_ret
    exact ⟨rfl, ⟨v, p, heap_set3b h5, fun w' hu => h6 w' (und_trans (und_gb hlt (gb_set w1 g 2 (.bool true))) hu), fun a ha => by cases ha⟩, gb_trans gb1 (gb_set w1 g 2 (.bool true))⟩
  · by_cases h2 : most < n
    · rw [if_pos (.inr h2)]
      simp only
      go_enter Tryz.func65, Tryz.ntmps65
      go_wp2_with fail
      refine hT.mono ?_
      rintro e w1 ⟨rfl, R1, gb1⟩
      obtain ⟨v, p, h5, h6, h7⟩ := R1
      have d2 := rc (i := 2) h5 rfl
      have f2 := frozen0 (j := 2) h5
      have hlt := lt_of_heap h5
      go_wp2
      go_ret
      exact ⟨rfl, ⟨v, p, heap_set3b h5, fun w' hu => h6 w' (und_trans (und_gb hlt (gb_set w1 g 2 (.bool true))) hu), fun a ha => by cases ha⟩, gb_trans gb1 (gb_set w1 g 2 (.bool true))⟩
    · rw [if_neg (by omega)]
      simp only
      go_enter Tryz.func65, Tryz.ntmps65
      go_wp2_with fail
      refine hT.mono ?_
      rintro e w1 ⟨rfl, R1, gb1⟩
      go_wp2
      go_ret
      exact ⟨rfl, R1, gb1⟩
end Go.Proofs.YtokebnkgjchfaaaGreatDoor

/-
  What bytes behind a mark say, as the reference reads them: the same. Conditions: lengths within reach.
-/
namespace Go.Proofs.YtokebnkgjchfaaaGreatDoor
open Go.RowKit
variable {N : Nat}

theorem Rr.grown {a b : World} {g : Nat} {l : Bs} {s : Pos} {row : Option Nat} (h : Rr N a g l s) (k : a.grownBy b row) (hrow : ∀ q, row = some q → g < q) : Rr N b g l s := by
  have hl := h.lt
  obtain ⟨v, p, h1, h2, h3⟩ := h
  exact ⟨v, p, (k.block g hl (fun e => by have := hrow g e.symm; omega)).trans h1, fun w' hu => h2 w' (und_trans ⟨k.size, fun j _ hj => k.block j (by omega) (fun e => by have := hrow j e.symm; omega)⟩ hu), h3⟩
theorem Rr.heap {w : World} {g : Nat} {l : Bs} {s : Pos} (h : Rr N w g l s) : ∃ cs, w.heap[g]? = some (.cells cs 120) := by
  obtain ⟨v, p, h1, _⟩ := h
  exact ⟨_, h1⟩
theorem Rr.bad {w : World} {g : Nat} {l : Bs} {s : Pos} (h : Rr N w g l s) : w.cell? ⟨g, 2, none⟩ = some (.bool s.isNone) := by
  obtain ⟨v, p, h1, _⟩ := h
  exact rc (i := 2) h1 rfl
/-- What bytes behind a mark say to the reference. -/
def rtaken {α : Type} (m : UInt8) (one : Bs → Pos → α × Pos) (right : α → Bool) (b : Bs) : Option α :=
  if (one b (rBegin m b)).2 = some b.length ∧ right (one b (rBegin m b)).1 = true then some (one b (rBegin m b)).1 else none
theorem rtaken_iff {α : Type} {m : UInt8} {one : Bs → Pos → α × Pos} {right : α → Bool} {b : Bs} {enc : α → Bs} {ok : α → Prop} (h : Fm b (one b) enc ok) (hr : ∀ x, right x = true → ok x) (x : α) :
    rtaken m one right b = some x ↔ right x = true ∧ b = m :: enc x := by
  unfold rtaken
  cases b with
  | nil =>
    have e : rBegin m [] = none := rfl
    rw [e]
    constructor
    · intro h1
      rw [h.stop] at h1
      simp at h1
    · rintro ⟨_, h1⟩
      cases h1
  | cons c l =>
    by_cases hc : c = m
    · subst hc
      have e : rBegin c (c :: l) = some 1 := by unfold rBegin; simp
      rw [e]
      constructor
      · intro h1
        split at h1
        · rename_i g
          injection h1 with h1
          subst h1
          refine ⟨g.2, ?_⟩
          have s := (h.sound 1 _ (by simp) g.1).1.1
          rw [show (c :: l).drop (c :: l).length = [] from by simp, List.append_nil] at s
          simpa using s
        · cases h1
      · rintro ⟨h1, h2⟩
        injection h2 with _ h2
        have s : Sees (c :: l) 1 (c :: l).length (enc x) := ⟨by simp [h2], by simp [h2]; omega, Nat.le_refl _⟩
        have e2 := h.put 1 _ x (hr x h1) s
        rw [if_pos (by rw [e2]; exact ⟨rfl, h1⟩), e2]
    · have e : rBegin m (c :: l) = none := by unfold rBegin; simp [hc]
      rw [e]
      constructor
      · intro h1
        rw [h.stop] at h1
        simp at h1
      · rintro ⟨_, h1⟩
        injection h1 with h1 _
        exact absurd h1 hc
/-- As the reference reads a fan. -/
def hFan (l : Bs) : Pos → Fan × Pos := rP (rI l) (rL l 32 (rPart l))
theorem rtakenFan (b : Bs) : rtaken 70 hFan fanOk b = takenFan b := by
  refine Option.ext fun f => ?_
  rw [takenFan_iff, rtaken_iff (enc := fanB) (ok := fun f => In64 f.1 ∧ ((f.2.length : Int) ≤ 32 ∧ ∀ p ∈ f.2, p.1.length = 32 ∧ In64 p.2)) ((fmI b).both ((fmPart b).many 32 (by omega))) (fun x hx => ?_) f]
  have h1 := fanOk_parts hx
  have h2 : levelB x.1 = true := by unfold fanOk at hx; simp only [Bool.and_eq_true] at hx; exact hx.1.1.1
  unfold levelB at h2
  have h3 := of_decide_eq_true h2
  exact ⟨⟨by omega, by omega⟩, by omega, h1.2⟩
end Go.Proofs.YtokebnkgjchfaaaGreatDoor
