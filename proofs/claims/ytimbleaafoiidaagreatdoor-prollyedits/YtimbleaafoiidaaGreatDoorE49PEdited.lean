/-
  The pairs behind all puts, by the program: a map, its values sorted by their keys. Conditions: the pairs rise; not too many.
-/
import Derived.Test.YtimbleaafoiidaaGreatDoorE48PSort
namespace Go.Proofs.YtimbleaafoiidaaGreatDoor
open Go.RowKit

theorem valuesF_any (w : World) (b : Nat) : Calls Tryz.prog 64 #[.map (some b)] w fun e w' => e = .returned (.func (.func 92) #[] #[.pointer (some ⟨w.heap.size, 0, none⟩)]) ∧ w' = w.alloc (.cells #[.map (some b)] 130) := by
  go_enter Tryz.func64, Tryz.ntmps64
  go_wp2
  go_ret
  exact ⟨rfl, rfl⟩
theorem collect_vals (w : World) (box b : Nat) (l : List Pair) (hbox : w.heap[box]? = some (.cells #[.map (some b)] 130)) (hm : Mp.MapW w b (pv l)) (hl : l.length ≤ 1000000) :
    Calls Tryz.prog 90 #[.func (.func 92) #[] #[.pointer (some ⟨box, 0, none⟩)]] w fun e w' => ∃ v out, e = .returned v ∧ out.Perm l ∧ Rw w.heap.size w' 60 2 pairC v out ∧ Below w.heap.size w w' := by
  have hc := appendSeq_vals w box b l hbox hm hl
  clear hbox hm
  go_enter Tryz.func90, Tryz.ntmps90
  go_wp2_with fail
  refine hc.mono ?_
  rintro e w' ⟨v, out, rfl, h1, h2, h3⟩
  go_wp2
  go_ret
  exact ⟨v, out, rfl, h1, h2, h3⟩
/-- A map's pairs, by rising keys. -/
theorem sorted_vals (w : World) (box b : Nat) (l : List Pair) (hr : Rises l) (hbox : w.heap[box]? = some (.cells #[.map (some b)] 130)) (hm : Mp.MapW w b (pv l)) (hl : l.length ≤ 1000000) :
    Calls Tryz.prog 63 #[.func (.func 92) #[] #[.pointer (some ⟨box, 0, none⟩)], .func (.func 65) #[] #[]] w fun e w' => ∃ v, e = .returned v ∧ Rw w.heap.size w' 60 2 pairC v l ∧ Below w.heap.size w w' := by
  have hc := collect_vals w box b l hbox hm hl
  clear hbox hm
  go_enter Tryz.func63, Tryz.ntmps63
  go_wp2_with fail
  refine hc.mono ?_
  rintro e w1 ⟨v, out, rfl, h1, h2, h3⟩
  have hs := sortFunc_any w1 w.heap.size v out h2 (by rw [h1.length_eq]; exact hl)
  obtain ⟨va, vm, vc, rfl⟩ := row_form h2
  have H1 := hide (And.intro h1 (And.intro h2 h3))
  clear hc h1 h2 h3
  go_wp2_with fail
  refine hs.mono ?_
  rintro e w2 ⟨rfl, ss, g1, g2, g3, g4⟩
  have hss : Rises ss := by
    have hnd : (ss.map (·.1)).Nodup := ((g1.trans H1.out.1).map (·.1)).nodup_iff.2 (rises_keys hr)
    rw [List.Nodup, List.pairwise_map] at hnd
    refine (g2.and hnd).imp fun {x y} h => ?_
    cases hx : ltB x.1 y.1 with
    | true => rfl
    | false => exact absurd (ltB_total _ _ hx h.1) h.2
  have he : ss = l := rises_unique hss hr (g1.trans H1.out.1)
  rw [he] at g3
  have HB := hide (And.intro g3 (H1.out.2.2.grown g4 H1.out.2.2.size (fun i hi => (World.ownsRow.lt H1.out.2.1 i hi).1)))
  clear hs g1 g2 g3 g4
  go_wp2
  go_ret
  exact ⟨_, rfl, HB.out.1, HB.out.2⟩
/-- Keys of pairs are texts. -/
theorem pv_keys (l : List Pair) : ∀ p ∈ pv l, Mp.KStr p.1 := by
  intro p hp
  obtain ⟨x, -, rfl⟩ := List.mem_map.1 hp
  exact ⟨_, rfl⟩
theorem pv_ne {l : List Pair} {k : Bs} (h : ∀ x ∈ l, x.1 ≠ k) : ∀ p ∈ pv l, p.1 ≠ .string (strB k) := by
  intro p hp e
  obtain ⟨x, hx, rfl⟩ := List.mem_map.1 hp
  injection e with e
  exact h x hx (strB_inj e)
theorem pv_kind (w : World) : Mp.KeyKind Tryz.prog 9 w Mp.KStr := Mp.kind_str Tryz.underlying9
/-- A pair is laid under a key that has none. -/
theorem lay_new {w : World} {b : Nat} {l : List Pair} (h : Mp.MapW w b (pv l)) (x : Pair) (hn : ∀ y ∈ l, y.1 ≠ x.1) :
    ∃ w', (Instr.mapUpdate 130 (.map (some b)) (.string (strB x.1)) (.agg #[.string (strB x.1), .string (strB x.2)])).run Tryz.prog w = .ok () w' ∧ Mp.MapW w' b (pv (x :: l)) ∧ Mp.Chg (· = b) w w' ∧ w'.heap.size = w.heap.size :=
  h.put_new (pv_kind w) (pv_keys l) Tryz.underlying130 ⟨_, rfl⟩ (pv_ne hn) _
theorem lt_ne {a b : Bs} (h : ltB a b = true) : a ≠ b := fun e => by rw [e, ltB_irrefl] at h; cases h
theorem perm_mid (a b : List Pair) (x : Pair) : (a ++ x :: b).Perm (x :: (a ++ b)) := List.perm_middle
/-- A put is done to a map: laid. -/
theorem lay_put {w : World} {b : Nat} {l : List Pair} (h : Mp.MapW w b (pv l)) (hr : Rises l) (p : PutM) (hg : p.2.2 = false) :
    ∃ w', (Instr.mapUpdate 130 (.map (some b)) (.string (strB p.1)) (.agg #[.string (strB p.1), .string (strB p.2.1)])).run Tryz.prog w = .ok () w' ∧ Mp.MapW w' b (pv (doneM l p)) ∧ Mp.Chg (· = b) w w' ∧ w'.heap.size = w.heap.size := by
  obtain ⟨a, c, ha, hc, hl, e⟩ := done_split hr p
  rw [hg] at e
  have he : (pv ((p.1, p.2.1) :: (a ++ c))).Perm (pv (doneM l p)) := by rw [e]; exact ((perm_mid a c (p.1, p.2.1)).symm).map _
  have hne : ∀ y ∈ a ++ c, y.1 ≠ p.1 := fun y hy => by
    rcases List.mem_append.1 hy with hy | hy
    · exact lt_ne (ha y hy)
    · exact (lt_ne (hc y hy)).symm
  rcases hl with rfl | ⟨v, rfl⟩
  · obtain ⟨w', h1, h2, h3, h4⟩ := lay_new h (p.1, p.2.1) hne
    exact ⟨w', h1, h2.perm he, h3, h4⟩
  · have h' := h.perm (((perm_mid a c (p.1, v)).map fun x : Pair => ((Value.string (strB x.1) : Value), Value.agg #[.string (strB x.1), .string (strB x.2)])))
    obtain ⟨w', h1, h2, h3, h4⟩ := Mp.MapW.put_old (x := .string (strB p.1)) (l := pv (a ++ c)) h' (pv_kind w) (pv_keys _) Tryz.underlying130 ⟨_, rfl⟩ (.agg #[.string (strB p.1), .string (strB p.2.1)])
    exact ⟨w', h1, Mp.MapW.perm h2 he, h3, h4⟩
/-- .. taken away. -/
theorem take_put {w : World} {b : Nat} {l : List Pair} (h : Mp.MapW w b (pv l)) (hr : Rises l) (p : PutM) (hg : p.2.2 = true) (ty : TypeId) :
    ∃ w', (Builtin.delete_ #[130, 9] ty #[.map (some b), .string (strB p.1)]).run Tryz.prog w = .ok (.tuple #[]) w' ∧ Mp.MapW w' b (pv (doneM l p)) ∧ Mp.Chg (· = b) w w' ∧ w'.heap.size = w.heap.size := by
  obtain ⟨a, c, ha, hc, hl, e⟩ := done_split hr p
  rw [hg] at e
  have e' : doneM l p = a ++ c := by rw [e]; simp
  have hne : ∀ y ∈ a ++ c, y.1 ≠ p.1 := fun y hy => by
    rcases List.mem_append.1 hy with hy | hy
    · exact lt_ne (ha y hy)
    · exact (lt_ne (hc y hy)).symm
  rw [e']
  rcases hl with rfl | ⟨v, rfl⟩
  · exact h.drop_none (pv_kind w) (pv_keys _) Tryz.underlying130 ⟨_, rfl⟩ (pv_ne hne) ty 9
  · have h' := h.perm (((perm_mid a c (p.1, v)).map fun x : Pair => ((Value.string (strB x.1) : Value), Value.agg #[.string (strB x.1), .string (strB x.2)])))
    exact Mp.MapW.drop_old (x := .string (strB p.1)) (l := pv (a ++ c)) h' (pv_kind w) (pv_keys _) Tryz.underlying130 ⟨_, rfl⟩ ty 9
end Go.Proofs.YtimbleaafoiidaaGreatDoor
