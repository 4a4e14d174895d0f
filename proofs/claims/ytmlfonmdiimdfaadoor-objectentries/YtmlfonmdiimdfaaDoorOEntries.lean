/-
  ObjectEntries, walked: an entry's value, and what is read of one, by the program and by the reference. Conditions: lengths within reach.
-/
import Derived.Test.YtmlfonmdiimdfaaDoorOEntry5
import Derived.Test.YtmlfonmdiimdfaaDoorOShown
namespace Go.Proofs.YtmlfonmdiimdfaaDoor
open Go.RowKit

theorem entryV_form (q : Bool) (v : Val) : ∃ a k, entryV q v = .tuple #[.string (strB a), .int .i64 k] := by
  cases q
  · exact ⟨[], 80, entryV_no v⟩
  · exact ⟨_, 0, entryV_yes v⟩
theorem entrySaid_form (name val : Bs) : ∃ (nm : Bs) (v : Val) (k : Int), ∀ e, entrySaid name val e → e = .returned (.tuple #[.agg #[.string (strB nm), .int .i64 v.1, .string (strB v.2.1), .int .i64 v.2.2], .int .i64 k]) := by
  unfold entrySaid
  cases takenEntry name val with
  | none => exact ⟨[], (0, ([], 0)), 81, fun e he => he⟩
  | some v => exact ⟨name, v, 0, fun e he => he⟩
set_option maxRecDepth 20000 in
set_option maxHeartbeats 1600000 in
theorem entries_any (w : World) (x : Bs × Val) (name val : ByteArray) (hn : name.size ≤ 140737488351232) (hv : val.size ≤ 140737488351232) (hT : TabW w) :
    Calls Tryd.prog 6 #[.agg #[.string (strB x.1), .int .i64 x.2.1, .string (strB x.2.2.1), .int .i64 x.2.2.2], .string name, .string val] w fun e w' => e = .returned (.bool true) ∧ Below w.heap.size w w' := by
  obtain ⟨n0, v⟩ := x
  simp only
  obtain ⟨nl, rfl⟩ : ∃ l, name = strB l := ⟨_, (strB_of name).symm⟩
  obtain ⟨vl, rfl⟩ : ∃ l, val = strB l := ⟨_, (strB_of val).symm⟩
  rw [strB_size] at hn hv
  obtain ⟨a, ka, hka⟩ := entryV_form (entryOk n0 v) v
  obtain ⟨nm, u, ku, hku⟩ := entrySaid_form nl vl
  have h0 := hT.1
  have hb0 : Below w.heap.size w (w.alloc (.cells #[.string (strB n0), .int .i64 v.1, .string (strB v.2.1), .int .i64 v.2.2] 61)) := (Below.refl _ _).alloc (Nat.le_refl _) _
  have z0 := heap_last w (.cells #[.string (strB n0), .int .i64 v.1, .string (strB v.2.1), .int .i64 v.2.2] 61) _ rfl
  have hT0 := hT.keep hb0 h0
  generalize hw0 : w.alloc (.cells #[.string (strB n0), .int .i64 v.1, .string (strB v.2.1), .int .i64 v.2.2] 61) = w0 at *
  have hsh := shown_any w0 hT0
  have hE := fun W => entry_any W n0 v
  have hF := fun W => rentry_any W n0 v
  rw [hka] at hE hF
  have hG := fun W => takeEntry_any W nl vl (by omega) (by omega)
  have hH := fun W => rtakeEntry_any W nl vl hv
  have HU := hide hku
  clear hka hku hT hT0 hn hv h0
  go_enter Tryd.func6, Tryd.ntmps6
  go_wp2_with fail
  try rw [hw0]
  refine hsh.mono ?_
  rintro e w1 ⟨rfl, hb1⟩
  have z1 := (hb1.block _ (lt_of_heap z0)).trans z0
  have B1 := hb0.trans (hb1.mono hb0.size)
  have c0 := rc (i := 0) z1 rfl
  have c1 := rc (i := 1) z1 rfl
  have c2 := rc (i := 2) z1 rfl
  have c3 := rc (i := 3) z1 rfl
  clear hsh hb1 z0 hb0
  go_wp2_with fail
  refine (hE w1).mono ?_
  rintro e w2 ⟨rfl, hb2⟩
  have z2 := (hb2.block _ (lt_of_heap z1)).trans z1
  have B2 := B1.trans (hb2.mono B1.size)
  clear hb2 c0 c1 c2 c3 B1 z1
  have c0 := rc (i := 0) z2 rfl
  have c1 := rc (i := 1) z2 rfl
  have c2 := rc (i := 2) z2 rfl
  have c3 := rc (i := 3) z2 rfl
  go_wp2_with fail
  refine (hF w2).mono ?_
  rintro e w3 ⟨rfl, hb3⟩
  have B3 := B2.trans (hb3.mono B2.size)
  clear hb3 c0 c1 c2 c3 B2 z2
  go_wp2_with fail
  refine (hG w3).mono ?_
  rintro e w4 ⟨he, hb4⟩
  obtain rfl := HU.out e he
  have B4 := B3.trans (hb4.mono B3.size)
  have hb5 : Below w4.heap.size w4 (w4.alloc (.cells #[.string (strB nm), .int .i64 u.1, .string (strB u.2.1), .int .i64 u.2.2] 61)) := (Below.refl _ _).alloc (Nat.le_refl _) _
  have z5 := heap_last w4 (.cells #[.string (strB nm), .int .i64 u.1, .string (strB u.2.1), .int .i64 u.2.2] 61) _ rfl
  have B5 := B4.trans (hb5.mono B4.size)
  clear hb4 hb5 he B4 B3
  go_wp2_with fail
  generalize hw5 : w4.alloc (.cells #[.string (strB nm), .int .i64 u.1, .string (strB u.2.1), .int .i64 u.2.2] 61) = w5 at *
  refine (hH w5).mono ?_
  rintro e w6 ⟨he, hb6⟩
  obtain rfl := HU.out e he
  have B6 := B5.trans (hb6.mono B5.size)
  have z6 := (hb6.block _ (lt_of_heap z5)).trans z5
  have s6 := lt_of_heap z6
  generalize hn4 : w4.heap.size = n4 at *
  have hb7 : Below w6.heap.size w6 (w6.alloc (.cells #[.string (strB nm), .int .i64 u.1, .string (strB u.2.1), .int .i64 u.2.2] 61)) := (Below.refl _ _).alloc (Nat.le_refl _) _
  have z7 := (hb7.block _ (lt_of_heap z6)).trans z6
  have y7 := heap_last w6 (.cells #[.string (strB nm), .int .i64 u.1, .string (strB u.2.1), .int .i64 u.2.2] 61) _ rfl
  have B7 := B6.trans (hb7.mono B6.size)
  have c0 := rc (i := 0) z7 rfl
  have c1 := rc (i := 1) z7 rfl
  have c2 := rc (i := 2) z7 rfl
  have c3 := rc (i := 3) z7 rfl
  have d0 := rc (i := 0) y7 rfl
  have d1 := rc (i := 1) y7 rfl
  have d2 := rc (i := 2) y7 rfl
  have d3 := rc (i := 3) y7 rfl
  have hq := eql_Ent (w6.alloc (.cells #[.string (strB nm), .int .i64 u.1, .string (strB u.2.1), .int .i64 u.2.2] 61)) nm u.1 u.2.1 u.2.2
  clear hb6 hb7 he B6 B5 hn4 hw5 z6 z7 y7 z5 hE hF hG hH HU
  go_wp2
  go_ret
  exact ⟨rfl, B7⟩
end Go.Proofs.YtmlfonmdiimdfaaDoor
