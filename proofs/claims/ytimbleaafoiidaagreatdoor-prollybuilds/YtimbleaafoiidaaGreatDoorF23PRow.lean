/-
  Texts joined: PRow, PEnd.
-/
import Derived.Test.YtimbleaafoiidaaGreatDoorF21PPlain
import Derived.Test.YtimbleaafoiidaaGreatDoorF22ORBranch2
import Derived.Test.YtimbleaafoiidaaGreatDoorF14OEntry2
/-
  Rows of links, pairs, objects: one more, many more. Conditions: not too many.
-/
namespace Go.Proofs.YtimbleaafoiidaaGreatDoor
open Go.RowKit

theorem Tryz.zObj : (Tryz.prog.info? 69).map (fun i => (i.zero, i.size, i.bytes)) = some (some (.agg #[.string ⟨#[]⟩, .string ⟨#[]⟩]), 2, 32) := by kernel_rfl
theorem own_low {w : World} {B B' k n : Nat} {e : TypeId} {v : Value} {xs : List Value} (h : w.ownsRow B' e k v n xs) (hb : B ≤ B') : w.ownsRow B e k v n xs := by
  obtain ⟨h1, h2⟩ := h
  refine ⟨h1, ?_⟩
  rcases h2 with h2 | ⟨g, cap, cells, a, b, c⟩
  · exact .inl h2
  · exact .inr ⟨g, cap, cells, a, by omega, c⟩

theorem cell_setOther {w : World} {g j b o : Nat} {u : Value} (h : b ≠ g) : (w.setCell ⟨g, j, none⟩ u).cell? ⟨b, o, none⟩ = w.cell? ⟨b, o, none⟩ :=
  World.cell?_setCell_other _ _ _ _ (by intro e; injection e with e; omega)
theorem Ls.part {α : Type} {B : Nat} {w : World} {k : Nat} {cs : α → List Value} {b off n cap : Nat} {xs : List α} (h : Ls B w k cs (.slice (some ⟨b, off, none⟩) n cap) xs) {a z : Nat} (ha : a ≤ z) (hz : z ≤ xs.length) : Ls B w k cs (.slice (some ⟨b, off + a * k, none⟩) (z - a) (cap - a)) ((xs.take z).drop a) := by
  obtain ⟨ao, cp, hv, h1, h2, h4⟩ := h
  injection hv with e1 e2 e3
  subst e1 e2 e3
  have hl : ((xs.take z).drop a).length = z - a := by simp; omega
  refine ⟨_, _, by rw [hl], by rw [hl]; omega, by omega, fun hne => ?_⟩
  have hx : xs ≠ [] := by
    rintro rfl
    simp at hne
  obtain ⟨b', off', e, hb, hc⟩ := h4 hx
  injection e with e
  injection e with e1 e2 e3
  subst e1 e2
  refine ⟨_, _, rfl, hb, fun j hj i u hu => ?_⟩
  rw [hl] at hj
  have hu' : (cs (xs[a + j]'(by omega)))[i]? = some u := by simpa using hu
  have := hc (a + j) (by omega) i u hu'
  rwa [Nat.add_mul, ← Nat.add_assoc] at this
theorem app_obj (w : World) (B : Nat) (v : Value) (xs : List Pair) (p : Pair) (h : Rw B w 69 2 pairC v xs) (hB : B ≤ w.heap.size) (hn : xs.length ≤ 4294967296) :
    ∃ v' w', (Builtin.append_ #[25, 25] 25 #[v, .slice (some ⟨w.heap.size, 0, none⟩) 1 1]).run Tryz.prog (w.alloc (.cells #[.string (strB p.1), .string (strB p.2)] 69)) = .ok v' w' ∧
      Rw B w' 69 2 pairC v' (xs ++ [p]) ∧ (w.alloc (.cells #[.string (strB p.1), .string (strB p.2)] 69)).grownBy w' v.ownBlock ∧ (v'.ownBlock = v.ownBlock ∨ v'.ownBlock = some (w.heap.size + 1)) := by
  obtain ⟨i0, hi, hz0, hz1, hz2⟩ := info_parts Tryz.zObj
  have hx := heap_last w (.cells #[.string (strB p.1), .string (strB p.2)] 69) _ rfl
  obtain ⟨v', w', h1, h2, h3, -, h4⟩ := run_append_own_at (P := Tryz.prog) (w.alloc (.cells #[.string (strB p.1), .string (strB p.2)] 69)) B 25 25 69 i0 (.agg #[.string ⟨#[]⟩, .string ⟨#[]⟩]) 2 32 Tryz.underlying25 hi hz0 hz1 hz2 rfl (by decide) v xs.length (xs.flatMap pairC) (h.alloc _) ⟨w.heap.size, 0, none⟩ 1 1 (pairC p) rfl (fun j u hu => by
      rw [Addr.add_lit, Nat.zero_add, cell_of_row _ _ _ _ _ _ hx, List.getElem?_toArray]; exact hu) (by simp [pairC, Value.oneCell']) (by unfold maxLen; omega) (by omega) (by simp; omega)
  refine ⟨v', w', h1, ?_, h3, by simpa using h4⟩
  unfold Rw
  rw [List.length_append, List.flatMap_append]
  simpa using h2
theorem app_objs (w : World) (B B' : Nat) (v u : Value) (xs ys : List Pair) (h : Rw B w 69 2 pairC v xs) (hu : Rw B' w 69 2 pairC u ys) (hy : 1 ≤ ys.length) (hB : B ≤ w.heap.size) (hn : xs.length + ys.length ≤ 4294967296) :
    ∃ v' w', (Builtin.append_ #[25, 25] 25 #[v, u]).run Tryz.prog w = .ok v' w' ∧ Rw B w' 69 2 pairC v' (xs ++ ys) ∧ Below B w w' ∧ w.grownBy w' v.ownBlock := by
  obtain ⟨i0, hi, hz0, hz1, hz2⟩ := info_parts Tryz.zObj
  have hk2 := hu.2
  rcases hk2 with ⟨rfl, h0⟩ | ⟨g4, cap4, cur4, rfl, -, -, -, -, -, -⟩
  · omega
  have hfl : ∀ zs : List Pair, (zs.flatMap pairC).length = zs.length * 2 := fun zs => by
    induction zs with
    | nil => rfl
    | cons z zs ih => rw [List.flatMap_cons, List.length_append, ih, List.length_cons]; simp [pairC]; omega
  obtain ⟨v5, w5, hrun5, own5, hgr5, -⟩ := run_append_own (P := Tryz.prog) w B 25 25 69 i0 (.agg #[.string ⟨#[]⟩, .string ⟨#[]⟩]) 2 32 Tryz.underlying25 hi hz0 hz1 hz2 rfl (by decide) v xs.length (xs.flatMap pairC) h ⟨g4, 0, none⟩ ys.length cap4 (ys.flatMap pairC) (hfl ys) (World.ownsRow.cells hu (g := g4) rfl) (by intro x hx; obtain ⟨y, -, hy⟩ := List.mem_flatMap.1 hx; simp [pairC] at hy; rcases hy with rfl | rfl <;> simp [Value.oneCell']) (by unfold maxLen; omega) (by omega) hB
  rw [← List.flatMap_append, ← List.length_append] at own5
  exact ⟨v5, w5, hrun5, own5, (Below.refl _ _).grown hgr5 hB (fun q hq => (World.ownsRow.lt h q hq).1), hgr5⟩
theorem app_link (w : World) (B : Nat) (v : Value) (xs : List Link) (p : Link) (h : Rw B w 66 3 linkC v xs) (hB : B ≤ w.heap.size) (hn : xs.length ≤ 4294967296) :
    ∃ v' w', (Builtin.append_ #[72, 72] 72 #[v, .slice (some ⟨w.heap.size, 0, none⟩) 1 1]).run Tryz.prog (w.alloc (.cells #[.string (strB p.1), .string (strB p.2.1), .int .i64 p.2.2] 66)) = .ok v' w' ∧
      Rw B w' 66 3 linkC v' (xs ++ [p]) ∧ (w.alloc (.cells #[.string (strB p.1), .string (strB p.2.1), .int .i64 p.2.2] 66)).grownBy w' v.ownBlock ∧ (v'.ownBlock = v.ownBlock ∨ v'.ownBlock = some (w.heap.size + 1)) := by
  obtain ⟨i0, hi, hz0, hz1, hz2⟩ := info_parts Tryz.zLink
  have hx := heap_last w (.cells #[.string (strB p.1), .string (strB p.2.1), .int .i64 p.2.2] 66) _ rfl
  obtain ⟨v', w', h1, h2, h3, -, h4⟩ := run_append_own_at (P := Tryz.prog) (w.alloc (.cells #[.string (strB p.1), .string (strB p.2.1), .int .i64 p.2.2] 66)) B 72 72 66 i0 (.agg #[.string ⟨#[]⟩, .string ⟨#[]⟩, .int .i64 0]) 3 40 Tryz.underlying72 hi hz0 hz1 hz2 rfl (by decide) v xs.length (xs.flatMap linkC) (h.alloc _) ⟨w.heap.size, 0, none⟩ 1 1 (linkC p) rfl (fun j u hu => by
      rw [Addr.add_lit, Nat.zero_add, cell_of_row _ _ _ _ _ _ hx, List.getElem?_toArray]; exact hu) (by simp [linkC, Value.oneCell']) (by unfold maxLen; omega) (by omega) (by simp; omega)
  refine ⟨v', w', h1, ?_, h3, by simpa using h4⟩
  unfold Rw
  rw [List.length_append, List.flatMap_append]
  simpa using h2
end Go.Proofs.YtimbleaafoiidaaGreatDoor

/-
  Where a node ends, by the program; which keys and pairs are right. Conditions: keys of a length within reach; the table holds its numbers; lists lie there.
-/
namespace Go.Proofs.YtimbleaafoiidaaGreatDoor
open Go.RowKit

theorem endK_form (level : Nat) (key : Bs) (hl : level ≤ 31) : ∃ c : UInt8, endK level key = ((c.toNat : Int) % 16 == 0) ∧ ∀ W : World, (Instr.index 9 (.string (strB (sha key))) (.int .i64 ((31 - level : Nat) : Int))).run Tryz.prog W = .ok (.int .u8 (c.toNat : Int)) W := by
  have hs := sha_length key
  refine ⟨(sha key)[31 - level]'(by omega), ?_, fun W => index_str W (sha key) .i64 (31 - level) (by omega)⟩
  unfold endK
  rw [List.getElem?_eq_getElem (by omega)]
  rfl
set_option maxRecDepth 20000 in
theorem endsNode_any (w : World) (level : Nat) (key : Bs) (hlv : level ≤ 31) (hk : key.length ≤ 140737488355328) (hT : TabW w) :
    Calls Tryz.prog 96 #[.int .i64 (level : Int), .string (strB key)] w fun e w' => e = .returned (.bool (endK level key)) ∧ Below w.heap.size w w' := by
  obtain ⟨c, hc, hix⟩ := endK_form level key hlv
  rw [hc]
  have hc256 : (c.toNat : Int) < 256 := by have := c.toNat_lt; omega
  have hsum := sum_any (w.alloc (.cells #[.string (strB key)] 9)) _ [key] (ps_one w key w.heap.size rfl) (hT.keep ((Below.refl _ _).alloc (Nat.le_refl _) _) hT.1) (by simpa using hk)
  rw [show ([key] : List Bs).flatten = key from by simp] at hsum
  have hss := strB_size (sha key)
  have hsl := sha_length key
  generalize sha key = S at *
  have hsub : (31 : Int) - (level : Int) = ((31 - level : Nat) : Int) := by omega
  have hb0 : Below w.heap.size w (w.alloc (.cells #[.string (strB key)] 9)) := (Below.refl _ _).alloc (Nat.le_refl _) _
  have HB := hide hb0
  clear hb0 hc hT
  go_enter Tryz.func96, Tryz.ntmps96
  go_wp2_with fail
  refine hsum.mono ?_
  rintro e w1 ⟨rfl, hb1⟩
  have HB1 := hide (HB.out.trans (hb1.mono HB.out.size))
  clear hsum hb1
  go_wp2
  go_ret
  exact ⟨rfl, HB1.out⟩
theorem leastSize_any (w : World) (level : Nat) : Calls Tryz.prog 95 #[.int .i64 (level : Int)] w fun e w' => e = .returned (.int .i64 (if level = 0 then 1 else 2)) ∧ w' = w := by
  by_cases h : level = 0
  · subst h
    go_enter Tryz.func95, Tryz.ntmps95
    go_wp2
    go_ret
    exact ⟨rfl, rfl⟩
  · have h2 : ((level : Int) == 0) = false := by simp; omega
    rw [if_neg h]
    go_enter Tryz.func95, Tryz.ntmps95
    go_wp2
    go_ret
    exact ⟨rfl, rfl⟩
theorem keyP_any (w : World) (x : Pair) : Calls Tryz.prog 70 #[.agg #[.string (strB x.1), .string (strB x.2)]] w fun e w' => e = .returned (.string (strB x.1)) ∧ Below w.heap.size w w' := by
  go_enter Tryz.func70, Tryz.ntmps70
  go_wp2
  go_ret
  exact ⟨rfl, (Below.refl _ _).alloc (Nat.le_refl _) _⟩
theorem keyL_any (w : World) (x : Link) : Calls Tryz.prog 72 #[.agg #[.string (strB x.1), .string (strB x.2.1), .int .i64 x.2.2]] w fun e w' => e = .returned (.string (strB x.1)) ∧ Below w.heap.size w w' := by
  go_enter Tryz.func72, Tryz.ntmps72
  go_wp2
  go_ret
  exact ⟨rfl, (Below.refl _ _).alloc (Nat.le_refl _) _⟩
theorem pisKey_any (w : World) (s : Bs) : Calls Tryz.prog 33 #[.string (strB s)] w fun e w' => e = .returned (.bool (isKeyB s)) ∧ w' = w := by
  have hs := strB_size s
  by_cases h : 1 ≤ s.length
  · go_enter Tryz.func33, Tryz.ntmps33
    go_wp2
    go_ret
    refine ⟨ret_bool ?_, rfl⟩
    unfold isKeyB
    rw [Bool.eq_iff_iff]; simp; omega
  · go_enter Tryz.func33, Tryz.ntmps33
    go_wp2
    go_ret
    refine ⟨ret_bool ?_, rfl⟩
    unfold isKeyB
    rw [Bool.eq_iff_iff]; simp; omega
end Go.Proofs.YtimbleaafoiidaaGreatDoor
