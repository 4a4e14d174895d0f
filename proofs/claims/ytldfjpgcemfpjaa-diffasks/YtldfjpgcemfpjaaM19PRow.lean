/-
  Rows of links, pairs, objects: one more, many more. Conditions: not too many.
-/
import Derived.Test.YtldfjpgcemfpjaaM17PPlain
import Derived.Test.YtldfjpgcemfpjaaM18ORBranch2
namespace Go.Proofs.Ytldfjpgcemfpjaa
open Go.RowKit

theorem Try.zObj : (Try.prog.info? 73).map (fun i => (i.zero, i.size, i.bytes)) = some (some (.agg #[.string ⟨#[]⟩, .string ⟨#[]⟩]), 2, 32) := by kernel_rfl
theorem own_low {w : World} {B B' k n : Nat} {e : TypeId} {v : Value} {xs : List Value} (h : w.ownsRow B' e k v n xs) (hb : B ≤ B') : w.ownsRow B e k v n xs := by
  obtain ⟨h1, h2⟩ := h
  refine ⟨h1, ?_⟩
  rcases h2 with h2 | ⟨g, cap, cells, a, b, c⟩
  · exact .inl h2
  · exact .inr ⟨g, cap, cells, a, by omega, c⟩

theorem Ls.part {α : Type} {B : Nat} {w : World} {k : Nat} {cs : α → List Value} {b off n cap : Nat} {xs : List α} (h : Ls B w k cs (.slice (some ⟨b, off, none⟩) n cap) xs) {a z : Nat} (ha : a ≤ z) (hz : z ≤ xs.length) : Ls B w k cs (.slice (some ⟨b, off + a * k, none⟩) (z - a) (cap - a)) ((xs.take z).drop a) := by
  obtain ⟨ao, cp, hv, h1, h2, h4⟩ := h
  injection hv with e1 e2 e3
  subst e1 e2 e3
  have hl : ((xs.take z).drop a).length = z - a := by simp; omega
  refine ⟨_, _, by rw [hl], by rw [hl]; omega, by omega, fun hne => ?_⟩
  have hx : xs ≠ [] := by
    rintro rfl
    simp at hne
  obtain ⟨b', off', e, hb, hc⟩ := h4 hx
  injection e with e
  injection e with e1 e2 e3
  subst e1 e2
  refine ⟨_, _, rfl, hb, fun j hj i u hu => ?_⟩
  rw [hl] at hj
  have hu' : (cs (xs[a + j]'(by omega)))[i]? = some u := by simpa using hu
  have := hc (a + j) (by omega) i u hu'
  rwa [Nat.add_mul, ← Nat.add_assoc] at this
theorem app_obj (w : World) (B : Nat) (v : Value) (xs : List Pair) (p : Pair) (h : Rw B w 73 2 pairC v xs) (hB : B ≤ w.heap.size) (hn : xs.length ≤ 4294967296) :
    ∃ v' w', (Builtin.append_ #[22, 22] 22 #[v, .slice (some ⟨w.heap.size, 0, none⟩) 1 1]).run Try.prog (w.alloc (.cells #[.string (strB p.1), .string (strB p.2)] 73)) = .ok v' w' ∧
      Rw B w' 73 2 pairC v' (xs ++ [p]) ∧ (w.alloc (.cells #[.string (strB p.1), .string (strB p.2)] 73)).grownBy w' v.ownBlock ∧ (v'.ownBlock = v.ownBlock ∨ v'.ownBlock = some (w.heap.size + 1)) := by
  obtain ⟨i0, hi, hz0, hz1, hz2⟩ := info_parts Try.zObj
  have hx := heap_last w (.cells #[.string (strB p.1), .string (strB p.2)] 73) _ rfl
  obtain ⟨v', w', h1, h2, h3, -, h4⟩ := run_append_own_at (P := Try.prog) (w.alloc (.cells #[.string (strB p.1), .string (strB p.2)] 73)) B 22 22 73 i0 (.agg #[.string ⟨#[]⟩, .string ⟨#[]⟩]) 2 32 Try.underlying22 hi hz0 hz1 hz2 rfl (by decide) v xs.length (xs.flatMap pairC) (h.alloc _) ⟨w.heap.size, 0, none⟩ 1 1 (pairC p) rfl (fun j u hu => by
      rw [Addr.add_lit, Nat.zero_add, cell_of_row _ _ _ _ _ _ hx, List.getElem?_toArray]; exact hu) (by simp [pairC, Value.oneCell']) (by unfold maxLen; omega) (by omega) (by simp; omega)
  refine ⟨v', w', h1, ?_, h3, by simpa using h4⟩
  unfold Rw
  rw [List.length_append, List.flatMap_append]
  simpa using h2
theorem app_objs (w : World) (B B' : Nat) (v u : Value) (xs ys : List Pair) (h : Rw B w 73 2 pairC v xs) (hu : Rw B' w 73 2 pairC u ys) (hy : 1 ≤ ys.length) (hB : B ≤ w.heap.size) (hn : xs.length + ys.length ≤ 4294967296) :
    ∃ v' w', (Builtin.append_ #[22, 22] 22 #[v, u]).run Try.prog w = .ok v' w' ∧ Rw B w' 73 2 pairC v' (xs ++ ys) ∧ Below B w w' ∧ w.grownBy w' v.ownBlock := by
  obtain ⟨i0, hi, hz0, hz1, hz2⟩ := info_parts Try.zObj
  have hk2 := hu.2
  rcases hk2 with ⟨rfl, h0⟩ | ⟨g4, cap4, cur4, rfl, -, -, -, -, -, -⟩
  · omega
  have hfl : ∀ zs : List Pair, (zs.flatMap pairC).length = zs.length * 2 := fun zs => by
    induction zs with
    | nil => rfl
    | cons z zs ih => rw [List.flatMap_cons, List.length_append, ih, List.length_cons]; simp [pairC]; omega
  obtain ⟨v5, w5, hrun5, own5, hgr5, -⟩ := run_append_own (P := Try.prog) w B 22 22 73 i0 (.agg #[.string ⟨#[]⟩, .string ⟨#[]⟩]) 2 32 Try.underlying22 hi hz0 hz1 hz2 rfl (by decide) v xs.length (xs.flatMap pairC) h ⟨g4, 0, none⟩ ys.length cap4 (ys.flatMap pairC) (hfl ys) (World.ownsRow.cells hu (g := g4) rfl) (by intro x hx; obtain ⟨y, -, hy⟩ := List.mem_flatMap.1 hx; simp [pairC] at hy; rcases hy with rfl | rfl <;> simp [Value.oneCell']) (by unfold maxLen; omega) (by omega) hB
  rw [← List.flatMap_append, ← List.length_append] at own5
  exact ⟨v5, w5, hrun5, own5, (Below.refl _ _).grown hgr5 hB (fun q hq => (World.ownsRow.lt h q hq).1), hgr5⟩
theorem app_pair (w : World) (B : Nat) (v : Value) (xs : List Pair) (p : Pair) (h : Rw B w 48 2 pairC v xs) (hB : B ≤ w.heap.size) (hn : xs.length ≤ 4294967296) :
    ∃ v' w', (Builtin.append_ #[49, 49] 49 #[v, .slice (some ⟨w.heap.size, 0, none⟩) 1 1]).run Try.prog (w.alloc (.cells #[.string (strB p.1), .string (strB p.2)] 48)) = .ok v' w' ∧
      Rw B w' 48 2 pairC v' (xs ++ [p]) ∧ (w.alloc (.cells #[.string (strB p.1), .string (strB p.2)] 48)).grownBy w' v.ownBlock ∧ (v'.ownBlock = v.ownBlock ∨ v'.ownBlock = some (w.heap.size + 1)) := by
  obtain ⟨i0, hi, hz0, hz1, hz2⟩ := info_parts Try.zPair
  have hx := heap_last w (.cells #[.string (strB p.1), .string (strB p.2)] 48) _ rfl
  obtain ⟨v', w', h1, h2, h3, -, h4⟩ := run_append_own_at (P := Try.prog) (w.alloc (.cells #[.string (strB p.1), .string (strB p.2)] 48)) B 49 49 48 i0 (.agg #[.string ⟨#[]⟩, .string ⟨#[]⟩]) 2 32 Try.underlying49 hi hz0 hz1 hz2 rfl (by decide) v xs.length (xs.flatMap pairC) (h.alloc _) ⟨w.heap.size, 0, none⟩ 1 1 (pairC p) rfl (fun j u hu => by
      rw [Addr.add_lit, Nat.zero_add, cell_of_row _ _ _ _ _ _ hx, List.getElem?_toArray]; exact hu) (by simp [pairC, Value.oneCell']) (by unfold maxLen; omega) (by omega) (by simp; omega)
  refine ⟨v', w', h1, ?_, h3, by simpa using h4⟩
  unfold Rw
  rw [List.length_append, List.flatMap_append]
  simpa using h2
theorem app_link (w : World) (B : Nat) (v : Value) (xs : List Link) (p : Link) (h : Rw B w 81 3 linkC v xs) (hB : B ≤ w.heap.size) (hn : xs.length ≤ 4294967296) :
    ∃ v' w', (Builtin.append_ #[76, 76] 76 #[v, .slice (some ⟨w.heap.size, 0, none⟩) 1 1]).run Try.prog (w.alloc (.cells #[.string (strB p.1), .string (strB p.2.1), .int .i64 p.2.2] 81)) = .ok v' w' ∧
      Rw B w' 81 3 linkC v' (xs ++ [p]) ∧ (w.alloc (.cells #[.string (strB p.1), .string (strB p.2.1), .int .i64 p.2.2] 81)).grownBy w' v.ownBlock ∧ (v'.ownBlock = v.ownBlock ∨ v'.ownBlock = some (w.heap.size + 1)) := by
  obtain ⟨i0, hi, hz0, hz1, hz2⟩ := info_parts Try.zLink
  have hx := heap_last w (.cells #[.string (strB p.1), .string (strB p.2.1), .int .i64 p.2.2] 81) _ rfl
  obtain ⟨v', w', h1, h2, h3, -, h4⟩ := run_append_own_at (P := Try.prog) (w.alloc (.cells #[.string (strB p.1), .string (strB p.2.1), .int .i64 p.2.2] 81)) B 76 76 81 i0 (.agg #[.string ⟨#[]⟩, .string ⟨#[]⟩, .int .i64 0]) 3 40 Try.underlying76 hi hz0 hz1 hz2 rfl (by decide) v xs.length (xs.flatMap linkC) (h.alloc _) ⟨w.heap.size, 0, none⟩ 1 1 (linkC p) rfl (fun j u hu => by
      rw [Addr.add_lit, Nat.zero_add, cell_of_row _ _ _ _ _ _ hx, List.getElem?_toArray]; exact hu) (by simp [linkC, Value.oneCell']) (by unfold maxLen; omega) (by omega) (by simp; omega)
  refine ⟨v', w', h1, ?_, h3, by simpa using h4⟩
  unfold Rw
  rw [List.length_append, List.flatMap_append]
  simpa using h2
end Go.Proofs.Ytldfjpgcemfpjaa
