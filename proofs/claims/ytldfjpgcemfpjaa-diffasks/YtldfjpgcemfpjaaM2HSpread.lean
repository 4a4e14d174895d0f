/-
  Texts joined: HSpread, Steps, HMixed, HPut, HEnds, HFeed, HAdd, HSum, HPadded, HWords, HConsts.
-/
import Derived.Test.YtldfjpgcemfpjaaM0WPlain
import Derived.Deep.RegionHeld
import Derived.WalkKit
import Derived.Test.YtldfjpgcemfpjaaM1HRounds
import Derived.Deep.Cut
import Derived.Deep.CutRange
import Derived.Lib.AppendStr
import Derived.Laws.IdiomStrings
import Derived.Deep.RegionLaw
/-
  What spreading a block answers: one number for each round. No condition.
-/
namespace Go.Proofs.Ytldfjpgcemfpjaa
open Go.RowKit

theorem bc_getD (l : List UInt8) (j : Nat) (h : j < l.length) : (bc l)[j]? = some (.int .u8 ((l.getD j 0).toNat : Int)) := by
  simp [bc, List.getElem?_map, List.getElem?_eq_getElem h, List.getD]

/-- What spreading finds in memory: the block's bytes; the numbers so far, noughts behind them. -/
def SP (w : World) (l : List UInt8) (L : List UInt32) (wr : World) : Prop := Below w.heap.size w wr ∧ (∀ k, k < 64 → wr.cell? ⟨w.heap.size, k, none⟩ = some (.int .u8 ((l.getD k 0).toNat : Int))) ∧
  (∃ z, wr.heap[w.heap.size + 1]? = some (.cells z 134) ∧ z.size = 64) ∧ wr.heap[w.heap.size + 1 + 1]? = some (.cells (uc (L ++ List.replicate (64 - L.length) 0)) 134)

theorem z64 : uc (List.replicate 64 0) = #[.int .u32 0, .int .u32 0, .int .u32 0, .int .u32 0, .int .u32 0, .int .u32 0, .int .u32 0, .int .u32 0, .int .u32 0, .int .u32 0, .int .u32 0, .int .u32 0, .int .u32 0, .int .u32 0, .int .u32 0, .int .u32 0, .int .u32 0, .int .u32 0, .int .u32 0, .int .u32 0, .int .u32 0, .int .u32 0, .int .u32 0, .int .u32 0, .int .u32 0, .int .u32 0, .int .u32 0, .int .u32 0, .int .u32 0, .int .u32 0, .int .u32 0, .int .u32 0, .int .u32 0, .int .u32 0, .int .u32 0, .int .u32 0, .int .u32 0, .int .u32 0, .int .u32 0, .int .u32 0, .int .u32 0, .int .u32 0, .int .u32 0, .int .u32 0, .int .u32 0, .int .u32 0, .int .u32 0, .int .u32 0, .int .u32 0, .int .u32 0, .int .u32 0, .int .u32 0, .int .u32 0, .int .u32 0, .int .u32 0, .int .u32 0, .int .u32 0, .int .u32 0, .int .u32 0, .int .u32 0, .int .u32 0, .int .u32 0, .int .u32 0, .int .u32 0] := rfl
theorem words_take (l : List UInt8) (k : Nat) (hk : k < 16) : (words l).take (k + 1) = (words l).take k ++ [wordAt l k] := by
  rw [List.take_succ_eq_append_getElem (by simpa [words] using hk)]
  simp [words]
theorem words_length (l : List UInt8) : (words l).length = 16 := by simp [words]

theorem heap_setCell (w : World) (g i : Nat) (c : Array Value) (t : TypeId) (fr : Nat × Nat) (v : Value) (h : w.heap[g]? = some (.cells c t fr)) : (w.setCell ⟨g, i, none⟩ v).heap[g]? = some (.cells (c.setIfInBounds i v) t fr) := by
  unfold World.setCell
  simp [h, Array.getElem?_modify]
theorem uc_set (L : List UInt32) (x : UInt32) (n : Nat) (h : L.length < n) : (uc (L ++ List.replicate (n - L.length) 0)).setIfInBounds L.length (.int .u32 (u x)) = uc ((L ++ [x]) ++ List.replicate (n - (L ++ [x]).length) 0) := by
  obtain ⟨m, hm⟩ : ∃ m, n - L.length = m + 1 := ⟨n - L.length - 1, by omega⟩
  have hm' : n - (L ++ [x]).length = m := by simp; omega
  rw [hm, hm', List.replicate_succ]
  unfold uc
  rw [List.setIfInBounds_toArray]
  congr 1
  simp
theorem SP.store {w : World} {l : List UInt8} {L : List UInt32} {wr : World} (h : SP w l L wr) (hL : L.length < 64) (k : Nat) (hk : L.length = k) (x : UInt32) : SP w l (L ++ [x]) (wr.setCell ⟨w.heap.size + 1 + 1, k, none⟩ (.int .u32 (u x))) := by
  subst hk
  obtain ⟨h1, h2, ⟨z, h3, h3'⟩, h4⟩ := h
  have hb : Below (w.heap.size + 1 + 1) wr (wr.setCell ⟨w.heap.size + 1 + 1, L.length, none⟩ (.int .u32 (u x))) := (Below.refl _ _).setCell (p := ⟨w.heap.size + 1 + 1, L.length, none⟩) (Nat.le_refl _) _
  refine ⟨h1.setCell (p := ⟨w.heap.size + 1 + 1, L.length, none⟩) (by simp; omega) _, fun k hk => (hb.cell (p := ⟨w.heap.size, k, none⟩) (by simp; omega)).trans (h2 k hk), ⟨z, (hb.block _ (by omega)).trans h3, h3'⟩, ?_⟩
  rw [heap_setCell _ _ _ _ _ _ _ h4, uc_set L x 64 hL]
theorem SP.drewN {w : World} {l : List UInt8} {L : List UInt32} {wr : World} (h : SP w l L wr) (n : Nat) : SP w l L (wr.drewN n) := by
  obtain ⟨h1, h2, h3, h4⟩ := h
  exact ⟨below_drewN h1 n, h2, h3, h4⟩
theorem SP.drew {w : World} {l : List UInt8} {L : List UInt32} {wr : World} (h : SP w l L wr) : SP w l L wr.drew := by
  obtain ⟨h1, h2, h3, h4⟩ := h
  exact ⟨h1.drew, h2, h3, h4⟩
theorem SP.get {w : World} {l : List UInt8} {L : List UInt32} {wr : World} (h : SP w l L wr) (_hL : L.length ≤ 64) (k : Nat) (hk : k < L.length) : wr.cell? ⟨w.heap.size + 1 + 1, k, none⟩ = some (.int .u32 (u (L.getD k 0))) := by
  rw [cell_of_row _ _ _ _ _ _ h.2.2.2, uc_get _ _ (by simp; omega)]
  simp [List.getD, List.getElem?_append_left hk]
theorem SP.room {w : World} {l : List UInt8} {L : List UInt32} {wr : World} (h : SP w l L wr) (k : Nat) (hk : L.length = k) (hL : k < 64) : wr.cell? ⟨w.heap.size + 1 + 1, k, none⟩ = some (.int .u32 (u 0)) ∧ wr.frozen? ⟨w.heap.size + 1 + 1, k, none⟩ = false := by
  subst hk
  constructor
  · rw [cell_of_row _ _ _ _ _ _ h.2.2.2, uc_get _ _ (by simp; omega)]
    obtain ⟨m, hm⟩ : ∃ m, 64 - L.length = m + 1 := ⟨64 - L.length - 1, by omega⟩
    simp [List.getD, hm, List.replicate_succ]
  · simp [World.frozen?, h.2.2.2]

theorem u_of8 (b : UInt8) : (b.toNat : Int) = u b.toUInt32 := by simp [u]
theorem u_shl24 (x : UInt32) : u x * (16777216 : Int) % (4294967296 : Int) = u (x <<< (24 : UInt32)) := u_shl x 24 24 rfl (by omega)
theorem u_shl16 (x : UInt32) : u x * (65536 : Int) % (4294967296 : Int) = u (x <<< (16 : UInt32)) := u_shl x 16 16 rfl (by omega)
theorem u_shl8 (x : UInt32) : u x * (256 : Int) % (4294967296 : Int) = u (x <<< (8 : UInt32)) := u_shl x 8 8 rfl (by omega)

theorem u_shr3 (x : UInt32) : u x / (8 : Int) = u (x >>> (3 : UInt32)) := u_shr x 3 3 rfl (by omega)
theorem u_shr10 (x : UInt32) : u x / (1024 : Int) = u (x >>> (10 : UInt32)) := u_shr x 10 10 rfl (by omega)
theorem u_mod (x : UInt32) : u x % 4294967296 = u x := by
  have := u_lt x
  unfold u
  omega
theorem word_u (b0 b1 b2 b3 : UInt8) : bits .or .u32 (bits .or .u32 (bits .or .u32 (u b0.toUInt32 % 4294967296 * 16777216 % 4294967296) (u b1.toUInt32 % 4294967296 * 65536 % 4294967296)) (u b2.toUInt32 % 4294967296 * 256 % 4294967296)) (u b3.toUInt32 % 4294967296) = u (word b0 b1 b2 b3) := by
  rw [u_mod, u_mod, u_mod, u_mod, u_shl24, u_shl16, u_shl8, u_or, u_or, u_or]
  rfl
theorem ext_length (l : List UInt32) (n : Nat) : (ext l n).length = l.length + n := by
  induction n with
  | zero => rfl
  | succ n ih => simp [ext, ih]; omega

end Go.Proofs.Ytldfjpgcemfpjaa

/-
  Two laws on regions that draw their order, with the operation read off the region's list: one that yields in every world that meets S is taken first; one that alone may come up is run. No condition.
-/
namespace Go.Proofs.Ytldfjpgcemfpjaa
open Go.RowKit
variable {P : Program} {l : List Oper} {Q : Exit → Act → World → Prop} {md : Region.Mode} {S : World → Prop}

theorem takeH {i : Nat} {oi : Oper} {v : Value} {fuel : Nat} {listed : Array Bool} {a : Act} {w : World} (hi : l[i]? = some oi)
    (hs : Region.noSelect l.toArray = true) (hf : Region.free md l.toArray listed i = true) (hr : (Region.ready md l.toArray listed).contains i = true)
    (hQ : ∀ c a w, Q (.panic c) (a.put oi.dst v) w → Q (.panic c) a w) (hg : Region.wanted oi (yielded l.toArray a.tmps) = true) (hy : ∀ w, S w → (execOp a.eval oi).run P w = .ok (.value v) w) (hS : S w)
    (h : wpAnyH P md l.toArray Q S fuel (listed.setIfInBounds i true) (a.put oi.dst v) w) : wpAnyH P md l.toArray Q S (fuel + 1) listed a w :=
  wpAnyH_take (by simpa using hi) hs hf hr hQ (Or.inl ⟨hg, hy⟩) hS h
/-- takeH, what is reckoned filled in, and laid out anew. -/
theorem takeJ (i : Nat) {oi : Oper} {v : Value} {fuel : Nat} {listed listed' : Array Bool} {a a' : Act} {w : World} (hy : ∀ w, S w → (execOp a.eval oi).run P w = .ok (.value v) w) (hS : S w)
    (h : wpAnyH P md l.toArray Q S fuel listed' a' w) (hi : l[i]? = some oi := by exact rfl)
    (hs : Region.noSelect l.toArray = true := by kernel_rfl) (hf : Region.free md l.toArray listed i = true := by kernel_rfl) (hr : (Region.ready md l.toArray listed).contains i = true := by kernel_rfl)
    (hQ : ∀ c a w, Q (.panic c) (a.put oi.dst v) w → Q (.panic c) a w := by exact fun _ _ _ h => h) (hg : Region.wanted oi (yielded l.toArray a.tmps) = true := by exact rfl)
    (hl : listed.setIfInBounds i true = listed' := by (try simp only [List.setIfInBounds_toArray, List.set_cons_zero, List.set_cons_succ]); exact rfl)
    (ha : a.put oi.dst v = a' := by (try simp only [Act.put, List.setIfInBounds_toArray, List.set_cons_zero, List.set_cons_succ]); exact rfl) : wpAnyH P md l.toArray Q S (fuel + 1) listed a w := by
  subst hl ha
  exact takeH hi hs hf hr hQ hg hy hS h
/-- takeJ, with what it yields reckoned too. -/
theorem takeK (i : Nat) {oi : Oper} {v : Value} {fuel : Nat} {listed listed' : Array Bool} {a a' : Act} {w : World} (hS : S w) (h : wpAnyH P md l.toArray Q S fuel listed' a' w) (hi : l[i]? = some oi := by exact rfl)
    (hs : Region.noSelect l.toArray = true := by kernel_rfl) (hf : Region.free md l.toArray listed i = true := by kernel_rfl) (hr : (Region.ready md l.toArray listed).contains i = true := by kernel_rfl)
    (hy : ∀ w, S w → (execOp a.eval oi).run P w = .ok (.value v) w := by (intro w hS; (try dsimp only at hS); (try simp only [and_assoc] at hS); go_simp; try with_reducible rfl))
    (hQ : ∀ c a w, Q (.panic c) (a.put oi.dst v) w → Q (.panic c) a w := by exact fun _ _ _ h => h) (hg : Region.wanted oi (yielded l.toArray a.tmps) = true := by exact rfl)
    (hl : listed.setIfInBounds i true = listed' := by (try simp only [List.setIfInBounds_toArray, List.set_cons_zero, List.set_cons_succ]); exact rfl)
    (ha : a.put oi.dst v = a' := by (try simp only [Act.put, List.setIfInBounds_toArray, List.set_cons_zero, List.set_cons_succ]); exact rfl) : wpAnyH P md l.toArray Q S (fuel + 1) listed a w := by
  subst hl ha
  exact takeH hi hs hf hr hQ hg hy hS h
theorem skipH {i : Nat} {oi : Oper} {fuel : Nat} {listed : Array Bool} {a : Act} {w : World} (hi : l[i]? = some oi)
    (hs : Region.noSelect l.toArray = true) (hf : Region.free md l.toArray listed i = true) (hr : (Region.ready md l.toArray listed).contains i = true)
    (hQ : ∀ c a w, Q (.panic c) (a.put oi.dst undef) w → Q (.panic c) a w) (hg : Region.wanted oi (yielded l.toArray a.tmps) = false) (hS : S w)
    (h : wpAnyH P md l.toArray Q S fuel (listed.setIfInBounds i true) (a.put oi.dst undef) w) : wpAnyH P md l.toArray Q S (fuel + 1) listed a w :=
  wpAnyH_take (by simpa using hi) hs hf hr hQ (Or.inr ⟨hg, rfl⟩) hS h
/-- skipH, what is reckoned filled in, and laid out anew. -/
theorem skipK (i : Nat) {oi : Oper} {fuel : Nat} {listed listed' : Array Bool} {a a' : Act} {w : World} (hS : S w) (h : wpAnyH P md l.toArray Q S fuel listed' a' w) (hi : l[i]? = some oi := by exact rfl)
    (hs : Region.noSelect l.toArray = true := by kernel_rfl) (hf : Region.free md l.toArray listed i = true := by kernel_rfl) (hr : (Region.ready md l.toArray listed).contains i = true := by kernel_rfl)
    (hQ : ∀ c a w, Q (.panic c) (a.put oi.dst undef) w → Q (.panic c) a w := by exact fun _ _ _ h => h) (hg : Region.wanted oi (yielded l.toArray a.tmps) = false := by exact rfl)
    (hl : listed.setIfInBounds i true = listed' := by (try simp only [List.setIfInBounds_toArray, List.set_cons_zero, List.set_cons_succ]); exact rfl)
    (ha : a.put oi.dst undef = a' := by (try simp only [Act.put, List.setIfInBounds_toArray, List.set_cons_zero, List.set_cons_succ]); exact rfl) : wpAnyH P md l.toArray Q S (fuel + 1) listed a w := by
  subst hl ha
  exact skipH hi hs hf hr hQ hg hS h
theorem onlyH {i : Nat} {oi : Oper} {fuel : Nat} {listed : Array Bool} {a : Act} {w : World} (hi : l[i]? = some oi) (hr : Region.ready md l.toArray listed = [i]) (hg : Region.wanted oi (yielded l.toArray a.tmps) = true)
    (h : ∀ K' : Act → World → Prop, Shut (∀ a w, S w → (S w → wpAnyH P md l.toArray Q S fuel (listed.setIfInBounds i true) a w) → K' a w) → Oper.wp P oi a w K' Q) : wpAnyH P md l.toArray Q S (fuel + 1) listed a w :=
  wpAnyH_ready hr (by simp) (AllReadyH.cons (o := oi) (by simpa using hi) (fun K hK => by rw [if_pos hg]; exact h K hK) AllReadyH.nil)
theorem twoH {i j : Nat} {oi oj : Oper} {fuel : Nat} {listed : Array Bool} {a : Act} {w : World} (hi : l[i]? = some oi) (hj : l[j]? = some oj) (hr : Region.ready md l.toArray listed = [i, j])
    (hgi : Region.wanted oi (yielded l.toArray a.tmps) = true) (hgj : Region.wanted oj (yielded l.toArray a.tmps) = true)
    (h1 : ∀ K' : Act → World → Prop, Shut (∀ a w, S w → (S w → wpAnyH P md l.toArray Q S fuel (listed.setIfInBounds i true) a w) → K' a w) → Oper.wp P oi a w K' Q)
    (h2 : ∀ K' : Act → World → Prop, Shut (∀ a w, S w → (S w → wpAnyH P md l.toArray Q S fuel (listed.setIfInBounds j true) a w) → K' a w) → Oper.wp P oj a w K' Q) : wpAnyH P md l.toArray Q S (fuel + 1) listed a w :=
  wpAnyH_ready hr (by simp) (AllReadyH.cons (o := oi) (by simpa using hi) (fun K hK => by rw [if_pos hgi]; exact h1 K hK) (AllReadyH.cons (o := oj) (by simpa using hj) (fun K hK => by rw [if_pos hgj]; exact h2 K hK) AllReadyH.nil))
end Go.Proofs.Ytldfjpgcemfpjaa

/-
  What one block makes of the numbers. Condition: the table holds its numbers.
-/
namespace Go.Proofs.Ytldfjpgcemfpjaa
open Go.RowKit

theorem uc_set1 (L : List UInt32) (k : Nat) (x : UInt32) : (uc L).setIfInBounds k (.int .u32 (u x)) = uc (L.set k x) := by
  unfold uc
  rw [List.setIfInBounds_toArray, List.map_set]
/-- The first so many of two lists added. -/
def acc (A B : List UInt32) (k : Nat) : List UInt32 := (List.zipWith (· + ·) A B).take k ++ A.drop k
theorem acc_zero (A B : List UInt32) : acc A B 0 = A := by simp [acc]
theorem acc_get (A B : List UInt32) (k : Nat) (hA : k < A.length) (hB : B.length = A.length) : (acc A B k).getD k 0 = A.getD k 0 := by
  have h : ((List.zipWith (· + ·) A B).take k).length = k := by simp; omega
  simp [acc, List.getD, List.getElem?_append_right, h]
theorem acc_set (A B : List UInt32) (k : Nat) (hA : k < A.length) (hB : B.length = A.length) : (acc A B k).set k (A.getD k 0 + B.getD k 0) = acc A B (k + 1) := by
  have h : ((List.zipWith (· + ·) A B).take k).length = k := by simp; omega
  unfold acc
  rw [List.set_append_right _ _ (by omega), h, Nat.sub_self, List.drop_eq_getElem_cons hA, List.set_cons_zero, List.take_succ_eq_append_getElem (by simp; omega)]
  simp [List.getD, hA, show k < B.length by omega]
theorem acc_length (A B : List UInt32) (k : Nat) (hk : k ≤ A.length) (hB : B.length = A.length) : (acc A B k).length = A.length := by
  simp [acc]; omega
theorem acc_all (s t : St) : acc s.list t.list 8 = (s.add t).list := rfl
theorem st_len (s : St) : s.list.length = 8 := rfl
end Go.Proofs.Ytldfjpgcemfpjaa

/-
  What laying numbers' bytes answers: putWord, bytesOf, ending. Conditions: none but room, which the callers have.
-/
namespace Go.Proofs.Ytldfjpgcemfpjaa
open Go.RowKit

theorem byte_u (n : UInt32) (k : UInt32) (j : Nat) (hj : k.toNat = j) (h : j < 32) : u n / 2 ^ j % 256 = (((n >>> k).toUInt8).toNat : Int) := by
  rw [u_shr n k j hj h]
  unfold u
  rw [UInt32.toNat_toUInt8]
  omega
theorem byte24 (n : UInt32) : u n / (16777216 : Int) % (256 : Int) = (((n >>> 24).toUInt8).toNat : Int) := byte_u n 24 24 rfl (by omega)
theorem byte16 (n : UInt32) : u n / (65536 : Int) % (256 : Int) = (((n >>> 16).toUInt8).toNat : Int) := byte_u n 16 16 rfl (by omega)
theorem byte8 (n : UInt32) : u n / (256 : Int) % (256 : Int) = (((n >>> 8).toUInt8).toNat : Int) := byte_u n 8 8 rfl (by omega)
theorem byte0 (n : UInt32) : u n % (256 : Int) = ((n.toUInt8).toNat : Int) := by
  unfold u
  rw [UInt32.toNat_toUInt8]
  omega

end Go.Proofs.Ytldfjpgcemfpjaa

/-
  What the sum's bytes are, and what stands behind so many bytes: bytesOf, ending. Condition: a number of 64 bits.
-/
namespace Go.Proofs.Ytldfjpgcemfpjaa
open Go.RowKit

def outL (L : List UInt32) : List UInt8 := L.flatMap be4
theorem outL_length (L : List UInt32) : (outL L).length = 4 * L.length := by
  induction L with
  | nil => rfl
  | cons a r ih => simp only [outL, List.flatMap_cons, List.length_append, List.length_cons] at ih ⊢; rw [ih]; simp [be4]; omega
theorem outL_take (L : List UInt32) (k : Nat) (h : k < L.length) : outL (L.take (k + 1)) = outL (L.take k) ++ be4 (L.getD k 0) := by
  unfold outL
  rw [List.take_succ_eq_append_getElem h, List.flatMap_append]
  simp [List.getD, h]
theorem sl_at {w : World} {base m : Nat} {v : Value} {l : List UInt8} (hm : l.length = m) (h : w.ownsRow base 5 1 v m (bc l)) : Sl w v l := by
  subst hm
  exact sl_of_own h

end Go.Proofs.Ytldfjpgcemfpjaa

/-
  What the mixer holds behind so many bytes, plainly, and how it is laid out in memory. No condition.
-/
namespace Go.Proofs.Ytldfjpgcemfpjaa
open Go.RowKit

end Go.Proofs.Ytldfjpgcemfpjaa

/-
  What taking up a text does to the mixer. Condition: the table holds its numbers.
-/
namespace Go.Proofs.Ytldfjpgcemfpjaa
open Go.RowKit

end Go.Proofs.Ytldfjpgcemfpjaa

/-
  What the sum of texts answers. Conditions: the table holds its numbers; all texts together within the reach.
-/
namespace Go.Proofs.Ytldfjpgcemfpjaa
open Go.RowKit

/-- The slice v has these texts. -/
def Ps (w : World) (v : Value) (ls : List (List UInt8)) : Prop :=
  ∃ ao cap, v = .slice ao ls.length cap ∧ ls.length ≤ cap ∧ cap ≤ maxLen ∧
    (ls ≠ [] → ∃ b off, ao = some ⟨b, off, none⟩ ∧ b < w.heap.size ∧ ∀ j (h : j < ls.length), w.cell? ⟨b, off + j, none⟩ = some (.string (strB (ls[j]'h))))
theorem Ps.keep {w w' : World} {v : Value} {ls : List (List UInt8)} (h : Ps w v ls) (hb : Below w.heap.size w w') : Ps w' v ls := by
  obtain ⟨ao, cap, hv, h1, h2, h4⟩ := h
  refine ⟨ao, cap, hv, h1, h2, fun hl => ?_⟩
  obtain ⟨b, off, ha, hlt, hc⟩ := h4 hl
  exact ⟨b, off, ha, Nat.lt_of_lt_of_le hlt hb.size, fun j hj => (hb.cell (p := ⟨b, off + j, none⟩) hlt).trans (hc j hj)⟩

theorem sha_out (l : List UInt8) : sha l = out (mix st0 (l ++ tail l.length) ((l ++ tail l.length).length / 64)) := rfl

end Go.Proofs.Ytldfjpgcemfpjaa

/-
  What the reference's padding answers. Condition: at most 1048576 bytes.
-/
namespace Go.Proofs.Ytldfjpgcemfpjaa
open Go.RowKit

/-- A slice's length. -/
def lenV : Value → Nat
  | .slice _ n _ => n
  | _ => 0
/-- The length's eight bytes. -/
def be8 (size : Nat) : List UInt8 := be4 (UInt32.ofNat (size * 8 % 18446744073709551616 / 4294967296)) ++ be4 (UInt32.ofNat (size * 8 % 18446744073709551616))
theorem tail_eq (size : Nat) : tail size = 128 :: (List.replicate ((119 - size % 64) % 64) 0 ++ be8 size) := by
  unfold tail be8
  rw [List.cons_append]
theorem be8_length (size : Nat) : (be8 size).length = 8 := rfl

theorem be8_get (size : Nat) (hs : size ≤ 1048576) : ∀ k, k < 8 → ((size : Int) * 8) / 2 ^ (56 - 8 * k) % 256 = (((be8 size).getD k 0).toNat : Int)
  | 0, _ => by simp [be8, be4, Nat.shiftRight_eq_div_pow]; omega
  | 1, _ => by simp [be8, be4, Nat.shiftRight_eq_div_pow]; omega
  | 2, _ => by simp [be8, be4, Nat.shiftRight_eq_div_pow]; omega
  | 3, _ => by simp [be8, be4]; omega
  | 4, _ => by simp [be8, be4, Nat.shiftRight_eq_div_pow]; omega
  | 5, _ => by simp [be8, be4, Nat.shiftRight_eq_div_pow]; omega
  | 6, _ => by simp [be8, be4, Nat.shiftRight_eq_div_pow]; omega
  | 7, _ => by simp [be8, be4]
  | k + 8, h => by omega

set_option maxRecDepth 20000 in
set_option maxHeartbeats 800000 in
theorem padded_any (w : World) (v : Value) (l : List UInt8) (h : Sl w v l) (hl : l.length ≤ 1048576) :
    Calls Try.prog 64 #[v] w fun e w' => ∃ m, m = (l ++ tail l.length).length ∧ e = .returned (.slice (some ⟨w.heap.size, 0, none⟩) m (l.length + 72)) ∧
      w'.ownsRow w.heap.size 5 1 (.slice (some ⟨w.heap.size, 0, none⟩) m (l.length + 72)) m (bc (l ++ tail l.length)) ∧ Below w.heap.size w w' ∧ w.heap.size < w'.heap.size := by
  have h' := h
  obtain ⟨ao, cap, rfl, h1, h2, h3, h4⟩ := h'
  clear h4
  obtain ⟨i0, hi, hz0, hz1, hz2⟩ := info_parts Try.infoB
  go_enter Try.func64, Try.ntmps64
  go_wp2_with (first
    | (at_make; refine wpList_make_own _ rfl _ _ 93 rfl w.heap.size 5 i0 (.int .u8 0) 1 Try.underlying93 hi hz0 hz1 .i64 .i64 _ (l.length + 72) rfl rfl (by omega) (by rw [hz2]; omega) (by unfold maxLen; omega) (Nat.le_refl _) ?_; intro w1 hown1 hgrow1)
    | (at_builtin; refine wpList_append_fits_any _ rfl (.tmp 10) (.tmp 11) 93 rfl w.heap.size 5 i0 1 Try.underlying93 hi hz1 w.heap.size 0 (l.length + 72) [] rfl hown1 ao l.length cap (bc l) rfl (by rw [bc_length, Nat.mul_one]) (by intro hn; have := h3 hn; omega) (h.cells ((Below.refl _ _).grown hgrow1 (Nat.le_refl _) (by intro k hk; cases hk))) (bc_one l) (by omega) ?_; intro w2 hown2 hgrow2; simp only [Nat.zero_add, List.nil_append] at hown2)
    | (at_builtin; refine wpList_append_fits _ rfl (.tmp 13) (.tmp 14) 93 rfl w.heap.size 5 i0 1 Try.underlying93 hi hz1 w.heap.size l.length (l.length + 72) (bc l) rfl (hown2.alloc _) ⟨w2.heap.size, 0, none⟩ 1 1 (bc [128]) rfl rfl ?c1 (bc_one _) (by omega) ?_))
  case c1 =>
    intro j x hj
    match j, hj with
    | 0, hj => simp [bc] at hj; subst hj; simp [Addr.add_lit]
  intro w3 hown3 hgrow3
  have hb3 : Below w.heap.size w w3 := ((((Below.refl _ _).grown hgrow1 (Nat.le_refl _) (by intro k hk; cases hk)).grown hgrow2 hgrow1.size (by intro k hk; injection hk with hk; omega)).alloc (Nat.le_trans hgrow1.size hgrow2.size) _).grown hgrow3 (by have := hgrow1.size; have := hgrow2.size; simp; omega) (by intro k hk; injection hk with hk; omega)
  rw [← bc_append] at hown3
  clear hgrow1 hgrow2 hgrow3 hown1 hown2
  go_wp2_with fail
  obtain ⟨N, hN⟩ : ∃ N, N = (119 - l.length % 64) % 64 := ⟨_, rfl⟩
  have hT := tail_eq l.length
  rw [← hN] at hT
  have HT := hide hT
  have HN := hide hN
  have hN64 : N < 64 := by omega
  clear hT hN h
  go_loopw [3] (fun v wr => ∃ z m : Nat, z ≤ N ∧ m = l.length + 1 + z ∧ v = .slice (some ⟨w.heap.size, 0, none⟩) m (l.length + 72) ∧
      wr.ownsRow w.heap.size 5 1 (.slice (some ⟨w.heap.size, 0, none⟩) m (l.length + 72)) m (bc (l ++ 128 :: List.replicate z 0)) ∧ Below w.heap.size w wr)
    (fun v _ => l.length + 65 - lenV v)
  case atStart => exact ⟨0, l.length + 1, by omega, rfl, rfl, hown3, hb3⟩
  case round =>
    clear hown3 hb3
    obtain ⟨z, m, hz, hm, rfl, hown, hb⟩ := hrel
    have hmod : ((m : Nat) : Int).tmod 64 = ((m % 64 : Nat) : Int) := by rw [Int.tmod_eq_emod_of_nonneg (by omega)]; omega
    by_cases hlt : z < N
    · have hne : m % 64 ≠ 56 := by have := HN.out; omega
      have hm64 : m % 64 < 64 := Nat.mod_lt _ (by omega)
      generalize m % 64 = r at *
      have HM := hide hm
      have hmc : m + 1 ≤ l.length + 72 := by omega
      have hml : m < 2000000 := by omega
      clear hm
      go_wp2_with (at_builtin; refine wpList_append_fits _ rfl (.tmp 20) (.tmp 21) 93 rfl w.heap.size 5 i0 1 Try.underlying93 hi hz1 w.heap.size m (l.length + 72) _ rfl (hown.alloc _) ⟨wr.heap.size, 0, none⟩ 1 1 (bc [0]) rfl rfl ?c1 (bc_one _) hmc ?_)
      case c1 =>
        intro j x hj
        match j, hj with
        | 0, hj => simp [bc] at hj; subst hj; simp [Addr.add_lit]
      intro w4 hown4 hgrow4
      have hb4 := (hb.alloc hb.size (.cells #[.int .u8 0] 5)).grown hgrow4 (by have := hb.size; simp; omega) (by intro k hk; injection hk with hk; omega)
      have hown4' : w4.ownsRow w.heap.size 5 1 (.slice (some ⟨w.heap.size, 0, none⟩) (m + 1) (l.length + 72)) (m + 1) (bc (l ++ 128 :: List.replicate (z + 1) 0)) := by
        rw [List.replicate_succ', ← List.cons_append, ← List.append_assoc, bc_append]
        exact hown4
      have HO := hide hown4'
      have HB := hide hb4
      clear hown hgrow4 hown4 hown4' hb hb4
      go_wp2
      go_roundw
      case rel => exact ⟨z + 1, m + 1, by omega, by have := HM.out; omega, rfl, HO.out, HB.out⟩
      case measure => simp [lenV]; have := HM.out; omega
    · obtain rfl : z = N := by omega
      have h56 : m % 64 = 56 := by have := HN.out; omega
      rw [h56] at hmod
      have HM := hide hm
      have hml : m + 8 ≤ l.length + 72 := by omega
      have hml2 : m < 2000000 := by omega
      have HO := hide hown
      have HB := hide hb
      clear hm h56 hown hb
      have hX : l ++ tail l.length = (l ++ 128 :: List.replicate z 0) ++ be8 l.length := by rw [HT.out]; simp
      have hXl : (l ++ 128 :: List.replicate z 0).length = m := by have := HM.out; simp; omega
      have HX := hide hX
      have HXL := hide hXl
      clear hX hXl
      generalize l ++ 128 :: List.replicate z 0 = X at *
      go_wp2_with fail
      go_loopw [3, 5] (fun v t wr => ∃ k mk : Nat, k ≤ 8 ∧ mk = m + k ∧ t = .int .i64 k ∧ v = .slice (some ⟨w.heap.size, 0, none⟩) mk (l.length + 72) ∧
          wr.ownsRow w.heap.size 5 1 (.slice (some ⟨w.heap.size, 0, none⟩) mk (l.length + 72)) mk (bc (X ++ (be8 l.length).take k)) ∧ Below w.heap.size w wr)
        (fun _ t _ => 8 - (intOf t).toNat)
      case atStart => exact ⟨0, m, by omega, rfl, rfl, rfl, by simpa using HO.out, HB.out⟩
      case round =>
        clear HO HB
        obtain ⟨k, mk, hk, hmk, rfl, rfl, hown, hb⟩ := hrel
        by_cases hlt : k < 8
        · have hv := be8_get l.length hl k hlt
          have htk : (be8 l.length).take (k + 1) = (be8 l.length).take k ++ [(be8 l.length).getD k 0] := by
            have hlt' : k < (be8 l.length).length := by rw [be8_length]; exact hlt
            rw [List.take_succ_eq_append_getElem hlt', List.getD_eq_getElem?_getD, List.getElem?_eq_getElem hlt']
            rfl
          have HTK := hide htk
          clear htk
          generalize (be8 l.length).getD k 0 = c at *
          have hmc : mk + 1 ≤ l.length + 72 := by omega
          have HMK := hide hmk
          clear hmk
          go_wp2_with (at_builtin; refine wpList_append_fits _ rfl (.tmp 31) (.tmp 38) 93 rfl w.heap.size 5 i0 1 Try.underlying93 hi hz1 w.heap.size mk (l.length + 72) _ rfl (hown.alloc _) ⟨wr.heap.size, 0, none⟩ 1 1 (bc [c]) rfl rfl ?c1 (bc_one _) hmc ?_)
          case c1 =>
            intro j x hj
            match j, hj with
            | 0, hj => simp [bc] at hj; subst hj; simp [Addr.add_lit]
          intro w4 hown4 hgrow4
          have hb4 := (hb.alloc hb.size (.cells #[.int .u8 (c.toNat : Int)] 5)).grown hgrow4 (by have := hb.size; simp; omega) (by intro k hk; injection hk with hk; omega)
          rw [← bc_append, List.append_assoc, ← HTK.out] at hown4
          have HO := hide hown4
          have HB := hide hb4
          clear hown hgrow4 hown4 hb hb4 hv
          go_wp2
          go_roundw
          case rel => exact ⟨k + 1, mk + 1, by omega, by have := HMK.out; omega, by go_num, rfl, HO.out, HB.out⟩
          case measure => simp [intOf]; omega
        · obtain rfl : k = 8 := by omega
          rw [List.take_of_length_le (by rw [be8_length]; omega), ← HX.out] at hown
          have HMK := hide hmk
          have HO := hide hown
          have hls : w.heap.size < wr.heap.size := by
            obtain ⟨_, hv⟩ := hown.lt w.heap.size rfl
            exact hv
          clear hmk hown
          go_wp2
          go_ret
          exact ⟨mk, by rw [HX.out, List.length_append, HXL.out, be8_length]; exact HMK.out, rfl, HO.out, hb, hls⟩
end Go.Proofs.Ytldfjpgcemfpjaa

/-
  What the reference's words of a block, and its constants, answer. Condition: a slice of sixty-four bytes.
-/
namespace Go.Proofs.Ytldfjpgcemfpjaa
open Go.RowKit

/-- What making words finds in memory: the numbers so far, noughts behind them. -/
def SW (w : World) (L : List UInt32) (wr : World) : Prop := Below w.heap.size w wr ∧ (∃ z, wr.heap[w.heap.size]? = some (.cells z 134) ∧ z.size = 64) ∧ wr.heap[w.heap.size + 1]? = some (.cells (uc (L ++ List.replicate (64 - L.length) 0)) 134)

theorem sw_start (w : World) : SW w [] ((w.alloc (.cells (uc (List.replicate 64 0)) 134)).alloc (.cells (uc (List.replicate 64 0)) 134)) := by
  refine ⟨((Below.refl _ _).alloc (Nat.le_refl _) _).alloc (by simp) _, ⟨uc (List.replicate 64 0), ?_, by simp [uc]⟩, ?_⟩
  · rw [heap_past _ _ _ (by simp), heap_last _ _ _ rfl]
  · rw [heap_last _ _ _ (by simp)]
    rfl
theorem SW.store {w : World} {L : List UInt32} {wr : World} (h : SW w L wr) (hL : L.length < 64) (k : Nat) (hk : L.length = k) (x : UInt32) : SW w (L ++ [x]) (wr.setCell ⟨w.heap.size + 1, k, none⟩ (.int .u32 (u x))) := by
  subst hk
  obtain ⟨h1, ⟨z, h3, h3'⟩, h4⟩ := h
  have hb : Below (w.heap.size + 1) wr (wr.setCell ⟨w.heap.size + 1, L.length, none⟩ (.int .u32 (u x))) := (Below.refl _ _).setCell (p := ⟨w.heap.size + 1, L.length, none⟩) (Nat.le_refl _) _
  refine ⟨h1.setCell (p := ⟨w.heap.size + 1, L.length, none⟩) (by simp) _, ⟨z, (hb.block _ (by omega)).trans h3, h3'⟩, ?_⟩
  rw [heap_setCell _ _ _ _ _ _ _ h4, uc_set L x 64 hL]
theorem SW.drew {w : World} {L : List UInt32} {wr : World} (h : SW w L wr) : SW w L wr.drew := by
  obtain ⟨h1, h3, h4⟩ := h
  exact ⟨h1.drew, h3, h4⟩
theorem SW.get {w : World} {L : List UInt32} {wr : World} (h : SW w L wr) (k : Nat) (hk : k < L.length) : wr.cell? ⟨w.heap.size + 1, k, none⟩ = some (.int .u32 (u (L.getD k 0))) := by
  rw [cell_of_row _ _ _ _ _ _ h.2.2, uc_get _ _ (by simp; omega)]
  simp [List.getD, List.getElem?_append_left hk]
theorem SW.room {w : World} {L : List UInt32} {wr : World} (h : SW w L wr) (k : Nat) (hk : L.length = k) (hL : k < 64) : wr.cell? ⟨w.heap.size + 1, k, none⟩ = some (.int .u32 (u 0)) ∧ wr.frozen? ⟨w.heap.size + 1, k, none⟩ = false := by
  subst hk
  constructor
  · rw [cell_of_row _ _ _ _ _ _ h.2.2, uc_get _ _ (by simp; omega)]
    obtain ⟨m, hm⟩ : ∃ m, 64 - L.length = m + 1 := ⟨64 - L.length - 1, by omega⟩
    simp [List.getD, hm, List.replicate_succ]
  · simp [World.frozen?, h.2.2]

set_option maxRecDepth 20000 in
set_option maxHeartbeats 1600000 in
theorem words_any (w : World) (b off cap : Nat) (l : List UInt8) (hl : l.length = 64) (h : Sl w (.slice (some ⟨b, off, none⟩) 64 cap) l) :
    Calls Try.prog 65 #[.slice (some ⟨b, off, none⟩) 64 cap] w fun e w' => e = .returned (.agg (uc (ext (words l) 48))) ∧ Below w.heap.size w w' := by
  obtain ⟨hbl, hcell⟩ : b < w.heap.size ∧ ∀ j, j < 64 → w.cell? ⟨b, off + j, none⟩ = some (.int .u8 ((l.getD j 0).toNat : Int)) := by
    obtain ⟨ao, cap', hv, h1, h2, h3, h4⟩ := h
    obtain ⟨b', off', ha, hb, hc⟩ := h4 (by rintro rfl; simp at hl)
    injection hv with e1 e2 e3
    rw [← e1] at ha
    injection ha with ha
    injection ha with e4 e5
    subst e4 e5
    refine ⟨hb, fun j hj => ?_⟩
    rw [hc j (by omega), List.getD_eq_getElem?_getD, List.getElem?_eq_getElem (by omega)]
    rfl
  clear h
  go_enter Try.func65, Try.ntmps65
  go_wp2_with fail
  go_loopw [4] (fun t wr => ∃ k : Nat, k ≤ 16 ∧ t = .int .i64 k ∧ SW w ((words l).take k) wr)
    (fun t _ => 16 - (intOf t).toNat)
  case atStart =>
    refine ⟨0, by omega, rfl, ?_⟩
    exact sw_start w
  case round =>
    obtain ⟨k, hk, rfl, hR⟩ := hrel
    by_cases hlt : k < 16
    · have c0 := (hR.1.cell (p := ⟨b, off + 4 * k, none⟩) hbl).trans (hcell (4 * k) (by omega))
      have c1 := (hR.1.cell (p := ⟨b, off + (4 * k + 1), none⟩) hbl).trans (hcell (4 * k + 1) (by omega))
      have c2 := (hR.1.cell (p := ⟨b, off + (4 * k + 2), none⟩) hbl).trans (hcell (4 * k + 2) (by omega))
      have c3 := (hR.1.cell (p := ⟨b, off + (4 * k + 3), none⟩) hbl).trans (hcell (4 * k + 3) (by omega))
      have hS : (words l).take (k + 1) = (words l).take k ++ [word (l.getD (4 * k) 0) (l.getD (4 * k + 1) 0) (l.getD (4 * k + 2) 0) (l.getD (4 * k + 3) 0)] := words_take l k hlt
      have hlen : ((words l).take k).length = k := by simp [words]; omega
      obtain ⟨hroom, hfr⟩ := hR.room k hlen (by omega)
      generalize l.getD (4 * k) 0 = b0 at *
      generalize l.getD (4 * k + 1) 0 = b1 at *
      generalize l.getD (4 * k + 2) 0 = b2 at *
      generalize l.getD (4 * k + 3) 0 = b3 at *
      rw [u_of8] at c0 c1 c2 c3
      have HS := hide hS
      have HR := hide hR
      have HL := hide hlen
      clear hS hR hlen hcell
      go_wp2_with fail
      go_region
      go_wp2_with fail
      refine ⟨⟨k + 1, by omega, by go_num, ?_⟩, by simp [intOf]; omega⟩
      rw [word_u, HS.out]
      exact (HR.out.store (by rw [HL.out]; omega) k HL.out _).drew
    · obtain rfl : k = 16 := by omega
      rw [List.take_of_length_le (by rw [words_length]; omega)] at hR
      rw [show ((16 : Nat) : Int) = 16 from rfl]
      clear hcell
      go_wp2_with fail
      go_loopw [5] (fun t wr => ∃ k : Nat, 16 ≤ k ∧ k ≤ 64 ∧ t = .int .i64 (k : Int) ∧ SW w (ext (words l) (k - 16)) wr)
        (fun t _ => 64 - (intOf t).toNat)
      case atStart => exact ⟨16, by omega, by omega, rfl, hR⟩
      case round =>
        clear hR
        obtain ⟨k, hk0, hk, rfl, hR⟩ := hrel
        have hlen : (ext (words l) (k - 16)).length = k := by rw [ext_length, words_length]; omega
        by_cases hlt : k < 64
        · have hS : ext (words l) (k + 1 - 16) = ext (words l) (k - 16) ++ [s1 ((ext (words l) (k - 16)).getD (k - 2) 0) + (ext (words l) (k - 16)).getD (k - 7) 0 + s0 ((ext (words l) (k - 16)).getD (k - 15) 0) + (ext (words l) (k - 16)).getD (k - 16) 0] := by
            rw [show k + 1 - 16 = (k - 16) + 1 from by omega]
            show _ ++ [next _] = _
            unfold next
            rw [hlen]
          have c0 := hR.get (k - 2) (by omega)
          have c1 := hR.get (k - 7) (by omega)
          have c2 := hR.get (k - 15) (by omega)
          have c3 := hR.get (k - 16) (by omega)
          obtain ⟨hroom, hfr⟩ := hR.room k hlen (by omega)
          generalize (ext (words l) (k - 16)).getD (k - 2) 0 = b0 at *
          generalize (ext (words l) (k - 16)).getD (k - 7) 0 = b1 at *
          generalize (ext (words l) (k - 16)).getD (k - 15) 0 = b2 at *
          generalize (ext (words l) (k - 16)).getD (k - 16) 0 = b3 at *
          have HS := hide hS
          have HR := hide hR
          have HL := hide hlen
          clear hS hR hlen
          have hx := u_xor
          have hp := u_add
          have hp' := u_add'
          have h3 := u_shr3
          have h10 := u_shr10
          go_wp2_with fail
          refine (rr7 _ b2).mono ?_
          rintro e1 w1 ⟨rfl, rfl⟩
          go_wp2_with fail
          refine (rr18 _ b2).mono ?_
          rintro e1 w1 ⟨rfl, rfl⟩
          go_wp2_with fail
          refine (rr17 _ b0).mono ?_
          rintro e1 w1 ⟨rfl, rfl⟩
          go_wp2_with fail
          refine (rr19 _ b0).mono ?_
          rintro e1 w1 ⟨rfl, rfl⟩
          go_wp2_with fail
          go_region
          go_wp2_with fail
          refine ⟨⟨k + 1, by omega, by omega, by go_num, ?_⟩, by simp [intOf]; omega⟩
          rw [HS.out]
          exact (HR.out.store (by rw [HL.out]; exact hlt) k HL.out _).drew
        · obtain rfl : k = 64 := by omega
          have hb := hR.1
          have hrow := hR.2.2
          rw [hlen] at hrow
          simp only [Nat.sub_self, List.replicate_zero, List.append_nil] at hrow
          obtain ⟨z, hz, hz'⟩ := hR.2.1
          have hsz : (uc (ext (words l) 48)).size = 64 := by rw [uc_size]; exact hlen
          clear hR hlen
          have hi : (Try.prog.info? 134).map (·.size) = some (uc (ext (words l) 48)).size := by rw [hsz]; exact Try.infoA64
          have HI := hide hi
          have HZ := hide hz'
          have HS := hide hsz
          have hone := hide (uc_one (ext (words l) 48))
          clear hi hz' hsz
          have hrow' : wr.heap[w.heap.size + 1]? = some (.cells (uc (ext (words l) 48)) 134) := hrow
          clear hrow
          generalize hC : uc (ext (words l) 48) = C at *
          have HC := hide hC
          clear hC
          go_wp2_with (first | (refine wpList_load_row rfl 134 (.tmp 3) rfl _ rfl 134 C (0, 0) _ hrow' Try.underlying134 rfl HI.out ?_) | (refine wpList_store_arr _ rfl 134 (.tmp 2) (.tmp 92) rfl _ C rfl rfl 134 z hz HI.out (by rw [HZ.out, HS.out]) hone.out ?_; intro w2 hrow2 hg2))
          have hb2 := hb.grown hg2 hb.size (by intro k hk; injection hk with hk; omega)
          refine bodyPost_ret (v := .agg C) (results_cell_row rfl _ _ _ _ _ _ _ rfl hrow2 Try.underlying134 rfl HI.out) rfl ⟨ret_agg HC.out.symm, hb2⟩

end Go.Proofs.Ytldfjpgcemfpjaa

/-
  What the reference's constants answer. No condition.
-/
namespace Go.Proofs.Ytldfjpgcemfpjaa
open Go.RowKit

/-- The sixty-four, as they stand in the program's text. -/
def kB : Array (Nat × Operand) := ((List.range 64).map fun i => (i, Operand.const (.int .u32 (u (kL.getD i 0))))).toArray
theorem build43 (a : Act) (w : World) (d : Option Tmp) (ty : TypeId) (p : String) (af : Array Edge) (g : Option (Nat × Bool)) :
    (execOp a.eval { dst := d, op := .build 134 kB, type := ty, pos := p, after := af, guard := g }).run Try.prog w = .ok (.value (.agg (uc kL))) w := by
  kernel_rfl
theorem wpList_build43 (w : World) {ops : Array Oper} {rest : List Oper} {d : Option Tmp} {x : Array (Nat × Operand)} {ty : TypeId} {p : String} {af : Array Edge} {a : Act} {Q : Exit → Act → World → Prop} (hx : x = kB)
    (h : wpList Try.prog ops Q rest (a.put d (.agg (uc kL))) w) : wpList Try.prog ops Q ({ dst := d, op := .build 134 x, type := ty, pos := p, after := af, guard := none } :: rest) a w := by
  subst hx
  exact wpList_plain rfl fun K hK => by
    unfold Oper.wp
    rw [build43]
    exact hK _ _ h

set_option maxRecDepth 20000 in
theorem consts_any (w : World) : Calls Try.prog 63 #[] w fun e w' => e = .returned (.agg (uc kL)) ∧ Below w.heap.size w w' := by
  have hi : (Try.prog.info? 134).map (·.size) = some (uc kL).size := Try.infoA64
  have hz : (uc (List.replicate 64 0)).size = (uc kL).size := by rw [uc_size, uc_size]; rfl
  have ho := hide (uc_one kL)
  have hz0 := z64
  have HI := hide hi
  have HZ := hide hz
  clear hi hz
  go_enter Try.func63, Try.ntmps63
  go_wp2_with (first | (refine wpList_build43 _ (by kernel_rfl) ?_) | (refine wpList_store_arr _ rfl 134 (.tmp 0) (.tmp 1) rfl _ (uc kL) rfl rfl 134 (uc (List.replicate 64 0)) (heap_last _ _ _ rfl) HI.out HZ.out ho.out ?_; intro w2 hrow2 hg2))
  have hb2 := ((Below.refl w.heap.size w).alloc (Nat.le_refl _) _).grown hg2 (by simp) (by intro k hk; injection hk with hk; omega)
  exact bodyPost_ret (v := .agg (uc kL)) (results_cell_row rfl _ _ _ _ _ _ _ rfl hrow2 Try.underlying134 rfl HI.out) rfl ⟨rfl, hb2⟩
end Go.Proofs.Ytldfjpgcemfpjaa
