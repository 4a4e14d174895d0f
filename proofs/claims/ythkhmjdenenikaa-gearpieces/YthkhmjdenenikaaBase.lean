/-
  What the program's texts share: numbers of 64 bits, what of a world has changed, slices of texts and of places. Conditions: none.
-/
import Derived.Test.YthkhmjdenenikaaRows
import Derived.Test.YthkhmjdenenikaaPlain
import Derived.WalkKit
import Derived.ProofKit
import Derived.BigQuiet
import Derived.BigRegion
import Derived.Deep.RegionWith
import Derived.Deep.RegionHeld
import Derived.Deep.RegionLaw
import Derived.Deep.LoopGhost
import Derived.Deep.CutRange
import Derived.WalkSmall
import Derived.OwnWalk
import Derived.Laws.AppendOwn
import Derived.Laws.BitsAllLaws
import Derived.Maps.AppendAt
import Derived.Lib.SliceRun
import Derived.Laws.Bits64
namespace Go.Proofs.Ythkhmjdenenikaa
open Go.RowKit

theorem hide {p : Prop} (h : p) : Hid p := h
theorem toL (l : List UInt8) : (strB l).toList = l := by rw [ByteArray.toList_eq]; exact strB_list l
theorem ret_bool {a b : Bool} (h : a = b) : Ending.returned (.bool a) = .returned (.bool b) := by rw [h]
theorem ret_int {k : IntKind} {a b : Int} (h : a = b) : Ending.returned (.int k a) = .returned (.int k b) := by rw [h]

/-- A number of 64 bits as the program's. -/
def u (x : UInt64) : Int := (x.toNat : Int)
theorem u_lt (x : UInt64) : x.toNat < 18446744073709551616 := x.toNat_lt
theorem u_xor (x y : UInt64) : bits .xor .u64 (u x) (u y) = u (x ^^^ y) := by
  unfold u
  rw [u64_xor_nat _ _ (u_lt x) (u_lt y), UInt64.toNat_xor]
theorem u_add (x y : UInt64) : (u x + u y) % 18446744073709551616 = u (x + y) := by
  unfold u
  rw [UInt64.toNat_add]
  omega
theorem u_mul (x y : UInt64) : (u x * u y) % 18446744073709551616 = u (x * y) := by
  unfold u
  rw [UInt64.toNat_mul, ← Int.natCast_mul]
  generalize x.toNat * y.toNat = z
  omega
theorem u_shr (x n : UInt64) (k : Nat) (hk : n.toNat = k) (h : k < 64) : u x / 2 ^ k = u (x >>> n) := by
  unfold u
  rw [UInt64.toNat_shiftRight, hk, Nat.mod_eq_of_lt h, Nat.shiftRight_eq_div_pow, show ((2 : Int) ^ k) = ((2 ^ k : Nat) : Int) from by simp, ← Int.natCast_ediv]

theorem u_shr' (x n : UInt64) (k : Nat) (d : Int) (hk : n.toNat = k) (h : k < 64) (hd : d = 2 ^ k) : u x / d = u (x >>> n) := by rw [hd]; exact u_shr x n k hk h
theorem w_mul (x y : UInt64) (d : Int) (hd : d = u y) : IntKind.u64.wrap (u x * d) = u (x * y) := by rw [IntKind.wrap_u64, hd, u_mul]
theorem w_add (x y : UInt64) : IntKind.u64.wrap (u x + u y) = u (x + y) := by rw [IntKind.wrap_u64, u_add]
theorem u_succ (c : UInt8) : (c.toNat : Int) + 1 = u (c.toUInt64 + 1) := by
  have := c.toNat_lt
  unfold u
  rw [UInt64.toNat_add, UInt8.toNat_toUInt64]
  simp
  omega
theorem u_inj {a b : UInt64} (h : u a = u b) : a = b := UInt64.toNat_inj.1 (Int.ofNat.inj h)
theorem u_bounds (x : UInt64) : 0 ≤ u x ∧ u x ≤ 18446744073709551615 := by have := u_lt x; unfold u; omega

set_option maxRecDepth 20000 in
theorem table_any (w : World) (c : UInt8) : Calls Try.prog 11 #[.int .u8 (c.toNat : Int)] w fun e w' => e = .returned (.int .u64 (u (tab c))) ∧ w' = w := by
  have hc := c.toNat_lt
  go_enter Try.func11, Try.ntmps11
  go_wp2
  go_ret
  refine ⟨ret_int ?_, rfl⟩
  rw [u_succ, w_mul _ 11400714819323198485 11400714819323198485 rfl, u_shr' _ 30 30 1073741824 rfl (by decide) rfl, u_xor, w_mul _ 13787848793156543929 13787848793156543929 rfl, u_shr' _ 27 27 134217728 rfl (by decide) rfl, u_xor, w_mul _ 10723151780598845931 10723151780598845931 rfl, u_shr' _ 31 31 2147483648 rfl (by decide) rfl, u_xor]
  rfl
theorem index_str (w : World) (l : List UInt8) (kd : IntKind) (k : Nat) (h : k < l.length) : (Instr.index 9 (.string (strB l)) (.int kd (k : Int))).run Try.prog w = .ok (.int .u8 ((l[k]'h).toNat : Int)) w := by
  have a1 : (0 : Int) ≤ (k : Int) := by omega
  have h1 : (strB l)[k]? = some (l[k]'h) := by
    have hs : k < (strB l).size := by rw [strB_size]; exact h
    rw [getElem?_pos (strB l) k hs]
    rfl
  unfold Instr.index
  simp only [asIntOf, Sem.run_bind, Sem.run_pure, Result.andThen_ok, run_underlying Try.underlying9 w]
  rw [if_pos a1, Int.toNat_natCast, h1]
  rfl
theorem ext_strB (l : List UInt8) (i j : Nat) : (strB l).extract i j = strB ((l.take j).drop i) := by
  apply ByteArray.ext
  simp [strB, List.drop_take]
theorem ext_mid (l : List UInt8) (f i : Nat) : (strB l).extract f i = strB ((l.drop f).take (i - f)) := by rw [ext_strB, List.drop_take]

/-! ### what has changed -/
/-- Of the blocks that were there only those in F have changed. -/
structure Chg (F : Nat → Prop) (w w' : World) : Prop where
  os : w'.os = w.os
  tape : w'.tape = w.tape
  output : w'.output = w.output
  size : w.heap.size ≤ w'.heap.size
  block : ∀ k, k < w.heap.size → ¬ F k → w'.heap[k]? = w.heap[k]?
theorem Chg.refl (F : Nat → Prop) (w : World) : Chg F w w := ⟨rfl, rfl, rfl, Nat.le_refl _, fun _ _ _ => rfl⟩
theorem Chg.trans {F G : Nat → Prop} {a b c : World} (h : Chg F a b) (k : Chg G b c) (hG : ∀ i, i < a.heap.size → G i → F i) : Chg F a c :=
  ⟨k.os.trans h.os, k.tape.trans h.tape, k.output.trans h.output, Nat.le_trans h.size k.size,
    fun i hi hn => (k.block i (Nat.lt_of_lt_of_le hi h.size) (fun g => hn (hG i hi g))).trans (h.block i hi hn)⟩
theorem Chg.then {F : Nat → Prop} {a b c : World} (h : Chg F a b) (k : Chg F b c) : Chg F a c := h.trans k (fun _ _ g => g)
theorem Chg.drew {F : Nat → Prop} {a b : World} (h : Chg F a b) : Chg F a b.drew := ⟨h.os, h.tape, h.output, h.size, h.block⟩
theorem Chg.alloc {F : Nat → Prop} {a b : World} (h : Chg F a b) (o : Obj) : Chg F a (b.alloc o) :=
  ⟨h.os, h.tape, h.output, Nat.le_trans h.size (by simp), fun i hi hn => (Below.heap_alloc _ _ _ (Nat.lt_of_lt_of_le hi h.size)).trans (h.block i hi hn)⟩
theorem Chg.setCell {F : Nat → Prop} {a b : World} (h : Chg F a b) {p : Addr} (hp : F p.block ∨ a.heap.size ≤ p.block) (u : Value) : Chg F a (b.setCell p u) :=
  ⟨h.os, h.tape, h.output, Nat.le_trans h.size (by simp [World.setCell]), fun i hi hn => (Below.heap_setCell _ _ _ _ (by
    intro e
    rcases hp with hp | hp
    · exact hn (e ▸ hp)
    · omega)).trans (h.block i hi hn)⟩
theorem Chg.of_grown {w w' : World} {row : Option Nat} (h : w.grownBy w' row) : Chg (fun k => some k = row) w w' :=
  ⟨h.os, h.tape, h.output, h.size, fun k hk hn => h.block k hk hn⟩
theorem Chg.below {F : Nat → Prop} {w w' : World} {B : Nat} (h : Chg F w w') (hF : ∀ k, F k → B ≤ k) (hB : B ≤ w.heap.size) : Below B w w' :=
  ⟨h.os, h.tape, h.output, h.size, fun k hk => h.block k (by omega) (fun f => by have := hF k f; omega)⟩
theorem Chg.keep {F : Nat → Prop} {w w' : World} (h : Chg F w w') {k : Nat} {o : Obj} (hk : w.heap[k]? = some o) (hn : ¬ F k) : w'.heap[k]? = some o :=
  (h.block k (Array.getElem?_eq_some_iff.1 hk).1 hn).trans hk
theorem lt_of_heap {w : World} {n : Nat} {o : Obj} (h : w.heap[n]? = some o) : n < w.heap.size := (Array.getElem?_eq_some_iff.1 h).1
theorem heap_last (w : World) (o : Obj) : (w.alloc o).heap[w.heap.size]? = some o := by
  show (w.heap.push o)[w.heap.size]? = some o
  simp
theorem heap_past {w : World} {n : Nat} {x : Obj} (o : Obj) (h : w.heap[n]? = some x) : (w.alloc o).heap[n]? = some x :=
  (Below.heap_alloc _ _ _ (lt_of_heap h)).trans h
theorem heap_set {w : World} {g : Nat} {c : Array Value} {t : TypeId} {fr : Nat × Nat} (h : w.heap[g]? = some (.cells c t fr)) (i : Nat) (u : Value) :
    (w.setCell ⟨g, i, none⟩ u).heap[g]? = some (.cells (c.setIfInBounds i u) t fr) := by
  simp [World.setCell, Array.getElem?_modify, h]
theorem cell_of {w : World} {g : Nat} {c : Array Value} {t : TypeId} {fr : Nat × Nat} (h : w.heap[g]? = some (.cells c t fr)) (i : Nat) : w.cell? ⟨g, i, none⟩ = c[i]? := by
  simp [World.cell?, h]
theorem thawed {w : World} {g : Nat} {c : Array Value} {t : TypeId} (h : w.heap[g]? = some (.cells c t (0, 0))) (i : Nat) : w.frozen? ⟨g, i, none⟩ = false := by
  simp [World.frozen?, h]
theorem own_keep {F : Nat → Prop} {w w' : World} {base n size : Nat} {e : TypeId} {v : Value} {xs : List Value} (h : w.ownsRow base e size v n xs) (hc : Chg F w w') (hF : ∀ k, v.ownBlock = some k → ¬ F k) : w'.ownsRow base e size v n xs := by
  refine ⟨h.1, ?_⟩
  rcases h.2 with h | ⟨g', cap', cur, rfl, hb', hh, r⟩
  · exact Or.inl h
  · exact Or.inr ⟨g', cap', cur, rfl, hb', hc.keep hh (hF _ rfl), r⟩
theorem own_down {w : World} {base base' n size : Nat} {e : TypeId} {v : Value} {xs : List Value} (h : w.ownsRow base e size v n xs) (hb : base' ≤ base) : w.ownsRow base' e size v n xs := by
  refine ⟨h.1, ?_⟩
  rcases h.2 with h | ⟨g', cap', cur, rfl, hb', r⟩
  · exact Or.inl h
  · exact Or.inr ⟨g', cap', cur, rfl, by omega, r⟩
/-- Rows of two kinds are two. -/
theorem own_obj {w : World} {base n size : Nat} {e e' : TypeId} {v : Value} {xs : List Value} {k : Nat} {c : Array Value} {fr : Nat × Nat} (h : w.ownsRow base e size v n xs) (hk : w.heap[k]? = some (.cells c e' fr)) (he : e ≠ e') : v.ownBlock ≠ some k := by
  intro hv
  rcases h.2 with ⟨rfl, _⟩ | ⟨g', cap', cur, rfl, hb', hh, r⟩
  · cases hv
  · injection hv with hv
    dsimp only at hv
    subst hv
    rw [hh] at hk
    injection hk with hk
    injection hk with _ hk
    exact he hk
theorem own_apart {w : World} {base n size base' n' size' : Nat} {e e' : TypeId} {v v' : Value} {xs xs' : List Value} (h : w.ownsRow base e size v n xs) (h' : w.ownsRow base' e' size' v' n' xs') (he : e ≠ e') : ∀ k, v.ownBlock = some k → some k ≠ v'.ownBlock := by
  intro k hk hk'
  rcases h'.2 with ⟨rfl, _⟩ | ⟨g', cap', cur, rfl, hb', hh, r⟩
  · cases hk'
  · injection hk' with hk'
    subst hk'
    exact own_obj h hh he hk
theorem own_form {w : World} {base n size : Nat} {e : TypeId} {v : Value} {xs : List Value} (h : w.ownsRow base e size v n xs) : ∃ ao cap, v = .slice ao n cap ∧ n ≤ cap ∧ cap ≤ maxLen ∧
    (0 < n → ∃ g, ao = some ⟨g, 0, none⟩ ∧ base ≤ g ∧ g < w.heap.size ∧ ∀ j u, xs[j]? = some u → w.cell? ⟨g, j, none⟩ = some u) := by
  have h0 := h
  rcases h.2 with ⟨rfl, rfl⟩ | ⟨g, cap', cur, rfl, hg, hh, h1, h2, -⟩
  · exact ⟨none, 0, rfl, Nat.le_refl _, by simp, fun h => by omega⟩
  · refine ⟨_, _, rfl, h1, h2, fun _ => ⟨g, rfl, hg, lt_of_heap hh, fun j u hu => ?_⟩⟩
    have := World.ownsRow.cells h0 (g := g) rfl j u hu
    rw [Addr.add_lit, Nat.zero_add] at this
    exact this

/-! ### rows -/
/-- Bytes, texts, places as cells. -/
def bc (l : List UInt8) : List Value := l.map fun c => Value.int .u8 (c.toNat : Int)
theorem bc_length (l : List UInt8) : (bc l).length = l.length := by simp [bc]
theorem bc_append (a b : List UInt8) : bc (a ++ b) = bc a ++ bc b := by simp [bc]
theorem bc_get (l : List UInt8) (j : Nat) (h : j < l.length) : (bc l)[j]? = some (.int .u8 ((l[j]'h).toNat : Int)) := by simp [bc, h]
def tc (xs : List (List UInt8)) : List Value := xs.map fun x => .string (strB x)
theorem tc_length (xs : List (List UInt8)) : (tc xs).length = xs.length := by simp [tc]
theorem tc_get (xs : List (List UInt8)) (j : Nat) (h : j < xs.length) : (tc xs)[j]? = some (.string (strB xs[j])) := by simp [tc, h]
theorem tc_append (a b : List (List UInt8)) : tc (a ++ b) = tc a ++ tc b := by simp [tc]
def ic (ns : List Nat) : List Value := ns.map fun (n : Nat) => Value.int .i64 (n : Int)
theorem ic_length (xs : List Nat) : (ic xs).length = xs.length := by simp [ic]
theorem ic_get (xs : List Nat) (j : Nat) (h : j < xs.length) : (ic xs)[j]? = some (.int .i64 (xs[j] : Int)) := by simp [ic, h]
theorem ic_append (a b : List Nat) : ic (a ++ b) = ic a ++ ic b := by simp [ic]
theorem Try.infoT : (Try.prog.info? 9).map (fun i => (i.zero, i.size, i.bytes)) = some (some (.string ⟨#[]⟩), 1, 16) := by kernel_rfl
theorem Try.infoI : (Try.prog.info? 3).map (fun i => (i.zero, i.size, i.bytes)) = some (some (.int .i64 0), 1, 8) := by kernel_rfl
theorem Try.infoB : (Try.prog.info? 5).map (fun i => (i.zero, i.size, i.bytes)) = some (some (.int .u8 0), 1, 1) := by kernel_rfl
end Go.Proofs.Ythkhmjdenenikaa
