/-
  Texts joined: GPlain, GBase, GSteps, GChunk, GCuts.
-/
import Derived.Test.YtokebnkgjchfaaaGreatDoorProg
import Derived.Test.YtokebnkgjchfaaaGreatDoorRows
import Derived.WalkKit
import Derived.ProofKit
import Derived.BigQuiet
import Derived.BigRegion
import Derived.Deep.RegionWith
import Derived.Deep.RegionHeld
import Derived.Deep.RegionLaw
import Derived.Deep.LoopGhost
import Derived.Deep.CutRange
import Derived.WalkSmall
import Derived.OwnWalk
import Derived.Laws.AppendOwn
import Derived.Laws.BitsAllLaws
import Derived.Maps.AppendAt
import Derived.Lib.SliceRun
import Derived.Laws.Bits64
/-
  Where texts are cut, plainly: bytes' numbers, the sum of a chunk under way, chunks. No program here. Conditions: none.
-/
namespace Go.Proofs.YtokebnkgjchfaaaGreatDoor.Gr

/-- A text of these bytes. -/
def strB (l : List UInt8) : ByteArray := ⟨l.toArray⟩
theorem strB_list (l : List UInt8) : (strB l).data.toList = l := by simp [strB]
theorem strB_size (l : List UInt8) : (strB l).size = l.length := by simp [strB, ByteArray.size]
theorem strB_of (s : ByteArray) : strB s.data.toList = s := by simp [strB]
theorem strB_inj {a b : List UInt8} (h : strB a = strB b) : a = b := by rw [← strB_list a, h, strB_list]

/-- A byte's number. -/
def tab (c : UInt8) : UInt64 :=
  let z := (c.toUInt64 + 1) * 11400714819323198485
  let z := (z ^^^ (z >>> 30)) * 13787848793156543929
  let z := (z ^^^ (z >>> 27)) * 10723151780598845931
  z ^^^ (z >>> 31)
def nxt (s : UInt64) (c : UInt8) : UInt64 := 2 * s + tab c
/-- The sum of what a chunk has. -/
def sm (h : List UInt8) : UInt64 := (h.drop 64).foldl nxt 0
theorem sm_snoc (h : List UInt8) (c : UInt8) : sm (h ++ [c]) = if h.length + 1 > 64 then nxt (sm h) c else sm h := by
  unfold sm
  by_cases hl : 64 ≤ h.length
  · rw [if_pos (by omega), List.drop_append_of_le_length hl, List.foldl_append]
    rfl
  · rw [if_neg (by omega), List.drop_eq_nil_of_le (by simp; omega), List.drop_eq_nil_of_le (by omega)]
/-- Does a chunk of n bytes and that sum end? -/
def full (n : Nat) (s : UInt64) : Bool :=
  if n ≤ 64 then false else if n ≤ 256 then s >>> 54 == 0 else if n < 1024 then s >>> 58 == 0 else true
/-- It ends with its last byte. -/
def ended (h : List UInt8) : Bool := full h.length (sm h)
theorem ended_short {h : List UInt8} (hl : h.length ≤ 64) : ended h = false := by unfold ended full; rw [if_pos hl]
theorem ended_long {h : List UInt8} (hl : 1024 ≤ h.length) : ended h = true := by
  unfold ended full; rw [if_neg (by omega), if_neg (by omega), if_neg (by omega)]

/-- Nothing ends within it. -/
def Hd (h : List UInt8) : Prop := ∀ n, n ≤ h.length → ended (h.take n) = false
/-- It ends with its last byte, and not sooner. -/
def Ck (c : List UInt8) : Prop := ended c = true ∧ ∀ n, n < c.length → ended (c.take n) = false
theorem Hd.nil : Hd [] := fun n hn => ended_short (by simp)
theorem Hd.lt {h : List UInt8} (k : Hd h) : h.length < 1024 := by
  rcases Nat.lt_or_ge h.length 1024 with a | a
  · exact a
  · have := k h.length (Nat.le_refl _)
    rw [List.take_length, ended_long a] at this
    cases this
theorem Ck.pos {c : List UInt8} (k : Ck c) : 64 < c.length := by
  rcases Nat.lt_or_ge 64 c.length with a | a
  · exact a
  · have := k.1
    rw [ended_short a] at this
    cases this
theorem Ck.le {c : List UInt8} (k : Ck c) : c.length ≤ 1024 := by
  rcases Nat.lt_or_ge 1024 c.length with a | a
  · have := k.2 1024 a
    rw [ended_long (by simp; omega)] at this
    cases this
  · exact a
theorem Hd.snoc {h : List UInt8} {c : UInt8} (k : Hd h) (he : ended (h ++ [c]) = false) : Hd (h ++ [c]) := by
  intro n hn
  rcases Nat.lt_or_ge h.length n with a | a
  · rw [List.take_of_length_le (by simp; omega)]; exact he
  · rw [List.take_append_of_le_length a]; exact k n a
theorem Hd.cut {h : List UInt8} {c : UInt8} (k : Hd h) (he : ended (h ++ [c]) = true) : Ck (h ++ [c]) := by
  refine ⟨he, fun n hn => ?_⟩
  rw [List.take_append_of_le_length (by simp at hn; omega)]
  exact k n (by simp at hn; omega)
theorem Hd.pre {a b : List UInt8} (k : Hd (a ++ b)) : Hd a := by
  intro n hn
  have := k n (by simp; omega)
  rwa [List.take_append_of_le_length hn] at this
theorem Ck.pre {a b : List UInt8} (k : Ck (a ++ b)) (hb : b ≠ []) : Hd a := by
  intro n hn
  have := k.2 n (by have := List.length_pos_iff.2 hb; simp; omega)
  rwa [List.take_append_of_le_length hn] at this

/-- What is told so far, and what is held. -/
structure Sp where
  t : List (List UInt8)
  h : List UInt8
def adv (x : Sp) (c : UInt8) : Sp := if ended (x.h ++ [c]) then ⟨x.t ++ [x.h ++ [c]], []⟩ else ⟨x.t, x.h ++ [c]⟩
def spl (x : Sp) (l : List UInt8) : Sp := l.foldl adv x
theorem spl_nil (x : Sp) : spl x [] = x := rfl
theorem spl_cons (x : Sp) (c : UInt8) (l : List UInt8) : spl x (c :: l) = spl (adv x c) l := rfl
theorem spl_append (x : Sp) (a b : List UInt8) : spl x (a ++ b) = spl (spl x a) b := List.foldl_append ..
theorem spl_snoc (x : Sp) (a : List UInt8) (c : UInt8) : spl x (a ++ [c]) = adv (spl x a) c := by rw [spl_append]; rfl
/-- All that is told are chunks; what is held has no end. -/
def Sp.ok (x : Sp) : Prop := (∀ c ∈ x.t, Ck c) ∧ Hd x.h
theorem Sp.ok.adv {x : Sp} (k : x.ok) (c : UInt8) : (adv x c).ok := by
  unfold Proofs.YtokebnkgjchfaaaGreatDoor.Gr.adv
  cases he : ended (x.h ++ [c]) with
  | true =>
    refine ⟨fun d hd => ?_, Hd.nil⟩
    simp at hd
    rcases hd with hd | rfl
    · exact k.1 d hd
    · exact k.2.cut he
  | false => exact ⟨k.1, k.2.snoc he⟩
theorem Sp.ok.spl {l : List UInt8} : ∀ {x : Sp}, x.ok → (spl x l).ok := by
  induction l with
  | nil => intro x k; exact k
  | cons c l ih => intro x k; exact ih (k.adv c)
theorem Sp.ok.nil : Sp.ok ⟨[], []⟩ := ⟨by simp, Hd.nil⟩
theorem adv_all (x : Sp) (c : UInt8) : (adv x c).t.flatten ++ (adv x c).h = x.t.flatten ++ x.h ++ [c] := by
  unfold adv
  split <;> simp
theorem spl_all (l : List UInt8) : ∀ x : Sp, (spl x l).t.flatten ++ (spl x l).h = x.t.flatten ++ x.h ++ l := by
  induction l with
  | nil => intro x; simp [spl_nil]
  | cons c l ih => intro x; rw [spl_cons, ih, adv_all]; simp
theorem spl_hd (t : List (List UInt8)) (l : List UInt8) : ∀ h, Hd (h ++ l) → spl ⟨t, h⟩ l = ⟨t, h ++ l⟩ := by
  induction l with
  | nil => intro h _; simp [spl_nil]
  | cons c l ih =>
    intro h k
    have e : h ++ c :: l = (h ++ [c]) ++ l := by simp
    rw [e] at k ⊢
    have k1 := k.pre (h.length + 1) (by simp)
    rw [List.take_of_length_le (by simp)] at k1
    rw [spl_cons, ← ih _ k]
    unfold adv
    simp [k1]
theorem spl_ck (t : List (List UInt8)) (c : List UInt8) (k : Ck c) : spl ⟨t, []⟩ c = ⟨t ++ [c], []⟩ := by
  obtain ⟨a, b, rfl⟩ : ∃ a b, c = a ++ [b] := ⟨c.dropLast, c.getLast (by rintro rfl; have := k.pos; simp at this), (List.dropLast_concat_getLast _).symm⟩
  have ha := k.pre (by simp)
  rw [spl_snoc, spl_hd t a [] (by simpa using ha)]
  unfold adv
  simp [k.1]
theorem spl_cks : ∀ (T : List (List UInt8)) (t : List (List UInt8)), (∀ c ∈ T, Ck c) → spl ⟨t, []⟩ T.flatten = ⟨t ++ T, []⟩
  | [], t, _ => by simp [spl_nil]
  | c :: T, t, k => by
    rw [List.flatten_cons, spl_append, spl_ck t c (k c (by simp)), spl_cks T _ (fun d hd => k d (by simp [hd]))]
    simp
/-- What chunks make, and what no chunk is behind them, is cut just so. -/
theorem spl_made (T : List (List UInt8)) (h : List UInt8) (k : ∀ c ∈ T, Ck c) (kh : Hd h) : spl ⟨[], []⟩ (T.flatten ++ h) = ⟨T, h⟩ := by
  rw [spl_append, spl_cks T [] k, spl_hd _ h [] (by simpa using kh)]
  simp

/-- A text's chunks. -/
def Sp.all (x : Sp) : List (List UInt8) := x.t ++ (if x.h = [] then [] else [x.h])
def chunks (l : List UInt8) : List (List UInt8) := (spl ⟨[], []⟩ l).all
/-- Places behind chunks. -/
def sums : Nat → List (List UInt8) → List Nat
  | _, [] => []
  | p, c :: r => (p + c.length) :: sums (p + c.length) r
def cuts (l : List UInt8) : List Nat := sums 0 (chunks l)
theorem sums_length : ∀ (p : Nat) (T : List (List UInt8)), (sums p T).length = T.length
  | _, [] => rfl
  | p, c :: r => by simp [sums, sums_length]
theorem sums_append : ∀ (p : Nat) (T U : List (List UInt8)), sums p (T ++ U) = sums p T ++ sums (p + T.flatten.length) U
  | p, [], U => by simp [sums]
  | p, c :: r, U => by simp [sums, sums_append]; rw [Nat.add_assoc]
theorem sums_get : ∀ (p : Nat) (T : List (List UInt8)) (j : Nat), j < T.length → (sums p T)[j]? = some (p + (T.take (j + 1)).flatten.length)
  | p, c :: r, 0, _ => by simp [sums]
  | p, c :: r, j + 1, h => by
    have := sums_get (p + c.length) r j (by simpa using h)
    simp only [sums, List.getElem?_cons_succ, this, List.take_succ_cons, List.flatten_cons, List.length_append]
    congr 1
    omega
/-- A list of chunks as a text has it. -/
def Tail (R : List (List UInt8)) : Prop := ∃ T h, (∀ c ∈ T, Ck c) ∧ Hd h ∧ R = T ++ (if h = [] then [] else [h])
theorem Sp.ok.tail {x : Sp} (k : x.ok) : Tail x.all := ⟨x.t, x.h, k.1, k.2, rfl⟩
theorem all_flat (x : Sp) : x.all.flatten = x.t.flatten ++ x.h := by
  unfold Sp.all
  by_cases h : x.h = []
  · simp [h]
  · simp [h]
theorem chunks_flat (l : List UInt8) : (chunks l).flatten = l := by
  unfold chunks
  rw [all_flat, spl_all]
  simp
theorem chunks_tail (l : List UInt8) : Tail (chunks l) := (Sp.ok.nil.spl).tail
theorem Tail.chunks {R : List (List UInt8)} (k : Tail R) : chunks R.flatten = R := by
  obtain ⟨T, h, k1, k2, rfl⟩ := k
  have e : (T ++ if h = [] then [] else [h]).flatten = T.flatten ++ h := by
    by_cases hh : h = []
    · simp [hh]
    · simp [hh]
  unfold Proofs.YtokebnkgjchfaaaGreatDoor.Gr.chunks
  rw [e, spl_made T h k1 k2]
  rfl
theorem Tail.rest {c : List UInt8} {R : List (List UInt8)} (k : Tail (c :: R)) : Tail R := by
  obtain ⟨T, h, k1, k2, e⟩ := k
  cases T with
  | nil =>
    by_cases hh : h = []
    · simp [hh] at e
    · simp [hh] at e
      obtain ⟨_, rfl⟩ := e
      exact ⟨[], [], by simp, Hd.nil, by simp⟩
  | cons d T =>
    simp at e
    exact ⟨T, h, fun x hx => k1 x (by simp [hx]), k2, e.2⟩
theorem Tail.drop {R : List (List UInt8)} (k : Tail R) : ∀ n, Tail (R.drop n)
  | 0 => k
  | n + 1 => by
    have := k.drop n
    cases h : R.drop n with
    | nil =>
      rw [List.drop_eq_nil_iff] at h
      rw [List.drop_eq_nil_of_le (by omega)]
      exact ⟨[], [], by simp, Hd.nil, by simp⟩
    | cons c r =>
      rw [h] at this
      have e : R.drop (n + 1) = r := by rw [← List.drop_drop, h]; rfl
      rw [e]
      exact this.rest
theorem Tail.size {R : List (List UInt8)} (k : Tail R) {j : Nat} (hj : j < R.length) : 1 ≤ R[j].length ∧ R[j].length ≤ 1024 ∧ (j + 1 < R.length → 64 ≤ R[j].length) := by
  obtain ⟨T, h, k1, k2, rfl⟩ := k
  by_cases hT : j < T.length
  · rw [List.getElem_append_left hT]
    have := k1 _ (List.getElem_mem hT)
    have a := this.pos
    have b := this.le
    exact ⟨by omega, b, fun _ => by omega⟩
  · by_cases hh : h = []
    · simp [hh] at hj
      omega
    · simp [hh] at hj
      have e : j = T.length := by omega
      subst e
      have := k2.lt
      have := List.length_pos_iff.2 hh
      simp [hh]
      omega
end Go.Proofs.YtokebnkgjchfaaaGreatDoor.Gr

/-
  What the program's texts share: numbers of 64 bits, what of a world has changed, slices of texts and of places. Conditions: none.
-/
namespace Go.Proofs.YtokebnkgjchfaaaGreatDoor.Gr
open Go.RowKit

theorem hide {p : Prop} (h : p) : Hid p := h
theorem toL (l : List UInt8) : (strB l).toList = l := by rw [ByteArray.toList_eq]; exact strB_list l
theorem ret_bool {a b : Bool} (h : a = b) : Ending.returned (.bool a) = .returned (.bool b) := by rw [h]
theorem ret_int {k : IntKind} {a b : Int} (h : a = b) : Ending.returned (.int k a) = .returned (.int k b) := by rw [h]

/-- A number of 64 bits as the program's. -/
def u (x : UInt64) : Int := (x.toNat : Int)
theorem u_lt (x : UInt64) : x.toNat < 18446744073709551616 := x.toNat_lt
theorem u_xor (x y : UInt64) : bits .xor .u64 (u x) (u y) = u (x ^^^ y) := by
  unfold u
  rw [u64_xor_nat _ _ (u_lt x) (u_lt y), UInt64.toNat_xor]
theorem u_add (x y : UInt64) : (u x + u y) % 18446744073709551616 = u (x + y) := by
  unfold u
  rw [UInt64.toNat_add]
  omega
theorem u_mul (x y : UInt64) : (u x * u y) % 18446744073709551616 = u (x * y) := by
  unfold u
  rw [UInt64.toNat_mul, ← Int.natCast_mul]
  generalize x.toNat * y.toNat = z
  omega
theorem u_shr (x n : UInt64) (k : Nat) (hk : n.toNat = k) (h : k < 64) : u x / 2 ^ k = u (x >>> n) := by
  unfold u
  rw [UInt64.toNat_shiftRight, hk, Nat.mod_eq_of_lt h, Nat.shiftRight_eq_div_pow, show ((2 : Int) ^ k) = ((2 ^ k : Nat) : Int) from by simp, ← Int.natCast_ediv]

theorem u_shr' (x n : UInt64) (k : Nat) (d : Int) (hk : n.toNat = k) (h : k < 64) (hd : d = 2 ^ k) : u x / d = u (x >>> n) := by rw [hd]; exact u_shr x n k hk h
theorem w_mul (x y : UInt64) (d : Int) (hd : d = u y) : IntKind.u64.wrap (u x * d) = u (x * y) := by rw [IntKind.wrap_u64, hd, u_mul]
theorem w_add (x y : UInt64) : IntKind.u64.wrap (u x + u y) = u (x + y) := by rw [IntKind.wrap_u64, u_add]
theorem u_succ (c : UInt8) : (c.toNat : Int) + 1 = u (c.toUInt64 + 1) := by
  have := c.toNat_lt
  unfold u
  rw [UInt64.toNat_add, UInt8.toNat_toUInt64]
  simp
  omega
theorem u_inj {a b : UInt64} (h : u a = u b) : a = b := UInt64.toNat_inj.1 (Int.ofNat.inj h)
set_option maxRecDepth 20000 in
theorem table_any (w : World) (c : UInt8) : Calls Tryz.prog 82 #[.int .u8 (c.toNat : Int)] w fun e w' => e = .returned (.int .u64 (u (tab c))) ∧ w' = w := by
  have hc := c.toNat_lt
  go_enter Tryz.func82, Tryz.ntmps82
  go_wp2
  go_ret
  refine ⟨ret_int ?_, rfl⟩
  rw [u_succ, w_mul _ 11400714819323198485 11400714819323198485 rfl, u_shr' _ 30 30 1073741824 rfl (by decide) rfl, u_xor, w_mul _ 13787848793156543929 13787848793156543929 rfl, u_shr' _ 27 27 134217728 rfl (by decide) rfl, u_xor, w_mul _ 10723151780598845931 10723151780598845931 rfl, u_shr' _ 31 31 2147483648 rfl (by decide) rfl, u_xor]
  rfl
theorem index_str (w : World) (l : List UInt8) (kd : IntKind) (k : Nat) (h : k < l.length) : (Instr.index 9 (.string (strB l)) (.int kd (k : Int))).run Tryz.prog w = .ok (.int .u8 ((l[k]'h).toNat : Int)) w := by
  have a1 : (0 : Int) ≤ (k : Int) := by omega
  have h1 : (strB l)[k]? = some (l[k]'h) := by
    have hs : k < (strB l).size := by rw [strB_size]; exact h
    rw [getElem?_pos (strB l) k hs]
    rfl
  unfold Instr.index
  simp only [asIntOf, Sem.run_bind, Sem.run_pure, Result.andThen_ok, run_underlying Tryz.underlying9 w]
  rw [if_pos a1, Int.toNat_natCast, h1]
  rfl
theorem ext_strB (l : List UInt8) (i j : Nat) : (strB l).extract i j = strB ((l.take j).drop i) := by
  apply ByteArray.ext
  simp [strB, List.drop_take]
/-! ### what has changed -/
/-- Of the blocks that were there only those in F have changed. -/
structure Chg (F : Nat → Prop) (w w' : World) : Prop where
  os : w'.os = w.os
  tape : w'.tape = w.tape
  output : w'.output = w.output
  size : w.heap.size ≤ w'.heap.size
  block : ∀ k, k < w.heap.size → ¬ F k → w'.heap[k]? = w.heap[k]?
theorem Chg.refl (F : Nat → Prop) (w : World) : Chg F w w := ⟨rfl, rfl, rfl, Nat.le_refl _, fun _ _ _ => rfl⟩
theorem Chg.trans {F G : Nat → Prop} {a b c : World} (h : Chg F a b) (k : Chg G b c) (hG : ∀ i, i < a.heap.size → G i → F i) : Chg F a c :=
  ⟨k.os.trans h.os, k.tape.trans h.tape, k.output.trans h.output, Nat.le_trans h.size k.size,
    fun i hi hn => (k.block i (Nat.lt_of_lt_of_le hi h.size) (fun g => hn (hG i hi g))).trans (h.block i hi hn)⟩
theorem Chg.then {F : Nat → Prop} {a b c : World} (h : Chg F a b) (k : Chg F b c) : Chg F a c := h.trans k (fun _ _ g => g)
theorem Chg.drew {F : Nat → Prop} {a b : World} (h : Chg F a b) : Chg F a b.drew := ⟨h.os, h.tape, h.output, h.size, h.block⟩
theorem Chg.alloc {F : Nat → Prop} {a b : World} (h : Chg F a b) (o : Obj) : Chg F a (b.alloc o) :=
  ⟨h.os, h.tape, h.output, Nat.le_trans h.size (by simp), fun i hi hn => (Below.heap_alloc _ _ _ (Nat.lt_of_lt_of_le hi h.size)).trans (h.block i hi hn)⟩
theorem Chg.setCell {F : Nat → Prop} {a b : World} (h : Chg F a b) {p : Addr} (hp : F p.block ∨ a.heap.size ≤ p.block) (u : Value) : Chg F a (b.setCell p u) :=
  ⟨h.os, h.tape, h.output, Nat.le_trans h.size (by simp [World.setCell]), fun i hi hn => (Below.heap_setCell _ _ _ _ (by
    intro e
    rcases hp with hp | hp
    · exact hn (e ▸ hp)
    · omega)).trans (h.block i hi hn)⟩
theorem Chg.below {F : Nat → Prop} {w w' : World} {B : Nat} (h : Chg F w w') (hF : ∀ k, F k → B ≤ k) (hB : B ≤ w.heap.size) : Below B w w' :=
  ⟨h.os, h.tape, h.output, h.size, fun k hk => h.block k (by omega) (fun f => by have := hF k f; omega)⟩
theorem Chg.keep {F : Nat → Prop} {w w' : World} (h : Chg F w w') {k : Nat} {o : Obj} (hk : w.heap[k]? = some o) (hn : ¬ F k) : w'.heap[k]? = some o :=
  (h.block k (Array.getElem?_eq_some_iff.1 hk).1 hn).trans hk
theorem lt_of_heap {w : World} {n : Nat} {o : Obj} (h : w.heap[n]? = some o) : n < w.heap.size := (Array.getElem?_eq_some_iff.1 h).1
theorem heap_last (w : World) (o : Obj) : (w.alloc o).heap[w.heap.size]? = some o := by
  show (w.heap.push o)[w.heap.size]? = some o
  simp
theorem heap_past {w : World} {n : Nat} {x : Obj} (o : Obj) (h : w.heap[n]? = some x) : (w.alloc o).heap[n]? = some x :=
  (Below.heap_alloc _ _ _ (lt_of_heap h)).trans h
theorem heap_set {w : World} {g : Nat} {c : Array Value} {t : TypeId} {fr : Nat × Nat} (h : w.heap[g]? = some (.cells c t fr)) (i : Nat) (u : Value) :
    (w.setCell ⟨g, i, none⟩ u).heap[g]? = some (.cells (c.setIfInBounds i u) t fr) := by
  simp [World.setCell, Array.getElem?_modify, h]
theorem cell_of {w : World} {g : Nat} {c : Array Value} {t : TypeId} {fr : Nat × Nat} (h : w.heap[g]? = some (.cells c t fr)) (i : Nat) : w.cell? ⟨g, i, none⟩ = c[i]? := by
  simp [World.cell?, h]
theorem thawed {w : World} {g : Nat} {c : Array Value} {t : TypeId} (h : w.heap[g]? = some (.cells c t (0, 0))) (i : Nat) : w.frozen? ⟨g, i, none⟩ = false := by
  simp [World.frozen?, h]
theorem own_keep {F : Nat → Prop} {w w' : World} {base n size : Nat} {e : TypeId} {v : Value} {xs : List Value} (h : w.ownsRow base e size v n xs) (hc : Chg F w w') (hF : ∀ k, v.ownBlock = some k → ¬ F k) : w'.ownsRow base e size v n xs := by
  refine ⟨h.1, ?_⟩
  rcases h.2 with h | ⟨g', cap', cur, rfl, hb', hh, r⟩
  · exact Or.inl h
  · exact Or.inr ⟨g', cap', cur, rfl, hb', hc.keep hh (hF _ rfl), r⟩
theorem own_down {w : World} {base base' n size : Nat} {e : TypeId} {v : Value} {xs : List Value} (h : w.ownsRow base e size v n xs) (hb : base' ≤ base) : w.ownsRow base' e size v n xs := by
  refine ⟨h.1, ?_⟩
  rcases h.2 with h | ⟨g', cap', cur, rfl, hb', r⟩
  · exact Or.inl h
  · exact Or.inr ⟨g', cap', cur, rfl, by omega, r⟩
theorem own_form {w : World} {base n size : Nat} {e : TypeId} {v : Value} {xs : List Value} (h : w.ownsRow base e size v n xs) : ∃ ao cap, v = .slice ao n cap ∧ n ≤ cap ∧ cap ≤ maxLen ∧
    (0 < n → ∃ g, ao = some ⟨g, 0, none⟩ ∧ base ≤ g ∧ g < w.heap.size ∧ ∀ j u, xs[j]? = some u → w.cell? ⟨g, j, none⟩ = some u) := by
  have h0 := h
  rcases h.2 with ⟨rfl, rfl⟩ | ⟨g, cap', cur, rfl, hg, hh, h1, h2, -⟩
  · exact ⟨none, 0, rfl, Nat.le_refl _, by simp, fun h => by omega⟩
  · refine ⟨_, _, rfl, h1, h2, fun _ => ⟨g, rfl, hg, lt_of_heap hh, fun j u hu => ?_⟩⟩
    have := World.ownsRow.cells h0 (g := g) rfl j u hu
    rw [Addr.add_lit, Nat.zero_add] at this
    exact this

/-! ### rows -/
/-- Bytes, texts, places as cells. -/
def bc (l : List UInt8) : List Value := l.map fun c => Value.int .u8 (c.toNat : Int)
theorem bc_length (l : List UInt8) : (bc l).length = l.length := by simp [bc]
theorem bc_append (a b : List UInt8) : bc (a ++ b) = bc a ++ bc b := by simp [bc]
theorem bc_get (l : List UInt8) (j : Nat) (h : j < l.length) : (bc l)[j]? = some (.int .u8 ((l[j]'h).toNat : Int)) := by simp [bc, h]
def ic (ns : List Nat) : List Value := ns.map fun (n : Nat) => Value.int .i64 (n : Int)
theorem ic_get (xs : List Nat) (j : Nat) (h : j < xs.length) : (ic xs)[j]? = some (.int .i64 (xs[j] : Int)) := by simp [ic, h]
theorem ic_append (a b : List Nat) : ic (a ++ b) = ic a ++ ic b := by simp [ic]
theorem Tryz.infoI : (Tryz.prog.info? 3).map (fun i => (i.zero, i.size, i.bytes)) = some (some (.int .i64 0), 1, 8) := by kernel_rfl
theorem Tryz.infoB : (Tryz.prog.info? 5).map (fun i => (i.zero, i.size, i.bytes)) = some (some (.int .u8 0), 1, 1) := by kernel_rfl
end Go.Proofs.YtokebnkgjchfaaaGreatDoor.Gr

/-
  Laws on regions that draw their order, with the operation read off the region's list: one that yields in every world that meets S is taken first; one that alone may come up is run. No condition.
-/
namespace Go.Proofs.YtokebnkgjchfaaaGreatDoor.Gr
open Go.RowKit
variable {P : Program} {l : List Oper} {Q : Exit → Act → World → Prop} {md : Region.Mode} {S : World → Prop}

theorem takeH {i : Nat} {oi : Oper} {v : Value} {fuel : Nat} {listed : Array Bool} {a : Act} {w : World} (hi : l[i]? = some oi)
    (hs : Region.noSelect l.toArray = true) (hf : Region.free md l.toArray listed i = true) (hr : (Region.ready md l.toArray listed).contains i = true)
    (hQ : ∀ c a w, Q (.panic c) (a.put oi.dst v) w → Q (.panic c) a w) (hg : Region.wanted oi (yielded l.toArray a.tmps) = true) (hy : ∀ w, S w → (execOp a.eval oi).run P w = .ok (.value v) w) (hS : S w)
    (h : wpAnyH P md l.toArray Q S fuel (listed.setIfInBounds i true) (a.put oi.dst v) w) : wpAnyH P md l.toArray Q S (fuel + 1) listed a w :=
  wpAnyH_take (by simpa using hi) hs hf hr hQ (Or.inl ⟨hg, hy⟩) hS h
/-- takeH, what is reckoned filled in, and laid out anew. -/
theorem takeJ (i : Nat) {oi : Oper} {v : Value} {fuel : Nat} {listed listed' : Array Bool} {a a' : Act} {w : World} (hy : ∀ w, S w → (execOp a.eval oi).run P w = .ok (.value v) w) (hS : S w)
    (h : wpAnyH P md l.toArray Q S fuel listed' a' w) (hi : l[i]? = some oi := by exact rfl)
    (hs : Region.noSelect l.toArray = true := by kernel_rfl) (hf : Region.free md l.toArray listed i = true := by kernel_rfl) (hr : (Region.ready md l.toArray listed).contains i = true := by kernel_rfl)
    (hQ : ∀ c a w, Q (.panic c) (a.put oi.dst v) w → Q (.panic c) a w := by exact fun _ _ _ h => h) (hg : Region.wanted oi (yielded l.toArray a.tmps) = true := by exact rfl)
    (hl : listed.setIfInBounds i true = listed' := by (try simp only [List.setIfInBounds_toArray, List.set_cons_zero, List.set_cons_succ]); exact rfl)
    (ha : a.put oi.dst v = a' := by (try simp only [Act.put, List.setIfInBounds_toArray, List.set_cons_zero, List.set_cons_succ]); exact rfl) : wpAnyH P md l.toArray Q S (fuel + 1) listed a w := by
  subst hl ha
  exact takeH hi hs hf hr hQ hg hy hS h
theorem skipH {i : Nat} {oi : Oper} {fuel : Nat} {listed : Array Bool} {a : Act} {w : World} (hi : l[i]? = some oi)
    (hs : Region.noSelect l.toArray = true) (hf : Region.free md l.toArray listed i = true) (hr : (Region.ready md l.toArray listed).contains i = true)
    (hQ : ∀ c a w, Q (.panic c) (a.put oi.dst undef) w → Q (.panic c) a w) (hg : Region.wanted oi (yielded l.toArray a.tmps) = false) (hS : S w)
    (h : wpAnyH P md l.toArray Q S fuel (listed.setIfInBounds i true) (a.put oi.dst undef) w) : wpAnyH P md l.toArray Q S (fuel + 1) listed a w :=
  wpAnyH_take (by simpa using hi) hs hf hr hQ (Or.inr ⟨hg, rfl⟩) hS h
theorem onlyH {i : Nat} {oi : Oper} {fuel : Nat} {listed : Array Bool} {a : Act} {w : World} (hi : l[i]? = some oi) (hr : Region.ready md l.toArray listed = [i]) (hg : Region.wanted oi (yielded l.toArray a.tmps) = true)
    (h : ∀ K' : Act → World → Prop, Shut (∀ a w, S w → (S w → wpAnyH P md l.toArray Q S fuel (listed.setIfInBounds i true) a w) → K' a w) → Oper.wp P oi a w K' Q) : wpAnyH P md l.toArray Q S (fuel + 1) listed a w :=
  wpAnyH_ready hr (by simp) (AllReadyH.cons (o := oi) (by simpa using hi) (fun K hK => by rw [if_pos hg]; exact h K hK) AllReadyH.nil)
theorem twoH {i j : Nat} {oi oj : Oper} {fuel : Nat} {listed : Array Bool} {a : Act} {w : World} (hi : l[i]? = some oi) (hj : l[j]? = some oj) (hr : Region.ready md l.toArray listed = [i, j])
    (hgi : Region.wanted oi (yielded l.toArray a.tmps) = true) (hgj : Region.wanted oj (yielded l.toArray a.tmps) = true)
    (h1 : ∀ K' : Act → World → Prop, Shut (∀ a w, S w → (S w → wpAnyH P md l.toArray Q S fuel (listed.setIfInBounds i true) a w) → K' a w) → Oper.wp P oi a w K' Q)
    (h2 : ∀ K' : Act → World → Prop, Shut (∀ a w, S w → (S w → wpAnyH P md l.toArray Q S fuel (listed.setIfInBounds j true) a w) → K' a w) → Oper.wp P oj a w K' Q) : wpAnyH P md l.toArray Q S (fuel + 1) listed a w :=
  wpAnyH_ready hr (by simp) (AllReadyH.cons (o := oi) (by simpa using hi) (fun K hK => by rw [if_pos hgi]; exact h1 K hK) (AllReadyH.cons (o := oj) (by simpa using hj) (fun K hK => by rw [if_pos hgj]; exact h2 K hK) AllReadyH.nil))
end Go.Proofs.YtokebnkgjchfaaaGreatDoor.Gr

/-
  What the chunk under way does: highest, full, take. Conditions: it lies there; nothing ended within it.
-/
namespace Go.Proofs.YtokebnkgjchfaaaGreatDoor.Gr
open Go.RowKit

/-- At g lies a chunk that has h; r lies behind it. -/
def KAt (w : World) (g : Nat) (t : TypeId) (n : Int) (s : UInt64) (r : List Value) : Prop :=
  w.heap[g]? = some (.cells (.int .i64 n :: .int .u64 (u s) :: r).toArray t (0, 0))
def CkAt (w : World) (g : Nat) (t : TypeId) (h : List UInt8) (r : List Value) : Prop := KAt w g t (h.length : Int) (sm h) r
theorem KAt.size {w : World} {g : Nat} {t : TypeId} {n : Int} {s : UInt64} {r : List Value} (h : KAt w g t n s r) : w.cell? ⟨g, 0, none⟩ = some (.int .i64 n) := by
  rw [cell_of h]; rfl
theorem KAt.sum {w : World} {g : Nat} {t : TypeId} {n : Int} {s : UInt64} {r : List Value} (h : KAt w g t n s r) : w.cell? ⟨g, 1, none⟩ = some (.int .u64 (u s)) := by
  rw [cell_of h]; rfl
theorem KAt.setSize {w : World} {g : Nat} {t : TypeId} {n : Int} {s : UInt64} {r : List Value} (h : KAt w g t n s r) (m : Int) : KAt (w.setCell ⟨g, 0, none⟩ (.int .i64 m)) g t m s r := by
  unfold KAt; rw [heap_set h]; rfl
theorem KAt.setSum {w : World} {g : Nat} {t : TypeId} {n : Int} {s : UInt64} {r : List Value} (h : KAt w g t n s r) (m : UInt64) : KAt (w.setCell ⟨g, 1, none⟩ (.int .u64 (u m))) g t n m r := by
  unfold KAt; rw [heap_set h]; rfl

set_option maxRecDepth 20000 in
theorem highest10 (w : World) (g : Nat) (t : TypeId) (n : Int) (s : UInt64) (r : List Value) (h : KAt w g t n s r) :
    Calls Tryz.prog 104 #[.pointer (some ⟨g, 0, none⟩), .int .i64 10] w fun e w' => e = .returned (.int .u64 (u (s >>> 54))) ∧ w' = w := by
  have hs := h.sum
  clear h
  go_enter Tryz.func104, Tryz.ntmps104
  go_wp2
  go_ret
  exact ⟨ret_int (u_shr' s 54 54 _ rfl (by decide) rfl), rfl⟩
set_option maxRecDepth 20000 in
theorem highest6 (w : World) (g : Nat) (t : TypeId) (n : Int) (s : UInt64) (r : List Value) (h : KAt w g t n s r) :
    Calls Tryz.prog 104 #[.pointer (some ⟨g, 0, none⟩), .int .i64 6] w fun e w' => e = .returned (.int .u64 (u (s >>> 58))) ∧ w' = w := by
  have hs := h.sum
  clear h
  go_enter Tryz.func104, Tryz.ntmps104
  go_wp2
  go_ret
  exact ⟨ret_int (u_shr' s 58 58 _ rfl (by decide) rfl), rfl⟩
theorem u_zero (x : UInt64) : (u x == 0) = (x == 0) := by
  rcases Bool.eq_false_or_eq_true (x == 0) with h | h
  · rw [h]; have := eq_of_beq h; subst this; rfl
  · rw [h]
    refine beq_eq_false_iff_ne.2 (fun e => ?_)
    have : x = 0 := u_inj e
    rw [this] at h
    cases h
set_option maxRecDepth 20000 in
theorem full_any (w : World) (g : Nat) (t : TypeId) (n : Nat) (s : UInt64) (r : List Value) (h : KAt w g t (n : Int) s r) :
    Calls Tryz.prog 83 #[.pointer (some ⟨g, 0, none⟩)] w fun e w' => e = .returned (.bool (full n s)) ∧ w' = w := by
  have hz := h.size
  have H := hide h
  clear h
  by_cases h1 : n ≤ 64
  · have hf : full n s = false := by unfold full; rw [if_pos h1]
    go_enter Tryz.func83, Tryz.ntmps83
    go_wp2
    go_ret
    exact ⟨ret_bool hf.symm, rfl⟩
  by_cases h2 : n ≤ 256
  · have hf : full n s = (s >>> 54 == 0) := by unfold full; rw [if_neg h1, if_pos h2]
    go_enter Tryz.func83, Tryz.ntmps83
    go_wp2_with fail
    refine (highest10 _ g t n s r H.out).mono ?_
    rintro e w1 ⟨rfl, rfl⟩
    go_wp2
    go_ret
    exact ⟨ret_bool (by rw [hf, u_zero]), rfl⟩
  by_cases h3 : n < 1024
  · have hf : full n s = (s >>> 58 == 0) := by unfold full; rw [if_neg h1, if_neg h2, if_pos h3]
    go_enter Tryz.func83, Tryz.ntmps83
    go_wp2_with fail
    refine (highest6 _ g t n s r H.out).mono ?_
    rintro e w1 ⟨rfl, rfl⟩
    go_wp2
    go_ret
    exact ⟨ret_bool (by rw [hf, u_zero]), rfl⟩
  · have hf : full n s = true := by unfold full; rw [if_neg h1, if_neg h2, if_neg h3]
    go_enter Tryz.func83, Tryz.ntmps83
    go_wp2
    go_ret
    exact ⟨ret_bool hf.symm, rfl⟩

theorem w_two (s : UInt64) : IntKind.u64.wrap (2 * u s) = u (2 * s) := by rw [Int.mul_comm, w_mul s 2 2 rfl, UInt64.mul_comm]

set_option maxRecDepth 20000 in
theorem take_any (w : World) (g : Nat) (t : TypeId) (h : List UInt8) (r : List Value) (c : UInt8) (k : CkAt w g t h r) (kh : Hd h) :
    Calls Tryz.prog 68 #[.pointer (some ⟨g, 0, none⟩), .int .u8 (c.toNat : Int)] w fun e w' => e = .returned (.bool (ended (h ++ [c]))) ∧ CkAt w' g t (if ended (h ++ [c]) then [] else h ++ [c]) r ∧ Chg (fun j => j = g) w w' := by
  have hlt := kh.lt
  have hz := KAt.size k
  have hf0 := thawed k 0
  have e1 := sm_snoc h c
  have el : (h ++ [c]).length = h.length + 1 := by simp
  have k1 := KAt.setSize k ((h.length : Int) + 1)
  have C1 : Chg (fun j => j = g) w (w.setCell ⟨g, 0, none⟩ (.int .i64 ((h.length : Int) + 1))) := Chg.setCell (F := fun j => j = g) (Chg.refl _ w) (p := ⟨g, 0, none⟩) (.inl rfl) _
  unfold ended
  rw [el]
  obtain ⟨b, hb⟩ : ∃ b, b = full (h.length + 1) (sm (h ++ [c])) := ⟨_, rfl⟩
  obtain ⟨h', hh'⟩ : ∃ h', h' = if b = true then [] else h ++ [c] := ⟨_, rfl⟩
  rw [← hb, ← hh']
  have HB := hide hb
  have HH := hide hh'
  clear hb hh'
  generalize hw1 : w.setCell ⟨g, 0, none⟩ (.int .i64 ((h.length : Int) + 1)) = w1 at *
  have hz1 := k1.size
  have hs1 := k1.sum
  have hf1 := thawed k1 1
  by_cases h64 : h.length + 1 > 64
  · rw [if_pos h64] at e1
    have k2 := k1.setSum (nxt (sm h) c)
    have C2 : Chg (fun j => j = g) w (w1.setCell ⟨g, 1, none⟩ (.int .u64 (u (nxt (sm h) c)))) := C1.setCell (p := ⟨g, 1, none⟩) (.inl rfl) _
    have ew := w_two (sm h)
    have ea := w_add (2 * sm h) (tab c)
    have K1 := hide k1
    have K2 := hide (And.intro k2 C2)
    clear k1 k2 C1 C2 k
    go_enter Tryz.func68, Tryz.ntmps68
    go_wp2_with fail
    refine wp_region_held_drew (S := fun _ => True) (by kernel_rfl) (trivial) (fun hHeld => ?_)
    refine takeJ 0 (v := ?_) ?_ hHeld ?_
    rotate_left
    · intro w _; go_simp; try with_reducible rfl
    refine takeJ 1 (v := ?_) ?_ hHeld ?_
    rotate_left
    · intro w _; go_simp; try with_reducible rfl
    refine takeJ 2 (v := ?_) ?_ hHeld ?_
    rotate_left
    · intro w _; go_simp; try with_reducible rfl
    refine takeJ 3 (v := ?_) ?_ hHeld ?_
    rotate_left
    · intro w _; go_simp; try with_reducible rfl
    refine takeJ 6 (v := ?_) ?_ hHeld ?_
    rotate_left
    · intro w _; go_simp; try with_reducible rfl
    refine twoH (i := 4) (j := 7) rfl rfl (by kernel_rfl) rfl rfl (fun K hK => ?_) (fun K hK => ?_)
    · go_simp
      refine hK.out _ _ (trivial) (fun hHeld => ?_)
      clear hK K
      try simp only [Act.put, List.setIfInBounds_toArray, List.set_cons_zero, List.set_cons_succ]
      refine takeJ 5 (v := ?_) ?_ hHeld ?_
      rotate_left
      · intro w _; go_simp; try with_reducible rfl
      refine onlyH (i := 7) rfl (by kernel_rfl) rfl (fun K hK => ?_)
      go_simp
      refine (table_any _ c).mono ?_
      rintro e w2 ⟨rfl, rfl⟩
      go_simp
      refine hK.out _ _ (trivial) (fun hHeld => ?_)
      clear hK K
      try simp only [Act.put, List.setIfInBounds_toArray, List.set_cons_zero, List.set_cons_succ]
      refine takeJ 8 (v := ?_) ?_ hHeld ?_
      rotate_left
      · intro w _; go_simp; try with_reducible rfl
      refine takeJ 9 (v := ?_) ?_ hHeld ?_
      rotate_left
      · intro w _; go_simp; try with_reducible rfl
      refine takeJ 10 (v := ?_) ?_ hHeld ?_
      rotate_left
      · intro w _; go_simp; try with_reducible rfl
      refine onlyH (i := 11) rfl (by kernel_rfl) rfl (fun K hK => ?_)
      go_simp
      refine hK.out _ _ (trivial) (fun hHeld => ?_)
      clear hK K
      try simp only [Act.put, List.setIfInBounds_toArray, List.set_cons_zero, List.set_cons_succ]
      refine wpAnyH_done (by kernel_rfl) ?_ _
      have k3 : KAt (w1.setCell ⟨g, 1, none⟩ (.int .u64 (u (2 * sm h + tab c)))).drew g t ((h.length + 1 : Nat) : Int) (nxt (sm h) c) r := K2.out.1
      have C3 : Chg (fun j => j = g) w (w1.setCell ⟨g, 1, none⟩ (.int .u64 (u (2 * sm h + tab c)))).drew := K2.out.2.drew
      generalize (w1.setCell ⟨g, 1, none⟩ (.int .u64 (u (2 * sm h + tab c)))).drew = w2 at *
      have hfn := full_any _ _ _ _ _ _ k3
      have K3 := hide k3
      have C4 := hide C3
      clear k3 C3 K2
      go_wp2_with fail
      refine hfn.mono ?_
      rintro e w3 ⟨rfl, rfl⟩
      cases hfu : full (h.length + 1) (nxt (sm h) c) with
      | false =>
        have hb2 : b = false := by rw [HB.out, e1, hfu]
        go_wp2
        go_ret
        refine ⟨ret_bool hb2.symm, ?_, C4.out⟩
        unfold CkAt
        rw [HH.out, hb2, if_neg (by simp), e1, el]
        exact K3.out
      | true =>
        have hb2 : b = true := by rw [HB.out, e1, hfu]
        have hz3 := KAt.size K3.out
        have hf3 := thawed K3.out 0
        have k4 := KAt.setSize K3.out 0
        have hs4 := k4.sum
        have hf4 := thawed k4 1
        have k5 := k4.setSum 0
        have C5 : Chg (fun j => j = g) w ((w3.setCell ⟨g, 0, none⟩ (.int .i64 0)).setCell ⟨g, 1, none⟩ (.int .u64 (u 0))) := (C4.out.setCell (p := ⟨g, 0, none⟩) (.inl rfl) _).setCell (p := ⟨g, 1, none⟩) (.inl rfl) _
        have K5 := hide k5
        have C6 := hide C5
        clear k4 k5 C5 hfn
        go_wp2
        go_ret
        refine ⟨ret_bool hb2.symm, ?_, C6.out⟩
        unfold CkAt
        rw [HH.out, hb2, if_pos rfl]
        exact K5.out

    · go_simp
      refine (table_any _ c).mono ?_
      rintro e w2 ⟨rfl, rfl⟩
      go_simp
      refine hK.out _ _ (trivial) (fun hHeld => ?_)
      clear hK K
      try simp only [Act.put, List.setIfInBounds_toArray, List.set_cons_zero, List.set_cons_succ]
      refine onlyH (i := 4) rfl (by kernel_rfl) rfl (fun K hK => ?_)
      go_simp
      refine hK.out _ _ (trivial) (fun hHeld => ?_)
      clear hK K
      try simp only [Act.put, List.setIfInBounds_toArray, List.set_cons_zero, List.set_cons_succ]
      refine takeJ 5 (v := ?_) ?_ hHeld ?_
      rotate_left
      · intro w _; go_simp; try with_reducible rfl
      refine takeJ 8 (v := ?_) ?_ hHeld ?_
      rotate_left
      · intro w _; go_simp; try with_reducible rfl
      refine takeJ 9 (v := ?_) ?_ hHeld ?_
      rotate_left
      · intro w _; go_simp; try with_reducible rfl
      refine takeJ 10 (v := ?_) ?_ hHeld ?_
      rotate_left
      · intro w _; go_simp; try with_reducible rfl
      refine onlyH (i := 11) rfl (by kernel_rfl) rfl (fun K hK => ?_)
      go_simp
      refine hK.out _ _ (trivial) (fun hHeld => ?_)
      clear hK K
      try simp only [Act.put, List.setIfInBounds_toArray, List.set_cons_zero, List.set_cons_succ]
      refine wpAnyH_done (by kernel_rfl) ?_ _
      have k3 : KAt (w1.setCell ⟨g, 1, none⟩ (.int .u64 (u (2 * sm h + tab c)))).drew g t ((h.length + 1 : Nat) : Int) (nxt (sm h) c) r := K2.out.1
      have C3 : Chg (fun j => j = g) w (w1.setCell ⟨g, 1, none⟩ (.int .u64 (u (2 * sm h + tab c)))).drew := K2.out.2.drew
      generalize (w1.setCell ⟨g, 1, none⟩ (.int .u64 (u (2 * sm h + tab c)))).drew = w2 at *
      have hfn := full_any _ _ _ _ _ _ k3
      have K3 := hide k3
      have C4 := hide C3
      clear k3 C3 K2
      go_wp2_with fail
      refine hfn.mono ?_
      rintro e w3 ⟨rfl, rfl⟩
      cases hfu : full (h.length + 1) (nxt (sm h) c) with
      | false =>
        have hb2 : b = false := by rw [HB.out, e1, hfu]
        go_wp2
        go_ret
        refine ⟨ret_bool hb2.symm, ?_, C4.out⟩
        unfold CkAt
        rw [HH.out, hb2, if_neg (by simp), e1, el]
        exact K3.out
      | true =>
        have hb2 : b = true := by rw [HB.out, e1, hfu]
        have hz3 := KAt.size K3.out
        have hf3 := thawed K3.out 0
        have k4 := KAt.setSize K3.out 0
        have hs4 := k4.sum
        have hf4 := thawed k4 1
        have k5 := k4.setSum 0
        have C5 : Chg (fun j => j = g) w ((w3.setCell ⟨g, 0, none⟩ (.int .i64 0)).setCell ⟨g, 1, none⟩ (.int .u64 (u 0))) := (C4.out.setCell (p := ⟨g, 0, none⟩) (.inl rfl) _).setCell (p := ⟨g, 1, none⟩) (.inl rfl) _
        have K5 := hide k5
        have C6 := hide C5
        clear k4 k5 C5 hfn
        go_wp2
        go_ret
        refine ⟨ret_bool hb2.symm, ?_, C6.out⟩
        unfold CkAt
        rw [HH.out, hb2, if_pos rfl]
        exact K5.out

  · rw [if_neg h64] at e1
    have hfl : full (h.length + 1) (sm h) = false := by unfold full; rw [if_pos (by omega)]
    have hfn := full_any _ _ _ (h.length + 1) _ _ k1
    rw [hfl] at hfn
    have hb2 : b = false := by rw [HB.out, e1, hfl]
    have K1 := hide k1
    have D1 := hide C1
    clear k1 C1 k
    go_enter Tryz.func68, Tryz.ntmps68
    go_wp2_with fail
    refine hfn.mono ?_
    rintro e w3 ⟨rfl, rfl⟩
    go_wp2
    go_ret
    refine ⟨ret_bool hb2.symm, ?_, D1.out⟩
    unfold CkAt
    rw [HH.out, hb2, if_neg (by simp), e1, el]
    exact K1.out
end Go.Proofs.YtokebnkgjchfaaaGreatDoor.Gr

/-
  What Cuts answers. Condition: lengths within reach.
-/
namespace Go.Proofs.YtokebnkgjchfaaaGreatDoor.Gr
open Go.RowKit

/-- How far a text has been gone through. -/
def far (l : List UInt8) (k : Nat) : Sp := spl ⟨[], []⟩ (l.take k)
theorem far_succ {l : List UInt8} {k : Nat} (h : k < l.length) : far l (k + 1) = adv (far l k) l[k] := by
  unfold far
  rw [List.take_add_one, List.getElem?_eq_getElem h]
  exact spl_snoc _ _ _
theorem far_ok (l : List UInt8) (k : Nat) : (far l k).ok := Sp.ok.nil.spl
theorem far_len {l : List UInt8} {k : Nat} (h : k ≤ l.length) : (far l k).t.flatten.length + (far l k).h.length = k := by
  have := congrArg List.length (spl_all (l.take k) ⟨[], []⟩)
  simp only [List.length_append] at this
  unfold far
  rw [this]
  simp [Nat.min_eq_left h]
theorem far_all (l : List UInt8) : far l l.length = spl ⟨[], []⟩ l := by unfold far; rw [List.take_length]
theorem adv_end {x : Sp} {c : UInt8} {k : Nat} (h : ended (x.h ++ [c]) = true) (hk : x.t.flatten.length + x.h.length = k) : (adv x c).h = [] ∧ sums 0 (adv x c).t = sums 0 x.t ++ [k + 1] := by
  unfold adv
  rw [if_pos h]
  refine ⟨rfl, ?_⟩
  rw [sums_append, ← hk]
  simp only [sums, Nat.zero_add, List.length_append, List.length_singleton, Nat.add_assoc]
theorem adv_on {x : Sp} {c : UInt8} (h : ended (x.h ++ [c]) = false) : (adv x c).h = x.h ++ [c] ∧ (adv x c).t = x.t := by
  unfold adv
  rw [if_neg (by simp [h])]
  exact ⟨rfl, rfl⟩
theorem told_le {x : Sp} (k : x.ok) {n : Nat} (hn : x.t.flatten.length + x.h.length = n) : x.t.length ≤ n := by
  have : x.t.length ≤ x.t.flatten.length := by
    rw [List.length_flatten]
    have h : ∀ (T : List (List UInt8)), (∀ c ∈ T, Ck c) → T.length ≤ (T.map List.length).sum := by
      intro T
      induction T with
      | nil => simp
      | cons c T ih =>
        intro hT
        have := ih (fun d hd => hT d (by simp [hd]))
        have := (hT c (by simp)).pos
        simp
        omega
    exact h _ k.1
  omega

set_option maxRecDepth 20000 in
theorem cuts_any (w : World) (l : List UInt8) (hl : l.length ≤ 1099511627776) :
    Calls Tryz.prog 50 #[.string (strB l)] w fun e w' => ∃ v, e = .returned v ∧ w'.ownsRow w.heap.size 3 1 v (cuts l).length (ic (cuts l)) ∧ Below w.heap.size w w' := by
  obtain ⟨i0, hi0, hz0, hz1, hz2⟩ := info_parts Tryz.infoI
  have hs := strB_size l
  have k0 : CkAt (w.alloc (.cells #[.int .i64 0, .int .u64 0] 123)) w.heap.size 123 [] [] := heap_last _ _
  have hB0 : Below w.heap.size w (w.alloc (.cells #[.int .i64 0, .int .u64 0] 123)) := (Below.refl _ w).alloc (Nat.le_refl _) _
  have hz : w.heap.size + 1 ≤ (w.alloc (.cells #[.int .i64 0, .int .u64 0] 123)).heap.size := by simp
  generalize hG : w.heap.size = G at *
  go_enter Tryz.func50, Tryz.ntmps50
  go_wp2_with fail
  go_loopw [8, 4] (fun i v wr => ∃ k : Nat, i = .int .i64 (k : Int) ∧ k ≤ l.length ∧ wr.ownsRow (G + 1) 3 1 v (sums 0 (far l k).t).length (ic (sums 0 (far l k).t)) ∧ CkAt wr G 123 (far l k).h [] ∧ Below G w wr ∧ G + 1 ≤ wr.heap.size)
    (fun i _ _ => l.length - (intOf i).toNat)
  case atStart => exact ⟨0, rfl, Nat.zero_le _, World.ownsRow_nil _ _ _ _, k0, hB0, hz⟩
  case round =>
    obtain ⟨k, rfl, hk, hrow, hck, hB, hsz⟩ := hrel
    by_cases hlt : k < l.length
    · have hix := fun W => index_str W l .i64 k hlt
      have hfs := far_succ hlt
      have hfl := far_len (Nat.le_of_lt hlt)
      have hok := far_ok l k
      have hle := told_le hok hfl
      have htk := take_any wr G 123 _ _ l[k] hck hok.2
      cases he : ended ((far l k).h ++ [l[k]]) with
      | true =>
        have ⟨a1, a2⟩ := adv_end he hfl
        rw [he, if_pos rfl] at htk
        rw [← hfs] at a1 a2
        generalize l[k] = c at *
        clear hfs
        go_wp2_with fail
        refine htk.mono ?_
        rintro e w1 ⟨rfl, hck1, hC1⟩
        have hrow1 := own_keep hrow hC1 (fun j hj e => by have := (hrow.lt j hj).1; omega)
        have hB1 : Below G w w1 := hB.trans (hC1.below (fun j e => by omega) (by omega))
        have hsz1 : G + 1 ≤ w1.heap.size := Nat.le_trans hsz hC1.size
        have hrow' := hrow1
        obtain ⟨ao, cap, rfl, c1, c2, -⟩ := own_form hrow1
        have hsl : (sums 0 (far l k).t).length ≤ l.length := by rw [sums_length]; omega
        clear hrow htk
        go_wp2_with (at_builtin; refine wpList_append_own _ rfl (.tmp 15) (.tmp 18) 54 rfl (G + 1) 3 i0 (.int .i64 0) 1 8 Tryz.underlying54 hi0 hz0 hz1 hz2 rfl (by decide) _ _ _ rfl (hrow'.alloc _) ⟨w1.heap.size, 0, none⟩ 1 1 [.int .i64 ((k : Int) + 1)] rfl rfl (cell_one_new _ _ _) (by simp [Value.oneCell']) (by unfold maxLen; omega) (by omega) (by simp; omega) ?_)
        intro v2 w2 hown2 hgrow2 _
        have hb2 : Below G w w2 := (hB1.alloc (by omega) _).grown hgrow2 (by simp; omega) (fun j hj => Nat.le_of_succ_le (hrow'.lt j hj).1)
        have hck2 : CkAt w2 G 123 [] [] := (hgrow2.block G (by simp; omega) (fun e => by have := (hrow'.lt G e.symm).1; omega)).trans (heap_past _ hck1)
        have hsz2 : G + 1 ≤ w2.heap.size := by have := hgrow2.size; simp at this; omega
        obtain ⟨ao', cap', rfl, -⟩ := own_form hown2
        clear hgrow2 hrow1
        go_wp2
        go_roundw
        case rel => exact ⟨k + 1, by go_num, by omega, by rw [a2, ic_append]; simpa [ic] using hown2, by rw [a1]; exact hck2, hb2, hsz2⟩
        case measure => simp [intOf] <;> omega
      | false =>
        have ⟨a1, a2⟩ := adv_on he
        rw [he, if_neg (by simp)] at htk
        rw [← hfs] at a1 a2
        generalize l[k] = c at *
        clear hfs
        go_wp2_with fail
        refine htk.mono ?_
        rintro e w1 ⟨rfl, hck1, hC1⟩
        have hrow1 := own_keep hrow hC1 (fun j hj e => by have := (hrow.lt j hj).1; omega)
        have hB1 : Below G w w1 := hB.trans (hC1.below (fun j e => by omega) (by omega))
        have hsz1 : G + 1 ≤ w1.heap.size := Nat.le_trans hsz hC1.size
        clear hrow htk
        go_wp2_with fail
        exact ⟨⟨k + 1, by go_num, by omega, by rw [a2]; exact hrow1, by rw [a1]; exact hck1, hB1, hsz1⟩, by simp [intOf]; omega⟩
    · obtain rfl : k = l.length := by omega
      have hfl := far_len (Nat.le_refl l.length)
      have hok := far_ok l l.length
      have hle := told_le hok hfl
      have hcs : cuts l = sums 0 (far l l.length).all := by unfold cuts chunks; rw [far_all]
      have hcz := KAt.size hck
      generalize far l l.length = x at *
      have hsl : (sums 0 x.t).length ≤ l.length := by rw [sums_length]; omega
      by_cases hh : x.h = []
      · have e0 : (x.h.length : Int) = 0 := by rw [hh]; rfl
        have hcs2 : cuts l = sums 0 x.t := by rw [hcs]; unfold Sp.all; rw [if_pos hh]; simp
        rw [e0] at hcz
        obtain ⟨ao, cap, rfl, c1, c2, -⟩ := own_form hrow
        go_wp2
        go_ret
        refine ⟨_, rfl, ?_, hB⟩
        rw [hcs2]
        exact own_down hrow (by omega)
      · have hp := List.length_pos_iff.2 hh
        have hcs2 : cuts l = sums 0 x.t ++ [l.length] := by rw [hcs]; unfold Sp.all; rw [if_neg hh, sums_append, ← hfl]; simp only [sums, Nat.zero_add]
        have hrow' := hrow
        obtain ⟨ao, cap, rfl, c1, c2, -⟩ := own_form hrow
        clear hrow
        go_wp2_with (at_builtin; refine wpList_append_own _ rfl (.tmp 24) (.tmp 27) 54 rfl (G + 1) 3 i0 (.int .i64 0) 1 8 Tryz.underlying54 hi0 hz0 hz1 hz2 rfl (by decide) _ _ _ rfl (hrow'.alloc _) ⟨wr.heap.size, 0, none⟩ 1 1 [.int .i64 (l.length : Int)] rfl rfl (cell_one_new _ _ _) (by simp [Value.oneCell']) (by unfold maxLen; omega) (by omega) (by simp; omega) ?_)
        intro v2 w2 hown2 hgrow2 _
        have hb2 : Below G w w2 := (hB.alloc (by omega) _).grown hgrow2 (by simp; omega) (fun j hj => Nat.le_of_succ_le (hrow'.lt j hj).1)
        obtain ⟨ao', cap', rfl, -⟩ := own_form hown2
        clear hgrow2
        go_wp2
        go_ret
        refine ⟨_, rfl, ?_, hb2⟩
        rw [hcs2, ic_append]
        exact own_down (by simpa [ic] using hown2) (Nat.le_succ _)
end Go.Proofs.YtokebnkgjchfaaaGreatDoor.Gr
