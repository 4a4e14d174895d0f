/-
  A text's bytes; a text copied; a text's beginning; a reading begun. Conditions: lengths within reach.
  Parts, pairs, links, and lists of them, read. Conditions: lengths within reach.
-/
import Derived.Test.YtdbmngbinhemeabGreatDoorRORead
import Derived.Lib.SliceRun
import Derived.Lib.UnsafeStr
import Derived.Lib.BufferWrite
import Derived.Laws.MakeOwn
namespace Go.Proofs.YtdbmngbinhemeabGreatDoor
open Go.RowKit

theorem wpList_want {P : Program} {w : World} {ops : Array Oper} {rest : List Oper} {o : Oper} {a : Act} {Q : Exit → Act → World → Prop} (hw : Region.wanted o (yielded ops a.tmps) = true)
    (h : ∀ K : Act → World → Prop, (∀ a w, wpList P ops Q rest a w → K a w) → o.wp P a w K Q) : wpList P ops Q (o :: rest) a w :=
  wpList_step fun K hK => by rw [if_pos hw]; exact h K hK
theorem cell_at_new (w : World) (C : Array Value) (e : TypeId) (fr : Nat × Nat) (j : Nat) : (w.alloc (.cells C e fr)).cell? ⟨w.heap.size, j, none⟩ = C[j]? := by
  have : (w.alloc (.cells C e fr)).heap[w.heap.size]? = some (.cells C e fr) := by
    show (w.heap.push (.cells C e fr))[w.heap.size]? = _
    simp
  unfold World.cell?
  simp only [this]
  rfl
/-- '[]byte(s)', guarded. -/
theorem wpList_tobytes (w : World) {ops : Array Oper} {rest : List Oper} {o : Oper} {a : Act} {Q : Exit → Act → World → Prop} (hg : Region.wanted o (yielded ops a.tmps) = true) (x : Operand) (hop : o.op = Op.convert 9 28 x)
    (s : ByteArray) (hs : s.size ≤ maxLen) (hx : a.eval x = .string s)
    (hK : ∀ v' w', Sl w' v' s.data.toList → Below w.heap.size w w' → (∀ b off n c, v' = .slice (some ⟨b, off, none⟩) n c → w.heap.size ≤ b) → wpList Tryz.prog ops Q rest (a.put o.dst v') w') : wpList Tryz.prog ops Q (o :: rest) a w := by
  refine wpList_want hg fun K hK' => ?_
  have hr := run_bytes_of_string (P := Tryz.prog) w 9 28 5 s Tryz.underlying9 Tryz.underlying28 Tryz.underlying5
  have hlen : s.data.toList.length = s.size := by simp
  have hge := grownCap_ge w s.size 0 5
  have hle := grownCap_le_maxLen w s.size 0 5 hs
  unfold Oper.wp
  simp only [execOp, hop, hx, Result.andThen, Sem.run_bind, hr]
  refine hK' _ _ (hK _ _ ?_ (((Below.refl _ _).drew).alloc (by simp) _) (fun b off n c e => by injection e with e; injection e with e; injection e with e; omega))
  refine ⟨_, grownCap w s.size 0 5, by rw [hlen], by omega, hle, by simp, fun _ => ⟨w.heap.size, 0, rfl, by simp, fun j hj => ?_⟩⟩
  have := cell_at_new w.drew (bytesRow s (grownCap w s.size 0 5)) 5 ((bytesRow s (grownCap w s.size 0 5)).size, (bytesRow s (grownCap w s.size 0 5)).size + 1) j
  rw [show w.drew.heap.size = w.heap.size from rfl] at this
  rw [Nat.zero_add, this, bytesRow_at s _ j (by simpa using hj)]
  simp
theorem Tryz.cellsB : Tryz.prog.cellsOf 5 = 1 := by kernel_rfl
theorem Tryz.sizeB1 : (Tryz.prog.info? 5).map (·.size) = some 1 := by kernel_rfl
theorem byteCells_bc (l : List UInt8) : Lib.byteCells l = bc l := rfl
theorem strB_bytes (l : List UInt8) (h : l ≠ []) : 0 < (strB l).size := by
  rw [strB_size]
  exact List.length_pos_iff.2 h

set_option maxRecDepth 20000 in
/-- What strings.Clone calls. -/
theorem copyStr_in (w : World) (l : List UInt8) (hl : l.length ≤ 140737488355328) :
    Calls Tryz.prog 98 #[.string (strB l)] w fun e w' => e = .returned (.string (strB l)) ∧ Below w.heap.size w w' := by
  have hsz := strB_size l
  by_cases h0 : l = []
  · subst h0
    have hz : (strB []).size = 0 := rfl
    clear hsz
    go_enter Tryz.func98, Tryz.ntmps98
    go_wp2
    go_ret
    exact ⟨rfl, Below.refl _ _⟩
  · have hpos : 0 < l.length := List.length_pos_iff.2 h0
    obtain ⟨i0, hi, hz0, hz1, hz2⟩ := info_parts Tryz.infoB
    have hmk : ∀ W : World, ∃ M : Array Value, M.size = l.length ∧ (Instr.makeSlice 28 (.int .i64 (l.length : Int)) (.int .i64 (l.length : Int))).run Tryz.prog W = .ok (.slice (some ⟨W.heap.size, 0, none⟩) l.length l.length) (W.alloc (.cells M 5)) := fun W => by
      refine ⟨madeCells (Value.int .u8 0).cells (((l.length : Nat) : Int).toNat * i0.size), by rw [size_madeCells, hz1]; simp, ?_⟩
      have h := run_make (P := Tryz.prog) W 28 5 i0 (.int .u8 0) Tryz.underlying28 hi hz0 .i64 .i64 (l.length : Int) (l.length : Int) (by omega) (by omega) (by rw [hz2]; omega) (by omega)
      simpa using h
    obtain ⟨M, hM, hmk⟩ := hmk w
    have hcp := Lib.run_copy_row_string (P := Tryz.prog) (w.alloc (.cells M 5)) 28 9 3 5 w.heap.size 0 l.length l.length (strB l) M 5 Tryz.underlying28 Tryz.sizeB1 (heap_last w _ _ rfl) (by omega) (by omega)
    have hY : (M.toList.take 0 ++ Lib.byteCells (strB l).data.toList ++ M.toList.drop (0 + (strB l).size)) = bc l := by
      rw [List.take_zero, List.nil_append, List.drop_of_length_le (by rw [Array.length_toList]; omega), List.append_nil, strB_list, byteCells_bc]
    rw [hY, hsz] at hcp
    have hgY : ((w.alloc (.cells M 5)).setRow w.heap.size (bc l).toArray).heap[w.heap.size]? = some (.cells (bc l).toArray 5 (0, 0)) := setRow_heap _ _ M _ _ (0, 0) (heap_last w _ _ rfl)
    have hUS := Lib.run_unsafeString_row (P := Tryz.prog) ((w.alloc (.cells M 5)).setRow w.heap.size (bc l).toArray) 163 3 9 5 Tryz.underlying163 Tryz.cellsB w.heap.size (bc l).toArray.size (by unfold World.shape?; rw [hgY]) l h0 (by simp [bc_length]) (by omega)
      (fun j x hx => by
        have hj : j < l.length := (List.getElem?_eq_some_iff.1 hx).1
        rw [Addr.add_lit, Nat.zero_add, cell_of_row _ _ _ _ _ _ hgY, List.getElem?_toArray, bc_get l j hj]
        rw [List.getElem?_eq_getElem hj] at hx
        injection hx with hx
        rw [hx])
    have hb1 : Below w.heap.size w ((w.alloc (.cells M 5)).setRow w.heap.size (bc l).toArray) :=
      ((Below.refl _ w).alloc (Nat.le_refl _) _).trans ⟨rfl, rfl, rfl, by simp, fun k hk => setRow_other _ _ _ _ (by omega)⟩
    have HB := hide (Lib.below_freeze hb1 (p := ⟨w.heap.size, 0, none⟩) (Nat.le_refl _) l.length)
    clear hb1 hgY hY hM
    generalize (w.alloc (.cells M 5)).setRow w.heap.size (bc l).toArray = W2 at *
    go_enter Tryz.func98, Tryz.ntmps98
    go_wp2
    go_ret
    exact ⟨rfl, HB.out⟩

/-- strings.Clone. -/
theorem copyStr_any (w : World) (l : List UInt8) (hl : l.length ≤ 140737488355328) :
    Calls Tryz.prog 71 #[.string (strB l)] w fun e w' => e = .returned (.string (strB l)) ∧ Below w.heap.size w w' := by
  go_enter Tryz.func71, Tryz.ntmps71
  go_wp2_with (go_at_call 98; refine (copyStr_in _ l hl).mono ?_; rintro e w' ⟨rfl, hb⟩)
  go_ret
  exact ⟨rfl, hb⟩

theorem ext_strB (l : List UInt8) (i j : Nat) : (strB l).extract i j = strB ((l.take j).drop i) := by
  apply ByteArray.ext
  simp [strB, List.drop_take]
theorem toL (l : List UInt8) : (strB l).toList = l := by rw [ByteArray.toList_eq]; exact strB_list l
theorem prefix_take (p l : Bs) : p.isPrefixOf l = (decide (p.length ≤ l.length) && (l.take p.length == p)) := by
  rw [Bool.eq_iff_iff, List.isPrefixOf_iff_prefix]
  simp
  constructor
  · rintro h
    exact ⟨h.length_le, (List.prefix_iff_eq_take.1 h).symm⟩
  · rintro ⟨_, h⟩
    exact List.prefix_iff_eq_take.2 h.symm
set_option maxRecDepth 20000 in
theorem hasPrefix_any (w : World) (l p : Bs) (_hl : l.length ≤ 140737488355328) (_hp : p.length ≤ 140737488355328) :
    Calls Tryz.prog 121 #[.string (strB l), .string (strB p)] w fun e w' => e = .returned (.bool (p.isPrefixOf l)) ∧ w' = w := by
  have h1 := strB_size l
  have h2 := strB_size p
  have h3 := toL p
  have h4 := toL (l.take p.length)
  have h5 := ext_strB l 0 p.length
  rw [List.drop_zero] at h5
  rw [prefix_take]
  by_cases h : p.length ≤ l.length
  · go_enter Tryz.func121, Tryz.ntmps121
    go_wp2
    go_ret
    exact ⟨ret_bool (by simp [h]), rfl⟩
  · go_enter Tryz.func121, Tryz.ntmps121
    go_wp2
    go_ret
    exact ⟨ret_bool (by simp [h]), rfl⟩
set_option maxRecDepth 20000 in
theorem cutPrefix_any (w : World) (l p : Bs) (hl : l.length ≤ 140737488355328) (hp : p.length ≤ 140737488355328) :
    Calls Tryz.prog 67 #[.string (strB l), .string (strB p)] w fun e w' => e = .returned (if p.isPrefixOf l then .tuple #[.string (strB (l.drop p.length)), .bool true] else .tuple #[.string (strB l), .bool false]) ∧ w' = w := by
  have h1 := strB_size l
  have h2 := strB_size p
  by_cases h : p.isPrefixOf l = true
  · have hle : p.length ≤ l.length := (List.isPrefixOf_iff_prefix.1 h).length_le
    have h5 := ext_strB l p.length l.length
    rw [List.take_length] at h5
    rw [if_pos h]
    have hin : Calls Tryz.prog 95 #[.string (strB l), .string (strB p)] w fun e w' => e = .returned (.tuple #[.string (strB (l.drop p.length)), .bool true]) ∧ w' = w := by
      go_enter Tryz.func95, Tryz.ntmps95
      go_wp2_with fail
      refine (hasPrefix_any w l p hl hp).mono ?_
      rintro e w1 ⟨rfl, rfl⟩
      rw [h]
      go_wp2
      go_ret2
      exact ⟨rfl, rfl⟩
    go_enter Tryz.func67, Tryz.ntmps67
    go_wp2_with fail
    refine hin.mono ?_
    rintro e w1 ⟨rfl, rfl⟩
    go_wp2
    go_ret2
    exact ⟨rfl, rfl⟩
  · have h := Bool.eq_false_iff.2 h
    rw [if_neg (by rw [h]; decide)]
    have hin : Calls Tryz.prog 95 #[.string (strB l), .string (strB p)] w fun e w' => e = .returned (.tuple #[.string (strB l), .bool false]) ∧ w' = w := by
      go_enter Tryz.func95, Tryz.ntmps95
      go_wp2_with fail
      refine (hasPrefix_any w l p hl hp).mono ?_
      rintro e w1 ⟨rfl, rfl⟩
      rw [h]
      go_wp2
      go_ret2
      exact ⟨rfl, rfl⟩
    go_enter Tryz.func67, Tryz.ntmps67
    go_wp2_with fail
    refine hin.mono ?_
    rintro e w1 ⟨rfl, rfl⟩
    go_wp2
    go_ret2
    exact ⟨rfl, rfl⟩
/-- What begins at N. -/
theorem Sl.und {N : Nat} {w w' : World} {v : Value} {l : Bs} (h : Sl w v l) (hN : ∀ b off n c, v = .slice (some ⟨b, off, none⟩) n c → N ≤ b) (hu : Und N w.heap.size w w') : Sl w' v l := by
  obtain ⟨ao, cap, hv, h1, h2, h3, h4⟩ := h
  refine ⟨ao, cap, hv, h1, h2, h3, fun hl => ?_⟩
  obtain ⟨b, off, ha, hlt, hc⟩ := h4 hl
  exact ⟨b, off, ha, Nat.lt_of_lt_of_le hlt hu.1, fun j hj => (World.cell?_of_block (w := w) (hu.2 b (hN b off _ _ (by rw [hv, ha])) hlt)).trans (hc j hj)⟩
/-- What a reading begins with. -/
def begin (p b : Bs) : Bs × Pos := if p.isPrefixOf b then (b.drop p.length, some 0) else ([], none)
set_option maxRecDepth 20000 in
theorem read_any (w : World) (b p : Bs) (hb : b.length ≤ 140737488355328) (hp : p.length ≤ 140737488355328) :
    Calls Tryz.prog 27 #[.string (strB b), .string (strB p)] w fun e w' => ∃ g, e = .returned (.pointer (some ⟨g, 0, none⟩)) ∧ Rd w.heap.size w' g (begin p b).1 (begin p b).2 ∧ w.heap.size ≤ g ∧ Below w.heap.size w w' := by
  have hcp := cutPrefix_any w b p hb hp
  unfold begin
  by_cases h : p.isPrefixOf b = true
  · rw [if_pos h] at hcp ⊢
    have hd : (b.drop p.length).length ≤ b.length := by rw [List.length_drop]; omega
    generalize b.drop p.length = r at *
    have hrs := strB_size r
    go_enter Tryz.func27, Tryz.ntmps27
    go_wp2_with fail
    refine hcp.mono ?_
    rintro e w1 ⟨rfl, rfl⟩
    go_wp2_with (refine wpList_tobytes _ rfl (.tmp 17) rfl (strB r) (by rw [strB_size]; unfold maxLen; omega) rfl ?_; intro v2 w2 hsl2 hb2 hbk2; rw [strB_list] at hsl2; have HS := hide hsl2; have HBK := hide hbk2; clear hbk2; have HB := hide hb2; obtain ⟨ao, cap, rfl, -⟩ := hsl2; clear hb2)
    go_ret
    refine ⟨_, rfl, ⟨_, heap_last w2 _ _ rfl, fun w' hu => HS.out.und HBK.out ⟨Nat.le_trans (by simp) hu.1, fun k hN hk => (hu.2 k hN hk).trans (heap_past w2 _ k hk)⟩, fun a ha => by injection ha with ha; omega⟩, HB.out.size, HB.out.alloc HB.out.size _⟩
  · have h := Bool.eq_false_iff.2 h
    rw [if_neg (by rw [h]; decide)] at hcp ⊢
    go_enter Tryz.func27, Tryz.ntmps27
    go_wp2_with fail
    refine hcp.mono ?_
    rintro e w1 ⟨rfl, rfl⟩
    go_wp2
    go_ret
    exact ⟨_, rfl, ⟨_, heap_last w1 _ _ rfl, fun w' _ => Sl.nil w', fun a ha => by cases ha⟩, Nat.le_refl _, (Below.refl _ _).alloc (Nat.le_refl _) _⟩
end Go.Proofs.YtdbmngbinhemeabGreatDoor
namespace Go.Proofs.YtdbmngbinhemeabGreatDoor
open Go.RowKit
variable {N : Nat}

theorem gb_setnew {w a : World} {r : Option Nat} {n i : Nat} {u : Value} (h : w.grownBy a r) (hn : w.heap.size ≤ n) : w.grownBy (a.setCell ⟨n, i, none⟩ u) r := by
  have k := gb_set a n i u
  exact ⟨k.os.trans h.os, k.tape.trans h.tape, k.output.trans h.output, Nat.le_trans h.size k.size, fun j hj hr => (k.block j (Nat.lt_of_lt_of_le hj h.size) (fun e => by injection e with e; omega)).trans (h.block j hj hr)⟩
theorem gb_new {w a b : World} {r row : Option Nat} (h : w.grownBy a r) (k : a.grownBy b row) (hrow : ∀ q, row = some q → w.heap.size ≤ q) : w.grownBy b r :=
  ⟨k.os.trans h.os, k.tape.trans h.tape, k.output.trans h.output, Nat.le_trans h.size k.size, fun j hj hr => (k.block j (Nat.lt_of_lt_of_le hj h.size) (fun e => by have := hrow j e.symm; omega)).trans (h.block j hj hr)⟩
theorem Rd.set {w : World} {g : Nat} {l : Bs} {s : Pos} {n i : Nat} {u : Value} (h : Rd N w g l s) (hn : g < n ∨ n < N ∧ n ≠ g) : Rd N (w.setCell ⟨n, i, none⟩ u) g l s := by
  have hl := h.lt
  obtain ⟨v, h1, h2, h3⟩ := h
  exact ⟨v, ((gb_set w n i u).block g hl (fun e => by injection e with e; omega)).trans h1, fun w' hu => h2 w' (und_trans (und_set w u hl (by omega)) hu), h3⟩
theorem Rd.grown {a b : World} {g : Nat} {l : Bs} {s : Pos} {row : Option Nat} (h : Rd N a g l s) (k : a.grownBy b row) (hrow : ∀ q, row = some q → g < q) : Rd N b g l s := by
  have hl := h.lt
  obtain ⟨v, h1, h2, h3⟩ := h
  refine ⟨v, (k.block g hl (fun e => by have := hrow g e.symm; omega)).trans h1, fun w' hu => h2 w' (und_trans ⟨k.size, fun j _ hj => k.block j (by omega) (fun e => by have := hrow j e.symm; omega)⟩ hu), h3⟩
theorem ne_own' {B : Nat} {w : World} {g size : Nat} {v : Value} {n : Nat} {xs : List Value} {cs : Array Value} {t e : TypeId} {fr : Nat × Nat} (hown : w.ownsRow B e size v n xs) (hh : w.heap[g]? = some (.cells cs t fr)) (hte : t ≠ e) : v.ownBlock ≠ some g := by
  intro hk
  obtain ⟨c, fz, h1⟩ := Lib.ownsRow_kind hown g hk
  rw [hh] at h1
  injection h1 with h1
  injection h1 with _ h1
  exact hte h1
theorem Rd.heap {w : World} {g : Nat} {l : Bs} {s : Pos} (h : Rd N w g l s) : ∃ cs, w.heap[g]? = some (.cells cs 117) := by
  obtain ⟨v, h1, _⟩ := h
  exact ⟨_, h1⟩
theorem rC_le (l : Bs) (most : Int) (s : Pos) (h : 0 ≤ most) : 0 ≤ (rC l most s).1 ∧ (rC l most s).1 ≤ most := by
  unfold rC
  split
  · exact ⟨Int.le_refl _, h⟩
  · omega
theorem rN_step {α : Type} (one : Pos → α × Pos) : ∀ (n : Nat) (s : Pos) (k : Nat), k ≤ n → rN one n s = ((rN one k s).1 ++ (rN one (n - k) (rN one k s).2).1, (rN one (n - k) (rN one k s).2).2)
  | n, s, 0, _ => by simp [rN]
  | 0, s, k + 1, h => by omega
  | n + 1, s, k + 1, h => by
    have ih := rN_step one n (one s).2 k (by omega)
    simp only [rN]
    rw [show n + 1 - (k + 1) = n - k from by omega, ih]
    simp
theorem rN_snoc {α : Type} (one : Pos → α × Pos) (k : Nat) (s : Pos) : rN one (k + 1) s = ((rN one k s).1 ++ [(one (rN one k s).2).1], (one (rN one k s).2).2) := by
  rw [rN_step one (k + 1) s k (by omega), show k + 1 - k = 1 from by omega]
  rfl
theorem rN_length {α : Type} (one : Pos → α × Pos) : ∀ (n : Nat) (s : Pos), (rN one n s).1.length = n
  | 0, _ => rfl
  | n + 1, s => by simp [rN, rN_length one n]
theorem Tryz.infoPart : (Tryz.prog.info? 51).map (·.size) = some 2 := by kernel_rfl
theorem Tryz.infoPair : (Tryz.prog.info? 37).map (·.size) = some 2 := by kernel_rfl
theorem Tryz.infoLink : (Tryz.prog.info? 58).map (·.size) = some 3 := by kernel_rfl
theorem heap_set3all {w : World} {g : Nat} {v0 v1 v2 u0 u1 u2 : Value} {t : TypeId} (h : w.heap[g]? = some (.cells #[v0, v1, v2] t)) : (((w.setCell ⟨g, 0, none⟩ u0).setCell ⟨g, 1, none⟩ u1).setCell ⟨g, 2, none⟩ u2).heap[g]? = some (.cells #[u0, u1, u2] t) := by
  rw [heap_setCell _ _ _ _ _ _ _ (heap_setCell _ _ _ _ _ _ _ (heap_setCell _ _ _ _ _ _ _ h))]
  simp

set_option maxRecDepth 20000 in
theorem takePart_any (w : World) (g : Nat) (l : Bs) (s : Pos) (h : Rd N w g l s) (hl : l.length ≤ 140737488355328) :
    Took N 73 #[.pointer (some ⟨g, 0, none⟩)] w g l (.agg #[.string (strB (rPart l s).1.1), .int .i64 (rPart l s).1.2]) (rPart l s).2 := by
  have hgn := h.lt
  have hx0 := heap_last w (.cells #[.string ⟨#[]⟩, .int .i64 0] 51) _ rfl
  have h0 := h.alloc (.cells #[.string ⟨#[]⟩, .int .i64 0] 51)
  have hg0 := gb_alloc w (.cells #[.string ⟨#[]⟩, .int .i64 0] 51) (some g)
  have hn0 : w.heap.size < (w.alloc (.cells #[.string ⟨#[]⟩, .int .i64 0] 51)).heap.size := by simp
  unfold Took rPart  rP
  dsimp only
  have H0 := hide h0
  clear h h0
  generalize hw0 : w.alloc (.cells #[.string ⟨#[]⟩, .int .i64 0] 51) = w0 at *
  go_enter Tryz.func73, Tryz.ntmps73
  go_wp2_with fail
  try rw [hw0]
  have hT1 := takeId_any w0 g l (s) H0.out hl
  unfold Took at hT1
  skip
  refine hT1.mono ?_
  rintro e w1 ⟨rfl, hR1, hg1⟩
  have hx1 := (hg1.block _ (lt_of_heap hx0) (fun e => by injection e with e; omega)).trans hx0
  have hG1 := gb_trans hg0 hg1
  have HR1 := hide hR1
  clear hR1 hT1
  have hT2 := takeNumber_any w1 g l ((rD l (s)).2) HR1.out hl
  unfold Took at hT2
  go_wp2_with fail
  refine hT2.mono ?_
  rintro e w2 ⟨rfl, hR2, hg2⟩
  have hx2 := (hg2.block _ (lt_of_heap hx1) (fun e => by injection e with e; omega)).trans hx1
  have hG2 := gb_trans hG1 hg2
  have HR2 := hide hR2
  clear hR2 hT2
  have c0 := cell_of_row w2 w.heap.size 0 _ _ _ hx2
  simp only [List.getElem?_toArray, List.getElem?_cons_zero] at c0
  have f0 := frozen0 (j := 0) hx2
  have c1 := cell_of_row w2 w.heap.size 1 _ _ _ hx2
  simp only [List.getElem?_toArray, List.getElem?_cons_zero, List.getElem?_cons_succ] at c1
  have f1 := frozen0 (j := 1) hx2
  go_wp2
  refine bodyPost_ret (results_cell_row rfl _ _ _ _ _ _ _ rfl (heap_set2 hx2) Tryz.underlying51 rfl Tryz.infoPart) rfl ⟨rfl, ((HR2.out.set (.inl hgn)).set (.inl hgn)), (gb_setnew (gb_setnew hG2 (Nat.le_refl _)) (Nat.le_refl _))⟩

set_option maxRecDepth 20000 in
theorem takePair_any (w : World) (g : Nat) (l : Bs) (s : Pos) (h : Rd N w g l s) (hl : l.length ≤ 140737488355328) :
    Took N 29 #[.pointer (some ⟨g, 0, none⟩)] w g l (.agg #[.string (strB (rPair l l.length l.length s).1.1), .string (strB (rPair l l.length l.length s).1.2)]) (rPair l l.length l.length s).2 := by
  have hgn := h.lt
  have hx0 := heap_last w (.cells #[.string ⟨#[]⟩, .string ⟨#[]⟩] 37) _ rfl
  have h0 := h.alloc (.cells #[.string ⟨#[]⟩, .string ⟨#[]⟩] 37)
  have hg0 := gb_alloc w (.cells #[.string ⟨#[]⟩, .string ⟨#[]⟩] 37) (some g)
  have hn0 : w.heap.size < (w.alloc (.cells #[.string ⟨#[]⟩, .string ⟨#[]⟩] 37)).heap.size := by simp
  unfold Took rPair  rP
  dsimp only
  have H0 := hide h0
  clear h h0
  generalize hw0 : w.alloc (.cells #[.string ⟨#[]⟩, .string ⟨#[]⟩] 37) = w0 at *
  go_enter Tryz.func29, Tryz.ntmps29
  go_wp2_with fail
  try rw [hw0]
  have hT1 := takeText_any w0 g l (s) H0.out hl
  unfold Took at hT1
  skip
  refine hT1.mono ?_
  rintro e w1 ⟨rfl, hR1, hg1⟩
  have hx1 := (hg1.block _ (lt_of_heap hx0) (fun e => by injection e with e; omega)).trans hx0
  have hG1 := gb_trans hg0 hg1
  have HR1 := hide hR1
  clear hR1 hT1
  have hT2 := takeText_any w1 g l ((rT l l.length (s)).2) HR1.out hl
  unfold Took at hT2
  go_wp2_with fail
  refine hT2.mono ?_
  rintro e w2 ⟨rfl, hR2, hg2⟩
  have hx2 := (hg2.block _ (lt_of_heap hx1) (fun e => by injection e with e; omega)).trans hx1
  have hG2 := gb_trans hG1 hg2
  have HR2 := hide hR2
  clear hR2 hT2
  have c0 := cell_of_row w2 w.heap.size 0 _ _ _ hx2
  simp only [List.getElem?_toArray, List.getElem?_cons_zero] at c0
  have f0 := frozen0 (j := 0) hx2
  have c1 := cell_of_row w2 w.heap.size 1 _ _ _ hx2
  simp only [List.getElem?_toArray, List.getElem?_cons_zero, List.getElem?_cons_succ] at c1
  have f1 := frozen0 (j := 1) hx2
  go_wp2
  refine bodyPost_ret (results_cell_row rfl _ _ _ _ _ _ _ rfl (heap_set2 hx2) Tryz.underlying37 rfl Tryz.infoPair) rfl ⟨rfl, ((HR2.out.set (.inl hgn)).set (.inl hgn)), (gb_setnew (gb_setnew hG2 (Nat.le_refl _)) (Nat.le_refl _))⟩

set_option maxRecDepth 20000 in
theorem takeLink_any (w : World) (g : Nat) (l : Bs) (s : Pos) (h : Rd N w g l s) (hl : l.length ≤ 140737488355328) :
    Took N 77 #[.pointer (some ⟨g, 0, none⟩)] w g l (.agg #[.string (strB (rLink l l.length s).1.1), .string (strB (rLink l l.length s).1.2.1), .int .i64 (rLink l l.length s).1.2.2]) (rLink l l.length s).2 := by
  have hgn := h.lt
  have hx0 := heap_last w (.cells #[.string ⟨#[]⟩, .string ⟨#[]⟩, .int .i64 0] 58) _ rfl
  have h0 := h.alloc (.cells #[.string ⟨#[]⟩, .string ⟨#[]⟩, .int .i64 0] 58)
  have hg0 := gb_alloc w (.cells #[.string ⟨#[]⟩, .string ⟨#[]⟩, .int .i64 0] 58) (some g)
  have hn0 : w.heap.size < (w.alloc (.cells #[.string ⟨#[]⟩, .string ⟨#[]⟩, .int .i64 0] 58)).heap.size := by simp
  unfold Took rLink rPart rP
  dsimp only
  have H0 := hide h0
  clear h h0
  generalize hw0 : w.alloc (.cells #[.string ⟨#[]⟩, .string ⟨#[]⟩, .int .i64 0] 58) = w0 at *
  go_enter Tryz.func77, Tryz.ntmps77
  go_wp2_with fail
  try rw [hw0]
  have hT1 := takeText_any w0 g l (s) H0.out hl
  unfold Took at hT1
  skip
  refine hT1.mono ?_
  rintro e w1 ⟨rfl, hR1, hg1⟩
  have hx1 := (hg1.block _ (lt_of_heap hx0) (fun e => by injection e with e; omega)).trans hx0
  have hG1 := gb_trans hg0 hg1
  have HR1 := hide hR1
  clear hR1 hT1
  have hT2 := takeId_any w1 g l ((rT l l.length (s)).2) HR1.out hl
  unfold Took at hT2
  go_wp2_with fail
  refine hT2.mono ?_
  rintro e w2 ⟨rfl, hR2, hg2⟩
  have hx2 := (hg2.block _ (lt_of_heap hx1) (fun e => by injection e with e; omega)).trans hx1
  have hG2 := gb_trans hG1 hg2
  have HR2 := hide hR2
  clear hR2 hT2
  have hT3 := takeNumber_any w2 g l ((rD l ((rT l l.length (s)).2)).2) HR2.out hl
  unfold Took at hT3
  go_wp2_with fail
  refine hT3.mono ?_
  rintro e w3 ⟨rfl, hR3, hg3⟩
  have hx3 := (hg3.block _ (lt_of_heap hx2) (fun e => by injection e with e; omega)).trans hx2
  have hG3 := gb_trans hG2 hg3
  have HR3 := hide hR3
  clear hR3 hT3
  have c0 := cell_of_row w3 w.heap.size 0 _ _ _ hx3
  simp only [List.getElem?_toArray, List.getElem?_cons_zero] at c0
  have f0 := frozen0 (j := 0) hx3
  have c1 := cell_of_row w3 w.heap.size 1 _ _ _ hx3
  simp only [List.getElem?_toArray, List.getElem?_cons_zero, List.getElem?_cons_succ] at c1
  have f1 := frozen0 (j := 1) hx3
  have c2 := cell_of_row w3 w.heap.size 2 _ _ _ hx3
  simp only [List.getElem?_toArray, List.getElem?_cons_zero, List.getElem?_cons_succ] at c2
  have f2 := frozen0 (j := 2) hx3
  go_wp2
  refine bodyPost_ret (results_cell_row rfl _ _ _ _ _ _ _ rfl (heap_set3all hx3) Tryz.underlying58 rfl Tryz.infoLink) rfl ⟨rfl, (((HR3.out.set (.inl hgn)).set (.inl hgn)).set (.inl hgn)), (gb_setnew (gb_setnew (gb_setnew hG3 (Nat.le_refl _)) (Nat.le_refl _)) (Nat.le_refl _))⟩
end Go.Proofs.YtdbmngbinhemeabGreatDoor
