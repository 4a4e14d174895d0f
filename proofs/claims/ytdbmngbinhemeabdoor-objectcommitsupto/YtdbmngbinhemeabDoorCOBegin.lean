/-
  A text's bytes; a text copied; a text's beginning; a reading begun. Conditions: lengths within reach.
-/
import Derived.Test.YtdbmngbinhemeabDoorCORead
import Derived.Lib.SliceRun
import Derived.Lib.UnsafeStr
import Derived.Lib.BufferWrite
import Derived.Laws.MakeOwn
namespace Go.Proofs.YtdbmngbinhemeabDoor
open Go.RowKit

theorem wpList_want {P : Program} {w : World} {ops : Array Oper} {rest : List Oper} {o : Oper} {a : Act} {Q : Exit → Act → World → Prop} (hw : Region.wanted o (yielded ops a.tmps) = true)
    (h : ∀ K : Act → World → Prop, (∀ a w, wpList P ops Q rest a w → K a w) → o.wp P a w K Q) : wpList P ops Q (o :: rest) a w :=
  wpList_step fun K hK => by rw [if_pos hw]; exact h K hK
theorem cell_at_new (w : World) (C : Array Value) (e : TypeId) (fr : Nat × Nat) (j : Nat) : (w.alloc (.cells C e fr)).cell? ⟨w.heap.size, j, none⟩ = C[j]? := by
  have : (w.alloc (.cells C e fr)).heap[w.heap.size]? = some (.cells C e fr) := by
    show (w.heap.push (.cells C e fr))[w.heap.size]? = _
    simp
  unfold World.cell?
  simp only [this]
  rfl
/-- '[]byte(s)', guarded. -/
theorem wpList_tobytes (w : World) {ops : Array Oper} {rest : List Oper} {o : Oper} {a : Act} {Q : Exit → Act → World → Prop} (hg : Region.wanted o (yielded ops a.tmps) = true) (x : Operand) (hop : o.op = Op.convert 9 71 x)
    (s : ByteArray) (hs : s.size ≤ maxLen) (hx : a.eval x = .string s)
    (hK : ∀ v' w', Sl w' v' s.data.toList → Below w.heap.size w w' → (∀ b off n c, v' = .slice (some ⟨b, off, none⟩) n c → w.heap.size ≤ b) → wpList Tryd.prog ops Q rest (a.put o.dst v') w') : wpList Tryd.prog ops Q (o :: rest) a w := by
  refine wpList_want hg fun K hK' => ?_
  have hr := run_bytes_of_string (P := Tryd.prog) w 9 71 5 s Tryd.underlying9 Tryd.underlying71 Tryd.underlying5
  have hlen : s.data.toList.length = s.size := by simp
  have hge := grownCap_ge w s.size 0 5
  have hle := grownCap_le_maxLen w s.size 0 5 hs
  unfold Oper.wp
  simp only [execOp, hop, hx, Result.andThen, Sem.run_bind, hr]
  refine hK' _ _ (hK _ _ ?_ (((Below.refl _ _).drew).alloc (by simp) _) (fun b off n c e => by injection e with e; injection e with e; injection e with e; omega))
  refine ⟨_, grownCap w s.size 0 5, by rw [hlen], by omega, hle, by simp, fun _ => ⟨w.heap.size, 0, rfl, by simp, fun j hj => ?_⟩⟩
  have := cell_at_new w.drew (bytesRow s (grownCap w s.size 0 5)) 5 ((bytesRow s (grownCap w s.size 0 5)).size, (bytesRow s (grownCap w s.size 0 5)).size + 1) j
  rw [show w.drew.heap.size = w.heap.size from rfl] at this
  rw [Nat.zero_add, this, bytesRow_at s _ j (by simpa using hj)]
  simp
theorem Tryd.cellsB : Tryd.prog.cellsOf 5 = 1 := by kernel_rfl
theorem Tryd.sizeB1 : (Tryd.prog.info? 5).map (·.size) = some 1 := by kernel_rfl
theorem byteCells_bc (l : List UInt8) : Lib.byteCells l = bc l := rfl
theorem strB_bytes (l : List UInt8) (h : l ≠ []) : 0 < (strB l).size := by
  rw [strB_size]
  exact List.length_pos_iff.2 h

set_option maxRecDepth 20000 in
/-- What strings.Clone calls. -/
theorem copyStr_in (w : World) (l : List UInt8) (hl : l.length ≤ 140737488355328) :
    Calls Tryd.prog 98 #[.string (strB l)] w fun e w' => e = .returned (.string (strB l)) ∧ Below w.heap.size w w' := by
  have hsz := strB_size l
  by_cases h0 : l = []
  · subst h0
    have hz : (strB []).size = 0 := rfl
    clear hsz
    go_enter Tryd.func98, Tryd.ntmps98
    go_wp2
    go_ret
    exact ⟨rfl, Below.refl _ _⟩
  · have hpos : 0 < l.length := List.length_pos_iff.2 h0
    obtain ⟨i0, hi, hz0, hz1, hz2⟩ := info_parts Tryd.infoB
    have hmk : ∀ W : World, ∃ M : Array Value, M.size = l.length ∧ (Instr.makeSlice 71 (.int .i64 (l.length : Int)) (.int .i64 (l.length : Int))).run Tryd.prog W = .ok (.slice (some ⟨W.heap.size, 0, none⟩) l.length l.length) (W.alloc (.cells M 5)) := fun W => by
      refine ⟨madeCells (Value.int .u8 0).cells (((l.length : Nat) : Int).toNat * i0.size), by rw [size_madeCells, hz1]; simp, ?_⟩
      have h := run_make (P := Tryd.prog) W 71 5 i0 (.int .u8 0) Tryd.underlying71 hi hz0 .i64 .i64 (l.length : Int) (l.length : Int) (by omega) (by omega) (by rw [hz2]; omega) (by omega)
      simpa using h
    obtain ⟨M, hM, hmk⟩ := hmk w
    have hcp := Lib.run_copy_row_string (P := Tryd.prog) (w.alloc (.cells M 5)) 71 9 3 5 w.heap.size 0 l.length l.length (strB l) M 5 Tryd.underlying71 Tryd.sizeB1 (heap_last w _ _ rfl) (by omega) (by omega)
    have hY : (M.toList.take 0 ++ Lib.byteCells (strB l).data.toList ++ M.toList.drop (0 + (strB l).size)) = bc l := by
      rw [List.take_zero, List.nil_append, List.drop_of_length_le (by rw [Array.length_toList]; omega), List.append_nil, strB_list, byteCells_bc]
    rw [hY, hsz] at hcp
    have hgY : ((w.alloc (.cells M 5)).setRow w.heap.size (bc l).toArray).heap[w.heap.size]? = some (.cells (bc l).toArray 5 (0, 0)) := setRow_heap _ _ M _ _ (0, 0) (heap_last w _ _ rfl)
    have hUS := Lib.run_unsafeString_row (P := Tryd.prog) ((w.alloc (.cells M 5)).setRow w.heap.size (bc l).toArray) 167 3 9 5 Tryd.underlying167 Tryd.cellsB w.heap.size (bc l).toArray.size (by unfold World.shape?; rw [hgY]) l h0 (by simp [bc_length]) (by omega)
      (fun j x hx => by
        have hj : j < l.length := (List.getElem?_eq_some_iff.1 hx).1
        rw [Addr.add_lit, Nat.zero_add, cell_of_row _ _ _ _ _ _ hgY, List.getElem?_toArray, bc_get l j hj]
        rw [List.getElem?_eq_getElem hj] at hx
        injection hx with hx
        rw [hx])
    have hb1 : Below w.heap.size w ((w.alloc (.cells M 5)).setRow w.heap.size (bc l).toArray) :=
      ((Below.refl _ w).alloc (Nat.le_refl _) _).trans ⟨rfl, rfl, rfl, by simp, fun k hk => setRow_other _ _ _ _ (by omega)⟩
    have HB := hide (Lib.below_freeze hb1 (p := ⟨w.heap.size, 0, none⟩) (Nat.le_refl _) l.length)
    clear hb1 hgY hY hM
    generalize (w.alloc (.cells M 5)).setRow w.heap.size (bc l).toArray = W2 at *
    go_enter Tryd.func98, Tryd.ntmps98
    go_wp2
    go_ret
    exact ⟨rfl, HB.out⟩

/-- strings.Clone. -/
theorem copyStr_any (w : World) (l : List UInt8) (hl : l.length ≤ 140737488355328) :
    Calls Tryd.prog 48 #[.string (strB l)] w fun e w' => e = .returned (.string (strB l)) ∧ Below w.heap.size w w' := by
  go_enter Tryd.func48, Tryd.ntmps48
  go_wp2_with (go_at_call 98; refine (copyStr_in _ l hl).mono ?_; rintro e w' ⟨rfl, hb⟩)
  go_ret
  exact ⟨rfl, hb⟩

theorem ext_strB (l : List UInt8) (i j : Nat) : (strB l).extract i j = strB ((l.take j).drop i) := by
  apply ByteArray.ext
  simp [strB, List.drop_take]
theorem toL (l : List UInt8) : (strB l).toList = l := by rw [ByteArray.toList_eq]; exact strB_list l
theorem prefix_take (p l : Bs) : p.isPrefixOf l = (decide (p.length ≤ l.length) && (l.take p.length == p)) := by
  rw [Bool.eq_iff_iff, List.isPrefixOf_iff_prefix]
  simp
  constructor
  · rintro h
    exact ⟨h.length_le, (List.prefix_iff_eq_take.1 h).symm⟩
  · rintro ⟨_, h⟩
    exact List.prefix_iff_eq_take.2 h.symm
set_option maxRecDepth 20000 in
theorem hasPrefix_any (w : World) (l p : Bs) (_hl : l.length ≤ 140737488355328) (_hp : p.length ≤ 140737488355328) :
    Calls Tryd.prog 133 #[.string (strB l), .string (strB p)] w fun e w' => e = .returned (.bool (p.isPrefixOf l)) ∧ w' = w := by
  have h1 := strB_size l
  have h2 := strB_size p
  have h3 := toL p
  have h4 := toL (l.take p.length)
  have h5 := ext_strB l 0 p.length
  rw [List.drop_zero] at h5
  rw [prefix_take]
  by_cases h : p.length ≤ l.length
  · go_enter Tryd.func133, Tryd.ntmps133
    go_wp2
    go_ret
    exact ⟨ret_bool (by simp [h]), rfl⟩
  · go_enter Tryd.func133, Tryd.ntmps133
    go_wp2
    go_ret
    exact ⟨ret_bool (by simp [h]), rfl⟩
set_option maxRecDepth 20000 in
theorem cutPrefix_any (w : World) (l p : Bs) (hl : l.length ≤ 140737488355328) (hp : p.length ≤ 140737488355328) :
    Calls Tryd.prog 47 #[.string (strB l), .string (strB p)] w fun e w' => e = .returned (if p.isPrefixOf l then .tuple #[.string (strB (l.drop p.length)), .bool true] else .tuple #[.string (strB l), .bool false]) ∧ w' = w := by
  have h1 := strB_size l
  have h2 := strB_size p
  by_cases h : p.isPrefixOf l = true
  · have hle : p.length ≤ l.length := (List.isPrefixOf_iff_prefix.1 h).length_le
    have h5 := ext_strB l p.length l.length
    rw [List.take_length] at h5
    rw [if_pos h]
    have hin : Calls Tryd.prog 97 #[.string (strB l), .string (strB p)] w fun e w' => e = .returned (.tuple #[.string (strB (l.drop p.length)), .bool true]) ∧ w' = w := by
      go_enter Tryd.func97, Tryd.ntmps97
      go_wp2_with fail
      refine (hasPrefix_any w l p hl hp).mono ?_
      rintro e w1 ⟨rfl, rfl⟩
      rw [h]
      go_wp2
      go_ret2
      exact ⟨rfl, rfl⟩
    go_enter Tryd.func47, Tryd.ntmps47
    go_wp2_with fail
    refine hin.mono ?_
    rintro e w1 ⟨rfl, rfl⟩
    go_wp2
    go_ret2
    exact ⟨rfl, rfl⟩
  · have h := Bool.eq_false_iff.2 h
    rw [if_neg (by rw [h]; decide)]
    have hin : Calls Tryd.prog 97 #[.string (strB l), .string (strB p)] w fun e w' => e = .returned (.tuple #[.string (strB l), .bool false]) ∧ w' = w := by
      go_enter Tryd.func97, Tryd.ntmps97
      go_wp2_with fail
      refine (hasPrefix_any w l p hl hp).mono ?_
      rintro e w1 ⟨rfl, rfl⟩
      rw [h]
      go_wp2
      go_ret2
      exact ⟨rfl, rfl⟩
    go_enter Tryd.func47, Tryd.ntmps47
    go_wp2_with fail
    refine hin.mono ?_
    rintro e w1 ⟨rfl, rfl⟩
    go_wp2
    go_ret2
    exact ⟨rfl, rfl⟩
/-- What begins at N. -/
theorem Sl.und {N : Nat} {w w' : World} {v : Value} {l : Bs} (h : Sl w v l) (hN : ∀ b off n c, v = .slice (some ⟨b, off, none⟩) n c → N ≤ b) (hu : Und N w.heap.size w w') : Sl w' v l := by
  obtain ⟨ao, cap, hv, h1, h2, h3, h4⟩ := h
  refine ⟨ao, cap, hv, h1, h2, h3, fun hl => ?_⟩
  obtain ⟨b, off, ha, hlt, hc⟩ := h4 hl
  exact ⟨b, off, ha, Nat.lt_of_lt_of_le hlt hu.1, fun j hj => (World.cell?_of_block (w := w) (hu.2 b (hN b off _ _ (by rw [hv, ha])) hlt)).trans (hc j hj)⟩
/-- What a reading begins with. -/
def begin (p b : Bs) : Bs × Pos := if p.isPrefixOf b then (b.drop p.length, some 0) else ([], none)
set_option maxRecDepth 20000 in
theorem read_any (w : World) (b p : Bs) (hb : b.length ≤ 140737488355328) (hp : p.length ≤ 140737488355328) :
    Calls Tryd.prog 49 #[.string (strB b), .string (strB p)] w fun e w' => ∃ g, e = .returned (.pointer (some ⟨g, 0, none⟩)) ∧ Rd w.heap.size w' g (begin p b).1 (begin p b).2 ∧ w.heap.size ≤ g ∧ Below w.heap.size w w' := by
  have hcp := cutPrefix_any w b p hb hp
  unfold begin
  by_cases h : p.isPrefixOf b = true
  · rw [if_pos h] at hcp ⊢
    have hd : (b.drop p.length).length ≤ b.length := by rw [List.length_drop]; omega
    generalize b.drop p.length = r at *
    have hrs := strB_size r
    go_enter Tryd.func49, Tryd.ntmps49
    go_wp2_with fail
    refine hcp.mono ?_
    rintro e w1 ⟨rfl, rfl⟩
    go_wp2_with (refine wpList_tobytes _ rfl (.tmp 17) rfl (strB r) (by rw [strB_size]; unfold maxLen; omega) rfl ?_; intro v2 w2 hsl2 hb2 hbk2; rw [strB_list] at hsl2; have HS := hide hsl2; have HBK := hide hbk2; clear hbk2; have HB := hide hb2; obtain ⟨ao, cap, rfl, -⟩ := hsl2; clear hb2)
    go_ret
    refine ⟨_, rfl, ⟨_, heap_last w2 _ _ rfl, fun w' hu => HS.out.und HBK.out ⟨Nat.le_trans (by simp) hu.1, fun k hN hk => (hu.2 k hN hk).trans (heap_past w2 _ k hk)⟩, fun a ha => by injection ha with ha; omega⟩, HB.out.size, HB.out.alloc HB.out.size _⟩
  · have h := Bool.eq_false_iff.2 h
    rw [if_neg (by rw [h]; decide)] at hcp ⊢
    go_enter Tryd.func49, Tryd.ntmps49
    go_wp2_with fail
    refine hcp.mono ?_
    rintro e w1 ⟨rfl, rfl⟩
    go_wp2
    go_ret
    exact ⟨_, rfl, ⟨_, heap_last w1 _ _ rfl, fun w' _ => Sl.nil w', fun a ha => by cases ha⟩, Nat.le_refl _, (Below.refl _ _).alloc (Nat.le_refl _) _⟩
end Go.Proofs.YtdbmngbinhemeabDoor
