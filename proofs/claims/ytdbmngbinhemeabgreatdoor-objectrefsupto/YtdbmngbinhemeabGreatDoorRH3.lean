/-
  What the sum's bytes are, and what stands behind so many bytes: bytesOf, ending. Condition: a number of 64 bits.
  What the mixer holds behind so many bytes, plainly, and how it is laid out in memory. No condition.
-/
import Derived.Test.YtdbmngbinhemeabGreatDoorRH2
namespace Go.Proofs.YtdbmngbinhemeabGreatDoor
open Go.RowKit

theorem ret_str {a b : ByteArray} (h : a = b) : Ending.returned (.string a) = .returned (.string b) := by rw [h]
def outL (L : List UInt32) : List UInt8 := L.flatMap be4
theorem outL_length (L : List UInt32) : (outL L).length = 4 * L.length := by
  induction L with
  | nil => rfl
  | cons a r ih => simp only [outL, List.flatMap_cons, List.length_append, List.length_cons] at ih ⊢; rw [ih]; simp [be4]; omega
theorem outL_take (L : List UInt32) (k : Nat) (h : k < L.length) : outL (L.take (k + 1)) = outL (L.take k) ++ be4 (L.getD k 0) := by
  unfold outL
  rw [List.take_succ_eq_append_getElem h, List.flatMap_append]
  simp [List.getD, h]
theorem putWord_at (w : World) (base g cap m : Nat) (l : List UInt8) (n : UInt32) (hm : l.length = m) (hbase : base ≤ w.heap.size)
    (hown : w.ownsRow base 5 1 (.slice (some ⟨g, 0, none⟩) m cap) m (bc l)) (hfit : m + 4 ≤ cap) :
    Calls Tryz.prog 116 #[.slice (some ⟨g, 0, none⟩) m cap, .int .u32 (u n)] w fun e w' => e = .returned (.slice (some ⟨g, 0, none⟩) (m + 4) cap) ∧
      w'.ownsRow base 5 1 (.slice (some ⟨g, 0, none⟩) (m + 4) cap) (m + 4) (bc (l ++ be4 n)) ∧ Below base w w' := by
  subst hm
  exact putWord_any w base g cap l n hbase hown hfit
theorem sl_at {w : World} {base m : Nat} {v : Value} {l : List UInt8} (hm : l.length = m) (h : w.ownsRow base 5 1 v m (bc l)) : Sl w v l := by
  subst hm
  exact sl_of_own h

set_option maxRecDepth 20000 in
set_option maxHeartbeats 400000 in
theorem bytesOf_any (w : World) (s : St) :
    Calls Tryz.prog 92 #[.agg (uc s.list)] w fun e w' => e = .returned (.string (strB (out s))) ∧ Below w.heap.size w w' := by
  obtain ⟨i0, hi, hz0, hz1, hz2⟩ := info_parts Tryz.infoB
  have hL : s.list.length = 8 := rfl
  have hE : Hid (out s = outL s.list) := rfl
  have hget : ∀ k, k < 8 → (uc s.list)[k]? = some (.int .u32 (u (s.list.getD k 0))) := fun k hk => uc_get _ _ hk
  have hsz : (Tryz.prog.info? 132).map (·.size) = some (uc s.list).size := Tryz.infoEight
  generalize s.list = L at *
  generalize uc L = E at *
  go_enter Tryz.func92, Tryz.ntmps92
  go_wp2_with (first
    | (at_make; refine wpList_make_own _ rfl _ _ 28 rfl w.heap.size 5 i0 (.int .u8 0) 1 Tryz.underlying28 hi hz0 hz1 .i64 .i64 _ 32 rfl rfl (by omega) (by rw [hz2]; omega) (by unfold maxLen; omega) (by simp) ?_; intro w1 hown1 hgrow1)
    | (refine wpList_load_row rfl 132 (.tmp 1) rfl _ rfl 132 E (0, 0) _ (by rw [hgrow1.block _ (by simp) (by simp)]; exact heap_last _ _ _ rfl) Tryz.underlying132 rfl hsz ?_))
  have hb1 : Below w.heap.size w w1 := ((Below.refl _ _).alloc (Nat.le_refl _) _).grown hgrow1 (by simp) (by intro k hk; cases hk)
  have hown : w1.ownsRow w.heap.size 5 1 (.slice (some ⟨w.heap.size + 1, 0, none⟩) 0 32) 0 [] := by simpa using hown1
  clear hown1 hgrow1 hsz
  go_loopw [3, 8] (fun v t wr => ∃ k : Nat, k ≤ 8 ∧ v = .slice (some ⟨w.heap.size + 1, 0, none⟩) (4 * k) 32 ∧ t = .int .i64 k ∧
      wr.ownsRow w.heap.size 5 1 (.slice (some ⟨w.heap.size + 1, 0, none⟩) (4 * k) 32) (4 * k) (bc (outL (L.take k))) ∧ Below w.heap.size w wr)
    (fun _ t _ => 8 - (intOf t).toNat)
  case atStart => exact ⟨0, by omega, rfl, rfl, hown, hb1⟩
  case round =>
    clear hown hb1
    obtain ⟨k, hk, rfl, rfl, hown, hb⟩ := hrel
    have hlen : (outL (L.take k)).length = 4 * k := by rw [outL_length]; simp; omega
    by_cases hlt : k < 8
    · have hx := index35 wr E k _ hlt (hget k hlt)
      have hS := hide (outL_take L k (by omega))
      have HL := hide hlen
      have HB := hide hb
      have HO := hide hown
      clear hlen hget hb hown
      generalize L.getD k 0 = x at *
      go_wp2_with fail
      refine (putWord_at _ w.heap.size _ 32 (4 * k) _ x HL.out HB.out.size HO.out (by omega)).mono ?_
      rintro e1 w2 ⟨rfl, hown2, hb2⟩
      go_wp2
      go_roundw
      case rel => exact ⟨k + 1, by omega, rfl, by go_num, by rw [hS.out]; exact hown2, HB.out.trans hb2⟩
      case measure => simp [intOf]; omega
    · obtain rfl : k = 8 := by omega
      have hsl := sl_at hlen hown
      rw [List.take_of_length_le (by omega)] at hsl
      clear hlen hget hown
      go_wp2_with (refine wpList_strB _ rfl (.tmp 15) rfl hsl rfl ?_)
      go_ret
      exact ⟨ret_str (by rw [hE.out]), hb⟩

theorem made_row (w : World) (n c : Nat) (h : n < c) (hc : c ≤ maxLen) :
    (w.alloc (.cells ((madeCells #[.int .u8 0] c).setIfInBounds 0 (.int .u8 128)) 5)).ownsRow w.heap.size 5 1 (.slice (some ⟨w.heap.size, 0, none⟩) (1 + n) c) (1 + n) (bc (128 :: List.replicate n 0)) := by
  refine ⟨by simp [bc]; omega, .inr ⟨w.heap.size, c, _, rfl, Nat.le_refl _, heap_last _ _ _ rfl, by omega, hc, by simp [size_madeCells], ?_⟩⟩
  rw [Nat.mul_one, Array.toList_setIfInBounds, toList_madeCells_one]
  obtain ⟨d, rfl⟩ : ∃ d, c = n + 1 + d := ⟨c - (n + 1), by omega⟩
  rw [show n + 1 + d = (n + d) + 1 from by omega, List.replicate_succ, List.set_cons_zero, show 1 + n = n + 1 from by omega, List.take_succ_cons, List.take_replicate]
  simp [bc]

theorem noughts (size : Nat) (_hs : size < 18446744073709551616) : (IntKind.u64.wrap (55 - (size : Int))).tmod 64 = (((119 - size % 64) % 64 : Nat) : Int) := by
  rw [IntKind.wrap_u64, Int.tmod_eq_emod_of_nonneg (by omega)]
  omega
theorem high32 (size : Nat) : IntKind.u64.wrap ((size : Int) * 8) / 4294967296 % 4294967296 = u (UInt32.ofNat (size * 8 % 18446744073709551616 / 4294967296)) := by
  unfold u
  rw [IntKind.wrap_u64, UInt32.toNat_ofNat']
  omega
theorem low32 (size : Nat) : IntKind.u64.wrap ((size : Int) * 8) % 4294967296 = u (UInt32.ofNat (size * 8 % 18446744073709551616)) := by
  unfold u
  rw [IntKind.wrap_u64, UInt32.toNat_ofNat']
  omega
theorem make9 (w : World) (n : Nat) (hn : n < 64) : (Instr.makeSlice 28 (.int .u64 (1 + (n : Int))) (.int .u64 (1 + (n : Int) + 8))).run Tryz.prog w = .ok (.slice (some ⟨w.heap.size, 0, none⟩) (1 + n) (1 + n + 8)) (w.alloc (.cells (madeCells #[.int .u8 0] (1 + n + 8)) 5)) := by
  obtain ⟨i0, hi, hz0, hz1, hz2⟩ := info_parts Tryz.infoB
  have := run_make (P := Tryz.prog) w 28 5 i0 (.int .u8 0) Tryz.underlying28 hi hz0 .u64 .u64 (1 + (n : Int)) (1 + (n : Int) + 8) (by omega) (by omega) (by rw [hz2]; omega) (by omega)
  rw [this, hz1, show (1 + (n : Int)).toNat = 1 + n from by omega, show (1 + (n : Int) + 8).toNat = 1 + n + 8 from by omega, Nat.mul_one]
  rfl

set_option maxRecDepth 20000 in
set_option maxHeartbeats 400000 in
theorem ending_any (w : World) (size : Nat) (hs : size < 18446744073709551616) :
    Calls Tryz.prog 91 #[.int .u64 size] w fun e w' => e = .returned (.string (strB (tail size))) ∧ Below w.heap.size w w' := by
  obtain ⟨i0, hi, hz0, hz1, hz2⟩ := info_parts Tryz.infoB
  have hno := noughts size hs
  have hT : tail size = (128 :: List.replicate ((119 - size % 64) % 64) 0) ++ (be4 (UInt32.ofNat (size * 8 % 18446744073709551616 / 4294967296)) ++ be4 (UInt32.ofNat (size * 8 % 18446744073709551616))) := by
    unfold tail
    rw [List.cons_append]
  have HS := hide hs
  have HT := hide hT
  have hn : (119 - size % 64) % 64 < 64 := Nat.mod_lt _ (by omega)
  clear hs hT
  generalize (119 - size % 64) % 64 = n at *
  have hmk := make9
  have hc0 : (madeCells #[.int .u8 0] (1 + n + 8))[0]? = some (.int .u8 0) := by
    rw [← Array.getElem?_toList, toList_madeCells_one, show 1 + n + 8 = (n + 8) + 1 from by omega, List.replicate_succ]
    rfl
  have hhi := high32 size
  have hlo := low32 size
  generalize UInt32.ofNat (size * 8 % 18446744073709551616 / 4294967296) = a at *
  generalize UInt32.ofNat (size * 8 % 18446744073709551616) = b at *
  go_enter Tryz.func91, Tryz.ntmps91
  go_wp2_with fail
  clear hhi hno hmk hc0
  refine (putWord_at _ w.heap.size _ (1 + n + 8) (1 + n) _ a (by simp; omega) (by simp) (made_row w n (1 + n + 8) (by omega) (by unfold maxLen; omega)) (by omega)).mono ?_
  rintro e1 w1 ⟨rfl, hown1, hb1⟩
  go_wp2_with fail
  refine (putWord_at _ w.heap.size _ (1 + n + 8) (1 + n + 4) _ b (by simp [be4]; omega) (by have := hb1.size; simp at this; omega) hown1 (by omega)).mono ?_
  rintro e1 w2 ⟨rfl, hown2, hb2⟩
  have hsl := sl_at (by simp [be4]; omega) hown2
  have hb := (((Below.refl _ _).alloc (Nat.le_refl _) _).trans hb1).trans hb2
  clear hown1 hown2 hb1 hb2
  rw [List.append_assoc, ← HT.out] at hsl
  go_wp2_with (refine wpList_strB _ rfl (.tmp 25) rfl hsl rfl ?_)
  go_ret
  exact ⟨rfl, hb⟩
end Go.Proofs.YtdbmngbinhemeabGreatDoor
namespace Go.Proofs.YtdbmngbinhemeabGreatDoor
open Go.RowKit

theorem mix_append (s : St) (l r : List UInt8) : ∀ n, 64 * n ≤ l.length → mix s (l ++ r) n = mix s l n
  | 0, _ => rfl
  | n + 1, h => by
    simp only [mix]
    rw [mix_append s l r n (by omega), List.drop_append_of_le_length (by omega), List.take_append_of_le_length (by simp; omega)]

/-- The mixer's cells. -/
def mcL (s : St) (B : List UInt8) (h : Nat) : List Value := (uc s.list).toList ++ (bc B ++ [.int .i64 (h : Int)])
theorem ucl (s : St) : (uc s.list).toList.length = 8 := rfl
theorem mcL_length (s : St) (B : List UInt8) (h : Nat) (hB : B.length = 64) : (mcL s B h).length = 73 := by
  simp only [mcL, List.length_append, ucl, bc_length, hB, List.length_cons, List.length_nil]
theorem mcL_held (s : St) (B : List UInt8) (h : Nat) (hB : B.length = 64) : (mcL s B h)[72]? = some (.int .i64 (h : Int)) := by
  unfold mcL
  rw [List.getElem?_append_right (by rw [ucl]; omega), ucl, List.getElem?_append_right (by rw [bc_length, hB]; omega), bc_length, hB]
  rfl
theorem mcL_set (s : St) (B : List UInt8) (h k : Nat) (hB : B.length = 64) : (mcL s B h).set 72 (.int .i64 (k : Int)) = mcL s B k := by
  unfold mcL
  rw [List.set_append_right _ _ (by rw [ucl]; omega), ucl, List.set_append_right _ _ (by rw [bc_length, hB]; omega), bc_length, hB]
  rfl
theorem mcL_copy (s : St) (B : List UInt8) (h n : Nat) (R : List UInt8) (hB : B.length = 64) (hR : R.length = n) (hn : h + n ≤ 64) :
    (mcL s B h).take (8 + h) ++ bc R ++ (mcL s B h).drop (8 + h + n) = mcL s (B.take h ++ R ++ B.drop (h + n)) h := by
  unfold mcL
  rw [List.take_append, ucl, List.take_of_length_le (by rw [ucl]; omega), show 8 + h - 8 = h from by omega, List.take_append_of_le_length (by rw [bc_length]; omega),
    List.drop_append, ucl, List.drop_eq_nil_of_le (by rw [ucl]; omega), show 8 + h + n - 8 = h + n from by omega, List.drop_append_of_le_length (by rw [bc_length]; omega)]
  simp [bc, List.map_take, List.map_drop]
theorem mcL_numbers (s : St) (B : List UInt8) (h : Nat) : (mcL s B h).take 8 = (uc s.list).toList := by
  unfold mcL
  rw [List.take_append_of_le_length (by rw [ucl]; omega), List.take_of_length_le (by rw [ucl]; omega)]
theorem mcL_block (s : St) (B : List UInt8) (h : Nat) (hB : B.length = 64) : ((mcL s B h).drop 8).take 64 = bc B := by
  unfold mcL
  rw [List.drop_left' (ucl s), List.take_append_of_le_length (by rw [bc_length]; omega), List.take_of_length_le (by rw [bc_length]; omega)]
theorem mcL_put (s t : St) (B : List UInt8) (h : Nat) : (mcL s B h).take 0 ++ (uc t.list).toList ++ (mcL s B h).drop (0 + 8) = mcL t B h := by
  unfold mcL
  rw [List.take_zero, List.nil_append, Nat.zero_add, List.drop_left' (ucl s)]

/-- The mixer in block g has taken up the bytes l. -/
def Fed (w : World) (g : Nat) (l : List UInt8) : Prop :=
  ∃ B, w.heap[g]? = some (.cells (mcL (mix st0 l (l.length / 64)) B (l.length % 64)).toArray 135) ∧ B.length = 64 ∧ B.take (l.length % 64) = l.drop (64 * (l.length / 64))

theorem feed_some (l B r : List UInt8) (n : Nat) (hB : B.length = 64) (ht : B.take (l.length % 64) = l.drop (64 * (l.length / 64))) (hr : r.length = n) (hn : l.length % 64 + n < 64) :
    (l ++ r).length % 64 = l.length % 64 + n ∧ mix st0 (l ++ r) ((l ++ r).length / 64) = mix st0 l (l.length / 64) ∧
      (B.take (l.length % 64) ++ r ++ B.drop (l.length % 64 + n)).length = 64 ∧ (B.take (l.length % 64) ++ r ++ B.drop (l.length % 64 + n)).take ((l ++ r).length % 64) = (l ++ r).drop (64 * ((l ++ r).length / 64)) := by
  have e1 : (l ++ r).length / 64 = l.length / 64 := by rw [List.length_append, hr]; omega
  have e2 : (l ++ r).length % 64 = l.length % 64 + n := by rw [List.length_append, hr]; omega
  refine ⟨e2, ?_, ?_, ?_⟩
  · rw [e1, mix_append _ _ _ _ (by omega)]
  · simp [hB, hr]; omega
  · have hl : (B.take (l.length % 64) ++ r).length = l.length % 64 + n := by simp [hB, hr]; omega
    rw [e1, e2, List.drop_append_of_le_length (by omega), ← ht, ← hl, List.take_left]
theorem feed_full (l B r : List UInt8) (n : Nat) (hB : B.length = 64) (ht : B.take (l.length % 64) = l.drop (64 * (l.length / 64))) (hr : r.length = n) (hn : l.length % 64 + n = 64) :
    (l ++ r).length % 64 = 0 ∧ mix st0 (l ++ r) ((l ++ r).length / 64) = comp (mix st0 l (l.length / 64)) (B.take (l.length % 64) ++ r ++ B.drop (l.length % 64 + n)) ∧
      (B.take (l.length % 64) ++ r ++ B.drop (l.length % 64 + n)).length = 64 ∧ (l ++ r).drop (64 * ((l ++ r).length / 64)) = [] := by
  have e1 : (l ++ r).length / 64 = l.length / 64 + 1 := by rw [List.length_append, hr]; omega
  refine ⟨by rw [List.length_append, hr]; omega, ?_, by simp [hB, hr]; omega, ?_⟩
  · rw [e1]
    simp only [mix]
    rw [mix_append _ _ _ _ (by omega), List.drop_append_of_le_length (by omega), ← ht, hn, List.drop_eq_nil_of_le (by omega), List.append_nil, List.take_of_length_le (by simp [hB, hr]; omega)]
  · rw [List.drop_eq_nil_of_le (by rw [e1, List.length_append, hr]; omega)]

/-- 'copy(dst, s)' from a text into a row, as much as there is room for. -/
theorem run_copy_min {P : Program} (w : World) (dT sT ty elem : TypeId) (g o dLen dCap n : Nat) (s : ByteArray) (cur : Array Value) (t : TypeId)
    (hu : P.underlying dT = some (.slice elem)) (hs : (P.info? elem).map (·.size) = some 1) (hg : w.heap[g]? = some (.cells cur t (0, 0))) (hn : Nat.min s.size dLen = n) (hfit : o + n ≤ cur.size) :
    (Builtin.copy_ #[dT, sT] ty #[.slice (some ⟨g, o, none⟩) dLen dCap, .string s]).run P w =
      .ok (.int .i64 (n : Int)) (w.setRow g (cur.toList.take o ++ bc (s.data.toList.take n) ++ cur.toList.drop (o + n)).toArray) := by
  have hle : n ≤ s.size := by rw [← hn]; exact Nat.min_le_left s.size dLen
  have hlen : (bc (s.data.toList.take n)).length = n := by
    rw [bc_length, List.length_take]
    have : s.data.toList.length = s.size := by simp
    omega
  have hst := run_storeCells_at P g o t (bc (s.data.toList.take n)) 0 cur w hg (by rw [hlen]; simpa using hfit) (bc_one _)
  have htk : List.take n (List.map (fun b : UInt8 => Value.int IntKind.u8 (b.toNat : Int)) s.data.toList) = bc (s.data.toList.take n) := by
    simp [bc, List.map_take]
  rw [hlen] at hst
  simp only [Nat.add_zero] at hst
  cases hq : P.info? elem with
  | none => simp [hq] at hs
  | some i =>
    simp [Builtin.copy_, run_underlying hu, Builtin.lenOf, Builtin.firstCells, sizeOf, typeInfo, hq, hn]
    rw [htk, hst]
    simp [Result.andThen, goInt]
/-- A whole array into the middle of a row. -/
theorem run_storeVar_at {P : Program} (w : World) (g o : Nat) (ty t : TypeId) (cur c : Array Value) (hg : w.heap[g]? = some (.cells cur t (0, 0))) (hi : (P.info? ty).map (·.size) = some c.size) (hfit : o + c.size ≤ cur.size) (h1 : c.all (·.oneCell') = true) :
    (storeVar ty ⟨g, o, none⟩ (.agg c)).run P w = .ok () (w.setRow g (cur.toList.take o ++ c.toList ++ cur.toList.drop (o + c.size)).toArray) := by
  have hst := run_storeCells_at P g o t c.toList 0 cur w hg (by simpa using hfit) (fun v hv => (Array.all_eq_true_iff_forall_mem.1 h1) v (by simpa using hv))
  simp only [Nat.add_zero, Array.length_toList] at hst
  cases hq : P.info? ty with
  | none => simp [hq] at hi
  | some i =>
    have hs : i.size = c.size := by simpa [hq] using hi
    simp [storeVar, sizeOf, typeInfo, hq, Value.cells, hs, hst]
theorem strB_drop (l : List UInt8) (n : Nat) : (strB l).extract n l.length = strB (l.drop n) := by
  unfold strB
  apply ByteArray.ext
  rw [ByteArray.data_extract]
  simp
  exact List.take_of_length_le (by simp)
/-- A whole array out of the middle of a row. -/
theorem run_load_part {P : Program} (w : World) (op : Oper) (a : Act) (ty : TypeId) (x : Operand) (ho : op.op = .load ty x) (g o : Nat) (hx : a.eval x = .pointer (some ⟨g, o, none⟩)) (t : TypeId) (C cs : List Value) (k : Nat) (fr : Nat × Nat) (d : TypeDesc)
    (hg : w.heap[g]? = some (.cells C.toArray t fr)) (hcs : (C.drop o).take k = cs) (hu : P.underlying ty = some d) (hd : d.isRow = true) (hi : (P.info? ty).map (·.size) = some cs.length) :
    (execOp a.eval op).run P w = .ok (.value (.agg cs.toArray)) w := by
  have hr : w.rangeAt g o cs := by
    intro j v hj
    rw [cell_of_row _ _ _ _ _ _ hg, List.getElem?_toArray]
    rw [← hcs] at hj
    have hlt := (List.getElem?_eq_some_iff.1 hj).1
    rw [List.getElem?_take_of_lt (by simp at hlt; omega), List.getElem?_drop] at hj
    exact hj
  unfold execOp
  simp only [ho, hx, Instr.loadAt, Instr.sureAddr, Sem.run_bind, Sem.run_pure, Result.andThen_ok, run_loadVar_mid w g o ty cs d hr hu hd hi]
theorem wp_load_part {P : Program} (w : World) {op : Oper} {a : Act} {K : Act → World → Prop} {Q : Exit → Act → World → Prop} (ty : TypeId) (x : Operand) (ho : op.op = .load ty x) (g o : Nat) (hx : a.eval x = .pointer (some ⟨g, o, none⟩)) (t : TypeId) (C cs : List Value) (k : Nat) (fr : Nat × Nat) (d : TypeDesc)
    (hg : w.heap[g]? = some (.cells C.toArray t fr)) (hcs : (C.drop o).take k = cs) (hu : P.underlying ty = some d) (hd : d.isRow = true) (hi : (P.info? ty).map (·.size) = some cs.length)
    (h : K (a.put op.dst (.agg cs.toArray)) w) : op.wp P a w K Q := by
  unfold Oper.wp
  rw [run_load_part w op a ty x ho g o hx t C cs k fr d hg hcs hu hd hi]
  exact h
theorem wpList_load_part {P : Program} (w : World) {ops : Array Oper} {rest : List Oper} {op : Oper} {a : Act} {Q : Exit → Act → World → Prop} (hgd : op.guard = none) (ty : TypeId) (x : Operand) (ho : op.op = .load ty x) (g o : Nat) (hx : a.eval x = .pointer (some ⟨g, o, none⟩)) (t : TypeId) (C cs : List Value) (k : Nat) (fr : Nat × Nat) (d : TypeDesc)
    (hg : w.heap[g]? = some (.cells C.toArray t fr)) (hcs : (C.drop o).take k = cs) (hu : P.underlying ty = some d) (hd : d.isRow = true) (hi : (P.info? ty).map (·.size) = some cs.length)
    (h : wpList P ops Q rest (a.put op.dst (.agg cs.toArray)) w) : wpList P ops Q (op :: rest) a w :=
  wpList_plain hgd fun _ hK => wp_load_part w ty x ho g o hx t C cs k fr d hg hcs hu hd hi (hK _ _ h)
theorem wp_store_part {P : Program} (w : World) {op : Oper} {a : Act} {K : Act → World → Prop} {Q : Exit → Act → World → Prop} (ty : TypeId) (x y : Operand) (ho : op.op = .store ty x y)
    (g o : Nat) (c : Array Value) (hx : a.eval x = .pointer (some ⟨g, o, none⟩)) (hy : a.eval y = .agg c) (t : TypeId) (C : List Value) (hg : w.heap[g]? = some (.cells C.toArray t (0, 0)))
    (hi : (P.info? ty).map (·.size) = some c.size) (hfit : o + c.size ≤ C.length) (h1 : c.all (·.oneCell') = true)
    (h : ∀ w', w'.heap[g]? = some (.cells (C.take o ++ c.toList ++ C.drop (o + c.size)).toArray t (0, 0)) → w.grownBy w' (some g) → K (a.put op.dst undef) w') : op.wp P a w K Q := by
  unfold Oper.wp execOp
  simp only [ho, hx, hy, Instr.storeAt, Instr.sureAddr, Sem.run_bind, Sem.run_pure, Result.andThen_ok, run_storeVar_at w g o ty t C.toArray c hg hi (by simpa using hfit) h1]
  exact h _ (by rw [setRow_heap w g _ _ t (0, 0) hg]) ⟨rfl, rfl, rfl, by simp, fun k _ hk => setRow_other w g k _ (fun e => hk (by simp [e]))⟩
end Go.Proofs.YtdbmngbinhemeabGreatDoor
