/-
  What the sum's bytes are, and what stands behind so many bytes: bytesOf, ending. Condition: a number of 64 bits.
-/
import Derived.Test.YtdbmngbinhemeabDoorCHPut
namespace Go.Proofs.YtdbmngbinhemeabDoor
open Go.RowKit

theorem ret_str {a b : ByteArray} (h : a = b) : Ending.returned (.string a) = .returned (.string b) := by rw [h]
def outL (L : List UInt32) : List UInt8 := L.flatMap be4
theorem outL_length (L : List UInt32) : (outL L).length = 4 * L.length := by
  induction L with
  | nil => rfl
  | cons a r ih => simp only [outL, List.flatMap_cons, List.length_append, List.length_cons] at ih ⊢; rw [ih]; simp [be4]; omega
theorem outL_take (L : List UInt32) (k : Nat) (h : k < L.length) : outL (L.take (k + 1)) = outL (L.take k) ++ be4 (L.getD k 0) := by
  unfold outL
  rw [List.take_succ_eq_append_getElem h, List.flatMap_append]
  simp [List.getD, h]
theorem putWord_at (w : World) (base g cap m : Nat) (l : List UInt8) (n : UInt32) (hm : l.length = m) (hbase : base ≤ w.heap.size)
    (hown : w.ownsRow base 5 1 (.slice (some ⟨g, 0, none⟩) m cap) m (bc l)) (hfit : m + 4 ≤ cap) :
    Calls Tryd.prog 144 #[.slice (some ⟨g, 0, none⟩) m cap, .int .u32 (u n)] w fun e w' => e = .returned (.slice (some ⟨g, 0, none⟩) (m + 4) cap) ∧
      w'.ownsRow base 5 1 (.slice (some ⟨g, 0, none⟩) (m + 4) cap) (m + 4) (bc (l ++ be4 n)) ∧ Below base w w' := by
  subst hm
  exact putWord_any w base g cap l n hbase hown hfit
theorem sl_at {w : World} {base m : Nat} {v : Value} {l : List UInt8} (hm : l.length = m) (h : w.ownsRow base 5 1 v m (bc l)) : Sl w v l := by
  subst hm
  exact sl_of_own h

set_option maxRecDepth 20000 in
set_option maxHeartbeats 400000 in
theorem bytesOf_any (w : World) (s : St) :
    Calls Tryd.prog 132 #[.agg (uc s.list)] w fun e w' => e = .returned (.string (strB (out s))) ∧ Below w.heap.size w w' := by
  obtain ⟨i0, hi, hz0, hz1, hz2⟩ := info_parts Tryd.infoB
  have hL : s.list.length = 8 := rfl
  have hE : Hid (out s = outL s.list) := rfl
  have hget : ∀ k, k < 8 → (uc s.list)[k]? = some (.int .u32 (u (s.list.getD k 0))) := fun k hk => uc_get _ _ hk
  have hsz : (Tryd.prog.info? 159).map (·.size) = some (uc s.list).size := Tryd.infoEight
  generalize s.list = L at *
  generalize uc L = E at *
  go_enter Tryd.func132, Tryd.ntmps132
  go_wp2_with (first
    | (at_make; refine wpList_make_own _ rfl _ _ 71 rfl w.heap.size 5 i0 (.int .u8 0) 1 Tryd.underlying71 hi hz0 hz1 .i64 .i64 _ 32 rfl rfl (by omega) (by rw [hz2]; omega) (by unfold maxLen; omega) (by simp) ?_; intro w1 hown1 hgrow1)
    | (refine wpList_load_row rfl 159 (.tmp 1) rfl _ rfl 159 E (0, 0) _ (by rw [hgrow1.block _ (by simp) (by simp)]; exact heap_last _ _ _ rfl) Tryd.underlying159 rfl hsz ?_))
  have hb1 : Below w.heap.size w w1 := ((Below.refl _ _).alloc (Nat.le_refl _) _).grown hgrow1 (by simp) (by intro k hk; cases hk)
  have hown : w1.ownsRow w.heap.size 5 1 (.slice (some ⟨w.heap.size + 1, 0, none⟩) 0 32) 0 [] := by simpa using hown1
  clear hown1 hgrow1 hsz
  go_loopw [3, 8] (fun v t wr => ∃ k : Nat, k ≤ 8 ∧ v = .slice (some ⟨w.heap.size + 1, 0, none⟩) (4 * k) 32 ∧ t = .int .i64 k ∧
      wr.ownsRow w.heap.size 5 1 (.slice (some ⟨w.heap.size + 1, 0, none⟩) (4 * k) 32) (4 * k) (bc (outL (L.take k))) ∧ Below w.heap.size w wr)
    (fun _ t _ => 8 - (intOf t).toNat)
  case atStart => exact ⟨0, by omega, rfl, rfl, hown, hb1⟩
  case round =>
    clear hown hb1
    obtain ⟨k, hk, rfl, rfl, hown, hb⟩ := hrel
    have hlen : (outL (L.take k)).length = 4 * k := by rw [outL_length]; simp; omega
    by_cases hlt : k < 8
    · have hx := index35 wr E k _ hlt (hget k hlt)
      have hS := hide (outL_take L k (by omega))
      have HL := hide hlen
      have HB := hide hb
      have HO := hide hown
      clear hlen hget hb hown
      generalize L.getD k 0 = x at *
      go_wp2_with fail
      refine (putWord_at _ w.heap.size _ 32 (4 * k) _ x HL.out HB.out.size HO.out (by omega)).mono ?_
      rintro e1 w2 ⟨rfl, hown2, hb2⟩
      go_wp2
      go_roundw
      case rel => exact ⟨k + 1, by omega, rfl, by go_num, by rw [hS.out]; exact hown2, HB.out.trans hb2⟩
      case measure => simp [intOf]; omega
    · obtain rfl : k = 8 := by omega
      have hsl := sl_at hlen hown
      rw [List.take_of_length_le (by omega)] at hsl
      clear hlen hget hown
      go_wp2_with (refine wpList_strB _ rfl (.tmp 15) rfl hsl rfl ?_)
      go_ret
      exact ⟨ret_str (by rw [hE.out]), hb⟩

theorem made_row (w : World) (n c : Nat) (h : n < c) (hc : c ≤ maxLen) :
    (w.alloc (.cells ((madeCells #[.int .u8 0] c).setIfInBounds 0 (.int .u8 128)) 5)).ownsRow w.heap.size 5 1 (.slice (some ⟨w.heap.size, 0, none⟩) (1 + n) c) (1 + n) (bc (128 :: List.replicate n 0)) := by
  refine ⟨by simp [bc]; omega, .inr ⟨w.heap.size, c, _, rfl, Nat.le_refl _, heap_last _ _ _ rfl, by omega, hc, by simp [size_madeCells], ?_⟩⟩
  rw [Nat.mul_one, Array.toList_setIfInBounds, toList_madeCells_one]
  obtain ⟨d, rfl⟩ : ∃ d, c = n + 1 + d := ⟨c - (n + 1), by omega⟩
  rw [show n + 1 + d = (n + d) + 1 from by omega, List.replicate_succ, List.set_cons_zero, show 1 + n = n + 1 from by omega, List.take_succ_cons, List.take_replicate]
  simp [bc]

theorem noughts (size : Nat) (_hs : size < 18446744073709551616) : (IntKind.u64.wrap (55 - (size : Int))).tmod 64 = (((119 - size % 64) % 64 : Nat) : Int) := by
  rw [IntKind.wrap_u64, Int.tmod_eq_emod_of_nonneg (by omega)]
  omega
theorem high32 (size : Nat) : IntKind.u64.wrap ((size : Int) * 8) / 4294967296 % 4294967296 = u (UInt32.ofNat (size * 8 % 18446744073709551616 / 4294967296)) := by
  unfold u
  rw [IntKind.wrap_u64, UInt32.toNat_ofNat']
  omega
theorem low32 (size : Nat) : IntKind.u64.wrap ((size : Int) * 8) % 4294967296 = u (UInt32.ofNat (size * 8 % 18446744073709551616)) := by
  unfold u
  rw [IntKind.wrap_u64, UInt32.toNat_ofNat']
  omega
theorem make9 (w : World) (n : Nat) (hn : n < 64) : (Instr.makeSlice 71 (.int .u64 (1 + (n : Int))) (.int .u64 (1 + (n : Int) + 8))).run Tryd.prog w = .ok (.slice (some ⟨w.heap.size, 0, none⟩) (1 + n) (1 + n + 8)) (w.alloc (.cells (madeCells #[.int .u8 0] (1 + n + 8)) 5)) := by
  obtain ⟨i0, hi, hz0, hz1, hz2⟩ := info_parts Tryd.infoB
  have := run_make (P := Tryd.prog) w 71 5 i0 (.int .u8 0) Tryd.underlying71 hi hz0 .u64 .u64 (1 + (n : Int)) (1 + (n : Int) + 8) (by omega) (by omega) (by rw [hz2]; omega) (by omega)
  rw [this, hz1, show (1 + (n : Int)).toNat = 1 + n from by omega, show (1 + (n : Int) + 8).toNat = 1 + n + 8 from by omega, Nat.mul_one]
  rfl

set_option maxRecDepth 20000 in
set_option maxHeartbeats 400000 in
theorem ending_any (w : World) (size : Nat) (hs : size < 18446744073709551616) :
    Calls Tryd.prog 131 #[.int .u64 size] w fun e w' => e = .returned (.string (strB (tail size))) ∧ Below w.heap.size w w' := by
  obtain ⟨i0, hi, hz0, hz1, hz2⟩ := info_parts Tryd.infoB
  have hno := noughts size hs
  have hT : tail size = (128 :: List.replicate ((119 - size % 64) % 64) 0) ++ (be4 (UInt32.ofNat (size * 8 % 18446744073709551616 / 4294967296)) ++ be4 (UInt32.ofNat (size * 8 % 18446744073709551616))) := by
    unfold tail
    rw [List.cons_append]
  have HS := hide hs
  have HT := hide hT
  have hn : (119 - size % 64) % 64 < 64 := Nat.mod_lt _ (by omega)
  clear hs hT
  generalize (119 - size % 64) % 64 = n at *
  have hmk := make9
  have hc0 : (madeCells #[.int .u8 0] (1 + n + 8))[0]? = some (.int .u8 0) := by
    rw [← Array.getElem?_toList, toList_madeCells_one, show 1 + n + 8 = (n + 8) + 1 from by omega, List.replicate_succ]
    rfl
  have hhi := high32 size
  have hlo := low32 size
  generalize UInt32.ofNat (size * 8 % 18446744073709551616 / 4294967296) = a at *
  generalize UInt32.ofNat (size * 8 % 18446744073709551616) = b at *
  go_enter Tryd.func131, Tryd.ntmps131
  go_wp2_with fail
  clear hhi hno hmk hc0
  refine (putWord_at _ w.heap.size _ (1 + n + 8) (1 + n) _ a (by simp; omega) (by simp) (made_row w n (1 + n + 8) (by omega) (by unfold maxLen; omega)) (by omega)).mono ?_
  rintro e1 w1 ⟨rfl, hown1, hb1⟩
  go_wp2_with fail
  refine (putWord_at _ w.heap.size _ (1 + n + 8) (1 + n + 4) _ b (by simp [be4]; omega) (by have := hb1.size; simp at this; omega) hown1 (by omega)).mono ?_
  rintro e1 w2 ⟨rfl, hown2, hb2⟩
  have hsl := sl_at (by simp [be4]; omega) hown2
  have hb := (((Below.refl _ _).alloc (Nat.le_refl _) _).trans hb1).trans hb2
  clear hown1 hown2 hb1 hb2
  rw [List.append_assoc, ← HT.out] at hsl
  go_wp2_with (refine wpList_strB _ rfl (.tmp 25) rfl hsl rfl ?_)
  go_ret
  exact ⟨rfl, hb⟩
end Go.Proofs.YtdbmngbinhemeabDoor
