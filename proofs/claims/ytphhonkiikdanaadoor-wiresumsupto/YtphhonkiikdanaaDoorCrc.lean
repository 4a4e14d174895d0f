/-
  What the sum answers: crcPart and Crc, as a plain function on bytes. Conditions: the table holds its sixteen numbers; the parts are slices of bytes.
-/
import Derived.Test.YtphhonkiikdanaaDoorText
namespace Go.Proofs.YtphhonkiikdanaaDoor
open Go.RowKit

def tabL : List Nat := [0, 498536548, 997073096, 651767980, 1994146192, 1802195444, 1303535960, 1342533948, 3988292384, 4027552580, 3604390888, 3412177804, 2607071920, 2262029012, 2685067896, 3183342108]
def nib (x : Nat) : Nat := x / 16 ^^^ tabL.getD (x % 16) 0
def crcB (s : Nat) (c : UInt8) : Nat := nib (nib (s ^^^ c.toNat))
def crcL (s : Nat) (l : List UInt8) : Nat := l.foldl crcB s

/-- The table's cells hold its numbers. -/
def TabW (w : World) : Prop := 0 < w.heap.size ∧ ∀ j, j < 16 → w.cell? ⟨0, j, none⟩ = some (.int .u32 ((tabL.getD j 0 : Nat) : Int))
theorem TabW.keep {w w' : World} (h : TabW w) (hb : Below w.heap.size w w') : TabW w' :=
  ⟨Nat.lt_of_lt_of_le h.1 hb.size, fun j hj => (hb.cell (p := ⟨0, j, none⟩) h.1).trans (h.2 j hj)⟩

theorem tab_lt : ∀ j : Fin 16, tabL.getD j.val 0 < 4294967296 := by decide +kernel
theorem nib_lt (x : Nat) (h : x < 4294967296) : nib x < 4294967296 := by
  unfold nib
  have := tab_lt ⟨x % 16, by omega⟩
  exact Nat.xor_lt_two_pow (n := 32) (by omega) this
theorem crcB_lt (s : Nat) (c : UInt8) (h : s < 4294967296) : crcB s c < 4294967296 :=
  nib_lt _ (nib_lt _ (Nat.xor_lt_two_pow (n := 32) h (by have := c.toNat_lt; omega)))
theorem crcL_lt (l : List UInt8) : ∀ s, s < 4294967296 → crcL s l < 4294967296 := by
  induction l with
  | nil => intro s h; exact h
  | cons c r ih => intro s h; exact ih _ (crcB_lt s c h)
theorem crcL_snoc (s : Nat) (l : List UInt8) (c : UInt8) : crcL s (l ++ [c]) = crcB (crcL s l) c := by simp [crcL, List.foldl_append]

theorem nib_facts (x : Nat) (hx : x < 4294967296) (w : World) (hT : TabW w) : ∃ i t y : Nat, i < 16 ∧ bits .and .u32 (x : Int) 15 = (i : Int) ∧ w.cell? ⟨0, i, none⟩ = some (.int .u32 (t : Int)) ∧
    bits .xor .u32 ((x : Int) / 16) (t : Int) = (y : Int) ∧ y = nib x ∧ y < 4294967296 := by
  refine ⟨x % 16, tabL.getD (x % 16) 0, nib x, by omega, ?_, hT.2 _ (by omega), ?_, rfl, nib_lt x hx⟩
  · rw [show (15 : Int) = ((15 : Nat) : Int) from rfl, u32_and_nat x 15 hx (by omega)]
    have := Nat.and_two_pow_sub_one_eq_mod x 4
    simp at this
    rw [this]
  · have := tab_lt ⟨x % 16, by omega⟩
    rw [show ((x : Int) / 16) = ((x / 16 : Nat) : Int) from by omega, u32_xor_nat _ _ (by omega) this]
    rfl

set_option maxRecDepth 20000 in
set_option maxHeartbeats 400000 in
theorem crcPart_any (w : World) (v : Value) (l : List UInt8) (s : Nat) (hs : s < 4294967296) (h : Sl w v l) (hT : TabW w) :
    Calls Tryd.prog 28 #[.int .u32 s, v] w fun e w' => e = .returned (.int .u32 (crcL s l : Nat)) ∧ w' = w := by
  obtain ⟨ao, cap, rfl, h1, h2, h3, h4⟩ := h
  unfold maxLen at h2
  have HS := hide hs
  have HT := hide hT
  clear hs hT
  go_enter Tryd.func28, Tryd.ntmps28
  go_wp2
  go_loop [0, 9] (fun x i => ∃ k : Nat, k ≤ l.length ∧ i = .int .i64 k ∧ x = .int .u32 ((crcL s (l.take k) : Nat) : Int)) (fun _ i => l.length - (intOf i).toNat)
  case atStart => exact ⟨0, by omega, rfl, rfl⟩
  case round =>
    obtain ⟨k, hk, rfl, rfl⟩ := hrel
    by_cases hlt : k < l.length
    · obtain ⟨b, off, rfl, hb, hc⟩ := h4 (by rintro rfl; simp at hlt)
      have hcell := hc k hlt
      have hn : crcL s (l.take (k + 1)) = crcB (crcL s (l.take k)) l[k] := by rw [← crcL_snoc, List.take_succ_eq_append_getElem hlt]
      have hA := crcL_lt (l.take k) s HS.out
      have hc256 := UInt8.toNat_lt l[k]
      unfold crcB at hn
      generalize hcc : (l[k]).toNat = c at *
      generalize crcL s (l.take k) = A at *
      obtain ⟨x1, hx1⟩ : ∃ x1, x1 = A ^^^ c := ⟨_, rfl⟩
      have hx1l : x1 < 4294967296 := by rw [hx1]; exact Nat.xor_lt_two_pow (n := 32) hA (by omega)
      have e1 : bits .xor .u32 (A : Int) (c : Int) = (x1 : Int) := by rw [u32_xor_nat A c hA (by omega), hx1]
      obtain ⟨i1, t1, y1, hi1, f1, g1, k1, n1, l1⟩ := nib_facts x1 hx1l w HT.out
      obtain ⟨i2, t2, y2, hi2, f2, g2, k2, n2, l2⟩ := nib_facts y1 l1 w HT.out
      have HN : Hid (crcL s (l.take (k + 1)) = y2) := by show _ = _; rw [hn, n2, n1, hx1]
      clear hn hx1 n1 n2 hcc hc h4 hA hx1l l1 l2
      have c0 : (0 : Int) ≤ (c : Int) := by omega
      have c1 : (c : Int) ≤ 255 := by omega
      go_wp2
      go_round
      case rel => exact ⟨k + 1, by omega, by go_num, by rw [HN.out]⟩
      case measure => simp [intOf]; omega
    · clear h4
      go_wp2
      go_ret
      exact ⟨ret_int (by rw [List.take_of_length_le (by omega)]), rfl⟩

/-- The slice v of slices has these parts. -/
def Ss (w : World) (v : Value) (ls : List (List UInt8)) : Prop :=
  ∃ ao cap, v = .slice ao ls.length cap ∧ ls.length ≤ cap ∧ cap ≤ maxLen ∧
    (ls ≠ [] → ∃ b off, ao = some ⟨b, off, none⟩ ∧ b < w.heap.size ∧ ∀ j (h : j < ls.length), ∃ u, w.cell? ⟨b, off + j, none⟩ = some u ∧ Sl w u (ls[j]'h))
theorem Ss.keep {w w' : World} {v : Value} {ls : List (List UInt8)} (h : Ss w v ls) (hb : Below w.heap.size w w') : Ss w' v ls := by
  obtain ⟨ao, cap, hv, h1, h2, h4⟩ := h
  refine ⟨ao, cap, hv, h1, h2, fun hl => ?_⟩
  obtain ⟨b, off, ha, hlt, hc⟩ := h4 hl
  refine ⟨b, off, ha, Nat.lt_of_lt_of_le hlt hb.size, fun j hj => ?_⟩
  obtain ⟨u, hu, hs⟩ := hc j hj
  exact ⟨u, (hb.cell (p := ⟨b, off + j, none⟩) hlt).trans hu, hs.keep hb⟩

def crc (l : List UInt8) : Nat := 4294967295 ^^^ crcL 4294967295 l
theorem crcL_append (s : Nat) (a b : List UInt8) : crcL s (a ++ b) = crcL (crcL s a) b := by simp [crcL, List.foldl_append]

set_option maxRecDepth 20000 in
set_option maxHeartbeats 400000 in
theorem crc_any (w : World) (v : Value) (ls : List (List UInt8)) (h : Ss w v ls) (hT : TabW w) :
    Calls Tryd.prog 20 #[v] w fun e w' => e = .returned (.int .u32 (crc ls.flatten : Nat)) ∧ w' = w := by
  obtain ⟨ao, cap, rfl, h1, h2, h4⟩ := h
  unfold maxLen at h2
  have HT := hide hT
  clear hT
  go_enter Tryd.func20, Tryd.ntmps20
  go_wp2
  go_loop [3, 8] (fun x i => ∃ k : Nat, k ≤ ls.length ∧ i = .int .i64 k ∧ x = .int .u32 ((crcL 4294967295 (ls.take k).flatten : Nat) : Int)) (fun _ i => ls.length - (intOf i).toNat)
  case atStart => exact ⟨0, by omega, rfl, rfl⟩
  case round =>
    obtain ⟨k, hk, rfl, rfl⟩ := hrel
    by_cases hlt : k < ls.length
    · obtain ⟨b, off, rfl, hb, hc⟩ := h4 (by rintro rfl; simp at hlt)
      obtain ⟨u, hcell, hsl⟩ := hc k hlt
      have hn : crcL 4294967295 (ls.take (k + 1)).flatten = crcL (crcL 4294967295 (ls.take k).flatten) ls[k] := by
        rw [List.take_succ_eq_append_getElem hlt, List.flatten_append, crcL_append]; simp
      have hA := crcL_lt (ls.take k).flatten 4294967295 (by omega)
      generalize crcL 4294967295 (ls.take k).flatten = A at *
      have HN := hide hn
      have HA := hide hA
      clear hn hA hc h4
      have hu := hsl
      obtain ⟨ao', cap', rfl, _, _, _, _⟩ := hu
      go_wp2_with fail
      refine (crcPart_any _ _ ls[k] A HA.out hsl HT.out).mono ?_
      rintro e w1 ⟨rfl, rfl⟩
      generalize crcL A ls[k] = z at *
      clear hsl
      go_wp2
      go_round
      case rel => exact ⟨k + 1, by omega, by go_num, by rw [HN.out]⟩
      case measure => simp [intOf]; omega
    · clear h4
      have hA := crcL_lt (ls.take k).flatten 4294967295 (by omega)
      have e : ls.take k = ls := List.take_of_length_le (by omega)
      rw [e] at hA ⊢
      have hx : bits .xor .u32 IntKind.u32.max ((crcL 4294967295 ls.flatten : Nat) : Int) = ((crc ls.flatten : Nat) : Int) := by
        rw [show IntKind.u32.max = ((4294967295 : Nat) : Int) from by decide, u32_xor_nat _ _ (by omega) hA]; rfl
      have HX := hide hx
      clear hx hA e
      go_wp2
      go_ret
      exact ⟨ret_int HX.out, rfl⟩
end Go.Proofs.YtphhonkiikdanaaDoor
