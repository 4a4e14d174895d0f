/-
  Where a group ends, which pairs are right, by the reference. Conditions: a key's length; the pairs lie there.
-/
import Derived.Test.YtimbleaafoiidaaGreatDoorE19PRow
namespace Go.Proofs.YtimbleaafoiidaaGreatDoor
open Go.RowKit

theorem ends12_form (n : Nat) (last : Bs) (level : Nat) (hlv : level ≤ 31) : ∃ c : UInt8, (sha last)[31 - level]? = some c ∧ ends12 n last level = (((c.toNat : Int) % 16 == 0 && (decide (level = 0) || decide (2 ≤ n))) || decide (n = 64)) := by
  have hl := sha_length last
  have : (sha last)[31 - level]? = some ((sha last)[31 - level]'(by omega)) := List.getElem?_eq_getElem (by omega)
  refine ⟨_, this, ?_⟩
  unfold ends12
  rw [this]
  rfl
set_option maxRecDepth 20000 in
set_option maxHeartbeats 800000 in
theorem rends12_any (w : World) (n : Nat) (last : Bs) (level : Nat) (hl : last.length ≤ 1048576) (hn : n ≤ 4294967296) (hlv : level ≤ 31) :
    Calls Tryz.prog 55 #[.int .i64 (n : Int), .string (strB last), .int .i64 (level : Int)] w fun e w' => e = .returned (.bool (ends12 n last level)) ∧ Below w.heap.size w w' := by
  obtain ⟨c, hc, hen⟩ := ends12_form n last level hlv
  rw [hen]
  clear hen
  have hls := strB_size last
  have hsl := sha_length last
  have hsum := fun W v h => refSum_any W v last h hl
  have hc256 : (c.toNat : Int) < 256 := by have := c.toNat_lt; omega
  generalize hE : ((c.toNat : Int) % 16 == 0) = en at *
  have hL : ((level : Int) == 0) = decide (level = 0) := by rw [Bool.eq_iff_iff]; simp
  have hN : decide ((2 : Int) ≤ (n : Int)) = decide (2 ≤ n) := by rw [Bool.eq_iff_iff]; simp only [decide_eq_true_eq]; omega
  have hN2 : ((n : Int) == 64) = decide (n = 64) := by rw [Bool.eq_iff_iff]; simp; omega
  generalize decide (level = 0) = e0 at *
  generalize decide (2 ≤ n) = e2 at *
  generalize decide (n = 64) = e64 at *
  generalize sha last = S at *
  have HSU := hide (And.intro hsum (And.intro hc hsl))
  clear hsum hc hsl
  go_enter Tryz.func55, Tryz.ntmps55
  go_wp2_with (refine wpList_tobytes _ rfl (.tmp 8) rfl (strB last) (by rw [strB_size]; unfold maxLen; omega) rfl ?_; intro v2 w2 hsl2 hb2 _; rw [strB_list] at hsl2; have HS := hide hsl2; have HB := hide hb2; obtain ⟨ao, cap, rfl, -⟩ := hsl2; clear hb2)
  go_wp2_with fail
  refine (HSU.out.1 _ _ HS.out).mono ?_
  rintro e w3 ⟨g, k, rfl, sl3, hb3⟩
  have B3 := HB.out.trans (hb3.mono HB.out.size)
  obtain ⟨ao3, cap3, he3, h31, h32, -, h34⟩ := sl3
  obtain ⟨b, off, hb, hbl, hcc⟩ := h34 (by intro e; have := HSU.out.2.2; rw [e] at this; simp at this)
  injection he3 with he3 he4 he5
  subst he5
  rw [← he3] at hb
  injection hb with hb
  injection hb with hb1 hb2
  subst hb1 hb2
  have hlt : 31 - level < S.length := by have := HSU.out.2.2; omega
  have c0 := hcc (31 - level) hlt
  have hcS : S[31 - level] = c := by have := HSU.out.2.1; rw [List.getElem?_eq_getElem hlt] at this; exact Option.some.inj this
  rw [hcS, Nat.zero_add] at c0
  have hsub : (31 : Int) - (level : Int) = ((31 - level : Nat) : Int) := by omega
  have HB3 := hide B3
  clear hcc hcS hlt B3 hb3 HS HB h34 he3 he4 h31 h32
  generalize 31 - level = i at *
  have hi : i ≤ 31 := by omega
  cases en <;> cases e0 <;> cases e2 <;> cases e64
  all_goals
    go_wp2
    go_ret
    exact ⟨rfl, HB3.out⟩
end Go.Proofs.YtimbleaafoiidaaGreatDoor
