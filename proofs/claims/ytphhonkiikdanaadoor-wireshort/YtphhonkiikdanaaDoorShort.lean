/-
  The statement WireShort answers true, and leaves all that was there. Conditions: numbers within 64 bits, a text within the reach, the table's sixteen numbers.
-/
import Derived.Test.YtphhonkiikdanaaDoorShown
import Derived.Test.YtphhonkiikdanaaDoorFacts
namespace Go.Proofs.YtphhonkiikdanaaDoor
open Go.RowKit

theorem Sl.first {w : World} {g n cap k : Nat} {l : List UInt8} (h : Sl w (.slice (some ⟨g, 0, none⟩) n cap) l) (hk : k ≤ l.length) : Sl w (.slice (some ⟨g, 0, none⟩) k cap) (l.take k) := by
  have := h.cut 0 k (by omega) hk (some ⟨g, 0, none⟩) (fun _ b off ha => by rw [ha]; rfl) (by simp)
  simpa using this

theorem takeT_less' (s : ByteArray) (h1 : (s.size : Int) ≤ 9223372036854775807) : takeT (txt s.data.toList) 0 ((s.size : Int) - 1) = none := by
  have := takeT_less s.data.toList (by simpa using h1)
  simpa using this

set_option maxRecDepth 20000 in
set_option maxHeartbeats 1000000 in
theorem short_core (w : World) (n cut c : Int) (s : ByteArray) (hT : TabW w) (h0 : -9223372036854775808 ≤ n) (h1 : n ≤ 9223372036854775807) (hs : s.size ≤ 281474976710646) (hc0 : 0 ≤ c) (hc1 : c ≤ 9223372036854775807)
    (hcc : cut = -c - 1 ∨ c = cut) :
    Calls Tryd.prog 8 #[.int .i64 n, .string s, .int .i64 cut] w fun e w' => e = .returned (.bool true) ∧ Below w.heap.size w w' := by
  have HT := hide hT
  clear hT
  rcases hcc with rfl | rfl
  all_goals
    go_enter Tryd.func8, Tryd.ntmps8
    go_wp2_with fail
    refine (shown_any _ HT.out).mono ?_
    rintro e w1 ⟨rfl, hb1⟩
    go_wp2_with fail
    refine (putInt_any _ _ [] n (Sl.nil _) h0 h1 (by simp)).mono ?_
    rintro e w2 ⟨g1, m1, cap1, rfl, hm1, hmc1, hsl1, hb2⟩
    have hsl1' : Sl w2 (.slice (some ⟨g1, 0, none⟩) m1 cap1) (num n) := hsl1
    have hm1' : m1 = (num n).length := hm1
    have hm1l := num_length n
    rw [← hm1'] at hm1l
    have HM1 := hide hm1'
    clear hm1 hm1' hsl1
    go_wp2_with fail
    refine (putText_any _ _ [] s (Sl.nil _) (by simpa using hs)).mono ?_
    rintro e w3 ⟨g2, m2, cap2, rfl, hm2, hmc2, hsl2, hb3⟩
    have hsl2' : Sl w3 (.slice (some ⟨g2, 0, none⟩) m2 cap2) (txt s.data.toList) := hsl2
    have hm2' : m2 = (txt s.data.toList).length := hm2
    have hm2l : m2 = (num s.size).length + s.size := by rw [hm2']; unfold txt; simp
    have hm2b := num_length s.size
    have hm2a : 1 ≤ m2 := by omega
    have hm2c : m2 ≤ 281474976710656 := by omega
    have HM2 := hide hm2'
    have hsl1 := hsl1'.keep hb3
    obtain ⟨k1, hk1, hk1l⟩ : ∃ k1 : Nat, c % (m1 : Int) = (k1 : Int) ∧ k1 < m1 := ⟨(c % (m1 : Int)).toNat, by have := Int.emod_nonneg c (show (m1 : Int) ≠ 0 by omega); omega, by have := Int.emod_nonneg c (show (m1 : Int) ≠ 0 by omega); have := Int.emod_lt_of_pos c (show 0 < (m1 : Int) by omega); omega⟩
    obtain ⟨k2, hk2, hk2l⟩ : ∃ k2 : Nat, c % (m2 : Int) = (k2 : Int) ∧ k2 < m2 := ⟨(c % (m2 : Int)).toNat, by have := Int.emod_nonneg c (show (m2 : Int) ≠ 0 by omega); omega, by have := Int.emod_nonneg c (show (m2 : Int) ≠ 0 by omega); have := Int.emod_lt_of_pos c (show 0 < (m2 : Int) by omega); omega⟩
    have e1 : ((m1 : Int) == 0) = false := beq_eq_false_iff_ne.2 (by omega)
    have e2 : ((m2 : Int) == 0) = false := beq_eq_false_iff_ne.2 (by omega)
    clear hm2 hm2' hsl2 hm2l hm2b hsl1'
    go_wp2_with fail
    refine (takeInt_none _ _ _ 0 (hsl1.first (by have := HM1.out; omega)) (by omega) (takeI_short n k1 (by have := HM1.out; omega) h0 h1)).mono ?_
    rintro e w4 ⟨rfl, rfl⟩
    go_wp2_with fail
    refine (takeText_none _ _ _ 0 _ (hsl2'.first (by have := HM2.out; omega)) (by omega) (takeT_short _ k2 _ (by have := HM2.out; omega) (by simp; omega))).mono ?_
    rintro e w4 ⟨rfl, rfl⟩
    go_wp2_with fail
    refine (takeText_none _ _ _ 0 _ hsl2' (by omega) (takeT_less' s (by omega))).mono ?_
    rintro e w4 ⟨rfl, rfl⟩
    go_wp2_with fail
    refine (takeInt_none _ _ _ _ hsl1 (by omega) (by rw [HM1.out]; exact takeI_end _)).mono ?_
    rintro e w4 ⟨rfl, rfl⟩
    go_wp2
    go_ret
    exact ⟨rfl, hb1.trans ((hb2.mono hb1.size).trans (hb3.mono (Nat.le_trans hb1.size hb2.size)))⟩

theorem short_any (w : World) (n cut : Int) (s : ByteArray) (hT : TabW w) (h0 : -9223372036854775808 ≤ n) (h1 : n ≤ 9223372036854775807) (hs : s.size ≤ 281474976710646)
    (hc0 : -9223372036854775808 ≤ cut) (hc1 : cut ≤ 9223372036854775807) :
    Calls Tryd.prog 8 #[.int .i64 n, .string s, .int .i64 cut] w fun e w' => e = .returned (.bool true) ∧ Below w.heap.size w w' := by
  by_cases h : cut < 0
  · exact short_core w n cut (-cut - 1) s hT h0 h1 hs (by omega) (by omega) (Or.inl (by omega))
  · exact short_core w n cut cut s hT h0 h1 hs (by omega) (by omega) (Or.inr rfl)
end Go.Proofs.YtphhonkiikdanaaDoor
