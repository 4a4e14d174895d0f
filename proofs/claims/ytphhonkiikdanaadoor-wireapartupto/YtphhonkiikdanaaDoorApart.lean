/-
  The statement WireApart answers true, and leaves all that was there. Conditions: numbers within 64 bits, texts and bytes of at most 1048576 bytes, the table's sixteen numbers.
-/
import Derived.Test.YtphhonkiikdanaaDoorShown
import Derived.Test.YtphhonkiikdanaaDoorFacts
import Derived.Test.YtphhonkiikdanaaDoorBytes
import Derived.Deep.Cut
import Derived.Deep.CutRange
import Derived.Lib.Strings
namespace Go.Proofs.YtphhonkiikdanaaDoor
open Go.RowKit

theorem num_apart {n m : Int} (h : n ≠ m) (hn0 : -9223372036854775808 ≤ n) (hn1 : n ≤ 9223372036854775807) (hm0 : -9223372036854775808 ≤ m) (hm1 : m ≤ 9223372036854775807) (r : List UInt8) : num m ≠ num n ++ r := by
  intro e
  have := (Pl.enc_prefix (Pl.zz_lt n hn0 hn1) (Pl.zz_lt m hm0 hm1) e).1
  exact h (by rw [← Pl.unzz_zz n, this, Pl.unzz_zz])
theorem txt_apart {s t : List UInt8} (h : s ≠ t) (hs : s.length ≤ 9223372036854775807) (ht : t.length ≤ 9223372036854775807) (r : List UInt8) : txt t ≠ txt s ++ r := by
  intro e
  have h1 := takeT_put [] [] t (9223372036854775807) (by omega) (by omega)
  have h2 := takeT_put [] r s (9223372036854775807) (by omega) (by omega)
  rw [List.append_nil, e, h2] at h1
  simp only [Option.some.injEq, Prod.mk.injEq] at h1
  exact h h1.1

theorem toList_strB (a : List UInt8) : (strB a).toList = a := by rw [ByteArray.toList_eq, strB_list]
theorem ne_cut {a b : List UInt8} (h : ∀ r, b ≠ a ++ r) : ((strB a).toList == ((strB b).extract 0 (strB a).size).toList) = false := by
  rw [toList_strB, ByteArray.toList_eq, Lib.extract_data, strB_list, strB_size]
  simp only [List.drop_zero, Nat.sub_zero, beq_eq_false_iff_ne, ne_eq]
  intro e
  exact h (b.drop a.length) (by conv => rhs; lhs; rw [e]
                                simp)
theorem ne_whole {a b : List UInt8} (h : ∀ r, b ≠ a ++ r) : ((strB a).toList == (strB b).toList) = false ∧ ((strB b).toList == (strB a).toList) = false := by
  rw [toList_strB, toList_strB]
  have : b ≠ a := by simpa using h []
  exact ⟨by simpa using Ne.symm this, by simpa using this⟩

set_option maxRecDepth 20000 in
set_option maxHeartbeats 400000 in
theorem apart_core (w : World) (n m : Int) (s t : ByteArray) (v : Value) (l : List UInt8) (hT : TabW w) (hn0 : -9223372036854775808 ≤ n) (hn1 : n ≤ 9223372036854775807) (hm0 : -9223372036854775808 ≤ m) (hm1 : m ≤ 9223372036854775807)
    (hs : s.size ≤ 1048576) (ht : t.size ≤ 1048576) (hl : l.length ≤ 1048576) (hv : Sl w v l) :
    Calls Tryd.prog 7 #[.int .i64 n, .int .i64 m, .string s, .string t, v] w fun e w' => e = .returned (.bool true) ∧ Below w.heap.size w w' := by
  have HT := hide hT
  clear hT
  have hsn := num_length n
  have hsm := num_length m
  have hss : (txt s.data.toList).length ≤ 1048586 := by have := num_length s.size; unfold txt; simp; omega
  have hst : (txt t.data.toList).length ≤ 1048586 := by have := num_length t.size; unfold txt; simp; omega
  have a1 := strB_size (num n)
  have a2 := strB_size (num m)
  have a3 := strB_size (txt s.data.toList)
  have a4 := strB_size (txt t.data.toList)
  have A1 := hide a1
  have A2 := hide a2
  have A3 := hide a3
  have A4 := hide a4
  have z1 : (strB (num n)).size ≤ 10 := by omega
  have z2 : (strB (num m)).size ≤ 10 := by omega
  have z3 : (strB (txt s.data.toList)).size ≤ 1048586 := by omega
  have z4 : (strB (txt t.data.toList)).size ≤ 1048586 := by omega
  clear hsn hsm hss hst a1 a2 a3 a4
  go_enter Tryd.func7, Tryd.ntmps7
  go_wp2_with fail
  refine (shown_any _ HT.out).mono ?_
  rintro e w1 ⟨rfl, hb1⟩
  go_wp2_with fail
  refine (putNum_any _ n hn0 hn1).mono ?_
  rintro e w2 ⟨g1, m1, cap1, rfl, _, _, hsl1, hb2⟩
  go_wp2_with (refine wpList_strB _ rfl (.tmp 26) rfl hsl1 rfl ?_)
  refine (putNum_any _ m hm0 hm1).mono ?_
  rintro e w3 ⟨g2, m2, cap2, rfl, _, _, hsl2, hb3⟩
  go_wp2_with (refine wpList_strB _ rfl (.tmp 29) rfl hsl2 rfl ?_)
  refine (putTxt_any _ s (by omega)).mono ?_
  rintro e w4 ⟨g3, m3, cap3, rfl, _, _, hsl3, hb4⟩
  go_wp2_with (refine wpList_strB _ rfl (.tmp 32) rfl hsl3 rfl ?_)
  refine (putTxt_any _ t (by omega)).mono ?_
  rintro e w5 ⟨g4, m4, cap4, rfl, _, _, hsl4, hb5⟩
  go_upto_region 6 with (refine wpList_strB _ rfl (.tmp 35) rfl hsl4 rfl ?_)
  go_cut [16] from 37 to 61 (fun one wc => one = .bool true ∧ w5 = wc)
  case first =>
    by_cases hnm : n = m
    · subst hnm
      go_wp2
      go_meet
      exact ⟨rfl, rfl⟩
    · have e1 : (n == m) = false := by simpa using hnm
      have p1 := fun r => num_apart hnm hn0 hn1 hm0 hm1 r
      have p2 := fun r => num_apart (Ne.symm hnm) hm0 hm1 hn0 hn1 r
      have f1 := ne_cut p1
      have f2 := ne_cut p2
      have f3 := (ne_whole p1).1
      have f4 := (ne_whole p1).2
      clear p1 p2 A1 A2 A3 A4
      rcases Nat.lt_or_ge (strB (num m)).size (strB (num n)).size with hle | hle
      · go_wp2
        all_goals (go_meet; exact ⟨rfl, rfl⟩)
      · go_wp2
        all_goals (go_meet; exact ⟨rfl, rfl⟩)
  case rest =>
    obtain ⟨rfl, rfl⟩ := hcut
    go_upto_region 7 with fail
    go_cut [17] from 62 to 86 (fun two wd => two = .bool true ∧ w5 = wd)
    case first =>
      by_cases hst : s = t
      · have e2 : (s.toList == t.toList) = true := by rw [hst]; simp
        subst hst
        go_wp2
        go_meet
        exact ⟨rfl, rfl⟩
      · have e2 : (s.toList == t.toList) = false := by
          simp only [beq_eq_false_iff_ne, ne_eq, ByteArray.toList_eq]
          intro e
          exact hst (by rw [← strB_of s, e, strB_of])
        have hst' : s.data.toList ≠ t.data.toList := fun e => hst (by rw [← strB_of s, e, strB_of])
        have p1 := fun r => txt_apart hst' (by simp; omega) (by simp; omega) r
        have p2 := fun r => txt_apart (Ne.symm hst') (by simp; omega) (by simp; omega) r
        have f1 := ne_cut p1
        have f2 := ne_cut p2
        have f3 := (ne_whole p1).1
        have f4 := (ne_whole p1).2
        clear p1 p2 A1 A2 A3 A4 hst'
        rcases Nat.lt_or_ge (strB (txt t.data.toList)).size (strB (txt s.data.toList)).size with hle | hle
        · go_wp2
          all_goals (go_meet; exact ⟨rfl, rfl⟩)
        · go_wp2
          all_goals (go_meet; exact ⟨rfl, rfl⟩)
    case rest =>
      obtain ⟨rfl, rfl⟩ := hcut
      have hb12 := hb1.trans (hb2.mono hb1.size)
      have hb13 := hb12.trans (hb3.mono hb12.size)
      have hb14 := hb13.trans (hb4.mono hb13.size)
      have hb15 := hb14.trans (hb5.mono hb14.size)
      have hv5 := hv.keep hb15
      have hz5 := hb15.size
      have q1 : (strB (num n)).data.toList.length ≤ 10 := by simpa using z1
      have q3 : (strB (txt s.data.toList)).data.toList.length ≤ 1048586 := by simpa using z3
      have i1 : takeI ((strB (num n)).data.toList ++ l) 0 = some (n, (strB (num n)).size) := by
        have := takeI_put [] l n hn0 hn1
        rw [strB_list, strB_size]
        simpa using this
      have i3 : takeT ((strB (txt s.data.toList)).data.toList ++ l) 0 s.size = some (s.data.toList, (strB (txt s.data.toList)).size) := by
        have := takeT_put [] l s.data.toList s.size (by simp) (by simp; omega)
        rw [strB_list, strB_size]
        simpa using this
      have I1 := hide i1
      have I3 := hide i3
      clear i1 i3 hsl1 hsl2 hsl3 hsl4 hb1 hb2 hb3 hb4 hb5 hb12 hb13 hb14 hv
      go_wp2_with (first
        | (refine wpList_tobytes _ rfl (.tmp 88) rfl (strB (num n)) (by unfold maxLen; omega) rfl ?_; intro v6 w6 hown6 hb6 hz6)
        | (at_builtin; refine wpList_append_b _ rfl (.tmp 89) (.tmp 90) rfl w5.heap.size (by omega) hown6 (by exact hv5.keep hb6) rfl rfl (by omega) ?_; intro v7 w7 hsl7 hb7))
      refine (takeInt_some _ _ _ 0 n (strB (num n)).size hsl7 (by omega) I1.out).mono ?_
      rintro e w7 ⟨rfl, rfl⟩
      have hb57 := hb6.trans hb7
      have hv7 := hv5.keep hb57
      have hz7 := hb57.size
      clear hb6 hb7 hown6 hsl7 hz6
      go_wp2_with (first
        | (refine wpList_tobytes _ rfl (.tmp 97) rfl (strB (txt s.data.toList)) (by unfold maxLen; omega) rfl ?_; intro v8 w8 hown8 hb8 hz8)
        | (at_builtin; refine wpList_append_b _ rfl (.tmp 98) (.tmp 99) rfl w7.heap.size (by omega) hown8 (by exact hv7.keep hb8) rfl rfl (by omega) ?_; intro v9 w9 hsl9 hb9))

      refine (takeText_str _ _ _ 0 s.size s (strB (txt s.data.toList)).size hsl9 (by omega) I3.out).mono ?_
      rintro e w9 ⟨rfl, rfl⟩
      have hb79 := hb8.trans hb9
      clear hb8 hb9 hown8 hsl9 hz8
      go_wp2
      go_ret
      exact ⟨rfl, hb15.trans ((hb57.mono hz5).trans (hb79.mono (by omega)))⟩
end Go.Proofs.YtphhonkiikdanaaDoor
