/-
  What the document's own Ends and Cuts answer. Conditions: lengths within reach.
-/
import Derived.Test.YtokebnkgjchfaaaGreatDoorS22GPlain
namespace Go.Proofs.YtokebnkgjchfaaaGreatDoor.Gr
open Go.RowKit

def pre (R : List (List UInt8)) (k : Nat) : Nat := (R.take k).flatten.length
theorem pre_zero (R : List (List UInt8)) : pre R 0 = 0 := by simp [pre]
theorem pre_succ {R : List (List UInt8)} {k : Nat} (h : k < R.length) : pre R (k + 1) = pre R k + R[k].length := by
  unfold pre
  rw [List.take_add_one, List.getElem?_eq_getElem h]
  simp only [List.flatten_append, List.length_append, Option.toList_some, List.flatten_cons, List.flatten_nil, List.append_nil]
theorem Tail.count : ∀ {R : List (List UInt8)}, Tail R → R.length ≤ R.flatten.length
  | [], _ => by simp
  | c :: R, h => by
    have h1 := h.rest.count
    have h2 := (h.size (j := 0) (by simp)).1
    simp only [List.getElem_cons_zero] at h2
    simp only [List.length_cons, List.flatten_cons, List.length_append]
    omega
theorem pre_all (R : List (List UInt8)) : pre R R.length = R.flatten.length := by simp [pre]
theorem pre_le (R : List (List UInt8)) (k : Nat) : pre R k ≤ R.flatten.length := by
  unfold pre
  have := congrArg (fun x => x.flatten.length) (List.take_append_drop k R)
  simp only [List.flatten_append, List.length_append] at this
  omega
theorem cuts_at {l : List UInt8} {k : Nat} (h : k < (chunks l).length) : (cuts l)[k]? = some (pre (chunks l) (k + 1)) := by
  unfold cuts pre
  rw [sums_get 0 _ k h, Nat.zero_add]
theorem cuts_len (l : List UInt8) : (cuts l).length = (chunks l).length := sums_length _ _
theorem flat_len (l : List UInt8) : (chunks l).flatten.length = l.length := by rw [chunks_flat]
theorem drop_flat (R : List (List UInt8)) (a : Nat) : (R.drop a).flatten = R.flatten.drop (pre R a) := by
  have : R.flatten = (R.take a).flatten ++ (R.drop a).flatten := by rw [← List.flatten_append, List.take_append_drop]
  rw [this]
  unfold pre
  simp

set_option maxRecDepth 20000 in
theorem rtable_any (w : World) (c : UInt8) : Calls Tryz.prog 56 #[.int .u8 (c.toNat : Int)] w fun e w' => e = .returned (.int .u64 (u (tab c))) ∧ w' = w := by
  have hc := c.toNat_lt
  go_enter Tryz.func56, Tryz.ntmps56
  go_wp2
  go_ret
  refine ⟨ret_int ?_, rfl⟩
  rw [u_succ, w_mul _ 11400714819323198485 11400714819323198485 rfl, u_shr' _ 30 30 1073741824 rfl (by decide) rfl, u_xor, w_mul _ 13787848793156543929 13787848793156543929 rfl, u_shr' _ 27 27 134217728 rfl (by decide) rfl, u_xor, w_mul _ 10723151780598845931 10723151780598845931 rfl, u_shr' _ 31 31 2147483648 rfl (by decide) rfl, u_xor]
  rfl

theorem u_div (s n : UInt64) (k : Nat) (d : Int) (hk : n.toNat = k) (h : k < 64) (hd : d = 2 ^ k) (b : Bool) (hb : (s >>> n == 0) = b) : (u s / d == 0) = b := by
  rw [u_shr' s n k d hk h hd, u_zero, hb]
theorem w_two' (s : UInt64) : IntKind.u64.wrap (u s * 2) = u (2 * s) := by rw [w_mul s 2 2 rfl, UInt64.mul_comm]
theorem sm_take {l : List UInt8} {k : Nat} (h : k < l.length) (h64 : 64 ≤ k) : sm (l.take (k + 1)) = nxt (sm (l.take k)) l[k] := by
  have e : l.take (k + 1) = l.take k ++ [l[k]] := by rw [List.take_add_one, List.getElem?_eq_getElem h]; rfl
  rw [e, sm_snoc, if_pos (by simp; omega)]
theorem sm_64 (l : List UInt8) : sm (l.take 64) = 0 := by
  unfold sm
  rw [List.drop_eq_nil_of_le (by simp; omega)]
  rfl

set_option maxRecDepth 20000 in
set_option maxHeartbeats 1000000 in
theorem rends_any (w : World) (l : List UInt8) (hl : l.length ≤ 1099511627776) :
    Calls Tryz.prog 37 #[.string (strB l)] w fun e w' => ((∃ n, n ≤ l.length ∧ Ck (l.take n) ∧ e = .returned (.tuple #[.int .i64 (n : Int), .bool true])) ∨ (Hd l ∧ e = .returned (.tuple #[.int .i64 (l.length : Int), .bool false]))) ∧ w' = w := by
  have hs := strB_size l
  go_enter Tryz.func37, Tryz.ntmps37
  go_wp2_with fail
  go_loopw [5, 4] (fun i s wr => ∃ k : Nat, i = .int .i64 (k : Int) ∧ 64 ≤ k ∧ (k ≤ l.length ∨ k = 64) ∧ s = .int .u64 (u (sm (l.take k))) ∧ (∀ n, n ≤ k → n ≤ l.length → ended (l.take n) = false) ∧ wr = w)
    (fun i _ _ => l.length - (intOf i).toNat)
  case atStart => exact ⟨64, rfl, Nat.le_refl _, .inr rfl, by rw [sm_64]; rfl, fun n hn hnl => ended_short (by simp; omega), rfl⟩
  case round =>
    obtain ⟨k, rfl, h64, hkl, rfl, hno, rfl⟩ := hrel
    by_cases hlt : k < l.length
    · have hk : k < 1024 := by
        rcases Nat.lt_or_ge k 1024 with h | h
        · exact h
        · have := hno 1024 h (by omega)
          rw [ended_long (by simp; omega)] at this
          cases this
      have hix := fun W => index_str W l .i64 k hlt
      have hst := sm_take hlt h64
      have hen : ended (l.take (k + 1)) = full (k + 1) (sm (l.take (k + 1))) := by unfold ended; rw [List.length_take, Nat.min_eq_left hlt]
      have hstop : ended (l.take (k + 1)) = true → Ck (l.take (k + 1)) := fun h => ⟨h, fun n hn => by
        rw [List.length_take, Nat.min_eq_left hlt] at hn
        rw [List.take_take, Nat.min_eq_left (by omega)]
        exact hno n (by omega) (by omega)⟩
      have hgo : ended (l.take (k + 1)) = false → ∀ n, n ≤ k + 1 → n ≤ l.length → ended (l.take n) = false := fun h n hn hnl => by
        by_cases e : n = k + 1
        · rw [e]; exact h
        · exact hno n (by omega) hnl
      have e2 := w_two' (sm (l.take k))
      have e3 := w_add (2 * sm (l.take k)) (tab l[k])
      rw [show 2 * sm (l.take k) + tab l[k] = nxt (sm (l.take k)) l[k] from rfl, ← hst] at e3
      have HST := hide hst
      have HEN := hide hen
      have HGO := hide hgo
      have HSTOP := hide hstop
      have HNO := hide hno
      clear hst hen hgo hstop hno
      generalize hSe : sm (l.take (k + 1)) = S at *
      have HSE := hide hSe
      clear hSe
      generalize sm (l.take k) = S0 at *
      generalize l[k] = c at *
      by_cases h256 : k + 1 ≤ 256
      · have hf : full (k + 1) S = (S >>> 54 == 0) := by unfold full; rw [if_neg (by omega), if_pos h256]
        have hn1024 : ((k : Int) + 1 == 1024) = false := beq_eq_false_iff_ne.2 (by omega)
        cases hb : (S >>> 54 == 0) with
        | true =>
          have hd := u_div S 54 54 18014398509481984 rfl (by decide) rfl _ hb
          have hck := HSTOP.out (by rw [HEN.out, hf, hb])
          go_wp2_with fail
          refine (rtable_any _ c).mono ?_
          rintro e w1 ⟨rfl, rfl⟩
          go_wp2
          go_ret2
          exact ⟨.inl ⟨k + 1, by omega, hck, by go_num⟩, rfl⟩
        | false =>
          have hd := u_div S 54 54 18014398509481984 rfl (by decide) rfl _ hb
          have hg := HGO.out (by rw [HEN.out, hf, hb])
          go_wp2_with fail
          refine (rtable_any _ c).mono ?_
          rintro e w1 ⟨rfl, rfl⟩
          go_wp2_with fail
          exact ⟨⟨k + 1, by go_num, by omega, by omega, by rw [HSE.out], hg, trivial⟩, by simp [intOf]; omega⟩
      · by_cases h1024 : k + 1 < 1024
        · have hf : full (k + 1) S = (S >>> 58 == 0) := by unfold full; rw [if_neg (by omega), if_neg h256, if_pos h1024]
          have hn1024 : ((k : Int) + 1 == 1024) = false := beq_eq_false_iff_ne.2 (by omega)
          cases hb : (S >>> 58 == 0) with
          | true =>
            have hd := u_div S 58 58 288230376151711744 rfl (by decide) rfl _ hb
            have hck := HSTOP.out (by rw [HEN.out, hf, hb])
            go_wp2_with fail
            refine (rtable_any _ c).mono ?_
            rintro e w1 ⟨rfl, rfl⟩
            go_wp2
            go_ret2
            exact ⟨.inl ⟨k + 1, by omega, hck, by go_num⟩, rfl⟩
          | false =>
            have hd := u_div S 58 58 288230376151711744 rfl (by decide) rfl _ hb
            have hg := HGO.out (by rw [HEN.out, hf, hb])
            go_wp2_with fail
            refine (rtable_any _ c).mono ?_
            rintro e w1 ⟨rfl, rfl⟩
            go_wp2_with fail
            exact ⟨⟨k + 1, by go_num, by omega, by omega, by rw [HSE.out], hg, trivial⟩, by simp [intOf]; omega⟩
        · have hn1024 : ((k : Int) + 1 == 1024) = true := beq_iff_eq.2 (by omega)
          have hck := HSTOP.out (by rw [HEN.out]; unfold full; rw [if_neg (by omega), if_neg h256, if_neg h1024])
          cases hb : (S >>> 58 == 0) with
          | true =>
            have hd := u_div S 58 58 288230376151711744 rfl (by decide) rfl _ hb
            go_wp2_with fail
            refine (rtable_any _ c).mono ?_
            rintro e w1 ⟨rfl, rfl⟩
            go_wp2
            go_ret2
            exact ⟨.inl ⟨k + 1, by omega, hck, by go_num⟩, rfl⟩
          | false =>
            have hd := u_div S 58 58 288230376151711744 rfl (by decide) rfl _ hb
            go_wp2_with fail
            refine (rtable_any _ c).mono ?_
            rintro e w1 ⟨rfl, rfl⟩
            go_wp2
            go_ret2
            exact ⟨.inl ⟨k + 1, by omega, hck, by go_num⟩, rfl⟩
    · have hd : Hd l := fun n hn => by
        rcases Nat.lt_or_ge k n with h | h
        · omega
        · exact hno n h hn
      go_wp2
      go_ret2
      exact ⟨.inr ⟨hd, rfl⟩, rfl⟩
/-- Of a text that begins with a chunk. -/
theorem rends_ck (w : World) (c r : List UInt8) (hl : (c ++ r).length ≤ 1099511627776) (hc : Ck c) :
    Calls Tryz.prog 37 #[.string (strB (c ++ r))] w fun e w' => e = .returned (.tuple #[.int .i64 (c.length : Int), .bool true]) ∧ w' = w := by
  refine (rends_any w _ hl).mono ?_
  rintro e w' ⟨⟨n, h1, h2, rfl⟩ | ⟨h1, rfl⟩, rfl⟩
  · have : n = c.length := by
      rcases Nat.lt_trichotomy n c.length with h | h | h
      · have := hc.2 n h
        have h3 := h2.1
        rw [List.take_append_of_le_length (Nat.le_of_lt h), this] at h3
        cases h3
      · exact h
      · have h3 := h2.2 c.length (by rw [List.length_take]; omega)
        rw [List.take_take, Nat.min_eq_left (Nat.le_of_lt h), List.take_left, hc.1] at h3
        cases h3
    rw [this]
    exact ⟨rfl, rfl⟩
  · have := h1 c.length (by simp)
    rw [List.take_left, hc.1] at this
    cases this
/-- Of a text in which nothing ends. -/
theorem rends_hd (w : World) (l : List UInt8) (hl : l.length ≤ 1099511627776) (hc : Hd l) :
    Calls Tryz.prog 37 #[.string (strB l)] w fun e w' => e = .returned (.tuple #[.int .i64 (l.length : Int), .bool false]) ∧ w' = w := by
  refine (rends_any w _ hl).mono ?_
  rintro e w' ⟨⟨n, h1, h2, rfl⟩ | ⟨h1, rfl⟩, rfl⟩
  · have := hc n h1
    rw [h2.1] at this
    cases this
  · exact ⟨rfl, rfl⟩
/-- Of what is left of a text, chunk by chunk. -/
theorem rends_tail (w : World) (c : List UInt8) (R : List (List UInt8)) (hl : (c :: R).flatten.length ≤ 1099511627776) (hT : Tail (c :: R)) :
    Calls Tryz.prog 37 #[.string (strB (c :: R).flatten)] w fun e w' => ∃ b, e = .returned (.tuple #[.int .i64 (c.length : Int), .bool b]) ∧ w' = w := by
  rcases hT.head with h | ⟨h, rfl, _⟩
  · rw [List.flatten_cons] at hl ⊢
    exact (rends_ck w c _ hl h).mono (fun e w' ⟨h1, h2⟩ => ⟨true, h1, h2⟩)
  · simp only [List.flatten_cons, List.flatten_nil, List.append_nil] at hl ⊢
    exact (rends_hd w c hl h).mono (fun e w' ⟨h1, h2⟩ => ⟨false, h1, h2⟩)

set_option maxRecDepth 20000 in
theorem rcuts_any (w : World) (l : List UInt8) (hl : l.length ≤ 1099511627776) :
    Calls Tryz.prog 21 #[.string (strB l)] w fun e w' => ∃ v, e = .returned v ∧ w'.ownsRow w.heap.size 3 1 v (cuts l).length (ic (cuts l)) ∧ Below w.heap.size w w' := by
  obtain ⟨i0, hi0, hz0, hz1, hz2⟩ := info_parts Tryz.infoI
  have hs := strB_size l
  have hfl := flat_len l
  have hT := chunks_tail l
  have hcl := hT.count
  have hpl := pre_le (chunks l)
  have hex := fun n => ext_strB l n l.length
  simp only [List.take_length] at hex
  have hdf := fun n => drop_flat (chunks l) n
  rw [chunks_flat] at hdf
  have hat := fun k (h : k < (chunks l).length) => cuts_at (l := l) h
  have hcle := cuts_len l
  generalize chunks l = R at *
  generalize cuts l = E at *
  go_enter Tryz.func21, Tryz.ntmps21
  go_wp2_with fail
  go_loopw [3, 4] (fun v f wr => ∃ k : Nat, k ≤ R.length ∧ f = .int .i64 (pre R k : Int) ∧ wr.ownsRow w.heap.size 3 1 v k (ic (E.take k)) ∧ Below w.heap.size w wr)
    (fun _ f _ => l.length - (intOf f).toNat)
  case atStart => exact ⟨0, Nat.zero_le _, by rw [pre_zero]; rfl, World.ownsRow_nil _ _ _ _, Below.refl _ _⟩
  case round =>
    obtain ⟨k, hk, rfl, hrow, hB⟩ := hrel
    have hp1 := hpl k
    by_cases hlt : k < R.length
    · have hps := pre_succ hlt
      have hp2 := hpl (k + 1)
      have hsz := (hT.size hlt).1
      have hdk := hdf k
      have htl := hT.drop k
      have hcons : R.drop k = R[k] :: R.drop (k + 1) := List.drop_eq_getElem_cons hlt
      rw [hcons] at hdk htl
      have hen := fun W => rends_tail W _ _ (by rw [hdk]; simp; omega) htl
      rw [hdk] at hen
      have hex := hex (pre R k)
      have hEk := hat k hlt
      have hEt : ic (E.take k) ++ [.int .i64 (pre R (k + 1) : Int)] = ic (E.take (k + 1)) := by
        rw [List.take_add_one, hEk, ic_append]
        rfl
      rw [hps, Int.natCast_add] at hEt
      have HET := hide hEt
      have HPS := hide hps
      have hin : pre R k < l.length := by omega
      clear hdf hat hpl hT htl hcons hEt hdk hEk
      generalize R[k].length = m at *
      rw [hps] at hp2
      clear hps
      generalize hpk : pre R k = p at *
      have hrow' := hrow
      obtain ⟨ao, cap, rfl, c1, c2, -⟩ := own_form hrow
      clear hrow
      go_wp2_with fail
      refine (hen _).mono ?_
      rintro e w1 ⟨b, rfl, rfl⟩
      go_wp2_with (at_builtin; refine wpList_append_own _ rfl (.tmp 21) (.tmp 23) 54 rfl w.heap.size 3 i0 (.int .i64 0) 1 8 Tryz.underlying54 hi0 hz0 hz1 hz2 rfl (by decide) _ _ _ rfl (hrow'.alloc _) ⟨w1.heap.size, 0, none⟩ 1 1 [.int .i64 ((p : Int) + (m : Int))] rfl rfl (cell_one_new _ _ _) (by simp [Value.oneCell']) (by unfold maxLen; omega) (by omega) (by have := hB.size; simp; omega) ?_)
      intro v2 w2 hown2 hgrow2 _
      have hb2 : Below w.heap.size w w2 := (hB.alloc hB.size _).grown hgrow2 (by have := hB.size; simp; omega) (fun j hj => (hrow'.lt j hj).1)
      obtain ⟨ao', cap', rfl, -⟩ := own_form hown2
      clear hgrow2
      go_wp2
      go_roundw
      case rel => exact ⟨k + 1, by omega, by rw [HPS.out, Int.natCast_add], by rw [HET.out] at hown2; exact hown2, hb2⟩
      case measure => simp [intOf] <;> omega
    · obtain rfl : k = R.length := by omega
      have hpa : pre R R.length = l.length := by rw [pre_all, hfl]
      have htk : E.take R.length = E := List.take_of_length_le (by omega)
      rw [htk] at hrow
      rw [← hcle] at hrow
      rw [hpa]
      obtain ⟨ao, cap, rfl, c1, c2, -⟩ := own_form hrow
      go_wp2
      go_ret
      exact ⟨_, rfl, hrow, hB⟩
end Go.Proofs.YtokebnkgjchfaaaGreatDoor.Gr
