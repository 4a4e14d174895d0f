/-
  What the document's own Dir, Has, Said answer. Conditions: the texts lie there; lengths within reach.
-/
import Derived.Test.YtkihldkaiddbkaaCOf
import Derived.Test.YtkihldkaiddbkaaRefWithin
namespace Go.Proofs.Ytkihldkaiddbkaa
open Go.RowKit

/-- Dir, as the reference goes: the first one that has s within ends it. -/
theorem any_take_false {p : Bs → Bool} {xs : List Bs} {k : Nat} (h : ∀ j (hj : j < xs.length), j < k → p xs[j] = false) (hk : k = xs.length) : xs.any p = false := by
  rw [Bool.eq_false_iff]
  intro hp
  obtain ⟨x, hx, hpx⟩ := List.any_eq_true.1 hp
  obtain ⟨j, hj, rfl⟩ := List.getElem_of_mem hx
  rw [h j hj (by omega)] at hpx
  cases hpx
/-- 1 for yes, 0 for no. -/
def b01 (b : Bool) : Int := if b then 1 else 0
theorem any_snoc (p : Bs → Bool) {xs : List Bs} {k : Nat} (h : k < xs.length) : (xs.take (k + 1)).any p = ((xs.take k).any p || p xs[k]) := by
  rw [take_snoc h, List.any_append]
  simp

set_option maxRecDepth 20000 in
theorem rdir_any (w : World) (v : Value) (xs : List Bs) (s : Bs) (h : Ts w v xs) (hl : s.length ≤ 4611686018427387000) (hx : ∀ x ∈ xs, x.length ≤ 4611686018427387000) :
    Calls Try.prog 21 #[v, .string (strB s)] w fun e w' => e = .returned (.int .i64 (Pt.dirM xs s)) ∧ Below w.heap.size w w' := by
  have hr := rparse_all w s hl
  have htl := toL s
  obtain ⟨ao, cap, rfl, h1, h2, h4⟩ := h
  have hm : xs.length ≤ 9223372036854775807 := by unfold maxLen at h2; omega
  unfold err ans at hr
  unfold Pt.dirM
  cases hp : Pt.path s with
  | false =>
    rw [hp] at hr
    simp only [Bool.false_eq_true, if_false] at hr
    clear h4
    go_enter Try.func21, Try.ntmps21
    go_wp2_with fail
    refine hr.mono ?_
    rintro e w1 ⟨u, rfl, hu, hb⟩
    obtain ⟨uo, uc, rfl⟩ := own_shape hu
    have HB := hide hb
    clear hu hb
    go_wp2
    go_ret
    exact ⟨rfl, HB.out⟩
  | true =>
    rw [hp] at hr
    simp only [if_true] at hr
    simp only [if_true]
    have hA : ∃ A : Int, A = (if xs.any (fun k => Pt.within k s) = true then 2 else if (decide (s = []) || xs.any fun k => Pt.within s k) = true then 1 else 0) := ⟨_, rfl⟩
    obtain ⟨A, hA⟩ := hA
    rw [← hA]
    have HA := hide hA
    clear hA
    go_enter Try.func21, Try.ntmps21
    go_wp2_with fail
    refine hr.mono ?_
    rintro e w1 ⟨u, rfl, hu, hb⟩
    obtain ⟨uo, uc, rfl⟩ := own_shape hu
    clear hu hr
    have hb1 : w.heap.size ≤ w1.heap.size := hb.size
    by_cases h0 : s = []
    · subst h0
      have HB := hide hb
      clear hb
      go_wp2
      go_loopw [7, 8] (fun o t wr => o = .int .i64 1 ∧ ∃ k : Nat, t = .int .i64 (k : Int) ∧ k ≤ xs.length ∧ (∀ j (hj : j < xs.length), j < k → Pt.within xs[j] [] = false) ∧ Below w.heap.size w wr)
        (fun _ t _ => xs.length - (intOf t).toNat)
      case atStart => exact ⟨rfl, 0, rfl, by omega, fun j _ hj => absurd hj (by omega), HB.out⟩
      case round =>
        obtain ⟨rfl, k, rfl, hk, hq, hB⟩ := hrel
        by_cases hlt : k < xs.length
        · obtain ⟨b, off, rfl, hbl, hc⟩ := h4 (by rintro rfl; simp at hlt)
          have hcx := (hB.cell (p := ⟨b, off + k, none⟩) hbl).trans (hc k hlt)
          have hcy := fun W (hW : Below wr.heap.size wr W) => (hW.cell (p := ⟨b, off + k, none⟩) (Nat.lt_of_lt_of_le hbl hB.size)).trans hcx
          have hxl := hx xs[k] (List.getElem_mem hlt)
          have hw1 := fun W => rwithin_any W xs[k] [] hxl (by simp)
          have hw2 := fun W => rwithin_any W [] xs[k] (by simp) hxl
          have HQ := hide hq
          have HBB := hide hB
          have HM := hide (fun h => List.any_eq_true.2 ⟨xs[k], List.getElem_mem hlt, h⟩ : Pt.within xs[k] [] = true → xs.any (fun k => Pt.within k []) = true)
          have HN := hide (fun h j hj hjk => (by
            by_cases e : j = k
            · subst e; exact h
            · exact hq j hj (by omega)) : Pt.within xs[k] [] = false → ∀ j (hj : j < xs.length), j < k + 1 → Pt.within xs[j] [] = false)
          clear hq hc h4 hx
          generalize xs[k] = x at *
          go_wp2_with fail
          refine (hw1 wr).mono ?_
          rintro e w2 ⟨rfl, hb2⟩
          have c2 := hcy w2 hb2
          go_wp2_with fail
          refine (hw2 w2).mono ?_
          rintro e w3 ⟨rfl, hb3⟩
          have HB3 := hide ((HBB.out).trans ((hb2.trans (hb3.mono hb2.size)).mono HBB.out.size))
          cases hwx : Pt.within x [] with
          | true =>
            clear hcy hb2 hb3 hB
            go_wp2
            go_ret
            refine ⟨ret_int ?_, HB3.out⟩
            rw [HA.out, if_pos (HM.out hwx)]
          | false =>
            clear hcy hb2 hb3 hB
            cases Pt.within [] x
            · go_wp2
              go_roundw
              case rel => exact ⟨rfl, k + 1, by go_num, by omega, HN.out hwx, HB3.out⟩
              case measure => simp [intOf]; omega
            · go_wp2
              go_roundw
              case rel => exact ⟨rfl, k + 1, by go_num, by omega, HN.out hwx, HB3.out⟩
              case measure => simp [intOf]; omega
        · have HBB := hide hB
          have HF := hide (any_take_false (p := fun y => Pt.within y []) (k := k) hq (by omega))
          clear hq h4 hx hB
          go_wp2
          go_ret
          refine ⟨ret_int ?_, HBB.out⟩
          rw [HA.out, HF.out]
          simp
    · have b0 : (s == []) = false := by simp [h0]
      have HB := hide hb
      clear hb
      go_wp2
      go_loopw [7, 8] (fun o t wr => ∃ k : Nat, o = .int .i64 (b01 ((xs.take k).any fun k => Pt.within s k)) ∧ t = .int .i64 (k : Int) ∧ k ≤ xs.length ∧ (∀ j (hj : j < xs.length), j < k → Pt.within xs[j] s = false) ∧ Below w.heap.size w wr)
        (fun _ t _ => xs.length - (intOf t).toNat)
      case atStart => exact ⟨0, rfl, rfl, by omega, fun j _ hj => absurd hj (by omega), HB.out⟩
      case round =>
        obtain ⟨k, rfl, rfl, hk, hq, hB⟩ := hrel
        by_cases hlt : k < xs.length
        · obtain ⟨b, off, rfl, hbl, hc⟩ := h4 (by rintro rfl; simp at hlt)
          have hcx := (hB.cell (p := ⟨b, off + k, none⟩) hbl).trans (hc k hlt)
          have hcy := fun W (hW : Below wr.heap.size wr W) => (hW.cell (p := ⟨b, off + k, none⟩) (Nat.lt_of_lt_of_le hbl hB.size)).trans hcx
          have hxl := hx xs[k] (List.getElem_mem hlt)
          have hw1 := fun W => rwithin_any W xs[k] s hxl hl
          have hw2 := fun W => rwithin_any W s xs[k] hl hxl
          have HBB := hide hB
          have HM := hide (fun h => List.any_eq_true.2 ⟨xs[k], List.getElem_mem hlt, h⟩ : Pt.within xs[k] s = true → xs.any (fun k => Pt.within k s) = true)
          have HN := hide (fun h j hj hjk => (by
            by_cases e : j = k
            · subst e; exact h
            · exact hq j hj (by omega)) : Pt.within xs[k] s = false → ∀ j (hj : j < xs.length), j < k + 1 → Pt.within xs[j] s = false)
          have HS := hide (any_snoc (fun k => Pt.within s k) hlt)
          clear hq hc h4 hx
          generalize xs[k] = x at *
          generalize (xs.take k).any (fun k => Pt.within s k) = acc at *
          go_wp2_with fail
          refine (hw1 wr).mono ?_
          rintro e w2 ⟨rfl, hb2⟩
          have c2 := hcy w2 hb2
          go_wp2_with fail
          refine (hw2 w2).mono ?_
          rintro e w3 ⟨rfl, hb3⟩
          have HB3 := hide ((HBB.out).trans ((hb2.trans (hb3.mono hb2.size)).mono HBB.out.size))
          cases hwx : Pt.within x s with
          | true =>
            clear hcy hb2 hb3 hB
            go_wp2
            go_ret
            refine ⟨ret_int ?_, HB3.out⟩
            rw [HA.out, if_pos (HM.out hwx)]
          | false =>
            clear hcy hb2 hb3 hB
            cases hsx : Pt.within s x
            · have HZ := hide hsx
              go_wp2
              go_roundw
              case rel => exact ⟨k + 1, by rw [HS.out, HZ.out, Bool.or_false], by go_num, by omega, HN.out hwx, HB3.out⟩
              case measure => simp [intOf]; omega
            · have HZ := hide hsx
              go_wp2
              go_roundw
              case rel => exact ⟨k + 1, by rw [HS.out, HZ.out, Bool.or_true]; rfl, by go_num, by omega, HN.out hwx, HB3.out⟩
              case measure => simp [intOf]; omega
        · have HBB := hide hB
          have HF := hide (any_take_false (p := fun y => Pt.within y s) (k := k) hq (by omega))
          obtain rfl : k = xs.length := by omega
          rw [List.take_length]
          have HS0 := hide h0
          clear hq h4 hx hB
          generalize hacc : xs.any (fun k => Pt.within s k) = acc
          have HACC := hide hacc
          clear hacc
          go_wp2
          go_ret
          refine ⟨ret_int ?_, HBB.out⟩
          rw [HA.out, HF.out, HACC.out, decide_eq_false HS0.out]
          cases acc <;> rfl
set_option maxRecDepth 20000 in
theorem rhas_any (w : World) (v : Value) (xs : List Bs) (s : Bs) (h : Ts w v xs) (hl : s.length ≤ 4611686018427387000) (hx : ∀ x ∈ xs, x.length ≤ 4611686018427387000) :
    Calls Try.prog 19 #[v, .string (strB s)] w fun e w' => e = .returned (.bool (Pt.hasM xs s)) ∧ Below w.heap.size w w' := by
  have hs := rsplit_any w s hl
  by_cases hok : s ≠ [] ∧ Pt.path s = true
  · have hdl := dir_length hok.2
    have hd1 := fun V (hV : Below w.heap.size w V) => rdir_any V v xs s (h.keep hV) hl hx
    have hd := fun V (hV : Below w.heap.size w V) => rdir_any V v xs (Pt.dir s) (h.keep hV) (by omega) hx
    have HR := hide (Pt.hasM_ref xs s hok.1 hok.2)
    have hpos := Pt.dirM_range xs (Pt.dir s)
    unfold splitA at hs
    rw [if_pos hok] at hs
    obtain ⟨ao, cap, rfl, -, -, -⟩ := h
    generalize Pt.dirM xs (Pt.dir s) = n at *
    generalize Pt.dirM xs s = m at *
    by_cases h2 : m = 2
    · subst h2
      go_enter Try.func19, Try.ntmps19
      go_wp2_with fail
      refine hs.mono ?_
      rintro e w1 ⟨rfl, hb1⟩
      go_wp2_with fail
      refine (hd1 w1 hb1).mono ?_
      rintro e w2 ⟨rfl, hb2⟩
      go_wp2
      go_ret
      refine ⟨ret_bool ?_, hb1.trans (hb2.mono hb1.size)⟩
      rw [HR.out]
      simp
    · have H2 := hide h2
      have HP := hide hpos
      clear hpos
      go_enter Try.func19, Try.ntmps19
      go_wp2_with fail
      refine hs.mono ?_
      rintro e w1 ⟨rfl, hb1⟩
      go_wp2_with fail
      refine (hd1 w1 hb1).mono ?_
      rintro e w2 ⟨rfl, hb2⟩
      have hb2' := hb1.trans (hb2.mono hb1.size)
      go_wp2_with fail
      refine (hd w2 hb2').mono ?_
      rintro e w3 ⟨rfl, hb3⟩
      have HB3 := hide (hb2'.trans (hb3.mono hb2'.size))
      clear hb1 hb2 hb2' hb3 hd hd1
      go_wp2
      go_ret
      refine ⟨ret_bool ?_, HB3.out⟩
      rw [HR.out]
      have hm2 : (m == 2) = false := by simpa using H2.out
      rcases HP.out with e | e | e <;> subst e <;> simp [hm2, H2.out]
  · have hr : Pt.hasM xs s = false := by
      unfold Pt.hasM
      by_cases h0 : s = []
      · subst h0; rfl
      · cases hp : Pt.path s with
        | false => simp
        | true => exact absurd ⟨h0, hp⟩ hok
    rw [hr]
    unfold splitA at hs
    rw [if_neg hok] at hs
    obtain ⟨ao, cap, rfl, -, -, -⟩ := h
    go_enter Try.func19, Try.ntmps19
    go_wp2_with fail
    refine hs.mono ?_
    rintro e w1 ⟨rfl, hb1⟩
    go_wp2
    go_ret
    exact ⟨rfl, hb1⟩

set_option maxRecDepth 20000 in
theorem rsaid_any (w : World) (l : Bs) (hl : l.length ≤ 4611686018427387000) : Calls Try.prog 22 #[.string (strB l)] w fun e w' => e = .returned (.bool (Pt.saidM l)) ∧ w' = w := by
  have hsz := strB_size l
  have htl := toL l
  by_cases h1 : l = [42]
  · subst h1
    go_enter Try.func22, Try.ntmps22
    go_wp2
    go_ret
    exact ⟨rfl, rfl⟩
  have b1 : (l == [42]) = false := by simp [h1]
  have main : l.head? ≠ some 35 → ∀ (W : World), Hid (Pt.saidM l = decide (10 ∉ l)) := fun h _ => hide (by unfold Pt.saidM; rw [decide_eq_true h1, decide_eq_true h]; simp)
  have H : ∀ k (hk : k < l.length), l[k] = 10 → Hid (decide (10 ∉ l) = false) := fun k hk e => hide (decide_eq_false (fun h => h (e ▸ List.getElem_mem hk)))
  have HT : (∀ j (hj : j < l.length), l[j] ≠ 10) → Hid (decide (10 ∉ l) = true) := fun h => hide (decide_eq_true (fun hm => by
    obtain ⟨j, hj, e⟩ := List.getElem_of_mem hm
    exact h j hj e))
  cases l with
  | nil =>
    go_enter Try.func22, Try.ntmps22
    go_wp2
    go_loopw [3] (fun t wr => t = .int .i64 0 ∧ wr = w) (fun _ _ => 0)
    case atStart => exact ⟨rfl, rfl⟩
    case round =>
      obtain ⟨rfl, rfl⟩ := hrel
      go_wp2
      go_ret
      exact ⟨rfl, rfl⟩
  | cons c r =>
    have hix := fun W => index_str 9 (.inl rfl) W (c :: r) .i64 0 (by simp)
    simp only [List.getElem_cons_zero, Int.ofNat_zero] at hix
    have bne : ((c :: r) == []) = false := by simp
    have h35t : c = 35 → Hid (Pt.saidM (c :: r) = false) := fun e => hide (by unfold Pt.saidM; subst e; simp)
    have h35f : c ≠ 35 → Hid (Pt.saidM (c :: r) = decide (10 ∉ (c :: r))) := fun e => main (by simpa using e) w
    clear main
    generalize (c :: r) = L at *
    by_cases h35 : c = 35
    · have HM := h35t h35
      subst h35
      clear h35t h35f H HT
      replace hix : ∀ W, (Instr.index 9 (.string (strB L)) (.int .i64 0)).run Try.prog W = .ok (.int .u8 35) W := hix
      go_enter Try.func22, Try.ntmps22
      go_wp2
      go_ret
      exact ⟨ret_bool HM.out.symm, rfl⟩
    · have hc2 : ¬ (c.toNat : Int) = 35 := fun e => h35 (UInt8.toNat_inj.1 (by simpa using Int.ofNat.inj e))
      have HM := h35f h35
      clear h35t h35f
      have HI := hide (fun W k (hk : k < L.length) => index_str 9 (.inl rfl) W L .i64 k hk)
      have HH := hide H
      have HHT := hide HT
      clear H HT
      go_enter Try.func22, Try.ntmps22
      go_wp2
      go_loopw [3] (fun t wr => ∃ k : Nat, t = .int .i64 (k : Int) ∧ k ≤ L.length ∧ (∀ j (hj : j < L.length), j < k → L[j] ≠ 10) ∧ wr = w) (fun t _ => L.length - (intOf t).toNat)
      case atStart => exact ⟨0, rfl, by omega, fun j _ hj => absurd hj (by omega), rfl⟩
      case round =>
        obtain ⟨k, rfl, hk, hq, rfl⟩ := hrel
        by_cases hlt : k < L.length
        · have hxk := HI.out wr k hlt
          have HF := HH.out k hlt
          have HN := hide (fun h j hj hjk => (by
            by_cases e : j = k
            · subst e; exact h
            · exact hq j hj (by omega)) : L[k] ≠ 10 → ∀ j (hj : j < L.length), j < k + 1 → L[j] ≠ 10)
          have hlt' : (k : Int) < (L.length : Int) := by omega
          clear hq hix
          generalize L[k] = x at *
          by_cases hx : x = 10
          · subst hx
            replace HF := HF rfl
            replace hxk : (Instr.index 9 (.string (strB L)) (.int .i64 (k : Int))).run Try.prog wr = .ok (.int .u8 10) wr := hxk
            clear HN
            go_wp2
            go_ret
            exact ⟨ret_bool (HM.out.trans HF.out).symm, rfl⟩
          · have hx2 : ¬ (x.toNat : Int) = 10 := fun e => hx (UInt8.toNat_inj.1 (by simpa using Int.ofNat.inj e))
            replace HN := hide (HN.out hx)
            clear HF
            go_wp2
            go_roundw
            case rel => exact ⟨k + 1, by go_num, by omega, HN.out, by first | trivial | rfl⟩
            case measure => simp [intOf]; omega
        · have HZ := HHT.out (fun j hj => hq j hj (by omega))
          have hlt' : ¬ (k : Int) < (L.length : Int) := by omega
          clear hq hix
          go_wp2
          go_ret
          exact ⟨ret_bool (HM.out.trans HZ.out).symm, rfl⟩
end Go.Proofs.Ytkihldkaiddbkaa
