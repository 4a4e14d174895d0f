/-
  What cone.Of answers. Conditions: the texts lie there; not too many; lengths within reach.
-/
import Derived.Test.YtkihldkaiddbkabCSort
namespace Go.Proofs.Ytkihldkaiddbkab
open Go.RowKit

theorem path_length {l : Bs} (h : Pt.path l = true) : l.length ≤ 1040 := by
  have := few_length h
  rwa [Pt.joined_parts] at this
theorem any_isNone (xs : List Bs) : xs.any (fun x => !Pt.path x) = !xs.all Pt.path := by
  induction xs with
  | nil => rfl
  | cons a r ih => rw [List.any_cons, List.all_cons, ih, Bool.not_and]
theorem take_snoc {xs : List Bs} {k : Nat} (h : k < xs.length) : xs.take (k + 1) = xs.take k ++ [xs[k]] := by rw [List.take_add_one]; simp [h]
theorem tc_snoc (xs : List Bs) (x : Bs) : tc xs ++ [.string (strB x)] = tc (xs ++ [x]) := by simp [tc]
theorem formC_take {ys : List Bs} {k : Nat} (h : k < ys.length) : Pt.formC (ys.take (k + 1)) = Pt.addC (Pt.formC (ys.take k)) ys[k] := by rw [take_snoc h, Pt.formC_snoc]
theorem formC_more (ys : List Bs) (k : Nat) : (Pt.formC (ys.take k)).length ≤ (Pt.formC ys).length := by
  have := Pt.formC_len (ys.take k) (ys.drop k)
  rwa [List.take_append_drop] at this

theorem own_down {w : World} {B B' k n : Nat} {e : TypeId} {v : Value} {xs : List Value} (h : w.ownsRow B e k v n xs) (hB : B' ≤ B) : w.ownsRow B' e k v n xs := by
  obtain ⟨h1, h2⟩ := h
  refine ⟨h1, ?_⟩
  rcases h2 with h2 | ⟨g, cap, cur, rfl, hg, h3⟩
  · exact Or.inl h2
  · exact Or.inr ⟨g, cap, cur, rfl, by omega, h3⟩
theorem ofM_none {xs : List Bs} (h : xs.all Pt.path = false) : Pt.ofM xs = ([], 40) := by
  unfold Pt.ofM
  rw [h]
  rfl
theorem ofM_many {xs : List Bs} (h : xs.all Pt.path = true) (k : ¬ (Pt.formM xs).length ≤ 64) : Pt.ofM xs = ([], 181) := by
  unfold Pt.ofM
  rw [h, if_pos rfl, if_neg k]
theorem ofM_ok {xs : List Bs} (h : xs.all Pt.path = true) (k : (Pt.formM xs).length ≤ 64) : Pt.ofM xs = (Pt.formM xs, 0) := by
  unfold Pt.ofM
  rw [h, if_pos rfl, if_pos k]

set_option maxRecDepth 20000 in
theorem of_any (w : World) (v : Value) (xs : List Bs) (h : Ts w v xs) (hn : xs.length ≤ 1000000) (hl : ∀ x ∈ xs, x.length ≤ 4611686018427387000) :
    Calls Try.prog 5 #[v] w fun e w' => ∃ u, e = .returned (.tuple #[u, .int .i64 (Pt.ofM xs).2]) ∧ w'.ownsRow w.heap.size 9 1 u (Pt.ofM xs).1.length (tc (Pt.ofM xs).1) ∧ Below w.heap.size w w' := by
  obtain ⟨i0, hi0, hz0, hz1, hz2⟩ := info_parts Try.info9
  have hc := containsFunc_any w v xs h _ #[] enter_isNone (fun x => !Pt.path x) (fun x hx W _ => isNone_any W x (hl x hx))
  have hc : Calls Try.prog 9 #[v, .func (.func 10) #[] #[]] w fun e w' => e = .returned (.bool (!xs.all Pt.path)) ∧ Below w.heap.size w w' := by rw [← any_isNone]; exact hc
  have hts := fun W (hW : Below w.heap.size w W) => h.keep hW
  obtain ⟨ao, cap, rfl, -, -, -⟩ := h
  cases hp : xs.all Pt.path with
  | false =>
    have HP := hide hp
    rw [hp] at hc
    clear hts hp
    go_enter Try.func5, Try.ntmps5
    go_wp2_with fail
    refine hc.mono ?_
    rintro e w1 ⟨rfl, hb1⟩
    have HB1 := hide hb1
    clear hb1
    go_wp2
    go_ret2
    rw [ofM_none HP.out]
    exact ⟨_, rfl, World.ownsRow_nil _ _ _ _, HB1.out⟩
  | true =>
    have HP := hide hp
    rw [hp] at hc
    have hpath : ∀ x ∈ xs, Pt.path x = true := List.all_eq_true.1 hp
    go_enter Try.func5, Try.ntmps5
    go_wp2_with fail
    refine hc.mono ?_
    rintro e w1 ⟨rfl, hb1⟩
    go_wp2_with fail
    refine (values_any w1 ao xs.length cap).mono ?_
    rintro e w2 ⟨rfl, hw2⟩
    have hb12 : Below w1.heap.size w1 w2 := by rw [hw2]; exact (Below.refl _ w1).alloc (Nat.le_refl _) _
    have hc2 : w2.cell? ⟨w1.heap.size, 0, none⟩ = some (.slice ao xs.length cap) := by rw [hw2]; exact cell_of (heap_last w1 _) 0
    have hlt2 : w1.heap.size < w2.heap.size := by rw [hw2]; simp
    clear hw2
    have hB2 := hb1.trans (hb12.mono hb1.size)
    have hso := sortedFunc_any w2 w1.heap.size _ xs hlt2 hc2 (hts w2 hB2) hn (fun x hx => by have := hl x hx; omega)
    clear hc2 hts hc
    go_wp2_with fail
    refine hso.mono ?_
    rintro e w3 ⟨u, ys, rfl, hperm, hsorted, hu, hb3⟩
    have hB3 := hB2.trans (hb3.mono hB2.size)
    have hE : Pt.formC ys = Pt.formM xs := Pt.formC_eq hsorted hpath (fun x => hperm.mem_iff)
    have hyl : ys.length = xs.length := hperm.length_eq
    have hyp : ∀ x ∈ ys, Pt.path x = true := fun x hx => hpath x (hperm.mem_iff.1 hx)
    obtain ⟨bo, cap2, rfl, k1, k2, k4⟩ := ts_of_own hu
    have HE := hide hE
    have hy1 : ys.length ≤ 1000000 := by omega
    have HS := hide (⟨hB3, hyl, hyp, k4⟩ : _ ∧ _ ∧ _ ∧ _)
    clear hp hso hperm hsorted hu hb3 hB3 hE hyl hyp k4 hb12 hB2 hb1 hpath hlt2 hl
    go_wp2
    go_loopw [4, 14] (fun f t wr => ∃ k : Nat, t = .int .i64 (k : Int) ∧ k ≤ ys.length ∧ wr.ownsRow w3.heap.size 9 1 f (Pt.formC (ys.take k)).length (tc (Pt.formC (ys.take k))) ∧ (Pt.formC (ys.take k)).length ≤ 64 ∧ Below w3.heap.size w3 wr)
      (fun _ t _ => ys.length - (intOf t).toNat)
    case atStart => exact ⟨0, rfl, by omega, World.ownsRow_nil _ _ _ _, by simp [Pt.formC], Below.refl _ _⟩
    case round =>
      obtain ⟨k, rfl, hk, hrow, h64, hB⟩ := hrel
      by_cases hlt : k < ys.length
      · obtain ⟨hB3, hyl, hyp, k4⟩ := HS.out
        obtain ⟨b, off, rfl, hb, hcs⟩ := k4 (by rintro rfl; simp at hlt)
        have hcx := (hB.cell (p := ⟨b, off + k, none⟩) hb).trans (hcs k hlt)
        have hpx := hyp ys[k] (List.getElem_mem hlt)
        have hxl := path_length hpx
        have hnext := hide (formC_take hlt)
        have hmore := hide (formC_more ys (k + 1))
        have hwi := fun W f => within_any W f ys[k] (by omega)
        have hcl := fun W => copyStr_any W ys[k] (by omega)
        generalize ys[k] = x at *
        generalize Pt.formC (ys.take k) = form at *
        have HSR := hide (⟨hB, hrow⟩ : _ ∧ _)
        clear hB3 hyl hyp k4 hcs
        rcases Nat.eq_zero_or_pos form.length with h0 | h0
        · -- the first one
          obtain rfl : form = [] := List.eq_nil_of_length_eq_zero h0
          have hadd : Pt.addC [] x = [x] := rfl
          obtain ⟨fo, fc, rfl⟩ := own_shape hrow
          clear hB hwi
          go_wp2_with fail
          refine (hcl wr).mono ?_
          rintro e w5 ⟨rfl, hb5⟩
          obtain ⟨hB, hrow5⟩ := HSR.out
          have hB5 := hB.trans (hb5.mono hB.size)
          have hrow6 := own_keep hrow5 hb5
          clear hrow5 hb5 hrow
          go_wp2_with (at_builtin; refine wpList_append_own _ rfl (.tmp 34) (.tmp 37) 22 rfl w3.heap.size 9 i0 (.string ⟨#[]⟩) 1 16 Try.underlying22 hi0 hz0 hz1 hz2 rfl (by decide) _ _ _ rfl (hrow6.alloc _) ⟨w5.heap.size, 0, none⟩ 1 1 [.string (strB x)] rfl rfl (cell_one_new _ _ _) (by simp [Value.oneCell']) (by unfold maxLen; simp) (by simp) (by have := hB5.size; simp; omega) ?_)
          intro v2 w6 hown2 hgrow2 _
          have hb6 : Below w3.heap.size w3 w6 := (hB5.alloc hB5.size _).grown hgrow2 (by have := hB5.size; simp; omega) (fun q hq => (hrow6.lt q hq).1)
          obtain ⟨g', cap', rfl⟩ := ownsRow_succ hown2
          clear hgrow2 hrow6
          go_wp2
          go_roundw
          case rel =>
            refine ⟨k + 1, by go_num, by omega, ?_, ?_, hb6⟩
            · rw [hnext.out, hadd]; exact hown2
            · rw [hnext.out, hadd]; simp
          case measure => simp [intOf]; omega
        · -- others are there: the last one is asked
          obtain ⟨fo, fc, rfl, f1, f2, f4⟩ := ts_of_own hrow
          obtain ⟨fb, foff, rfl, hfb, hfc⟩ := f4 (by rintro rfl; simp at h0)
          have hlc := hfc (form.length - 1) (by omega)
          have hlast : form.getLast? = some (form[form.length - 1]'(by omega)) := by rw [List.getLast?_eq_getElem?, List.getElem?_eq_getElem (by omega)]
          have hwl := hwi wr (form[form.length - 1]'(by omega))
          have hadd : Pt.addC form x = if Pt.within (form[form.length - 1]'(by omega)) x then form else form ++ [x] := by unfold Pt.addC; rw [hlast]
          generalize form[form.length - 1]'(by omega) = f at *
          have e1 : ((form.length : Nat) : Int) - 1 = ((form.length - 1 : Nat) : Int) := by omega
          have hpos : (0 : Int) < (form.length : Int) := by omega
          cases hw : Pt.within f x with
          | true =>
            rw [hw] at hwl
            rw [hw, if_pos rfl] at hadd
            have HADD := hide hadd
            clear hB hwi hadd hrow hfc f4 hlast
            go_wp2_with fail
            refine hwl.mono ?_
            rintro e w5 ⟨rfl, hb5⟩
            have HB5 := hide hb5
            clear hb5
            go_wp2
            go_roundw
            case rel =>
              obtain ⟨hB, hrow⟩ := HSR.out
              refine ⟨k + 1, by go_num, by omega, ?_, ?_, hB.trans (HB5.out.mono hB.size)⟩
              · rw [hnext.out, HADD.out]; exact own_keep hrow HB5.out
              · rw [hnext.out, HADD.out]; exact h64
            case measure => simp [intOf]; omega
          | false =>
            rw [hw] at hwl
            rw [hw, if_neg (by simp)] at hadd
            have HADD := hide hadd
            by_cases hfull : form.length = 64
            · have hlong : ¬ (Pt.formC ys).length ≤ 64 := by
                have := hmore.out
                rw [hnext.out, hadd, List.length_append, List.length_singleton] at this
                omega
              have HLONG := hide hlong
              have hfi : (form.length : Int) = 64 := by omega
              have hlc64 : wr.cell? ⟨fb, foff + 63, none⟩ = some (.string (strB f)) := by rw [hfull] at hlc; exact hlc
              clear hB hwi hadd hrow hfc f4 hlast hlong
              go_wp2_with fail
              refine hwl.mono ?_
              rintro e w5 ⟨rfl, hb5⟩
              have HB5 := hide hb5
              clear hb5
              go_wp2
              go_ret2
              obtain ⟨hB, hrow⟩ := HSR.out
              have hB5 := hB.trans (HB5.out.mono hB.size)
              rw [ofM_many HP.out (by rw [← HE.out]; exact HLONG.out)]
              exact ⟨_, rfl, World.ownsRow_nil _ _ _ _, HS.out.1.trans (hB5.mono HS.out.1.size)⟩
            · have hfi : ¬ (form.length : Int) = 64 := by omega
              clear hB hwi hadd hrow hfc f4 hlast
              go_wp2_with fail
              refine hwl.mono ?_
              rintro e w4 ⟨rfl, hb4⟩
              have HB4 := hide hb4
              clear hb4
              go_wp2_with fail
              refine (hcl w4).mono ?_
              rintro e w5 ⟨rfl, hb5⟩
              obtain ⟨hB, hrow5⟩ := HSR.out
              have hB4 := hB.trans (HB4.out.mono hB.size)
              have hB5 := hB4.trans (hb5.mono hB4.size)
              have hrow6 := own_keep (own_keep hrow5 HB4.out) hb5
              clear hrow5 hb5
              go_wp2_with (at_builtin; refine wpList_append_own _ rfl (.tmp 34) (.tmp 37) 22 rfl w3.heap.size 9 i0 (.string ⟨#[]⟩) 1 16 Try.underlying22 hi0 hz0 hz1 hz2 rfl (by decide) _ _ _ rfl (hrow6.alloc _) ⟨w5.heap.size, 0, none⟩ 1 1 [.string (strB x)] rfl rfl (cell_one_new _ _ _) (by simp [Value.oneCell']) (by unfold maxLen; omega) (by omega) (by have := hB5.size; simp; omega) ?_)
              intro v2 w6 hown2 hgrow2 _
              have hb6 : Below w3.heap.size w3 w6 := (hB5.alloc hB5.size _).grown hgrow2 (by have := hB5.size; simp; omega) (fun q hq => (hrow6.lt q hq).1)
              obtain ⟨g', cap', rfl⟩ := ownsRow_succ hown2
              clear hgrow2 hrow6
              go_wp2
              go_roundw
              case rel =>
                refine ⟨k + 1, by go_num, by omega, ?_, ?_, hb6⟩
                · rw [hnext.out, HADD.out, List.length_append, List.length_singleton, ← tc_snoc]; exact hown2
                · rw [hnext.out, HADD.out, List.length_append, List.length_singleton]; omega
              case measure => simp [intOf]; omega
      · obtain rfl : k = ys.length := by omega
        rw [List.take_length] at hrow h64
        have H64 := hide h64
        obtain ⟨fo, fc, rfl⟩ := own_shape hrow
        have HSR := hide (⟨hB, hrow⟩ : _ ∧ _)
        clear hB hrow
        go_wp2
        go_ret2
        obtain ⟨hB, hrow⟩ := HSR.out
        rw [ofM_ok HP.out (by rw [← HE.out]; exact H64.out), ← HE.out]
        exact ⟨_, rfl, own_down hrow HS.out.1.size, HS.out.1.trans (hB.mono HS.out.1.size)⟩
end Go.Proofs.Ytkihldkaiddbkab
