/-
  What the document's own Show answers; ConeOf's walk. Conditions: the texts lie there; not too many; lengths within reach.
-/
import Derived.Test.YtkihldkaiddbkaaCShow
import Derived.Test.YtkihldkaiddbkaaCRef1
import Derived.Test.YtkihldkaiddbkaaCRef2
import Derived.Test.YtkihldkaiddbkaaCShown
namespace Go.Proofs.Ytkihldkaiddbkaa
open Go.RowKit

set_option maxRecDepth 20000 in
set_option maxHeartbeats 1000000 in
theorem rshow_any (w : World) (v : Value) (xs : List Bs) (h : Ts w v xs) (hn : xs.length ≤ 1000000) (hl : ∀ x ∈ xs, x.length ≤ 4611686018427387000) :
    Calls Try.prog 14 #[v] w fun e w' => e = .returned (.tuple #[.string (strB (showA xs).1), .int .i64 (showA xs).2]) ∧ Below w.heap.size w w' := by
  have hO := rof_any w v xs h hn hl
  obtain ⟨ao, cap, rfl, -, -, -⟩ := h
  have hpf := ofM_paths xs
  have hfl := ofM_len1 xs
  have hof0 : ¬ (Pt.ofM xs).2 = 0 → (Pt.ofM xs).1 = [] := fun h => by
    cases hp : xs.all Pt.path with
    | false => rw [ofM_none hp]
    | true =>
      by_cases h64 : (Pt.formM xs).length ≤ 64
      · rw [ofM_ok hp h64] at h; simp at h
      · rw [ofM_many hp h64]
  have HA := hide (And.intro (@showA_none xs) (And.intro (@showA_not xs) (@showA_ok xs)))
  generalize showA xs = A at *
  generalize Pt.ofM xs = R at *
  obtain ⟨f, ef⟩ := R
  simp only at hO hpf hfl HA hof0
  go_enter Try.func14, Try.ntmps14
  go_wp2_with fail
  refine hO.mono ?_
  rintro e w1 ⟨u, rfl, hu, hb1⟩
  obtain ⟨uo, uc, rfl⟩ := own_shape hu
  have HB1 := hide hb1
  by_cases hef : ef = 0
  · subst hef
    have HA2 := hide (And.intro (HA.out.2.1 rfl) (HA.out.2.2 rfl))
    have hu1 := ts_of_own hu
    have HU := hide hu1
    clear HA hO hu hb1 hu1 hof0
    go_wp2_with fail
    go_loopw [6, 7] (fun o t wr => Below w1.heap.size w1 wr ∧ ∃ k : Nat, t = .int .i64 (k : Int) ∧ k ≤ f.length ∧ o = .string (strB (showM (f.take k))) ∧ ∀ j (hj : j < f.length), j < k → Pt.saidM f[j] = true) (fun _ t _ => f.length - (intOf t).toNat)
    case atStart => exact ⟨Below.refl _ _, 0, rfl, by omega, rfl, fun j _ hj => absurd hj (by omega)⟩
    case round =>
      obtain ⟨hb, k, rfl, hk, rfl, hq⟩ := hrel
      have HB := hide hb
      by_cases hlt : k < f.length
      · obtain ⟨b, off, rfl, hbl, hc⟩ := Ts.at2 (HU.out.keep hb) k hlt
        have hpx := hpf f[k] (List.getElem_mem hlt)
        have hxl := path_length hpx
        have hsa := fun W => rsaid_any W f[k] (by omega)
        have hsl := showM_len (f.take k) (fun x hx => path_length (hpf x (List.mem_of_mem_take hx)))
        rw [List.length_take] at hsl
        have HST := hide (showM_take hlt)
        have HNS := hide (fun hs => not_said hlt hs)
        have HN := hide (fun h j hj hjk => (by
          by_cases e : j = k
          · subst e; exact h
          · exact hq j hj (by omega)) : Pt.saidM f[k] = true → ∀ j (hj : j < f.length), j < k + 1 → Pt.saidM f[j] = true)
        generalize f[k] = x at *
        generalize Pt.saidM x = sd at *
        generalize showM (f.take k) = acc at *
        have hza := strB_size acc
        have hzx := strB_size x
        clear hq hb
        cases sd with
        | false =>
          have HN2 := hide (HA2.out.1 (HNS.out rfl))
          clear HN HNS
          go_wp2_with fail
          refine (hsa wr).mono ?_
          rintro e w3 ⟨rfl, rfl⟩
          go_wp2
          all_goals (go_ret2; rw [HN2.out]; exact ⟨rfl, HB1.out.trans (HB.out.mono HB1.out.size)⟩)
        | true =>
          have HN3 := hide (HN.out rfl)
          clear HN HNS
          by_cases h0 : x = []
          · have hln : lineM x ++ [10] = [42, 10] := by subst h0; rfl
            rw [hln] at HST
            subst h0
            have tx := toL []
            have hcat : strB acc ++ ⟨#[42, 10]⟩ = strB (acc ++ [42, 10]) := cat_strB acc [42, 10]
            go_wp2_with fail
            refine (hsa wr).mono ?_
            rintro e w3 ⟨rfl, rfl⟩
            go_wp2
            go_roundw
            case rel => exact ⟨HB.out, k + 1, by go_num, by omega, by rw [HST.out], HN3.out⟩
            case measure => simp [intOf]; omega
          · have b0 : (x == []) = false := by simp [h0]
            have hln : lineM x ++ [10] = x ++ [10] := by unfold lineM; rw [if_neg h0]
            rw [hln] at HST
            have tx := toL x
            have hcat : strB acc ++ strB x = strB (acc ++ x) := cat_strB acc x
            have hcat2 : strB (acc ++ x) ++ ⟨#[10]⟩ = strB ((acc ++ x) ++ [10]) := cat_strB (acc ++ x) [10]
            have hz2 := strB_size (acc ++ x)
            have hz3 : (acc ++ x).length = acc.length + x.length := List.length_append
            go_wp2_with fail
            refine (hsa wr).mono ?_
            rintro e w3 ⟨rfl, rfl⟩
            go_wp2
            go_roundw
            case rel => exact ⟨HB.out, k + 1, by go_num, by omega, by rw [HST.out], HN3.out⟩
            case measure => simp [intOf]; omega
      · obtain rfl : k = f.length := by omega
        rw [List.take_length]
        have HAL := hide (HA2.out.2 (all_said (fun j hj => hq j hj hj)))
        clear hq hb
        generalize showM f = acc at *
        go_wp2
        all_goals (go_ret2; rw [HAL.out]; exact ⟨rfl, HB1.out.trans (HB.out.mono HB1.out.size)⟩)
  · obtain rfl := hof0 hef
    have HA2 := hide (HA.out.1 hef)
    have hfe : (ef == 0) = false := by simpa using hef
    clear HA hO hu hof0
    go_wp2_with fail
    go_loopw [6, 7] (fun o t wr => wr = w1 ∧ t = .int .i64 0 ∧ o = .string (strB [])) (fun _ _ _ => 0)
    case atStart => exact ⟨rfl, rfl, rfl⟩
    case round =>
      obtain ⟨rfl, rfl, rfl⟩ := hrel
      go_wp2
      all_goals (go_ret2; rw [HA2.out]; exact ⟨rfl, HB1.out⟩)

set_option maxRecDepth 20000 in
set_option maxHeartbeats 1600000 in
theorem lof_any (w : World) (v : Value) (xs : List Bs) (h : Ts w v xs) (hx : xs.length ≤ 4611686018427387904) (hl : ∀ x ∈ xs, x.length ≤ 4611686018427387000) :
    Calls Try.prog 3 #[v] w fun e w' => e = .returned (.bool true) ∧ Below w.heap.size w w' := by
  have hT := fun W (hW : Below w.heap.size w W) => h.keep hW
  have hy := few_le xs
  have hl' := mem_few hl
  have hF := fun W (hW : Below w.heap.size w W) => lfew_any W _ xs (hT W hW) hx
  obtain ⟨ao, cap, rfl, -, -, -⟩ := h
  clear hT hl
  generalize xs.take 200 = ys at *
  go_enter Try.func3, Try.ntmps3
  go_wp2_with fail
  refine (shown_any w).mono ?_
  rintro e w1 ⟨rfl, hb1⟩
  go_wp2_with fail
  refine (hF w1 hb1).mono ?_
  rintro e w1 ⟨u, rfl, hu, rfl⟩
  have c1 := of_any w1 u ys hu (by omega) hl'
  have c2 := fun W (hW : Below w1.heap.size w1 W) => rof_any W u ys (hu.keep hW) (by omega) hl'
  have c3 := fun W (hW : Below w1.heap.size w1 W) => show_any W u ys (hu.keep hW) (by omega) hl'
  have c4 := fun W (hW : Below w1.heap.size w1 W) => rshow_any W u ys (hu.keep hW) (by omega) hl'
  have hfl := ofM_len1 ys
  obtain ⟨uo, uc, rfl, -, -, -⟩ := hu
  generalize Pt.ofM ys = R at *
  generalize showA ys = S at *
  obtain ⟨f, ef⟩ := R
  obtain ⟨t, et⟩ := S
  simp only at c1 c2 c3 c4 hfl
  have htt := toL t
  clear hF
  go_wp2_with fail
  refine c1.mono ?_
  rintro e w2 ⟨A, rfl, hA, hb2⟩
  obtain ⟨Ao, Ac, rfl⟩ := own_shape hA
  go_wp2_with fail
  refine (c2 w2 hb2).mono ?_
  rintro e w3 ⟨B, rfl, hB, hb3⟩
  obtain ⟨Bo, Bc, rfl⟩ := own_shape hB
  have hb3' := hb2.trans (hb3.mono hb2.size)
  have hA3 := own_keep hA hb3
  go_wp2_with fail
  refine (c3 w3 hb3').mono ?_
  rintro e w4 ⟨rfl, hb4⟩
  have hb4' := hb3'.trans (hb4.mono hb3'.size)
  go_wp2_with fail
  refine (c4 w4 hb4').mono ?_
  rintro e w5 ⟨rfl, hb5⟩
  have hb5' := hb4'.trans (hb5.mono hb4'.size)
  have hs := same_any w5 _ _ f f (ts_of_own (own_keep (own_keep hA3 hb4) hb5)) (ts_of_own (own_keep (own_keep hB hb4) hb5)) (by omega) (by omega)
  rw [decide_eq_true rfl] at hs
  have HS := hide hs
  have HB := hide (hb1.trans (hb5'.mono hb1.size))
  clear hs hb1 hb2 hb3 hb4 hb5 hb3' hb4' hb5' hA hB hA3 c1 c2 c3 c4
  go_wp2_with fail
  refine (HS.out).mono ?_
  rintro e w6 ⟨rfl, hb6⟩
  have HB6 := hide (HB.out.trans (hb6.mono HB.out.size))
  clear hb6
  go_wp2
  go_ret
  exact ⟨rfl, HB6.out⟩
end Go.Proofs.Ytkihldkaiddbkaa
