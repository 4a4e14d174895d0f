/-
  What cone.Show answers. Conditions: the texts lie there; not too many; lengths within reach.
-/
import Derived.Test.YtkihldkaiddbkaaCBuild
import Derived.Test.YtkihldkaiddbkaaRefJoin
namespace Go.Proofs.Ytkihldkaiddbkaa
open Go.RowKit

/-- A cone as text. -/
def showM (f : List Bs) : Bs := (f.map fun d => lineM d ++ [10]).flatten
theorem showM_take {f : List Bs} {k : Nat} (h : k < f.length) : showM (f.take (k + 1)) = showM (f.take k) ++ (lineM f[k] ++ [10]) := by
  unfold showM
  rw [take_snoc h, List.map_append, List.flatten_append]
  congr 1
  simp
theorem lineM_len (d : Bs) (h : d.length ≤ 1040) : (lineM d).length ≤ 1041 := by
  unfold lineM
  split
  · simp
  · omega
theorem showM_len : ∀ (f : List Bs), (∀ x ∈ f, x.length ≤ 1040) → (showM f).length ≤ f.length * 1042
  | [], _ => by simp [showM]
  | d :: r, h => by
    have h1 := showM_len r (fun x hx => h x (List.mem_cons_of_mem _ hx))
    have h2 := lineM_len d (h d (by simp))
    have : showM (d :: r) = (lineM d ++ [10]) ++ showM r := by simp [showM]
    rw [this]
    simp only [List.length_append, List.length_cons, List.length_nil]
    omega
/-- What Show answers. -/
def showA (xs : List Bs) : Bs × Int :=
  if (Pt.ofM xs).2 = 0 then (if (Pt.ofM xs).1.all Pt.saidM then (showM (Pt.ofM xs).1, 0) else ([], 180)) else ([], (Pt.ofM xs).2)
theorem showA_none {xs : List Bs} (h : ¬ (Pt.ofM xs).2 = 0) : showA xs = ([], (Pt.ofM xs).2) := by unfold showA; rw [if_neg h]
theorem showA_not {xs : List Bs} (h : (Pt.ofM xs).2 = 0) (k : (Pt.ofM xs).1.all Pt.saidM = false) : showA xs = ([], 180) := by unfold showA; rw [if_pos h, k]; rfl
theorem showA_ok {xs : List Bs} (h : (Pt.ofM xs).2 = 0) (k : (Pt.ofM xs).1.all Pt.saidM = true) : showA xs = (showM (Pt.ofM xs).1, 0) := by unfold showA; rw [if_pos h, k]; rfl
theorem ofM_len1 (xs : List Bs) : (Pt.ofM xs).1.length ≤ 64 := by
  unfold Pt.ofM
  split
  · split
    · assumption
    · simp
  · simp
theorem ofM_paths (xs : List Bs) : ∀ x ∈ (Pt.ofM xs).1, Pt.path x = true := by
  unfold Pt.ofM
  split
  · next hp =>
    split
    · intro x hx
      exact List.all_eq_true.1 hp x (Pt.mem_formM.1 hx).1
    · simp
  · simp
theorem not_said {f : List Bs} {k : Nat} (h : k < f.length) (hs : Pt.saidM f[k] = false) : f.all Pt.saidM = false := by
  rw [Bool.eq_false_iff]
  intro ha
  rw [List.all_eq_true.1 ha f[k] (List.getElem_mem h)] at hs
  cases hs
theorem all_said {f : List Bs} (h : ∀ j (hj : j < f.length), Pt.saidM f[j] = true) : f.all Pt.saidM = true := List.all_eq_true.2 fun x hx => by
  obtain ⟨j, hj, rfl⟩ := List.getElem_of_mem hx
  exact h j hj

set_option maxRecDepth 20000 in
set_option maxHeartbeats 1000000 in
theorem show_any (w : World) (v : Value) (xs : List Bs) (h : Ts w v xs) (hn : xs.length ≤ 1000000) (hl : ∀ x ∈ xs, x.length ≤ 4611686018427387000) :
    Calls Try.prog 13 #[v] w fun e w' => e = .returned (.tuple #[.string (strB (showA xs).1), .int .i64 (showA xs).2]) ∧ Below w.heap.size w w' := by
  have hO := of_any w v xs h hn hl
  obtain ⟨ao, cap, rfl, -, -, -⟩ := h
  have hpf := ofM_paths xs
  have hfl := ofM_len1 xs
  have HA := hide (And.intro (@showA_none xs) (And.intro (@showA_not xs) (@showA_ok xs)))
  generalize showA xs = A at *
  generalize Pt.ofM xs = R at *
  obtain ⟨f, ef⟩ := R
  simp only at hO hpf hfl HA
  go_enter Try.func13, Try.ntmps13
  go_wp2_with fail
  refine hO.mono ?_
  rintro e w1 ⟨u, rfl, hu, hb1⟩
  obtain ⟨uo, uc, rfl⟩ := own_shape hu
  by_cases hef : ef = 0
  · subst hef
    have HA2 := hide (And.intro (HA.out.2.1 rfl) (HA.out.2.2 rfl))
    clear HA hO
    have hu1 := ts_of_own hu
    have HU := hide hu1
    have HB1 := hide hb1
    clear hu hb1 hu1
    obtain ⟨w2, hw2⟩ : ∃ w2, w1.alloc (.cells #[.pointer none, .slice none 0 0] 53) = w2 := ⟨_, rfl⟩
    have hb2 : Below w1.heap.size w1 w2 := by rw [← hw2]; exact (Below.refl _ w1).alloc (Nat.le_refl _) _
    have hbld : Lib.IsBuilder 53 5 w1.heap.size w1.heap.size (bc []) w2 := by
      rw [← hw2]
      exact .inl ⟨Nat.le_refl _, .slice none 0 0, heap_last w1 _, World.ownsRow_nil _ _ _ _, by simp [Value.ownBlock]⟩
    go_wp2_with fail
    go_loopw [21] (fun t wr => Below w1.heap.size w1 wr ∧ ∃ k : Nat, t = .int .i64 (k : Int) ∧ k ≤ f.length ∧ Lib.IsBuilder 53 5 w1.heap.size w1.heap.size (bc (showM (f.take k))) wr ∧ ∀ j (hj : j < f.length), j < k → Pt.saidM f[j] = true) (fun t _ => f.length - (intOf t).toNat)
    case atStart => exact ⟨hb2, 0, rfl, by omega, hbld, fun j _ hj => absurd hj (by omega)⟩
    case round =>
      obtain ⟨hb, k, rfl, hk, hB, hq⟩ := hrel
      have HB := hide hb
      have HQ := hide hq
      by_cases hlt : k < f.length
      · obtain ⟨b, off, rfl, hbl, hc⟩ := Ts.at2 (HU.out.keep hb) k hlt
        have hpx := hpf f[k] (List.getElem_mem hlt)
        have hli := fun W => lineOf_any W f[k] hpx
        have hxl := path_length hpx
        have hll := lineM_len f[k] hxl
        have hsl := showM_len (f.take k) (fun x hx => path_length (hpf x (List.mem_of_mem_take hx)))
        rw [List.length_take] at hsl
        have HST := hide (showM_take hlt)
        have HNS := hide (fun hs => not_said hlt hs)
        have HN := hide (fun h j hj hjk => (by
          by_cases e : j = k
          · subst e; exact h
          · exact hq j hj (by omega)) : Pt.saidM f[k] = true → ∀ j (hj : j < f.length), j < k + 1 → Pt.saidM f[j] = true)
        generalize f[k] = x at *
        generalize Pt.saidM x = sd at *
        generalize showM (f.take k) = acc at *
        generalize lineM x = ln at *
        have hlz := strB_size ln
        have hcat : strB ln ++ ⟨#[10]⟩ = strB (ln ++ [10]) := cat_strB ln [10]
        have HBB := hide hB
        clear hB hq hb
        cases sd with
        | false =>
          have HN2 := hide (HA2.out.1 (HNS.out rfl))
          clear HN HNS
          go_wp2_with fail
          refine (hli wr).mono ?_
          rintro e w3 ⟨rfl, hb3⟩
          have HB3 := hide (HB1.out.trans ((HB.out.trans (hb3.mono HB.out.size)).mono HB1.out.size))
          clear hb3
          go_wp2
          go_ret2
          rw [HN2.out]
          exact ⟨rfl, HB3.out⟩
        | true =>
          have HN3 := hide (HN.out rfl)
          clear HN HNS
          go_wp2_with fail
          refine (hli wr).mono ?_
          rintro e w3 ⟨rfl, hb3⟩
          have hb3' := HB.out.trans (hb3.mono HB.out.size)
          have hB3 := builder_keep HBB.out hb3
          have hwr := write_any w1.heap.size w1.heap.size acc (ln ++ [10]) w3 hB3 (by simp; omega) hb3'.size
          have HW := hide hwr
          have HB3 := hide hb3'
          clear hwr hB3 hb3 hb3'
          go_wp2_with fail
          refine (HW.out).mono ?_
          rintro e w4 ⟨⟨r, rfl⟩, hB4, hb4⟩
          have HB4 := hide (And.intro hB4 (HB3.out.trans hb4))
          clear hB4 hb4
          go_wp2
          go_roundw
          case rel => exact ⟨HB4.out.2, k + 1, by go_num, by omega, by rw [HST.out]; exact HB4.out.1, HN3.out⟩
          case measure => simp [intOf]; omega
      · obtain rfl : k = f.length := by omega
        rw [List.take_length] at hB
        have HAL := hide (HA2.out.2 (all_said (fun j hj => hq j hj hj)))
        have hstr := string_any w1.heap.size w1.heap.size (showM f) wr hB hb.size
        have HS := hide hstr
        clear hB hq hb hstr
        generalize showM f = acc at *
        go_wp2_with fail
        refine (HS.out).mono ?_
        rintro e w3 ⟨rfl, hb3⟩
        have HB3 := hide (HB1.out.trans ((HB.out.trans hb3).mono HB1.out.size))
        clear hb3
        go_wp2
        go_ret2
        rw [HAL.out]
        exact ⟨rfl, HB3.out⟩
  · have HA2 := hide (HA.out.1 hef)
    have HB1 := hide hb1
    have hfe : (ef == 0) = false := by simpa using hef
    clear HA hO hu hb1
    go_wp2
    go_ret2
    rw [HA2.out]
    exact ⟨rfl, HB1.out⟩
end Go.Proofs.Ytkihldkaiddbkaa
