/-
  slices.SortFunc of pairs by their keys. Conditions: the pairs lie there; not too many.
-/
import Derived.Test.YtimbleaafoiidaaGreatDoorE46PShown
import Derived.Test.YtimbleaafoiidaaGreatDoorE47SortF
import Derived.Shelf.SlSortCmp.NoneTotal
import Derived.Sort.OwnSorted
namespace Go.Proofs.YtimbleaafoiidaaGreatDoor
open Go.RowKit Go.Sort Go.Shelf

/-- How two pairs stand. -/
def cfP (x y : Pair) : Int := if ltB x.1 y.1 then -1 else if ltB y.1 x.1 then 1 else 0
theorem cfP_lt (x y : Pair) : ltOf cfP x y = ltB x.1 y.1 := by
  unfold ltOf cfP
  cases h1 : ltB x.1 y.1 with
  | true => rfl
  | false => cases h2 : ltB y.1 x.1 <;> rfl
theorem cfP_swo : SWO (ltOf cfP) where
  irrefl x := by rw [cfP_lt]; exact ltB_irrefl _
  trans x y z h1 h2 := by rw [cfP_lt] at *; exact ltB_trans _ _ _ h1 h2
  ntrans x y z h1 h2 := by
    rw [cfP_lt] at *
    cases h : ltB x.1 z.1 with
    | false => rfl
    | true =>
      cases h3 : ltB y.1 x.1 with
      | true => rw [ltB_trans _ _ _ h3 h] at h2; cases h2
      | false => rw [ltB_total _ _ h1 h3, h2] at h; cases h
theorem nan_any (w : World) (a : Bs) : Calls Tryz.prog 93 #[.string (strB a)] w fun e w' => e = .returned (.bool false) ∧ w' = w := by
  have h : ((strB a).data.toList == (strB a).data.toList) = true := by simp
  go_enter Tryz.func93, Tryz.ntmps93
  go_wp2
  go_ret
  exact ⟨by simp, rfl⟩
theorem gtr_ltB (a b : Bs) : (!ltB a b && !(a == b)) = ltB b a := by
  cases h1 : ltB a b with
  | true =>
    cases h2 : ltB b a with
    | false => rfl
    | true =>
      have := ltB_trans _ _ _ h1 h2
      rw [ltB_irrefl] at this
      cases this
  | false =>
    cases h2 : ltB b a with
    | false => rw [ltB_total _ _ h1 h2]; simp
    | true =>
      have : a ≠ b := fun e => by rw [e, ltB_irrefl] at h2; cases h2
      simpa using this
theorem gtr_str (t : TypeId) (a b : Bs) : binOp .gtr t (.string (strB a)) (.string (strB b)) = pure (.bool (ltB b a)) := by
  rw [← gtr_ltB]
  simp [binOp, Op.stringOp, toLr, ltB]
theorem lss_strS (t : TypeId) (a b : Bs) : binOp .lss t (.string (strB a)) (.string (strB b)) = pure (.bool (ltB a b)) := by simp [binOp, Op.stringOp, toLr, ltB]
/-- How two texts stand. -/
def cfB (a b : Bs) : Int := if ltB a b then -1 else if ltB b a then 1 else 0
theorem compare_any (w : World) (a b : Bs) : Calls Tryz.prog 66 #[.string (strB a), .string (strB b)] w fun e w' => e = .returned (.int .i64 (cfB a b)) ∧ w' = w := by
  have hn := fun w a => nan_any w a
  have hls := lss_strS 9 a b
  have hgt := gtr_str 9 a b
  unfold cfB
  generalize ltB a b = p at *
  generalize ltB b a = q at *
  go_enter Tryz.func66, Tryz.ntmps66
  go_wp2_with fail
  refine (hn _ _).mono ?_
  rintro e w1 ⟨rfl, rfl⟩
  go_wp2_with fail
  refine (hn _ _).mono ?_
  rintro e w2 ⟨rfl, rfl⟩
  cases p
  · cases q
    · go_wp2
      go_ret
      exact ⟨rfl, rfl⟩
    · go_wp2
      go_ret
      exact ⟨rfl, rfl⟩
  · go_wp2
    go_ret
    exact ⟨rfl, rfl⟩
theorem closure_any (x y : Pair) (W : World) : Calls Tryz.prog 65 #[.agg #[.string (strB x.1), .string (strB x.2)], .agg #[.string (strB y.1), .string (strB y.2)]] W fun e w' => e = .returned (.int .i64 (cfP x y)) ∧ ∃ q os', w' = grow (W.drewN q) os' := by
  have hcon := fun W' => compare_any W' x.1 y.1
  rw [show cfP x y = cfB x.1 y.1 from rfl]
  generalize cfB x.1 y.1 = r at hcon ⊢
  go_enter Tryz.func65, Tryz.ntmps65
  go_wp2_with fail
  refine (hcon _).mono ?_
  rintro e w' ⟨rfl, rfl⟩
  go_wp2
  go_ret
  exact ⟨rfl, 0, _, by rw [alloc_eq_grow, alloc_eq_grow, grow_grow]; rfl⟩
theorem flatK_get (d : Array Pair) (j : Nat) (h : j < d.size * 2) : (d.toList.flatMap pairC)[j]? = some (flatK pairC 2 d)[j]! := by
  rw [get_flatK _ _ _ _ h, flat_at d.toList j (by simpa using h)]
  have h1 : j / 2 < d.size := by omega
  rw [getElem!_pos d (j / 2) h1]
  have h2 : j % 2 = 0 ∨ j % 2 = 1 := by omega
  rcases h2 with h2 | h2 <;> rw [h2] <;> simp [pairC]
theorem flat_len (l : List Pair) : (l.flatMap pairC).length = l.length * 2 := by
  induction l with
  | nil => rfl
  | cons a r ih => rw [List.flatMap_cons, List.length_append, ih, List.length_cons]; simp [pairC]; omega
/-- Sorted by their keys, however they lay. -/
theorem sortFunc_any (w : World) (B : Nat) (v : Value) (out : List Pair) (hv : Rw B w 60 2 pairC v out) (hn : out.length ≤ 1000000) :
    Calls Tryz.prog 91 #[v, .func (.func 65) #[] #[]] w fun e w' => e = .returned (.tuple #[]) ∧ ∃ ss, ss.Perm out ∧ ss.Pairwise (fun x y => ltB y.1 x.1 = false) ∧ Rw B w' 60 2 pairC v ss ∧ w.grownBy w' v.ownBlock := by
  have hvf := hv
  obtain ⟨hlen, ⟨rfl, h0⟩ | ⟨g, cap, cur, rfl, hg, hh, hc, hm, hs, ht⟩⟩ := hvf
  · obtain rfl : out = [] := List.eq_nil_of_length_eq_zero h0
    have := AnyF.slices_SortFunc_none (P := Tryz.prog) (ρ := Tryz.sortF_ren) { Tryz.sortF with } none 0 (.func (.func 65) #[] #[]) w
    refine Calls.mono this ?_
    rintro e w' ⟨rfl, rfl⟩
    exact ⟨rfl, [], List.Perm.refl _, List.Pairwise.nil, hv, World.grownBy.refl _ _⟩
  · have hH : HoldsK pairC 2 w g 0 out.toArray := by
      intro j hj
      have hj' : j < out.toArray.size * 2 := by simpa using hj
      refine ⟨?_, by simp [World.frozen?, hh]⟩
      have h1 := flatK_get out.toArray j hj'
      have h2 := World.ownsRow.cells hv (g := g) rfl j _ h1
      rw [Addr.add_lit] at h2
      simpa using h2
    have hcon := AnyQ.slices_SortFunc (P := Tryz.prog) (ρ := Tryz.sortF_ren) Tryz.sortF 2 Tryz.isAgg60 Tryz.sizeOf60 pairC (fun _ => rfl) (fun x v hv => by simp [pairC] at hv; rcases hv with rfl | rfl <;> rfl) cfP cfP_swo 65 #[] g 0 cap out.toArray w (enters_own Tryz.func65 (by kernel_rfl) rfl) (fun _ _ _ _ x y => closure_any x y _) hH (lt_of_heap hh) (by simp; omega)
    have hsz : out.toArray.size = out.length := by simp
    rw [hsz] at hcon
    refine Calls.mono hcon ?_
    rintro e w' ⟨rfl, d', n, os, hp, hso, rfl⟩
    have hd : d'.size = out.length := hp.1.trans hsz
    refine ⟨rfl, d'.toList, ?_, ?_, ?_, ?_⟩
    · have h1 := hp.2.2
      rw [← hd, Array.extract_size] at h1
      rw [hd] at h1
      rw [show out.toArray.extract 0 out.length = out.toArray by rw [← hsz]; exact Array.extract_size] at h1
      simpa using h1
    · rw [List.pairwise_iff_getElem]
      intro i j hi hj hij
      have h1 := hso i j (Nat.zero_le _) hij (by simpa [hd] using hj)
      rw [cfP_lt] at h1
      rw [getElem!_pos d' i (by simpa using hi), getElem!_pos d' j (by simpa using hj)] at h1
      simpa using h1
    · have hb : (sortWorldK pairC 2 w g 0 n d' os).heap[g]? = some (.cells (putCells id 0 (flatK pairC 2 d') cur) 60 (0, 0)) := by
        have hgl := lt_of_heap hh
        unfold sortWorldK putRowK
        rw [heap_grow_old _ _ (by simpa [putRow, mapBlock, Sort.ahead] using hgl)]
        simp [putRow, mapBlock, Sort.ahead, Array.getElem?_modify, hh, onCells]
      refine ⟨by rw [flat_len], .inr ⟨g, cap, _, by simp [hd], hg, hb, by rw [Array.length_toList, hd]; exact hc, hm, by simp [putCells, hs], ?_⟩⟩
      refine List.ext_getElem? fun j => ?_
      by_cases h : j < d'.size * 2
      · have hcz : j < cur.size := by rw [hs]; have : d'.size * 2 ≤ cap * 2 := Nat.mul_le_mul_right 2 (by omega); omega
        rw [flatK_get d' j h, List.getElem?_take_of_lt (by simpa using h), Array.getElem?_toList]
        simp [putCells, hcz, h]
      · rw [List.getElem?_take_eq_none (by simp; omega), List.getElem?_eq_none (by rw [flat_len]; simp; omega)]
    · refine ⟨rfl, rfl, rfl, by simp [sortWorldK, putRowK, putRow, mapBlock, Sort.ahead, grow], fun k hk hne => ?_⟩
      unfold sortWorldK putRowK
      rw [heap_grow_old _ _ (by simpa [putRow, mapBlock, Sort.ahead] using hk)]
      have : g ≠ k := fun e => hne (by rw [e]; rfl)
      simp [putRow, mapBlock, Sort.ahead, Array.getElem?_modify, this]
end Go.Proofs.YtimbleaafoiidaaGreatDoor
