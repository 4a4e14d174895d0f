/-
  slices.SortedFunc of a slice's texts by path.Compare. Conditions: the texts lie there; not too many; lengths within reach.
-/
import Derived.Test.YtkihldkaiddbkabCBase
import Derived.Test.YtkihldkaiddbkabCollect
import Derived.Test.YtkihldkaiddbkabPath
import Derived.Test.YtkihldkaiddbkabReads
import Derived.Test.YtkihldkaiddbkabSortF
import Derived.Shelf.SlSortCmp.NoneTotal
namespace Go.Proofs.Ytkihldkaiddbkab
open Go.RowKit Go.Sort Go.Shelf

/-- Texts within reach. -/
abbrev Short := {l : Bs // l.length ≤ 4611686018427387904}
def encS (x : Short) : Value := .string (strB x.1)
def cfS (x y : Short) : Int := Pt.order x.1 y.1
theorem cfS_swo : SWO (ltOf cfS) where
  irrefl x := by unfold ltOf cfS; rw [Pt.order_self]; rfl
  trans x y z h1 h2 := by
    unfold ltOf cfS at *
    rw [decide_eq_true_eq] at *
    exact Pt.order_lt_le h1 (Int.le_of_lt h2)
  ntrans x y z h1 h2 := by
    unfold ltOf cfS at *
    rw [decide_eq_false_iff_not] at *
    intro h3
    have e1 := Pt.order_neg x.1 y.1
    have e2 := Pt.order_neg y.1 z.1
    have e3 := Pt.order_neg x.1 z.1
    have := Pt.order_trans (a := z.1) (b := y.1) (c := x.1) (by omega) (by omega)
    omega
theorem encS_one : OneCell encS := fun _ => rfl
theorem enter_compare : ∀ args w, (callFunc 13 args).run Try.prog w = .ok (.enter 13 args) w := enters_own Try.func13 (by kernel_rfl) rfl
/-- Texts, each with its bound. -/
def shorts (xs : List Bs) (h : ∀ x ∈ xs, x.length ≤ 4611686018427387904) : List Short := xs.attach.map fun x => ⟨x.1, h x.1 x.2⟩
theorem shorts_val (xs : List Bs) (h : ∀ x ∈ xs, x.length ≤ 4611686018427387904) : (shorts xs h).map (·.1) = xs := by
  unfold shorts
  rw [List.map_map]
  show xs.attach.map (fun x => x.1) = xs
  exact List.attach_map_subtype_val xs
theorem shorts_len (xs : List Bs) (h : ∀ x ∈ xs, x.length ≤ 4611686018427387904) : (shorts xs h).length = xs.length := by simp [shorts]
/-- A row of texts, sorted in place. -/
theorem sortFunc_any (w : World) (B : Nat) (v : Value) (xs : List Bs) (hv : w.ownsRow B 9 1 v xs.length (tc xs)) (hn : xs.length ≤ 1000000) (hl : ∀ x ∈ xs, x.length ≤ 4611686018427387904) :
    Calls Try.prog 20 #[v, .func (.func 13) #[] #[]] w fun e w' => e = .returned (.tuple #[]) ∧ ∃ ys, ys.Perm xs ∧ Pt.SortedC ys ∧ w'.ownsRow B 9 1 v ys.length (tc ys) ∧ w.grownBy w' v.ownBlock := by
  haveI : Inhabited Short := ⟨⟨[], by simp⟩⟩
  have hvf := hv
  obtain ⟨hlen, ⟨rfl, h0⟩ | ⟨g, cap, cur, rfl, hg, hh, hc, hm, hs, ht⟩⟩ := hvf
  · obtain rfl : xs = [] := List.eq_nil_of_length_eq_zero h0
    have := AnyF.slices_SortFunc_none (P := Try.prog) (ρ := Try.sortF_ren) { Try.sortF with } none 0 (.func (.func 13) #[] #[]) w
    refine Calls.mono this ?_
    rintro e w' ⟨rfl, rfl⟩
    exact ⟨rfl, [], List.Perm.refl _, List.Pairwise.nil, hv, World.grownBy.refl _ _⟩
  · have hsl := shorts_len xs hl
    have hsv := shorts_val xs hl
    generalize shorts xs hl = ss at hsl hsv
    have hH : Holds encS w g 0 ss.toArray := by
      intro j hj
      have hj' : j < ss.length := by simpa using hj
      have hjx : j < xs.length := by omega
      refine ⟨?_, by simp [World.frozen?, hh]⟩
      have h2 := World.ownsRow.cells hv (g := g) rfl j _ (tc_get xs j hjx)
      rw [Addr.add_lit] at h2
      rw [h2]
      congr 1
      have : xs[j] = ss[j].1 := by
        subst hsv
        simp
      rw [this, getElem!_pos ss.toArray j (by simpa using hj')]
      rfl
    have hcon := Any.slices_SortFunc (P := Try.prog) (ρ := Try.sortF_ren) Try.sortF encS encS_one cfS cfS_swo 13 #[] g 0 cap ss.toArray w enter_compare
      (fun m os dk _ x y => (compare_drew _ x.1 y.1 x.2 y.2).mono (by
        rintro e w' ⟨rfl, q, rfl⟩
        exact ⟨rfl, q, #[], by rw [grow_empty]⟩)) hH (lt_of_heap hh) (by simp; omega)
    have hsz : ss.toArray.size = xs.length := by simp [hsl]
    rw [hsz] at hcon
    refine Calls.mono hcon ?_
    rintro e w' ⟨rfl, d', n, os, hp, hso, rfl⟩
    have hd : d'.size = xs.length := hp.1.trans hsz
    have hperm : d'.toList.Perm ss := by
      have h1 := hp.2.2
      rw [← hd, Array.extract_size] at h1
      rw [hd] at h1
      rw [show ss.toArray.extract 0 xs.length = ss.toArray by rw [← hsz]; exact Array.extract_size] at h1
      simpa using h1
    have hys : (d'.toList.map (·.1)).length = xs.length := by simp [hd]
    refine ⟨rfl, d'.toList.map (·.1), ?_, ?_, ?_, ?_⟩
    · have := hperm.map (·.1)
      rw [hsv] at this
      exact this
    · unfold Pt.SortedC
      rw [List.pairwise_map, List.pairwise_iff_getElem]
      intro i j hi hj hij
      have h1 := hso i j (Nat.zero_le _) hij (by simpa [hd] using hj)
      unfold ltOf cfS at h1
      rw [getElem!_pos d' i (by simpa using hi), getElem!_pos d' j (by simpa using hj), decide_eq_false_iff_not] at h1
      have := Pt.order_neg (d'[i]'(by simpa using hi)).1 (d'[j]'(by simpa using hj)).1
      simp only [Array.getElem_toList]
      omega
    · rw [hys]
      have hb : (sortWorld encS w g 0 n d' os).heap[g]? = some (.cells (putCells encS 0 d' cur) 9 (0, 0)) := by
        have hgl := lt_of_heap hh
        unfold sortWorld
        rw [heap_grow_old _ _ (by simpa [putRow, mapBlock, Sort.ahead] using hgl)]
        simp [putRow, mapBlock, Sort.ahead, Array.getElem?_modify, hh, onCells]
      refine ⟨by rw [tc_length, hys, Nat.mul_one], .inr ⟨g, cap, _, rfl, hg, hb, hc, hm, by simp [putCells, hs], ?_⟩⟩
      refine List.ext_getElem? fun j => ?_
      by_cases h : j < d'.size
      · have hcz : j < cur.size := by rw [hs]; omega
        rw [tc_get _ j (by simpa using h), List.getElem?_take_of_lt (by omega), Array.getElem?_toList]
        simp [putCells, hcz, h, encS]
      · rw [List.getElem?_take_eq_none (by omega), List.getElem?_eq_none (by rw [tc_length, hys]; omega)]
    · refine ⟨rfl, rfl, rfl, by simp [sortWorld, putRow, mapBlock, Sort.ahead, grow], fun k hk hne => ?_⟩
      unfold sortWorld
      rw [heap_grow_old _ _ (by simpa [putRow, mapBlock, Sort.ahead] using hk)]
      have : g ≠ k := fun e => hne (by rw [e]; rfl)
      simp [putRow, mapBlock, Sort.ahead, Array.getElem?_modify, this]
theorem own_shape {w : World} {base size n : Nat} {e : TypeId} {v : Value} {xs : List Value} (h : w.ownsRow base e size v n xs) : ∃ a c, v = .slice a n c := by
  rcases h.2 with ⟨rfl, rfl⟩ | ⟨q, cap, cur, rfl, _⟩
  · exact ⟨_, _, rfl⟩
  · exact ⟨_, _, rfl⟩
set_option maxRecDepth 20000 in
/-- slices.SortedFunc(slices.Values(dirs), path.Compare). -/
theorem sortedFunc_any (w : World) (B : Nat) (v : Value) (xs : List Bs) (hB : B < w.heap.size) (hv : w.cell? ⟨B, 0, none⟩ = some v) (h : Ts w v xs) (hn : xs.length ≤ 1000000) (hl : ∀ x ∈ xs, x.length ≤ 4611686018427387904) :
    Calls Try.prog 11 #[.func (.func 21) #[] #[.pointer (some ⟨B, 0, none⟩)], .func (.func 13) #[] #[]] w fun e w' => ∃ v' ys, e = .returned v' ∧ ys.Perm xs ∧ Pt.SortedC ys ∧ w'.ownsRow w.heap.size 9 1 v' ys.length (tc ys) ∧ Below w.heap.size w w' := by
  have hc := collect_any w _ #[] #[.pointer (some ⟨B, 0, none⟩)] enter37 xs hn (values_gives w B v xs hB hv h (by omega))
  have hs := fun V u (hu : World.ownsRow V w.heap.size 9 1 u xs.length (tc xs)) => sortFunc_any V w.heap.size u xs hu hn hl
  clear h hv
  go_enter Try.func11, Try.ntmps11
  go_wp2_with fail
  refine hc.mono ?_
  rintro e w1 ⟨u, rfl, hu, hb1⟩
  have HU := hide hu
  have HB1 := hide hb1
  obtain ⟨a, c, rfl⟩ := own_shape hu
  clear hu hb1 hc
  go_wp2_with fail
  refine (hs w1 _ HU.out).mono ?_
  rintro e w2 ⟨rfl, ys, hp, hso, hy, hg⟩
  have HY := hide (⟨hp, hso, hy, hg⟩ : _ ∧ _ ∧ _ ∧ _)
  clear hp hso hy hg hs
  go_wp2
  go_ret
  obtain ⟨hp, hso, hy, hg⟩ := HY.out
  exact ⟨_, ys, rfl, hp, hso, hy, HB1.out.grown hg HB1.out.size (fun k hk => (HU.out.lt k hk).1)⟩
end Go.Proofs.Ytkihldkaiddbkab
