/-
  Texts joined: PSame, PFinds.
-/
import Derived.Test.YtfeffaeinggiiaaGreatDoorJ24PRow
import Derived.Test.YtfeffaeinggiiaaGreatDoorJ46PRFind
import Derived.Test.YtfeffaeinggiiaaGreatDoorJ43PShown
/-
  Are two lists of texts the same? Conditions: they lie there.
-/
namespace Go.Proofs.YtfeffaeinggiiaaGreatDoor
open Go.RowKit

set_option maxRecDepth 20000 in
theorem same_ids (w : World) (v u : Value) (xs ys : List Bs) (h : Ls w.heap.size w 1 idC v xs) (k : Ls w.heap.size w 1 idC u ys) :
    Calls Tryz.prog 16 #[v, u] w fun e w' => e = .returned (.bool (decide (xs = ys))) ∧ Below w.heap.size w w' := by
  obtain ⟨ao, ca, rfl, h1, h2, h4⟩ := h
  obtain ⟨bo, cb, rfl, k1, k2, k4⟩ := k
  unfold maxLen at h2 k2
  by_cases hl : xs.length = ys.length
  · go_enter Tryz.func16, Tryz.ntmps16
    go_wp2
    go_loopw [5] (fun t wr => ∃ j : Nat, t = .int .i64 (j : Int) ∧ j ≤ xs.length ∧ (∀ i, i < j → xs[i]? = ys[i]?) ∧ Below w.heap.size w wr)
      (fun t _ => xs.length - (intOf t).toNat)
    case atStart => exact ⟨0, rfl, by omega, (fun i hi => by omega), Below.refl _ _⟩
    case round =>
      obtain ⟨j, rfl, hj, he, hb⟩ := hrel
      by_cases hlt : j < xs.length
      · have hlt2 : j < ys.length := by omega
        obtain ⟨b1, o1, rfl, hb1, hc1⟩ := h4 (by rintro rfl; simp at hlt)
        obtain ⟨b2, o2, rfl, hb2, hc2⟩ := k4 (by rintro rfl; simp at hlt2)
        have c1 := (hb.cell (p := ⟨b1, o1 + j * 1 + 0, none⟩) hb1).trans (hc1 j hlt 0 _ rfl)
        have c2 := (hb.cell (p := ⟨b2, o2 + j * 1 + 0, none⟩) hb2).trans (hc2 j hlt2 0 _ rfl)
        simp only [Nat.mul_one, Nat.add_zero] at c1 c2
        have n1 : xs[j]? = some xs[j] := by simp [hlt]
        have n2 : ys[j]? = some ys[j] := by simp [hlt2]
        clear hc1 hc2 h4 k4
        generalize xs[j] = x at *
        generalize ys[j] = y at *
        have t1 := toL x
        have t2 := toL y
        by_cases hxy : x = y
        · subst hxy
          go_wp2_with fail
          go_region
          go_wp2_with fail
          refine ⟨⟨j + 1, by go_num, by omega, (fun i hi => ?_), hb.drew⟩, by simp [intOf]; omega⟩
          by_cases hij : i = j
          · subst hij; rw [n1, n2]
          · exact he i (by omega)
        · have bxy : (x == y) = false := by simp [hxy]
          go_wp2_with fail
          go_region
          go_wp2_with fail
          go_ret
          refine ⟨?_, hb.drew⟩
          rw [decide_eq_false]
          · rfl
          rintro rfl
          rw [n1] at n2
          exact hxy (Option.some.inj n2)
      · have hjl : j = xs.length := by omega
        subst hjl
        go_wp2_with fail
        go_ret
        refine ⟨?_, hb⟩
        rw [decide_eq_true]
        · rfl
        refine List.ext_getElem? fun i => ?_
        by_cases hi : i < xs.length
        · exact he i hi
        · rw [List.getElem?_eq_none (by omega), List.getElem?_eq_none (by omega)]
  · have hne : ((xs.length : Int) != (ys.length : Int)) = true := by simp; omega
    go_enter Tryz.func16, Tryz.ntmps16
    go_wp2
    go_ret
    refine ⟨?_, Below.refl _ _⟩
    rw [decide_eq_false (fun h => hl (by rw [h]))]
    rfl
end Go.Proofs.YtfeffaeinggiiaaGreatDoor

/-
  ProllyFinds, walked. Conditions: the objects lie there; texts within reach; the table holds its numbers.
-/
namespace Go.Proofs.YtfeffaeinggiiaaGreatDoor
open Go.RowKit

theorem get_asked (ts : List TypeId) (hn : 83 ∈ ts) (h1 : 37 ∉ ts) (h2 : 25 ∉ ts) (h3 : 32 ∉ ts) (h4 : 9 ∉ ts) (B ci cl ga : Nat) (objs : List Pair) (hs : ∀ o ∈ objs, o.2.length ≤ 140737488351232) :
    GetOk 38 #[.pointer (some ⟨ci, 0, none⟩), .pointer (some ⟨cl, 0, none⟩)] (findO objs) B ts (fun W a => AskW B W ci cl ga objs a) where
  eg := enters_own Tryz.func38 (by kernel_rfl) rfl
  le W a h := h.le
  mv h hm := h.keep hm (Nat.le_refl _) h1 h2 h3 h4 (by simp)
  call W a id h hn' := asked1_any B W ci cl ga objs a id h hn'
  node := hn
  short id b h := findO_short hs id b h
set_option maxRecDepth 20000 in
theorem asked_any (w : World) (ao : Option Addr) (m c ga : Nat) : Calls Tryz.prog 14 #[.slice ao m c, .pointer (some ⟨ga, 0, none⟩)] w fun e w' => e = .returned (.func (.func 38) #[] #[.pointer (some ⟨w.heap.size + 1, 0, none⟩), .pointer (some ⟨w.heap.size, 0, none⟩)]) ∧ w' = (w.alloc (.cells #[.slice ao m c] 25)).alloc (.cells #[.pointer (some ⟨ga, 0, none⟩)] 37) := by
  have hmf : ∀ (fn : Fn) (first cap : Array Value) (w : World), (Instr.makeFunc fn first cap).run Tryz.prog w = .ok (.func fn first cap) w := fun _ _ _ _ => rfl
  go_enter Tryz.func14, Tryz.ntmps14
  go_wp2
  go_ret
  exact ⟨rfl, rfl⟩
set_option maxRecDepth 40000 in
set_option maxHeartbeats 1600000 in
theorem finds_any (w : World) (vo : Value) (objs : List Pair) (hv : Ls w.heap.size w 2 pairC vo objs) (hob : ∀ o ∈ objs, o.2.length ≤ 140737488351232) (root key : Bs) (hT : TabW w) :
    Calls Tryz.prog 4 #[vo, .string (strB root), .string (strB key)] w fun e w' => e = .returned (.bool true) ∧ Below w.heap.size w w' := by
  have hvf := hv
  obtain ⟨ao, cap, hvv, -⟩ := hvf
  obtain ⟨m, hm⟩ : ∃ m, m = objs.length := ⟨_, rfl⟩
  rw [← hm] at hvv
  subst hvv
  clear hm
  have HV := hide hv
  have hsh := shown_any w hT
  clear hv hT
  go_enter Tryz.func4, Tryz.ntmps4
  go_wp2_with fail
  refine hsh.mono ?_
  rintro e w1 ⟨rfl, hb1⟩
  have hb2 : Below w1.heap.size w1 (w1.alloc (.cells #[.slice none 0 0] 32)) := (Below.refl _ _).alloc (Nat.le_refl _) _
  have hg2 := heap_last w1 (.cells #[.slice none 0 0] 32) _ rfl
  have hB2 := hb1.trans (hb2.mono hb1.size)
  have hs1 : w.heap.size ≤ w1.heap.size := hb1.size
  generalize hw2 : w1.alloc (.cells #[.slice none 0 0] 32) = w2 at *
  have hak := asked_any w2 ao m cap w1.heap.size
  have hb3 : Below w2.heap.size w2 ((w2.alloc (.cells #[.slice ao m cap] 25)).alloc (.cells #[.pointer (some ⟨w1.heap.size, 0, none⟩)] 37)) := ((Below.refl _ _).alloc (Nat.le_refl _) _).alloc (by simp) _
  have hg3 := (hb3.block _ (lt_of_heap hg2)).trans hg2
  have hB3 := hB2.trans (hb3.mono hB2.size)
  have hA3 : AskW w.heap.size ((w2.alloc (.cells #[.slice ao m cap] 25)).alloc (.cells #[.pointer (some ⟨w1.heap.size, 0, none⟩)] 37)) (w2.heap.size + 1) w2.heap.size w1.heap.size objs [] :=
    ⟨heap_last (w2.alloc (.cells #[.slice ao m cap] 25)) _ _ (by simp), ⟨_, (heap_past (w2.alloc (.cells #[.slice ao m cap] 25)) _ _ (by simp)).trans (heap_last w2 _ _ rfl), HV.out.keep hB3⟩, ⟨_, hg3, World.ownsRow_nil _ _ _ _⟩, hs1⟩
  have H3 := hide (And.intro hB3 hA3)
  clear hsh hb1 hb2 hg2 hB2 hb3 hg3 hB3 hA3
  -- what both answer
  obtain ⟨t, is, ids, eno, hprog, hrefs⟩ : ∃ (t : Bs) (is : Bool) (ids : List Bs) (eno : Int),
      (Calls Tryz.prog 13 #[.func (.func 38) #[] #[.pointer (some ⟨w2.heap.size + 1, 0, none⟩), .pointer (some ⟨w2.heap.size, 0, none⟩)], .string (strB root), .string (strB key)] ((w2.alloc (.cells #[.slice ao m cap] 25)).alloc (.cells #[.pointer (some ⟨w1.heap.size, 0, none⟩)] 37)) fun e w' => e = .returned (.tuple #[.string (strB t), .bool is, .int .i64 eno]) ∧ AskW w.heap.size w' (w2.heap.size + 1) w2.heap.size w1.heap.size objs ids ∧ Mv w.heap.size ats none ((w2.alloc (.cells #[.slice ao m cap] 25)).alloc (.cells #[.pointer (some ⟨w1.heap.size, 0, none⟩)] 37)) w') ∧
      (∀ W : World, Below w.heap.size w W → Calls Tryz.prog 15 #[.slice ao m cap, .string (strB root), .string (strB key)] W fun e w' => ∃ va, e = .returned (.tuple #[.string (strB t), .bool is, va, .int .i64 eno]) ∧ Rw W.heap.size w' 9 1 idC va ids ∧ Below W.heap.size W w') := by
    cases hk : isKeyB key with
    | true =>
      have hG := get_asked [83] (by decide) (by decide) (by decide) (by decide) (by decide) w.heap.size (w2.heap.size + 1) w2.heap.size w1.heap.size objs hob
      exact ⟨_, _, _, _, find_prog _ _ _ _ _ _ _ hG root key hk [] H3.out.2 (by simp), fun W hW => rfind_any W _ objs ((HV.out.keep hW).up hW.size) hob root key hk⟩
    | false =>
      refine ⟨[], false, [], 2, (findKey_no _ _ root key hk).mono fun e w' h => ⟨h.1, h.2 ▸ H3.out.2, h.2 ▸ Mv.refl _ _ _ _⟩, fun W hW => (rfind_no W _ root key hk).mono fun e w' h => ⟨_, h.1, World.ownsRow_nil _ _ _ _, h.2 ▸ Below.refl _ _⟩⟩
  go_wp2_with fail
  refine hak.mono ?_
  rintro e w3 ⟨rfl, rfl⟩
  go_wp2_with fail
  refine hprog.mono ?_
  rintro e w4 ⟨rfl, hA4, hM4⟩
  have hB4 : Below w.heap.size w w4 := H3.out.1.trans hM4.b
  have hrr := hrefs w4 hB4
  have H4 := hide (And.intro hA4 hB4)
  clear hprog hrefs hak hA4 hM4 hB4
  go_wp2_with fail
  refine hrr.mono ?_
  rintro e w5 ⟨va, rfl, hra, hb5⟩
  have hA5 := H4.out.1.below hb5
  have hB5 := H4.out.2.trans (hb5.mono H4.out.2.size)
  obtain ⟨-, -, ⟨vk, hk5, hkr⟩, -⟩ := hA5
  have hsm := same_ids w5 vk va ids ids (ls_of_own idC_length hkr) (ls_of_own idC_length hra)
  rw [decide_eq_true (rfl : ids = ids)] at hsm
  have k0 := cell_of_row w5 w1.heap.size 0 _ _ _ hk5
  simp only [List.getElem?_toArray, List.getElem?_cons_zero] at k0
  have htl := toL t
  have hbq : (t == t) = true := by simp
  have hiq : (is == is) = true := by simp
  have heq : (eno == eno) = true := by simp
  have HB := hide hB5
  obtain ⟨vaA, vaM, vaC, rfl⟩ := row_form hra
  obtain ⟨vkA, vkM, vkC, rfl⟩ := row_form hkr
  clear hrr hb5 hB5 hra hkr hk5
  go_wp2_with fail
  refine hsm.mono ?_
  rintro e w6 ⟨rfl, hb6⟩
  have HB6 := hide (HB.out.trans (hb6.mono HB.out.size))
  clear hsm hb6
  go_wp2
  go_ret
  exact ⟨rfl, HB6.out⟩
theorem finds_bytes (w : World) (vo : Value) (objs : List Pair) (hv : Ls w.heap.size w 2 pairC vo objs) (hob : ∀ o ∈ objs, o.2.length ≤ 140737488351232) (r k : ByteArray) (hT : TabW w) :
    Calls Tryz.prog 4 #[vo, .string r, .string k] w fun e w' => e = .returned (.bool true) ∧ Below w.heap.size w w' := by
  have := finds_any w vo objs hv hob r.data.toList k.data.toList hT
  rw [strB_of, strB_of] at this
  exact this
end Go.Proofs.YtfeffaeinggiiaaGreatDoor
