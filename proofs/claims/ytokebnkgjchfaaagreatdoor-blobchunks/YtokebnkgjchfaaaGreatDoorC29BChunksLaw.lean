/-
  BlobChunks, walked. Conditions: the objects lie there; texts within reach; the table holds its numbers.
-/
import Derived.Test.YtokebnkgjchfaaaGreatDoorC24BRRead
import Derived.Test.YtokebnkgjchfaaaGreatDoorC28BChunks
namespace Go.Proofs.YtokebnkgjchfaaaGreatDoor
open Go.RowKit

theorem get_asked (ts : List TypeId) (hn : 96 ∈ ts) (h1 : 42 ∉ ts) (h2 : 26 ∉ ts) (h3 : 37 ∉ ts) (h4 : 9 ∉ ts) (B ci cl ga : Nat) (objs : List Pair) (hs : ∀ o ∈ objs, o.2.length ≤ 140737488351232) :
    GetOk 32 #[.pointer (some ⟨ci, 0, none⟩), .pointer (some ⟨cl, 0, none⟩)] (findO objs) B ts (fun W a => AskW B W ci cl ga objs a) where
  eg := enters_own Tryz.func32 (by kernel_rfl) rfl
  le W a h := h.le
  keep W W' a r h hm hr := h.keep hm (Nat.le_refl _) h1 h2 h3 h4 (fun q hq => by
    obtain ⟨c, fr, hc⟩ := hr q hq
    exact ⟨c, _, fr, hc, by decide, by decide, by decide, by decide⟩)
  call W a id h hn' := asked1_any B W ci cl ga objs a id h hn'
  node := hn
  short id b h := by obtain ⟨o, ho, rfl⟩ := findO_mem h; exact hs o ho
set_option maxRecDepth 20000 in
theorem asked_any (w : World) (ao : Option Addr) (m c ga : Nat) : Calls Tryz.prog 15 #[.slice ao m c, .pointer (some ⟨ga, 0, none⟩)] w fun e w' => e = .returned (.func (.func 32) #[] #[.pointer (some ⟨w.heap.size + 1, 0, none⟩), .pointer (some ⟨w.heap.size, 0, none⟩)]) ∧ w' = (w.alloc (.cells #[.slice ao m c] 26)).alloc (.cells #[.pointer (some ⟨ga, 0, none⟩)] 42) := by
  have hmf : ∀ (fn : Fn) (first cap : Array Value) (w : World), (Instr.makeFunc fn first cap).run Tryz.prog w = .ok (.func fn first cap) w := fun _ _ _ _ => rfl
  go_enter Tryz.func15, Tryz.ntmps15
  go_wp2
  go_ret
  exact ⟨rfl, rfl⟩
set_option maxRecDepth 40000 in
set_option maxHeartbeats 1600000 in
theorem chunks_any (w : World) (vo : Value) (objs : List Pair) (hv : Ls w.heap.size w 2 pairC vo objs) (hob : ∀ o ∈ objs, o.2.length ≤ 140737488351232) (p : Part) (hT : TabW w) :
    Calls Tryz.prog 5 #[vo, .agg #[.string (strB p.1), .int .i64 p.2]] w fun e w' => e = .returned (.bool true) ∧ Below w.heap.size w w' := by
  have hvf := hv
  obtain ⟨ao, cap, hvv, -⟩ := hvf
  obtain ⟨m, hm⟩ : ∃ m, m = objs.length := ⟨_, rfl⟩
  rw [← hm] at hvv
  subst hvv
  clear hm
  have HV := hide hv
  have hb0 : Below w.heap.size w (w.alloc (.cells #[.string (strB p.1), .int .i64 p.2] 25)) := (Below.refl _ _).alloc (Nat.le_refl _) _
  have hx0 := heap_last w (.cells #[.string (strB p.1), .int .i64 p.2] 25) _ rfl
  generalize hw0 : w.alloc (.cells #[.string (strB p.1), .int .i64 p.2] 25) = w0 at *
  have hsh := shown_any w0 (hT.keep hb0 hT.1)
  have H0 := hide (And.intro hb0 hx0)
  clear hb0 hx0 hv hT
  go_enter Tryz.func5, Tryz.ntmps5
  go_wp2_with fail
  try rw [hw0]
  refine hsh.mono ?_
  rintro e w1 ⟨rfl, hb1⟩
  have hx1 := (hb1.block _ (lt_of_heap H0.out.2)).trans H0.out.2
  have hB1 := H0.out.1.trans (hb1.mono H0.out.1.size)
  have hb2 : Below w1.heap.size w1 (w1.alloc (.cells #[.slice none 0 0] 37)) := (Below.refl _ _).alloc (Nat.le_refl _) _
  have hg2 := heap_last w1 (.cells #[.slice none 0 0] 37) _ rfl
  have hx2 := (hb2.block _ (lt_of_heap hx1)).trans hx1
  have hB2 := hB1.trans (hb2.mono hB1.size)
  have hs1 : w.heap.size ≤ w1.heap.size := hB1.size
  generalize hw2 : w1.alloc (.cells #[.slice none 0 0] 37) = w2 at *
  have hak := asked_any w2.drew ao m cap w1.heap.size
  have hb3 : Below w2.heap.size w2 ((w2.alloc (.cells #[.slice ao m cap] 26)).alloc (.cells #[.pointer (some ⟨w1.heap.size, 0, none⟩)] 42)).drew := (((Below.refl _ _).alloc (Nat.le_refl _) _).alloc (by simp) _).drew
  have hx3 := (hb3.block _ (lt_of_heap hx2)).trans hx2
  have hg3 := (hb3.block _ (lt_of_heap hg2)).trans hg2
  have hB3 := hB2.trans (hb3.mono hB2.size)
  have hA3 : AskW w.heap.size ((w2.alloc (.cells #[.slice ao m cap] 26)).alloc (.cells #[.pointer (some ⟨w1.heap.size, 0, none⟩)] 42)).drew (w2.heap.size + 1) w2.heap.size w1.heap.size objs [] :=
    ⟨heap_last (w2.alloc (.cells #[.slice ao m cap] 26)) _ _ (by simp), ⟨_, (heap_past (w2.alloc (.cells #[.slice ao m cap] 26)) _ _ (by simp)).trans (heap_last w2 _ _ rfl), HV.out.keep hB3⟩, ⟨_, hg3, World.ownsRow_nil _ _ _ _⟩, hs1⟩
  have y0 := cell_of_row w2 w.heap.size 0 _ _ _ hx2
  have y1 := cell_of_row w2 w.heap.size 1 _ _ _ hx2
  have z0 := cell_of_row ((w2.alloc (.cells #[.slice ao m cap] 26)).alloc (.cells #[.pointer (some ⟨w1.heap.size, 0, none⟩)] 42)) w.heap.size 0 _ _ _ hx3
  have z1 := cell_of_row ((w2.alloc (.cells #[.slice ao m cap] 26)).alloc (.cells #[.pointer (some ⟨w1.heap.size, 0, none⟩)] 42)) w.heap.size 1 _ _ _ hx3
  simp only [List.getElem?_toArray, List.getElem?_cons_zero, List.getElem?_cons_succ] at y0 y1 z0 z1
  have H3 := hide (And.intro hB3 (And.intro hx3 (And.intro hA3 hg3)))
  clear hsh hb1 hx1 hB1 hb2 hg2 hx2 hB2 hb3 hx3 hg3 hB3 hA3
  -- what both answer
  obtain ⟨ps, ids, eno, hprog, hrefs⟩ : ∃ (ps : List Part) (ids : List Bs) (eno : Int),
      (Calls Tryz.prog 14 #[.func (.func 32) #[] #[.pointer (some ⟨w2.heap.size + 1, 0, none⟩), .pointer (some ⟨w2.heap.size, 0, none⟩)], .agg #[.string (strB p.1), .int .i64 p.2]] ((w2.alloc (.cells #[.slice ao m cap] 26)).alloc (.cells #[.pointer (some ⟨w1.heap.size, 0, none⟩)] 42)).drew fun e w' => (∃ v, e = .returned (.tuple #[v, .int .i64 eno]) ∧ Rw w.heap.size w' 25 2 partC v ps) ∧ AskW w.heap.size w' (w2.heap.size + 1) w2.heap.size w1.heap.size objs ids ∧ Mv w.heap.size hts none ((w2.alloc (.cells #[.slice ao m cap] 26)).alloc (.cells #[.pointer (some ⟨w1.heap.size, 0, none⟩)] 42)).drew w') ∧
      (∀ W : World, Below w.heap.size w W → Calls Tryz.prog 16 #[.slice ao m cap, .agg #[.string (strB p.1), .int .i64 p.2]] W fun e w' => rchSaid W.heap.size ps ids eno e w' ∧ Below W.heap.size W w') := by
    by_cases hok : rightR p = true
    · have hG := get_asked qts (by decide) (by decide) (by decide) (by decide) (by decide) w.heap.size (w2.heap.size + 1) w2.heap.size w1.heap.size objs hob
      have hrd := bchunks_any _ _ _ _ _ _ hG p [] H3.out.2.2.1 (by simp) hok
      exact ⟨_, _, _, hrd, fun W hW => rchunksT_any W _ objs ((HV.out.keep hW).up hW.size) hob p hok⟩
    · have hok2 : rightR p = false := by simpa using hok
      refine ⟨[], [], 2, (bchunks_no _ _ p hok2).mono fun e w' h => ⟨⟨_, h.1, World.ownsRow_nil _ _ _ _⟩, H3.out.2.2.1.below h.2, Mv.of h.2 H3.out.1.size⟩, fun W hW => (rchunks_no W _ p hok2).mono fun e w' h => ⟨⟨_, _, h.1, World.ownsRow_nil _ _ _ _, World.ownsRow_nil _ _ _ _⟩, h.2⟩⟩
  go_wp2_with fail
  refine wp_region_held_drew (S := fun W => W.cell? ⟨w.heap.size, 0, none⟩ = some (.string (strB p.1)) ∧ W.cell? ⟨w.heap.size, 1, none⟩ = some (.int .i64 p.2)) (by kernel_rfl) (⟨y0, y1⟩) (fun hHeld => ?_)
  refine takeJ 0 (v := ?_) ?_ hHeld ?_
  rotate_left
  · rintro w ⟨_, _⟩; go_simp; try with_reducible rfl
  refine takeJ 2 (v := ?_) ?_ hHeld ?_
  rotate_left
  · rintro w ⟨_, _⟩; go_simp; try with_reducible rfl
  refine onlyH (i := 1) rfl (by kernel_rfl) rfl (fun K hK => ?_)
  go_simp
  refine hak.mono ?_
  rintro e w3 ⟨rfl, rfl⟩
  go_simp
  refine hK.out _ _ (⟨z0, z1⟩) (fun hHeld => ?_)
  clear hK K
  try simp only [Act.put, List.setIfInBounds_toArray, List.set_cons_zero, List.set_cons_succ]
  refine onlyH (i := 3) rfl (by kernel_rfl) rfl (fun K hK => ?_)
  go_simp
  refine hprog.mono ?_
  rintro e w4 ⟨⟨vl, rfl, hrl⟩, hA4, hM4⟩
  have hx4 := hM4.k _ _ _ _ H3.out.2.1 (by decide) (by simp)
  have u0 := cell_of_row w4 w.heap.size 0 _ _ _ hx4
  have u1 := cell_of_row w4 w.heap.size 1 _ _ _ hx4
  simp only [List.getElem?_toArray, List.getElem?_cons_zero, List.getElem?_cons_succ] at u0 u1
  have HRL := hide hrl
  obtain ⟨vlA, vlM, vlC, rfl⟩ := row_form hrl
  clear hrl
  refine hK.out _ _ (⟨u0, u1⟩) (fun hHeld => ?_)
  clear hK K
  try simp only [Act.put, List.setIfInBounds_toArray, List.set_cons_zero, List.set_cons_succ]
  refine takeJ 4 (v := ?_) ?_ hHeld ?_
  rotate_left
  · rintro w ⟨_, _⟩; go_simp; try with_reducible rfl
  refine takeJ 5 (v := ?_) ?_ hHeld ?_
  rotate_left
  · rintro w ⟨_, _⟩; go_simp; try with_reducible rfl
  refine takeJ 6 (v := ?_) ?_ hHeld ?_
  rotate_left
  · rintro w ⟨_, _⟩; go_simp; try with_reducible rfl
  refine takeJ 7 (v := ?_) ?_ hHeld ?_
  rotate_left
  · rintro w ⟨_, _⟩; go_simp; try with_reducible rfl
  refine takeJ 8 (v := ?_) ?_ hHeld ?_
  rotate_left
  · rintro w ⟨_, _⟩; go_simp; try with_reducible rfl
  refine wpAnyH_done (by kernel_rfl) ?_ _
  clear hHeld
  have hB4 : Below w.heap.size w w4 := H3.out.1.trans hM4.b
  have hrr := hrefs w4 hB4
  have H4 := hide (And.intro hA4 hB4)
  clear hprog hrefs hak hA4 hM4 hx4 hB4 z0 z1 y0 y1
  go_wp2_with fail
  refine hrr.mono ?_
  rintro e w5 ⟨⟨vm, va, rfl, hrm, hra⟩, hb5⟩
  have hA5 := H4.out.1.below hb5
  have hB5 := H4.out.2.trans (hb5.mono H4.out.2.size)
  have hrl5 := (ls_of_own partC_length HRL.out).keep hb5
  obtain ⟨-, -, ⟨vk, hk5, hkr⟩, -⟩ := hA5
  have hsp := same_parts w5 ps ps _ _ (hrl5.up hb5.size) (ls_of_own partC_length hrm)
  rw [decide_eq_true (rfl : ps = ps)] at hsp
  have H5 := hide (And.intro hB5 (And.intro hk5 (And.intro hkr hra)))
  obtain ⟨vmA, vmM, vmC, rfl⟩ := row_form hrm
  obtain ⟨vaA, vaM, vaC, rfl⟩ := row_form hra
  obtain ⟨vkA, vkM, vkC, rfl⟩ := row_form hkr
  clear hrr hb5 hB5 hrm hra hkr hk5 hrl5
  go_wp2_with fail
  refine hsp.mono ?_
  rintro e w6 ⟨rfl, hb6⟩
  have hk6 := (hb6.block _ (lt_of_heap H5.out.2.1)).trans H5.out.2.1
  have k0 := cell_of_row w6 w1.heap.size 0 _ _ _ hk6
  simp only [List.getElem?_toArray, List.getElem?_cons_zero] at k0
  have hsm := same_ids w6 _ _ ids ids (((ls_of_own idC_length H5.out.2.2.1).keep hb6).up hb6.size) (((ls_of_own idC_length H5.out.2.2.2).keep hb6).up hb6.size)
  rw [decide_eq_true (rfl : ids = ids)] at hsm
  have HB := hide (H5.out.1.trans (hb6.mono H5.out.1.size))
  clear hsp hb6 hk6
  go_wp2_with fail
  refine hsm.mono ?_
  rintro e w7 ⟨rfl, hb7⟩
  have HB7 := hide (HB.out.trans (hb7.mono HB.out.size))
  clear hsm hb7
  go_wp2
  go_ret
  exact ⟨rfl, HB7.out⟩
end Go.Proofs.YtokebnkgjchfaaaGreatDoor
