/-
  A file's chunks laid. Conditions: the table holds its numbers; the building lies there; a file's length.
-/
import Derived.Test.YtljhnakjkocanaaGreatDoorV21BLay
import Derived.Test.YtljhnakjkocanaaGreatDoorV23GPlain
import Derived.Test.YtljhnakjkocanaaGreatDoorV16ORTakeF
namespace Go.Proofs.YtljhnakjkocanaaGreatDoor
open Go.RowKit

/-- A chunk's object, its part. -/
def objOf (c : Bs) : Pair := (sha (67 :: c), 67 :: c)
def partOf (c : Bs) : Part := (sha (67 :: c), (c.length : Int))
/-- A file's chunks: one of no bytes, if it has none. -/
def cutC (l : Bs) : List Bs := if l = [] then [[]] else Gr.chunks l
def layC (os : List Pair) (cs : List Bs) : List Pair := cs.foldl (fun os c => layP os (objOf c)) os
theorem layC_step (os : List Pair) (cs : List Bs) (j : Nat) (h : j < cs.length) : layC os (cs.take (j + 1)) = layP (layC os (cs.take j)) (objOf cs[j]) := by
  unfold layC
  rw [List.take_succ_eq_append_getElem h, List.foldl_append]
  rfl
theorem layC_le : ∀ (cs : List Bs) (os : List Pair), (layC os cs).length ≤ os.length + cs.length
  | [], os => by simp [layC]
  | c :: r, os => by
    have h1 := layC_le r (layP os (objOf c))
    have h2 := layP_le os (objOf c)
    show (layC (layP os (objOf c)) r).length ≤ _
    simp
    omega
/-- Places behind parts of a text. -/
def endsC (cs : List Bs) : List Nat := Gr.sums 0 cs
theorem endsC_get (cs : List Bs) (j : Nat) (h : j < cs.length) : (endsC cs)[j]? = some ((cs.take j).flatten.length + cs[j].length) := by
  unfold endsC
  rw [Gr.sums_get 0 cs j h, List.take_succ_eq_append_getElem h, List.flatten_append, List.length_append, List.flatten_singleton, Nat.zero_add]
theorem cut_piece (cs : List Bs) (l : Bs) (hl : cs.flatten = l) (j : Nat) (h : j < cs.length) : (l.take ((cs.take j).flatten.length + cs[j].length)).drop (cs.take j).flatten.length = cs[j] ∧ (cs.take j).flatten.length + cs[j].length ≤ l.length := by
  have e : l = (cs.take j).flatten ++ (cs[j] ++ (cs.drop (j + 1)).flatten) := by
    have e1 : cs.flatten = (cs.take j).flatten ++ (cs.drop j).flatten := by rw [← List.flatten_append, List.take_append_drop]
    rw [← hl, e1, List.drop_eq_getElem_cons h, List.flatten_cons]
  constructor
  · rw [e, List.take_append]
    simp
  · rw [e]; simp
theorem cutC_facts (l : Bs) : (cutC l).flatten = l ∧ (∀ c ∈ cutC l, c.length ≤ 1024) ∧ 1 ≤ (cutC l).length := by
  unfold cutC
  by_cases h : l = []
  · rw [if_pos h, h]; simp
  · rw [if_neg h]
    refine ⟨Gr.chunks_flat l, fun c hc => ?_, ?_⟩
    · obtain ⟨j, hj, rfl⟩ := List.getElem_of_mem hc
      exact ((Gr.chunks_tail l).size hj).2.1
    · cases hq : Gr.chunks l with
      | nil =>
        have := Gr.chunks_flat l
        rw [hq] at this
        exact absurd this.symm h
      | cons c r => simp
theorem cuts_ends {l : Bs} (h : l ≠ []) : Gr.cuts l = endsC (cutC l) := by unfold cutC; rw [if_neg h]; rfl
theorem cuts_nil : Gr.cuts [] = [] := rfl
theorem endsC_length (cs : List Bs) : (endsC cs).length = cs.length := Gr.sums_length 0 cs
theorem cutC_le (l : Bs) : (cutC l).length ≤ l.length + 1 := by
  unfold cutC
  by_cases h : l = []
  · rw [if_pos h]; simp
  · rw [if_neg h]
    have hm : ∀ c ∈ Gr.chunks l, 1 ≤ c.length := fun c hc => by
      obtain ⟨j, hj, rfl⟩ := List.getElem_of_mem hc
      exact ((Gr.chunks_tail l).size hj).1
    have : ∀ (cs : List Bs), (∀ c ∈ cs, 1 ≤ c.length) → cs.length ≤ cs.flatten.length := by
      intro cs
      induction cs with
      | nil => simp
      | cons c r ih =>
        intro hc
        have h1 := ih (fun d hd => hc d (by simp [hd]))
        have h2 := hc c (by simp)
        simp at h1 ⊢
        omega
    have h3 := this _ hm
    rw [Gr.chunks_flat] at h3
    omega
theorem int_cell {w : World} {B : Nat} {ao : Option Addr} {m cap : Nat} {ns : List Nat} (h : w.ownsRow B 3 1 (.slice ao m cap) ns.length (Gr.ic ns)) {j : Nat} (hj : j < ns.length) : ∃ b, ao = some ⟨b, 0, none⟩ ∧ w.cell? ⟨b, j, none⟩ = some (.int .i64 (ns[j] : Int)) := by
  rcases h.2 with ⟨-, h0⟩ | ⟨b, c, cur, hv, -⟩
  · omega
  · injection hv with h1 h2 h3
    refine ⟨b, h1, ?_⟩
    have := World.ownsRow.cells h (g := b) (by rw [h1]; rfl) j _ (Gr.ic_get ns j hj)
    rw [Addr.add_lit, Nat.zero_add] at this
    exact this
/-- What laying chunks moves. -/
abbrev cts : List TypeId := [52, 57]
set_option maxRecDepth 40000 in
set_option maxHeartbeats 1600000 in
/-- The loop of layChunks, whatever the places. -/
theorem layChunks_any (B : Nat) (w : World) (g : Nat) (os : List Pair) (l : Bs) (h : BdW B w g os) (hT : TabW w) (h0 : 0 < B) (hl : l.length ≤ 262144) (hn : os.length ≤ 1000000) :
    Calls Tryz.prog 35 #[.pointer (some ⟨g, 0, none⟩), .string (strB l)] w fun e w' => ∃ v, e = .returned v ∧ Rw w.heap.size w' 25 2 partC v ((cutC l).map partOf) ∧ BdW B w' g (layC os (cutC l)) ∧ Mv B bts none w w' := by
  have hB : B ≤ w.heap.size := by
    obtain ⟨hg, vo, mb, hh, -⟩ := h
    have := lt_of_heap hh
    omega
  have hcu := Gr.cuts_any w l (by omega)
  rw [show Gr.strB l = strB l from rfl] at hcu
  obtain ⟨f1, f2, f3⟩ := cutC_facts l
  have f4 := cutC_le l
  have hds := strB_size l
  have HF := hide (And.intro f1 f2)
  by_cases hnil : l = []
  · rw [show Gr.cuts l = [] from by rw [hnil]; rfl] at hcu
    have hm : 1 = (endsC (cutC l)).length := by rw [hnil]; rfl
    have hmc : 1 = (cutC l).length := by rw [hnil]; rfl
    have HM := hide (And.intro hm hmc)
    have hm2 : 1 ≤ 262145 := by omega
    have HNIL := hide hnil
    clear hm hmc f1 f2 f3 f4 hnil
    go_enter Tryz.func35, Tryz.ntmps35
    go_wp2_with fail
    refine hcu.mono ?_
    rintro e w0 ⟨v, rfl, hov, hb0⟩
    obtain ⟨ao0, cap0, rfl, -, -⟩ := own_form hov
    have hb1 : Below w.heap.size w (w0.alloc (.cells #[.int .i64 0] 3)) := hb0.alloc hb0.size _
    have hx1 := heap_last w0 (.cells #[.int .i64 0] 3) _ rfl
    generalize hw1 : w0.alloc (.cells #[.int .i64 0] 3) = w1 at *
    have hBd1 := h.keep hb1
    have hM1 : Mv B bts none w w1 := Mv.of hb1 hB
    have hov' : w1.ownsRow w.heap.size 3 1 (.slice (some ⟨w0.heap.size, 0, none⟩) 1 1) (endsC (cutC l)).length (Gr.ic (endsC (cutC l))) := by
      rw [HNIL.out]
      exact ⟨rfl, .inr ⟨w0.heap.size, 1, #[.int .i64 0], rfl, hb0.size, hx1, Nat.le_refl _, by unfold maxLen; omega, rfl, rfl⟩⟩
    have HE := hide (And.intro hov' (And.intro hBd1 (And.intro hM1 hT)))
    clear hcu hb1 hov hov' hBd1 hM1 hT h hb0 hx1
    go_wp2_with fail
    go_loopw [20, 7, 6] (fun t u v wr => ∃ j : Nat, j ≤ 1 ∧ t = .int .i64 j ∧ u = .int .i64 (((cutC l).take j).flatten.length : Int) ∧ Rw w1.heap.size wr 25 2 partC v (((cutC l).take j).map partOf) ∧ BdW B wr g (layC os ((cutC l).take j)) ∧ Mv B bts none w1 wr)
      (fun t _ _ _ => 1 - (intOf t).toNat)
    case atStart => exact ⟨0, by omega, rfl, rfl, World.ownsRow_nil _ _ _ _, HE.out.2.1, Mv.refl _ _ _ _⟩
    case round =>
      obtain ⟨j, hj, rfl, rfl, hrow, hBd, hMr⟩ := hrel
      by_cases hlt : j < 1
      · have hlt2 : j < (cutC l).length := by have := HM.out.2; omega
        have hlt3 : j < (endsC (cutC l)).length := by have := HM.out.1; omega
        have hovr := hMr.own0 HE.out.1 (by decide)
        obtain ⟨bb, hbb, k0⟩ := int_cell hovr hlt3
        injection hbb with hbb
        injection hbb with hbb
        subst hbb
        have hge := endsC_get (cutC l) j hlt2
        rw [List.getElem?_eq_getElem hlt3] at hge
        injection hge with hge
        rw [hge] at k0
        obtain ⟨hcp1, hcp2⟩ := cut_piece (cutC l) l HF.out.1 j hlt2
        have hc1024 := HF.out.2 _ (List.getElem_mem hlt2)
        have hst := layC_step os (cutC l) j hlt2
        have hfl : ((cutC l).take (j + 1)).flatten.length = ((cutC l).take j).flatten.length + (cutC l)[j].length := by rw [List.take_succ_eq_append_getElem hlt2, List.flatten_append, List.length_append, List.flatten_singleton]
        have hmp : ((cutC l).take (j + 1)).map partOf = ((cutC l).take j).map partOf ++ [partOf (cutC l)[j]] := by rw [List.take_succ_eq_append_getElem hlt2, List.map_append]; rfl
        have hle := layC_le ((cutC l).take j) os
        have hlj : ((cutC l).take j).length ≤ j := by simp; omega
        have hTr : TabW wr := HE.out.2.2.2.keep (HE.out.2.2.1.b.trans hMr.b) h0
        generalize (cutC l)[j] = c at *
        generalize ((cutC l).take j).flatten.length = fr at *
        have hsl := fun W => slice_str W l fr (fr + c.length) (by omega) hcp2
        rw [hcp1] at hsl
        have hch := chunk_any wr c hTr
        have hok : chunkOk c = true := by unfold chunkOk; simpa using hc1024
        rw [hok] at hch
        unfold made at hch
        simp only [if_true] at hch
        rw [objV_def] at hch
        have hcast : ((fr + c.length : Nat) : Int) = (fr : Int) + (c.length : Int) := by omega
        rw [hcast] at k0 hsl
        have hBr : B ≤ wr.heap.size := by have := hMr.size; have := HE.out.2.2.1.size; omega
        have HR := hide (And.intro hrow (And.intro hBd hMr))
        have HST := hide (And.intro hst (And.intro hfl (And.intro hmp hle)))
        clear hovr hge hcp1 hst hfl hmp hle hTr hrow hBd hMr hcast
        obtain ⟨sc, hsc⟩ : ∃ sc, sc = sha (67 :: c) := ⟨_, rfl⟩
        rw [← hsc] at hch
        have HSC := hide hsc
        clear hsc
        go_wp2_with fail
        refine hch.mono ?_
        rintro e w3 ⟨rfl, hb3⟩
        have hw4 : Below w3.heap.size w3 (w3.alloc (.cells #[.string (strB sc), .string (strB (67 :: c))] 57)) := (Below.refl _ _).alloc (Nat.le_refl _) _
        have hx4 := heap_last w3 (.cells #[.string (strB sc), .string (strB (67 :: c))] 57) _ rfl
        have hB34 := hb3.trans (hw4.mono hb3.size)
        generalize hw4e : w3.alloc (.cells #[.string (strB sc), .string (strB (67 :: c))] 57) = w4 at *
        have x0 := cell_of_row w4 w3.heap.size 0 _ _ _ hx4
        have x1 := cell_of_row w4 w3.heap.size 1 _ _ _ hx4
        simp only [List.getElem?_toArray, List.getElem?_cons_zero, List.getElem?_cons_succ] at x0 x1
        have hBd4 := HR.out.2.1.keep hB34
        have hlay := lay_any B w4 g _ (sc, 67 :: c) (c.length : Int) hBd4 (by have := HST.out.2.2.2; omega)
        have hrow4 := own_below HR.out.1 hB34
        have hM4 := HR.out.2.2.more hB34 hBr
        have H4 := hide (And.intro hrow4 hM4)
        have hsub : (fr : Int) + (c.length : Int) - (fr : Int) = (c.length : Int) := by omega
        clear hch hb3 hw4 hB34 hx4 hBd4 hrow4 hM4
        go_wp2_with fail
        refine hlay.mono ?_
        rintro e w5 ⟨rfl, hBd5, hM5⟩
        have hrow5 := hM5.own0 H4.out.1 (by decide)
        have hM5' := H4.out.2.trans hM5 (Nx.refl _ _)
        have hB5 : w1.heap.size ≤ w5.heap.size := hM5'.size
        have hBw1 : B ≤ w1.heap.size := by have := HE.out.2.2.1.size; omega
        obtain ⟨vn, w6, hrun6, hrow6, hgr6, -⟩ := app_part w5 w1.heap.size _ _ (sc, (c.length : Int)) hrow5 hB5 (by simp; omega)
        have hBd6 : BdW B w6 g (layP (layC os ((cutC l).take j)) (sc, 67 :: c)) := by
          obtain ⟨hg, vo, mb, g1, g2, g3, g4⟩ := hBd5
          have hb : Below w5.heap.size w5 (w5.alloc (.cells #[.string (strB sc), .int .i64 (c.length : Int)] 25)) := (Below.refl _ _).alloc (Nat.le_refl _) _
          have hrowA := World.ownsRow.alloc hrow5 (.cells #[.string (strB sc), .int .i64 (c.length : Int)] 25)
          have g1' := (hb.block _ (lt_of_heap g1)).trans g1
          have g2' : Rw B (w5.alloc (.cells #[.string (strB sc), .int .i64 (c.length : Int)] 25)) 57 2 pairC vo _ := World.ownsRow.alloc g2 _
          have g3' := g3.same (hb.block _ g3.lt)
          refine ⟨hg, vo, mb, grow_keep hrowA hgr6 g1' (by decide), grow_other g2' hrowA hgr6 (own_ne g2' hrowA (by decide)), g3'.same (hgr6.block mb g3'.lt (fun hq => ?_)), g4⟩
          obtain ⟨c', fz, h1⟩ := Lib.ownsRow_kind hrowA mb hq.symm
          exact absurd rfl (g3'.ne h1)
        have hM6 : Mv B bts none w1 w6 := by
          have hrowA := World.ownsRow.alloc hrow5 (.cells #[.string (strB sc), .int .i64 (c.length : Int)] 25)
          refine ⟨(hM5'.b.alloc (by omega) _).trans ((Below.refl _ _).grown hgr6 (by simp; omega) (fun q hq => by have := (hrowA.lt q hq).1; omega)), fun k cs t fr' hk ht hr => ?_⟩
          have hk5 := hM5'.k k cs t fr' hk ht hr
          have hkA := (heap_past w5 (.cells #[.string (strB sc), .int .i64 (c.length : Int)] 25) k (lt_of_heap hk5)).trans hk5
          refine (hgr6.block k (lt_of_heap hkA) (fun hq => ?_)).trans hkA
          have h1 := (hrowA.lt k hq.symm).1
          have h2 := lt_of_heap hk
          omega
        have HRUN := hide hrun6
        have H6 := hide (And.intro hrow6 (And.intro hBd6 hM6))
        clear hlay hBd5 hM5 hrow5 hM5' hrun6 hrow6 hgr6 hBd6 hM6 x0 x1
        obtain ⟨vnA, vnm, vnc, rfl⟩ := row_form H6.out.1
        go_wp2_with (at_builtin; refine wpList_plain rfl (fun K hK => wp_append_run (.tmp 32) (.tmp 39) 38 rfl rfl rfl HRUN.out (hK _ _ ?_)))
        go_wp2
        go_roundw
        case rel =>
          refine ⟨j + 1, by omega, by go_num, ?_, ?_, ?_, H6.out.2.2⟩
          · rw [HST.out.2.1]; simp
          · rw [HST.out.2.2.1]; unfold partOf; rw [← HSC.out]; exact H6.out.1
          · rw [HST.out.1]; unfold objOf; rw [← HSC.out]; exact H6.out.2.1
        case measure => simp [intOf]; omega
      · have hj1 : j = 1 := by omega
        have htk : (cutC l).take j = cutC l := by rw [hj1, HM.out.2, List.take_length]
        clear hj1
        rw [htk] at hrow hBd
        obtain ⟨va, vm, vc, rfl⟩ := row_form hrow
        have HR := hide (And.intro hrow (And.intro hBd hMr))
        clear hrow hBd hMr htk
        go_wp2
        go_ret
        exact ⟨_, rfl, own_down HR.out.1 HE.out.2.2.1.size, HR.out.2.1, HE.out.2.2.1.trans HR.out.2.2 (Nx.refl _ _)⟩
  · rw [cuts_ends hnil] at hcu
    obtain ⟨m, hm⟩ : ∃ m, m = (endsC (cutC l)).length := ⟨_, rfl⟩
    have hmc : m = (cutC l).length := by rw [hm, endsC_length]
    have hm1 : 1 ≤ m := by omega
    have hm2 : m ≤ 262145 := by omega
    have hnz : ((m : Int) == 0) = false := by rw [beq_eq_false_iff_ne]; omega
    have HM := hide (And.intro hm hmc)
    rw [← hm] at hcu
    clear hm hmc f1 f2 f3 f4 hnil
    go_enter Tryz.func35, Tryz.ntmps35
    go_wp2_with fail
    refine hcu.mono ?_
    rintro e w1 ⟨v, rfl, hov, hb1⟩
    have hBd1 := h.keep hb1
    have hM1 : Mv B bts none w w1 := Mv.of hb1 hB
    have hov' : w1.ownsRow w.heap.size 3 1 v (endsC (cutC l)).length (Gr.ic (endsC (cutC l))) := by rw [← HM.out.1]; exact hov
    obtain ⟨ao, cap, rfl, hc1, hc2⟩ := own_form hov
    have HE := hide (And.intro hov' (And.intro hBd1 (And.intro hM1 hT)))
    clear hcu hb1 hov hov' hBd1 hM1 hT h
    go_wp2_with fail
    go_loopw [20, 7, 6] (fun t u v wr => ∃ j : Nat, j ≤ m ∧ t = .int .i64 j ∧ u = .int .i64 (((cutC l).take j).flatten.length : Int) ∧ Rw w1.heap.size wr 25 2 partC v (((cutC l).take j).map partOf) ∧ BdW B wr g (layC os ((cutC l).take j)) ∧ Mv B bts none w1 wr)
      (fun t _ _ _ => m - (intOf t).toNat)
    case atStart => exact ⟨0, by omega, rfl, rfl, World.ownsRow_nil _ _ _ _, HE.out.2.1, Mv.refl _ _ _ _⟩
    case round =>
      obtain ⟨j, hj, rfl, rfl, hrow, hBd, hMr⟩ := hrel
      by_cases hlt : j < m
      · have hlt2 : j < (cutC l).length := by have := HM.out.2; omega
        have hlt3 : j < (endsC (cutC l)).length := by have := HM.out.1; omega
        have hovr := hMr.own0 HE.out.1 (by decide)
        obtain ⟨bb, rfl, k0⟩ := int_cell hovr hlt3
        have hge := endsC_get (cutC l) j hlt2
        rw [List.getElem?_eq_getElem hlt3] at hge
        injection hge with hge
        rw [hge] at k0
        obtain ⟨hcp1, hcp2⟩ := cut_piece (cutC l) l HF.out.1 j hlt2
        have hc1024 := HF.out.2 _ (List.getElem_mem hlt2)
        have hst := layC_step os (cutC l) j hlt2
        have hfl : ((cutC l).take (j + 1)).flatten.length = ((cutC l).take j).flatten.length + (cutC l)[j].length := by rw [List.take_succ_eq_append_getElem hlt2, List.flatten_append, List.length_append, List.flatten_singleton]
        have hmp : ((cutC l).take (j + 1)).map partOf = ((cutC l).take j).map partOf ++ [partOf (cutC l)[j]] := by rw [List.take_succ_eq_append_getElem hlt2, List.map_append]; rfl
        have hle := layC_le ((cutC l).take j) os
        have hlj : ((cutC l).take j).length ≤ j := by simp; omega
        have hTr : TabW wr := HE.out.2.2.2.keep (HE.out.2.2.1.b.trans hMr.b) h0
        generalize (cutC l)[j] = c at *
        generalize ((cutC l).take j).flatten.length = fr at *
        have hsl := fun W => slice_str W l fr (fr + c.length) (by omega) hcp2
        rw [hcp1] at hsl
        have hch := chunk_any wr c hTr
        have hok : chunkOk c = true := by unfold chunkOk; simpa using hc1024
        rw [hok] at hch
        unfold made at hch
        simp only [if_true] at hch
        rw [objV_def] at hch
        have hcast : ((fr + c.length : Nat) : Int) = (fr : Int) + (c.length : Int) := by omega
        rw [hcast] at k0 hsl
        have hBr : B ≤ wr.heap.size := by have := hMr.size; have := HE.out.2.2.1.size; omega
        have HR := hide (And.intro hrow (And.intro hBd hMr))
        have HST := hide (And.intro hst (And.intro hfl (And.intro hmp hle)))
        clear hovr hge hcp1 hst hfl hmp hle hTr hrow hBd hMr hcast
        obtain ⟨sc, hsc⟩ : ∃ sc, sc = sha (67 :: c) := ⟨_, rfl⟩
        rw [← hsc] at hch
        have HSC := hide hsc
        clear hsc
        go_wp2_with fail
        refine hch.mono ?_
        rintro e w3 ⟨rfl, hb3⟩
        have hw4 : Below w3.heap.size w3 (w3.alloc (.cells #[.string (strB sc), .string (strB (67 :: c))] 57)) := (Below.refl _ _).alloc (Nat.le_refl _) _
        have hx4 := heap_last w3 (.cells #[.string (strB sc), .string (strB (67 :: c))] 57) _ rfl
        have hB34 := hb3.trans (hw4.mono hb3.size)
        generalize hw4e : w3.alloc (.cells #[.string (strB sc), .string (strB (67 :: c))] 57) = w4 at *
        have x0 := cell_of_row w4 w3.heap.size 0 _ _ _ hx4
        have x1 := cell_of_row w4 w3.heap.size 1 _ _ _ hx4
        simp only [List.getElem?_toArray, List.getElem?_cons_zero, List.getElem?_cons_succ] at x0 x1
        have hBd4 := HR.out.2.1.keep hB34
        have hlay := lay_any B w4 g _ (sc, 67 :: c) (c.length : Int) hBd4 (by have := HST.out.2.2.2; omega)
        have hrow4 := own_below HR.out.1 hB34
        have hM4 := HR.out.2.2.more hB34 hBr
        have H4 := hide (And.intro hrow4 hM4)
        have hsub : (fr : Int) + (c.length : Int) - (fr : Int) = (c.length : Int) := by omega
        clear hch hb3 hw4 hB34 hx4 hBd4 hrow4 hM4
        go_wp2_with fail
        refine hlay.mono ?_
        rintro e w5 ⟨rfl, hBd5, hM5⟩
        have hrow5 := hM5.own0 H4.out.1 (by decide)
        have hM5' := H4.out.2.trans hM5 (Nx.refl _ _)
        have hB5 : w1.heap.size ≤ w5.heap.size := hM5'.size
        have hBw1 : B ≤ w1.heap.size := by have := HE.out.2.2.1.size; omega
        obtain ⟨vn, w6, hrun6, hrow6, hgr6, -⟩ := app_part w5 w1.heap.size _ _ (sc, (c.length : Int)) hrow5 hB5 (by simp; omega)
        have hBd6 : BdW B w6 g (layP (layC os ((cutC l).take j)) (sc, 67 :: c)) := by
          obtain ⟨hg, vo, mb, g1, g2, g3, g4⟩ := hBd5
          have hb : Below w5.heap.size w5 (w5.alloc (.cells #[.string (strB sc), .int .i64 (c.length : Int)] 25)) := (Below.refl _ _).alloc (Nat.le_refl _) _
          have hrowA := World.ownsRow.alloc hrow5 (.cells #[.string (strB sc), .int .i64 (c.length : Int)] 25)
          have g1' := (hb.block _ (lt_of_heap g1)).trans g1
          have g2' : Rw B (w5.alloc (.cells #[.string (strB sc), .int .i64 (c.length : Int)] 25)) 57 2 pairC vo _ := World.ownsRow.alloc g2 _
          have g3' := g3.same (hb.block _ g3.lt)
          refine ⟨hg, vo, mb, grow_keep hrowA hgr6 g1' (by decide), grow_other g2' hrowA hgr6 (own_ne g2' hrowA (by decide)), g3'.same (hgr6.block mb g3'.lt (fun hq => ?_)), g4⟩
          obtain ⟨c', fz, h1⟩ := Lib.ownsRow_kind hrowA mb hq.symm
          exact absurd rfl (g3'.ne h1)
        have hM6 : Mv B bts none w1 w6 := by
          have hrowA := World.ownsRow.alloc hrow5 (.cells #[.string (strB sc), .int .i64 (c.length : Int)] 25)
          refine ⟨(hM5'.b.alloc (by omega) _).trans ((Below.refl _ _).grown hgr6 (by simp; omega) (fun q hq => by have := (hrowA.lt q hq).1; omega)), fun k cs t fr' hk ht hr => ?_⟩
          have hk5 := hM5'.k k cs t fr' hk ht hr
          have hkA := (heap_past w5 (.cells #[.string (strB sc), .int .i64 (c.length : Int)] 25) k (lt_of_heap hk5)).trans hk5
          refine (hgr6.block k (lt_of_heap hkA) (fun hq => ?_)).trans hkA
          have h1 := (hrowA.lt k hq.symm).1
          have h2 := lt_of_heap hk
          omega
        have HRUN := hide hrun6
        have H6 := hide (And.intro hrow6 (And.intro hBd6 hM6))
        clear hlay hBd5 hM5 hrow5 hM5' hrun6 hrow6 hgr6 hBd6 hM6 x0 x1
        obtain ⟨vnA, vnm, vnc, rfl⟩ := row_form H6.out.1
        go_wp2_with (at_builtin; refine wpList_plain rfl (fun K hK => wp_append_run (.tmp 32) (.tmp 39) 38 rfl rfl rfl HRUN.out (hK _ _ ?_)))
        go_wp2
        go_roundw
        case rel =>
          refine ⟨j + 1, by omega, by go_num, ?_, ?_, ?_, H6.out.2.2⟩
          · rw [HST.out.2.1]; simp
          · rw [HST.out.2.2.1]; unfold partOf; rw [← HSC.out]; exact H6.out.1
          · rw [HST.out.1]; unfold objOf; rw [← HSC.out]; exact H6.out.2.1
        case measure => simp [intOf]; omega
      · obtain rfl : j = m := by omega
        have htk : (cutC l).take j = cutC l := by rw [HM.out.2, List.take_length]
        rw [htk] at hrow hBd
        obtain ⟨va, vm, vc, rfl⟩ := row_form hrow
        have HR := hide (And.intro hrow (And.intro hBd hMr))
        clear hrow hBd hMr htk
        go_wp2
        go_ret
        exact ⟨_, rfl, own_down HR.out.1 HE.out.2.2.1.size, HR.out.2.1, HE.out.2.2.1.trans HR.out.2.2 (Nx.refl _ _)⟩
end Go.Proofs.YtljhnakjkocanaaGreatDoor
