/-
  Texts joined: BChunks, BLay2.
-/
import Derived.Test.YtokebnkgjchfaaaGreatDoorS21BLay
import Derived.Test.YtokebnkgjchfaaaGreatDoorS22GPlain
import Derived.Test.YtokebnkgjchfaaaGreatDoorS16ORTakeF
/-
  A file's chunks laid. Conditions: the table holds its numbers; the building lies there; a file's length.
-/
namespace Go.Proofs.YtokebnkgjchfaaaGreatDoor
open Go.RowKit

/-- A chunk's object, its part. -/
def objOf (c : Bs) : Pair := (sha (67 :: c), 67 :: c)
def partOf (c : Bs) : Part := (sha (67 :: c), (c.length : Int))
/-- A file's chunks: one of no bytes, if it has none. -/
def cutC (l : Bs) : List Bs := if l = [] then [[]] else Gr.chunks l
def layC (os : List Pair) (cs : List Bs) : List Pair := cs.foldl (fun os c => layP os (objOf c)) os
theorem layC_step (os : List Pair) (cs : List Bs) (j : Nat) (h : j < cs.length) : layC os (cs.take (j + 1)) = layP (layC os (cs.take j)) (objOf cs[j]) := by
  unfold layC
  rw [List.take_succ_eq_append_getElem h, List.foldl_append]
  rfl
theorem layC_le : ∀ (cs : List Bs) (os : List Pair), (layC os cs).length ≤ os.length + cs.length
  | [], os => by simp [layC]
  | c :: r, os => by
    have h1 := layC_le r (layP os (objOf c))
    have h2 := layP_le os (objOf c)
    show (layC (layP os (objOf c)) r).length ≤ _
    simp
    omega
/-- Places behind parts of a text. -/
def endsC (cs : List Bs) : List Nat := Gr.sums 0 cs
theorem endsC_get (cs : List Bs) (j : Nat) (h : j < cs.length) : (endsC cs)[j]? = some ((cs.take j).flatten.length + cs[j].length) := by
  unfold endsC
  rw [Gr.sums_get 0 cs j h, List.take_succ_eq_append_getElem h, List.flatten_append, List.length_append, List.flatten_singleton, Nat.zero_add]
theorem cut_piece (cs : List Bs) (l : Bs) (hl : cs.flatten = l) (j : Nat) (h : j < cs.length) : (l.take ((cs.take j).flatten.length + cs[j].length)).drop (cs.take j).flatten.length = cs[j] ∧ (cs.take j).flatten.length + cs[j].length ≤ l.length := by
  have e : l = (cs.take j).flatten ++ (cs[j] ++ (cs.drop (j + 1)).flatten) := by
    have e1 : cs.flatten = (cs.take j).flatten ++ (cs.drop j).flatten := by rw [← List.flatten_append, List.take_append_drop]
    rw [← hl, e1, List.drop_eq_getElem_cons h, List.flatten_cons]
  constructor
  · rw [e, List.take_append]
    simp
  · rw [e]; simp
theorem cutC_facts (l : Bs) : (cutC l).flatten = l ∧ (∀ c ∈ cutC l, c.length ≤ 1024) ∧ 1 ≤ (cutC l).length := by
  unfold cutC
  by_cases h : l = []
  · rw [if_pos h, h]; simp
  · rw [if_neg h]
    refine ⟨Gr.chunks_flat l, fun c hc => ?_, ?_⟩
    · obtain ⟨j, hj, rfl⟩ := List.getElem_of_mem hc
      exact ((Gr.chunks_tail l).size hj).2.1
    · cases hq : Gr.chunks l with
      | nil =>
        have := Gr.chunks_flat l
        rw [hq] at this
        exact absurd this.symm h
      | cons c r => simp
theorem cuts_ends {l : Bs} (h : l ≠ []) : Gr.cuts l = endsC (cutC l) := by unfold cutC; rw [if_neg h]; rfl
theorem endsC_length (cs : List Bs) : (endsC cs).length = cs.length := Gr.sums_length 0 cs
theorem cutC_le (l : Bs) : (cutC l).length ≤ l.length + 1 := by
  unfold cutC
  by_cases h : l = []
  · rw [if_pos h]; simp
  · rw [if_neg h]
    have hm : ∀ c ∈ Gr.chunks l, 1 ≤ c.length := fun c hc => by
      obtain ⟨j, hj, rfl⟩ := List.getElem_of_mem hc
      exact ((Gr.chunks_tail l).size hj).1
    have : ∀ (cs : List Bs), (∀ c ∈ cs, 1 ≤ c.length) → cs.length ≤ cs.flatten.length := by
      intro cs
      induction cs with
      | nil => simp
      | cons c r ih =>
        intro hc
        have h1 := ih (fun d hd => hc d (by simp [hd]))
        have h2 := hc c (by simp)
        simp at h1 ⊢
        omega
    have h3 := this _ hm
    rw [Gr.chunks_flat] at h3
    omega
theorem int_cell {w : World} {B : Nat} {ao : Option Addr} {m cap : Nat} {ns : List Nat} (h : w.ownsRow B 3 1 (.slice ao m cap) ns.length (Gr.ic ns)) {j : Nat} (hj : j < ns.length) : ∃ b, ao = some ⟨b, 0, none⟩ ∧ w.cell? ⟨b, j, none⟩ = some (.int .i64 (ns[j] : Int)) := by
  rcases h.2 with ⟨-, h0⟩ | ⟨b, c, cur, hv, -⟩
  · omega
  · injection hv with h1 h2 h3
    refine ⟨b, h1, ?_⟩
    have := World.ownsRow.cells h (g := b) (by rw [h1]; rfl) j _ (Gr.ic_get ns j hj)
    rw [Addr.add_lit, Nat.zero_add] at this
    exact this
set_option maxRecDepth 40000 in
set_option maxHeartbeats 1600000 in
/-- The loop of layChunks, whatever the places. -/
theorem layChunks_any (B : Nat) (w : World) (g : Nat) (os : List Pair) (l : Bs) (h : BdW B w g os) (hT : TabW w) (h0 : 0 < B) (hl : l.length ≤ 262144) (hn : os.length ≤ 1000000) :
    Calls Tryz.prog 35 #[.pointer (some ⟨g, 0, none⟩), .string (strB l)] w fun e w' => ∃ v, e = .returned v ∧ Rw w.heap.size w' 25 2 partC v ((cutC l).map partOf) ∧ BdW B w' g (layC os (cutC l)) ∧ Mv B bts none w w' := by
  have hB : B ≤ w.heap.size := by
    obtain ⟨hg, vo, mb, hh, -⟩ := h
    have := lt_of_heap hh
    omega
  have hcu := Gr.cuts_any w l (by omega)
  rw [show Gr.strB l = strB l from rfl] at hcu
  obtain ⟨f1, f2, f3⟩ := cutC_facts l
  have f4 := cutC_le l
  have hds := strB_size l
  have HF := hide (And.intro f1 f2)
  by_cases hnil : l = []
  · rw [show Gr.cuts l = [] from by rw [hnil]; rfl] at hcu
    have hm : 1 = (endsC (cutC l)).length := by rw [hnil]; rfl
    have hmc : 1 = (cutC l).length := by rw [hnil]; rfl
    have HM := hide (And.intro hm hmc)
    have hm2 : 1 ≤ 262145 := by omega
    have HNIL := hide hnil
    clear hm hmc f1 f2 f3 f4 hnil
    go_enter Tryz.func35, Tryz.ntmps35
    go_wp2_with fail
    refine hcu.mono ?_
    rintro e w0 ⟨v, rfl, hov, hb0⟩
    obtain ⟨ao0, cap0, rfl, -, -⟩ := own_form hov
    have hb1 : Below w.heap.size w (w0.alloc (.cells #[.int .i64 0] 3)) := hb0.alloc hb0.size _
    have hx1 := heap_last w0 (.cells #[.int .i64 0] 3) _ rfl
    generalize hw1 : w0.alloc (.cells #[.int .i64 0] 3) = w1 at *
    have hBd1 := h.keep hb1
    have hM1 : Mv B bts none w w1 := Mv.of hb1 hB
    have hov' : w1.ownsRow w.heap.size 3 1 (.slice (some ⟨w0.heap.size, 0, none⟩) 1 1) (endsC (cutC l)).length (Gr.ic (endsC (cutC l))) := by
      rw [HNIL.out]
      exact ⟨rfl, .inr ⟨w0.heap.size, 1, #[.int .i64 0], rfl, hb0.size, hx1, Nat.le_refl _, by unfold maxLen; omega, rfl, rfl⟩⟩
    have HE := hide (And.intro hov' (And.intro hBd1 (And.intro hM1 hT)))
    clear hcu hb1 hov hov' hBd1 hM1 hT h hb0 hx1
    go_wp2_with fail
    go_loopw [20, 7, 6] (fun t u v wr => ∃ j : Nat, j ≤ 1 ∧ t = .int .i64 j ∧ u = .int .i64 (((cutC l).take j).flatten.length : Int) ∧ Rw w1.heap.size wr 25 2 partC v (((cutC l).take j).map partOf) ∧ BdW B wr g (layC os ((cutC l).take j)) ∧ Mv B bts none w1 wr)
      (fun t _ _ _ => 1 - (intOf t).toNat)
    case atStart => exact ⟨0, by omega, rfl, rfl, World.ownsRow_nil _ _ _ _, HE.out.2.1, Mv.refl _ _ _ _⟩
    case round =>
      obtain ⟨j, hj, rfl, rfl, hrow, hBd, hMr⟩ := hrel
      by_cases hlt : j < 1
      · have hlt2 : j < (cutC l).length := by have := HM.out.2; omega
        have hlt3 : j < (endsC (cutC l)).length := by have := HM.out.1; omega
        have hovr := hMr.own0 HE.out.1 (by decide)
        obtain ⟨bb, hbb, k0⟩ := int_cell hovr hlt3
        injection hbb with hbb
        injection hbb with hbb
        subst hbb
        have hge := endsC_get (cutC l) j hlt2
        rw [List.getElem?_eq_getElem hlt3] at hge
        injection hge with hge
        rw [hge] at k0
        obtain ⟨hcp1, hcp2⟩ := cut_piece (cutC l) l HF.out.1 j hlt2
        have hc1024 := HF.out.2 _ (List.getElem_mem hlt2)
        have hst := layC_step os (cutC l) j hlt2
        have hfl : ((cutC l).take (j + 1)).flatten.length = ((cutC l).take j).flatten.length + (cutC l)[j].length := by rw [List.take_succ_eq_append_getElem hlt2, List.flatten_append, List.length_append, List.flatten_singleton]
        have hmp : ((cutC l).take (j + 1)).map partOf = ((cutC l).take j).map partOf ++ [partOf (cutC l)[j]] := by rw [List.take_succ_eq_append_getElem hlt2, List.map_append]; rfl
        have hle := layC_le ((cutC l).take j) os
        have hlj : ((cutC l).take j).length ≤ j := by simp; omega
        have hTr : TabW wr := HE.out.2.2.2.keep (HE.out.2.2.1.b.trans hMr.b) h0
        generalize (cutC l)[j] = c at *
        generalize ((cutC l).take j).flatten.length = fr at *
        have hsl := fun W => slice_str W l fr (fr + c.length) (by omega) hcp2
        rw [hcp1] at hsl
        have hch := chunk_any wr c hTr
        have hok : chunkOk c = true := by unfold chunkOk; simpa using hc1024
        rw [hok] at hch
        unfold made at hch
        simp only [if_true] at hch
        rw [objV_def] at hch
        have hcast : ((fr + c.length : Nat) : Int) = (fr : Int) + (c.length : Int) := by omega
        rw [hcast] at k0 hsl
        have hBr : B ≤ wr.heap.size := by have := hMr.size; have := HE.out.2.2.1.size; omega
        have HR := hide (And.intro hrow (And.intro hBd hMr))
        have HST := hide (And.intro hst (And.intro hfl (And.intro hmp hle)))
        clear hovr hge hcp1 hst hfl hmp hle hTr hrow hBd hMr hcast
        obtain ⟨sc, hsc⟩ : ∃ sc, sc = sha (67 :: c) := ⟨_, rfl⟩
        rw [← hsc] at hch
        have HSC := hide hsc
        clear hsc
        go_wp2_with fail
        refine hch.mono ?_
        rintro e w3 ⟨rfl, hb3⟩
        have hw4 : Below w3.heap.size w3 (w3.alloc (.cells #[.string (strB sc), .string (strB (67 :: c))] 57)) := (Below.refl _ _).alloc (Nat.le_refl _) _
        have hx4 := heap_last w3 (.cells #[.string (strB sc), .string (strB (67 :: c))] 57) _ rfl
        have hB34 := hb3.trans (hw4.mono hb3.size)
        generalize hw4e : w3.alloc (.cells #[.string (strB sc), .string (strB (67 :: c))] 57) = w4 at *
        have x0 := cell_of_row w4 w3.heap.size 0 _ _ _ hx4
        have x1 := cell_of_row w4 w3.heap.size 1 _ _ _ hx4
        simp only [List.getElem?_toArray, List.getElem?_cons_zero, List.getElem?_cons_succ] at x0 x1
        have hBd4 := HR.out.2.1.keep hB34
        have hlay := lay_any B w4 g _ (sc, 67 :: c) (c.length : Int) hBd4 (by have := HST.out.2.2.2; omega)
        have hrow4 := own_below HR.out.1 hB34
        have hM4 := HR.out.2.2.more hB34 hBr
        have H4 := hide (And.intro hrow4 hM4)
        have hsub : (fr : Int) + (c.length : Int) - (fr : Int) = (c.length : Int) := by omega
        clear hch hb3 hw4 hB34 hx4 hBd4 hrow4 hM4
        go_wp2_with fail
        refine hlay.mono ?_
        rintro e w5 ⟨rfl, hBd5, hM5⟩
        have hrow5 := hM5.own0 H4.out.1 (by decide)
        have hM5' := H4.out.2.trans hM5 (Nx.refl _ _)
        have hB5 : w1.heap.size ≤ w5.heap.size := hM5'.size
        have hBw1 : B ≤ w1.heap.size := by have := HE.out.2.2.1.size; omega
        obtain ⟨vn, w6, hrun6, hrow6, hgr6, -⟩ := app_part w5 w1.heap.size _ _ (sc, (c.length : Int)) hrow5 hB5 (by simp; omega)
        have hBd6 : BdW B w6 g (layP (layC os ((cutC l).take j)) (sc, 67 :: c)) := by
          obtain ⟨hg, vo, mb, g1, g2, g3, g4⟩ := hBd5
          have hb : Below w5.heap.size w5 (w5.alloc (.cells #[.string (strB sc), .int .i64 (c.length : Int)] 25)) := (Below.refl _ _).alloc (Nat.le_refl _) _
          have hrowA := World.ownsRow.alloc hrow5 (.cells #[.string (strB sc), .int .i64 (c.length : Int)] 25)
          have g1' := (hb.block _ (lt_of_heap g1)).trans g1
          have g2' : Rw B (w5.alloc (.cells #[.string (strB sc), .int .i64 (c.length : Int)] 25)) 57 2 pairC vo _ := World.ownsRow.alloc g2 _
          have g3' := g3.same (hb.block _ g3.lt)
          refine ⟨hg, vo, mb, grow_keep hrowA hgr6 g1' (by decide), grow_other g2' hrowA hgr6 (own_ne g2' hrowA (by decide)), g3'.same (hgr6.block mb g3'.lt (fun hq => ?_)), g4⟩
          obtain ⟨c', fz, h1⟩ := Lib.ownsRow_kind hrowA mb hq.symm
          exact absurd rfl (g3'.ne h1)
        have hM6 : Mv B bts none w1 w6 := by
          have hrowA := World.ownsRow.alloc hrow5 (.cells #[.string (strB sc), .int .i64 (c.length : Int)] 25)
          refine ⟨(hM5'.b.alloc (by omega) _).trans ((Below.refl _ _).grown hgr6 (by simp; omega) (fun q hq => by have := (hrowA.lt q hq).1; omega)), fun k cs t fr' hk ht hr => ?_⟩
          have hk5 := hM5'.k k cs t fr' hk ht hr
          have hkA := (heap_past w5 (.cells #[.string (strB sc), .int .i64 (c.length : Int)] 25) k (lt_of_heap hk5)).trans hk5
          refine (hgr6.block k (lt_of_heap hkA) (fun hq => ?_)).trans hkA
          have h1 := (hrowA.lt k hq.symm).1
          have h2 := lt_of_heap hk
          omega
        have HRUN := hide hrun6
        have H6 := hide (And.intro hrow6 (And.intro hBd6 hM6))
        clear hlay hBd5 hM5 hrow5 hM5' hrun6 hrow6 hgr6 hBd6 hM6 x0 x1
        obtain ⟨vnA, vnm, vnc, rfl⟩ := row_form H6.out.1
        go_wp2_with (at_builtin; refine wpList_plain rfl (fun K hK => wp_append_run (.tmp 32) (.tmp 39) 38 rfl rfl rfl HRUN.out (hK _ _ ?_)))
        go_wp2
        go_roundw
        case rel =>
          refine ⟨j + 1, by omega, by go_num, ?_, ?_, ?_, H6.out.2.2⟩
          · rw [HST.out.2.1]; simp
          · rw [HST.out.2.2.1]; unfold partOf; rw [← HSC.out]; exact H6.out.1
          · rw [HST.out.1]; unfold objOf; rw [← HSC.out]; exact H6.out.2.1
        case measure => simp [intOf]; omega
      · have hj1 : j = 1 := by omega
        have htk : (cutC l).take j = cutC l := by rw [hj1, HM.out.2, List.take_length]
        clear hj1
        rw [htk] at hrow hBd
        obtain ⟨va, vm, vc, rfl⟩ := row_form hrow
        have HR := hide (And.intro hrow (And.intro hBd hMr))
        clear hrow hBd hMr htk
        go_wp2
        go_ret
        exact ⟨_, rfl, own_down HR.out.1 HE.out.2.2.1.size, HR.out.2.1, HE.out.2.2.1.trans HR.out.2.2 (Nx.refl _ _)⟩
  · rw [cuts_ends hnil] at hcu
    obtain ⟨m, hm⟩ : ∃ m, m = (endsC (cutC l)).length := ⟨_, rfl⟩
    have hmc : m = (cutC l).length := by rw [hm, endsC_length]
    have hm1 : 1 ≤ m := by omega
    have hm2 : m ≤ 262145 := by omega
    have hnz : ((m : Int) == 0) = false := by rw [beq_eq_false_iff_ne]; omega
    have HM := hide (And.intro hm hmc)
    rw [← hm] at hcu
    clear hm hmc f1 f2 f3 f4 hnil
    go_enter Tryz.func35, Tryz.ntmps35
    go_wp2_with fail
    refine hcu.mono ?_
    rintro e w1 ⟨v, rfl, hov, hb1⟩
    have hBd1 := h.keep hb1
    have hM1 : Mv B bts none w w1 := Mv.of hb1 hB
    have hov' : w1.ownsRow w.heap.size 3 1 v (endsC (cutC l)).length (Gr.ic (endsC (cutC l))) := by rw [← HM.out.1]; exact hov
    obtain ⟨ao, cap, rfl, hc1, hc2⟩ := own_form hov
    have HE := hide (And.intro hov' (And.intro hBd1 (And.intro hM1 hT)))
    clear hcu hb1 hov hov' hBd1 hM1 hT h
    go_wp2_with fail
    go_loopw [20, 7, 6] (fun t u v wr => ∃ j : Nat, j ≤ m ∧ t = .int .i64 j ∧ u = .int .i64 (((cutC l).take j).flatten.length : Int) ∧ Rw w1.heap.size wr 25 2 partC v (((cutC l).take j).map partOf) ∧ BdW B wr g (layC os ((cutC l).take j)) ∧ Mv B bts none w1 wr)
      (fun t _ _ _ => m - (intOf t).toNat)
    case atStart => exact ⟨0, by omega, rfl, rfl, World.ownsRow_nil _ _ _ _, HE.out.2.1, Mv.refl _ _ _ _⟩
    case round =>
      obtain ⟨j, hj, rfl, rfl, hrow, hBd, hMr⟩ := hrel
      by_cases hlt : j < m
      · have hlt2 : j < (cutC l).length := by have := HM.out.2; omega
        have hlt3 : j < (endsC (cutC l)).length := by have := HM.out.1; omega
        have hovr := hMr.own0 HE.out.1 (by decide)
        obtain ⟨bb, rfl, k0⟩ := int_cell hovr hlt3
        have hge := endsC_get (cutC l) j hlt2
        rw [List.getElem?_eq_getElem hlt3] at hge
        injection hge with hge
        rw [hge] at k0
        obtain ⟨hcp1, hcp2⟩ := cut_piece (cutC l) l HF.out.1 j hlt2
        have hc1024 := HF.out.2 _ (List.getElem_mem hlt2)
        have hst := layC_step os (cutC l) j hlt2
        have hfl : ((cutC l).take (j + 1)).flatten.length = ((cutC l).take j).flatten.length + (cutC l)[j].length := by rw [List.take_succ_eq_append_getElem hlt2, List.flatten_append, List.length_append, List.flatten_singleton]
        have hmp : ((cutC l).take (j + 1)).map partOf = ((cutC l).take j).map partOf ++ [partOf (cutC l)[j]] := by rw [List.take_succ_eq_append_getElem hlt2, List.map_append]; rfl
        have hle := layC_le ((cutC l).take j) os
        have hlj : ((cutC l).take j).length ≤ j := by simp; omega
        have hTr : TabW wr := HE.out.2.2.2.keep (HE.out.2.2.1.b.trans hMr.b) h0
        generalize (cutC l)[j] = c at *
        generalize ((cutC l).take j).flatten.length = fr at *
        have hsl := fun W => slice_str W l fr (fr + c.length) (by omega) hcp2
        rw [hcp1] at hsl
        have hch := chunk_any wr c hTr
        have hok : chunkOk c = true := by unfold chunkOk; simpa using hc1024
        rw [hok] at hch
        unfold made at hch
        simp only [if_true] at hch
        rw [objV_def] at hch
        have hcast : ((fr + c.length : Nat) : Int) = (fr : Int) + (c.length : Int) := by omega
        rw [hcast] at k0 hsl
        have hBr : B ≤ wr.heap.size := by have := hMr.size; have := HE.out.2.2.1.size; omega
        have HR := hide (And.intro hrow (And.intro hBd hMr))
        have HST := hide (And.intro hst (And.intro hfl (And.intro hmp hle)))
        clear hovr hge hcp1 hst hfl hmp hle hTr hrow hBd hMr hcast
        obtain ⟨sc, hsc⟩ : ∃ sc, sc = sha (67 :: c) := ⟨_, rfl⟩
        rw [← hsc] at hch
        have HSC := hide hsc
        clear hsc
        go_wp2_with fail
        refine hch.mono ?_
        rintro e w3 ⟨rfl, hb3⟩
        have hw4 : Below w3.heap.size w3 (w3.alloc (.cells #[.string (strB sc), .string (strB (67 :: c))] 57)) := (Below.refl _ _).alloc (Nat.le_refl _) _
        have hx4 := heap_last w3 (.cells #[.string (strB sc), .string (strB (67 :: c))] 57) _ rfl
        have hB34 := hb3.trans (hw4.mono hb3.size)
        generalize hw4e : w3.alloc (.cells #[.string (strB sc), .string (strB (67 :: c))] 57) = w4 at *
        have x0 := cell_of_row w4 w3.heap.size 0 _ _ _ hx4
        have x1 := cell_of_row w4 w3.heap.size 1 _ _ _ hx4
        simp only [List.getElem?_toArray, List.getElem?_cons_zero, List.getElem?_cons_succ] at x0 x1
        have hBd4 := HR.out.2.1.keep hB34
        have hlay := lay_any B w4 g _ (sc, 67 :: c) (c.length : Int) hBd4 (by have := HST.out.2.2.2; omega)
        have hrow4 := own_below HR.out.1 hB34
        have hM4 := HR.out.2.2.more hB34 hBr
        have H4 := hide (And.intro hrow4 hM4)
        have hsub : (fr : Int) + (c.length : Int) - (fr : Int) = (c.length : Int) := by omega
        clear hch hb3 hw4 hB34 hx4 hBd4 hrow4 hM4
        go_wp2_with fail
        refine hlay.mono ?_
        rintro e w5 ⟨rfl, hBd5, hM5⟩
        have hrow5 := hM5.own0 H4.out.1 (by decide)
        have hM5' := H4.out.2.trans hM5 (Nx.refl _ _)
        have hB5 : w1.heap.size ≤ w5.heap.size := hM5'.size
        have hBw1 : B ≤ w1.heap.size := by have := HE.out.2.2.1.size; omega
        obtain ⟨vn, w6, hrun6, hrow6, hgr6, -⟩ := app_part w5 w1.heap.size _ _ (sc, (c.length : Int)) hrow5 hB5 (by simp; omega)
        have hBd6 : BdW B w6 g (layP (layC os ((cutC l).take j)) (sc, 67 :: c)) := by
          obtain ⟨hg, vo, mb, g1, g2, g3, g4⟩ := hBd5
          have hb : Below w5.heap.size w5 (w5.alloc (.cells #[.string (strB sc), .int .i64 (c.length : Int)] 25)) := (Below.refl _ _).alloc (Nat.le_refl _) _
          have hrowA := World.ownsRow.alloc hrow5 (.cells #[.string (strB sc), .int .i64 (c.length : Int)] 25)
          have g1' := (hb.block _ (lt_of_heap g1)).trans g1
          have g2' : Rw B (w5.alloc (.cells #[.string (strB sc), .int .i64 (c.length : Int)] 25)) 57 2 pairC vo _ := World.ownsRow.alloc g2 _
          have g3' := g3.same (hb.block _ g3.lt)
          refine ⟨hg, vo, mb, grow_keep hrowA hgr6 g1' (by decide), grow_other g2' hrowA hgr6 (own_ne g2' hrowA (by decide)), g3'.same (hgr6.block mb g3'.lt (fun hq => ?_)), g4⟩
          obtain ⟨c', fz, h1⟩ := Lib.ownsRow_kind hrowA mb hq.symm
          exact absurd rfl (g3'.ne h1)
        have hM6 : Mv B bts none w1 w6 := by
          have hrowA := World.ownsRow.alloc hrow5 (.cells #[.string (strB sc), .int .i64 (c.length : Int)] 25)
          refine ⟨(hM5'.b.alloc (by omega) _).trans ((Below.refl _ _).grown hgr6 (by simp; omega) (fun q hq => by have := (hrowA.lt q hq).1; omega)), fun k cs t fr' hk ht hr => ?_⟩
          have hk5 := hM5'.k k cs t fr' hk ht hr
          have hkA := (heap_past w5 (.cells #[.string (strB sc), .int .i64 (c.length : Int)] 25) k (lt_of_heap hk5)).trans hk5
          refine (hgr6.block k (lt_of_heap hkA) (fun hq => ?_)).trans hkA
          have h1 := (hrowA.lt k hq.symm).1
          have h2 := lt_of_heap hk
          omega
        have HRUN := hide hrun6
        have H6 := hide (And.intro hrow6 (And.intro hBd6 hM6))
        clear hlay hBd5 hM5 hrow5 hM5' hrun6 hrow6 hgr6 hBd6 hM6 x0 x1
        obtain ⟨vnA, vnm, vnc, rfl⟩ := row_form H6.out.1
        go_wp2_with (at_builtin; refine wpList_plain rfl (fun K hK => wp_append_run (.tmp 32) (.tmp 39) 38 rfl rfl rfl HRUN.out (hK _ _ ?_)))
        go_wp2
        go_roundw
        case rel =>
          refine ⟨j + 1, by omega, by go_num, ?_, ?_, ?_, H6.out.2.2⟩
          · rw [HST.out.2.1]; simp
          · rw [HST.out.2.2.1]; unfold partOf; rw [← HSC.out]; exact H6.out.1
          · rw [HST.out.1]; unfold objOf; rw [← HSC.out]; exact H6.out.2.1
        case measure => simp [intOf]; omega
      · obtain rfl : j = m := by omega
        have htk : (cutC l).take j = cutC l := by rw [HM.out.2, List.take_length]
        rw [htk] at hrow hBd
        obtain ⟨va, vm, vc, rfl⟩ := row_form hrow
        have HR := hide (And.intro hrow (And.intro hBd hMr))
        clear hrow hBd hMr htk
        go_wp2
        go_ret
        exact ⟨_, rfl, own_down HR.out.1 HE.out.2.2.1.size, HR.out.2.1, HE.out.2.2.1.trans HR.out.2.2 (Nx.refl _ _)⟩
end Go.Proofs.YtokebnkgjchfaaaGreatDoor

/-
  An object laid, with a word on what stays. Conditions: as lay_any's.
-/
namespace Go.Proofs.YtokebnkgjchfaaaGreatDoor
open Go.RowKit

set_option maxRecDepth 40000 in
set_option maxHeartbeats 1600000 in
theorem lay2_any (B : Nat) (w : World) (g : Nat) (os : List Pair) (o : Pair) (z : Int) (h : BdW B w g os) (hn : os.length ≤ 4294967296) (kb : Nat) (cs : Array Value) (hk : w.heap[kb]? = some (.cells cs 57)) (hkv : ∀ vo mv, w.heap[g]? = some (.cells #[vo, mv] 52) → ∀ q, vo.ownBlock = some q → q ≠ kb) :
    Calls Tryz.prog 52 #[.pointer (some ⟨g, 0, none⟩), .agg #[.string (strB o.1), .string (strB o.2)], .int .i64 z] w fun e w' => e = .returned (.agg #[.string (strB o.1), .int .i64 z]) ∧ BdW B w' g (layP os o) ∧ Mv B bts none w w' ∧ w'.heap[kb]? = some (.cells cs 57) := by
  have h' := h
  obtain ⟨hg, vo, mb, hh, hrow, hmap, hmb⟩ := h'
  have hB : B ≤ w.heap.size := by have := lt_of_heap hh; omega
  have hkv := hkv _ _ hh
  have hkl := lt_of_heap hk
  have hb0 : Below w.heap.size w ((w.alloc (.cells #[.string (strB o.1), .string (strB o.2)] 57)).alloc (.cells #[.string ⟨#[]⟩, .int .i64 0] 25)) := ((Below.refl _ _).alloc (Nat.le_refl _) _).alloc (by simp) _
  have hx0 : ((w.alloc (.cells #[.string (strB o.1), .string (strB o.2)] 57)).alloc (.cells #[.string ⟨#[]⟩, .int .i64 0] 25)).heap[w.heap.size]? = some (.cells #[.string (strB o.1), .string (strB o.2)] 57) := (heap_past _ _ _ (by simp)).trans (heap_last w _ _ rfl)
  have hy0 : ((w.alloc (.cells #[.string (strB o.1), .string (strB o.2)] 57)).alloc (.cells #[.string ⟨#[]⟩, .int .i64 0] 25)).heap[w.heap.size + 1]? = some (.cells #[.string ⟨#[]⟩, .int .i64 0] 25) := heap_last _ _ _ (by simp)
  have hs0 : ((w.alloc (.cells #[.string (strB o.1), .string (strB o.2)] 57)).alloc (.cells #[.string ⟨#[]⟩, .int .i64 0] 25)).heap.size = w.heap.size + 2 := by simp
  generalize hw0 : (w.alloc (.cells #[.string (strB o.1), .string (strB o.2)] 57)).alloc (.cells #[.string ⟨#[]⟩, .int .i64 0] 25) = w0 at *
  have hh0 := (hb0.block _ (lt_of_heap hh)).trans hh
  have hrow0 : Rw B w0 57 2 pairC vo os := own_same hrow (fun q hq => hb0.block q (hrow.lt q hq).2)
  have hmap0 := hmap.same (hb0.block _ hmap.lt)
  -- behind the look
  have hb1 : Below w0.heap.size w0 (w0.alloc (.cells #[] 126)).drew := ((Below.refl _ _).alloc (Nat.le_refl _) _).drew
  have hh1 := (hb1.block _ (lt_of_heap hh0)).trans hh0
  have hx1 := (hb1.block _ (lt_of_heap hx0)).trans hx0
  have hy1 := (hb1.block _ (lt_of_heap hy0)).trans hy0
  have hrow1 : Rw B (w0.alloc (.cells #[] 126)).drew 57 2 pairC vo os := own_same hrow0 (fun q hq => hb1.block q (hrow0.lt q hq).2)
  have hmap1 := hmap0.same (hb1.block _ hmap0.lt)
  have l0 := map_look w0.drew mb os o.1 hmap0
  have l1 := map_look (w0.alloc (.cells #[] 126)).drew mb os o.1 hmap1
  have g1 := cell_of_row w0 g 1 _ _ _ hh0
  have x0 := cell_of_row w0 w.heap.size 0 _ _ _ hx0
  have g1' := cell_of_row _ g 1 _ _ _ (show (w0.alloc (.cells #[] 126)).heap[g]? = _ from hh1)
  have x0' := cell_of_row _ w.heap.size 0 _ _ _ (show (w0.alloc (.cells #[] 126)).heap[w.heap.size]? = _ from hx1)
  simp only [List.getElem?_toArray, List.getElem?_cons_zero, List.getElem?_cons_succ] at g1 x0 g1' x0'
  have HVO := hide (fun q (hq' : vo.ownBlock = some q) => (hrow.lt q hq').2)
  have H1 := hide (And.intro hb0 (And.intro hh1 (And.intro hx1 (And.intro hy1 (And.intro hrow1 hmap1)))))
  have HB1 := hide hb1
  have HKB := hide (And.intro ((hb1.block _ (lt_of_heap ((hb0.block _ hkl).trans hk))).trans ((hb0.block _ hkl).trans hk)) hkv)
  unfold layP
  clear hh hrow hmap hh0 hrow0 hmap0 hx0 hy0 hb0 hb1 hh1 hx1 hy1 hrow1 hmap1 h hk hkv
  cases hq : os.any (fun x => x.1 == o.1) with
  | true =>
    rw [hq] at l0 l1
    rw [if_pos rfl]
    go_enter Tryz.func52, Tryz.ntmps52
    go_wp2_with fail
    try rw [hw0]
    refine wp_region_held_drew (S := fun W => W.cell? ⟨g, 1, none⟩ = some (.map (some mb)) ∧ W.cell? ⟨w.heap.size, 0, none⟩ = some (.string (strB o.1)) ∧ (Instr.lookup 50 (.map (some mb)) (.string (strB o.1)) true).run Tryz.prog W = .ok (.tuple #[.agg #[], .bool true]) W) (by kernel_rfl) (⟨g1, x0, l0⟩) (fun hHeld => ?_)
    refine takeJ 0 (v := ?_) ?_ hHeld ?_
    rotate_left
    · rintro w ⟨_, _, _⟩; go_simp; try with_reducible rfl
    refine takeJ 1 (v := ?_) ?_ hHeld ?_
    rotate_left
    · rintro w ⟨_, _, _⟩; go_simp; try with_reducible rfl
    refine takeJ 2 (v := ?_) ?_ hHeld ?_
    rotate_left
    · rintro w ⟨_, _, _⟩; go_simp; try with_reducible rfl
    refine takeJ 3 (v := ?_) ?_ hHeld ?_
    rotate_left
    · rintro w ⟨_, _, _⟩; go_simp; try with_reducible rfl
    refine takeJ 4 (v := ?_) ?_ hHeld ?_
    rotate_left
    · rintro w ⟨_, _, _⟩; go_simp; try with_reducible rfl
    refine takeJ 5 (v := ?_) ?_ hHeld ?_
    rotate_left
    · rintro w ⟨_, _, _⟩; go_simp; try with_reducible rfl
    refine takeJ 6 (v := ?_) ?_ hHeld ?_
    rotate_left
    · rintro w ⟨_, _, _⟩; go_simp; try with_reducible rfl
    refine takeJ 7 (v := ?_) ?_ hHeld ?_
    rotate_left
    · rintro w ⟨_, _, _⟩; go_simp; try with_reducible rfl
    refine takeJ 8 (v := ?_) ?_ hHeld ?_
    rotate_left
    · rintro w ⟨_, _, _⟩; go_simp; try with_reducible rfl
    refine takeJ 9 (v := ?_) ?_ hHeld ?_
    rotate_left
    · rintro w ⟨_, _, _⟩; go_simp; try with_reducible rfl
    refine onlyH (i := 10) rfl (by kernel_rfl) rfl (fun K hK => ?_)
    go_simp
    refine hK.out _ _ (⟨g1', x0', l1⟩) (fun hHeld => ?_)
    clear hK K
    try simp only [Act.put, List.setIfInBounds_toArray, List.set_cons_zero, List.set_cons_succ]
    refine onlyH (i := 11) rfl (by kernel_rfl) rfl (fun K hK => ?_)
    go_simp
    refine hK.out _ _ (⟨g1', x0', l1⟩) (fun hHeld => ?_)
    clear hK K
    try simp only [Act.put, List.setIfInBounds_toArray, List.set_cons_zero, List.set_cons_succ]
    refine takeJ 12 (v := ?_) ?_ hHeld ?_
    rotate_left
    · rintro w ⟨_, _, _⟩; go_simp; try with_reducible rfl
    refine wpAnyH_done (by kernel_rfl) ?_ _
    clear hHeld
    generalize (w0.alloc (.cells #[] 126)).drew = w1 at *
    obtain ⟨hb0, hh1, hx1, hy1, hrow1, hmap1⟩ := H1.out
    have hB01 := hb0.trans (HB1.out.mono (by omega))
    have y0 := cell_of_row w1 (w.heap.size + 1) 0 _ _ _ hy1
    have y1 := cell_of_row w1 (w.heap.size + 1) 1 _ _ _ hy1
    have z0 := cell_of_row w1 w.heap.size 0 _ _ _ hx1
    simp only [List.getElem?_toArray, List.getElem?_cons_zero, List.getElem?_cons_succ] at y0 y1 z0
    have f0 := frozen0 (j := 0) hy1
    have f1 := frozen0 (j := 1) hy1
    have HF := hide (And.intro hB01 (And.intro hh1 (And.intro hrow1 hmap1)))
    clear hb0 hB01 hh1 hrow1 hmap1
    go_wp2
    refine bodyPost_ret (results_cell_row rfl _ _ _ _ _ _ _ rfl (heap_set2 hy1) Tryz.underlying25 rfl Tryz.infoPart) rfl ⟨rfl, ?_, ?_, ?_⟩
    · obtain ⟨hB01, hh1, hrow1, hmap1⟩ := HF.out
      have hm : Mv B [25] none w1 ((w1.setCell ⟨w.heap.size + 1, 0, none⟩ (.string (strB o.1))).setCell ⟨w.heap.size + 1, 1, none⟩ (.int .i64 z)) := ((Mv.refl B _ none w1).set (j := 0) hy1 (by decide) (by omega) _).set (j := 1) (heap_set1a hy1) (by decide) (by omega) _
      exact ⟨hg, vo, mb, hm.k _ _ _ _ hh1 (by decide) (by simp), hm.own0 hrow1 (by decide), map_set (map_set hmap1 hy1 _) (heap_set1a hy1) _, hmb⟩
    · exact ((Mv.of HF.out.1 hB).setNew (j := 0) (by omega) hB _).setNew (j := 1) (by omega) hB _
    · exact (heap_setOther (by omega)).trans ((heap_setOther (by omega)).trans HKB.out.1)
  | false =>
    rw [hq] at l0 l1
    rw [if_neg (by simp)]
    go_enter Tryz.func52, Tryz.ntmps52
    go_wp2_with fail
    try rw [hw0]
    refine wp_region_held_drew (S := fun W => W.cell? ⟨g, 1, none⟩ = some (.map (some mb)) ∧ W.cell? ⟨w.heap.size, 0, none⟩ = some (.string (strB o.1)) ∧ (Instr.lookup 50 (.map (some mb)) (.string (strB o.1)) true).run Tryz.prog W = .ok (.tuple #[.agg #[], .bool false]) W) (by kernel_rfl) (⟨g1, x0, l0⟩) (fun hHeld => ?_)
    refine takeJ 0 (v := ?_) ?_ hHeld ?_
    rotate_left
    · rintro w ⟨_, _, _⟩; go_simp; try with_reducible rfl
    refine takeJ 1 (v := ?_) ?_ hHeld ?_
    rotate_left
    · rintro w ⟨_, _, _⟩; go_simp; try with_reducible rfl
    refine takeJ 2 (v := ?_) ?_ hHeld ?_
    rotate_left
    · rintro w ⟨_, _, _⟩; go_simp; try with_reducible rfl
    refine takeJ 3 (v := ?_) ?_ hHeld ?_
    rotate_left
    · rintro w ⟨_, _, _⟩; go_simp; try with_reducible rfl
    refine takeJ 4 (v := ?_) ?_ hHeld ?_
    rotate_left
    · rintro w ⟨_, _, _⟩; go_simp; try with_reducible rfl
    refine takeJ 5 (v := ?_) ?_ hHeld ?_
    rotate_left
    · rintro w ⟨_, _, _⟩; go_simp; try with_reducible rfl
    refine takeJ 6 (v := ?_) ?_ hHeld ?_
    rotate_left
    · rintro w ⟨_, _, _⟩; go_simp; try with_reducible rfl
    refine takeJ 7 (v := ?_) ?_ hHeld ?_
    rotate_left
    · rintro w ⟨_, _, _⟩; go_simp; try with_reducible rfl
    refine takeJ 8 (v := ?_) ?_ hHeld ?_
    rotate_left
    · rintro w ⟨_, _, _⟩; go_simp; try with_reducible rfl
    refine takeJ 9 (v := ?_) ?_ hHeld ?_
    rotate_left
    · rintro w ⟨_, _, _⟩; go_simp; try with_reducible rfl
    refine onlyH (i := 10) rfl (by kernel_rfl) rfl (fun K hK => ?_)
    go_simp
    refine hK.out _ _ (⟨g1', x0', l1⟩) (fun hHeld => ?_)
    clear hK K
    try simp only [Act.put, List.setIfInBounds_toArray, List.set_cons_zero, List.set_cons_succ]
    refine onlyH (i := 11) rfl (by kernel_rfl) rfl (fun K hK => ?_)
    go_simp
    refine hK.out _ _ (⟨g1', x0', l1⟩) (fun hHeld => ?_)
    clear hK K
    try simp only [Act.put, List.setIfInBounds_toArray, List.set_cons_zero, List.set_cons_succ]
    refine takeJ 12 (v := ?_) ?_ hHeld ?_
    rotate_left
    · rintro w ⟨_, _, _⟩; go_simp; try with_reducible rfl
    refine wpAnyH_done (by kernel_rfl) ?_ _
    clear hHeld
    generalize (w0.alloc (.cells #[] 126)).drew = w1 at *
    obtain ⟨hb0, hh1, hx1, hy1, hrow1, hmap1⟩ := H1.out
    have hB01 := hb0.trans (HB1.out.mono (by omega))
    have hs1 : w.heap.size + 2 ≤ w1.heap.size := by have := HB1.out.size; omega
    obtain ⟨w2, hput, hmap2, hc2, hsz2⟩ := map_put w1.drew mb os o hmap1 hq
    have hne1 : g ≠ mb := hmap1.ne hh1
    have hne2 : w.heap.size ≠ mb := hmap1.ne hx1
    have hne3 : w.heap.size + 1 ≠ mb := hmap1.ne hy1
    have hh2 := (hc2.block g (lt_of_heap hh1) hne1).trans hh1
    have hx2 := (hc2.block w.heap.size (lt_of_heap hx1) hne2).trans hx1
    have hy2 := (hc2.block (w.heap.size + 1) (lt_of_heap hy1) hne3).trans hy1
    have hvlt : ∀ q, vo.ownBlock = some q → q < w.heap.size := HVO.out
    have hrow2 : Rw B w2 57 2 pairC vo os := own_same hrow1 (fun q hq' => hc2.block q (hrow1.lt q hq').2 (by
      obtain ⟨c, fz, h1⟩ := Lib.ownsRow_kind hrow1 q hq'
      exact hmap1.ne h1))
    have hmapE := hmap1
    obtain ⟨es, ck, hes, -⟩ := hmap1
    have hM2 : Mv B bts none w w2 := (Mv.of hB01 hB).drew.map hc2 hmb hes
    have hB2 : B ≤ w2.heap.size := by have := hc2.size; simp at this; omega
    have hs2 : w.heap.size + 2 ≤ w2.heap.size := by have := hc2.size; simp at this; omega
    obtain ⟨vn, w3, hrun3, hrow3, hgr3, -⟩ := app_obj w2.drew B vo os o hrow2 hB2 hn
    rw [drew_alloc] at hrun3 hgr3
    rw [show w2.drew.heap.size = w2.heap.size from rfl] at hrun3
    have hrowA : Rw B (w2.alloc (.cells #[.string (strB o.1), .string (strB o.2)] 57)).drew 57 2 pairC vo os := World.ownsRow.alloc hrow2 _
    have hhA := (heap_past w2 (.cells #[.string (strB o.1), .string (strB o.2)] 57) _ (lt_of_heap hh2)).trans hh2
    have hxA := (heap_past w2 (.cells #[.string (strB o.1), .string (strB o.2)] 57) _ (lt_of_heap hx2)).trans hx2
    have hyA := (heap_past w2 (.cells #[.string (strB o.1), .string (strB o.2)] 57) _ (lt_of_heap hy2)).trans hy2
    have hmA : Mp.MapW (w2.alloc (.cells #[.string (strB o.1), .string (strB o.2)] 57)) mb (laidK (os ++ [o])) := hmap2.same (heap_past w2 (.cells #[.string (strB o.1), .string (strB o.2)] 57) _ hmap2.lt)
    have hh3 := grow_keep hrowA hgr3 (show (w2.alloc _).drew.heap[g]? = _ from hhA) (by decide)
    have hy3 := grow_keep hrowA hgr3 (show (w2.alloc _).drew.heap[w.heap.size + 1]? = _ from hyA) (by decide)
    have hx3 := (hgr3.block w.heap.size (show w.heap.size < (w2.alloc _).heap.size from lt_of_heap hxA) (fun hq' => by have := hvlt _ hq'.symm; omega)).trans hxA
    have hm3 : Mp.MapW w3 mb (laidK (os ++ [o])) := hmA.same (hgr3.block mb hmA.lt (fun hq' => by
      obtain ⟨c, fz, h1⟩ := Lib.ownsRow_kind hrow2 mb hq'.symm
      exact absurd rfl (hmap2.ne h1)))
    have hM3 : Mv B bts none w w3 := (hM2.alloc hB2 _).drew.grown hrowA hgr3 (by decide) (by simp; omega)
    have hM4 : Mv B bts none w (w3.setCell ⟨g, 0, none⟩ vn) := hM3.set hh3 (by decide) hg _
    have hx4 := (heap_setOther (j := 0) (u := vn) (ne_type hx3 hh3 (by decide))).trans hx3
    have hy4 := (heap_setOther (j := 0) (u := vn) (ne_type hy3 hh3 (by decide))).trans hy3
    have hBd : BdW B (w3.setCell ⟨g, 0, none⟩ vn) g (os ++ [o]) := ⟨hg, vn, mb, heap_set1a hh3, own_setCell hrow3 hh3 (by decide) _, map_set hm3 hh3 _, hmb⟩
    have cx : ∀ W : World, W.heap[w.heap.size]? = some (.cells #[.string (strB o.1), .string (strB o.2)] 57) → W.cell? ⟨w.heap.size, 0, none⟩ = some (.string (strB o.1)) ∧ W.cell? ⟨w.heap.size, 1, none⟩ = some (.string (strB o.2)) := fun W hW => by
      have e0 := cell_of_row W w.heap.size 0 _ _ _ hW
      have e1 := cell_of_row W w.heap.size 1 _ _ _ hW
      simp only [List.getElem?_toArray, List.getElem?_cons_zero, List.getElem?_cons_succ] at e0 e1
      exact ⟨e0, e1⟩
    have X1 := hide (cx _ hx1)
    have X2 := hide (cx _ hx2)
    have XA := hide (cx _ hxA)
    have X3 := hide (cx _ hx3)
    have X4 := hide (cx _ hx4)
    have m1 := cell_of_row w1 g 1 _ _ _ hh1
    have m2 := cell_of_row w2 g 1 _ _ _ hh2
    have o2 := cell_of_row w2 g 0 _ _ _ hh2
    have oA := cell_of_row _ g 0 _ _ _ hhA
    have o3 := cell_of_row w3 g 0 _ _ _ hh3
    have c1 := (cx _ hx1).1
    have y0 := cell_of_row _ (w.heap.size + 1) 0 _ _ _ hy4
    have y1 := cell_of_row _ (w.heap.size + 1) 1 _ _ _ hy4
    simp only [List.getElem?_toArray, List.getElem?_cons_zero, List.getElem?_cons_succ] at m1 m2 o2 oA o3 y0 y1
    have f3 := frozen0 (j := 0) hh3
    have f0 := frozen0 (j := 0) hy4
    have f1 := frozen0 (j := 1) hy4
    have hk1 := HKB.out.1
    have hk2 := (hc2.block kb (lt_of_heap hk1) (hmapE.ne hk1)).trans hk1
    have hkA := (heap_past w2 (.cells #[.string (strB o.1), .string (strB o.2)] 57) _ (lt_of_heap hk2)).trans hk2
    have hk3 := (hgr3.block kb (show kb < (w2.alloc _).heap.size from lt_of_heap hkA) (fun hq' => HKB.out.2 _ hq'.symm rfl)).trans hkA
    have hk4 := (heap_setOther (j := 0) (u := vn) (ne_type hk3 hh3 (by decide))).trans hk3
    have HK4 := hide hk4
    clear hk1 hk2 hkA hk3 hk4 hmapE
    have FIN := hide (And.intro hBd (And.intro hM4 hy4))
    have hd4 := (cx _ hx4).1
    have HRUN := hide hrun3
    obtain ⟨vnA, vnm, vnc, rfl⟩ := row_form hrow3
    clear hb0 hB01 hh1 hx1 hy1 hrow1 hmap2 hc2 hne1 hne2 hne3 hh2 hx2 hy2 hvlt hrow2 hes hM2 hrow3 hgr3 hrowA hhA hxA hyA hmA hh3 hy3 hx3 hm3 hM3 hM4 hx4 hy4 hBd cx hsz2 l0 l1 hrun3 g1 x0 g1' x0'
    go_wp2_with fail
    refine wp_region_held_drew (S := fun W => W.cell? ⟨g, 1, none⟩ = some (.map (some mb)) ∧ W.cell? ⟨w.heap.size, 0, none⟩ = some (.string (strB o.1))) (by kernel_rfl) (⟨m1, c1⟩) (fun hHeld => ?_)
    refine takeJ 0 (v := ?_) ?_ hHeld ?_
    rotate_left
    · rintro w ⟨_, _⟩; go_simp; try with_reducible rfl
    refine takeJ 1 (v := ?_) ?_ hHeld ?_
    rotate_left
    · rintro w ⟨_, _⟩; go_simp; try with_reducible rfl
    refine takeJ 2 (v := ?_) ?_ hHeld ?_
    rotate_left
    · rintro w ⟨_, _⟩; go_simp; try with_reducible rfl
    refine takeJ 3 (v := ?_) ?_ hHeld ?_
    rotate_left
    · rintro w ⟨_, _⟩; go_simp; try with_reducible rfl
    refine takeJ 4 (v := ?_) ?_ hHeld ?_
    rotate_left
    · rintro w ⟨_, _⟩; go_simp; try with_reducible rfl
    refine takeJ 5 (v := ?_) ?_ hHeld ?_
    rotate_left
    · rintro w ⟨_, _⟩; go_simp; try with_reducible rfl
    refine takeJ 6 (v := ?_) ?_ hHeld ?_
    rotate_left
    · rintro w ⟨_, _⟩; go_simp; try with_reducible rfl
    refine onlyH (i := 7) rfl (by kernel_rfl) rfl (fun K hK => ?_)
    go_simp
    refine hK.out _ _ (⟨m2, X2.out.1⟩) (fun hHeld => ?_)
    clear hK K
    try simp only [Act.put, List.setIfInBounds_toArray, List.set_cons_zero, List.set_cons_succ]
    refine wpAnyH_done (by kernel_rfl) ?_ _
    clear hHeld
    go_wp2_with fail
    refine wp_region_held_drew (S := fun W => W.cell? ⟨w.heap.size, 0, none⟩ = some (.string (strB o.1)) ∧ W.cell? ⟨w.heap.size, 1, none⟩ = some (.string (strB o.2))) (by kernel_rfl) (X2.out) (fun hHeld => ?_)
    refine takeJ 0 (v := ?_) ?_ hHeld ?_
    rotate_left
    · rintro w ⟨_, _⟩; go_simp; try with_reducible rfl
    refine takeJ 1 (v := ?_) ?_ hHeld ?_
    rotate_left
    · rintro w ⟨_, _⟩; go_simp; try with_reducible rfl
    refine takeJ 2 (v := ?_) ?_ hHeld ?_
    rotate_left
    · rintro w ⟨_, _⟩; go_simp; try with_reducible rfl
    refine takeJ 3 (v := ?_) ?_ hHeld ?_
    rotate_left
    · rintro w ⟨_, _⟩; go_simp; try with_reducible rfl
    refine takeJ 5 (v := ?_) ?_ hHeld ?_
    rotate_left
    · rintro w ⟨_, _⟩; go_simp; try with_reducible rfl
    refine twoH (i := 4) (j := 6) rfl rfl (by kernel_rfl) rfl rfl (fun K hK => ?_) (fun K hK => ?_)
    · go_simp
      refine hK.out _ _ (X2.out) (fun hHeld => ?_)
      clear hK K
      try simp only [Act.put, List.setIfInBounds_toArray, List.set_cons_zero, List.set_cons_succ]
      refine onlyH (i := 6) rfl (by kernel_rfl) rfl (fun K hK => ?_)
      go_simp
      refine hK.out _ _ (XA.out) (fun hHeld => ?_)
      clear hK K
      try simp only [Act.put, List.setIfInBounds_toArray, List.set_cons_zero, List.set_cons_succ]
      refine onlyH (i := 7) rfl (by kernel_rfl) rfl (fun K hK => ?_)
      refine wp_append_run (.tmp 32) (.tmp 34) 26 rfl rfl rfl HRUN.out ?_
      refine hK.out _ _ (X3.out) (fun hHeld => ?_)
      clear hK K
      try simp only [Act.put, List.setIfInBounds_toArray, List.set_cons_zero, List.set_cons_succ]
      refine takeJ 8 (v := ?_) ?_ hHeld ?_
      rotate_left
      · rintro w ⟨_, _⟩; go_simp; try with_reducible rfl
      refine takeJ 9 (v := ?_) ?_ hHeld ?_
      rotate_left
      · rintro w ⟨_, _⟩; go_simp; try with_reducible rfl
      refine onlyH (i := 10) rfl (by kernel_rfl) rfl (fun K hK => ?_)
      go_simp
      refine hK.out _ _ (X4.out) (fun hHeld => ?_)
      clear hK K
      try simp only [Act.put, List.setIfInBounds_toArray, List.set_cons_zero, List.set_cons_succ]
      refine wpAnyH_done (by kernel_rfl) ?_ _
      clear hHeld
      obtain ⟨hBd, hM4, hy4⟩ := FIN.out
      generalize w3.setCell ⟨g, 0, none⟩ (.slice vnA vnm vnc) = w4 at *
      go_wp2
      refine bodyPost_ret (results_cell_row rfl _ _ _ _ _ _ _ rfl (heap_set2 hy4) Tryz.underlying25 rfl Tryz.infoPart) rfl ⟨rfl, ?_, ?_, ?_⟩
      · obtain ⟨-, vo', mb', g1, g2, g3, g4⟩ := hBd
        have hm : Mv B [25] none w4 ((w4.setCell ⟨w.heap.size + 1, 0, none⟩ (.string (strB o.1))).setCell ⟨w.heap.size + 1, 1, none⟩ (.int .i64 z)) := ((Mv.refl B _ none w4).set (j := 0) hy4 (by decide) (by omega) _).set (j := 1) (heap_set1a hy4) (by decide) (by omega) _
        exact ⟨hg, vo', mb', hm.k _ _ _ _ g1 (by decide) (by simp), hm.own0 g2 (by decide), map_set (map_set g3 hy4 _) (heap_set1a hy4) _, g4⟩
      · exact (hM4.setNew (j := 0) (by omega) hB _).setNew (j := 1) (by omega) hB _
      · exact (heap_setOther (by omega)).trans ((heap_setOther (by omega)).trans HK4.out)
    · go_simp
      refine hK.out _ _ (XA.out) (fun hHeld => ?_)
      clear hK K
      try simp only [Act.put, List.setIfInBounds_toArray, List.set_cons_zero, List.set_cons_succ]
      refine onlyH (i := 4) rfl (by kernel_rfl) rfl (fun K hK => ?_)
      go_simp
      refine hK.out _ _ (XA.out) (fun hHeld => ?_)
      clear hK K
      try simp only [Act.put, List.setIfInBounds_toArray, List.set_cons_zero, List.set_cons_succ]
      refine onlyH (i := 7) rfl (by kernel_rfl) rfl (fun K hK => ?_)
      refine wp_append_run (.tmp 32) (.tmp 34) 26 rfl rfl rfl HRUN.out ?_
      refine hK.out _ _ (X3.out) (fun hHeld => ?_)
      clear hK K
      try simp only [Act.put, List.setIfInBounds_toArray, List.set_cons_zero, List.set_cons_succ]
      refine takeJ 8 (v := ?_) ?_ hHeld ?_
      rotate_left
      · rintro w ⟨_, _⟩; go_simp; try with_reducible rfl
      refine takeJ 9 (v := ?_) ?_ hHeld ?_
      rotate_left
      · rintro w ⟨_, _⟩; go_simp; try with_reducible rfl
      refine onlyH (i := 10) rfl (by kernel_rfl) rfl (fun K hK => ?_)
      go_simp
      refine hK.out _ _ (X4.out) (fun hHeld => ?_)
      clear hK K
      try simp only [Act.put, List.setIfInBounds_toArray, List.set_cons_zero, List.set_cons_succ]
      refine wpAnyH_done (by kernel_rfl) ?_ _
      clear hHeld
      obtain ⟨hBd, hM4, hy4⟩ := FIN.out
      generalize w3.setCell ⟨g, 0, none⟩ (.slice vnA vnm vnc) = w4 at *
      go_wp2
      refine bodyPost_ret (results_cell_row rfl _ _ _ _ _ _ _ rfl (heap_set2 hy4) Tryz.underlying25 rfl Tryz.infoPart) rfl ⟨rfl, ?_, ?_, ?_⟩
      · obtain ⟨-, vo', mb', g1, g2, g3, g4⟩ := hBd
        have hm : Mv B [25] none w4 ((w4.setCell ⟨w.heap.size + 1, 0, none⟩ (.string (strB o.1))).setCell ⟨w.heap.size + 1, 1, none⟩ (.int .i64 z)) := ((Mv.refl B _ none w4).set (j := 0) hy4 (by decide) (by omega) _).set (j := 1) (heap_set1a hy4) (by decide) (by omega) _
        exact ⟨hg, vo', mb', hm.k _ _ _ _ g1 (by decide) (by simp), hm.own0 g2 (by decide), map_set (map_set g3 hy4 _) (heap_set1a hy4) _, g4⟩
      · exact (hM4.setNew (j := 0) (by omega) hB _).setNew (j := 1) (by omega) hB _
      · exact (heap_setOther (by omega)).trans ((heap_setOther (by omega)).trans HK4.out)
end Go.Proofs.YtokebnkgjchfaaaGreatDoor
