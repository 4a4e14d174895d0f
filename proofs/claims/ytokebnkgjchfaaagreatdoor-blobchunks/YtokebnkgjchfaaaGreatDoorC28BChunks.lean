/-
  Texts joined: BChunks, BBuild1, BShown, BSame, BSameP.
-/
import Derived.Test.YtokebnkgjchfaaaGreatDoorC26BLay
import Derived.Test.YtokebnkgjchfaaaGreatDoorC27GPlain
import Derived.Test.YtokebnkgjchfaaaGreatDoorC16ORTakeF
import Derived.Test.YtokebnkgjchfaaaGreatDoorC20BGo
import Derived.Test.YtokebnkgjchfaaaGreatDoorC21BRead
import Derived.Laws.StructEq
/-
  A file's chunks laid. Conditions: the table holds its numbers; the building lies there; a file's length.
-/
namespace Go.Proofs.YtokebnkgjchfaaaGreatDoor
open Go.RowKit

/-- A chunk's object, its part. -/
def objOf (c : Bs) : Pair := (sha (67 :: c), 67 :: c)
def partOf (c : Bs) : Part := (sha (67 :: c), (c.length : Int))
/-- A file's chunks: one of no bytes, if it has none. -/
def cutC (l : Bs) : List Bs := if l = [] then [[]] else Gr.chunks l
def layC (os : List Pair) (cs : List Bs) : List Pair := cs.foldl (fun os c => layP os (objOf c)) os
theorem layC_step (os : List Pair) (cs : List Bs) (j : Nat) (h : j < cs.length) : layC os (cs.take (j + 1)) = layP (layC os (cs.take j)) (objOf cs[j]) := by
  unfold layC
  rw [List.take_succ_eq_append_getElem h, List.foldl_append]
  rfl
theorem layC_le : ∀ (cs : List Bs) (os : List Pair), (layC os cs).length ≤ os.length + cs.length
  | [], os => by simp [layC]
  | c :: r, os => by
    have h1 := layC_le r (layP os (objOf c))
    have h2 := layP_le os (objOf c)
    show (layC (layP os (objOf c)) r).length ≤ _
    simp
    omega
/-- Places behind parts of a text. -/
def endsC (cs : List Bs) : List Nat := Gr.sums 0 cs
theorem endsC_get (cs : List Bs) (j : Nat) (h : j < cs.length) : (endsC cs)[j]? = some ((cs.take j).flatten.length + cs[j].length) := by
  unfold endsC
  rw [Gr.sums_get 0 cs j h, List.take_succ_eq_append_getElem h, List.flatten_append, List.length_append, List.flatten_singleton, Nat.zero_add]
theorem cut_piece (cs : List Bs) (l : Bs) (hl : cs.flatten = l) (j : Nat) (h : j < cs.length) : (l.take ((cs.take j).flatten.length + cs[j].length)).drop (cs.take j).flatten.length = cs[j] ∧ (cs.take j).flatten.length + cs[j].length ≤ l.length := by
  have e : l = (cs.take j).flatten ++ (cs[j] ++ (cs.drop (j + 1)).flatten) := by
    have e1 : cs.flatten = (cs.take j).flatten ++ (cs.drop j).flatten := by rw [← List.flatten_append, List.take_append_drop]
    rw [← hl, e1, List.drop_eq_getElem_cons h, List.flatten_cons]
  constructor
  · rw [e, List.take_append]
    simp
  · rw [e]; simp
theorem cutC_facts (l : Bs) : (cutC l).flatten = l ∧ (∀ c ∈ cutC l, c.length ≤ 1024) ∧ 1 ≤ (cutC l).length := by
  unfold cutC
  by_cases h : l = []
  · rw [if_pos h, h]; simp
  · rw [if_neg h]
    refine ⟨Gr.chunks_flat l, fun c hc => ?_, ?_⟩
    · obtain ⟨j, hj, rfl⟩ := List.getElem_of_mem hc
      exact ((Gr.chunks_tail l).size hj).2.1
    · cases hq : Gr.chunks l with
      | nil =>
        have := Gr.chunks_flat l
        rw [hq] at this
        exact absurd this.symm h
      | cons c r => simp
theorem cuts_ends {l : Bs} (h : l ≠ []) : Gr.cuts l = endsC (cutC l) := by unfold cutC; rw [if_neg h]; rfl
theorem endsC_length (cs : List Bs) : (endsC cs).length = cs.length := Gr.sums_length 0 cs
theorem cutC_le (l : Bs) : (cutC l).length ≤ l.length + 1 := by
  unfold cutC
  by_cases h : l = []
  · rw [if_pos h]; simp
  · rw [if_neg h]
    have hm : ∀ c ∈ Gr.chunks l, 1 ≤ c.length := fun c hc => by
      obtain ⟨j, hj, rfl⟩ := List.getElem_of_mem hc
      exact ((Gr.chunks_tail l).size hj).1
    have : ∀ (cs : List Bs), (∀ c ∈ cs, 1 ≤ c.length) → cs.length ≤ cs.flatten.length := by
      intro cs
      induction cs with
      | nil => simp
      | cons c r ih =>
        intro hc
        have h1 := ih (fun d hd => hc d (by simp [hd]))
        have h2 := hc c (by simp)
        simp at h1 ⊢
        omega
    have h3 := this _ hm
    rw [Gr.chunks_flat] at h3
    omega
theorem int_cell {w : World} {B : Nat} {ao : Option Addr} {m cap : Nat} {ns : List Nat} (h : w.ownsRow B 3 1 (.slice ao m cap) ns.length (Gr.ic ns)) {j : Nat} (hj : j < ns.length) : ∃ b, ao = some ⟨b, 0, none⟩ ∧ w.cell? ⟨b, j, none⟩ = some (.int .i64 (ns[j] : Int)) := by
  rcases h.2 with ⟨-, h0⟩ | ⟨b, c, cur, hv, -⟩
  · omega
  · injection hv with h1 h2 h3
    refine ⟨b, h1, ?_⟩
    have := World.ownsRow.cells h (g := b) (by rw [h1]; rfl) j _ (Gr.ic_get ns j hj)
    rw [Addr.add_lit, Nat.zero_add] at this
    exact this
set_option maxRecDepth 40000 in
set_option maxHeartbeats 1600000 in
/-- The loop of layChunks, whatever the places. -/
theorem layChunks_any (B : Nat) (w : World) (g : Nat) (os : List Pair) (l : Bs) (h : BdW B w g os) (hT : TabW w) (h0 : 0 < B) (hl : l.length ≤ 262144) (hn : os.length ≤ 1000000) :
    Calls Tryz.prog 35 #[.pointer (some ⟨g, 0, none⟩), .string (strB l)] w fun e w' => ∃ v, e = .returned v ∧ Rw w.heap.size w' 25 2 partC v ((cutC l).map partOf) ∧ BdW B w' g (layC os (cutC l)) ∧ Mv B bts none w w' := by
  have hB : B ≤ w.heap.size := by
    obtain ⟨hg, vo, mb, hh, -⟩ := h
    have := lt_of_heap hh
    omega
  have hcu := Gr.cuts_any w l (by omega)
  rw [show Gr.strB l = strB l from rfl] at hcu
  obtain ⟨f1, f2, f3⟩ := cutC_facts l
  have f4 := cutC_le l
  have hds := strB_size l
  have HF := hide (And.intro f1 f2)
  by_cases hnil : l = []
  · rw [show Gr.cuts l = [] from by rw [hnil]; rfl] at hcu
    have hm : 1 = (endsC (cutC l)).length := by rw [hnil]; rfl
    have hmc : 1 = (cutC l).length := by rw [hnil]; rfl
    have HM := hide (And.intro hm hmc)
    have hm2 : 1 ≤ 262145 := by omega
    have HNIL := hide hnil
    clear hm hmc f1 f2 f3 f4 hnil
    go_enter Tryz.func35, Tryz.ntmps35
    go_wp2_with fail
    refine hcu.mono ?_
    rintro e w0 ⟨v, rfl, hov, hb0⟩
    obtain ⟨ao0, cap0, rfl, -, -⟩ := own_form hov
    have hb1 : Below w.heap.size w (w0.alloc (.cells #[.int .i64 0] 3)) := hb0.alloc hb0.size _
    have hx1 := heap_last w0 (.cells #[.int .i64 0] 3) _ rfl
    generalize hw1 : w0.alloc (.cells #[.int .i64 0] 3) = w1 at *
    have hBd1 := h.keep hb1
    have hM1 : Mv B bts none w w1 := Mv.of hb1 hB
    have hov' : w1.ownsRow w.heap.size 3 1 (.slice (some ⟨w0.heap.size, 0, none⟩) 1 1) (endsC (cutC l)).length (Gr.ic (endsC (cutC l))) := by
      rw [HNIL.out]
      exact ⟨rfl, .inr ⟨w0.heap.size, 1, #[.int .i64 0], rfl, hb0.size, hx1, Nat.le_refl _, by unfold maxLen; omega, rfl, rfl⟩⟩
    have HE := hide (And.intro hov' (And.intro hBd1 (And.intro hM1 hT)))
    clear hcu hb1 hov hov' hBd1 hM1 hT h hb0 hx1
    go_wp2_with fail
    go_loopw [20, 7, 6] (fun t u v wr => ∃ j : Nat, j ≤ 1 ∧ t = .int .i64 j ∧ u = .int .i64 (((cutC l).take j).flatten.length : Int) ∧ Rw w1.heap.size wr 25 2 partC v (((cutC l).take j).map partOf) ∧ BdW B wr g (layC os ((cutC l).take j)) ∧ Mv B bts none w1 wr)
      (fun t _ _ _ => 1 - (intOf t).toNat)
    case atStart => exact ⟨0, by omega, rfl, rfl, World.ownsRow_nil _ _ _ _, HE.out.2.1, Mv.refl _ _ _ _⟩
    case round =>
      obtain ⟨j, hj, rfl, rfl, hrow, hBd, hMr⟩ := hrel
      by_cases hlt : j < 1
      · have hlt2 : j < (cutC l).length := by have := HM.out.2; omega
        have hlt3 : j < (endsC (cutC l)).length := by have := HM.out.1; omega
        have hovr := hMr.own0 HE.out.1 (by decide)
        obtain ⟨bb, hbb, k0⟩ := int_cell hovr hlt3
        injection hbb with hbb
        injection hbb with hbb
        subst hbb
        have hge := endsC_get (cutC l) j hlt2
        rw [List.getElem?_eq_getElem hlt3] at hge
        injection hge with hge
        rw [hge] at k0
        obtain ⟨hcp1, hcp2⟩ := cut_piece (cutC l) l HF.out.1 j hlt2
        have hc1024 := HF.out.2 _ (List.getElem_mem hlt2)
        have hst := layC_step os (cutC l) j hlt2
        have hfl : ((cutC l).take (j + 1)).flatten.length = ((cutC l).take j).flatten.length + (cutC l)[j].length := by rw [List.take_succ_eq_append_getElem hlt2, List.flatten_append, List.length_append, List.flatten_singleton]
        have hmp : ((cutC l).take (j + 1)).map partOf = ((cutC l).take j).map partOf ++ [partOf (cutC l)[j]] := by rw [List.take_succ_eq_append_getElem hlt2, List.map_append]; rfl
        have hle := layC_le ((cutC l).take j) os
        have hlj : ((cutC l).take j).length ≤ j := by simp; omega
        have hTr : TabW wr := HE.out.2.2.2.keep (HE.out.2.2.1.b.trans hMr.b) h0
        generalize (cutC l)[j] = c at *
        generalize ((cutC l).take j).flatten.length = fr at *
        have hsl := fun W => slice_str W l fr (fr + c.length) (by omega) hcp2
        rw [hcp1] at hsl
        have hch := chunk_any wr c hTr
        have hok : chunkOk c = true := by unfold chunkOk; simpa using hc1024
        rw [hok] at hch
        unfold made at hch
        simp only [if_true] at hch
        rw [objV_def] at hch
        have hcast : ((fr + c.length : Nat) : Int) = (fr : Int) + (c.length : Int) := by omega
        rw [hcast] at k0 hsl
        have hBr : B ≤ wr.heap.size := by have := hMr.size; have := HE.out.2.2.1.size; omega
        have HR := hide (And.intro hrow (And.intro hBd hMr))
        have HST := hide (And.intro hst (And.intro hfl (And.intro hmp hle)))
        clear hovr hge hcp1 hst hfl hmp hle hTr hrow hBd hMr hcast
        obtain ⟨sc, hsc⟩ : ∃ sc, sc = sha (67 :: c) := ⟨_, rfl⟩
        rw [← hsc] at hch
        have HSC := hide hsc
        clear hsc
        go_wp2_with fail
        refine hch.mono ?_
        rintro e w3 ⟨rfl, hb3⟩
        have hw4 : Below w3.heap.size w3 (w3.alloc (.cells #[.string (strB sc), .string (strB (67 :: c))] 57)) := (Below.refl _ _).alloc (Nat.le_refl _) _
        have hx4 := heap_last w3 (.cells #[.string (strB sc), .string (strB (67 :: c))] 57) _ rfl
        have hB34 := hb3.trans (hw4.mono hb3.size)
        generalize hw4e : w3.alloc (.cells #[.string (strB sc), .string (strB (67 :: c))] 57) = w4 at *
        have x0 := cell_of_row w4 w3.heap.size 0 _ _ _ hx4
        have x1 := cell_of_row w4 w3.heap.size 1 _ _ _ hx4
        simp only [List.getElem?_toArray, List.getElem?_cons_zero, List.getElem?_cons_succ] at x0 x1
        have hBd4 := HR.out.2.1.keep hB34
        have hlay := lay_any B w4 g _ (sc, 67 :: c) (c.length : Int) hBd4 (by have := HST.out.2.2.2; omega)
        have hrow4 := own_below HR.out.1 hB34
        have hM4 := HR.out.2.2.more hB34 hBr
        have H4 := hide (And.intro hrow4 hM4)
        have hsub : (fr : Int) + (c.length : Int) - (fr : Int) = (c.length : Int) := by omega
        clear hch hb3 hw4 hB34 hx4 hBd4 hrow4 hM4
        go_wp2_with fail
        refine hlay.mono ?_
        rintro e w5 ⟨rfl, hBd5, hM5⟩
        have hrow5 := hM5.own0 H4.out.1 (by decide)
        have hM5' := H4.out.2.trans hM5 (Nx.refl _ _)
        have hB5 : w1.heap.size ≤ w5.heap.size := hM5'.size
        have hBw1 : B ≤ w1.heap.size := by have := HE.out.2.2.1.size; omega
        obtain ⟨vn, w6, hrun6, hrow6, hgr6, -⟩ := app_part w5 w1.heap.size _ _ (sc, (c.length : Int)) hrow5 hB5 (by simp; omega)
        have hBd6 : BdW B w6 g (layP (layC os ((cutC l).take j)) (sc, 67 :: c)) := by
          obtain ⟨hg, vo, mb, g1, g2, g3, g4⟩ := hBd5
          have hb : Below w5.heap.size w5 (w5.alloc (.cells #[.string (strB sc), .int .i64 (c.length : Int)] 25)) := (Below.refl _ _).alloc (Nat.le_refl _) _
          have hrowA := World.ownsRow.alloc hrow5 (.cells #[.string (strB sc), .int .i64 (c.length : Int)] 25)
          have g1' := (hb.block _ (lt_of_heap g1)).trans g1
          have g2' : Rw B (w5.alloc (.cells #[.string (strB sc), .int .i64 (c.length : Int)] 25)) 57 2 pairC vo _ := World.ownsRow.alloc g2 _
          have g3' := g3.same (hb.block _ g3.lt)
          refine ⟨hg, vo, mb, grow_keep hrowA hgr6 g1' (by decide), grow_other g2' hrowA hgr6 (own_ne g2' hrowA (by decide)), g3'.same (hgr6.block mb g3'.lt (fun hq => ?_)), g4⟩
          obtain ⟨c', fz, h1⟩ := Lib.ownsRow_kind hrowA mb hq.symm
          exact absurd rfl (g3'.ne h1)
        have hM6 : Mv B bts none w1 w6 := by
          have hrowA := World.ownsRow.alloc hrow5 (.cells #[.string (strB sc), .int .i64 (c.length : Int)] 25)
          refine ⟨(hM5'.b.alloc (by omega) _).trans ((Below.refl _ _).grown hgr6 (by simp; omega) (fun q hq => by have := (hrowA.lt q hq).1; omega)), fun k cs t fr' hk ht hr => ?_⟩
          have hk5 := hM5'.k k cs t fr' hk ht hr
          have hkA := (heap_past w5 (.cells #[.string (strB sc), .int .i64 (c.length : Int)] 25) k (lt_of_heap hk5)).trans hk5
          refine (hgr6.block k (lt_of_heap hkA) (fun hq => ?_)).trans hkA
          have h1 := (hrowA.lt k hq.symm).1
          have h2 := lt_of_heap hk
          omega
        have HRUN := hide hrun6
        have H6 := hide (And.intro hrow6 (And.intro hBd6 hM6))
        clear hlay hBd5 hM5 hrow5 hM5' hrun6 hrow6 hgr6 hBd6 hM6 x0 x1
        obtain ⟨vnA, vnm, vnc, rfl⟩ := row_form H6.out.1
        go_wp2_with (at_builtin; refine wpList_plain rfl (fun K hK => wp_append_run (.tmp 32) (.tmp 39) 38 rfl rfl rfl HRUN.out (hK _ _ ?_)))
        go_wp2
        go_roundw
        case rel =>
          refine ⟨j + 1, by omega, by go_num, ?_, ?_, ?_, H6.out.2.2⟩
          · rw [HST.out.2.1]; simp
          · rw [HST.out.2.2.1]; unfold partOf; rw [← HSC.out]; exact H6.out.1
          · rw [HST.out.1]; unfold objOf; rw [← HSC.out]; exact H6.out.2.1
        case measure => simp [intOf]; omega
      · have hj1 : j = 1 := by omega
        have htk : (cutC l).take j = cutC l := by rw [hj1, HM.out.2, List.take_length]
        clear hj1
        rw [htk] at hrow hBd
        obtain ⟨va, vm, vc, rfl⟩ := row_form hrow
        have HR := hide (And.intro hrow (And.intro hBd hMr))
        clear hrow hBd hMr htk
        go_wp2
        go_ret
        exact ⟨_, rfl, own_down HR.out.1 HE.out.2.2.1.size, HR.out.2.1, HE.out.2.2.1.trans HR.out.2.2 (Nx.refl _ _)⟩
  · rw [cuts_ends hnil] at hcu
    obtain ⟨m, hm⟩ : ∃ m, m = (endsC (cutC l)).length := ⟨_, rfl⟩
    have hmc : m = (cutC l).length := by rw [hm, endsC_length]
    have hm1 : 1 ≤ m := by omega
    have hm2 : m ≤ 262145 := by omega
    have hnz : ((m : Int) == 0) = false := by rw [beq_eq_false_iff_ne]; omega
    have HM := hide (And.intro hm hmc)
    rw [← hm] at hcu
    clear hm hmc f1 f2 f3 f4 hnil
    go_enter Tryz.func35, Tryz.ntmps35
    go_wp2_with fail
    refine hcu.mono ?_
    rintro e w1 ⟨v, rfl, hov, hb1⟩
    have hBd1 := h.keep hb1
    have hM1 : Mv B bts none w w1 := Mv.of hb1 hB
    have hov' : w1.ownsRow w.heap.size 3 1 v (endsC (cutC l)).length (Gr.ic (endsC (cutC l))) := by rw [← HM.out.1]; exact hov
    obtain ⟨ao, cap, rfl, hc1, hc2⟩ := own_form hov
    have HE := hide (And.intro hov' (And.intro hBd1 (And.intro hM1 hT)))
    clear hcu hb1 hov hov' hBd1 hM1 hT h
    go_wp2_with fail
    go_loopw [20, 7, 6] (fun t u v wr => ∃ j : Nat, j ≤ m ∧ t = .int .i64 j ∧ u = .int .i64 (((cutC l).take j).flatten.length : Int) ∧ Rw w1.heap.size wr 25 2 partC v (((cutC l).take j).map partOf) ∧ BdW B wr g (layC os ((cutC l).take j)) ∧ Mv B bts none w1 wr)
      (fun t _ _ _ => m - (intOf t).toNat)
    case atStart => exact ⟨0, by omega, rfl, rfl, World.ownsRow_nil _ _ _ _, HE.out.2.1, Mv.refl _ _ _ _⟩
    case round =>
      obtain ⟨j, hj, rfl, rfl, hrow, hBd, hMr⟩ := hrel
      by_cases hlt : j < m
      · have hlt2 : j < (cutC l).length := by have := HM.out.2; omega
        have hlt3 : j < (endsC (cutC l)).length := by have := HM.out.1; omega
        have hovr := hMr.own0 HE.out.1 (by decide)
        obtain ⟨bb, rfl, k0⟩ := int_cell hovr hlt3
        have hge := endsC_get (cutC l) j hlt2
        rw [List.getElem?_eq_getElem hlt3] at hge
        injection hge with hge
        rw [hge] at k0
        obtain ⟨hcp1, hcp2⟩ := cut_piece (cutC l) l HF.out.1 j hlt2
        have hc1024 := HF.out.2 _ (List.getElem_mem hlt2)
        have hst := layC_step os (cutC l) j hlt2
        have hfl : ((cutC l).take (j + 1)).flatten.length = ((cutC l).take j).flatten.length + (cutC l)[j].length := by rw [List.take_succ_eq_append_getElem hlt2, List.flatten_append, List.length_append, List.flatten_singleton]
        have hmp : ((cutC l).take (j + 1)).map partOf = ((cutC l).take j).map partOf ++ [partOf (cutC l)[j]] := by rw [List.take_succ_eq_append_getElem hlt2, List.map_append]; rfl
        have hle := layC_le ((cutC l).take j) os
        have hlj : ((cutC l).take j).length ≤ j := by simp; omega
        have hTr : TabW wr := HE.out.2.2.2.keep (HE.out.2.2.1.b.trans hMr.b) h0
        generalize (cutC l)[j] = c at *
        generalize ((cutC l).take j).flatten.length = fr at *
        have hsl := fun W => slice_str W l fr (fr + c.length) (by omega) hcp2
        rw [hcp1] at hsl
        have hch := chunk_any wr c hTr
        have hok : chunkOk c = true := by unfold chunkOk; simpa using hc1024
        rw [hok] at hch
        unfold made at hch
        simp only [if_true] at hch
        rw [objV_def] at hch
        have hcast : ((fr + c.length : Nat) : Int) = (fr : Int) + (c.length : Int) := by omega
        rw [hcast] at k0 hsl
        have hBr : B ≤ wr.heap.size := by have := hMr.size; have := HE.out.2.2.1.size; omega
        have HR := hide (And.intro hrow (And.intro hBd hMr))
        have HST := hide (And.intro hst (And.intro hfl (And.intro hmp hle)))
        clear hovr hge hcp1 hst hfl hmp hle hTr hrow hBd hMr hcast
        obtain ⟨sc, hsc⟩ : ∃ sc, sc = sha (67 :: c) := ⟨_, rfl⟩
        rw [← hsc] at hch
        have HSC := hide hsc
        clear hsc
        go_wp2_with fail
        refine hch.mono ?_
        rintro e w3 ⟨rfl, hb3⟩
        have hw4 : Below w3.heap.size w3 (w3.alloc (.cells #[.string (strB sc), .string (strB (67 :: c))] 57)) := (Below.refl _ _).alloc (Nat.le_refl _) _
        have hx4 := heap_last w3 (.cells #[.string (strB sc), .string (strB (67 :: c))] 57) _ rfl
        have hB34 := hb3.trans (hw4.mono hb3.size)
        generalize hw4e : w3.alloc (.cells #[.string (strB sc), .string (strB (67 :: c))] 57) = w4 at *
        have x0 := cell_of_row w4 w3.heap.size 0 _ _ _ hx4
        have x1 := cell_of_row w4 w3.heap.size 1 _ _ _ hx4
        simp only [List.getElem?_toArray, List.getElem?_cons_zero, List.getElem?_cons_succ] at x0 x1
        have hBd4 := HR.out.2.1.keep hB34
        have hlay := lay_any B w4 g _ (sc, 67 :: c) (c.length : Int) hBd4 (by have := HST.out.2.2.2; omega)
        have hrow4 := own_below HR.out.1 hB34
        have hM4 := HR.out.2.2.more hB34 hBr
        have H4 := hide (And.intro hrow4 hM4)
        have hsub : (fr : Int) + (c.length : Int) - (fr : Int) = (c.length : Int) := by omega
        clear hch hb3 hw4 hB34 hx4 hBd4 hrow4 hM4
        go_wp2_with fail
        refine hlay.mono ?_
        rintro e w5 ⟨rfl, hBd5, hM5⟩
        have hrow5 := hM5.own0 H4.out.1 (by decide)
        have hM5' := H4.out.2.trans hM5 (Nx.refl _ _)
        have hB5 : w1.heap.size ≤ w5.heap.size := hM5'.size
        have hBw1 : B ≤ w1.heap.size := by have := HE.out.2.2.1.size; omega
        obtain ⟨vn, w6, hrun6, hrow6, hgr6, -⟩ := app_part w5 w1.heap.size _ _ (sc, (c.length : Int)) hrow5 hB5 (by simp; omega)
        have hBd6 : BdW B w6 g (layP (layC os ((cutC l).take j)) (sc, 67 :: c)) := by
          obtain ⟨hg, vo, mb, g1, g2, g3, g4⟩ := hBd5
          have hb : Below w5.heap.size w5 (w5.alloc (.cells #[.string (strB sc), .int .i64 (c.length : Int)] 25)) := (Below.refl _ _).alloc (Nat.le_refl _) _
          have hrowA := World.ownsRow.alloc hrow5 (.cells #[.string (strB sc), .int .i64 (c.length : Int)] 25)
          have g1' := (hb.block _ (lt_of_heap g1)).trans g1
          have g2' : Rw B (w5.alloc (.cells #[.string (strB sc), .int .i64 (c.length : Int)] 25)) 57 2 pairC vo _ := World.ownsRow.alloc g2 _
          have g3' := g3.same (hb.block _ g3.lt)
          refine ⟨hg, vo, mb, grow_keep hrowA hgr6 g1' (by decide), grow_other g2' hrowA hgr6 (own_ne g2' hrowA (by decide)), g3'.same (hgr6.block mb g3'.lt (fun hq => ?_)), g4⟩
          obtain ⟨c', fz, h1⟩ := Lib.ownsRow_kind hrowA mb hq.symm
          exact absurd rfl (g3'.ne h1)
        have hM6 : Mv B bts none w1 w6 := by
          have hrowA := World.ownsRow.alloc hrow5 (.cells #[.string (strB sc), .int .i64 (c.length : Int)] 25)
          refine ⟨(hM5'.b.alloc (by omega) _).trans ((Below.refl _ _).grown hgr6 (by simp; omega) (fun q hq => by have := (hrowA.lt q hq).1; omega)), fun k cs t fr' hk ht hr => ?_⟩
          have hk5 := hM5'.k k cs t fr' hk ht hr
          have hkA := (heap_past w5 (.cells #[.string (strB sc), .int .i64 (c.length : Int)] 25) k (lt_of_heap hk5)).trans hk5
          refine (hgr6.block k (lt_of_heap hkA) (fun hq => ?_)).trans hkA
          have h1 := (hrowA.lt k hq.symm).1
          have h2 := lt_of_heap hk
          omega
        have HRUN := hide hrun6
        have H6 := hide (And.intro hrow6 (And.intro hBd6 hM6))
        clear hlay hBd5 hM5 hrow5 hM5' hrun6 hrow6 hgr6 hBd6 hM6 x0 x1
        obtain ⟨vnA, vnm, vnc, rfl⟩ := row_form H6.out.1
        go_wp2_with (at_builtin; refine wpList_plain rfl (fun K hK => wp_append_run (.tmp 32) (.tmp 39) 38 rfl rfl rfl HRUN.out (hK _ _ ?_)))
        go_wp2
        go_roundw
        case rel =>
          refine ⟨j + 1, by omega, by go_num, ?_, ?_, ?_, H6.out.2.2⟩
          · rw [HST.out.2.1]; simp
          · rw [HST.out.2.2.1]; unfold partOf; rw [← HSC.out]; exact H6.out.1
          · rw [HST.out.1]; unfold objOf; rw [← HSC.out]; exact H6.out.2.1
        case measure => simp [intOf]; omega
      · obtain rfl : j = m := by omega
        have htk : (cutC l).take j = cutC l := by rw [HM.out.2, List.take_length]
        rw [htk] at hrow hBd
        obtain ⟨va, vm, vc, rfl⟩ := row_form hrow
        have HR := hide (And.intro hrow (And.intro hBd hMr))
        clear hrow hBd hMr htk
        go_wp2
        go_ret
        exact ⟨_, rfl, own_down HR.out.1 HE.out.2.2.1.size, HR.out.2.1, HE.out.2.2.1.trans HR.out.2.2 (Nx.refl _ _)⟩
end Go.Proofs.YtokebnkgjchfaaaGreatDoor

/-
  A file of one chunk built. Conditions: the table holds its numbers.
-/
namespace Go.Proofs.YtokebnkgjchfaaaGreatDoor
open Go.RowKit

theorem results_cell_tmp2_row {P : Program} {fn : Func} {p u v : Tmp} {ty : TypeId} (h : fn.results = #[.cell p ty, .tmp u, .tmp v]) (tmps : Array Value) (w : World) (g : Nat) (t : TypeId) (cs : Array Value) (fr : Nat × Nat) (d : TypeDesc)
    (hp : tmps.getD p undef = .pointer (some ⟨g, 0, none⟩)) (hg : w.heap[g]? = some (.cells cs t fr))
    (hu : P.underlying ty = some d) (hd : (match d with | .struct _ | .array _ _ => true | _ => false) = true) (hi : (P.info? ty).map (·.size) = some cs.size) :
    (results fn tmps).run P w = .ok (.tuple #[.agg cs, tmps.getD u undef, tmps.getD v undef]) w := by
  have hp' : tmps[p]?.getD undef = .pointer (some ⟨g, 0, none⟩) := by simpa using hp
  simp only [results, h]
  simp [hp', asAddr, run_loadVar_row w g t ty cs fr d hg hu hd hi, Result.andThen]
theorem cut_short {l : Bs} (h : l ≠ []) (h2 : l.length ≤ 64) : cutC l = [l] := by
  unfold cutC
  rw [if_neg h]
  unfold Gr.chunks
  rw [Gr.spl_hd [] l [] (fun n hn => Gr.ended_short (by simp; omega))]
  unfold Gr.Sp.all
  simp [h]
set_option maxRecDepth 40000 in
set_option maxHeartbeats 1600000 in
theorem layFile_one (B : Nat) (w : World) (g : Nat) (l c : Bs) (hc : cutC l = [c]) (hg : B ≤ g) (hh : w.heap[g]? = some (.cells #[.slice none 0 0, .map none] 52)) (hT : TabW w) (h0 : 0 < B) (hl : l.length ≤ 262144) :
    Calls Tryz.prog 20 #[.pointer (some ⟨g, 0, none⟩), .string (strB l)] w fun e w' => e = .returned (.agg #[.string (strB (partOf c).1), .int .i64 (partOf c).2]) ∧ BdW B w' g [objOf c] ∧ Mv B bts none w w' := by
  have hB : B ≤ w.heap.size := by have := lt_of_heap hh; omega
  have hb0 : Below w.heap.size w (w.alloc (.cells #[.string ⟨#[]⟩, .int .i64 0] 25)) := (Below.refl _ _).alloc (Nat.le_refl _) _
  have hx0 := heap_last w (.cells #[.string ⟨#[]⟩, .int .i64 0] 25) _ rfl
  have hn0 : (w.alloc (.cells #[.string ⟨#[]⟩, .int .i64 0] 25)).heap.size = w.heap.size + 1 := by simp
  generalize hw0 : w.alloc (.cells #[.string ⟨#[]⟩, .int .i64 0] 25) = w0 at *
  have hh0 := (hb0.block _ (lt_of_heap hh)).trans hh
  have hmk : (Instr.makeMap 50 none).run Tryz.prog w0 = .ok (.map (some w0.heap.size)) (w0.alloc (.map #[] 0)) := by kernel_rfl
  have hb1 : Below w0.heap.size w0 (w0.alloc (.map #[] 0)) := (Below.refl _ _).alloc (Nat.le_refl _) _
  have hh1 := (hb1.block _ (lt_of_heap hh0)).trans hh0
  have hx1 := (hb1.block _ (lt_of_heap hx0)).trans hx0
  have hm1 : Mp.MapW (w0.alloc (.map #[] 0)) w0.heap.size [] := Mp.MapW.made w0
  have hB01 := hb0.trans (hb1.mono hb0.size)
  generalize hw1 : w0.alloc (.map #[] 0) = w1 at *
  have hM2 : Mv B bts none w (w1.setCell ⟨g, 1, none⟩ (.map (some w0.heap.size))) := (Mv.of hB01 hB).set hh1 (by decide) hg _
  have hh2 : (w1.setCell ⟨g, 1, none⟩ (.map (some w0.heap.size))).heap[g]? = some (.cells #[.slice none 0 0, .map (some w0.heap.size)] 52) := by rw [heap_setCell _ _ _ _ _ _ _ hh1]; simp
  have hBd2 : BdW B (w1.setCell ⟨g, 1, none⟩ (.map (some w0.heap.size))) g [] := ⟨hg, _, _, hh2, World.ownsRow_nil _ _ _ _, map_set hm1 hh1 _, by have := hb0.size; omega⟩
  have hx2 := (heap_setOther (j := 1) (u := .map (some w0.heap.size)) (ne_type hx1 hh1 (by decide))).trans hx1
  have k1 := cell_of_row w1 g 1 _ _ _ hh1
  simp only [List.getElem?_toArray, List.getElem?_cons_zero, List.getElem?_cons_succ] at k1
  have f1 := frozen0 (j := 1) hh1
  have hT2 := hT.keep hM2.b h0
  have hlc := layChunks_any B (w1.setCell ⟨g, 1, none⟩ (.map (some w0.heap.size))) g [] l hBd2 hT2 h0 hl (by simp)
  rw [hc] at hlc
  have hs2 : w.heap.size < (w1.setCell ⟨g, 1, none⟩ (.map (some w0.heap.size))).heap.size := lt_of_heap hx2
  have H2 := hide (And.intro hM2 (And.intro hx2 hs2))
  clear hb0 hx0 hn0 hh0 hb1 hh1 hx1 hm1 hB01 hM2 hh2 hBd2 hx2 hT2 hs2
  go_enter Tryz.func20, Tryz.ntmps20
  go_wp2_with fail
  refine hlc.mono ?_
  rintro e w3 ⟨v, rfl, hrow, hBd3, hM3⟩
  have hx3 := hM3.k _ _ _ _ H2.out.2.1 (by decide) (by simp)
  have hM := H2.out.1.trans hM3 (Nx.refl _ _)
  obtain ⟨ao, cap, rfl, hcap, hcap2⟩ := own_form hrow
  obtain ⟨bb, off, rfl, p0, p1⟩ := own_part (xs := [partOf c]) hrow (j := 0) (by simp)
  simp only [List.map_cons, List.map_nil, List.length_cons, List.length_nil, Nat.zero_add, List.getElem_cons_zero, Nat.zero_mul, Nat.add_zero] at p0 p1 hcap hcap2 ⊢
  have hob : layC [] [c] = [objOf c] := by unfold layC layP; simp
  rw [hob] at hBd3
  have x0 := cell_of_row w3 w.heap.size 0 _ _ _ hx3
  have x1 := cell_of_row w3 w.heap.size 1 _ _ _ hx3
  simp only [List.getElem?_toArray, List.getElem?_cons_zero, List.getElem?_cons_succ] at x0 x1
  have f0 := frozen0 (j := 0) hx3
  have f1 := frozen0 (j := 1) hx3
  have H3 := hide (And.intro hBd3 (And.intro hM hx3))
  clear hlc hrow hBd3 hM3 hM hob
  go_wp2_with fail
  go_loopw [5, 6] (fun t u wr => t = .slice (some ⟨bb, off, none⟩) 1 cap ∧ u = .int .i64 1 ∧ wr = w3) (fun _ _ _ => 0)
  case atStart => exact ⟨rfl, rfl, rfl⟩
  case round =>
    obtain ⟨rfl, rfl, rfl⟩ := hrel
    go_wp2
    refine bodyPost_ret (results_cell_row rfl _ _ _ _ _ _ _ rfl (heap_set2 H3.out.2.2) Tryz.underlying25 rfl Tryz.infoPart) rfl ⟨rfl, ?_, ?_⟩
    · obtain ⟨⟨hg', vo', mb', g1, g2, g3, g4⟩, -, hx3⟩ := H3.out
      have hm : Mv B [25] none wr ((wr.setCell ⟨w.heap.size, 0, none⟩ (.string (strB (partOf c).1))).setCell ⟨w.heap.size, 1, none⟩ (.int .i64 (partOf c).2)) := ((Mv.refl B _ none wr).set (j := 0) hx3 (by decide) (by omega) _).set (j := 1) (heap_set1a hx3) (by decide) (by omega) _
      exact ⟨hg', vo', mb', hm.k _ _ _ _ g1 (by decide) (by simp), hm.own0 g2 (by decide), map_set (map_set g3 hx3 _) (heap_set1a hx3) _, g4⟩
    · exact (H3.out.2.1.setNew (j := 0) (by omega) hB _).setNew (j := 1) (by omega) hB _
set_option maxRecDepth 40000 in
set_option maxHeartbeats 1600000 in
theorem build_one (w : World) (l c : Bs) (hc : cutC l = [c]) (hT : TabW w) (hl : l.length ≤ 262144) :
    Calls Tryz.prog 8 #[.string (strB l)] w fun e w' => ∃ v, e = .returned (.tuple #[.agg #[.string (strB (partOf c).1), .int .i64 (partOf c).2], v, .int .i64 0]) ∧ Rw w.heap.size w' 57 2 pairC v [objOf c] ∧ Below w.heap.size w w' := by
  have hs := strB_size l
  have h0 := hT.1
  have hb0 : Below w.heap.size w ((w.alloc (.cells #[.string ⟨#[]⟩, .int .i64 0] 25)).alloc (.cells #[.slice none 0 0, .map none] 52)) := ((Below.refl _ _).alloc (Nat.le_refl _) _).alloc (by simp) _
  have hx0 : ((w.alloc (.cells #[.string ⟨#[]⟩, .int .i64 0] 25)).alloc (.cells #[.slice none 0 0, .map none] 52)).heap[w.heap.size]? = some (.cells #[.string ⟨#[]⟩, .int .i64 0] 25) := (heap_past _ _ _ (by simp)).trans (heap_last w _ _ rfl)
  have hg0 : ((w.alloc (.cells #[.string ⟨#[]⟩, .int .i64 0] 25)).alloc (.cells #[.slice none 0 0, .map none] 52)).heap[w.heap.size + 1]? = some (.cells #[.slice none 0 0, .map none] 52) := heap_last _ _ _ (by simp)
  generalize hw0 : (w.alloc (.cells #[.string ⟨#[]⟩, .int .i64 0] 25)).alloc (.cells #[.slice none 0 0, .map none] 52) = w0 at *
  have hlf := layFile_one w.heap.size w0 (w.heap.size + 1) l c hc (by omega) hg0 (hT.keep hb0 h0) h0 hl
  have H0 := hide (And.intro hb0 hx0)
  have hgt : decide ((262144 : Int) < (l.length : Int)) = false := by simp; omega
  clear hb0 hx0 hg0 hT
  go_enter Tryz.func8, Tryz.ntmps8
  go_wp2_with fail
  try rw [hw0]
  refine hlf.mono ?_
  rintro e w1 ⟨rfl, hBd, hM⟩
  have hx1 := hM.k _ _ _ _ H0.out.2 (by decide) (by simp)
  have hB1 := H0.out.1.trans hM.b
  have hb2 : Below w1.heap.size w1 (w1.alloc (.cells #[.string (strB (partOf c).1), .int .i64 (partOf c).2] 25)) := (Below.refl _ _).alloc (Nat.le_refl _) _
  have hy2 := heap_last w1 (.cells #[.string (strB (partOf c).1), .int .i64 (partOf c).2] 25) _ rfl
  have hx2 := (hb2.block _ (lt_of_heap hx1)).trans hx1
  have hBd2 := hBd.keep hb2
  have hB2 := hB1.trans (hb2.mono hB1.size)
  have hne : w.heap.size ≠ w1.heap.size := Nat.ne_of_lt (lt_of_heap hx1)
  generalize hw2 : w1.alloc (.cells #[.string (strB (partOf c).1), .int .i64 (partOf c).2] 25) = w2 at *
  obtain ⟨-, vo, mb, hh2, hrow2, -, -⟩ := hBd2
  have y0 := cell_of_row w2 w1.heap.size 0 _ _ _ hy2
  have y1 := cell_of_row w2 w1.heap.size 1 _ _ _ hy2
  have o0 := cell_of_row w2 (w.heap.size + 1) 0 _ _ _ hh2
  have x0 := cell_of_row w2 w.heap.size 0 _ _ _ hx2
  have x1 := cell_of_row w2 w.heap.size 1 _ _ _ hx2
  simp only [List.getElem?_toArray, List.getElem?_cons_zero, List.getElem?_cons_succ] at y0 y1 o0 x0 x1
  have f0 := frozen0 (j := 0) hx2
  have f1 := frozen0 (j := 1) hx2
  obtain ⟨va, vm, vc, rfl⟩ := row_form hrow2
  have H2 := hide (And.intro hrow2 (And.intro hB2 hx2))
  have hw3x : ((w2.setCell ⟨w.heap.size, 0, none⟩ (.string (strB (partOf c).1))).setCell ⟨w.heap.size, 1, none⟩ (.int .i64 (partOf c).2)).heap[w1.heap.size]? = _ := (heap_setOther hne.symm).trans ((heap_setOther hne.symm).trans hy2)
  have hw3h : ((w2.setCell ⟨w.heap.size, 0, none⟩ (.string (strB (partOf c).1))).setCell ⟨w.heap.size, 1, none⟩ (.int .i64 (partOf c).2)).heap[w.heap.size + 1]? = _ := (heap_setOther (by omega)).trans ((heap_setOther (by omega)).trans hh2)
  have z0 := cell_of_row _ w1.heap.size 0 _ _ _ hw3x
  have z1 := cell_of_row _ w1.heap.size 1 _ _ _ hw3x
  have z2 := cell_of_row _ (w.heap.size + 1) 0 _ _ _ hw3h
  simp only [List.getElem?_toArray, List.getElem?_cons_zero, List.getElem?_cons_succ] at z0 z1 z2
  clear hlf hBd hM hx1 hB1 hb2 hx2 hB2 hh2 hrow2 hne hw3x hw3h hy2
  go_wp2_with fail
  refine wp_region_held_drew (S := fun W => W.cell? ⟨w1.heap.size, 0, none⟩ = some (.string (strB (partOf c).1)) ∧ W.cell? ⟨w1.heap.size, 1, none⟩ = some (.int .i64 (partOf c).2) ∧ W.cell? ⟨w.heap.size + 1, 0, none⟩ = some (.slice va vm vc)) (by kernel_rfl) (⟨y0, y1, o0⟩) (fun hHeld => ?_)
  refine takeJ 0 (v := ?_) ?_ hHeld ?_
  rotate_left
  · rintro w ⟨_, _, _⟩; go_simp; try with_reducible rfl
  refine takeJ 1 (v := ?_) ?_ hHeld ?_
  rotate_left
  · rintro w ⟨_, _, _⟩; go_simp; try with_reducible rfl
  refine takeJ 2 (v := ?_) ?_ hHeld ?_
  rotate_left
  · rintro w ⟨_, _, _⟩; go_simp; try with_reducible rfl
  refine onlyH (i := 3) rfl (by kernel_rfl) rfl (fun K hK => ?_)
  go_simp
  refine hK.out _ _ (⟨z0, z1, z2⟩) (fun hHeld => ?_)
  clear hK K
  try simp only [Act.put, List.setIfInBounds_toArray, List.set_cons_zero, List.set_cons_succ]
  refine takeJ 4 (v := ?_) ?_ hHeld ?_
  rotate_left
  · rintro w ⟨_, _, _⟩; go_simp; try with_reducible rfl
  refine takeJ 5 (v := ?_) ?_ hHeld ?_
  rotate_left
  · rintro w ⟨_, _, _⟩; go_simp; try with_reducible rfl
  refine wpAnyH_done (by kernel_rfl) ?_ _
  clear hHeld
  go_wp2
  refine bodyPost_ret (results_cell_tmp2_row rfl _ _ _ _ _ _ _ rfl (heap_set2 (show w2.drew.heap[w.heap.size]? = _ from H2.out.2.2)) Tryz.underlying25 rfl Tryz.infoPart) rfl ⟨_, rfl, ?_, ?_⟩
  · exact own_setCell (own_setCell (show w2.drew.ownsRow _ _ _ _ _ _ from H2.out.1) (show w2.drew.heap[w.heap.size]? = _ from H2.out.2.2) (by decide) _) (heap_set1a (show w2.drew.heap[w.heap.size]? = _ from H2.out.2.2)) (by decide) _
  · exact (H2.out.2.1.drew.setCell (p := ⟨w.heap.size, 0, none⟩) (Nat.le_refl _) _).setCell (p := ⟨w.heap.size, 1, none⟩) (Nat.le_refl _) _
end Go.Proofs.YtokebnkgjchfaaaGreatDoor

/-
  What the statements show first. Conditions: the table holds its numbers.
-/
namespace Go.Proofs.YtokebnkgjchfaaaGreatDoor
open Go.RowKit

/-- The get of a list that lies there. -/
theorem get_from {w2 : World} {c : Nat} {v : Value} {objs : List Pair} (ts : List TypeId) (hn : 96 ∈ ts) (hc : w2.heap[c]? = some (.cells #[v] 26)) (hv : Ls w2.heap.size w2 2 pairC v objs) (hs : ∀ o ∈ objs, o.2.length ≤ 140737488351232) :
    GetOk 27 #[.pointer (some ⟨c, 0, none⟩)] (findO objs) w2.heap.size ts (fun W _ => Below w2.heap.size w2 W) where
  eg := enters_own Tryz.func27 (by kernel_rfl) rfl
  le W a h := h.size
  keep W W' a r h hm _ := h.trans hm.b
  call W a id h _ := (from1_any W c v objs id ((h.block c (lt_of_heap hc)).trans hc) ((hv.keep h).up h.size)).mono fun e w' hq => ⟨hq.1, hq.2 ▸ h, hq.2 ▸ Mv.refl _ _ _ _⟩
  node := hn
  short id b h := by obtain ⟨o, ho, rfl⟩ := findO_mem h; exact hs o ho
set_option maxRecDepth 20000 in
theorem from_any (w : World) (ao : Option Addr) (m c : Nat) : Calls Tryz.prog 12 #[.slice ao m c] w fun e w' => e = .returned (.func (.func 27) #[] #[.pointer (some ⟨w.heap.size, 0, none⟩)]) ∧ w' = w.alloc (.cells #[.slice ao m c] 26) := by
  have hmf : ∀ (fn : Fn) (first cap : Array Value) (w : World), (Instr.makeFunc fn first cap).run Tryz.prog w = .ok (.func fn first cap) w := fun _ _ _ _ => rfl
  go_enter Tryz.func12, Tryz.ntmps12
  go_wp2
  go_ret
  exact ⟨rfl, rfl⟩
def someB : Bs := [115, 111, 109, 101, 32, 98, 121, 116, 101, 115]
theorem node_chunk (d : Bs) (h : d.length ≤ 1024) : nodeOf (67 :: d) = some (0, d, []) := by
  unfold nodeOf
  rw [(takenChunk_iff (67 :: d) d).2 ⟨by unfold chunkOk; simpa using h, rfl⟩]
theorem shown_read : readP (findO [objOf someB]) (partOf someB) 5 100 [] = ⟨[(partOf someB).1], [98, 121, 116, 101, 115], [partOf someB], 0⟩ := by
  have hfd : findO [objOf someB] (partOf someB).1 = some (67 :: someB) := by unfold findO objOf partOf; simp
  have hask : askN (findO [objOf someB]) (partOf someB) (-1) = (0, 0, someB, []) := askN_yes hfd (node_chunk someB (by decide)) ⟨rfl, .inl rfl⟩
  have he : endP (partOf someB).2 5 100 = 10 := rfl
  unfold readP
  rw [he, goS_chunk rfl (by show max 5 0 < min 10 (0 + 10); decide) (by rw [hask]) (by rw [hask]), hask]
  rfl
set_option maxRecDepth 40000 in
set_option maxHeartbeats 1600000 in
theorem shown_any (w : World) (hT : TabW w) : Calls Tryz.prog 6 #[] w fun e w' => e = .returned (.bool true) ∧ Below w.heap.size w w' := by
  have hcut : cutC someB = [someB] := cut_short (by decide) (by decide)
  have hbd := build_one w someB someB hcut hT (by decide)
  have hsb : strB someB = ⟨#[115, 111, 109, 101, 32, 98, 121, 116, 101, 115]⟩ := rfl
  have hp2 : (partOf someB).2 = 10 := rfl
  rw [hsb, hp2] at hbd
  have hrr : rightR (partOf someB) = true := (rightR_iff _).2 ⟨sha_length _, by decide, by decide⟩
  have hrd := shown_read
  obtain ⟨p, hp⟩ : ∃ p, p = partOf someB := ⟨_, rfl⟩
  obtain ⟨o, ho⟩ : ∃ o, o = objOf someB := ⟨_, rfl⟩
  have ho2 : o.2.length ≤ 140737488351232 := by rw [ho]; decide
  rw [← hp] at hbd hrr hrd hp2
  rw [← ho] at hbd hrd
  clear hcut hsb hp ho
  go_enter Tryz.func6, Tryz.ntmps6
  go_wp2_with fail
  refine hbd.mono ?_
  rintro e w1 ⟨v, rfl, hrow, hb1⟩
  obtain ⟨ao, m, c, rfl⟩ := row_form hrow
  have hb2 : Below w1.heap.size w1 (w1.alloc (.cells #[.string (strB p.1), .int .i64 10] 25)) := (Below.refl _ _).alloc (Nat.le_refl _) _
  have hx2 := heap_last w1 (.cells #[.string (strB p.1), .int .i64 10] 25) _ rfl
  have hB2 := hb1.trans (hb2.mono hb1.size)
  have hrow2 := own_below hrow hb2
  generalize hw2 : w1.alloc (.cells #[.string (strB p.1), .int .i64 10] 25) = w2 at *
  have hfr := from_any w2.drew ao m c
  have hb3 : Below w2.heap.size w2 (w2.alloc (.cells #[.slice ao m c] 26)).drew := ((Below.refl _ _).alloc (Nat.le_refl _) _).drew
  have hc3 : (w2.alloc (.cells #[.slice ao m c] 26)).drew.heap[w2.heap.size]? = _ := heap_last w2 (.cells #[.slice ao m c] 26) _ rfl
  have hx3 := (hb3.block _ (lt_of_heap hx2)).trans hx2
  have hrow3 := own_below hrow2 hb3
  have hls := ls_of_own (cs := pairC) pairC_length hrow3
  have hG := get_from (w2 := (w2.alloc (.cells #[.slice ao m c] 26)).drew) rts (by decide) hc3 hls (by simpa using ho2)
  have hre := bread_any (w2.alloc (.cells #[.slice ao m c] 26)).drew _ _ _ _ _ hG p 5 100 [] (Below.refl _ _) (by simp) hrr (by decide) (by decide) (by decide) (by decide)
  rw [hrd] at hre
  simp only [readV, if_true, hp2] at hre
  have htl := toL [98, 121, 116, 101, 115]
  have hbq : (([98, 121, 116, 101, 115] : Bs) == [98, 121, 116, 101, 115]) = true := rfl
  have htl2 : (⟨#[98, 121, 116, 101, 115]⟩ : ByteArray).toList = [98, 121, 116, 101, 115] := toL [98, 121, 116, 101, 115]
  have hlen : m = 1 := by
    obtain ⟨a', c', hv, -⟩ := own_form hrow
    injection hv with _ h2 _
  subst hlen
  have y0 := cell_of_row w2 w1.heap.size 0 _ _ _ hx2
  have y1 := cell_of_row w2 w1.heap.size 1 _ _ _ hx2
  have z0 := cell_of_row (w2.alloc (.cells #[.slice ao 1 c] 26)) w1.heap.size 0 _ _ _ hx3
  have z1 := cell_of_row (w2.alloc (.cells #[.slice ao 1 c] 26)) w1.heap.size 1 _ _ _ hx3
  simp only [List.getElem?_toArray, List.getElem?_cons_zero, List.getElem?_cons_succ] at y0 y1 z0 z1
  have H3 := hide (And.intro (hB2.trans (hb3.mono hB2.size)) hx3)
  clear hbd hrow hb1 hb2 hB2 hrow2 hb3 hc3 hrow3 hls hG hrd hx2 hx3 hrr ho2
  go_wp2_with fail
  refine wp_region_held_drew (S := fun W => W.cell? ⟨w1.heap.size, 0, none⟩ = some (.string (strB p.1)) ∧ W.cell? ⟨w1.heap.size, 1, none⟩ = some (.int .i64 10)) (by kernel_rfl) (⟨y0, y1⟩) (fun hHeld => ?_)
  refine takeJ 0 (v := ?_) ?_ hHeld ?_
  rotate_left
  · rintro w ⟨_, _⟩; go_simp; try with_reducible rfl
  refine takeJ 2 (v := ?_) ?_ hHeld ?_
  rotate_left
  · rintro w ⟨_, _⟩; go_simp; try with_reducible rfl
  refine onlyH (i := 1) rfl (by kernel_rfl) rfl (fun K hK => ?_)
  go_simp
  refine hfr.mono ?_
  rintro e w3 ⟨rfl, rfl⟩
  go_simp
  refine hK.out _ _ (⟨z0, z1⟩) (fun hHeld => ?_)
  clear hK K
  try simp only [Act.put, List.setIfInBounds_toArray, List.set_cons_zero, List.set_cons_succ]
  refine onlyH (i := 3) rfl (by kernel_rfl) rfl (fun K hK => ?_)
  go_simp
  refine hre.mono ?_
  rintro e w4 ⟨rfl, -, hM4⟩
  have hx4 := hM4.k _ _ _ _ H3.out.2 (by decide) (by simp)
  have u0 := cell_of_row w4 w1.heap.size 0 _ _ _ hx4
  have u1 := cell_of_row w4 w1.heap.size 1 _ _ _ hx4
  simp only [List.getElem?_toArray, List.getElem?_cons_zero, List.getElem?_cons_succ] at u0 u1
  refine hK.out _ _ (⟨u0, u1⟩) (fun hHeld => ?_)
  clear hK K
  try simp only [Act.put, List.setIfInBounds_toArray, List.set_cons_zero, List.set_cons_succ]
  refine takeJ 4 (v := ?_) ?_ hHeld ?_
  rotate_left
  · rintro w ⟨_, _⟩; go_simp; try with_reducible rfl
  refine takeJ 5 (v := ?_) ?_ hHeld ?_
  rotate_left
  · rintro w ⟨_, _⟩; go_simp; try with_reducible rfl
  refine takeJ 6 (v := ?_) ?_ hHeld ?_
  rotate_left
  · rintro w ⟨_, _⟩; go_simp; try with_reducible rfl
  refine takeJ 7 (v := ?_) ?_ hHeld ?_
  rotate_left
  · rintro w ⟨_, _⟩; go_simp; try with_reducible rfl
  refine takeJ 8 (v := ?_) ?_ hHeld ?_
  rotate_left
  · rintro w ⟨_, _⟩; go_simp; try with_reducible rfl
  refine wpAnyH_done (by kernel_rfl) ?_ _
  clear hHeld
  have H4 := hide (H3.out.1.trans (hM4.b.mono (by have := H3.out.1.size; exact this)))
  clear hM4 hre hfr hx4
  go_wp2
  go_ret
  exact ⟨rfl, H4.out⟩
end Go.Proofs.YtokebnkgjchfaaaGreatDoor

/-
  Are two lists of texts the same? Conditions: they lie there.
-/
namespace Go.Proofs.YtokebnkgjchfaaaGreatDoor
open Go.RowKit

set_option maxRecDepth 20000 in
theorem same_ids (w : World) (v u : Value) (xs ys : List Bs) (h : Ls w.heap.size w 1 idC v xs) (k : Ls w.heap.size w 1 idC u ys) :
    Calls Tryz.prog 18 #[v, u] w fun e w' => e = .returned (.bool (decide (xs = ys))) ∧ Below w.heap.size w w' := by
  obtain ⟨ao, ca, rfl, h1, h2, h4⟩ := h
  obtain ⟨bo, cb, rfl, k1, k2, k4⟩ := k
  unfold maxLen at h2 k2
  by_cases hl : xs.length = ys.length
  · go_enter Tryz.func18, Tryz.ntmps18
    go_wp2
    go_loopw [5] (fun t wr => ∃ j : Nat, t = .int .i64 (j : Int) ∧ j ≤ xs.length ∧ (∀ i, i < j → xs[i]? = ys[i]?) ∧ Below w.heap.size w wr)
      (fun t _ => xs.length - (intOf t).toNat)
    case atStart => exact ⟨0, rfl, by omega, (fun i hi => by omega), Below.refl _ _⟩
    case round =>
      obtain ⟨j, rfl, hj, he, hb⟩ := hrel
      by_cases hlt : j < xs.length
      · have hlt2 : j < ys.length := by omega
        obtain ⟨b1, o1, rfl, hb1, hc1⟩ := h4 (by rintro rfl; simp at hlt)
        obtain ⟨b2, o2, rfl, hb2, hc2⟩ := k4 (by rintro rfl; simp at hlt2)
        have c1 := (hb.cell (p := ⟨b1, o1 + j * 1 + 0, none⟩) hb1).trans (hc1 j hlt 0 _ rfl)
        have c2 := (hb.cell (p := ⟨b2, o2 + j * 1 + 0, none⟩) hb2).trans (hc2 j hlt2 0 _ rfl)
        simp only [Nat.mul_one, Nat.add_zero] at c1 c2
        have n1 : xs[j]? = some xs[j] := by simp [hlt]
        have n2 : ys[j]? = some ys[j] := by simp [hlt2]
        clear hc1 hc2 h4 k4
        generalize xs[j] = x at *
        generalize ys[j] = y at *
        have t1 := toL x
        have t2 := toL y
        by_cases hxy : x = y
        · subst hxy
          go_wp2_with fail
          go_region
          go_wp2_with fail
          refine ⟨⟨j + 1, by go_num, by omega, (fun i hi => ?_), hb.drew⟩, by simp [intOf]; omega⟩
          by_cases hij : i = j
          · subst hij; rw [n1, n2]
          · exact he i (by omega)
        · have bxy : (x == y) = false := by simp [hxy]
          go_wp2_with fail
          go_region
          go_wp2_with fail
          go_ret
          refine ⟨?_, hb.drew⟩
          rw [decide_eq_false]
          · rfl
          rintro rfl
          rw [n1] at n2
          exact hxy (Option.some.inj n2)
      · have hjl : j = xs.length := by omega
        subst hjl
        go_wp2_with fail
        go_ret
        refine ⟨?_, hb⟩
        rw [decide_eq_true]
        · rfl
        refine List.ext_getElem? fun i => ?_
        by_cases hi : i < xs.length
        · exact he i hi
        · rw [List.getElem?_eq_none (by omega), List.getElem?_eq_none (by omega)]
  · have hne : ((xs.length : Int) != (ys.length : Int)) = true := by simp; omega
    go_enter Tryz.func18, Tryz.ntmps18
    go_wp2
    go_ret
    refine ⟨?_, Below.refl _ _⟩
    rw [decide_eq_false (fun h => hl (by rw [h]))]
    rfl
end Go.Proofs.YtokebnkgjchfaaaGreatDoor

/-
  Are two lists of parts the same? Conditions: they lie there.
-/
namespace Go.Proofs.YtokebnkgjchfaaaGreatDoor
open Go.RowKit

/-- Are two the same? -/
def same1 {α : Type} [DecidableEq α] (x y : α) : Bool := decide (x = y)
theorem same1_true {α : Type} [DecidableEq α] {x y : α} (h : x = y) : same1 x y = true := decide_eq_true h
theorem same1_false {α : Type} [DecidableEq α] {x y : α} (h : ¬ x = y) : same1 x y = false := decide_eq_false h
theorem Tryz.eqPart : Tryz.prog.underlying 25 = some (.struct (Tryz.prog.fieldsOf 25)) ∧ Tryz.prog.stoodInHeld 25 = false ∧ Tryz.prog.eqGuardType Tryz.prog.depth 25 = false := ⟨by kernel_rfl, by kernel_rfl, by kernel_rfl⟩
theorem neq_Part (W : World) (a0 b0 : Bs) (a1 b1 : Int) : (binOp .neq 25 (.agg #[.string (strB a0), .int .i64 a1]) (.agg #[.string (strB b0), .int .i64 b1])).run Tryz.prog W = .ok (.bool (!(a0 == b0 && a1 == b1))) W := by
  obtain ⟨h1, h2, h3⟩ := Tryz.eqPart
  rw [run_neq_struct, run_equalIn_agg _ _ _ _ _ h1 h2]
  simp only [Program.fieldsOf, Tryz.underlying25]
  by_cases q0 : a0 = b0 <;> by_cases q1 : a1 = b1 <;> simp [Op.eqFields, go_sem, Tryz.underlying9, Tryz.underlying2, toL, q0, q1]
theorem neqPart (W : World) (x y : Part) : (binOp .neq 25 (.agg #[.string (strB x.1), .int .i64 x.2]) (.agg #[.string (strB y.1), .int .i64 y.2])).run Tryz.prog W = .ok (.bool (!(same1 x y))) W := by
  rw [neq_Part, show (x.1 == y.1 && x.2 == y.2) = same1 x y from by unfold same1; rw [Bool.eq_iff_iff]; simp [Prod.ext_iff]]
theorem take_step {α : Type} {xs ys : List α} {k : Nat} (h1 : k < xs.length) (h2 : k < ys.length) (h : xs.take k = ys.take k) (he : xs[k] = ys[k]) : xs.take (k + 1) = ys.take (k + 1) := by
  rw [List.take_succ_eq_append_getElem h1, List.take_succ_eq_append_getElem h2, h, he]
set_option maxRecDepth 20000 in
set_option maxHeartbeats 800000 in
theorem same_parts (w : World) (xs ys : List (Part)) (vx vy : Value) (hvx : Ls w.heap.size w 2 partC vx xs) (hvy : Ls w.heap.size w 2 partC vy ys) :
    Calls Tryz.prog 17 #[vx, vy] w fun e w' => e = .returned (.bool (decide (xs = ys))) ∧ Below w.heap.size w w' := by
  obtain ⟨ax, capx, rfl, gx1, gx2, hx⟩ := hvx
  obtain ⟨ay, capy, rfl, gy1, gy2, hy⟩ := hvy
  unfold maxLen at gx2 gy2
  by_cases hle : xs.length = ys.length
  rotate_left
  · have hle' : ((xs.length : Int) == (ys.length : Int)) = false := by simp; omega
    go_enter Tryz.func17, Tryz.ntmps17
    go_wp2_with fail
    skip
    try go_wp2
    go_ret
    exact ⟨ret_bool (Eq.symm (decide_eq_false (fun e => hle (congrArg List.length e)))), Below.refl _ _⟩
  rw [hle] at gx1 ⊢
  have HLE := hide hle
  clear hle
  go_enter Tryz.func17, Tryz.ntmps17
  go_wp2_with fail
  skip
  go_loopw [5] (fun t wr => ∃ k : Nat, k ≤ ys.length ∧ t = .int .i64 k ∧ xs.take k = ys.take k ∧ Below w.heap.size w wr)
    (fun t _ => ys.length - (intOf t).toNat)
  case atStart => exact ⟨0, by omega, rfl, by simp, Below.refl _ _⟩
  case round =>
    obtain ⟨k, hk, rfl, htk, hbr⟩ := hrel
    have hbw : Below w.heap.size w wr := hbr
    have HB := hide hbr
    have HBW := hide hbw
    have HTK := hide htk
    clear hbr hbw htk
    by_cases hlt2 : k < ys.length
    · have hlt : k < xs.length := by rw [HLE.out]; exact hlt2
      obtain ⟨bx, offx, rfl, hbX, hcx⟩ := hx (by intro e; rw [e] at hlt; simp at hlt)
      obtain ⟨bY, offy, rfl, hbYl, hcy⟩ := hy (by intro e; rw [e] at hlt2; simp at hlt2)
      have c0 := (HBW.out.cell (p := ⟨bx, offx + k * 2 + 0, none⟩) hbX).trans (hcx k hlt 0 _ rfl)
      have d0 := (HBW.out.cell (p := ⟨bY, offy + k * 2 + 0, none⟩) hbYl).trans (hcy k hlt2 0 _ rfl)
      have c1 := (HBW.out.cell (p := ⟨bx, offx + k * 2 + 1, none⟩) hbX).trans (hcx k hlt 1 _ rfl)
      have d1 := (HBW.out.cell (p := ⟨bY, offy + k * 2 + 1, none⟩) hbYl).trans (hcy k hlt2 1 _ rfl)
      have hst := fun he => take_step hlt hlt2 HTK.out he
      have hno : xs[k] ≠ ys[k] → xs ≠ ys := fun hne e => hne (by simp only [e])
      generalize xs[k] = x at *
      generalize ys[k] = y at *
      try simp only [Nat.add_zero] at c0 d0 c1 d1
      have HST := hide hst
      have HNO := hide hno
      have hnq : ∀ W, _ := fun W => neqPart W x y
      clear hst hno hcx hcy hx hy hlt
      go_wp2_with fail
      refine wp_region_held_drew (S := fun W => W.cell? ⟨bx, offx + k * 2, none⟩ = some (.string (strB x.1)) ∧ W.cell? ⟨bx, offx + k * 2 + 1, none⟩ = some (.int .i64 x.2) ∧ W.cell? ⟨bY, offy + k * 2, none⟩ = some (.string (strB y.1)) ∧ W.cell? ⟨bY, offy + k * 2 + 1, none⟩ = some (.int .i64 y.2)) (by kernel_rfl) (⟨c0, c1, d0, d1⟩) (fun hHeld => ?_)
      refine takeJ 0 (v := ?_) ?_ hHeld ?_
      rotate_left
      · rintro w ⟨_, _, _, _⟩; go_simp; try with_reducible rfl
      refine takeJ 1 (v := ?_) ?_ hHeld ?_
      rotate_left
      · rintro w ⟨_, _, _, _⟩; go_simp; try with_reducible rfl
      refine takeJ 2 (v := ?_) ?_ hHeld ?_
      rotate_left
      · rintro w ⟨_, _, _, _⟩; go_simp; try with_reducible rfl
      refine takeJ 3 (v := ?_) ?_ hHeld ?_
      rotate_left
      · rintro w ⟨_, _, _, _⟩; go_simp; try with_reducible rfl
      refine takeJ 4 (v := ?_) ?_ hHeld ?_
      rotate_left
      · rintro w ⟨_, _, _, _⟩; go_simp; try with_reducible rfl
      refine takeJ 5 (v := ?_) ?_ hHeld ?_
      rotate_left
      · rintro w ⟨_, _, _, _⟩; go_simp; try with_reducible rfl
      refine takeJ 6 (v := ?_) ?_ hHeld ?_
      rotate_left
      · rintro w ⟨_, _, _, _⟩; go_simp; try with_reducible rfl
      refine takeJ 7 (v := ?_) ?_ hHeld ?_
      rotate_left
      · rintro w ⟨_, _, _, _⟩; go_simp; try with_reducible rfl
      refine takeJ 8 (v := ?_) ?_ hHeld ?_
      rotate_left
      · rintro w ⟨_, _, _, _⟩; go_simp; try with_reducible rfl
      refine wpAnyH_done (by kernel_rfl) ?_ _
      clear hHeld hnq
      have hbD : Below w.heap.size w wr.drew := HB.out.drew
      have HBD := hide hbD
      clear hbD
      by_cases he : x = y
      · have hbe := same1_true he
        rw [hbe]
        go_wp2
        go_roundw
        case rel => exact ⟨k + 1, by omega, by go_num, HST.out he, HBD.out⟩
        case measure => simp [intOf]; omega
      · have hbe := same1_false he
        rw [hbe]
        go_wp2
        go_ret
        exact ⟨ret_bool (Eq.symm (decide_eq_false (fun e => HNO.out he (e)))), HBD.out⟩
    · have hall : xs = ys := by
        have := HTK.out
        have hL := HLE.out
        rwa [List.take_of_length_le (by omega), List.take_of_length_le (by omega)] at this
      go_wp2
      go_ret
      exact ⟨ret_bool (Eq.symm (decide_eq_true (hall))), HBW.out⟩
end Go.Proofs.YtokebnkgjchfaaaGreatDoor
