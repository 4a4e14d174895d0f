/-
  Texts joined: ORFan2, BFind, BRow, BAsked, ORBegun, ORTake.
-/
import Derived.Test.YtokebnkgjchfaaaGreatDoorS14ORFan
import Derived.Test.YtokebnkgjchfaaaGreatDoorS8OChunk
import Derived.Maps.AppendAt
/-
  A fan, made by the reference. Conditions: its parts lie there; its level is a number of 64 bits.
-/
namespace Go.Proofs.YtokebnkgjchfaaaGreatDoor
open Go.RowKit

/-- A row of its own, made since B. -/
def Ow (B : Nat) (w : World) (v : Value) (l : Bs) : Prop := w.ownsRow B 5 1 v l.length (bc l)
theorem Ow.sl {B : Nat} {w : World} {v : Value} {l : Bs} (h : Ow B w v l) : Sl w v l := sl_of_own h
theorem Ow.keep {B : Nat} {w w' : World} {v : Value} {l : Bs} (h : Ow B w v l) (hb : Below w.heap.size w w') : Ow B w' v l :=
  World.ownsRow.kept (row := none) h ⟨hb.os, hb.tape, hb.output, hb.size, fun k hk _ => hb.block k hk⟩ (by cases hq : v.ownBlock with | none => exact .inl rfl | some k => exact .inr (by simp))
theorem Ow.app {B B' : Nat} {w : World} {v u : Value} {l m : Bs} (h : Ow B w v l) (k : Ow B' w u m) (hm : 1 ≤ m.length) (hsz : l.length + m.length ≤ 140737488355328) (hB : B ≤ w.heap.size) :
    ∃ v' w', (Builtin.append_ #[74, 74] 74 #[v, u]).run Tryz.prog w = .ok v' w' ∧ Ow B w' v' (l ++ m) ∧ Below B w w' := by
  obtain ⟨i0, hi, hz0, hz1, hz2⟩ := info_parts Tryz.infoB
  have hk2 := k.2
  rcases hk2 with ⟨rfl, h0⟩ | ⟨g4, cap4, cur4, rfl, -, -, -, -, -, -⟩
  · omega
  obtain ⟨v5, w5, hrun5, own5, hgr5, -⟩ := run_append_own (P := Tryz.prog) w B 74 74 5 i0 (.int .u8 0) 1 1 Tryz.underlying74 hi hz0 hz1 hz2 rfl (by decide) v l.length (bc l) h ⟨g4, 0, none⟩ m.length cap4 (bc m) (by rw [bc_length]; omega) (World.ownsRow.cells k (g := g4) rfl) (bc_one _) (by unfold maxLen; omega) (by omega) hB
  rw [← bc_append, ← List.length_append] at own5
  exact ⟨v5, w5, hrun5, own5, (Below.refl _ _).grown hgr5 hB (fun q hq => (World.ownsRow.lt h q hq).1)⟩
theorem Ow.str {B : Nat} {w : World} {v : Value} {l m : Bs} (h : Ow B w v l) (hsz : l.length + m.length ≤ 140737488355328) (hB : B ≤ w.heap.size) :
    ∃ v' w', (Builtin.append_ #[74, 9] 74 #[v, .string (strB m)]).run Tryz.prog w = .ok v' w' ∧ Ow B w' v' (l ++ m) ∧ Below B w w' := by
  obtain ⟨i0, hi, hz0, hz1, hz2⟩ := info_parts Tryz.infoB
  have hds := strB_size m
  obtain ⟨v3, w3, hrun, own3, hgr3, -⟩ := Lib.run_append_own_string (P := Tryz.prog) w B 74 9 74 5 i0 Tryz.underlying74 Tryz.underlying9 hi hz0 hz1 hz2 v l.length (bc l) h (strB m) (by unfold maxLen; omega) (by omega) hB
  have e3 : Lib.strCells (strB m) = bc m := by show bc (strB m).data.toList = _; rw [strB_list]
  rw [e3, ← bc_append, hds, ← List.length_append] at own3
  exact ⟨v3, w3, hrun, own3, (Below.refl _ _).grown hgr3 hB (fun q hq => (World.ownsRow.lt h q hq).1)⟩
theorem Ow.form {B : Nat} {w : World} {v : Value} {l : Bs} (h : Ow B w v l) : ∃ a n c, v = .slice a n c := by
  obtain ⟨a, c, h1, -⟩ := own_form h
  exact ⟨a, _, c, h1⟩
theorem rnum_any (w : World) (n : Int) (h : In64 n) : Calls Tryz.prog 59 #[.int .i64 n] w fun e w' => ∃ v, e = .returned v ∧ Ow w.heap.size w' v (num n) ∧ Below w.heap.size w w' := rnumber_any w n h
theorem ow_one (w : World) (c : UInt8) : Ow w.heap.size (w.alloc (.cells #[.int .u8 (c.toNat : Int)] 5)) (.slice (some ⟨w.heap.size, 0, none⟩) 1 1) [c] := own_one w c
theorem flatP_le (xs : List Part) (h : ∀ p ∈ xs, p.1.length = 32) : (xs.flatMap partB).length ≤ 42 * xs.length := by
  induction xs with
  | nil => simp
  | cons y ys ih =>
    have h1 := ih (fun p hp => h p (by simp [hp]))
    have h2 := h y (by simp)
    have h3 := num_length y.2
    have h4 : (partB y).length = y.1.length + (num y.2).length := by unfold partB; rw [List.length_append]
    rw [List.flatMap_cons, List.length_append, List.length_cons, h4]
    omega
theorem fanOk_parts {f : Fan} (h : fanOk f = true) : f.2.length ≤ 32 ∧ ∀ p ∈ f.2, p.1.length = 32 ∧ In64 p.2 := by
  simp only [fanOk, levelB, isIdB, Bool.and_eq_true, decide_eq_true_eq, List.all_eq_true] at h
  obtain ⟨⟨⟨h1, h2⟩, h3⟩, h4⟩ := h
  exact ⟨by omega, fun p hp => ⟨h3 p hp, within_64 h4 (by omega) (by omega) _ (List.mem_map_of_mem hp)⟩⟩
set_option maxRecDepth 20000 in
set_option maxHeartbeats 1600000 in
theorem rfan_any (w : World) (f : Fan) (v : Value) (hv : Ls w.heap.size w 2 partC v f.2) (hlv : In64 f.1) :
    Calls Tryz.prog 40 #[.agg #[.int .i64 f.1, v]] w fun e w' => e = .returned (made (fanOk f) (70 :: fanB f)) ∧ Below w.heap.size w w' := by
  have hb0 : Below w.heap.size w ((w.alloc (.cells #[.int .i64 f.1, v] 90)).alloc (.cells #[.string ⟨#[]⟩, .string ⟨#[]⟩] 57)) := ((Below.refl _ _).alloc (Nat.le_refl _) _).alloc (by simp) _
  have z0 := (heap_past (w.alloc (.cells #[.int .i64 f.1, v] 90)) (.cells #[.string ⟨#[]⟩, .string ⟨#[]⟩] 57) w.heap.size (by simp)).trans (heap_last w (.cells #[.int .i64 f.1, v] 90) _ rfl)
  have x0 := heap_last (w.alloc (.cells #[.int .i64 f.1, v] 90)) (.cells #[.string ⟨#[]⟩, .string ⟨#[]⟩] 57) (w.heap.size + 1) (by simp)
  have hn0 : ((w.alloc (.cells #[.int .i64 f.1, v] 90)).alloc (.cells #[.string ⟨#[]⟩, .string ⟨#[]⟩] 57)).heap.size = w.heap.size + 2 := by simp
  have hv0 := hv.keep hb0
  generalize hw0 : (w.alloc (.cells #[.int .i64 f.1, v] 90)).alloc (.cells #[.string ⟨#[]⟩, .string ⟨#[]⟩] 57) = w0 at *
  have HW := hide hw0
  have hR := rfanRight_any w0 f v (hv0.up (by omega))
  have HV := hide hv0
  obtain ⟨ao, cap, rfl, g1, g2, -⟩ := hv0
  unfold maxLen at g2
  have c0 := rc (i := 0) z0 rfl
  have c1 := rc (i := 1) z0 rfl
  clear hv hw0
  obtain ⟨q, hq⟩ : ∃ q, fanOk f = q := ⟨_, rfl⟩
  rw [hq] at hR ⊢
  obtain ⟨ra, rb, rk, hm⟩ := made_form q (70 :: fanB f)
  rw [hm]
  have HM := hide hm
  clear hm
  go_enter Tryz.func40, Tryz.ntmps40
  go_wp2_with fail
  try rw [HW.out]
  refine hR.mono ?_
  rintro e w1 ⟨rfl, hb1⟩
  have z1 := (hb1.block _ (lt_of_heap z0)).trans z0
  have x1 := (hb1.block _ (lt_of_heap x0)).trans x0
  have B1 : Below w0.heap.size w0 w1 := hb1
  have o1 := ow_one w1 70
  rw [show ((70 : UInt8).toNat : Int) = 70 from rfl] at o1
  have hb2 : Below w1.heap.size w1 (w1.alloc (.cells #[.int .u8 70] 5)) := (Below.refl _ _).alloc (Nat.le_refl _) _
  have z2 := (hb2.block _ (lt_of_heap z1)).trans z1
  have x2 := (hb2.block _ (lt_of_heap x1)).trans x1
  have d0 := rc (i := 0) z2 rfl
  have n1 := num_length f.1
  have n2 := num_length f.2.length
  have B2 := B1.trans (hb2.mono B1.size)
  have s1 := lt_of_heap z1
  have y1 := lt_of_heap x1
  have s2 := hb2.size
  clear hR c0 c1 hb1 hb2 z1 x1
  go_wp2_with fail
  generalize hw2 : w1.alloc (.cells #[.int .u8 70] 5) = w2 at *
  clear hw2
  refine (rnum_any w2 f.1 hlv).mono ?_
  rintro e w3 ⟨u3, rfl, own3, hb3⟩
  have s3 := hb3.size
  obtain ⟨v4, w4, run4, o4, hb4⟩ := (o1.keep hb3).app own3 n1.1 (by simp only [List.length_cons, List.length_nil]; omega) (by omega)
  have R4 := hide run4
  have z4 := (hb4.block _ s1).trans ((hb3.block _ (lt_of_heap z2)).trans z2)
  have x4 := (hb4.block _ y1).trans ((hb3.block _ (lt_of_heap x2)).trans x2)
  have B4 := (B2.trans (hb3.mono B2.size)).trans (hb4.mono B1.size)
  have s4 := hb4.size
  have d1 := rc (i := 1) z4 rfl
  clear run4 own3 o1 hb3 hb4 z2 x2 B2 d0
  go_wp2_with (at_builtin; refine wpList_plain rfl (fun K hK => wp_append_run (.tmp 9) (.tmp 12) 74 rfl rfl rfl R4.out (hK _ _ ?_)))
  go_wp2_with fail
  refine (rnum_any w4 (f.2.length : Int) ⟨by omega, by omega⟩).mono ?_
  rintro e w5 ⟨u5, rfl, own5, hb5⟩
  have s5 := hb5.size
  obtain ⟨v6, w6, run6, o6, hb6⟩ := (o4.keep hb5).app own5 n2.1 (by simp only [List.length_append, List.length_cons, List.length_nil]; omega) (by omega)
  have R6 := hide run6
  have z6 := (hb6.block _ s1).trans ((hb5.block _ (lt_of_heap z4)).trans z4)
  have x6 := (hb6.block _ y1).trans ((hb5.block _ (lt_of_heap x4)).trans x4)
  have B6 := (B4.trans (hb5.mono B4.size)).trans (hb6.mono B1.size)
  have s6 := hb6.size
  clear run6 own5 o4 hb5 hb6 z4 x4 B4 d1 R4
  go_wp2_with (at_builtin; refine wpList_plain rfl (fun K hK => wp_append_run (.tmp 14) (.tmp 18) 74 rfl rfl rfl R6.out (hK _ _ ?_)))
  go_wp2_with fail
  clear R6
  cases q with
  | false =>
    go_loopw [5, 6] (fun s t wr => s = v6 ∧ t = .int .i64 0 ∧ wr = w6) (fun _ _ _ => 0)
    case atStart => exact ⟨rfl, rfl, rfl⟩
    case round =>
      obtain ⟨rfl, rfl, rfl⟩ := hrel
      have d1 := rc (i := 1) z6 rfl
      have hp := rput_any _ _ _ false o6.sl (by simp)
      rw [made_no', ← made_no' (70 :: fanB f), HM.out] at hp
      have hcase : f.2.length = 0 ∨ 0 < f.2.length := by omega
      rcases hcase with hl | hl
      all_goals
        go_wp2_with fail
        refine hp.mono ?_
        rintro e w7 ⟨rfl, hb7⟩
        have x7 := (hb7.block _ (lt_of_heap x6)).trans x6
        have B7 := hb0.trans ((B6.mono hb0.size).trans (hb7.mono (Nat.le_trans hb0.size B6.size)))
        have e0 := rc (i := 0) x7 rfl
        have e1 := rc (i := 1) x7 rfl
        have f0 := frozen0 (j := 0) x7
        have f1 := frozen0 (j := 1) x7
        clear hb7
        go_wp2
        refine bodyPost_ret (results_cell_tmp_row rfl _ _ _ _ _ _ _ rfl (heap_set2 x7) Tryz.underlying57 rfl Tryz.infoObj) rfl ⟨rfl, ?_⟩
        exact (B7.setCell (p := ⟨w.heap.size + 1, 0, none⟩) (by simp) _).setCell (p := ⟨w.heap.size + 1, 1, none⟩) (by simp) _
  | true =>
    obtain ⟨hlen, hparts⟩ := fanOk_parts hq
    have hm : (70 :: fanB f) = [70] ++ num f.1 ++ num f.2.length ++ f.2.flatMap partB := by simp [fanB, listB]
    have hM := HM.out
    rw [hm] at hM
    have o6' : Ow w1.heap.size w6 v6 ([70] ++ num f.1 ++ num f.2.length ++ (f.2.take 0).flatMap partB) := by simpa using o6
    generalize hL : [70] ++ num f.1 ++ num f.2.length = L at *
    have hLl : L.length ≤ 21 := by rw [← hL]; simp only [List.length_append, List.length_cons, List.length_nil]; omega
    have HM2 := hide hM
    clear hL hm o6 hM HM
    go_loopw [5, 6] (fun s t wr => ∃ (k : Nat) (a : Option Addr) (n c : Nat), k ≤ f.2.length ∧ s = .slice a n c ∧ t = .int .i64 k ∧ Ow w1.heap.size wr (.slice a n c) (L ++ (f.2.take k).flatMap partB) ∧ Below w1.heap.size w6 wr) (fun _ t _ => f.2.length - (intOf t).toNat)
    case atStart =>
      obtain ⟨a6, n6, c6, rfl⟩ := o6'.form
      exact ⟨0, a6, n6, c6, by omega, rfl, rfl, o6', Below.refl _ _⟩
    case round =>
      obtain ⟨k, an, nn, cn, hk, rfl, rfl, ok, hbk⟩ := hrel
      have zr := (hbk.block _ s1).trans z6
      have xr := (hbk.block _ y1).trans x6
      have sr := hbk.size
      have d1 := rc (i := 1) zr rfl
      have hfl : ((f.2.take k).flatMap partB).length ≤ 42 * 32 := by
        have h1 := flatP_le (f.2.take k) (fun p hp => (hparts p (List.mem_of_mem_take hp)).1)
        have h2 : (f.2.take k).length ≤ k := by rw [List.length_take]; omega
        omega
      have HK := hide hbk
      clear hbk
      by_cases hlt : k < f.2.length
      · have hpk := hparts f.2[k] (List.getElem_mem hlt)
        obtain ⟨ao', cap', he, -, -, h4⟩ := HV.out
        obtain ⟨b, off, rfl, hbB, hc⟩ := h4 (by intro e; rw [e] at hlt; simp at hlt)
        injection he with he _ he2
        subst he he2
        have hst : (f.2.take (k + 1)).flatMap partB = (f.2.take k).flatMap partB ++ (f.2[k].1 ++ num f.2[k].2) := by
          rw [List.take_succ_eq_append_getElem hlt, List.flatMap_append]
          simp [partB]
        have hcell : ∀ i u, (partC f.2[k])[i]? = some u → ∀ W, Below w1.heap.size w6 W → W.cell? ⟨b, off + k * 2 + i, none⟩ = some u := fun i u hu W hW => by
          have sw := hb0.size
          have sw1 := B1.size
          exact (hW.cell (p := ⟨b, off + k * 2 + i, none⟩) (by show b < _; omega)).trans ((B6.cell (p := ⟨b, off + k * 2 + i, none⟩) (by show b < _; omega)).trans (hc k hlt i u hu))
        have HST := hide hst
        generalize f.2[k] = x at *
        have HC1 := hide (hcell 1 _ rfl)
        have k0 := hcell 0 _ rfl _ HK.out
        simp only [Nat.add_zero] at k0
        have nx := num_length x.2
        obtain ⟨v7, w7, run7, o7, hb7⟩ := ok.str (m := x.1) (by rw [List.length_append, hpk.1]; omega) (by omega)
        obtain ⟨a7, n7, c7, rfl⟩ := o7.form
        have R7 := hide run7
        have K7 := HK.out.trans hb7
        have s7 := hb7.size
        have k1 := HC1.out _ K7
        have z7 := (hb7.block _ s1).trans zr
        have d7 := rc (i := 1) z7 rfl
        clear run7 hcell hst ok hc
        go_wp2_with (at_builtin; refine wpList_plain rfl (fun K hK => wp_append_run2 (.tmp 30) (.tmp 36) 74 9 rfl rfl rfl R7.out (hK _ _ ?_)))
        clear d1 k0 zr xr R7
        go_wp2_with fail
        refine (rnum_any w7 x.2 hpk.2).mono ?_
        rintro e w8 ⟨u8, rfl, own8, hb8⟩
        have s8 := hb8.size
        obtain ⟨v9, w9, run9, o9, hb9⟩ := (o7.keep hb8).app own8 nx.1 (by rw [List.length_append, List.length_append, hpk.1]; omega) (by omega)
        obtain ⟨a9, n9, c9, rfl⟩ := o9.form
        obtain ⟨a8, n8, c8, rfl⟩ := Ow.form own8
        have R9 := hide run9
        have K9 := (K7.trans (hb8.mono (by omega))).trans hb9
        have O9 : Hid (Ow w1.heap.size w9 (.slice a9 n9 c9) (L ++ (f.2.take (k + 1)).flatMap partB)) := hide (by rw [HST.out]; simpa using o9)
        clear run9 own8 o7 o9 hb8 hb9 K7 z7 d7 k1
        go_wp2_with (at_builtin; refine wpList_plain rfl (fun K hK => wp_append_run (.tmp 38) (.tmp 45) 74 rfl rfl rfl R9.out (hK _ _ ?_)))
        go_wp2
        go_roundw
        case rel => exact ⟨k + 1, a9, n9, c9, by omega, rfl, by go_num, O9.out, K9⟩
        case measure => simp [intOf]; omega
      · obtain rfl : k = f.2.length := by omega
        rw [List.take_length] at ok hfl
        have hp := rput_any _ _ _ true ok.sl (by intro _; rw [List.length_append]; omega)
        rw [HM2.out] at hp
        clear hfl ok
        go_wp2_with fail
        refine hp.mono ?_
        rintro e w7 ⟨rfl, hb7⟩
        have x7 := (hb7.block _ (lt_of_heap xr)).trans xr
        have B6' := B6.trans (HK.out.mono B1.size)
        have B7 := hb0.trans ((B6'.mono hb0.size).trans (hb7.mono (Nat.le_trans hb0.size B6'.size)))
        have e0 := rc (i := 0) x7 rfl
        have e1 := rc (i := 1) x7 rfl
        have f0 := frozen0 (j := 0) x7
        have f1 := frozen0 (j := 1) x7
        clear hb7
        go_wp2
        refine bodyPost_ret (results_cell_tmp_row rfl _ _ _ _ _ _ _ rfl (heap_set2 x7) Tryz.underlying57 rfl Tryz.infoObj) rfl ⟨rfl, ?_⟩
        exact (B7.setCell (p := ⟨w.heap.size + 1, 0, none⟩) (by simp) _).setCell (p := ⟨w.heap.size + 1, 1, none⟩) (by simp) _
end Go.Proofs.YtokebnkgjchfaaaGreatDoor

/-
  Objects found by their id; the gets that find them. Conditions: lists lie there.
-/
namespace Go.Proofs.YtokebnkgjchfaaaGreatDoor
open Go.RowKit

/-- What a get answers. -/
def foundV (o : Option Bs) : Value := match o with | some b => .tuple #[.string (strB b), .int .i64 0] | none => .tuple #[.string (strB []), .int .i64 3]
theorem findO_none {objs : List Pair} {id : Bs} (h : ∀ o ∈ objs, o.1 ≠ id) : findO objs id = none := by
  unfold findO
  rw [List.find?_eq_none.2 (fun o ho => by simpa using h o ho)]
  rfl
theorem findO_at {objs : List Pair} {id : Bs} {k : Nat} (hk : k < objs.length) (he : objs[k].1 = id) (h : ∀ o ∈ objs.take k, o.1 ≠ id) : findO objs id = some objs[k].2 := by
  unfold findO
  have : objs.find? (fun o => o.1 == id) = some objs[k] := by
    rw [List.find?_eq_some_iff_getElem]
    refine ⟨by simpa using he, k, hk, rfl, fun j hj => ?_⟩
    have hm : objs[j] ∈ objs.take k := by rw [List.mem_take_iff_getElem]; exact ⟨j, by omega, rfl⟩
    simpa using h _ hm
  rw [this]
  rfl
theorem foundV_form (o : Option Bs) : ∃ s k, foundV o = .tuple #[.string (strB s), .int .i64 k] := by
  cases o with
  | none => exact ⟨[], 3, rfl⟩
  | some b => exact ⟨b, 0, rfl⟩
theorem findO_mem {objs : List Pair} {id b : Bs} (h : findO objs id = some b) : ∃ o ∈ objs, o.2 = b := by
  unfold findO at h
  cases hf : objs.find? (fun o => o.1 == id) with
  | none => rw [hf] at h; cases h
  | some o =>
    rw [hf] at h
    exact ⟨o, List.mem_of_find?_eq_some hf, by simpa using h⟩
set_option maxRecDepth 20000 in
theorem find_any (w : World) (v : Value) (objs : List Pair) (id : Bs) (hv : Ls w.heap.size w 2 pairC v objs) :
    Calls Tryz.prog 28 #[v, .string (strB id)] w fun e w' => e = .returned (foundV (findO objs id)) ∧ w' = w := by
  obtain ⟨ao, cap, rfl, h1, h2, h4⟩ := hv
  unfold maxLen at h2
  have hx := toL id
  go_enter Tryz.func28, Tryz.ntmps28
  go_wp2_with fail
  go_loopw [6] (fun t wr => ∃ k : Nat, k ≤ objs.length ∧ t = .int .i64 k ∧ (∀ o ∈ objs.take k, o.1 ≠ id) ∧ wr = w)
    (fun t _ => objs.length - (intOf t).toNat)
  case atStart => exact ⟨0, by omega, rfl, by simp, rfl⟩
  case round =>
    obtain ⟨k, hk, rfl, hno, rfl⟩ := hrel
    by_cases hlt : k < objs.length
    · obtain ⟨b, off, rfl, hbB, hc⟩ := h4 (by rintro rfl; simp at hlt)
      have c0 := hc k hlt 0 _ rfl
      have c1 := hc k hlt 1 _ rfl
      simp only [Nat.add_zero] at c0
      have hy := toL objs[k].1
      by_cases he : objs[k].1 = id
      · have hbe : (objs[k].1 == id) = true := by simpa using he
        have hfo := findO_at hlt he hno
        have HF := hide hfo
        clear hfo hno
        generalize objs[k] = y at *
        go_wp2
        go_ret2
        exact ⟨by rw [HF.out]; rfl, rfl⟩
      · have hbe : (objs[k].1 == id) = false := by simpa using he
        have hno2 : ∀ o ∈ objs.take (k + 1), o.1 ≠ id := by
          rw [List.take_succ_eq_append_getElem hlt]
          intro o ho
          rcases List.mem_append.1 ho with ho | ho
          · exact hno o ho
          · simp only [List.mem_singleton] at ho; subst ho; exact he
        generalize objs[k] = y at *
        go_wp2
        go_roundw
        case rel => exact ⟨k + 1, by omega, by go_num, hno2, trivial⟩
        case measure => simp [intOf]; omega
    · obtain rfl : k = objs.length := by omega
      rw [List.take_length] at hno
      have HF := hide (findO_none hno)
      clear hno
      go_wp2
      go_ret2
      exact ⟨by rw [HF.out]; rfl, rfl⟩
set_option maxRecDepth 20000 in
theorem from1_any (w : World) (c : Nat) (v : Value) (objs : List Pair) (id : Bs) (hc : w.heap[c]? = some (.cells #[v] 26)) (hv : Ls w.heap.size w 2 pairC v objs) :
    Calls Tryz.prog 27 #[.string (strB id), .pointer (some ⟨c, 0, none⟩)] w fun e w' => e = .returned (foundV (findO objs id)) ∧ w' = w := by
  have hf := find_any w v objs id hv
  have c0 := cell_of_row w c 0 _ _ _ hc
  simp only [List.getElem?_toArray, List.getElem?_cons_zero] at c0
  obtain ⟨ao, cap, rfl, -⟩ := hv
  obtain ⟨s, k, hfv⟩ := foundV_form (findO objs id)
  rw [hfv] at hf ⊢
  go_enter Tryz.func27, Tryz.ntmps27
  go_wp2_with fail
  refine hf.mono ?_
  rintro e w1 ⟨rfl, rfl⟩
  go_wp2
  go_ret2
  exact ⟨rfl, rfl⟩
end Go.Proofs.YtokebnkgjchfaaaGreatDoor

/-
  Rows of a call's own, and what of memory moves: blocks of some types, and one row. No condition.
-/
namespace Go.Proofs.YtokebnkgjchfaaaGreatDoor
open Go.RowKit

/-- The row v, made since B, has these, each of k cells of the type e. -/
def Rw {α : Type} (B : Nat) (w : World) (e : TypeId) (k : Nat) (cs : α → List Value) (v : Value) (xs : List α) : Prop := w.ownsRow B e k v xs.length (xs.flatMap cs)
theorem own_same {w w' : World} {B k n : Nat} {e : TypeId} {v : Value} {xs : List Value} (h : w.ownsRow B e k v n xs) (hs : ∀ g, v.ownBlock = some g → w'.heap[g]? = w.heap[g]?) : w'.ownsRow B e k v n xs := by
  refine ⟨h.1, ?_⟩
  rcases h.2 with h | ⟨g, cap, cur, h1, h2, h3, h4⟩
  · exact .inl h
  · exact .inr ⟨g, cap, cur, h1, h2, by rw [hs g (by rw [h1]; rfl)]; exact h3, h4⟩
theorem row_form {w : World} {B k n : Nat} {e : TypeId} {v : Value} {xs : List Value} (h : w.ownsRow B e k v n xs) : ∃ a m c, v = .slice a m c := by
  obtain ⟨a, c, h1, -⟩ := own_form h
  exact ⟨a, _, c, h1⟩
/-- The row is where it was, or new. -/
def Nx (w : World) (a b : Option Nat) : Prop := b = a ∨ ∃ q, b = some q ∧ w.heap.size ≤ q
theorem Nx.refl (w : World) (a : Option Nat) : Nx w a a := .inl rfl
theorem Nx.trans {w w1 : World} {a b c : Option Nat} (h : Nx w a b) (k : Nx w1 b c) (hs : w.heap.size ≤ w1.heap.size) : Nx w a c := by
  rcases k with rfl | ⟨q, rfl, hq⟩
  · exact h
  · exact .inr ⟨q, rfl, Nat.le_trans hs hq⟩
/-- Nothing below B moves; above it blocks of these types alone, and the row r. -/
structure Mv (B : Nat) (ts : List TypeId) (r : Option Nat) (w w' : World) : Prop where
  b : Below B w w'
  k : ∀ (k : Nat) (cs : Array Value) (t : TypeId) (fr : Nat × Nat), w.heap[k]? = some (Obj.cells cs t fr) → t ∉ ts → some k ≠ r → w'.heap[k]? = some (Obj.cells cs t fr)
theorem Mv.refl (B : Nat) (ts : List TypeId) (r : Option Nat) (w : World) : Mv B ts r w w := ⟨Below.refl _ _, fun _ _ _ _ h _ _ => h⟩
theorem Mv.size {B : Nat} {ts : List TypeId} {r : Option Nat} {w w' : World} (h : Mv B ts r w w') : w.heap.size ≤ w'.heap.size := h.b.size
theorem Mv.trans {B : Nat} {ts : List TypeId} {r r1 : Option Nat} {a b c : World} (h : Mv B ts r a b) (k : Mv B ts r1 b c) (hn : Nx a r r1) : Mv B ts r a c :=
  ⟨h.b.trans k.b, fun i cs t fr hi ht hr => k.k i cs t fr (h.k i cs t fr hi ht hr) ht (by
    rcases hn with rfl | ⟨q, rfl, hq⟩
    · exact hr
    · intro e
      injection e with e
      have := lt_of_heap hi
      omega)⟩
theorem Mv.of {B : Nat} {ts : List TypeId} {r : Option Nat} {w w' : World} (h : Below w.heap.size w w') (hB : B ≤ w.heap.size) : Mv B ts r w w' := ⟨h.mono hB, fun k _ _ _ hk _ _ => (h.block k (lt_of_heap hk)).trans hk⟩
theorem Mv.more {B : Nat} {ts : List TypeId} {r : Option Nat} {a b c : World} (h : Mv B ts r a b) (k : Below b.heap.size b c) (hB : B ≤ b.heap.size) : Mv B ts r a c :=
  ⟨h.b.trans (k.mono hB), fun i cs t fr hi ht hr => by have := h.k i cs t fr hi ht hr; exact (k.block i (lt_of_heap this)).trans this⟩
theorem Mv.alloc {B : Nat} {ts : List TypeId} {r : Option Nat} {w w' : World} (h : Mv B ts r w w') (hB : B ≤ w'.heap.size) (o : Obj) : Mv B ts r w (w'.alloc o) := h.more ((Below.refl _ _).alloc (Nat.le_refl _) _) hB
theorem Mv.drew {B : Nat} {ts : List TypeId} {r : Option Nat} {w w' : World} (h : Mv B ts r w w') : Mv B ts r w w'.drew := ⟨h.b.drew, h.k⟩
theorem Mv.none {B : Nat} {ts : List TypeId} {r : Option Nat} {w w' : World} (h : Mv B ts Option.none w w') : Mv B ts r w w' := ⟨h.b, fun k cs t fr hk ht _ => h.k k cs t fr hk ht (by simp)⟩
theorem Mv.types {B : Nat} {ts ts' : List TypeId} {r : Option Nat} {w w' : World} (h : Mv B ts r w w') (hs : ∀ t ∈ ts, t ∈ ts') : Mv B ts' r w w' := ⟨h.b, fun k cs t fr hk ht hr => h.k k cs t fr hk (fun hm => ht (hs t hm)) hr⟩
theorem Mv.set {B : Nat} {ts : List TypeId} {r : Option Nat} {w w' : World} (h : Mv B ts r w w') {g j : Nat} {cs : Array Value} {t : TypeId} {fr : Nat × Nat} (hh : w'.heap[g]? = some (.cells cs t fr)) (ht : t ∈ ts) (hg : B ≤ g) (u : Value) : Mv B ts r w (w'.setCell ⟨g, j, Option.none⟩ u) :=
  ⟨h.b.setCell (p := ⟨g, j, Option.none⟩) hg _, fun k cs' t' fr' hk ht' hr => by
    exact (Kt.set (ts := ts) hh ht u).2 k cs' t' fr' (h.k k cs' t' fr' hk ht' hr) ht'⟩
/-- A row of one of the types has grown. -/
theorem Mv.grown {B : Nat} {ts : List TypeId} {r : Option Nat} {w w1 w2 : World} (h : Mv B ts r w w1) {v : Value} {n k : Nat} {xs : List Value} {e : TypeId} (hown : w1.ownsRow B e k v n xs) (hgr : w1.grownBy w2 v.ownBlock) (he : e ∈ ts) (hB : B ≤ w1.heap.size) : Mv B ts r w w2 := by
  refine ⟨h.b.trans ((Below.refl _ _).grown hgr hB (fun q hq => (hown.lt q hq).1)), fun i cs t fr hi ht hr => ?_⟩
  have hi1 := h.k i cs t fr hi ht hr
  refine (hgr.block i (lt_of_heap hi1) fun hq => ?_).trans hi1
  obtain ⟨c, fz, h1⟩ := Lib.ownsRow_kind hown i hq.symm
  rw [hi1] at h1
  injection h1 with h1
  injection h1 with _ h1
  exact ht (h1 ▸ he)
/-- The row itself has grown. -/
theorem Mv.grownRow {B : Nat} {ts : List TypeId} {r : Option Nat} {w w1 w2 : World} (h : Mv B ts r w w1) {v : Value} {n k : Nat} {xs : List Value} {e : TypeId} (hown : w1.ownsRow B e k v n xs) (hgr : w1.grownBy w2 v.ownBlock) (hn : Nx w r v.ownBlock) (hB : B ≤ w1.heap.size) : Mv B ts r w w2 := by
  refine ⟨h.b.trans ((Below.refl _ _).grown hgr hB (fun q hq => (hown.lt q hq).1)), fun i cs t fr hi ht hr => ?_⟩
  have hi1 := h.k i cs t fr hi ht hr
  refine (hgr.block i (lt_of_heap hi1) fun hq => ?_).trans hi1
  rcases hn with hn | ⟨q, hn, hl⟩
  · exact hr (hq.trans hn)
  · rw [hn] at hq
    injection hq with hq
    have := lt_of_heap hi
    omega
/-- A row of a type that does not move stays. -/
theorem Mv.own {B B' : Nat} {ts : List TypeId} {r : Option Nat} {w w' : World} (h : Mv B ts r w w') {v : Value} {n k : Nat} {xs : List Value} {e : TypeId} (hown : w.ownsRow B' e k v n xs) (he : e ∉ ts) (hr : v.ownBlock = Option.none ∨ v.ownBlock ≠ r) : w'.ownsRow B' e k v n xs := by
  refine own_same hown (fun g hg => ?_)
  rcases hr with hr | hr
  · rw [hr] at hg; cases hg
  · obtain ⟨c, fz, h1⟩ := Lib.ownsRow_kind hown g hg
    rw [h.k g c e fz h1 he (by rw [← hg]; exact hr), h1]
theorem grow_other {w w1 : World} {B B' k k' n n' : Nat} {e e' : TypeId} {v u : Value} {xs ys : List Value} (h : w.ownsRow B e k v n xs) (_hu : w.ownsRow B' e' k' u n' ys) (hgr : w.grownBy w1 u.ownBlock) (hne : v.ownBlock = none ∨ v.ownBlock ≠ u.ownBlock) : w1.ownsRow B e k v n xs := by
  refine own_same h (fun g hg => hgr.block g (h.lt g hg).2 ?_)
  rcases hne with hne | hne
  · rw [hne] at hg; cases hg
  · rw [← hg]; exact hne
theorem own_ne {w : World} {B B' k k' n n' : Nat} {e e' : TypeId} {v u : Value} {xs ys : List Value} (h : w.ownsRow B e k v n xs) (hu : w.ownsRow B' e' k' u n' ys) (he : e ≠ e') : v.ownBlock = none ∨ v.ownBlock ≠ u.ownBlock := by
  cases hv : v.ownBlock with
  | none => exact .inl rfl
  | some g =>
    refine .inr fun hq => ?_
    obtain ⟨c, fz, h1⟩ := Lib.ownsRow_kind h g hv
    obtain ⟨c', fz', h2⟩ := Lib.ownsRow_kind hu g hq.symm
    rw [h1] at h2
    injection h2 with h2
    injection h2 with _ h2
    exact he h2
theorem grow_keep {w w1 : World} {B k n : Nat} {e : TypeId} {u : Value} {ys : List Value} (hu : w.ownsRow B e k u n ys) (hgr : w.grownBy w1 u.ownBlock) {g : Nat} {cs : Array Value} {t : TypeId} {fr : Nat × Nat} (hh : w.heap[g]? = some (.cells cs t fr)) (ht : t ≠ e) : w1.heap[g]? = some (.cells cs t fr) := by
  refine (hgr.block g (lt_of_heap hh) fun hq => ?_).trans hh
  obtain ⟨c, fz, h1⟩ := Lib.ownsRow_kind hu g hq.symm
  rw [hh] at h1
  injection h1 with h1
  injection h1 with _ h1
  exact ht h1
theorem own_setCell {w : World} {B k n g j : Nat} {e t : TypeId} {v : Value} {xs : List Value} {cs : Array Value} {fr : Nat × Nat} (h : w.ownsRow B e k v n xs) (hh : w.heap[g]? = some (.cells cs t fr)) (hte : t ≠ e) (u : Value) : (w.setCell ⟨g, j, none⟩ u).ownsRow B e k v n xs := by
  refine own_same h (fun q hq => ?_)
  have hne : q ≠ g := by
    rintro rfl
    obtain ⟨c, fz, h1⟩ := Lib.ownsRow_kind h q hq
    rw [hh] at h1
    injection h1 with h1
    injection h1 with _ h1
    exact hte h1
  unfold World.setCell
  simp [Array.getElem?_modify, Ne.symm hne]
theorem heap_setOther {w : World} {g j q : Nat} {u : Value} (hne : q ≠ g) : (w.setCell ⟨g, j, none⟩ u).heap[q]? = w.heap[q]? := by
  unfold World.setCell
  simp [Array.getElem?_modify, Ne.symm hne]
theorem ne_type {w : World} {a b : Nat} {cs cs' : Array Value} {t t' : TypeId} {fr fr' : Nat × Nat} (h : w.heap[a]? = some (.cells cs t fr)) (h' : w.heap[b]? = some (.cells cs' t' fr')) (hne : t ≠ t') : a ≠ b := by
  rintro rfl
  rw [h] at h'
  injection h' with h'
  injection h' with _ h'
  exact hne h'

/-- A text laid behind a row of texts. -/
theorem app_id (w : World) (B : Nat) (v : Value) (xs : List Bs) (id : Bs) (h : Rw B w 9 1 idC v xs) (hB : B ≤ w.heap.size) (hn : xs.length ≤ 4294967296) :
    ∃ v' w', (Builtin.append_ #[37, 37] 37 #[v, .slice (some ⟨w.heap.size, 0, none⟩) 1 1]).run Tryz.prog (w.alloc (.cells #[.string (strB id)] 9)) = .ok v' w' ∧
      Rw B w' 9 1 idC v' (xs ++ [id]) ∧ (w.alloc (.cells #[.string (strB id)] 9)).grownBy w' v.ownBlock ∧ (v'.ownBlock = v.ownBlock ∨ v'.ownBlock = some (w.heap.size + 1)) := by
  obtain ⟨i0, hi, hz0, hz1, hz2⟩ := info_parts Tryz.zStr
  have hx := heap_last w (.cells #[.string (strB id)] 9) _ rfl
  obtain ⟨v', w', h1, h2, h3, -, h4⟩ := run_append_own_at (P := Tryz.prog) (w.alloc (.cells #[.string (strB id)] 9)) B 37 37 9 i0 (.string ⟨#[]⟩) 1 16 Tryz.underlying37 hi hz0 hz1 hz2 rfl (by decide) v xs.length (xs.flatMap idC) (h.alloc _) ⟨w.heap.size, 0, none⟩ 1 1 (idC id) rfl (fun j u hu => by
      rw [Addr.add_lit, Nat.zero_add, cell_of_row _ _ _ _ _ _ hx, List.getElem?_toArray]; exact hu) (by simp [idC, Value.oneCell']) (by unfold maxLen; omega) (by omega) (by simp; omega)
  refine ⟨v', w', h1, ?_, h3, by simpa using h4⟩
  unfold Rw
  rw [List.length_append, List.flatMap_append]
  simpa using h2
/-- A part laid behind a row of parts. -/
theorem app_part (w : World) (B : Nat) (v : Value) (xs : List Part) (p : Part) (h : Rw B w 25 2 partC v xs) (hB : B ≤ w.heap.size) (hn : xs.length ≤ 4294967296) :
    ∃ v' w', (Builtin.append_ #[38, 38] 38 #[v, .slice (some ⟨w.heap.size, 0, none⟩) 1 1]).run Tryz.prog (w.alloc (.cells #[.string (strB p.1), .int .i64 p.2] 25)) = .ok v' w' ∧
      Rw B w' 25 2 partC v' (xs ++ [p]) ∧ (w.alloc (.cells #[.string (strB p.1), .int .i64 p.2] 25)).grownBy w' v.ownBlock ∧ (v'.ownBlock = v.ownBlock ∨ v'.ownBlock = some (w.heap.size + 1)) := by
  obtain ⟨i0, hi, hz0, hz1, hz2⟩ := info_parts Tryz.zPart
  have hx := heap_last w (.cells #[.string (strB p.1), .int .i64 p.2] 25) _ rfl
  obtain ⟨v', w', h1, h2, h3, -, h4⟩ := run_append_own_at (P := Tryz.prog) (w.alloc (.cells #[.string (strB p.1), .int .i64 p.2] 25)) B 38 38 25 i0 (.agg #[.string ⟨#[]⟩, .int .i64 0]) 2 24 Tryz.underlying38 hi hz0 hz1 hz2 rfl (by decide) v xs.length (xs.flatMap partC) (h.alloc _) ⟨w.heap.size, 0, none⟩ 1 1 (partC p) rfl (fun j u hu => by
      rw [Addr.add_lit, Nat.zero_add, cell_of_row _ _ _ _ _ _ hx, List.getElem?_toArray]; exact hu) (by simp [partC, Value.oneCell']) (by unfold maxLen; omega) (by omega) (by simp; omega)
  refine ⟨v', w', h1, ?_, h3, by simpa using h4⟩
  unfold Rw
  rw [List.length_append, List.flatMap_append]
  simpa using h2
end Go.Proofs.YtokebnkgjchfaaaGreatDoor

/-
  The get that notes what is asked. Conditions: what it holds lies there; not too much was asked.
-/
namespace Go.Proofs.YtokebnkgjchfaaaGreatDoor
open Go.RowKit

/-- What the noting get holds: the objects, below B, and what was asked so far, since B. -/
structure AskW (B : Nat) (w : World) (ci cl ga : Nat) (objs : List Pair) (asked : List Bs) : Prop where
  ids : w.heap[ci]? = some (.cells #[.pointer (some ⟨ga, 0, none⟩)] 42)
  list : ∃ vl, w.heap[cl]? = some (.cells #[vl] 26) ∧ Ls B w 2 pairC vl objs
  row : ∃ va, w.heap[ga]? = some (.cells #[va] 37) ∧ Rw B w 9 1 idC va asked
  base : B ≤ ga
/-- What it moves. -/
abbrev ats : List TypeId := [9, 37]
theorem AskW.le {B : Nat} {w : World} {ci cl ga : Nat} {objs : List Pair} {asked : List Bs} (h : AskW B w ci cl ga objs asked) : B ≤ w.heap.size := by
  obtain ⟨va, hv, -⟩ := h.row
  have := lt_of_heap hv
  have := h.base
  omega
/-- It stays where nothing of it moves. -/
theorem AskW.keep {B B' : Nat} {w w' : World} {ci cl ga : Nat} {objs : List Pair} {asked : List Bs} {ts : List TypeId} {r : Option Nat} (h : AskW B w ci cl ga objs asked) (hm : Mv B' ts r w w') (hB : B ≤ B') (h1 : 42 ∉ ts) (h2 : 26 ∉ ts) (h3 : 37 ∉ ts) (h4 : 9 ∉ ts)
    (hr : ∀ q, r = some q → ∃ c t fr, w.heap[q]? = some (.cells c t fr) ∧ t ≠ 42 ∧ t ≠ 26 ∧ t ≠ 37 ∧ t ≠ 9) : AskW B w' ci cl ga objs asked := by
  obtain ⟨vl, hl, hv⟩ := h.list
  obtain ⟨va, ha, hw⟩ := h.row
  have ne : ∀ {k : Nat} {cs : Array Value} {t : TypeId} {fr : Nat × Nat}, w.heap[k]? = some (.cells cs t fr) → (t = 42 ∨ t = 26 ∨ t = 37 ∨ t = 9) → some k ≠ r := by
    intro k cs t fr hk ht hq
    obtain ⟨c, t', fr', g1, g2, g3, g4, g5⟩ := hr k hq.symm
    rw [hk] at g1
    injection g1 with g1
    injection g1 with _ g1
    subst g1
    rcases ht with h | h | h | h
    · exact g2 h
    · exact g3 h
    · exact g4 h
    · exact g5 h
  refine ⟨hm.k _ _ _ _ h.ids h1 (ne h.ids (.inl rfl)), ⟨vl, hm.k _ _ _ _ hl h2 (ne hl (.inr (.inl rfl))), hv.keep (hm.b.mono hB)⟩, ⟨va, hm.k _ _ _ _ ha h3 (ne ha (.inr (.inr (.inl rfl)))), ?_⟩, h.base⟩
  refine own_same hw (fun g hg => ?_)
  obtain ⟨c, fz, g1⟩ := Lib.ownsRow_kind hw g hg
  rw [hm.k _ _ _ _ g1 h4 (ne g1 (.inr (.inr (.inr rfl)))), g1]
theorem AskW.below {B : Nat} {w w' : World} {ci cl ga : Nat} {objs : List Pair} {asked : List Bs} (h : AskW B w ci cl ga objs asked) (hb : Below w.heap.size w w') : AskW B w' ci cl ga objs asked :=
  h.keep (ts := []) (r := none) (Mv.of hb (Nat.le_refl _)) h.le (by simp) (by simp) (by simp) (by simp) (by simp)
theorem AskW.alloc {B : Nat} {w : World} {ci cl ga : Nat} {objs : List Pair} {asked : List Bs} (h : AskW B w ci cl ga objs asked) (o : Obj) : AskW B (w.alloc o) ci cl ga objs asked := h.below ((Below.refl _ _).alloc (Nat.le_refl _) _)
theorem AskW.drew {B : Nat} {w : World} {ci cl ga : Nat} {objs : List Pair} {asked : List Bs} (h : AskW B w ci cl ga objs asked) : AskW B w.drew ci cl ga objs asked := ⟨h.ids, h.list, h.row, h.base⟩
theorem drew_alloc (w : World) (o : Obj) : w.drew.alloc o = (w.alloc o).drew := rfl
end Go.Proofs.YtokebnkgjchfaaaGreatDoor

/-
  The reference's reader begun, counts, a chunk read. Conditions: lengths within reach.
-/
namespace Go.Proofs.YtokebnkgjchfaaaGreatDoor
open Go.RowKit
variable {N : Nat}

/-- Where the reference begins, behind a mark. -/
def rBegin (c : UInt8) (b : Bs) : Pos := if b.head? = some c then some 1 else none
theorem bool_neq (x c : UInt8) : (((x.toNat : Nat) : Int) = ((c.toNat : Nat) : Int)) ↔ x = c := by
  constructor
  · intro h
    have : x.toNat = c.toNat := by omega
    exact UInt8.toNat.inj this
  · intro h; rw [h]
set_option maxRecDepth 20000 in
set_option maxHeartbeats 800000 in
theorem rbegun_any (w : World) (b : Bs) (c : UInt8) (hb : b.length ≤ 140737488351232) :
    Calls Tryz.prog 63 #[.string (strB b), .int .u8 (c.toNat : Int)] w fun e w' => ∃ g, e = .returned (.pointer (some ⟨g, 0, none⟩)) ∧ Rr w.heap.size w' g b (rBegin c b) ∧ w.heap.size ≤ g ∧ Below w.heap.size w w' := by
  have hs := strB_size b
  have HV := hide hb
  cases b with
  | nil =>
    have hr : rBegin c [] = none := rfl
    rw [hr]
    go_enter Tryz.func63, Tryz.ntmps63
    go_wp2_with (refine wpList_tobytes _ rfl (.tmp 5) rfl (strB []) (by rw [strB_size]; unfold maxLen; have := HV.out; omega) rfl ?_; intro v2 w2 hsl2 hb2 hbk2; rw [strB_list] at hsl2; have HS := hide hsl2; have HBK := hide hbk2; clear hbk2; have HB := hide hb2; obtain ⟨ao, cap, rfl, -⟩ := hsl2; clear hb2)
    go_wp2
    go_ret
    refine ⟨_, rfl, ⟨_, 1, heap_last w2 _ _ rfl, fun w' hu => HS.out.und HBK.out ⟨Nat.le_trans (by simp) hu.1, fun k hN hk => (hu.2 k hN hk).trans (heap_past w2 _ k hk)⟩, fun a ha => by cases ha⟩, HB.out.size, HB.out.alloc HB.out.size _⟩
  | cons x r =>
    have hix : ∀ W, (Instr.index 9 (.string (strB (x :: r))) (.int .i64 0)).run Tryz.prog W = .ok (.int .u8 (x.toNat : Int)) W := fun W => index_str W (x :: r) .i64 0 (by simp)
    by_cases hx : x = c
    · subst hx
      have hr : rBegin x (x :: r) = some 1 := by unfold rBegin; simp
      rw [hr]
      have hpos : 1 ≤ (x :: r).length := by simp
      generalize (x :: r) = l at *
      have hz : ((l.length : Int) == 0) = false := by rw [beq_eq_false_iff_ne]; omega
      go_enter Tryz.func63, Tryz.ntmps63
      go_wp2_with (refine wpList_tobytes _ rfl (.tmp 5) rfl (strB l) (by rw [strB_size]; unfold maxLen; have := HV.out; omega) rfl ?_; intro v2 w2 hsl2 hb2 hbk2; rw [strB_list] at hsl2; have HS := hide hsl2; have HBK := hide hbk2; clear hbk2; have HB := hide hb2; obtain ⟨ao, cap, rfl, -⟩ := hsl2; clear hb2)
      go_wp2
      try simp only [hz, Bool.false_or, bne_self_eq_false]
      go_ret
      refine ⟨_, rfl, ⟨_, 1, heap_last w2 _ _ rfl, fun w' hu => HS.out.und HBK.out ⟨Nat.le_trans (by simp) hu.1, fun k hN hk => (hu.2 k hN hk).trans (heap_past w2 _ k hk)⟩, fun a ha => by injection ha with ha; subst ha; exact ⟨rfl, by omega⟩⟩, HB.out.size, HB.out.alloc HB.out.size _⟩
    · have hr : rBegin c (x :: r) = none := by unfold rBegin; simp [hx]
      rw [hr]
      have hne : ¬ (((x.toNat : Nat) : Int) = ((c.toNat : Nat) : Int)) := fun h => hx ((bool_neq x c).1 h)
      have hxc : (((x.toNat : Nat) : Int) != ((c.toNat : Nat) : Int)) = true := by simpa using hne
      have hpos : 1 ≤ (x :: r).length := by simp
      generalize (x :: r) = l at *
      have hz : ((l.length : Int) == 0) = false := by rw [beq_eq_false_iff_ne]; omega
      go_enter Tryz.func63, Tryz.ntmps63
      go_wp2_with (refine wpList_tobytes _ rfl (.tmp 5) rfl (strB l) (by rw [strB_size]; unfold maxLen; have := HV.out; omega) rfl ?_; intro v2 w2 hsl2 hb2 hbk2; rw [strB_list] at hsl2; have HS := hide hsl2; have HBK := hide hbk2; clear hbk2; have HB := hide hb2; obtain ⟨ao, cap, rfl, -⟩ := hsl2; clear hb2)
      go_wp2
      try simp only [hz, hxc, Bool.false_or]
      go_ret
      refine ⟨_, rfl, ⟨_, 1, heap_last w2 _ _ rfl, fun w' hu => HS.out.und HBK.out ⟨Nat.le_trans (by simp) hu.1, fun k hN hk => (hu.2 k hN hk).trans (heap_past w2 _ k hk)⟩, fun a ha => by cases ha⟩, HB.out.size, HB.out.alloc HB.out.size _⟩
set_option maxRecDepth 20000 in
theorem rcount_any (w : World) (g : Nat) (l : Bs) (s : Pos) (most : Int) (h : Rr N w g l s) (hl : l.length ≤ 140737488351232) :
    Calls Tryz.prog 65 #[.pointer (some ⟨g, 0, none⟩), .int .i64 most] w fun e w' => e = .returned (.int .i64 (rC l most s).1) ∧ Rr N w' g l (rC l most s).2 ∧ w.grownBy w' (some g) := by
  have hT := rint_any w g l s h hl
  unfold rC
  obtain ⟨n, q, hn⟩ : ∃ n q, rI l s = (n, q) := ⟨_, _, rfl⟩
  rw [hn] at hT ⊢
  simp only at hT ⊢
  by_cases h1 : n < 0
  · rw [if_pos (.inl h1)]
    simp only
    go_enter Tryz.func65, Tryz.ntmps65
    go_wp2_with fail
    refine hT.mono ?_
    rintro e w1 ⟨rfl, R1, gb1⟩
    obtain ⟨v, p, h5, h6, h7⟩ := R1
    have d2 := rc (i := 2) h5 rfl
    have f2 := frozen0 (j := 2) h5
    have hlt := lt_of_heap h5
    go_wp2
    go_ret
    exact ⟨rfl, ⟨v, p, heap_set3b h5, fun w' hu => h6 w' (und_trans (und_gb hlt (gb_set w1 g 2 (.bool true))) hu), fun a ha => by cases ha⟩, gb_trans gb1 (gb_set w1 g 2 (.bool true))⟩
  · by_cases h2 : most < n
    · rw [if_pos (.inr h2)]
      simp only
      go_enter Tryz.func65, Tryz.ntmps65
      go_wp2_with fail
      refine hT.mono ?_
      rintro e w1 ⟨rfl, R1, gb1⟩
      obtain ⟨v, p, h5, h6, h7⟩ := R1
      have d2 := rc (i := 2) h5 rfl
      have f2 := frozen0 (j := 2) h5
      have hlt := lt_of_heap h5
      go_wp2
      go_ret
      exact ⟨rfl, ⟨v, p, heap_set3b h5, fun w' hu => h6 w' (und_trans (und_gb hlt (gb_set w1 g 2 (.bool true))) hu), fun a ha => by cases ha⟩, gb_trans gb1 (gb_set w1 g 2 (.bool true))⟩
    · rw [if_neg (by omega)]
      simp only
      go_enter Tryz.func65, Tryz.ntmps65
      go_wp2_with fail
      refine hT.mono ?_
      rintro e w1 ⟨rfl, R1, gb1⟩
      go_wp2
      go_ret
      exact ⟨rfl, R1, gb1⟩
end Go.Proofs.YtokebnkgjchfaaaGreatDoor

/-
  What bytes behind a mark say, as the reference reads them: the same. Conditions: lengths within reach.
-/
namespace Go.Proofs.YtokebnkgjchfaaaGreatDoor
open Go.RowKit
variable {N : Nat}

theorem Rr.grown {a b : World} {g : Nat} {l : Bs} {s : Pos} {row : Option Nat} (h : Rr N a g l s) (k : a.grownBy b row) (hrow : ∀ q, row = some q → g < q) : Rr N b g l s := by
  have hl := h.lt
  obtain ⟨v, p, h1, h2, h3⟩ := h
  exact ⟨v, p, (k.block g hl (fun e => by have := hrow g e.symm; omega)).trans h1, fun w' hu => h2 w' (und_trans ⟨k.size, fun j _ hj => k.block j (by omega) (fun e => by have := hrow j e.symm; omega)⟩ hu), h3⟩
theorem Rr.heap {w : World} {g : Nat} {l : Bs} {s : Pos} (h : Rr N w g l s) : ∃ cs, w.heap[g]? = some (.cells cs 120) := by
  obtain ⟨v, p, h1, _⟩ := h
  exact ⟨_, h1⟩
theorem Rr.bad {w : World} {g : Nat} {l : Bs} {s : Pos} (h : Rr N w g l s) : w.cell? ⟨g, 2, none⟩ = some (.bool s.isNone) := by
  obtain ⟨v, p, h1, _⟩ := h
  exact rc (i := 2) h1 rfl
/-- What bytes behind a mark say to the reference. -/
def rtaken {α : Type} (m : UInt8) (one : Bs → Pos → α × Pos) (right : α → Bool) (b : Bs) : Option α :=
  if (one b (rBegin m b)).2 = some b.length ∧ right (one b (rBegin m b)).1 = true then some (one b (rBegin m b)).1 else none
theorem rtaken_iff {α : Type} {m : UInt8} {one : Bs → Pos → α × Pos} {right : α → Bool} {b : Bs} {enc : α → Bs} {ok : α → Prop} (h : Fm b (one b) enc ok) (hr : ∀ x, right x = true → ok x) (x : α) :
    rtaken m one right b = some x ↔ right x = true ∧ b = m :: enc x := by
  unfold rtaken
  cases b with
  | nil =>
    have e : rBegin m [] = none := rfl
    rw [e]
    constructor
    · intro h1
      rw [h.stop] at h1
      simp at h1
    · rintro ⟨_, h1⟩
      cases h1
  | cons c l =>
    by_cases hc : c = m
    · subst hc
      have e : rBegin c (c :: l) = some 1 := by unfold rBegin; simp
      rw [e]
      constructor
      · intro h1
        split at h1
        · rename_i g
          injection h1 with h1
          subst h1
          refine ⟨g.2, ?_⟩
          have s := (h.sound 1 _ (by simp) g.1).1.1
          rw [show (c :: l).drop (c :: l).length = [] from by simp, List.append_nil] at s
          simpa using s
        · cases h1
      · rintro ⟨h1, h2⟩
        injection h2 with _ h2
        have s : Sees (c :: l) 1 (c :: l).length (enc x) := ⟨by simp [h2], by simp [h2]; omega, Nat.le_refl _⟩
        have e2 := h.put 1 _ x (hr x h1) s
        rw [if_pos (by rw [e2]; exact ⟨rfl, h1⟩), e2]
    · have e : rBegin m (c :: l) = none := by unfold rBegin; simp [hc]
      rw [e]
      constructor
      · intro h1
        rw [h.stop] at h1
        simp at h1
      · rintro ⟨_, h1⟩
        injection h1 with h1 _
        exact absurd h1 hc
/-- As the reference reads a fan. -/
def hFan (l : Bs) : Pos → Fan × Pos := rP (rI l) (rL l 32 (rPart l))
theorem rtakenFan (b : Bs) : rtaken 70 hFan fanOk b = takenFan b := by
  refine Option.ext fun f => ?_
  rw [takenFan_iff, rtaken_iff (enc := fanB) (ok := fun f => In64 f.1 ∧ ((f.2.length : Int) ≤ 32 ∧ ∀ p ∈ f.2, p.1.length = 32 ∧ In64 p.2)) ((fmI b).both ((fmPart b).many 32 (by omega))) (fun x hx => ?_) f]
  have h1 := fanOk_parts hx
  have h2 : levelB x.1 = true := by unfold fanOk at hx; simp only [Bool.and_eq_true] at hx; exact hx.1.1.1
  unfold levelB at h2
  have h3 := of_decide_eq_true h2
  exact ⟨⟨by omega, by omega⟩, by omega, h1.2⟩
end Go.Proofs.YtokebnkgjchfaaaGreatDoor
