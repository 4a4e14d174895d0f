/-
  Values read by the reference. Conditions: lengths within reach.
-/
import Derived.Test.YtmlfonmdiimdfaaDoorOEntry4
namespace Go.Proofs.YtmlfonmdiimdfaaDoor
open Go.RowKit

/-- What TakeEntry answers, of what was read. -/
def tookV (ok : Bool) (name : Bs) (v : Val) : Value := if ok then .tuple #[.agg #[.string (strB name), .int .i64 v.1, .string (strB v.2.1), .int .i64 v.2.2], .int .i64 0] else .tuple #[.agg #[.string ⟨#[]⟩, .int .i64 0, .string ⟨#[]⟩, .int .i64 0], .int .i64 81]
theorem tookV_yes (name : Bs) (v : Val) : tookV true name v = .tuple #[.agg #[.string (strB name), .int .i64 v.1, .string (strB v.2.1), .int .i64 v.2.2], .int .i64 0] := rfl
theorem tookV_no (name : Bs) (v : Val) : tookV false name v = .tuple #[.agg #[.string ⟨#[]⟩, .int .i64 0, .string ⟨#[]⟩, .int .i64 0], .int .i64 81] := rfl
theorem said_took {name val : Bs} {v : Val} {s : Pos} (h : hVal val (some 0) = (v, s)) {e : Ending} (he : e = .returned (tookV (decide (s = some val.length) && entryOk name v) name v)) : entrySaid name val e := by
  unfold entrySaid
  rw [← taken_alike]
  unfold said
  rw [h]
  simp only
  subst he
  by_cases h1 : s = some val.length
  · by_cases h2 : entryOk name v = true
    · rw [if_pos ⟨h1, h2⟩]
      simp [h1, h2, tookV]
    · rw [if_neg (fun h => h2 h.2)]
      simp [h2, tookV]
  · rw [if_neg (fun h => h1 h.1)]
    simp [h1, tookV]
theorem heap_at2 {w : World} {g : Nat} {v0 v1 v2 v3 u : Value} {t : TypeId} (h : w.heap[g]? = some (.cells #[v0, v1, v2, v3] t)) : (w.setCell ⟨g, 2, none⟩ u).heap[g]? = some (.cells #[v0, v1, u, v3] t) := by
  rw [heap_setCell _ _ _ _ _ _ _ h]
  simp
theorem heap_at3 {w : World} {g : Nat} {v0 v1 v2 v3 u : Value} {t : TypeId} (h : w.heap[g]? = some (.cells #[v0, v1, v2, v3] t)) : (w.setCell ⟨g, 3, none⟩ u).heap[g]? = some (.cells #[v0, v1, v2, u] t) := by
  rw [heap_setCell _ _ _ _ _ _ _ h]
  simp
set_option maxRecDepth 20000 in
set_option maxHeartbeats 1600000 in
theorem rtakeEntry_any (w : World) (name val : Bs) (hv : val.length ≤ 140737488351232) :
    Calls Tryd.prog 36 #[.string (strB name), .string (strB val)] w fun e w' => entrySaid name val e ∧ Below w.heap.size w w' := by
  obtain ⟨kind, s1, ht1⟩ : ∃ t s1, rI val (some 0) = (t, s1) := ⟨_, _, rfl⟩
  obtain ⟨id, s2, ht2⟩ : ∃ t s2, rD val s1 = (t, s2) := ⟨_, _, rfl⟩
  obtain ⟨size, s3, ht3⟩ : ∃ t s3, rI val s2 = (t, s3) := ⟨_, _, rfl⟩
  have hg : hVal val (some 0) = ((kind, (id, size)), s3) := by
    unfold hVal rPart
    simp only [rP, ht1, ht2, ht3]
  have H1 := hide ht1
  have H2 := hide ht2
  have H3 := hide ht3
  suffices key : Calls Tryd.prog 36 #[.string (strB name), .string (strB val)] w fun e w' => e = .returned (tookV (decide (s3 = some val.length) && entryOk name (kind, (id, size))) name (kind, (id, size))) ∧ Below w.heap.size w w' from
    key.mono (fun e w' h => ⟨said_took hg h.1, h.2⟩)
  clear hg ht1 ht2 ht3
  obtain ⟨q1, hq1⟩ : ∃ q, decide (s3 = some val.length) = q := ⟨_, rfl⟩
  obtain ⟨q2, hq2⟩ : ∃ q, entryOk name (kind, (id, size)) = q := ⟨_, rfl⟩
  rw [hq1, hq2]
  have Q1 := hide hq1
  have Q2 := hide hq2
  clear hq1 hq2
  have hbE : Below w.heap.size w (w.alloc (.cells #[.string ⟨#[]⟩, .int .i64 0, .string ⟨#[]⟩, .int .i64 0] 61)) := (Below.refl _ _).alloc (Nat.le_refl _) _
  have hx0 := heap_last w (.cells #[.string ⟨#[]⟩, .int .i64 0, .string ⟨#[]⟩, .int .i64 0] 61) _ rfl
  have hn0 : (w.alloc (.cells #[.string ⟨#[]⟩, .int .i64 0, .string ⟨#[]⟩, .int .i64 0] 61)).heap.size = w.heap.size + 1 := by simp
  have HV := hide hv
  clear hv
  go_enter Tryd.func36, Tryd.ntmps36
  go_wp2_with (refine wpList_tobytes _ rfl (.tmp 10) rfl (strB val) (by have := HV.out; rw [strB_size]; unfold maxLen; omega) rfl ?_; intro v2 w2 hsl2 hb2 hbk2; rw [strB_list] at hsl2; have HS := hide hsl2; have HBK := hide hbk2; clear hbk2; have HB := hide hb2; obtain ⟨ao, cap, rfl, -⟩ := hsl2; clear hb2)
  have B2 := hbE.trans (HB.out.mono hbE.size)
  have x2 := (HB.out.block _ (lt_of_heap hx0)).trans hx0
  have R3 : Rr (w.heap.size + 1) (w2.alloc (.cells #[.slice ao val.length cap, .int .i64 0, .bool false] 95)) w2.heap.size val (some 0) :=
    ⟨_, 0, heap_last w2 _ _ rfl, fun w' hu => HS.out.und (N := w.heap.size + 1) (fun b off n c e => by have := HBK.out b off n c e; omega) ⟨Nat.le_trans (by simp) hu.1, fun k hN hk => (hu.2 k hN hk).trans (heap_past w2 _ k hk)⟩, fun a ha => by injection ha with ha; subst ha; exact ⟨rfl, Nat.zero_le _⟩⟩
  have hb3 : Below w2.heap.size w2 (w2.alloc (.cells #[.slice ao val.length cap, .int .i64 0, .bool false] 95)) := (Below.refl _ _).alloc (Nat.le_refl _) _
  have x3 := (hb3.block _ (lt_of_heap x2)).trans x2
  have B3 := B2.trans (hb3.mono B2.size)
  have hs2 := HB.out.size
  clear HB HS HBK hb3 x2 B2 hbE hx0
  go_wp2_with fail
  generalize hw3 : w2.alloc (.cells #[.slice ao val.length cap, .int .i64 0, .bool false] 95) = w3 at *
  have hT := rint_any w3 w2.heap.size val (some 0) R3 HV.out
  rw [H1.out] at hT
  simp only at hT
  generalize hgg : w2.heap.size = g at *
  refine hT.mono ?_
  rintro e w4 ⟨rfl, R4, gb4⟩
  have x4 := (gb4.block _ (lt_of_heap x3) (fun e => by injection e with e; omega)).trans x3
  have B4 := B3.grown gb4 B3.size (fun k hk => by injection hk with hk; omega)
  have hqA : Below w4.heap.size w4 (w4.alloc (.cells #[.string (strB name), .int .i64 kind, .string ⟨#[]⟩, .int .i64 0] 61)) := (Below.refl _ _).alloc (Nat.le_refl _) _
  have z5 := heap_last w4 (.cells #[.string (strB name), .int .i64 kind, .string ⟨#[]⟩, .int .i64 0] 61) _ rfl
  have R5 := R4.keep hqA
  have x5 := (hqA.block _ (lt_of_heap x4)).trans x4
  have B5 := B4.trans (hqA.mono B4.size)
  have g4 := R4.lt
  have y4 := lt_of_heap x4
  clear hT gb4 R4 x3 B3 R3 x4 B4 hqA hw3 hgg
  go_wp2_with fail
  generalize hw5 : w4.alloc (.cells #[.string (strB name), .int .i64 kind, .string ⟨#[]⟩, .int .i64 0] 61) = w5 at *
  generalize hn5 : w4.heap.size = n5 at *
  have hT := rid_any w5 g val s1 R5 HV.out
  rw [H2.out] at hT
  simp only at hT
  refine hT.mono ?_
  rintro e w6 ⟨rfl, R6, gb6⟩
  have z6 := (gb6.block _ (lt_of_heap z5) (fun e => by injection e with e; omega)).trans z5
  have x6 := (gb6.block _ (lt_of_heap x5) (fun e => by injection e with e; omega)).trans x5
  have B6 := B5.grown gb6 B5.size (fun k hk => by injection hk with hk; omega)
  have d6 := rc (i := 2) z6 rfl
  have f6 := frozen0 (j := 2) z6
  have z7 := heap_at2 (u := .string (strB id)) z6
  have R7 := R6.set (n := n5) (i := 2) (u := .string (strB id)) (.inl (by omega))
  have x7 := ((gb_set w6 n5 2 (.string (strB id))).block _ (lt_of_heap x6) (fun e => by injection e with e; omega)).trans x6
  have B7 := B6.setCell (p := ⟨n5, 2, none⟩) (by simp; omega) (.string (strB id))
  clear hT gb6 R5 R6 x5 x6 B5 B6 z5 z6 hw5 hn5
  go_wp2_with fail
  generalize hw7 : w6.setCell ⟨n5, 2, none⟩ (.string (strB id)) = w7 at *
  have hT := rint_any w7 g val s2 R7 HV.out
  rw [H3.out] at hT
  simp only at hT
  clear d6 f6
  refine hT.mono ?_
  rintro e w8 ⟨rfl, R8, gb8⟩
  have z8 := (gb8.block _ (lt_of_heap z7) (fun e => by injection e with e; omega)).trans z7
  have x8 := (gb8.block _ (lt_of_heap x7) (fun e => by injection e with e; omega)).trans x7
  have B8 := B7.grown gb8 B7.size (fun k hk => by injection hk with hk; omega)
  have d8 := rc (i := 3) z8 rfl
  have f8 := frozen0 (j := 3) z8
  have z9 := heap_at3 (u := .int .i64 size) z8
  have R9 := R8.set (n := n5) (i := 3) (u := .int .i64 size) (.inl (by omega))
  have x9 := ((gb_set w8 n5 3 (.int .i64 size)).block _ (lt_of_heap x8) (fun e => by injection e with e; omega)).trans x8
  have B9 := B8.setCell (p := ⟨n5, 3, none⟩) (by simp; omega) (.int .i64 size)
  clear hT gb8 R7 R8 x7 x8 B7 B8 z7 z8 hw7
  go_wp2_with fail
  generalize hw9 : w8.setCell ⟨n5, 3, none⟩ (.int .i64 size) = w9 at *
  have hT := rends_any w9 g val s3 R9
  clear d8 f8
  rw [Q1.out] at hT
  refine hT.mono ?_
  rintro e wa ⟨rfl, hba⟩
  have za := (hba.block _ (lt_of_heap z9)).trans z9
  have xa := (hba.block _ (lt_of_heap x9)).trans x9
  have Ba := B9.trans (hba.mono B9.size)
  have l0 := rc (i := 0) za rfl
  have l1 := rc (i := 1) za rfl
  have l2 := rc (i := 2) za rfl
  have l3 := rc (i := 3) za rfl
  clear hT hba R9 x9 B9 z9 hw9
  have hr := rentryRight_any wa name (kind, (id, size))
  simp only at hr
  rw [Q2.out] at hr
  go_wp2_with fail
  refine hr.mono ?_
  rintro e wb ⟨rfl, hbb⟩
  have zb := (hbb.block _ (lt_of_heap za)).trans za
  have xb := (hbb.block _ (lt_of_heap xa)).trans xa
  have Bb := Ba.trans (hbb.mono Ba.size)
  clear hr hbb za xa Ba l0 l1 l2 l3
  have m0 := rc (i := 0) zb rfl
  have m1 := rc (i := 1) zb rfl
  have m2 := rc (i := 2) zb rfl
  have m3 := rc (i := 3) zb rfl
  have n0 := rc (i := 0) xb rfl
  have f0 := frozen0 (j := 0) xb
  have n1 := rc (i := 1) xb rfl
  have f1 := frozen0 (j := 1) xb
  have n2 := rc (i := 2) xb rfl
  have f2 := frozen0 (j := 2) xb
  have n3 := rc (i := 3) xb rfl
  have f3 := frozen0 (j := 3) xb
  cases q1
  · cases q2
    all_goals
      go_wp2
      exact bodyPost_ret (results_cell_tmp_row rfl _ _ _ _ _ _ _ rfl (heap_set4 xb) Tryd.underlying61 rfl Tryd.infoEntry) rfl ⟨rfl, ((((Bb.setCell (p := ⟨w.heap.size, 0, none⟩) (by simp) _).setCell (p := ⟨w.heap.size, 1, none⟩) (by simp) _).setCell (p := ⟨w.heap.size, 2, none⟩) (by simp) _).setCell (p := ⟨w.heap.size, 3, none⟩) (by simp) _)⟩
  · cases q2
    all_goals
      go_wp2
      exact bodyPost_ret (results_cell_tmp_row rfl _ _ _ _ _ _ _ rfl (heap_set4 xb) Tryd.underlying61 rfl Tryd.infoEntry) rfl ⟨rfl, ((((Bb.setCell (p := ⟨w.heap.size, 0, none⟩) (by simp) _).setCell (p := ⟨w.heap.size, 1, none⟩) (by simp) _).setCell (p := ⟨w.heap.size, 2, none⟩) (by simp) _).setCell (p := ⟨w.heap.size, 3, none⟩) (by simp) _)⟩
end Go.Proofs.YtmlfonmdiimdfaaDoor
