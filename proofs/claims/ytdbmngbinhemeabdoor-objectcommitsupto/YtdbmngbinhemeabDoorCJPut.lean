/-
  Objects made by the reference: Of, put, Chunk; a chunk read. Conditions: lengths within reach.
  A chunk made and read by the reference. Conditions: lengths within reach.
  A fan, looked at by the reference. Conditions: its parts lie there.
  A fan, made by the reference. Conditions: its parts lie there; its level is a number of 64 bits.
-/
import Derived.Test.YtdbmngbinhemeabDoorCHRefSum
import Derived.Test.YtdbmngbinhemeabDoorCJEnt
import Derived.Test.YtdbmngbinhemeabDoorCOChunk
namespace Go.Proofs.YtdbmngbinhemeabDoor
open Go.RowKit

set_option maxRecDepth 20000 in
set_option maxHeartbeats 800000 in
theorem rof_any (w : World) (l : Bs) (hl : l.length ≤ 1048576) :
    Calls Tryd.prog 86 #[.string (strB l)] w fun e w' => e = .returned (objV l) ∧ Below w.heap.size w w' := by
  rw [objV_def]
  have hls := strB_size l
  have hb0 : Below w.heap.size w (w.alloc (.cells #[.string ⟨#[]⟩, .string ⟨#[]⟩] 27)) := (Below.refl _ _).alloc (Nat.le_refl _) _
  have hx0 := heap_last w (.cells #[.string ⟨#[]⟩, .string ⟨#[]⟩] 27) _ rfl
  have hsum := fun W v h => refSum_any W v l h hl
  generalize sha l = S at *
  have HSU := hide hsum
  clear hsum
  go_enter Tryd.func86, Tryd.ntmps86
  go_wp2_with (refine wpList_tobytes _ rfl (.tmp 3) rfl (strB l) (by rw [strB_size]; unfold maxLen; omega) rfl ?_; intro v2 w2 hsl2 hb2 _; rw [strB_list] at hsl2; have HS := hide hsl2; have HB := hide hb2; obtain ⟨ao, cap, rfl, -⟩ := hsl2; clear hb2)
  have x2 := (HB.out.block _ (lt_of_heap hx0)).trans hx0
  have B2 := hb0.trans (HB.out.mono hb0.size)
  clear HB
  go_wp2_with fail
  refine (HSU.out _ _ HS.out).mono ?_
  rintro e w3 ⟨g, k, rfl, sl3, hb3⟩
  have x3 := (hb3.block _ (lt_of_heap x2)).trans x2
  have B3 := B2.trans (hb3.mono B2.size)
  have hcv := run_strV sl3 w3 (Below.refl _ _)
  have c0 := rc (i := 0) x3 rfl
  have c1 := rc (i := 1) x3 rfl
  have f0 := frozen0 (j := 0) x3
  have f1 := frozen0 (j := 1) x3
  clear HSU HS hb3 x2 B2 hb0 hx0 sl3
  go_wp2
  refine bodyPost_ret (results_cell_row rfl _ _ _ _ _ _ _ rfl (heap_set2 x3) Tryd.underlying27 rfl Tryd.infoObj) rfl ⟨rfl, ?_⟩
  exact (B3.setCell (p := ⟨w.heap.size, 0, none⟩) (by simp) _).setCell (p := ⟨w.heap.size, 1, none⟩) (by simp) _
theorem made_yes' (b : Bs) : made true b = .tuple #[.agg #[.string (strB (sha b)), .string (strB b)], .int .i64 0] := rfl
theorem made_no' (b : Bs) : made false b = .tuple #[.agg #[.string ⟨#[]⟩, .string ⟨#[]⟩], .int .i64 80] := rfl
set_option maxRecDepth 20000 in
set_option maxHeartbeats 800000 in
theorem rput_any (w : World) (v : Value) (l : Bs) (ok : Bool) (h : Sl w v l) (hl : ok = true → l.length ≤ 1048576) :
    Calls Tryd.prog 38 #[v, .bool ok] w fun e w' => e = .returned (made ok l) ∧ Below w.heap.size w w' := by
  have hb0 : Below w.heap.size w (w.alloc (.cells #[.string ⟨#[]⟩, .string ⟨#[]⟩] 27)) := (Below.refl _ _).alloc (Nat.le_refl _) _
  have hx0 := heap_last w (.cells #[.string ⟨#[]⟩, .string ⟨#[]⟩] 27) _ rfl
  have hcv := run_strV h _ hb0
  obtain ⟨ao, cap, rfl, -⟩ := h
  cases ok with
  | false =>
    rw [made_no']
    have c0 := rc (i := 0) hx0 rfl
    have c1 := rc (i := 1) hx0 rfl
    have f0 := frozen0 (j := 0) hx0
    have f1 := frozen0 (j := 1) hx0
    go_enter Tryd.func38, Tryd.ntmps38
    go_wp2
    refine bodyPost_ret (results_cell_tmp_row rfl _ _ _ _ #[.string ⟨#[]⟩, .string ⟨#[]⟩] _ _ rfl (by first | exact hx0 | exact heap_set2 hx0) Tryd.underlying27 rfl Tryd.infoObj) rfl ⟨rfl, ?_⟩
    first | exact hb0 | exact (hb0.setCell (p := ⟨w.heap.size, 0, none⟩) (by simp) _).setCell (p := ⟨w.heap.size, 1, none⟩) (by simp) _
  | true =>
    rw [made_yes']
    have hof := fun W => rof_any W l (hl rfl)
    rw [objV_def] at hof
    generalize sha l = S at *
    go_enter Tryd.func38, Tryd.ntmps38
    go_wp2_with fail
    refine (hof _).mono ?_
    rintro e w3 ⟨rfl, hb3⟩
    have x3 := (hb3.block _ (lt_of_heap hx0)).trans hx0
    have B3 := hb0.trans (hb3.mono hb0.size)
    have c0 := rc (i := 0) x3 rfl
    have c1 := rc (i := 1) x3 rfl
    have f0 := frozen0 (j := 0) x3
    have f1 := frozen0 (j := 1) x3
    clear hof hb3 hb0 hx0
    go_wp2
    refine bodyPost_ret (results_cell_tmp_row rfl _ _ _ _ _ _ _ rfl (heap_set2 x3) Tryd.underlying27 rfl Tryd.infoObj) rfl ⟨rfl, ?_⟩
    exact (B3.setCell (p := ⟨w.heap.size, 0, none⟩) (by simp) _).setCell (p := ⟨w.heap.size, 1, none⟩) (by simp) _
end Go.Proofs.YtdbmngbinhemeabDoor
namespace Go.Proofs.YtdbmngbinhemeabDoor
open Go.RowKit

theorem own_one (w : World) (c : UInt8) : (w.alloc (.cells #[.int .u8 (c.toNat : Int)] 5)).ownsRow w.heap.size 5 1 (.slice (some ⟨w.heap.size, 0, none⟩) 1 1) 1 (bc [c]) :=
  ⟨rfl, .inr ⟨_, 1, _, rfl, Nat.le_refl _, heap_last w _ _ rfl, Nat.le_refl _, by decide, rfl, rfl⟩⟩
theorem made_form (q : Bool) (b : Bs) : ∃ x y k, made q b = .tuple #[.agg #[.string (strB x), .string (strB y)], .int .i64 k] := by
  cases q
  · exact ⟨[], [], 80, made_no' b⟩
  · exact ⟨_, b, 0, made_yes' b⟩
set_option maxRecDepth 20000 in
set_option maxHeartbeats 800000 in
theorem rchunk_any (w : World) (d : Bs) (hd : d.length ≤ 140737488351232) :
    Calls Tryd.prog 10 #[.string (strB d)] w fun e w' => e = .returned (made (chunkOk d) (67 :: d)) ∧ Below w.heap.size w w' := by
  obtain ⟨i0, hi, hz0, hz1, hz2⟩ := info_parts Tryd.infoB
  have hds := strB_size d
  have hb0 : Below w.heap.size w (w.alloc (.cells #[.string ⟨#[]⟩, .string ⟨#[]⟩] 27)) := (Below.refl _ _).alloc (Nat.le_refl _) _
  have hx0 := heap_last w (.cells #[.string ⟨#[]⟩, .string ⟨#[]⟩] 27) _ rfl
  have hn0 : (w.alloc (.cells #[.string ⟨#[]⟩, .string ⟨#[]⟩] 27)).heap.size = w.heap.size + 1 := by simp
  have hb1 := hb0.alloc hb0.size (.cells #[.int .u8 67] 5)
  have x1 := (heap_past (w.alloc (.cells #[.string ⟨#[]⟩, .string ⟨#[]⟩] 27)) (.cells #[.int .u8 67] 5) w.heap.size (by simp)).trans hx0
  have own1 := own_one (w.alloc (.cells #[.string ⟨#[]⟩, .string ⟨#[]⟩] 27)) 67
  rw [show ((67 : UInt8).toNat : Int) = 67 from rfl] at own1
  obtain ⟨a, b, k, hm⟩ := made_form (chunkOk d) (67 :: d)
  have hP := fun W v (h : Sl W v (67 :: d)) => rput_any W v (67 :: d) (chunkOk d) h (fun hk => by unfold chunkOk at hk; have := of_decide_eq_true hk; simp; omega)
  rw [hm] at hP ⊢
  have hck : decide ((d.length : Int) ≤ 1024) = chunkOk d := by unfold chunkOk; rw [Bool.eq_iff_iff]; simp; omega
  have HP := hide hP
  have HC := hide hck
  have HX := hide x1
  have HB := hide hb1
  have HM := hide hm
  have hs0 : w.heap.size + 1 ≤ ((w.alloc (.cells #[.string ⟨#[]⟩, .string ⟨#[]⟩] 27)).alloc (.cells #[.int .u8 67] 5)).heap.size := by simp
  rw [hn0] at own1
  clear hP hck x1 hb1 hm hx0 hb0
  go_enter Tryd.func10, Tryd.ntmps10
  go_wp2_with (at_builtin; refine Lib.wpList_append_own_string _ rfl (.tmp 4) (.tmp 5) 71 9 rfl (w.heap.size + 1) 5 i0 Tryd.underlying71 Tryd.underlying9 hi hz0 hz1 hz2 (.slice (some ⟨w.heap.size + 1, 0, none⟩) 1 1) 1 (bc [67]) rfl own1 (strB d) rfl (by unfold maxLen; omega) (by omega) hs0 ?_; intro v1 w1 hown1 hgr1 _)
  have x1 := (hgr1.block _ (lt_of_heap HX.out) (fun e => by have := (own1.lt _ e.symm).1; omega)).trans HX.out
  have B1 : Below w.heap.size w w1 := HB.out.grown hgr1 HB.out.size (fun q hq => by have := (own1.lt q hq).1; omega)
  have e1 : Lib.strCells (strB d) = bc d := by show bc (strB d).data.toList = _; rw [strB_list]
  rw [e1, ← bc_append, hds, show 1 + d.length = ([67] ++ d).length from by simp; omega] at hown1
  have sl1 : Sl w1 v1 (67 :: d) := sl_of_own hown1
  have H1 := hide (HP.out w1 v1 sl1)
  obtain ⟨ao, cap, rfl, -⟩ := sl1
  have hl1 : (67 :: d).length = d.length + 1 := rfl
  clear hown1 hgr1 own1 HX HB HP
  go_wp2_with fail
  try rw [HC.out]
  refine H1.out.mono ?_
  rintro e w3 ⟨rfl, hb3⟩
  have x3 := (hb3.block _ (lt_of_heap x1)).trans x1
  have B3 := B1.trans (hb3.mono B1.size)
  have c0 := rc (i := 0) x3 rfl
  have c1 := rc (i := 1) x3 rfl
  have f0 := frozen0 (j := 0) x3
  have f1 := frozen0 (j := 1) x3
  clear hb3 x1 B1 H1
  go_wp2
  refine bodyPost_ret (results_cell_tmp_row rfl _ _ _ _ _ _ _ rfl (heap_set2 x3) Tryd.underlying27 rfl Tryd.infoObj) rfl ⟨rfl, ?_⟩
  exact (B3.setCell (p := ⟨w.heap.size, 0, none⟩) (by simp) _).setCell (p := ⟨w.heap.size, 1, none⟩) (by simp) _
end Go.Proofs.YtdbmngbinhemeabDoor
namespace Go.Proofs.YtdbmngbinhemeabDoor
open Go.RowKit

/-- A part, as the reference looks at it. -/
def rpartOk (p : Part) : Bool := isIdB p.1 && decide (1 ≤ p.2) && decide (p.2 ≤ 262144)
theorem sum_ge {xs : List Int} (h : ∀ x ∈ xs, 1 ≤ x) : ∀ x ∈ xs, x ≤ xs.sum := by
  induction xs with
  | nil => intro x hx; simp at hx
  | cons y ys ih =>
    have h1 := ih (fun x hx => h x (by simp [hx]))
    have hy := h y (by simp)
    have h0 : ∀ zs : List Int, (∀ x ∈ zs, 1 ≤ x) → 0 ≤ zs.sum := by
      intro zs
      induction zs with
      | nil => intro _; simp
      | cons z zs ih2 => intro g; have g1 := ih2 (fun x hx => g x (by simp [hx])); have g2 := g z (by simp); simp; omega
    have h2 := h0 ys (fun x hx => h x (by simp [hx]))
    intro x hx
    rw [List.sum_cons]
    rcases List.mem_cons.1 hx with rfl | hx
    · omega
    · have := h1 x hx; omega
theorem within_alike (xs : List Int) (m : Int) (hm : 0 ≤ m) : within xs m = (xs.all (fun n => decide (1 ≤ n) && decide (n ≤ m)) && decide (xs.sum ≤ m)) := by
  rw [Bool.eq_iff_iff, within_iff xs m hm]
  simp only [Bool.and_eq_true, List.all_eq_true, decide_eq_true_eq]
  constructor
  · rintro ⟨h1, h2⟩
    exact ⟨fun x hx => ⟨h1 x hx, by have := sum_ge h1 x hx; omega⟩, h2⟩
  · rintro ⟨h1, h2⟩
    exact ⟨fun x hx => (h1 x hx).1, h2⟩
theorem fanOk_alike (f : Fan) (h : levelB f.1 = true) (h1 : 1 ≤ f.2.length) (h2 : f.2.length ≤ 32) : fanOk f = (f.2.all rpartOk && decide ((f.2.map (·.2)).sum ≤ 262144)) := by
  unfold fanOk
  rw [within_alike _ _ (by omega), h, decide_eq_true (show 1 ≤ f.2.length ∧ f.2.length ≤ 32 from ⟨h1, h2⟩)]
  rw [Bool.eq_iff_iff]
  simp only [rpartOk, Bool.and_eq_true, List.all_eq_true, decide_eq_true_eq, List.mem_map, forall_exists_index, and_imp]
  constructor
  · rintro ⟨⟨_, g1⟩, g2, g3⟩
    exact ⟨fun x hx => ⟨⟨g1 x hx, (g2 _ x hx rfl).1⟩, (g2 _ x hx rfl).2⟩, g3⟩
  · rintro ⟨g1, g2⟩
    exact ⟨⟨by simp, fun x hx => (g1 x hx).1.1⟩, fun n x hx e => by subst e; exact ⟨(g1 x hx).1.2, (g1 x hx).2⟩, g2⟩
theorem sum_step (xs : List Part) (k : Nat) (h : k < xs.length) : ((xs.take (k + 1)).map (·.2)).sum = ((xs.take k).map (·.2)).sum + xs[k].2 := by
  rw [List.take_succ_eq_append_getElem h, List.map_append, List.sum_append]
  simp only [List.map_cons, List.map_nil, List.sum_cons, List.sum_nil, Int.add_zero]
theorem sum_small (xs : List Part) (k : Nat) (hk : k ≤ 32) (h : (xs.take k).all rpartOk = true) : 0 ≤ ((xs.take k).map (·.2)).sum ∧ ((xs.take k).map (·.2)).sum ≤ 262144 * 32 := by
  have key : ∀ ys : List Part, ys.all rpartOk = true → 0 ≤ (ys.map (·.2)).sum ∧ (ys.map (·.2)).sum ≤ 262144 * ys.length := by
    intro ys
    induction ys with
    | nil => intro _; simp
    | cons y ys ih =>
      intro g
      simp only [List.all_cons, Bool.and_eq_true] at g
      have g1 := ih g.2
      have g2 := g.1
      unfold rpartOk at g2
      simp only [Bool.and_eq_true, decide_eq_true_eq] at g2
      simp only [List.map_cons, List.sum_cons, List.length_cons]
      omega
  have h1 := key _ h
  have h2 : (xs.take k).length ≤ k := by rw [List.length_take]; omega
  omega
set_option maxRecDepth 20000 in
set_option maxHeartbeats 1600000 in
theorem rfanRight_any (w : World) (f : Fan) (v : Value) (hv : Ls w.heap.size w 2 partC v f.2) :
    Calls Tryd.prog 45 #[.agg #[.int .i64 f.1, v]] w fun e w' => e = .returned (.bool (fanOk f)) ∧ Below w.heap.size w w' := by
  have hb0 : Below w.heap.size w (w.alloc (.cells #[.int .i64 f.1, v] 24)) := (Below.refl _ _).alloc (Nat.le_refl _) _
  have x0 := heap_last w (.cells #[.int .i64 f.1, v] 24) _ rfl
  have hv0 := hv.keep hb0
  obtain ⟨lv, xs⟩ := f
  simp only at *
  obtain ⟨ao, cap, rfl, g1, g2, h4⟩ := hv0
  unfold maxLen at g2
  have c0 := rc (i := 0) x0 rfl
  have c1 := rc (i := 1) x0 rfl
  clear hv
  generalize hw0 : w.alloc (.cells #[.int .i64 lv, .slice ao xs.length cap] 24) = w0 at *
  have HW := hide hw0
  clear hw0
  by_cases ha : lv < 1
  · have hok : fanOk (lv, xs) = false := by unfold fanOk levelB; simp; omega
    rw [hok]
    go_enter Tryd.func45, Tryd.ntmps45
    go_wp2_with fail
    try rw [HW.out]
    go_wp2
    go_ret
    exact ⟨rfl, hb0⟩
  by_cases hb : 20 < lv
  · have hok : fanOk (lv, xs) = false := by unfold fanOk levelB; simp; omega
    rw [hok]
    go_enter Tryd.func45, Tryd.ntmps45
    go_wp2_with fail
    try rw [HW.out]
    go_wp2
    go_ret
    exact ⟨rfl, hb0⟩
  by_cases hc : xs.length < 1
  · have hok : fanOk (lv, xs) = false := by unfold fanOk levelB; simp; omega
    rw [hok]
    go_enter Tryd.func45, Tryd.ntmps45
    go_wp2_with fail
    try rw [HW.out]
    go_wp2
    go_ret
    exact ⟨rfl, hb0⟩
  by_cases hd : 32 < xs.length
  · have hok : fanOk (lv, xs) = false := by unfold fanOk levelB; simp; omega
    rw [hok]
    go_enter Tryd.func45, Tryd.ntmps45
    go_wp2_with fail
    try rw [HW.out]
    go_wp2
    go_ret
    exact ⟨rfl, hb0⟩
  have hok := fanOk_alike (lv, xs) (by unfold levelB; simp; omega) (by simp only; omega) (by simp only; omega)
  simp only at hok
  rw [hok]
  clear hok
  go_enter Tryd.func45, Tryd.ntmps45
  go_wp2_with fail
  try rw [HW.out]
  go_wp2_with fail
  go_loopw [3, 4] (fun s t wr => ∃ k : Nat, k ≤ xs.length ∧ t = .int .i64 k ∧ s = .int .i64 ((xs.take k).map (·.2)).sum ∧ (xs.take k).all rpartOk = true ∧ wr = w0)
    (fun _ t _ => xs.length - (intOf t).toNat)
  case atStart => exact ⟨0, by omega, rfl, by simp, by simp, rfl⟩
  case round =>
    obtain ⟨k, hk, rfl, rfl, hall, rfl⟩ := hrel
    have HA := hide hall
    by_cases hlt : k < xs.length
    · obtain ⟨b, off, rfl, hbB, hcl⟩ := h4 (by rintro rfl; simp at hlt)
      have hst := all_step rpartOk xs k hlt HA.out
      have hno := all_false rpartOk xs k hlt
      have hsm := sum_small xs k (by omega) HA.out
      have hss := sum_step xs k hlt
      have k0 := hcl k hlt 0 _ rfl
      have k1 := hcl k hlt 1 _ rfl
      simp only [Nat.add_zero] at k0
      have SS := hide hss
      clear hss hcl h4 hall
      generalize xs[k] = x at *
      generalize ((xs.take k).map (·.2)).sum = S at *
      have HST := hide hst
      have HNO := hide hno
      clear hst hno
      have hbad : (isIdB x.1 = false ∨ x.2 < 1 ∨ 262144 < x.2) → rpartOk x = false := by
        intro h
        unfold rpartOk
        rcases h with h | h | h
        · rw [h]; rfl
        · rw [decide_eq_false (by omega : ¬ 1 ≤ x.2)]; simp
        · rw [decide_eq_false (by omega : ¬ x.2 ≤ 262144)]; simp
      by_cases q0 : isIdB x.1 = true
      · by_cases q1 : x.2 < 1
        · have hf := hbad (.inr (.inl q1))
          clear hbad
          go_wp2_with fail
          refine (risId_any _ x.1).mono ?_
          rintro e w2 ⟨rfl, rfl⟩
          rw [q0]
          go_wp2
          go_ret
          exact ⟨ret_bool (by rw [← HNO.out hf]; rfl), hb0⟩
        · by_cases q2 : 262144 < x.2
          · have hf := hbad (.inr (.inr q2))
            clear hbad
            go_wp2_with fail
            refine (risId_any _ x.1).mono ?_
            rintro e w2 ⟨rfl, rfl⟩
            rw [q0]
            go_wp2
            go_ret
            exact ⟨ret_bool (by rw [← HNO.out hf]; rfl), hb0⟩
          · have hf : rpartOk x = true := by unfold rpartOk; rw [q0, decide_eq_true (by omega : 1 ≤ x.2), decide_eq_true (by omega : x.2 ≤ 262144)]; rfl
            clear hbad
            have hwr : IntKind.i64.wrap (S + x.2) = S + x.2 := by rw [IntKind.wrap_i64]; omega
            go_wp2_with fail
            refine (risId_any _ x.1).mono ?_
            rintro e w2 ⟨rfl, rfl⟩
            rw [q0]
            go_wp2
            go_roundw
            case rel => exact ⟨k + 1, by omega, by go_num, by rw [SS.out], HST.out hf, trivial⟩
            case measure => simp [intOf]; omega
      · have q0 := Bool.eq_false_iff.2 q0
        have hf := hbad (.inl q0)
        clear hbad
        go_wp2_with fail
        refine (risId_any _ x.1).mono ?_
        rintro e w2 ⟨rfl, rfl⟩
        rw [q0]
        go_wp2
        go_ret
        exact ⟨ret_bool (by rw [← HNO.out hf]; rfl), hb0⟩
    · obtain rfl : k = xs.length := by omega
      have ht := HA.out
      rw [List.take_length] at ht
      clear hall
      rw [List.take_length]
      go_wp2
      go_ret
      exact ⟨ret_bool (by rw [ht]; simp), hb0⟩
end Go.Proofs.YtdbmngbinhemeabDoor
namespace Go.Proofs.YtdbmngbinhemeabDoor
open Go.RowKit

/-- A row of its own, made since B. -/
def Ow (B : Nat) (w : World) (v : Value) (l : Bs) : Prop := w.ownsRow B 5 1 v l.length (bc l)
theorem Ow.sl {B : Nat} {w : World} {v : Value} {l : Bs} (h : Ow B w v l) : Sl w v l := sl_of_own h
theorem Ow.keep {B : Nat} {w w' : World} {v : Value} {l : Bs} (h : Ow B w v l) (hb : Below w.heap.size w w') : Ow B w' v l :=
  World.ownsRow.kept (row := none) h ⟨hb.os, hb.tape, hb.output, hb.size, fun k hk _ => hb.block k hk⟩ (by cases hq : v.ownBlock with | none => exact .inl rfl | some k => exact .inr (by simp))
theorem Ow.app {B B' : Nat} {w : World} {v u : Value} {l m : Bs} (h : Ow B w v l) (k : Ow B' w u m) (hm : 1 ≤ m.length) (hsz : l.length + m.length ≤ 140737488355328) (hB : B ≤ w.heap.size) :
    ∃ v' w', (Builtin.append_ #[71, 71] 71 #[v, u]).run Tryd.prog w = .ok v' w' ∧ Ow B w' v' (l ++ m) ∧ Below B w w' := by
  obtain ⟨i0, hi, hz0, hz1, hz2⟩ := info_parts Tryd.infoB
  have hk2 := k.2
  rcases hk2 with ⟨rfl, h0⟩ | ⟨g4, cap4, cur4, rfl, -, -, -, -, -, -⟩
  · omega
  obtain ⟨v5, w5, hrun5, own5, hgr5, -⟩ := run_append_own (P := Tryd.prog) w B 71 71 5 i0 (.int .u8 0) 1 1 Tryd.underlying71 hi hz0 hz1 hz2 rfl (by decide) v l.length (bc l) h ⟨g4, 0, none⟩ m.length cap4 (bc m) (by rw [bc_length]; omega) (World.ownsRow.cells k (g := g4) rfl) (bc_one _) (by unfold maxLen; omega) (by omega) hB
  rw [← bc_append, ← List.length_append] at own5
  exact ⟨v5, w5, hrun5, own5, (Below.refl _ _).grown hgr5 hB (fun q hq => (World.ownsRow.lt h q hq).1)⟩
theorem Ow.str {B : Nat} {w : World} {v : Value} {l m : Bs} (h : Ow B w v l) (hsz : l.length + m.length ≤ 140737488355328) (hB : B ≤ w.heap.size) :
    ∃ v' w', (Builtin.append_ #[71, 9] 71 #[v, .string (strB m)]).run Tryd.prog w = .ok v' w' ∧ Ow B w' v' (l ++ m) ∧ Below B w w' := by
  obtain ⟨i0, hi, hz0, hz1, hz2⟩ := info_parts Tryd.infoB
  have hds := strB_size m
  obtain ⟨v3, w3, hrun, own3, hgr3, -⟩ := Lib.run_append_own_string (P := Tryd.prog) w B 71 9 71 5 i0 Tryd.underlying71 Tryd.underlying9 hi hz0 hz1 hz2 v l.length (bc l) h (strB m) (by unfold maxLen; omega) (by omega) hB
  have e3 : Lib.strCells (strB m) = bc m := by show bc (strB m).data.toList = _; rw [strB_list]
  rw [e3, ← bc_append, hds, ← List.length_append] at own3
  exact ⟨v3, w3, hrun, own3, (Below.refl _ _).grown hgr3 hB (fun q hq => (World.ownsRow.lt h q hq).1)⟩
theorem Ow.form {B : Nat} {w : World} {v : Value} {l : Bs} (h : Ow B w v l) : ∃ a n c, v = .slice a n c := by
  obtain ⟨a, c, h1, -⟩ := own_form h
  exact ⟨a, _, c, h1⟩
theorem rnum_any (w : World) (n : Int) (h : In64 n) : Calls Tryd.prog 46 #[.int .i64 n] w fun e w' => ∃ v, e = .returned v ∧ Ow w.heap.size w' v (num n) ∧ Below w.heap.size w w' := rnumber_any w n h
theorem ow_one (w : World) (c : UInt8) : Ow w.heap.size (w.alloc (.cells #[.int .u8 (c.toNat : Int)] 5)) (.slice (some ⟨w.heap.size, 0, none⟩) 1 1) [c] := own_one w c
theorem flatP_le (xs : List Part) (h : ∀ p ∈ xs, p.1.length = 32) : (xs.flatMap partB).length ≤ 42 * xs.length := by
  induction xs with
  | nil => simp
  | cons y ys ih =>
    have h1 := ih (fun p hp => h p (by simp [hp]))
    have h2 := h y (by simp)
    have h3 := num_length y.2
    have h4 : (partB y).length = y.1.length + (num y.2).length := by unfold partB; rw [List.length_append]
    rw [List.flatMap_cons, List.length_append, List.length_cons, h4]
    omega
theorem fanOk_parts {f : Fan} (h : fanOk f = true) : f.2.length ≤ 32 ∧ ∀ p ∈ f.2, p.1.length = 32 ∧ In64 p.2 := by
  simp only [fanOk, levelB, isIdB, Bool.and_eq_true, decide_eq_true_eq, List.all_eq_true] at h
  obtain ⟨⟨⟨h1, h2⟩, h3⟩, h4⟩ := h
  exact ⟨by omega, fun p hp => ⟨h3 p hp, within_64 h4 (by omega) (by omega) _ (List.mem_map_of_mem hp)⟩⟩
set_option maxRecDepth 20000 in
set_option maxHeartbeats 1600000 in
theorem rfan_any (w : World) (f : Fan) (v : Value) (hv : Ls w.heap.size w 2 partC v f.2) (hlv : In64 f.1) :
    Calls Tryd.prog 12 #[.agg #[.int .i64 f.1, v]] w fun e w' => e = .returned (made (fanOk f) (70 :: fanB f)) ∧ Below w.heap.size w w' := by
  have hb0 : Below w.heap.size w ((w.alloc (.cells #[.int .i64 f.1, v] 24)).alloc (.cells #[.string ⟨#[]⟩, .string ⟨#[]⟩] 27)) := ((Below.refl _ _).alloc (Nat.le_refl _) _).alloc (by simp) _
  have z0 := (heap_past (w.alloc (.cells #[.int .i64 f.1, v] 24)) (.cells #[.string ⟨#[]⟩, .string ⟨#[]⟩] 27) w.heap.size (by simp)).trans (heap_last w (.cells #[.int .i64 f.1, v] 24) _ rfl)
  have x0 := heap_last (w.alloc (.cells #[.int .i64 f.1, v] 24)) (.cells #[.string ⟨#[]⟩, .string ⟨#[]⟩] 27) (w.heap.size + 1) (by simp)
  have hn0 : ((w.alloc (.cells #[.int .i64 f.1, v] 24)).alloc (.cells #[.string ⟨#[]⟩, .string ⟨#[]⟩] 27)).heap.size = w.heap.size + 2 := by simp
  have hv0 := hv.keep hb0
  generalize hw0 : (w.alloc (.cells #[.int .i64 f.1, v] 24)).alloc (.cells #[.string ⟨#[]⟩, .string ⟨#[]⟩] 27) = w0 at *
  have HW := hide hw0
  have hR := rfanRight_any w0 f v (hv0.up (by omega))
  have HV := hide hv0
  obtain ⟨ao, cap, rfl, g1, g2, -⟩ := hv0
  unfold maxLen at g2
  have c0 := rc (i := 0) z0 rfl
  have c1 := rc (i := 1) z0 rfl
  clear hv hw0
  obtain ⟨q, hq⟩ : ∃ q, fanOk f = q := ⟨_, rfl⟩
  rw [hq] at hR ⊢
  obtain ⟨ra, rb, rk, hm⟩ := made_form q (70 :: fanB f)
  rw [hm]
  have HM := hide hm
  clear hm
  go_enter Tryd.func12, Tryd.ntmps12
  go_wp2_with fail
  try rw [HW.out]
  refine hR.mono ?_
  rintro e w1 ⟨rfl, hb1⟩
  have z1 := (hb1.block _ (lt_of_heap z0)).trans z0
  have x1 := (hb1.block _ (lt_of_heap x0)).trans x0
  have B1 : Below w0.heap.size w0 w1 := hb1
  have o1 := ow_one w1 70
  rw [show ((70 : UInt8).toNat : Int) = 70 from rfl] at o1
  have hb2 : Below w1.heap.size w1 (w1.alloc (.cells #[.int .u8 70] 5)) := (Below.refl _ _).alloc (Nat.le_refl _) _
  have z2 := (hb2.block _ (lt_of_heap z1)).trans z1
  have x2 := (hb2.block _ (lt_of_heap x1)).trans x1
  have d0 := rc (i := 0) z2 rfl
  have n1 := num_length f.1
  have n2 := num_length f.2.length
  have B2 := B1.trans (hb2.mono B1.size)
  have s1 := lt_of_heap z1
  have y1 := lt_of_heap x1
  have s2 := hb2.size
  clear hR c0 c1 hb1 hb2 z1 x1
  go_wp2_with fail
  generalize hw2 : w1.alloc (.cells #[.int .u8 70] 5) = w2 at *
  clear hw2
  refine (rnum_any w2 f.1 hlv).mono ?_
  rintro e w3 ⟨u3, rfl, own3, hb3⟩
  have s3 := hb3.size
  obtain ⟨v4, w4, run4, o4, hb4⟩ := (o1.keep hb3).app own3 n1.1 (by simp only [List.length_cons, List.length_nil]; omega) (by omega)
  have R4 := hide run4
  have z4 := (hb4.block _ s1).trans ((hb3.block _ (lt_of_heap z2)).trans z2)
  have x4 := (hb4.block _ y1).trans ((hb3.block _ (lt_of_heap x2)).trans x2)
  have B4 := (B2.trans (hb3.mono B2.size)).trans (hb4.mono B1.size)
  have s4 := hb4.size
  have d1 := rc (i := 1) z4 rfl
  clear run4 own3 o1 hb3 hb4 z2 x2 B2 d0
  go_wp2_with (at_builtin; refine wpList_plain rfl (fun K hK => wp_append_run (.tmp 9) (.tmp 12) 71 rfl rfl rfl R4.out (hK _ _ ?_)))
  go_wp2_with fail
  refine (rnum_any w4 (f.2.length : Int) ⟨by omega, by omega⟩).mono ?_
  rintro e w5 ⟨u5, rfl, own5, hb5⟩
  have s5 := hb5.size
  obtain ⟨v6, w6, run6, o6, hb6⟩ := (o4.keep hb5).app own5 n2.1 (by simp only [List.length_append, List.length_cons, List.length_nil]; omega) (by omega)
  have R6 := hide run6
  have z6 := (hb6.block _ s1).trans ((hb5.block _ (lt_of_heap z4)).trans z4)
  have x6 := (hb6.block _ y1).trans ((hb5.block _ (lt_of_heap x4)).trans x4)
  have B6 := (B4.trans (hb5.mono B4.size)).trans (hb6.mono B1.size)
  have s6 := hb6.size
  clear run6 own5 o4 hb5 hb6 z4 x4 B4 d1 R4
  go_wp2_with (at_builtin; refine wpList_plain rfl (fun K hK => wp_append_run (.tmp 14) (.tmp 18) 71 rfl rfl rfl R6.out (hK _ _ ?_)))
  go_wp2_with fail
  clear R6
  cases q with
  | false =>
    go_loopw [5, 6] (fun s t wr => s = v6 ∧ t = .int .i64 0 ∧ wr = w6) (fun _ _ _ => 0)
    case atStart => exact ⟨rfl, rfl, rfl⟩
    case round =>
      obtain ⟨rfl, rfl, rfl⟩ := hrel
      have d1 := rc (i := 1) z6 rfl
      have hp := rput_any _ _ _ false o6.sl (by simp)
      rw [made_no', ← made_no' (70 :: fanB f), HM.out] at hp
      have hcase : f.2.length = 0 ∨ 0 < f.2.length := by omega
      rcases hcase with hl | hl
      all_goals
        go_wp2_with fail
        refine hp.mono ?_
        rintro e w7 ⟨rfl, hb7⟩
        have x7 := (hb7.block _ (lt_of_heap x6)).trans x6
        have B7 := hb0.trans ((B6.mono hb0.size).trans (hb7.mono (Nat.le_trans hb0.size B6.size)))
        have e0 := rc (i := 0) x7 rfl
        have e1 := rc (i := 1) x7 rfl
        have f0 := frozen0 (j := 0) x7
        have f1 := frozen0 (j := 1) x7
        clear hb7
        go_wp2
        refine bodyPost_ret (results_cell_tmp_row rfl _ _ _ _ _ _ _ rfl (heap_set2 x7) Tryd.underlying27 rfl Tryd.infoObj) rfl ⟨rfl, ?_⟩
        exact (B7.setCell (p := ⟨w.heap.size + 1, 0, none⟩) (by simp) _).setCell (p := ⟨w.heap.size + 1, 1, none⟩) (by simp) _
  | true =>
    obtain ⟨hlen, hparts⟩ := fanOk_parts hq
    have hm : (70 :: fanB f) = [70] ++ num f.1 ++ num f.2.length ++ f.2.flatMap partB := by simp [fanB, listB]
    have hM := HM.out
    rw [hm] at hM
    have o6' : Ow w1.heap.size w6 v6 ([70] ++ num f.1 ++ num f.2.length ++ (f.2.take 0).flatMap partB) := by simpa using o6
    generalize hL : [70] ++ num f.1 ++ num f.2.length = L at *
    have hLl : L.length ≤ 21 := by rw [← hL]; simp only [List.length_append, List.length_cons, List.length_nil]; omega
    have HM2 := hide hM
    clear hL hm o6 hM HM
    go_loopw [5, 6] (fun s t wr => ∃ (k : Nat) (a : Option Addr) (n c : Nat), k ≤ f.2.length ∧ s = .slice a n c ∧ t = .int .i64 k ∧ Ow w1.heap.size wr (.slice a n c) (L ++ (f.2.take k).flatMap partB) ∧ Below w1.heap.size w6 wr) (fun _ t _ => f.2.length - (intOf t).toNat)
    case atStart =>
      obtain ⟨a6, n6, c6, rfl⟩ := o6'.form
      exact ⟨0, a6, n6, c6, by omega, rfl, rfl, o6', Below.refl _ _⟩
    case round =>
      obtain ⟨k, an, nn, cn, hk, rfl, rfl, ok, hbk⟩ := hrel
      have zr := (hbk.block _ s1).trans z6
      have xr := (hbk.block _ y1).trans x6
      have sr := hbk.size
      have d1 := rc (i := 1) zr rfl
      have hfl : ((f.2.take k).flatMap partB).length ≤ 42 * 32 := by
        have h1 := flatP_le (f.2.take k) (fun p hp => (hparts p (List.mem_of_mem_take hp)).1)
        have h2 : (f.2.take k).length ≤ k := by rw [List.length_take]; omega
        omega
      have HK := hide hbk
      clear hbk
      by_cases hlt : k < f.2.length
      · have hpk := hparts f.2[k] (List.getElem_mem hlt)
        obtain ⟨ao', cap', he, -, -, h4⟩ := HV.out
        obtain ⟨b, off, rfl, hbB, hc⟩ := h4 (by intro e; rw [e] at hlt; simp at hlt)
        injection he with he _ he2
        subst he he2
        have hst : (f.2.take (k + 1)).flatMap partB = (f.2.take k).flatMap partB ++ (f.2[k].1 ++ num f.2[k].2) := by
          rw [List.take_succ_eq_append_getElem hlt, List.flatMap_append]
          simp [partB]
        have hcell : ∀ i u, (partC f.2[k])[i]? = some u → ∀ W, Below w1.heap.size w6 W → W.cell? ⟨b, off + k * 2 + i, none⟩ = some u := fun i u hu W hW => by
          have sw := hb0.size
          have sw1 := B1.size
          exact (hW.cell (p := ⟨b, off + k * 2 + i, none⟩) (by show b < _; omega)).trans ((B6.cell (p := ⟨b, off + k * 2 + i, none⟩) (by show b < _; omega)).trans (hc k hlt i u hu))
        have HST := hide hst
        generalize f.2[k] = x at *
        have HC1 := hide (hcell 1 _ rfl)
        have k0 := hcell 0 _ rfl _ HK.out
        simp only [Nat.add_zero] at k0
        have nx := num_length x.2
        obtain ⟨v7, w7, run7, o7, hb7⟩ := ok.str (m := x.1) (by rw [List.length_append, hpk.1]; omega) (by omega)
        obtain ⟨a7, n7, c7, rfl⟩ := o7.form
        have R7 := hide run7
        have K7 := HK.out.trans hb7
        have s7 := hb7.size
        have k1 := HC1.out _ K7
        have z7 := (hb7.block _ s1).trans zr
        have d7 := rc (i := 1) z7 rfl
        clear run7 hcell hst ok hc
        go_wp2_with (at_builtin; refine wpList_plain rfl (fun K hK => wp_append_run2 (.tmp 30) (.tmp 36) 71 9 rfl rfl rfl R7.out (hK _ _ ?_)))
        clear d1 k0 zr xr R7
        go_wp2_with fail
        refine (rnum_any w7 x.2 hpk.2).mono ?_
        rintro e w8 ⟨u8, rfl, own8, hb8⟩
        have s8 := hb8.size
        obtain ⟨v9, w9, run9, o9, hb9⟩ := (o7.keep hb8).app own8 nx.1 (by rw [List.length_append, List.length_append, hpk.1]; omega) (by omega)
        obtain ⟨a9, n9, c9, rfl⟩ := o9.form
        obtain ⟨a8, n8, c8, rfl⟩ := Ow.form own8
        have R9 := hide run9
        have K9 := (K7.trans (hb8.mono (by omega))).trans hb9
        have O9 : Hid (Ow w1.heap.size w9 (.slice a9 n9 c9) (L ++ (f.2.take (k + 1)).flatMap partB)) := hide (by rw [HST.out]; simpa using o9)
        clear run9 own8 o7 o9 hb8 hb9 K7 z7 d7 k1
        go_wp2_with (at_builtin; refine wpList_plain rfl (fun K hK => wp_append_run (.tmp 38) (.tmp 45) 71 rfl rfl rfl R9.out (hK _ _ ?_)))
        go_wp2
        go_roundw
        case rel => exact ⟨k + 1, a9, n9, c9, by omega, rfl, by go_num, O9.out, K9⟩
        case measure => simp [intOf]; omega
      · obtain rfl : k = f.2.length := by omega
        rw [List.take_length] at ok hfl
        have hp := rput_any _ _ _ true ok.sl (by intro _; rw [List.length_append]; omega)
        rw [HM2.out] at hp
        clear hfl ok
        go_wp2_with fail
        refine hp.mono ?_
        rintro e w7 ⟨rfl, hb7⟩
        have x7 := (hb7.block _ (lt_of_heap xr)).trans xr
        have B6' := B6.trans (HK.out.mono B1.size)
        have B7 := hb0.trans ((B6'.mono hb0.size).trans (hb7.mono (Nat.le_trans hb0.size B6'.size)))
        have e0 := rc (i := 0) x7 rfl
        have e1 := rc (i := 1) x7 rfl
        have f0 := frozen0 (j := 0) x7
        have f1 := frozen0 (j := 1) x7
        clear hb7
        go_wp2
        refine bodyPost_ret (results_cell_tmp_row rfl _ _ _ _ _ _ _ rfl (heap_set2 x7) Tryd.underlying27 rfl Tryd.infoObj) rfl ⟨rfl, ?_⟩
        exact (B7.setCell (p := ⟨w.heap.size + 1, 0, none⟩) (by simp) _).setCell (p := ⟨w.heap.size + 1, 1, none⟩) (by simp) _
end Go.Proofs.YtdbmngbinhemeabDoor
