/-
  The reference's Crash: the walk. Conditions: as it says.
-/
import Derived.Test.YtlejgdjkdbamkaaRefCrash
import Derived.Deep.CutBlock
namespace Go.Proofs.Ytlejgdjkdbamkaa
open Go.RowKit

/-- What is done of the acts ahead of the j-th. -/
def part (cs : List Ac) (keep t : Int) (j : Nat) : List Ac := if j ≤ keep.toNat then cs.take j else stay cs keep t
theorem part_end {cs : List Ac} {keep t : Int} {j : Nat} (h : j = cs.length ∨ keep.toNat < j) : part cs keep t j = stay cs keep t := by
  unfold part
  split
  · rename_i hle
    have hj : j = cs.length := by omega
    subst hj
    unfold stay
    rw [List.take_of_length_le hle, List.drop_eq_nil_of_le hle, List.take_length]
    simp [torn]
  · rfl
theorem part_next {cs : List Ac} {keep t : Int} {j : Nat} (h : j < keep.toNat) (hj : j < cs.length) : part cs keep t (j + 1) = part cs keep t j ++ [cs[j]] := by
  unfold part
  rw [if_pos (by omega), if_pos (by omega), List.take_succ_eq_append_getElem hj]
theorem part_last {cs : List Ac} {keep t : Int} {j : Nat} (h : j = keep.toNat) (hj : j < cs.length) : part cs keep t (j + 1) = part cs keep t j ++ torn t.toNat [cs[j]] := by
  unfold part
  rw [if_neg (by omega), if_pos (by omega)]
  unfold stay
  rw [← h, List.drop_eq_getElem_cons hj]
  cases cs[j] <;> rfl

/-- The first j files cut to their sure bytes. -/
def cutF (fl : List Fl) (j : Nat) : List Fl := fl.mapIdx fun i x => if i < j then { x with b := x.b.take x.sure } else x
theorem cutF_zero (fl : List Fl) : cutF fl 0 = fl := by
  apply List.ext_getElem (by simp [cutF])
  intro i h1 h2
  simp [cutF]
theorem cutF_length (fl : List Fl) (j : Nat) : (cutF fl j).length = fl.length := by simp [cutF]
theorem cutF_at (fl : List Fl) (j : Nat) (h : j < fl.length) : (cutF fl j)[j]'(by rw [cutF_length]; exact h) = fl[j] := by simp [cutF]
theorem cutF_next (fl : List Fl) (j : Nat) (_h : j < fl.length) : (cutF fl j).modify j (fun x => { x with b := x.b.take x.sure }) = cutF fl (j + 1) := by
  apply List.ext_getElem (by simp [cutF])
  intro i h1 h2
  simp only [cutF, List.getElem_modify, List.getElem_mapIdx]
  by_cases e : j = i
  · subst e
    rw [if_pos rfl, if_neg (by omega), if_pos (by omega)]
  · rw [if_neg e]
    by_cases h : i < j
    · rw [if_pos h, if_pos (by omega)]
    · rw [if_neg h, if_neg (by omega)]
theorem crash_half (S : Dk) (keep t : Int) : ({ S.half (cutF (upF S.files (stay S.acts keep t)) (upF S.files (stay S.acts keep t)).length) (appD S.sure (stay S.acts keep t)) with dir := (S.half (cutF (upF S.files (stay S.acts keep t)) (upF S.files (stay S.acts keep t)).length) (appD S.sure (stay S.acts keep t))).sure } : Dk) = S.crash keep t := by
  unfold Dk.crash Dk.half
  simp only [Dk.mk.injEq, and_true]
  apply List.ext_getElem (by simp [cutF, upF])
  intro i h1 h2
  have h3 : i < S.files.length := by simpa [cutF, upF] using h1
  simp [cutF, upF, h3]

set_option maxRecDepth 20000 in
set_option maxHeartbeats 8000000 in
theorem rCrash_any {B r : Nat} {R : Nat → Prop} {S : Dk} {G : Rg} (w : World) (h : RR B w R r S G) (hk : Ok S) (hb : S.bulk + 12 < 1099511627776) (keep t : Int) :
    Calls Try.prog 37 #[.pointer (some ⟨r, 0, none⟩), .int .i64 keep, .int .i64 t] w fun e w' => ∃ x G' R', e = .returned (.pointer (some ⟨x, 0, none⟩)) ∧ RR B w' R' x (S.crash keep t) G' ∧ G'.ks = [] ∧ (∀ k, R' k → R k ∨ w.heap.size ≤ k) ∧ Chg (fun _ => False) w w' := by
  have hB : B ≤ w.heap.size := by have := h.low _ h.self; omega
  have hal : S.acts.length ≤ S.bulk := by unfold Dk.bulk; omega
  have hfl : S.files.length ≤ S.bulk := by unfold Dk.bulk; omega
  have hsl : S.sure.length ≤ S.bulk := by
    have h1 := few_ids S.files.length (ids S.sure) (List.Sublist.nodup (List.sublist_append_left _ _) hk.one) (fun i hi => hk.idS i hi)
    have h3 : (ids S.sure).length = S.sure.length := by simp [ids]
    omega
  obtain ⟨i0, hi, hz0, hz1, hz2⟩ := info_parts infoFile
  have c4 := cell_of h.blk 4
  dsimp only [rcells] at c4
  have HH := hide h
  have HK := hide hk
  clear h hk
  go_enter Try.func37, Try.ntmps37
  go_wp2_with fail
  refine (rNew_any w B hB S.room).mono ?_
  rintro e w1 ⟨rfl, hx1, hc1⟩
  -- the files
  have hr1 := HH.out.keep hc1 (fun _ _ h => h)
  have hx1' := hx1.keep ((Chg.refl (fun _ => False) w1).drew) (fun _ _ h => h)
  have hr1' := hr1.keep ((Chg.refl (fun _ => False) w1).drew) (fun _ _ h => h)
  obtain ⟨v2, W2, hrun, hv2, hc2⟩ := run_copy w1.drew 67 67 i0 Try.underlying67 hi hz0 hz1 hz2 rfl (by decide) hr1'.fls (fc_one _) (by unfold maxLen; omega) (by omega)
  obtain ⟨fa, fcap, hfv⟩ := own_shape hr1.fls
  obtain ⟨va, vc, rfl⟩ := own_shape hv2
  have hsz1 := hc1.size
  have hx1lt : w.heap.size < w1.heap.size := lt_of_heap hx1.blk
  obtain ⟨hx3, hc3⟩ := hx1'.filesNew hc2 (own_down hv2 (by show B ≤ w1.heap.size; omega)) (fun k hk => (own_lt hv2 k hk).1)
  have hr2 := hr1'.keep hc2 (fun _ _ h => h)
  have b1 := hr1.blk
  rw [rcells, hfv] at b1
  have e1 : w1.cell? ⟨r, 0, none⟩ = some (.slice fa S.files.length fcap) := cell_of b1 0
  have b2 := hr2.blk
  rw [rcells, hfv] at b2
  have e2 : W2.cell? ⟨r, 0, none⟩ = some (.slice fa S.files.length fcap) := cell_of b2 0
  have hxr : w.heap.size ≠ r := by have := (HH.out.low _ HH.out.self).2; omega
  have e3 : (W2.setCell ⟨w.heap.size, 0, none⟩ (.slice va S.files.length vc)).cell? ⟨r, 0, none⟩ = some (.slice fa S.files.length fcap) := by rw [World.cell?_setCell_far _ _ _ _ hxr]; exact e2
  have x0 := cell_of hx1.blk 0
  have y0 := cell_of (hc2.keep hx1'.blk (fun h => h)) 0
  have ty := thawed (hc2.keep hx1'.blk (fun h => h)) 0
  rw [hfv] at hrun
  dsimp only [rcells] at x0 y0
  have hr3 := hr2.keep (chg_set W2 w.heap.size 0 (.slice va S.files.length vc)) (fun k hk e => by have := (hr1.low k hk).2; have := (HH.out.low k hk).2; omega)
  have HX3 := hide hx3
  have HC3 := hide hc3
  have HR3 := hide hr3
  have HV2 := hide hv2
  have HRUN := hide hrun
  have hcA : Chg (fun _ => False) w (W2.setCell ⟨w.heap.size, 0, none⟩ (.slice va S.files.length vc)) := (hc1.drew.then hc2).setCell (p := ⟨w.heap.size, 0, none⟩) (Or.inr (Nat.le_refl _)) _
  have hcl := hc2.size
  clear hx1 hx1' hr1 hr1' hx3 hc3 hr2 hr3 b1 b2 hv2 hrun
  go_wp2_with fail
  refine wp_region_held_drew (S := fun W => W.cell? ⟨r, 0, none⟩ = some (.slice fa S.files.length fcap)) (by kernel_rfl) (e1) (fun hHeld => ?_)
  refine takeH (i := 0) (v := ?_) rfl (by kernel_rfl) (by kernel_rfl) (by kernel_rfl) (fun _ _ _ h => h) rfl ?_ hHeld ?_
  rotate_left
  · intro w hS; (try dsimp only at hS); obtain hS0 := hS; go_simp; first | done | (with_reducible rfl)
  try simp only [Act.put, ly1, ly2, ly3]
  refine takeH (i := 1) (v := ?_) rfl (by kernel_rfl) (by kernel_rfl) (by kernel_rfl) (fun _ _ _ h => h) rfl ?_ hHeld ?_
  rotate_left
  · intro w hS; (try dsimp only at hS); obtain hS0 := hS; go_simp; first | done | (with_reducible rfl)
  try simp only [Act.put, ly1, ly2, ly3]
  refine takeH (i := 2) (v := ?_) rfl (by kernel_rfl) (by kernel_rfl) (by kernel_rfl) (fun _ _ _ h => h) rfl ?_ hHeld ?_
  rotate_left
  · intro w hS; (try dsimp only at hS); obtain hS0 := hS; go_simp; first | done | (with_reducible rfl)
  try simp only [Act.put, ly1, ly2, ly3]
  refine takeH (i := 3) (v := ?_) rfl (by kernel_rfl) (by kernel_rfl) (by kernel_rfl) (fun _ _ _ h => h) rfl ?_ hHeld ?_
  rotate_left
  · intro w hS; (try dsimp only at hS); obtain hS0 := hS; go_simp; first | done | (with_reducible rfl)
  try simp only [Act.put, ly1, ly2, ly3]
  refine takeH (i := 5) (v := ?_) rfl (by kernel_rfl) (by kernel_rfl) (by kernel_rfl) (fun _ _ _ h => h) rfl ?_ hHeld ?_
  rotate_left
  · intro w hS; (try dsimp only at hS); obtain hS0 := hS; go_simp; first | done | (with_reducible rfl)
  try simp only [Act.put, ly1, ly2, ly3]
  refine takeH (i := 6) (v := ?_) rfl (by kernel_rfl) (by kernel_rfl) (by kernel_rfl) (fun _ _ _ h => h) rfl ?_ hHeld ?_
  rotate_left
  · intro w hS; (try dsimp only at hS); obtain hS0 := hS; go_simp; first | done | (with_reducible rfl)
  try simp only [Act.put, ly1, ly2, ly3]
  refine takeH (i := 7) (v := ?_) rfl (by kernel_rfl) (by kernel_rfl) (by kernel_rfl) (fun _ _ _ h => h) rfl ?_ hHeld ?_
  rotate_left
  · intro w hS; (try dsimp only at hS); obtain hS0 := hS; go_simp; first | done | (with_reducible rfl)
  try simp only [Act.put, ly1, ly2, ly3]
  refine takeH (i := 8) (v := ?_) rfl (by kernel_rfl) (by kernel_rfl) (by kernel_rfl) (fun _ _ _ h => h) rfl ?_ hHeld ?_
  rotate_left
  · intro w hS; (try dsimp only at hS); obtain hS0 := hS; go_simp; first | done | (with_reducible rfl)
  try simp only [Act.put, ly1, ly2, ly3]
  refine onlyH (i := 4) rfl (by kernel_rfl) rfl (fun K hK => ?_)
  go_simp
  refine hK.out _ _ (e1) (fun hHeld => ?_)
  clear hK K
  try simp only [Act.put, ly1, ly2, ly3]
  refine onlyH (i := 9) rfl (by kernel_rfl) rfl (fun K hK => ?_)
  refine wp_append_run (.tmp 20) (.tmp 24) 67 rfl rfl rfl HRUN.out ?_
  refine hK.out _ _ (e2) (fun hHeld => ?_)
  clear hK K
  try simp only [Act.put, ly1, ly2, ly3]
  refine takeH (i := 10) (v := ?_) rfl (by kernel_rfl) (by kernel_rfl) (by kernel_rfl) (fun _ _ _ h => h) rfl ?_ hHeld ?_
  rotate_left
  · intro w hS; (try dsimp only at hS); obtain hS0 := hS; go_simp; first | done | (with_reducible rfl)
  try simp only [Act.put, ly1, ly2, ly3]
  refine takeH (i := 11) (v := ?_) rfl (by kernel_rfl) (by kernel_rfl) (by kernel_rfl) (fun _ _ _ h => h) rfl ?_ hHeld ?_
  rotate_left
  · intro w hS; (try dsimp only at hS); obtain hS0 := hS; go_simp; first | done | (with_reducible rfl)
  try simp only [Act.put, ly1, ly2, ly3]
  refine onlyH (i := 12) rfl (by kernel_rfl) rfl (fun K hK => ?_)
  go_simp
  refine hK.out _ _ (e3) (fun hHeld => ?_)
  clear hK K
  try simp only [Act.put, ly1, ly2, ly3]
  refine wpAnyH_done (by kernel_rfl) ?_ _
  clear hHeld e1 e2 e3 x0 y0 ty
  obtain ⟨W3, hW3⟩ : ∃ W, W = W2.setCell ⟨w.heap.size, 0, none⟩ (.slice va S.files.length vc) := ⟨_, rfl⟩
  rw [← hW3] at HX3 HC3 HR3 hcA ⊢
  clear hW3
  -- the sure names
  obtain ⟨sa, scap, hsv⟩ := own_shape HR3.out.sur
  have hrs := HR3.out.sur
  have hx3 : RR B W3 (Fx R w W3) w.heap.size (S.half S.files []) _ := HX3.out.sup (fun k hk => by
    rcases hk with hk | hk
    · subst hk; exact Or.inr ⟨Nat.le_refl _, (HX3.out.low _ HX3.out.self).2⟩
    · exact Or.inr ⟨by have := hk.1; have hd : w1.drew.heap.size = w1.heap.size := rfl; omega, hk.2⟩) (fun k hk => by
    rcases hk with hk | hk
    · exact ⟨(HH.out.low k hk).1, Nat.lt_of_lt_of_le (HH.out.low k hk).2 hcA.size⟩
    · exact ⟨by omega, hk.2⟩)
  obtain ⟨hx4, hc4⟩ := hx3.sures (sv := G.sv) (l := S.sure) (Chg.refl _ W3) hrs (fun k hk => Or.inl (Or.inl (HH.out.surR k hk)))
  have z2 := cell_of hx3.blk 2
  have tz := thawed hx3.blk 2
  have d2 := cell_of HR3.out.blk 2
  dsimp only [rcells] at z2 d2
  rw [hsv] at hx4 hc4 d2
  have hcB : Chg (fun _ => False) w (W3.setCell ⟨w.heap.size, 2, none⟩ (.slice sa S.sure.length scap)) := hcA.setCell (p := ⟨w.heap.size, 2, none⟩) (Or.inr (Nat.le_refl _)) _
  have HX4 := hide hx4
  have HVB := hide (show ∀ k, (Value.slice va S.files.length vc).ownBlock = some k → w.heap.size ≤ k from fun k hk => by have := (own_lt HV2.out k hk).1; have hd : w1.drew.heap.size = w1.heap.size := rfl; omega)
  clear hx3 hx4 hc4 hrs c4
  go_upto_block 0 with fail
  clear z2 tz d2
  go_cut [8] from 35 to 135 (fun _ wx => ∃ (Gx : Rg) (Rx : Nat → Prop), RR B wx Rx w.heap.size (S.half (upF S.files (stay S.acts keep t)) (appD S.sure (stay S.acts keep t))) Gx ∧ Gx.ks = [] ∧ (∀ k, Gx.fv.ownBlock = some k → w.heap.size ≤ k) ∧ (∀ k, Rx k → R k ∨ w.heap.size ≤ k) ∧ Chg (fun _ => False) w wx)
  case first =>
    go_wp2_with fail
    go_loopw [8] (fun i wr => ∃ (j : Nat) (Gx : Rg) (Rx : Nat → Prop), i = .int .i64 (j : Int) ∧ j ≤ S.acts.length ∧ j ≤ keep.toNat + 1 ∧ RR B wr Rx w.heap.size (S.half (upF S.files (part S.acts keep t j)) (appD S.sure (part S.acts keep t j))) Gx ∧ Gx.ks = [] ∧ (∀ k, Gx.fv.ownBlock = some k → w.heap.size ≤ k) ∧ (∀ k, Rx k → R k ∨ w.heap.size ≤ k) ∧ Chg (fun _ => False) w wr)
      (fun i _ => S.acts.length - (intOf i).toNat)
    case atStart =>
      have hp : part S.acts keep t 0 = [] := by simp [part]
      obtain ⟨G4, R4, q1, q2, q3, q4⟩ : ∃ (G4 : Rg) (R4 : Nat → Prop), RR B (W3.setCell ⟨w.heap.size, 2, none⟩ (.slice sa S.sure.length scap)) R4 w.heap.size (S.half (upF S.files (part S.acts keep t 0)) (appD S.sure (part S.acts keep t 0))) G4 ∧ G4.ks = [] ∧ (∀ k, G4.fv.ownBlock = some k → w.heap.size ≤ k) ∧ (∀ k, R4 k → R k ∨ w.heap.size ≤ k) := by
        rw [hp, upF_nil]
        refine ⟨_, _, HX4.out, rfl, HVB.out, fun k hk => ?_⟩
        rcases hk with (hk | hk) | hk
        · exact Or.inl hk
        · exact Or.inr hk.1
        · exact Or.inr (Nat.le_trans hcA.size hk.1)
      exact ⟨0, G4, R4, rfl, by omega, by omega, q1, q2, q3, q4, hcB⟩
    case round =>
      clear HX4 HX3 HR3 HV2 HVB hcB
      obtain ⟨j, Gx, Rx, rfl, hj, hjk, hx, hgk, hgf, hRx, hcr⟩ := hrel
      have hr := HH.out.keep hcr (fun _ _ h => h)
      obtain ⟨aa, acap, hav⟩ := own_shape hr.act
      have hbk := hr.blk
      rw [rcells, hav] at hbk
      have c3 := cell_of hbk 3
      have hzr := hcr.size
      have hxlt := (hx.low _ hx.self).2
      by_cases hlt : j < S.acts.length ∧ j ≤ keep.toNat
      · obtain ⟨j1, j2⟩ := hlt
        have harow := hr.act
        rw [hav] at harow
        obtain ⟨ga, rfl, -, hgal, hca⟩ := own_pos harow (by omega)
        have hat := fun i (hi : i < 5) => acs_at S.acts j j1 i hi
        have hcan : j < keep.toNat → canD (appD S.sure (part S.acts keep t j)) S.acts[j] := fun hlt' => by
          have := can_at HK.out.valid j1
          unfold part
          rw [if_pos (by omega)]
          exact this
        have hnx := fun hlt' => part_next (t := t) (keep := keep) (j := j) hlt' j1
        have hls := fun he => part_last (t := t) (keep := keep) (j := j) he j1
        have hidm : ∀ f k, S.acts[j] = .more f k → f < S.files.length := fun f k e => HK.out.idM f (List.mem_filterMap.2 ⟨_, List.getElem_mem j1, by rw [e]⟩)
        have happ : (appD S.sure (part S.acts keep t j)).length ≤ S.bulk := by
          obtain ⟨-, u2, u3⟩ := HK.out.upto j
          have hpe : part S.acts keep t j = S.acts.take j := by unfold part; rw [if_pos j2]
          rw [hpe]
          have h1 := few_ids S.files.length _ u2 (fun i hi => (u3 i hi).elim (HK.out.idS i) (HK.out.idA i))
          have h3 : (ids (appD S.sure (S.acts.take j))).length = (appD S.sure (S.acts.take j)).length := by simp [ids]
          omega
        generalize S.acts[j] = aj at *
        cases hmo : isMore aj with
        | false =>
          obtain ⟨q0, q1, q2, q3, q4, hac, hq3⟩ := ac_kind hmo
          rw [hac] at hat
          have x0 := hca (j * 5) (.int .i64 q0) (hat 0 (by omega))
          have x1 := hca (j * 5 + 1) (.string q1) (hat 1 (by omega))
          have x2 := hca (j * 5 + 2) (.string q2) (hat 2 (by omega))
          have x3 := hca (j * 5 + 3) (.int .i64 q3) (hat 3 (by omega))
          have x4 := hca (j * 5 + 4) (.int .i64 q4) (hat 4 (by omega))
          have hcA2 : Chg (fun _ => False) wr (wr.alloc (.cells #[.int .i64 q0, .string q1, .string q2, .int .i64 q3, .int .i64 q4] 117)) := (Chg.refl _ wr).alloc _
          have hbx := heap_last wr (.cells #[.int .i64 q0, .string q1, .string q2, .int .i64 q3, .int .i64 q4] 117)
          have hq3b : (q0 == 3) = false := by simp [hq3]
          have hq3c : (q0 != 3) = true := by simp [hq3]
          clear hca hat
          by_cases hkp : (j : Int) < keep
          · have hxA := hx.keep hcA2 (fun _ _ h => h)
            have hdone := fun W (hW : B ≤ W.heap.size) v (hv : W.ownsRow B 78 2 v (appD S.sure (part S.acts keep t j)).length (nc (appD S.sure (part S.acts keep t j)))) => done_any W B v (appD S.sure (part S.acts keep t j)) aj hW hv (by omega) (hcan (by omega))
            rw [hac] at hdone
            have HDO := hide hdone
            have hbA := hxA.blk
            have s2 := cell_of hbA 2
            dsimp only [rcells] at s2
            clear hdone
            go_wp2_with fail
            refine wp_region_held_drew (S := fun W => W.cell? ⟨wr.heap.size, 0, none⟩ = some (.int .i64 q0) ∧ W.cell? ⟨wr.heap.size, 1, none⟩ = some (.string q1) ∧ W.cell? ⟨wr.heap.size, 2, none⟩ = some (.string q2) ∧ W.cell? ⟨wr.heap.size, 3, none⟩ = some (.int .i64 q3) ∧ W.cell? ⟨wr.heap.size, 4, none⟩ = some (.int .i64 q4)) (by kernel_rfl) (⟨cell_of hbx 0, cell_of hbx 1, cell_of hbx 2, cell_of hbx 3, cell_of hbx 4⟩) (fun hHeld => ?_)
            refine takeH (i := 0) (v := ?_) rfl (by kernel_rfl) (by kernel_rfl) (by kernel_rfl) (fun _ _ _ h => h) rfl ?_ hHeld ?_
            rotate_left
            · intro w hS; (try dsimp only at hS); obtain ⟨hS0, hS1, hS2, hS3, hS4⟩ := hS; go_simp; first | done | (with_reducible rfl)
            try simp only [Act.put, ly1, ly2, ly3]
            refine takeH (i := 1) (v := ?_) rfl (by kernel_rfl) (by kernel_rfl) (by kernel_rfl) (fun _ _ _ h => h) rfl ?_ hHeld ?_
            rotate_left
            · intro w hS; (try dsimp only at hS); obtain ⟨hS0, hS1, hS2, hS3, hS4⟩ := hS; go_simp; first | done | (with_reducible rfl)
            try simp only [Act.put, ly1, ly2, ly3]
            refine takeH (i := 2) (v := ?_) rfl (by kernel_rfl) (by kernel_rfl) (by kernel_rfl) (fun _ _ _ h => h) rfl ?_ hHeld ?_
            rotate_left
            · intro w hS; (try dsimp only at hS); obtain ⟨hS0, hS1, hS2, hS3, hS4⟩ := hS; go_simp; first | done | (with_reducible rfl)
            try simp only [Act.put, ly1, ly2, ly3]
            refine takeH (i := 3) (v := ?_) rfl (by kernel_rfl) (by kernel_rfl) (by kernel_rfl) (fun _ _ _ h => h) rfl ?_ hHeld ?_
            rotate_left
            · intro w hS; (try dsimp only at hS); obtain ⟨hS0, hS1, hS2, hS3, hS4⟩ := hS; go_simp; first | done | (with_reducible rfl)
            try simp only [Act.put, ly1, ly2, ly3]
            refine takeH (i := 5) (v := ?_) rfl (by kernel_rfl) (by kernel_rfl) (by kernel_rfl) (fun _ _ _ h => h) rfl ?_ hHeld ?_
            rotate_left
            · intro w hS; (try dsimp only at hS); obtain ⟨hS0, hS1, hS2, hS3, hS4⟩ := hS; go_simp; first | done | (with_reducible rfl)
            try simp only [Act.put, ly1, ly2, ly3]
            refine onlyH (i := 4) rfl (by kernel_rfl) rfl (fun K hK => ?_)
            go_simp
            refine hK.out _ _ (⟨cell_of hbx 0, cell_of hbx 1, cell_of hbx 2, cell_of hbx 3, cell_of hbx 4⟩) (fun hHeld => ?_)
            clear hK K
            try simp only [Act.put, ly1, ly2, ly3]
            refine onlyH (i := 6) rfl (by kernel_rfl) rfl (fun K hK => ?_)
            go_simp
            have hsu := (hxA.keep ((Chg.refl (fun _ => False) _).drew) (fun _ _ h => h))
            refine (HDO.out _ (by show B ≤ (wr.alloc (.cells #[.int .i64 q0, .string q1, .string q2, .int .i64 q3, .int .i64 q4] 117)).heap.size; simp; omega) Gx.sv hsu.sur).mono ?_
            rintro e w6 ⟨v6, rfl, hv6, hor, hc6⟩
            obtain ⟨va6, vc6, rfl⟩ := own_shape hv6
            obtain ⟨hx7, hc7⟩ := hsu.sures hc6 hv6 (fun k hk => hor.elim (fun e => Or.inl (hx.surR k (by rw [← e]; exact hk))) (fun e => Or.inr (e k hk)))
            have hb6 := hc6.keep hsu.blk (fun h => h)
            have s26 := cell_of hb6 2
            have ts := thawed hb6 2
            have hbx6 := hc6.keep (show (World.drew _).heap[wr.heap.size]? = some _ from hbx) (fun h => h)
            have hbx7 : (w6.setCell ⟨w.heap.size, 2, none⟩ (.slice va6 (doneD (appD S.sure (part S.acts keep t j)) aj).length vc6)).heap[wr.heap.size]? = some _ := heap_set_other hbx6 (by simp; omega)
            dsimp only [rcells] at s26
            obtain ⟨xa, xcap, hxsv⟩ := own_shape hx.sur
            rw [hxsv] at s26
            have HX7 := hide hx7
            have hcw : Chg (fun _ => False) w (w6.setCell ⟨w.heap.size, 2, none⟩ (.slice va6 (doneD (appD S.sure (part S.acts keep t j)) aj).length vc6)) := (hcr.then (hcA2.drew.then hc6)).setCell (p := ⟨w.heap.size, 2, none⟩) (Or.inr (Nat.le_refl _)) _
            have hzA : wr.heap.size ≤ (wr.alloc (.cells #[.int .i64 q0, .string q1, .string q2, .int .i64 q3, .int .i64 q4] 117)).drew.heap.size := by simp
            clear hx7 hc7 hsu hor hv6
            generalize (doneD (appD S.sure (part S.acts keep t j)) aj).length = nn at *
            refine hK.out _ _ (⟨cell_of hbx6 0, cell_of hbx6 1, cell_of hbx6 2, cell_of hbx6 3, cell_of hbx6 4⟩) (fun hHeld => ?_)
            clear hK K
            try simp only [Act.put, ly1, ly2, ly3]
            refine takeH (i := 7) (v := ?_) rfl (by kernel_rfl) (by kernel_rfl) (by kernel_rfl) (fun _ _ _ h => h) rfl ?_ hHeld ?_
            rotate_left
            · intro w hS; (try dsimp only at hS); obtain ⟨hS0, hS1, hS2, hS3, hS4⟩ := hS; go_simp; first | done | (with_reducible rfl)
            try simp only [Act.put, ly1, ly2, ly3]
            refine takeH (i := 8) (v := ?_) rfl (by kernel_rfl) (by kernel_rfl) (by kernel_rfl) (fun _ _ _ h => h) rfl ?_ hHeld ?_
            rotate_left
            · intro w hS; (try dsimp only at hS); obtain ⟨hS0, hS1, hS2, hS3, hS4⟩ := hS; go_simp; first | done | (with_reducible rfl)
            try simp only [Act.put, ly1, ly2, ly3]
            refine onlyH (i := 9) rfl (by kernel_rfl) rfl (fun K hK => ?_)
            go_simp
            refine hK.out _ _ (⟨cell_of hbx7 0, cell_of hbx7 1, cell_of hbx7 2, cell_of hbx7 3, cell_of hbx7 4⟩) (fun hHeld => ?_)
            clear hK K
            try simp only [Act.put, ly1, ly2, ly3]
            refine wpAnyH_done (by kernel_rfl) ?_ _
            clear hHeld
            go_wp2
            have fin : ∃ (G9 : Rg) (R9 : Nat → Prop), RR B (w6.setCell ⟨w.heap.size, 2, none⟩ (.slice va6 nn vc6)) R9 w.heap.size (S.half (upF S.files (part S.acts keep t (j + 1))) (appD S.sure (part S.acts keep t (j + 1)))) G9 ∧ G9.ks = [] ∧ (∀ k, G9.fv.ownBlock = some k → w.heap.size ≤ k) ∧ (∀ k, R9 k → R k ∨ w.heap.size ≤ k) := by
              rw [hnx (by omega), upF_dir _ _ hmo, appD_append]
              refine ⟨_, _, HX7.out, hgk, hgf, fun k hk => ?_⟩
              rcases hk with hk | hk
              · exact hRx k hk
              · exact Or.inr (Nat.le_trans hzr (Nat.le_trans hzA hk.1))
            obtain ⟨G9, R9, f1, f2, f3, f4⟩ := fin
            exact ⟨⟨j + 1, G9, R9, by go_num, by omega, by omega, f1, f2, f3, f4, hcw⟩, by simp [intOf]; omega⟩
          · have hmx : ((j : Int) == max keep 0) = true := by rw [beq_iff_eq]; omega
            have fin : ∃ (G9 : Rg) (R9 : Nat → Prop), RR B (wr.alloc (.cells #[.int .i64 q0, .string q1, .string q2, .int .i64 q3, .int .i64 q4] 117)) R9 w.heap.size (S.half (upF S.files (part S.acts keep t (j + 1))) (appD S.sure (part S.acts keep t (j + 1)))) G9 ∧ G9.ks = [] ∧ (∀ k, G9.fv.ownBlock = some k → w.heap.size ≤ k) ∧ (∀ k, R9 k → R k ∨ w.heap.size ≤ k) := by
              have hto : torn t.toNat [aj] = [] := by cases aj <;> first | rfl | cases hmo
              rw [hls (by omega), hto, List.append_nil]
              exact ⟨_, _, hx.keep hcA2 (fun _ _ h => h), hgk, hgf, hRx⟩
            have HF := hide fin
            clear fin
            go_wp2
            obtain ⟨G9, R9, f1, f2, f3, f4⟩ := HF.out
            exact ⟨⟨j + 1, G9, R9, by go_num, by omega, by omega, f1, f2, f3, f4, hcr.then hcA2⟩, by simp [intOf]; omega⟩
        | true =>
          obtain ⟨f, k, rfl⟩ : ∃ f k, aj = .more f k := by
            cases aj with
            | more f k => exact ⟨f, k, rfl⟩
            | made n f => cases hmo
            | ren x y => cases hmo
            | rem n => cases hmo
          have hf : f < S.files.length := hidm f k rfl
          have hfx : f < (upF S.files (part S.acts keep t j)).length := by rw [upF_length]; exact hf
          have hpart : ∀ i, moreSum (part S.acts keep t i) f ≤ moreSum S.acts f := fun i => by
            unfold part
            split
            · exact moreSum_upto _ _ _
            · exact moreSum_stay _ _ _ _
          have x0 := hca (j * 5) (.int .i64 3) (hat 0 (by omega))
          have x1 := hca (j * 5 + 1) (.string ⟨#[]⟩) (hat 1 (by omega))
          have x2 := hca (j * 5 + 2) (.string ⟨#[]⟩) (hat 2 (by omega))
          have x3 := hca (j * 5 + 3) (.int .i64 (f : Int)) (hat 3 (by omega))
          have x4 := hca (j * 5 + 4) (.int .i64 (k : Int)) (hat 4 (by omega))
          have hcA2 : Chg (fun _ => False) wr (wr.alloc (.cells #[.int .i64 3, .string ⟨#[]⟩, .string ⟨#[]⟩, .int .i64 (f : Int), .int .i64 (k : Int)] 117)) := (Chg.refl _ wr).alloc _
          have hbx := heap_last wr (.cells #[.int .i64 3, .string ⟨#[]⟩, .string ⟨#[]⟩, .int .i64 (f : Int), .int .i64 (k : Int)] 117)
          obtain ⟨fxa, fxc, hxfv⟩ := own_shape hx.fls
          have hxrow := hx.fls
          rw [hxfv] at hxrow
          change World.ownsRow _ _ _ _ (Value.slice fxa (upF S.files (part S.acts keep t j)).length fxc) (upF S.files (part S.acts keep t j)).length (fc (upF S.files (part S.acts keep t j))) at hxrow
          obtain ⟨g, rfl, -, hgl, hcx⟩ := own_pos hxrow (by omega)
          have hgx : w.heap.size ≤ g := hgf g (by rw [hxfv]; rfl)
          have hgne : g ≠ w.heap.size := hx.neF g (by rw [hxfv]; rfl)
          have hgb : g ≠ wr.heap.size := by omega
          obtain ⟨gcur, hgcur⟩ := own_block hx.fls (k := g) (by rw [hxfv]; rfl)
          have hgA := hcA2.keep hgcur (fun h => h)
          have tg := thawed hgA (f * 2 + 1)
          have xs := (World.cell?_of_block (hcA2.block g hgl (fun h => h))).trans (hcx _ _ (fc_at _ f hfx).2)
          have hbA := (hx.keep hcA2 (fun _ _ h => h)).blk
          rw [rcells, hxfv] at hbA
          have s0 : (wr.alloc (.cells #[.int .i64 3, .string ⟨#[]⟩, .string ⟨#[]⟩, .int .i64 (f : Int), .int .i64 (k : Int)] 117)).cell? ⟨w.heap.size, 0, none⟩ = some (.slice (some ⟨g, 0, none⟩) (upF S.files (part S.acts keep t j)).length fxc) := cell_of hbA 0
          have hf0 : (0 : Int) ≤ (f : Int) := by omega
          have hf1 : (f : Int) < ((upF S.files (part S.acts keep t j)).length : Int) := by omega
          clear hca hat hxrow hcx hbA
          obtain ⟨WA, hWA⟩ : ∃ W, W = wr.alloc (.cells #[.int .i64 3, .string ⟨#[]⟩, .string ⟨#[]⟩, .int .i64 (f : Int), .int .i64 (k : Int)] 117) := ⟨_, rfl⟩
          rw [← hWA] at hcA2 hbx hgA tg xs s0
          have HWA := hide hWA
          clear hWA
          by_cases hkp : (j : Int) < keep
          · have hk0 : True := trivial
            have hpq : part S.acts keep t (j + 1) = part S.acts keep t j ++ [.more f (k)] := hnx (by omega)
            have hsum : ((upF S.files (part S.acts keep t j))[f]'hfx).sure + k ≤ S.bulk := by
              have h1 := hpart (j + 1)
              rw [hpq, moreSum_append, moreSum_self] at h1
              have h2 := HK.out.lens f _ (List.getElem?_eq_getElem hf)
              have h3 := file_le (List.getElem?_eq_getElem hf)
              simp only [upF, List.getElem_mapIdx]
              omega
            obtain ⟨hr5, hc5⟩ := (hx.keep (hcA2.drew) (fun _ _ h => h)).files hxfv (j := f * 2 + 1) (u := .int .i64 ((((upF S.files (part S.acts keep t j))[f]'hfx).sure + k : Nat) : Int)) (by show _ < (upF _ _).length * 2; omega) ((upF S.files (part S.acts keep t j)).modify f fun x => { x with sure := x.sure + k }) (by rw [List.length_modify]; rfl) (fc_s _ _ _ hfx _ rfl)
            have hcw : Chg (fun _ => False) w ((WA.drew).setCell ⟨g, f * 2 + 1, none⟩ (.int .i64 ((((upF S.files (part S.acts keep t j))[f]'hfx).sure + k : Nat) : Int))) := (hcr.then hcA2.drew).setCell (p := ⟨g, f * 2 + 1, none⟩) (Or.inr hgx) _
            have fin : ∃ (G9 : Rg) (R9 : Nat → Prop), RR B ((WA.drew).setCell ⟨g, f * 2 + 1, none⟩ (.int .i64 ((((upF S.files (part S.acts keep t j))[f]'hfx).sure + k : Nat) : Int))) R9 w.heap.size (S.half (upF S.files (part S.acts keep t (j + 1))) (appD S.sure (part S.acts keep t (j + 1)))) G9 ∧ G9.ks = [] ∧ (∀ k, G9.fv.ownBlock = some k → w.heap.size ≤ k) ∧ (∀ k, R9 k → R k ∨ w.heap.size ≤ k) := by
              rw [hpq, upF_more, appD_append]
              exact ⟨_, _, hr5, hgk, hgf, hRx⟩
            have HF := hide fin
            have HCW := hide hcw
            have y0 : ((WA.drew).setCell ⟨g, f * 2 + 1, none⟩ (.int .i64 ((((upF S.files (part S.acts keep t j))[f]'hfx).sure + k : Nat) : Int))).cell? ⟨w.heap.size, 0, none⟩ = some (.slice (some ⟨g, 0, none⟩) (upF S.files (part S.acts keep t j)).length fxc) := by rw [World.cell?_setCell_far _ _ _ _ hgne]; exact s0
            have y3 : ((WA.drew).setCell ⟨g, f * 2 + 1, none⟩ (.int .i64 ((((upF S.files (part S.acts keep t j))[f]'hfx).sure + k : Nat) : Int))).cell? ⟨wr.heap.size, 3, none⟩ = some (.int .i64 (f : Int)) := by rw [World.cell?_setCell_far _ _ _ _ hgb]; exact cell_of hbx 3
            have y4 : ((WA.drew).setCell ⟨g, f * 2 + 1, none⟩ (.int .i64 ((((upF S.files (part S.acts keep t j))[f]'hfx).sure + k : Nat) : Int))).cell? ⟨wr.heap.size, 4, none⟩ = some (.int .i64 (k : Int)) := by rw [World.cell?_setCell_far _ _ _ _ hgb]; exact cell_of hbx 4
            clear fin hcw hr5 hc5 hpart hpq hnx hls hcan hidm
            generalize ((upF S.files (part S.acts keep t j))[f]'hfx).sure = su at *
            have hwr : IntKind.i64.wrap ((su : Int) + ((k : Nat) : Int)) = (((su + k : Nat)) : Int) := by rw [IntKind.wrap_i64]; omega
            go_wp2_with fail
            rw [← HWA.out]
            refine wp_region_held_drew (S := fun W => W.cell? ⟨w.heap.size, 0, none⟩ = some (.slice (some ⟨g, 0, none⟩) (upF S.files (part S.acts keep t j)).length fxc) ∧ W.cell? ⟨wr.heap.size, 3, none⟩ = some (.int .i64 (f : Int)) ∧ W.cell? ⟨wr.heap.size, 4, none⟩ = some (.int .i64 (k : Int))) (by kernel_rfl) (⟨s0, cell_of hbx 3, cell_of hbx 4⟩) (fun hHeld => ?_)
            refine takeH (i := 0) (v := ?_) rfl (by kernel_rfl) (by kernel_rfl) (by kernel_rfl) (fun _ _ _ h => h) rfl ?_ hHeld ?_
            rotate_left
            · intro w hS; (try dsimp only at hS); obtain ⟨hS0, hS1, hS2⟩ := hS; go_simp; first | done | (with_reducible rfl)
            try simp only [Act.put, ly1, ly2, ly3]
            refine takeH (i := 1) (v := ?_) rfl (by kernel_rfl) (by kernel_rfl) (by kernel_rfl) (fun _ _ _ h => h) rfl ?_ hHeld ?_
            rotate_left
            · intro w hS; (try dsimp only at hS); obtain ⟨hS0, hS1, hS2⟩ := hS; go_simp; first | done | (with_reducible rfl)
            try simp only [Act.put, ly1, ly2, ly3]
            refine takeH (i := 2) (v := ?_) rfl (by kernel_rfl) (by kernel_rfl) (by kernel_rfl) (fun _ _ _ h => h) rfl ?_ hHeld ?_
            rotate_left
            · intro w hS; (try dsimp only at hS); obtain ⟨hS0, hS1, hS2⟩ := hS; go_simp; first | done | (with_reducible rfl)
            try simp only [Act.put, ly1, ly2, ly3]
            refine takeH (i := 3) (v := ?_) rfl (by kernel_rfl) (by kernel_rfl) (by kernel_rfl) (fun _ _ _ h => h) rfl ?_ hHeld ?_
            rotate_left
            · intro w hS; (try dsimp only at hS); obtain ⟨hS0, hS1, hS2⟩ := hS; go_simp; first | done | (with_reducible rfl)
            try simp only [Act.put, ly1, ly2, ly3]
            refine takeH (i := 4) (v := ?_) rfl (by kernel_rfl) (by kernel_rfl) (by kernel_rfl) (fun _ _ _ h => h) rfl ?_ hHeld ?_
            rotate_left
            · intro w hS; (try dsimp only at hS); obtain ⟨hS0, hS1, hS2⟩ := hS; go_simp; first | done | (with_reducible rfl)
            try simp only [Act.put, ly1, ly2, ly3]
            refine takeH (i := 5) (v := ?_) rfl (by kernel_rfl) (by kernel_rfl) (by kernel_rfl) (fun _ _ _ h => h) rfl ?_ hHeld ?_
            rotate_left
            · intro w hS; (try dsimp only at hS); obtain ⟨hS0, hS1, hS2⟩ := hS; go_simp; first | done | (with_reducible rfl)
            try simp only [Act.put, ly1, ly2, ly3]
            refine takeH (i := 6) (v := ?_) rfl (by kernel_rfl) (by kernel_rfl) (by kernel_rfl) (fun _ _ _ h => h) rfl ?_ hHeld ?_
            rotate_left
            · intro w hS; (try dsimp only at hS); obtain ⟨hS0, hS1, hS2⟩ := hS; go_simp; first | done | (with_reducible rfl)
            try simp only [Act.put, ly1, ly2, ly3]
            refine takeH (i := 7) (v := ?_) rfl (by kernel_rfl) (by kernel_rfl) (by kernel_rfl) (fun _ _ _ h => h) rfl ?_ hHeld ?_
            rotate_left
            · intro w hS; (try dsimp only at hS); obtain ⟨hS0, hS1, hS2⟩ := hS; go_simp; first | done | (with_reducible rfl)
            try simp only [Act.put, ly1, ly2, ly3]
            refine takeH (i := 8) (v := ?_) rfl (by kernel_rfl) (by kernel_rfl) (by kernel_rfl) (fun _ _ _ h => h) rfl ?_ hHeld ?_
            rotate_left
            · intro w hS; (try dsimp only at hS); obtain ⟨hS0, hS1, hS2⟩ := hS; go_simp; first | done | (with_reducible rfl)
            try simp only [Act.put, ly1, ly2, ly3]
            refine takeH (i := 9) (v := ?_) rfl (by kernel_rfl) (by kernel_rfl) (by kernel_rfl) (fun _ _ _ h => h) rfl ?_ hHeld ?_
            rotate_left
            · intro w hS; (try dsimp only at hS); obtain ⟨hS0, hS1, hS2⟩ := hS; go_simp; first | done | (with_reducible rfl)
            try simp only [Act.put, ly1, ly2, ly3]
            refine takeH (i := 10) (v := ?_) rfl (by kernel_rfl) (by kernel_rfl) (by kernel_rfl) (fun _ _ _ h => h) rfl ?_ hHeld ?_
            rotate_left
            · intro w hS; (try dsimp only at hS); obtain ⟨hS0, hS1, hS2⟩ := hS; go_simp; first | done | (with_reducible rfl)
            try simp only [Act.put, ly1, ly2, ly3]
            refine takeH (i := 11) (v := ?_) rfl (by kernel_rfl) (by kernel_rfl) (by kernel_rfl) (fun _ _ _ h => h) rfl ?_ hHeld ?_
            rotate_left
            · intro w hS; (try dsimp only at hS); obtain ⟨hS0, hS1, hS2⟩ := hS; go_simp; first | done | (with_reducible rfl)
            try simp only [Act.put, ly1, ly2, ly3]
            refine takeH (i := 12) (v := ?_) rfl (by kernel_rfl) (by kernel_rfl) (by kernel_rfl) (fun _ _ _ h => h) rfl ?_ hHeld ?_
            rotate_left
            · intro w hS; (try dsimp only at hS); obtain ⟨hS0, hS1, hS2⟩ := hS; go_simp; first | done | (with_reducible rfl)
            try simp only [Act.put, ly1, ly2, ly3]
            refine takeH (i := 13) (v := ?_) rfl (by kernel_rfl) (by kernel_rfl) (by kernel_rfl) (fun _ _ _ h => h) rfl ?_ hHeld ?_
            rotate_left
            · intro w hS; (try dsimp only at hS); obtain ⟨hS0, hS1, hS2⟩ := hS; go_simp; first | done | (with_reducible rfl)
            try simp only [Act.put, ly1, ly2, ly3]
            refine takeH (i := 15) (v := ?_) rfl (by kernel_rfl) (by kernel_rfl) (by kernel_rfl) (fun _ _ _ h => h) rfl ?_ hHeld ?_
            rotate_left
            · intro w hS; (try dsimp only at hS); obtain ⟨hS0, hS1, hS2⟩ := hS; go_simp; first | done | (with_reducible rfl)
            try simp only [Act.put, ly1, ly2, ly3]
            refine takeH (i := 16) (v := ?_) rfl (by kernel_rfl) (by kernel_rfl) (by kernel_rfl) (fun _ _ _ h => h) rfl ?_ hHeld ?_
            rotate_left
            · intro w hS; (try dsimp only at hS); obtain ⟨hS0, hS1, hS2⟩ := hS; go_simp; first | done | (with_reducible rfl)
            try simp only [Act.put, ly1, ly2, ly3]
            refine onlyH (i := 14) rfl (by kernel_rfl) rfl (fun K hK => ?_)
            go_simp
            refine hK.out _ _ (⟨s0, cell_of hbx 3, cell_of hbx 4⟩) (fun hHeld => ?_)
            clear hK K
            try simp only [Act.put, ly1, ly2, ly3]
            refine takeH (i := 17) (v := ?_) rfl (by kernel_rfl) (by kernel_rfl) (by kernel_rfl) (fun _ _ _ h => h) rfl ?_ hHeld ?_
            rotate_left
            · intro w hS; (try dsimp only at hS); obtain ⟨hS0, hS1, hS2⟩ := hS; go_simp; first | done | (with_reducible rfl)
            try simp only [Act.put, ly1, ly2, ly3]
            refine takeH (i := 18) (v := ?_) rfl (by kernel_rfl) (by kernel_rfl) (by kernel_rfl) (fun _ _ _ h => h) rfl ?_ hHeld ?_
            rotate_left
            · intro w hS; (try dsimp only at hS); obtain ⟨hS0, hS1, hS2⟩ := hS; go_simp; first | done | (with_reducible rfl)
            try simp only [Act.put, ly1, ly2, ly3]
            refine takeH (i := 19) (v := ?_) rfl (by kernel_rfl) (by kernel_rfl) (by kernel_rfl) (fun _ _ _ h => h) rfl ?_ hHeld ?_
            rotate_left
            · intro w hS; (try dsimp only at hS); obtain ⟨hS0, hS1, hS2⟩ := hS; go_simp; first | done | (with_reducible rfl)
            try simp only [Act.put, ly1, ly2, ly3]
            refine onlyH (i := 20) rfl (by kernel_rfl) rfl (fun K hK => ?_)
            go_simp
            refine hK.out _ _ (⟨y0, y3, y4⟩) (fun hHeld => ?_)
            clear hK K
            try simp only [Act.put, ly1, ly2, ly3]
            refine wpAnyH_done (by kernel_rfl) ?_ _
            clear hHeld y0 y3 y4
            go_wp2
            obtain ⟨G9, R9, f1, f2, f3, f4⟩ := HF.out
            exact ⟨⟨j + 1, G9, R9, by go_num, by omega, by omega, f1, f2, f3, f4, HCW.out⟩, by simp [intOf]; omega⟩
          · have hmx : ((j : Int) == max keep 0) = true := by rw [beq_iff_eq]; omega
            have hmn : min (k : Int) (max t 0) = ((min k t.toNat : Nat) : Int) := by omega
            have hpq : part S.acts keep t (j + 1) = part S.acts keep t j ++ [.more f (min k t.toNat)] := hls (by omega)
            have hsum : ((upF S.files (part S.acts keep t j))[f]'hfx).sure + min k t.toNat ≤ S.bulk := by
              have h1 := hpart (j + 1)
              rw [hpq, moreSum_append, moreSum_self] at h1
              have h2 := HK.out.lens f _ (List.getElem?_eq_getElem hf)
              have h3 := file_le (List.getElem?_eq_getElem hf)
              simp only [upF, List.getElem_mapIdx]
              omega
            obtain ⟨hr5, hc5⟩ := (hx.keep (hcA2.drew) (fun _ _ h => h)).files hxfv (j := f * 2 + 1) (u := .int .i64 ((((upF S.files (part S.acts keep t j))[f]'hfx).sure + min k t.toNat : Nat) : Int)) (by show _ < (upF _ _).length * 2; omega) ((upF S.files (part S.acts keep t j)).modify f fun x => { x with sure := x.sure + min k t.toNat }) (by rw [List.length_modify]; rfl) (fc_s _ _ _ hfx _ rfl)
            have hcw : Chg (fun _ => False) w ((WA.drew).setCell ⟨g, f * 2 + 1, none⟩ (.int .i64 ((((upF S.files (part S.acts keep t j))[f]'hfx).sure + min k t.toNat : Nat) : Int))) := (hcr.then hcA2.drew).setCell (p := ⟨g, f * 2 + 1, none⟩) (Or.inr hgx) _
            have fin : ∃ (G9 : Rg) (R9 : Nat → Prop), RR B ((WA.drew).setCell ⟨g, f * 2 + 1, none⟩ (.int .i64 ((((upF S.files (part S.acts keep t j))[f]'hfx).sure + min k t.toNat : Nat) : Int))) R9 w.heap.size (S.half (upF S.files (part S.acts keep t (j + 1))) (appD S.sure (part S.acts keep t (j + 1)))) G9 ∧ G9.ks = [] ∧ (∀ k, G9.fv.ownBlock = some k → w.heap.size ≤ k) ∧ (∀ k, R9 k → R k ∨ w.heap.size ≤ k) := by
              rw [hpq, upF_more, appD_append]
              exact ⟨_, _, hr5, hgk, hgf, hRx⟩
            have HF := hide fin
            have HCW := hide hcw
            have y0 : ((WA.drew).setCell ⟨g, f * 2 + 1, none⟩ (.int .i64 ((((upF S.files (part S.acts keep t j))[f]'hfx).sure + min k t.toNat : Nat) : Int))).cell? ⟨w.heap.size, 0, none⟩ = some (.slice (some ⟨g, 0, none⟩) (upF S.files (part S.acts keep t j)).length fxc) := by rw [World.cell?_setCell_far _ _ _ _ hgne]; exact s0
            have y3 : ((WA.drew).setCell ⟨g, f * 2 + 1, none⟩ (.int .i64 ((((upF S.files (part S.acts keep t j))[f]'hfx).sure + min k t.toNat : Nat) : Int))).cell? ⟨wr.heap.size, 3, none⟩ = some (.int .i64 (f : Int)) := by rw [World.cell?_setCell_far _ _ _ _ hgb]; exact cell_of hbx 3
            have y4 : ((WA.drew).setCell ⟨g, f * 2 + 1, none⟩ (.int .i64 ((((upF S.files (part S.acts keep t j))[f]'hfx).sure + min k t.toNat : Nat) : Int))).cell? ⟨wr.heap.size, 4, none⟩ = some (.int .i64 (k : Int)) := by rw [World.cell?_setCell_far _ _ _ _ hgb]; exact cell_of hbx 4
            clear fin hcw hr5 hc5 hpart hpq hnx hls hcan hidm
            generalize ((upF S.files (part S.acts keep t j))[f]'hfx).sure = su at *
            have hwr : IntKind.i64.wrap ((su : Int) + ((min k t.toNat : Nat) : Int)) = (((su + min k t.toNat : Nat)) : Int) := by rw [IntKind.wrap_i64]; omega
            go_wp2_with fail
            rw [← HWA.out]
            refine wp_region_held_drew (S := fun W => W.cell? ⟨w.heap.size, 0, none⟩ = some (.slice (some ⟨g, 0, none⟩) (upF S.files (part S.acts keep t j)).length fxc) ∧ W.cell? ⟨wr.heap.size, 3, none⟩ = some (.int .i64 (f : Int)) ∧ W.cell? ⟨wr.heap.size, 4, none⟩ = some (.int .i64 (k : Int))) (by kernel_rfl) (⟨s0, cell_of hbx 3, cell_of hbx 4⟩) (fun hHeld => ?_)
            refine takeH (i := 0) (v := ?_) rfl (by kernel_rfl) (by kernel_rfl) (by kernel_rfl) (fun _ _ _ h => h) rfl ?_ hHeld ?_
            rotate_left
            · intro w hS; (try dsimp only at hS); obtain ⟨hS0, hS1, hS2⟩ := hS; go_simp; first | done | (with_reducible rfl)
            try simp only [Act.put, ly1, ly2, ly3]
            refine takeH (i := 1) (v := ?_) rfl (by kernel_rfl) (by kernel_rfl) (by kernel_rfl) (fun _ _ _ h => h) rfl ?_ hHeld ?_
            rotate_left
            · intro w hS; (try dsimp only at hS); obtain ⟨hS0, hS1, hS2⟩ := hS; go_simp; first | done | (with_reducible rfl)
            try simp only [Act.put, ly1, ly2, ly3]
            refine takeH (i := 2) (v := ?_) rfl (by kernel_rfl) (by kernel_rfl) (by kernel_rfl) (fun _ _ _ h => h) rfl ?_ hHeld ?_
            rotate_left
            · intro w hS; (try dsimp only at hS); obtain ⟨hS0, hS1, hS2⟩ := hS; go_simp; first | done | (with_reducible rfl)
            try simp only [Act.put, ly1, ly2, ly3]
            refine takeH (i := 3) (v := ?_) rfl (by kernel_rfl) (by kernel_rfl) (by kernel_rfl) (fun _ _ _ h => h) rfl ?_ hHeld ?_
            rotate_left
            · intro w hS; (try dsimp only at hS); obtain ⟨hS0, hS1, hS2⟩ := hS; go_simp; first | done | (with_reducible rfl)
            try simp only [Act.put, ly1, ly2, ly3]
            refine takeH (i := 4) (v := ?_) rfl (by kernel_rfl) (by kernel_rfl) (by kernel_rfl) (fun _ _ _ h => h) rfl ?_ hHeld ?_
            rotate_left
            · intro w hS; (try dsimp only at hS); obtain ⟨hS0, hS1, hS2⟩ := hS; go_simp; first | done | (with_reducible rfl)
            try simp only [Act.put, ly1, ly2, ly3]
            refine takeH (i := 5) (v := ?_) rfl (by kernel_rfl) (by kernel_rfl) (by kernel_rfl) (fun _ _ _ h => h) rfl ?_ hHeld ?_
            rotate_left
            · intro w hS; (try dsimp only at hS); obtain ⟨hS0, hS1, hS2⟩ := hS; go_simp; first | done | (with_reducible rfl)
            try simp only [Act.put, ly1, ly2, ly3]
            refine takeH (i := 6) (v := ?_) rfl (by kernel_rfl) (by kernel_rfl) (by kernel_rfl) (fun _ _ _ h => h) rfl ?_ hHeld ?_
            rotate_left
            · intro w hS; (try dsimp only at hS); obtain ⟨hS0, hS1, hS2⟩ := hS; go_simp; first | done | (with_reducible rfl)
            try simp only [Act.put, ly1, ly2, ly3]
            refine takeH (i := 7) (v := ?_) rfl (by kernel_rfl) (by kernel_rfl) (by kernel_rfl) (fun _ _ _ h => h) rfl ?_ hHeld ?_
            rotate_left
            · intro w hS; (try dsimp only at hS); obtain ⟨hS0, hS1, hS2⟩ := hS; go_simp; first | done | (with_reducible rfl)
            try simp only [Act.put, ly1, ly2, ly3]
            refine takeH (i := 8) (v := ?_) rfl (by kernel_rfl) (by kernel_rfl) (by kernel_rfl) (fun _ _ _ h => h) rfl ?_ hHeld ?_
            rotate_left
            · intro w hS; (try dsimp only at hS); obtain ⟨hS0, hS1, hS2⟩ := hS; go_simp; first | done | (with_reducible rfl)
            try simp only [Act.put, ly1, ly2, ly3]
            refine takeH (i := 9) (v := ?_) rfl (by kernel_rfl) (by kernel_rfl) (by kernel_rfl) (fun _ _ _ h => h) rfl ?_ hHeld ?_
            rotate_left
            · intro w hS; (try dsimp only at hS); obtain ⟨hS0, hS1, hS2⟩ := hS; go_simp; first | done | (with_reducible rfl)
            try simp only [Act.put, ly1, ly2, ly3]
            refine takeH (i := 10) (v := ?_) rfl (by kernel_rfl) (by kernel_rfl) (by kernel_rfl) (fun _ _ _ h => h) rfl ?_ hHeld ?_
            rotate_left
            · intro w hS; (try dsimp only at hS); obtain ⟨hS0, hS1, hS2⟩ := hS; go_simp; first | done | (with_reducible rfl)
            try simp only [Act.put, ly1, ly2, ly3]
            refine takeH (i := 11) (v := ?_) rfl (by kernel_rfl) (by kernel_rfl) (by kernel_rfl) (fun _ _ _ h => h) rfl ?_ hHeld ?_
            rotate_left
            · intro w hS; (try dsimp only at hS); obtain ⟨hS0, hS1, hS2⟩ := hS; go_simp; first | done | (with_reducible rfl)
            try simp only [Act.put, ly1, ly2, ly3]
            refine takeH (i := 12) (v := ?_) rfl (by kernel_rfl) (by kernel_rfl) (by kernel_rfl) (fun _ _ _ h => h) rfl ?_ hHeld ?_
            rotate_left
            · intro w hS; (try dsimp only at hS); obtain ⟨hS0, hS1, hS2⟩ := hS; go_simp; first | done | (with_reducible rfl)
            try simp only [Act.put, ly1, ly2, ly3]
            refine takeH (i := 13) (v := ?_) rfl (by kernel_rfl) (by kernel_rfl) (by kernel_rfl) (fun _ _ _ h => h) rfl ?_ hHeld ?_
            rotate_left
            · intro w hS; (try dsimp only at hS); obtain ⟨hS0, hS1, hS2⟩ := hS; go_simp; first | done | (with_reducible rfl)
            try simp only [Act.put, ly1, ly2, ly3]
            refine takeH (i := 15) (v := ?_) rfl (by kernel_rfl) (by kernel_rfl) (by kernel_rfl) (fun _ _ _ h => h) rfl ?_ hHeld ?_
            rotate_left
            · intro w hS; (try dsimp only at hS); obtain ⟨hS0, hS1, hS2⟩ := hS; go_simp; first | done | (with_reducible rfl)
            try simp only [Act.put, ly1, ly2, ly3]
            refine takeH (i := 16) (v := ?_) rfl (by kernel_rfl) (by kernel_rfl) (by kernel_rfl) (fun _ _ _ h => h) rfl ?_ hHeld ?_
            rotate_left
            · intro w hS; (try dsimp only at hS); obtain ⟨hS0, hS1, hS2⟩ := hS; go_simp; first | done | (with_reducible rfl)
            try simp only [Act.put, ly1, ly2, ly3]
            refine takeH (i := 17) (v := ?_) rfl (by kernel_rfl) (by kernel_rfl) (by kernel_rfl) (fun _ _ _ h => h) rfl ?_ hHeld ?_
            rotate_left
            · intro w hS; (try dsimp only at hS); obtain ⟨hS0, hS1, hS2⟩ := hS; go_simp; first | done | (with_reducible rfl)
            try simp only [Act.put, ly1, ly2, ly3]
            refine takeH (i := 18) (v := ?_) rfl (by kernel_rfl) (by kernel_rfl) (by kernel_rfl) (fun _ _ _ h => h) rfl ?_ hHeld ?_
            rotate_left
            · intro w hS; (try dsimp only at hS); obtain ⟨hS0, hS1, hS2⟩ := hS; go_simp; first | done | (with_reducible rfl)
            try simp only [Act.put, ly1, ly2, ly3]
            refine takeH (i := 19) (v := ?_) rfl (by kernel_rfl) (by kernel_rfl) (by kernel_rfl) (fun _ _ _ h => h) rfl ?_ hHeld ?_
            rotate_left
            · intro w hS; (try dsimp only at hS); obtain ⟨hS0, hS1, hS2⟩ := hS; go_simp; first | done | (with_reducible rfl)
            try simp only [Act.put, ly1, ly2, ly3]
            refine onlyH (i := 14) rfl (by kernel_rfl) rfl (fun K hK => ?_)
            go_simp
            refine hK.out _ _ (⟨s0, cell_of hbx 3, cell_of hbx 4⟩) (fun hHeld => ?_)
            clear hK K
            try simp only [Act.put, ly1, ly2, ly3]
            refine takeH (i := 20) (v := ?_) rfl (by kernel_rfl) (by kernel_rfl) (by kernel_rfl) (fun _ _ _ h => h) rfl ?_ hHeld ?_
            rotate_left
            · intro w hS; (try dsimp only at hS); obtain ⟨hS0, hS1, hS2⟩ := hS; go_simp; first | done | (with_reducible rfl)
            try simp only [Act.put, ly1, ly2, ly3]
            refine takeH (i := 21) (v := ?_) rfl (by kernel_rfl) (by kernel_rfl) (by kernel_rfl) (fun _ _ _ h => h) rfl ?_ hHeld ?_
            rotate_left
            · intro w hS; (try dsimp only at hS); obtain ⟨hS0, hS1, hS2⟩ := hS; go_simp; first | done | (with_reducible rfl)
            try simp only [Act.put, ly1, ly2, ly3]
            refine takeH (i := 22) (v := ?_) rfl (by kernel_rfl) (by kernel_rfl) (by kernel_rfl) (fun _ _ _ h => h) rfl ?_ hHeld ?_
            rotate_left
            · intro w hS; (try dsimp only at hS); obtain ⟨hS0, hS1, hS2⟩ := hS; go_simp; first | done | (with_reducible rfl)
            try simp only [Act.put, ly1, ly2, ly3]
            refine onlyH (i := 23) rfl (by kernel_rfl) rfl (fun K hK => ?_)
            go_simp
            refine hK.out _ _ (⟨y0, y3, y4⟩) (fun hHeld => ?_)
            clear hK K
            try simp only [Act.put, ly1, ly2, ly3]
            refine wpAnyH_done (by kernel_rfl) ?_ _
            clear hHeld y0 y3 y4
            go_wp2
            obtain ⟨G9, R9, f1, f2, f3, f4⟩ := HF.out
            exact ⟨⟨j + 1, G9, R9, by go_num, by omega, by omega, f1, f2, f3, f4, HCW.out⟩, by simp [intOf]; omega⟩
      · have hst : part S.acts keep t j = stay S.acts keep t := part_end (by omega)
        rw [hst] at hx
        have HX := hide hx
        clear hx hst
        by_cases hA : j < S.acts.length
        · have hA1 : ¬ (j : Int) < keep := by omega
          have hmx : ((j : Int) == max keep 0) = false := by rw [beq_eq_false_iff_ne]; omega
          go_wp2
          go_meet
          exact ⟨Gx, Rx, HX.out, hgk, hgf, hRx, hcr⟩
        · go_wp2
          go_meet
          exact ⟨Gx, Rx, HX.out, hgk, hgf, hRx, hcr⟩
  case rest =>
    clear HX4 HX3 HR3 HV2 HVB hcB
    obtain ⟨Gx, Rx, hx, hgk, hgf, hRx, hcr⟩ := hcut
    have hfin := crash_half S keep t
    have hqu : ∀ i (hi : i < (upF S.files (stay S.acts keep t)).length), ((upF S.files (stay S.acts keep t))[i]).sure ≤ ((upF S.files (stay S.acts keep t))[i]).b.length ∧ ((upF S.files (stay S.acts keep t))[i]).b.length ≤ S.bulk := fun i hi => by
      rw [upF_length] at hi
      have h1 := HK.out.quota keep t (List.getElem?_eq_getElem hi)
      have h3 := file_le (List.getElem?_eq_getElem hi)
      simp only [upF, List.getElem_mapIdx]
      omega
    have hul := upF_length S.files (stay S.acts keep t)
    generalize upF S.files (stay S.acts keep t) = fl at *
    generalize appD S.sure (stay S.acts keep t) = su at *
    obtain ⟨fxa, fxc, hxfv⟩ := own_shape hx.fls
    have hbk0 := hx.blk
    rw [rcells, hxfv] at hbk0
    have c00 : wc.cell? ⟨w.heap.size, 0, none⟩ = some (.slice fxa fl.length fxc) := cell_of hbk0 0
    have HX := hide hx
    clear hbk0 hx
    go_wp2_with fail
    go_loopw [10] (fun i wr => ∃ (j : Nat) (Gx : Rg) (Rx : Nat → Prop), i = .int .i64 (j : Int) ∧ j ≤ fl.length ∧ RR B wr Rx w.heap.size (S.half (cutF fl j) su) Gx ∧ Gx.fv = .slice fxa fl.length fxc ∧ Gx.ks = [] ∧ (∀ k, Gx.fv.ownBlock = some k → w.heap.size ≤ k) ∧ (∀ k, Rx k → R k ∨ w.heap.size ≤ k) ∧ Chg (fun _ => False) w wr)
      (fun i _ => fl.length - (intOf i).toNat)
    case atStart => exact ⟨0, Gx, Rx, rfl, by omega, by rw [cutF_zero]; exact HX.out, hxfv, hgk, hgf, hRx, hcr⟩
    case round =>
      clear HX hgk hgf hRx hcr c00 hxfv
      obtain ⟨j, Gx, Rx, rfl, hj, hx, hxfv, hgk, hgf, hRx, hcr⟩ := hrel
      have hcl := cutF_length fl j
      have hzr := hcr.size
      have hbk := hx.blk
      rw [rcells, hxfv] at hbk
      have c0 : wr.cell? ⟨w.heap.size, 0, none⟩ = some (.slice fxa fl.length fxc) := cell_of hbk 0
      by_cases hlt : j < fl.length
      · have hjc : j < (cutF fl j).length := by omega
        have hsame := cutF_at fl j hlt
        have hxrow := hx.fls
        rw [hxfv] at hxrow
        change World.ownsRow _ _ _ _ (Value.slice fxa fl.length fxc) (cutF fl j).length (fc (cutF fl j)) at hxrow
        rw [hcl] at hxrow
        obtain ⟨g, rfl, -, hgl, hcx⟩ := own_pos hxrow (by omega)
        have x1 := hcx _ _ (fc_at (cutF fl j) j hjc).1
        have x2 := hcx _ _ (fc_at (cutF fl j) j hjc).2
        have hgx : w.heap.size ≤ g := hgf g (by rw [hxfv]; rfl)
        have hgne : g ≠ w.heap.size := hx.neF g (by rw [hxfv]; rfl)
        obtain ⟨gcur, hgcur⟩ := own_block hx.fls (k := g) (by rw [hxfv]; rfl)
        have tg := thawed hgcur (j * 2)
        obtain ⟨hr5, hc5⟩ := (hx.keep ((Chg.refl (fun _ => False) wr).drew) (fun _ _ h => h)).files (g := g) (cap := fxc) (by rw [hxfv]; show _ = Value.slice _ (cutF fl j).length _; rw [hcl]) (j := j * 2) (u := .string (strB ((cutF fl j)[j].b.take (cutF fl j)[j].sure))) (by show _ < (cutF fl j).length * 2; omega) ((cutF fl j).modify j fun x => { x with b := x.b.take x.sure }) (by rw [List.length_modify]; rfl) (fc_b _ _ _ hjc _ rfl)
        have hq := hqu j hlt
        rw [hsame] at x1 x2 hr5
        have hnext := cutF_next fl j hlt
        have HR5 := hide (show RR B (wr.drew.setCell ⟨g, j * 2, none⟩ (.string (strB (fl[j].b.take fl[j].sure)))) Rx w.heap.size (S.half (cutF fl (j + 1)) su) Gx by rw [← hnext]; exact hr5)
        have hcw : Chg (fun _ => False) w (wr.drew.setCell ⟨g, j * 2, none⟩ (.string (strB (fl[j].b.take fl[j].sure)))) := (hcr.drew).setCell (p := ⟨g, j * 2, none⟩) (Or.inr hgx) _
        have HCW := hide hcw
        have hsz := strB_size fl[j].b
        have hx2 := x2
        rw [cell_of hgcur] at hx2
        clear hr5 hc5 hcw hxrow hcx hbk hx hsame hnext
        generalize fl[j].b = fb at *
        generalize fl[j].sure = sf at *
        have hj0 : (0 : Int) ≤ (j : Int) := by omega
        have hj1 : (j : Int) < (fl.length : Int) := by omega
        have y0 : (wr.drew.setCell ⟨g, j * 2, none⟩ (.string (strB (fb.take sf)))).cell? ⟨w.heap.size, 0, none⟩ = some (.slice (some ⟨g, 0, none⟩) fl.length fxc) := by rw [World.cell?_setCell_far _ _ _ _ hgne]; exact c0
        have y2 : (wr.drew.setCell ⟨g, j * 2, none⟩ (.string (strB (fb.take sf)))).cell? ⟨g, j * 2 + 1, none⟩ = some (.int .i64 (sf : Int)) := by
          have := cell_of (heap_set (show wr.drew.heap[g]? = some _ from hgcur) (j * 2) (.string (strB (fb.take sf)))) (j * 2 + 1)
          rw [this]
          simpa using hx2
        go_wp2_with fail
        refine wp_region_held_drew (S := fun W => W.cell? ⟨w.heap.size, 0, none⟩ = some (.slice (some ⟨g, 0, none⟩) fl.length fxc) ∧ W.cell? ⟨g, j * 2 + 1, none⟩ = some (.int .i64 (sf : Int))) (by kernel_rfl) (⟨c0, x2⟩) (fun hHeld => ?_)
        refine takeH (i := 0) (v := ?_) rfl (by kernel_rfl) (by kernel_rfl) (by kernel_rfl) (fun _ _ _ h => h) rfl ?_ hHeld ?_
        rotate_left
        · intro w hS; (try dsimp only at hS); obtain ⟨hS0, hS1⟩ := hS; go_simp; first | done | (with_reducible rfl)
        try simp only [Act.put, ly1, ly2, ly3]
        refine takeH (i := 1) (v := ?_) rfl (by kernel_rfl) (by kernel_rfl) (by kernel_rfl) (fun _ _ _ h => h) rfl ?_ hHeld ?_
        rotate_left
        · intro w hS; (try dsimp only at hS); obtain ⟨hS0, hS1⟩ := hS; go_simp; first | done | (with_reducible rfl)
        try simp only [Act.put, ly1, ly2, ly3]
        refine takeH (i := 2) (v := ?_) rfl (by kernel_rfl) (by kernel_rfl) (by kernel_rfl) (fun _ _ _ h => h) rfl ?_ hHeld ?_
        rotate_left
        · intro w hS; (try dsimp only at hS); obtain ⟨hS0, hS1⟩ := hS; go_simp; first | done | (with_reducible rfl)
        try simp only [Act.put, ly1, ly2, ly3]
        refine takeH (i := 3) (v := ?_) rfl (by kernel_rfl) (by kernel_rfl) (by kernel_rfl) (fun _ _ _ h => h) rfl ?_ hHeld ?_
        rotate_left
        · intro w hS; (try dsimp only at hS); obtain ⟨hS0, hS1⟩ := hS; go_simp; first | done | (with_reducible rfl)
        try simp only [Act.put, ly1, ly2, ly3]
        refine takeH (i := 4) (v := ?_) rfl (by kernel_rfl) (by kernel_rfl) (by kernel_rfl) (fun _ _ _ h => h) rfl ?_ hHeld ?_
        rotate_left
        · intro w hS; (try dsimp only at hS); obtain ⟨hS0, hS1⟩ := hS; go_simp; first | done | (with_reducible rfl)
        try simp only [Act.put, ly1, ly2, ly3]
        refine takeH (i := 5) (v := ?_) rfl (by kernel_rfl) (by kernel_rfl) (by kernel_rfl) (fun _ _ _ h => h) rfl ?_ hHeld ?_
        rotate_left
        · intro w hS; (try dsimp only at hS); obtain ⟨hS0, hS1⟩ := hS; go_simp; first | done | (with_reducible rfl)
        try simp only [Act.put, ly1, ly2, ly3]
        refine takeH (i := 6) (v := ?_) rfl (by kernel_rfl) (by kernel_rfl) (by kernel_rfl) (fun _ _ _ h => h) rfl ?_ hHeld ?_
        rotate_left
        · intro w hS; (try dsimp only at hS); obtain ⟨hS0, hS1⟩ := hS; go_simp; first | done | (with_reducible rfl)
        try simp only [Act.put, ly1, ly2, ly3]
        refine takeH (i := 7) (v := ?_) rfl (by kernel_rfl) (by kernel_rfl) (by kernel_rfl) (fun _ _ _ h => h) rfl ?_ hHeld ?_
        rotate_left
        · intro w hS; (try dsimp only at hS); obtain ⟨hS0, hS1⟩ := hS; go_simp; first | done | (with_reducible rfl)
        try simp only [Act.put, ly1, ly2, ly3]
        refine takeH (i := 8) (v := ?_) rfl (by kernel_rfl) (by kernel_rfl) (by kernel_rfl) (fun _ _ _ h => h) rfl ?_ hHeld ?_
        rotate_left
        · intro w hS; (try dsimp only at hS); obtain ⟨hS0, hS1⟩ := hS; go_simp; first | done | (with_reducible rfl)
        try simp only [Act.put, ly1, ly2, ly3]
        refine takeH (i := 9) (v := ?_) rfl (by kernel_rfl) (by kernel_rfl) (by kernel_rfl) (fun _ _ _ h => h) rfl ?_ hHeld ?_
        rotate_left
        · intro w hS; (try dsimp only at hS); obtain ⟨hS0, hS1⟩ := hS; go_simp; first | done | (with_reducible rfl)
        try simp only [Act.put, ly1, ly2, ly3]
        refine takeH (i := 10) (v := ?_) rfl (by kernel_rfl) (by kernel_rfl) (by kernel_rfl) (fun _ _ _ h => h) rfl ?_ hHeld ?_
        rotate_left
        · intro w hS; (try dsimp only at hS); obtain ⟨hS0, hS1⟩ := hS; go_simp; first | done | (with_reducible rfl)
        try simp only [Act.put, ly1, ly2, ly3]
        refine takeH (i := 11) (v := ?_) rfl (by kernel_rfl) (by kernel_rfl) (by kernel_rfl) (fun _ _ _ h => h) rfl ?_ hHeld ?_
        rotate_left
        · intro w hS; (try dsimp only at hS); obtain ⟨hS0, hS1⟩ := hS; go_simp; first | done | (with_reducible rfl)
        try simp only [Act.put, ly1, ly2, ly3]
        refine takeH (i := 13) (v := ?_) rfl (by kernel_rfl) (by kernel_rfl) (by kernel_rfl) (fun _ _ _ h => h) rfl ?_ hHeld ?_
        rotate_left
        · intro w hS; (try dsimp only at hS); obtain ⟨hS0, hS1⟩ := hS; go_simp; first | done | (with_reducible rfl)
        try simp only [Act.put, ly1, ly2, ly3]
        refine takeH (i := 14) (v := ?_) rfl (by kernel_rfl) (by kernel_rfl) (by kernel_rfl) (fun _ _ _ h => h) rfl ?_ hHeld ?_
        rotate_left
        · intro w hS; (try dsimp only at hS); obtain ⟨hS0, hS1⟩ := hS; go_simp; first | done | (with_reducible rfl)
        try simp only [Act.put, ly1, ly2, ly3]
        refine takeH (i := 15) (v := ?_) rfl (by kernel_rfl) (by kernel_rfl) (by kernel_rfl) (fun _ _ _ h => h) rfl ?_ hHeld ?_
        rotate_left
        · intro w hS; (try dsimp only at hS); obtain ⟨hS0, hS1⟩ := hS; go_simp; first | done | (with_reducible rfl)
        try simp only [Act.put, ly1, ly2, ly3]
        refine takeH (i := 16) (v := ?_) rfl (by kernel_rfl) (by kernel_rfl) (by kernel_rfl) (fun _ _ _ h => h) rfl ?_ hHeld ?_
        rotate_left
        · intro w hS; (try dsimp only at hS); obtain ⟨hS0, hS1⟩ := hS; go_simp; first | done | (with_reducible rfl)
        try simp only [Act.put, ly1, ly2, ly3]
        refine takeH (i := 17) (v := ?_) rfl (by kernel_rfl) (by kernel_rfl) (by kernel_rfl) (fun _ _ _ h => h) rfl ?_ hHeld ?_
        rotate_left
        · intro w hS; (try dsimp only at hS); obtain ⟨hS0, hS1⟩ := hS; go_simp; first | done | (with_reducible rfl)
        try simp only [Act.put, ly1, ly2, ly3]
        refine takeH (i := 18) (v := ?_) rfl (by kernel_rfl) (by kernel_rfl) (by kernel_rfl) (fun _ _ _ h => h) rfl ?_ hHeld ?_
        rotate_left
        · intro w hS; (try dsimp only at hS); obtain ⟨hS0, hS1⟩ := hS; go_simp; first | done | (with_reducible rfl)
        try simp only [Act.put, ly1, ly2, ly3]
        refine takeH (i := 19) (v := ?_) rfl (by kernel_rfl) (by kernel_rfl) (by kernel_rfl) (fun _ _ _ h => h) rfl ?_ hHeld ?_
        rotate_left
        · intro w hS; (try dsimp only at hS); obtain ⟨hS0, hS1⟩ := hS; go_simp; first | done | (with_reducible rfl)
        try simp only [Act.put, ly1, ly2, ly3]
        refine takeH (i := 20) (v := ?_) rfl (by kernel_rfl) (by kernel_rfl) (by kernel_rfl) (fun _ _ _ h => h) rfl ?_ hHeld ?_
        rotate_left
        · intro w hS; (try dsimp only at hS); obtain ⟨hS0, hS1⟩ := hS; go_simp; first | done | (with_reducible rfl)
        try simp only [Act.put, ly1, ly2, ly3]
        refine onlyH (i := 12) rfl (by kernel_rfl) rfl (fun K hK => ?_)
        go_simp
        refine hK.out _ _ (⟨c0, x2⟩) (fun hHeld => ?_)
        clear hK K
        try simp only [Act.put, ly1, ly2, ly3]
        refine takeH (i := 21) (v := ?_) rfl (by kernel_rfl) (by kernel_rfl) (by kernel_rfl) (fun _ _ _ h => h) rfl ?_ hHeld ?_
        rotate_left
        · intro w hS; (try dsimp only at hS); obtain ⟨hS0, hS1⟩ := hS; go_simp; first | done | (with_reducible rfl)
        try simp only [Act.put, ly1, ly2, ly3]
        rw [ext_take]
        refine takeH (i := 22) (v := ?_) rfl (by kernel_rfl) (by kernel_rfl) (by kernel_rfl) (fun _ _ _ h => h) rfl ?_ hHeld ?_
        rotate_left
        · intro w hS; (try dsimp only at hS); obtain ⟨hS0, hS1⟩ := hS; go_simp; first | done | (with_reducible rfl)
        try simp only [Act.put, ly1, ly2, ly3]
        refine takeH (i := 23) (v := ?_) rfl (by kernel_rfl) (by kernel_rfl) (by kernel_rfl) (fun _ _ _ h => h) rfl ?_ hHeld ?_
        rotate_left
        · intro w hS; (try dsimp only at hS); obtain ⟨hS0, hS1⟩ := hS; go_simp; first | done | (with_reducible rfl)
        try simp only [Act.put, ly1, ly2, ly3]
        refine onlyH (i := 24) rfl (by kernel_rfl) rfl (fun K hK => ?_)
        go_simp
        refine hK.out _ _ (⟨y0, y2⟩) (fun hHeld => ?_)
        clear hK K
        try simp only [Act.put, ly1, ly2, ly3]
        refine wpAnyH_done (by kernel_rfl) ?_ _
        clear hHeld y0 y2
        go_wp2
        exact ⟨⟨j + 1, Gx, Rx, by go_num, by omega, HR5.out, hxfv, hgk, hgf, hRx, HCW.out⟩, by simp [intOf]; omega⟩
      · have hje : j = fl.length := by omega
        obtain ⟨hz, hcz⟩ := hx.dirSure
        obtain ⟨ya, yc, hysv⟩ := own_shape hx.sur
        have b1 := cell_of hbk 1
        have b2 := cell_of hbk 2
        have tb := thawed hbk 1
        rw [hysv] at hz hcz b2
        obtain ⟨za, zc, hzdv⟩ := own_shape hx.dir
        rw [hzdv] at b1
        have hsc : ({ S.half (cutF fl j) su with dir := (S.half (cutF fl j) su).sure } : Dk) = S.crash keep t := by rw [hje]; exact hfin
        rw [hsc] at hz
        have hcw : Chg (fun _ => False) w (wr.setCell ⟨w.heap.size, 1, none⟩ (.slice ya (S.half (cutF fl j) su).sure.length yc)) := hcr.setCell (p := ⟨w.heap.size, 1, none⟩) (Or.inr (Nat.le_refl _)) _
        have HZ := hide (show ∃ x G' R', Ending.returned (.pointer (some ⟨w.heap.size, 0, none⟩)) = .returned (.pointer (some ⟨x, 0, none⟩)) ∧ RR B (wr.setCell ⟨w.heap.size, 1, none⟩ (.slice ya (S.half (cutF fl j) su).sure.length yc)) R' x (S.crash keep t) G' ∧ G'.ks = [] ∧ (∀ k, R' k → R k ∨ w.heap.size ≤ k) ∧ Chg (fun _ => False) w (wr.setCell ⟨w.heap.size, 1, none⟩ (.slice ya (S.half (cutF fl j) su).sure.length yc)) from ⟨_, _, _, rfl, hz, hgk, hRx, hcw⟩)
        clear hz hcz hcw hsc hx hbk hfin
        go_wp2
        go_ret
        exact HZ.out
end Go.Proofs.Ytlejgdjkdbamkaa
