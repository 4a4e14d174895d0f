/-
  The parts of the next level laid. Conditions: the parts lie there; the table holds its numbers.
-/
import Derived.Test.YtokebnkgjchfaaaGreatDoorS21BLay
import Derived.Test.YtokebnkgjchfaaaGreatDoorS23BChunks
namespace Go.Proofs.YtokebnkgjchfaaaGreatDoor
open Go.RowKit

/-- How long is a slice? -/
def sliceLen : Value → Nat
  | .slice _ n _ => n
  | _ => 0
set_option maxRecDepth 40000 in
set_option maxHeartbeats 1600000 in
theorem layFans_any (B : Nat) (w : World) (g : Nat) (os : List Pair) (level : Int) (ps : List Part) (v : Value) (h : BdW B w g os) (hv : Rw B w 25 2 partC v ps) (hT : TabW w) (h0 : 0 < B)
    (hi : ∀ p ∈ ps, p.1.length = 32) (hs : ∀ p ∈ ps, 1 ≤ p.2) (hz : sizeP ps ≤ 262144) (hne : ps ≠ []) (hl1 : 1 ≤ level) (hl2 : level ≤ 20) (hn : os.length ≤ 1000000) :
    Calls Tryz.prog 36 #[.pointer (some ⟨g, 0, none⟩), .int .i64 level, v] w fun e w' => ∃ u, e = .returned u ∧ Rw w.heap.size w' 25 2 partC u ((groups ps).map (fanP level)) ∧ BdW B w' g (layF level os (groups ps)) ∧ Mv B bts none w w' := by
  have hB : B ≤ w.heap.size := by
    obtain ⟨hg, vo, mb, hh, -⟩ := h
    have := lt_of_heap hh
    omega
  have hls := ls_of_own partC_length hv
  obtain ⟨ao, cap, hvv, hcap, hcap2, hne2⟩ := hls
  subst hvv
  obtain ⟨b, off, rfl, hbB, -⟩ := hne2 hne
  unfold maxLen at hcap2
  have HI := hide (And.intro hv (And.intro hi (And.intro hs (And.intro hz (And.intro hT h)))))
  obtain ⟨m, hm⟩ : ∃ m, m = ps.length := ⟨_, rfl⟩
  rw [← hm] at hcap hv
  rw [← hm]
  have HM := hide hm
  have hm9 : m ≤ 262144 := by have := sizeP_many ps HI.out.2.2.1; have := HI.out.2.2.2.1; omega
  clear hm hi hs hz hT h hv hne2
  go_enter Tryz.func36, Tryz.ntmps36
  go_wp2_with fail
  go_loopw [2, 7] (fun t u wr => ∃ (k : Nat) (done : List (List Part)) (ak : Option Addr), k ≤ m ∧ t = .slice ak (m - k) (cap - k) ∧ (k < m → ak = some ⟨b, off + k * 2, none⟩) ∧ groups ps = done ++ groups (ps.drop k) ∧ Rw w.heap.size wr 25 2 partC u (done.map (fanP level)) ∧ BdW B wr g (layF level os done) ∧ Mv B bts none w wr)
    (fun t _ _ => sliceLen t)
  case atStart => exact ⟨0, [], some ⟨b, off, none⟩, by omega, by simp, fun _ => by simp, by simp, World.ownsRow_nil _ _ _ _, HI.out.2.2.2.2.2, Mv.refl _ _ _ _⟩
  case round =>
    obtain ⟨k, done, ak, hk, rfl, hak, hgs, hrow, hBd, hMr⟩ := hrel
    by_cases hlt : k < m
    · obtain rfl := hak hlt
      clear hak
      have hlen : (ps.drop k).length = m - k := by rw [List.length_drop, ← HM.out]
      have hdr : ps.drop k ≠ [] := fun e => by rw [e] at hlen; simp at hlen; omega
      have hvr := hMr.own0 HI.out.1 (by decide)
      rw [← HM.out] at hvr
      have hlr : Ls wr.heap.size wr 2 partC (.slice (some ⟨b, off + k * 2, none⟩) (m - k) (cap - k)) (ps.drop k) := by
        have := (ls_of_own partC_length (xs := ps) (by rw [← HM.out]; exact hvr)).part (a := k) (z := m) hk (by rw [← HM.out]; exact Nat.le_refl _)
        rwa [List.take_of_length_le (by rw [← HM.out]; exact Nat.le_refl _)] at this
      obtain ⟨n, hn0⟩ : ∃ n, n = groupN (ps.drop k) := ⟨_, rfl⟩
      have hn1 : 1 ≤ n := by rw [hn0]; exact groupN_pos hdr
      have hn2 : n ≤ m - k ∧ n ≤ 32 := by rw [hn0, ← hlen]; exact groupN_le _
      obtain ⟨ks, hks⟩ : ∃ ks, ks = (ps.drop k).take n := ⟨_, rfl⟩
      have hkl : ks.length = n := by rw [hks, List.length_take, hlen]; omega
      have hin : ∀ p ∈ ks, p ∈ ps := fun p hp => List.mem_of_mem_drop (List.mem_of_mem_take (hks ▸ hp))
      have hgd : groups (ps.drop k) = ks :: groups (ps.drop (k + n)) := by rw [groups_step hdr, ← hn0, ← hks, List.drop_drop]
      have hsz : sizeP ks ≤ 262144 := by
        have h1 := sizeP_split ps k
        have h2 := sizeP_split (ps.drop k) n
        have h3 := sizeP_nonneg (ps.take k) (fun p hp => HI.out.2.2.1 p (List.mem_of_mem_take hp))
        have h4 := sizeP_nonneg ((ps.drop k).drop n) (fun p hp => HI.out.2.2.1 p (List.mem_of_mem_drop (List.mem_of_mem_drop hp)))
        have h5 := HI.out.2.2.2.1
        rw [hks]
        omega
      have hok : fanOk (level, ks) = true := by
        unfold fanOk levelB isIdB
        simp only [Bool.and_eq_true, decide_eq_true_eq, List.all_eq_true]
        refine ⟨⟨⟨⟨hl1, hl2⟩, by omega⟩, fun p hp => HI.out.2.1 p (hin p hp)⟩, (within_iff _ _ (by omega)).2 ⟨fun x hx => ?_, hsz⟩⟩
        obtain ⟨p, hp, rfl⟩ := List.mem_map.1 hx
        exact HI.out.2.2.1 p (hin p hp)
      have hgz := groupSize_any wr _ (ps.drop k) hlr (fun p hp => HI.out.2.1 p (List.mem_of_mem_drop hp))
      rw [← hn0] at hgz
      have hlk : Ls wr.heap.size wr 2 partC (.slice (some ⟨b, off + k * 2, none⟩) n (cap - k)) ks := by
        have := hlr.part (a := 0) (z := n) (by omega) (by omega)
        simpa [← hks] using this
      have hBr : B ≤ wr.heap.size := by have := hMr.size; omega
      have HK := hide (And.intro hgs (And.intro hrow (And.intro hBd (And.intro hMr (And.intro hgd (And.intro hin (And.intro hsz hok)))))))
      have HL := hide (And.intro hlk (And.intro hkl hks))
      clear hgs hrow hBd hMr hgd hin hsz hok hlk hvr hlr hlen hdr hn0 hks hkl
      go_wp2_with fail
      refine hgz.mono ?_
      rintro e w1 ⟨rfl, hb1⟩
      clear hgz
      have hb2 : Below w1.heap.size w1 (w1.alloc (.cells #[.int .i64 level, .slice (some ⟨b, off + k * 2, none⟩) n (cap - k)] 90)) := (Below.refl _ _).alloc (Nat.le_refl _) _
      have hx2 := heap_last w1 (.cells #[.int .i64 level, .slice (some ⟨b, off + k * 2, none⟩) n (cap - k)] 90) _ rfl
      have hB12 := hb1.trans (hb2.mono hb1.size)
      have H12 := hide (And.intro hb1 (And.intro hB12 hx2))
      have d0 := cell_of_row (w1.alloc (.cells #[.int .i64 level, .slice (some ⟨b, off + k * 2, none⟩) n (cap - k)] 90)) w1.heap.size 0 _ _ _ hx2
      have d1 := cell_of_row (w1.alloc (.cells #[.int .i64 level, .slice (some ⟨b, off + k * 2, none⟩) n (cap - k)] 90)) w1.heap.size 1 _ _ _ hx2
      simp only [List.getElem?_toArray, List.getElem?_cons_zero, List.getElem?_cons_succ] at d0 d1
      have hT2 := HI.out.2.2.2.2.1.keep (HK.out.2.2.2.1.b.trans (hB12.mono hBr)) h0
      have hl2' := (HL.out.1.keep hB12).up hB12.size
      generalize hw2 : w1.alloc (.cells #[.int .i64 level, .slice (some ⟨b, off + k * 2, none⟩) n (cap - k)] 90) = w2 at *
      have hfan := fan_any w2 (level, ks) _ hl2' hT2
      rw [HK.out.2.2.2.2.2.2.2] at hfan
      unfold made at hfan
      simp only [if_true] at hfan
      rw [objV_def] at hfan
      obtain ⟨fb, hfb⟩ : ∃ fb, fb = fanB (level, ks) := ⟨_, rfl⟩
      rw [← hfb] at hfan
      obtain ⟨sc, hsc⟩ : ∃ sc, sc = sha (70 :: fb) := ⟨_, rfl⟩
      rw [← hsc] at hfan
      have HSC := hide (And.intro hsc hfb)
      clear hb1 hb2 hx2 hB12 hT2 hl2' hsc hfb
      have hnc : (n : Int) ≤ ((cap - k : Nat) : Int) := by omega
      go_wp2_with fail
      try rw [hw2]
      refine hfan.mono ?_
      rintro e w3 ⟨rfl, hb3⟩
      clear hfan
      have hw4 : Below w3.heap.size w3 (w3.alloc (.cells #[.string (strB sc), .string (strB (70 :: fb))] 57)) := (Below.refl _ _).alloc (Nat.le_refl _) _
      have hx4 := heap_last w3 (.cells #[.string (strB sc), .string (strB (70 :: fb))] 57) _ rfl
      have hB24 := hb3.trans (hw4.mono hb3.size)
      have hy4 := (hB24.block _ (lt_of_heap H12.out.2.2)).trans H12.out.2.2
      have hB4 := H12.out.2.1.trans (hB24.mono H12.out.2.1.size)
      generalize hw4e : w3.alloc (.cells #[.string (strB sc), .string (strB (70 :: fb))] 57) = w4 at *
      have x0 := cell_of_row w4 w3.heap.size 0 _ _ _ hx4
      have x1 := cell_of_row w4 w3.heap.size 1 _ _ _ hx4
      have y1 := cell_of_row w4 w1.heap.size 1 _ _ _ hy4
      simp only [List.getElem?_toArray, List.getElem?_cons_zero, List.getElem?_cons_succ] at x0 x1 y1
      have hB4d : Below wr.heap.size wr w4.drew := hB4.drew
      have hso := sizeOf_any w4.drew _ ks ((HL.out.1.keep hB4d).up hB4d.size) (fun p hp => HI.out.2.2.1 p (HK.out.2.2.2.2.2.1 p hp)) HK.out.2.2.2.2.2.2.1
      obtain ⟨z, hz⟩ : ∃ z, z = sizeP ks := ⟨_, rfl⟩
      rw [← hz] at hso
      have HZ := hide hz
      have hw3 : wr.heap.size ≤ w3.heap.size := by have := H12.out.2.1.size; have := hb3.size; omega
      have H4 := hide (And.intro hB4d (And.intro hx4 hy4))
      clear hw4 hx4 hB24 hy4 hB4 hb3 hB4d hz
      go_wp2_with fail
      refine wp_region_held_drew (S := fun W => W.cell? ⟨w3.heap.size, 0, none⟩ = some (.string (strB sc)) ∧ W.cell? ⟨w3.heap.size, 1, none⟩ = some (.string (strB (70 :: fb))) ∧ W.cell? ⟨w1.heap.size, 1, none⟩ = some (.slice (some ⟨b, off + k * 2, none⟩) n (cap - k))) (by kernel_rfl) (⟨x0, x1, y1⟩) (fun hHeld => ?_)
      refine takeJ 0 (v := ?_) ?_ hHeld ?_
      rotate_left
      · rintro w ⟨_, _, _⟩; go_simp; try with_reducible rfl
      refine takeJ 1 (v := ?_) ?_ hHeld ?_
      rotate_left
      · rintro w ⟨_, _, _⟩; go_simp; try with_reducible rfl
      refine takeJ 2 (v := ?_) ?_ hHeld ?_
      rotate_left
      · rintro w ⟨_, _, _⟩; go_simp; try with_reducible rfl
      refine takeJ 3 (v := ?_) ?_ hHeld ?_
      rotate_left
      · rintro w ⟨_, _, _⟩; go_simp; try with_reducible rfl
      refine takeJ 4 (v := ?_) ?_ hHeld ?_
      rotate_left
      · rintro w ⟨_, _, _⟩; go_simp; try with_reducible rfl
      refine onlyH (i := 5) rfl (by kernel_rfl) rfl (fun K hK => ?_)
      go_simp
      refine hso.mono ?_
      rintro e w5 ⟨rfl, hb5⟩
      clear hso
      have hx5 := (hb5.block _ (lt_of_heap H4.out.2.1)).trans H4.out.2.1
      have hy5 := (hb5.block _ (lt_of_heap H4.out.2.2)).trans H4.out.2.2
      have hB5 : Below wr.heap.size wr w5 := H4.out.1.trans (hb5.mono H4.out.1.size)
      have a0 := cell_of_row w5 w3.heap.size 0 _ _ _ hx5
      have a1 := cell_of_row w5 w3.heap.size 1 _ _ _ hx5
      have a2 := cell_of_row w5 w1.heap.size 1 _ _ _ hy5
      simp only [List.getElem?_toArray, List.getElem?_cons_zero, List.getElem?_cons_succ] at a0 a1 a2
      have hBd5 := HK.out.2.2.1.keep hB5
      have hlay := lay2_any B w5 g _ (sc, 70 :: fb) z hBd5 (by have := layF_le level done os; have := groups_half ps; have := congrArg List.length HK.out.1; rw [List.length_append] at this; have := HM.out; omega) w3.heap.size _ hx5 (fun vo mv hvo q hq => by
        obtain ⟨-, vo', mb', g1, g2, -⟩ := HK.out.2.2.1
        have g3 := (hB5.block _ (lt_of_heap g1)).trans g1
        rw [hvo] at g3
        injection g3 with g3
        injection g3 with g3 g4
        simp only [Array.mk.injEq, List.cons.injEq] at g3
        rw [g3.1] at hq
        have := (g2.lt q hq).2
        omega)
      have hrow5 := own_below HK.out.2.1 hB5
      have hM5 := HK.out.2.2.2.1.more hB5 hBr
      have H5 := hide (And.intro hrow5 (And.intro hM5 hy5))
      clear hb5 hx5 hy5 hB5 hBd5 hrow5 hM5
      refine hK.out _ _ (⟨a0, a1, a2⟩) (fun hHeld => ?_)
      clear hK K
      try simp only [Act.put, List.setIfInBounds_toArray, List.set_cons_zero, List.set_cons_succ]
      refine onlyH (i := 6) rfl (by kernel_rfl) rfl (fun K hK => ?_)
      go_simp
      refine hlay.mono ?_
      rintro e w6 ⟨rfl, hBd6, hM6, hx6⟩
      clear hlay
      have hy6 := hM6.k _ _ _ _ H5.out.2.2 (by decide) (by simp)
      have hrow6 := hM6.own0 H5.out.1 (by decide)
      have hM6' := H5.out.2.1.trans hM6 (Nx.refl _ _)
      have hB6 : w.heap.size ≤ w6.heap.size := hM6'.size
      obtain ⟨vn, w7, hrun7, hrow7, hgr7, -⟩ := app_part w6 w.heap.size _ _ (sc, z) hrow6 hB6 (by have := groups_half ps; have := congrArg List.length HK.out.1; rw [List.length_append] at this; have := HM.out; rw [List.length_map]; omega)
      have hrowA := World.ownsRow.alloc hrow6 (.cells #[.string (strB sc), .int .i64 z] 25)
      have hxA := (heap_past w6 (.cells #[.string (strB sc), .int .i64 z] 25) _ (lt_of_heap hx6)).trans hx6
      have hyA := (heap_past w6 (.cells #[.string (strB sc), .int .i64 z] 25) _ (lt_of_heap hy6)).trans hy6
      have hx7 := grow_keep hrowA hgr7 hxA (by decide)
      have hy7 := grow_keep hrowA hgr7 hyA (by decide)
      have cx : ∀ W : World, W.heap[w3.heap.size]? = some (.cells #[.string (strB sc), .string (strB (70 :: fb))] 57) → W.heap[w1.heap.size]? = some (.cells #[.int .i64 level, .slice (some ⟨b, off + k * 2, none⟩) n (cap - k)] 90) → W.cell? ⟨w3.heap.size, 0, none⟩ = some (.string (strB sc)) ∧ W.cell? ⟨w3.heap.size, 1, none⟩ = some (.string (strB (70 :: fb))) ∧ W.cell? ⟨w1.heap.size, 1, none⟩ = some (.slice (some ⟨b, off + k * 2, none⟩) n (cap - k)) := fun W hW hV => by
        have e0 := cell_of_row W w3.heap.size 0 _ _ _ hW
        have e1 := cell_of_row W w3.heap.size 1 _ _ _ hW
        have e2 := cell_of_row W w1.heap.size 1 _ _ _ hV
        simp only [List.getElem?_toArray, List.getElem?_cons_zero, List.getElem?_cons_succ] at e0 e1 e2
        exact ⟨e0, e1, e2⟩
      have X6 := hide (cx _ hx6 hy6)
      have XA := hide (cx _ hxA hyA)
      have X7 := hide (cx _ hx7 hy7)
      have hBd7 : BdW B w7 g (layP (layF level os done) (sc, 70 :: fb)) := by
        obtain ⟨hg, vo, mb, g1, g2, g3, g4⟩ := hBd6
        have hb : Below w6.heap.size w6 (w6.alloc (.cells #[.string (strB sc), .int .i64 z] 25)) := (Below.refl _ _).alloc (Nat.le_refl _) _
        have g1' := (hb.block _ (lt_of_heap g1)).trans g1
        have g2' : Rw B (w6.alloc (.cells #[.string (strB sc), .int .i64 z] 25)) 57 2 pairC vo _ := World.ownsRow.alloc g2 _
        have g3' := g3.same (hb.block _ g3.lt)
        refine ⟨hg, vo, mb, grow_keep hrowA hgr7 g1' (by decide), grow_other g2' hrowA hgr7 (own_ne g2' hrowA (by decide)), g3'.same (hgr7.block mb g3'.lt (fun hq => ?_)), g4⟩
        obtain ⟨c', fz, h1⟩ := Lib.ownsRow_kind hrowA mb hq.symm
        exact absurd rfl (g3'.ne h1)
      have hM7 : Mv B bts none w w7 := by
        refine ⟨(hM6'.b.alloc (by omega) _).trans ((Below.refl _ _).grown hgr7 (by simp; omega) (fun q hq => by have := (hrowA.lt q hq).1; omega)), fun k cs t fr' hk ht hr => ?_⟩
        have hk5 := hM6'.k k cs t fr' hk ht hr
        have hkA := (heap_past w6 (.cells #[.string (strB sc), .int .i64 z] 25) k (lt_of_heap hk5)).trans hk5
        refine (hgr7.block k (lt_of_heap hkA) (fun hq => ?_)).trans hkA
        have h1 := (hrowA.lt k hq.symm).1
        have h2 := lt_of_heap hk
        omega
      have HRUN := hide hrun7
      have H7 := hide (And.intro hrow7 (And.intro hBd7 hM7))
      clear hBd6 hM6 hx6 hy6 hrow6 hM6' hrun7 hrow7 hgr7 hrowA hxA hyA hx7 hy7 cx hBd7 hM7
      refine hK.out _ _ (X6.out) (fun hHeld => ?_)
      clear hK K
      refine onlyH (i := 7) rfl (by kernel_rfl) rfl (fun K hK => ?_)
      go_simp
      refine hK.out _ _ (XA.out) (fun hHeld => ?_)
      clear hK K
      try simp only [Act.put, List.setIfInBounds_toArray, List.set_cons_zero, List.set_cons_succ]
      refine onlyH (i := 8) rfl (by kernel_rfl) rfl (fun K hK => ?_)
      refine wp_append_run (.tmp 27) (.tmp 34) 38 rfl rfl rfl HRUN.out ?_
      refine hK.out _ _ (X7.out) (fun hHeld => ?_)
      clear hK K
      try simp only [Act.put, List.setIfInBounds_toArray, List.set_cons_zero, List.set_cons_succ]
      refine takeJ 9 (v := ?_) ?_ hHeld ?_
      rotate_left
      · rintro w ⟨_, _, _⟩; go_simp; try with_reducible rfl
      refine wpAnyH_done (by kernel_rfl) ?_ _
      clear hHeld
      obtain ⟨vnA, vnm, vnc, rfl⟩ := row_form H7.out.1
      have hnm : (n : Int) ≤ ((m - k : Nat) : Int) := by omega
      go_wp2
      go_roundw
      case rel =>
        refine ⟨k + n, done ++ [ks], if cap - k = n then some ⟨b, off + k * 2, none⟩ else some ⟨b, off + k * 2 + n * 2, none⟩, by omega, ?_, ?_, ?_, ?_, ?_, H7.out.2.2⟩
        · congr 1
          · omega
          · omega
        · intro hkn
          rw [if_neg (by omega), Nat.add_mul, Nat.add_assoc]
        · rw [HK.out.1, HK.out.2.2.2.2.1, List.append_assoc]; rfl
        · rw [List.map_append]
          have : [ks].map (fanP level) = [(sc, z)] := by unfold fanP fanO; rw [HSC.out.1, HSC.out.2, HZ.out]; rfl
          rw [this]
          exact H7.out.1
        · rw [layF_snoc]
          have : fanO level ks = (sc, 70 :: fb) := by unfold fanO; rw [HSC.out.1, HSC.out.2]
          rw [this]
          exact H7.out.2.1
      case measure => simp [sliceLen]; omega
    · obtain rfl : k = m := by omega
      rw [show ps.drop k = [] from List.drop_eq_nil_of_le (by rw [← HM.out]; exact Nat.le_refl _), groups_nil, List.append_nil] at hgs
      have HK := hide (And.intro hgs (And.intro hrow (And.intro hBd hMr)))
      obtain ⟨ua, um, uc, rfl⟩ := row_form hrow
      clear hgs hrow hBd hMr hak
      have hkk : ((k - k : Nat) : Int) = 0 := by omega
      go_wp2
      go_ret
      rw [HK.out.1]
      exact ⟨_, rfl, HK.out.2.1, HK.out.2.2.1, HK.out.2.2.2⟩
end Go.Proofs.YtokebnkgjchfaaaGreatDoor
