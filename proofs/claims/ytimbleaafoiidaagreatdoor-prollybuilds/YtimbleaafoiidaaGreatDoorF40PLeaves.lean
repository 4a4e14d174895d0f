/-
  Texts joined: PLeaves, PBranches, PKept.
-/
import Derived.Test.YtimbleaafoiidaaGreatDoorF32PLay
import Derived.Test.YtimbleaafoiidaaGreatDoorF23PRow
import Derived.Laws.MakeOwn
/-
  The leaves laid, by the program. Conditions: the pairs lie there and are right; the table holds its numbers.
-/
namespace Go.Proofs.YtimbleaafoiidaaGreatDoor
open Go.RowKit

theorem leaf_key {l : List Pair} (h : pairsOk l = true) : ∀ p ∈ l, p.1.length ≤ 64 := by
  intro p hp
  unfold pairsOk at h
  simp only [Bool.and_eq_true, List.all_eq_true] at h
  have := h.1 p hp
  unfold pairOk isKeyB at this
  simp at this
  omega
theorem keptP_snoc (os raw : List Pair) (o : Pair) : keptP os (raw ++ [o]) = layP (keptP os raw) o := by
  rw [keptP_append]
  rfl
/-- How long is a slice? -/
def sliceLen : Value → Nat
  | .slice _ n _ => n
  | _ => 0
set_option maxRecDepth 40000 in
set_option maxHeartbeats 1600000 in
theorem layLeaves_any (B : Nat) (w : World) (g : Nat) (os : List Pair) (l : List Pair) (v : Value) (h : BdW B w g os) (hv : ∀ W, Mv B bts none w W → Ls W.heap.size W 2 pairC v l) (hok : pairsOk l = true) (hll : l.length ≤ 4096) (hT : TabW w) (h0 : 0 < B) (hne : l ≠ []) (hn : os.length ≤ 1000000) :
    Calls Tryz.prog 49 #[.pointer (some ⟨g, 0, none⟩), v] w fun e w' => ∃ u, e = .returned u ∧ Rw w.heap.size w' 66 3 linkC u ((leafG l).map leafK) ∧ BdW B w' g (keptP os ((leafG l).map leafO)) ∧ Mv B bts none w w' := by
  have hB : B ≤ w.heap.size := by
    obtain ⟨hg, vo, mb, hh, -⟩ := h
    have := lt_of_heap hh
    omega
  obtain ⟨ao, cap, hvv, hcap, hcap2, hne2⟩ := hv w (Mv.refl _ _ _ _)
  subst hvv
  obtain ⟨b, off, rfl, -, -⟩ := hne2 hne
  unfold maxLen at hcap2
  have hpos : 1 ≤ l.length := by cases l with | nil => exact absurd rfl hne | cons _ _ => simp
  have HI := hide (And.intro hv (And.intro hok (And.intro hT h)))
  obtain ⟨m, hm⟩ : ∃ m, m = l.length := ⟨_, rfl⟩
  rw [← hm] at hcap hpos hll
  rw [← hm]
  have HM := hide hm
  have hz0 : ((m : Int) == 0) = false := by simp; omega
  clear hm hok hT h hv hne2
  go_enter Tryz.func49, Tryz.ntmps49
  go_wp2_with fail
  go_loopw [1, 5] (fun t u wr => ∃ (q : Nat) (done : List (List Pair)) (ak : Option Addr), q ≤ m ∧ t = .slice ak (m - q) (cap - q) ∧ (q < m → ak = some ⟨b, off + q * 2, none⟩) ∧ done.length ≤ q ∧ leafG l = done ++ leafG (l.drop q) ∧ Rw w.heap.size wr 66 3 linkC u (done.map leafK) ∧ BdW B wr g (keptP os (done.map leafO)) ∧ Mv B bts none w wr)
    (fun t _ _ => sliceLen t)
  case atStart => exact ⟨0, [], some ⟨b, off, none⟩, by omega, by simp, fun _ => by simp, by simp, by simp, World.ownsRow_nil _ _ _ _, HI.out.2.2.2, Mv.refl _ _ _ _⟩
  case round =>
    obtain ⟨q, done, ak, hk, rfl, hak, hdl, hgs, hrow, hBd, hMr⟩ := hrel
    by_cases hlt : q < m
    · obtain rfl := hak hlt
      clear hak
      have hlen : (l.drop q).length = m - q := by rw [List.length_drop, ← HM.out]
      have hdr : l.drop q ≠ [] := fun e => by rw [e] at hlen; simp at hlen; omega
      have hlr : Ls wr.heap.size wr 2 pairC (.slice (some ⟨b, off + q * 2, none⟩) (m - q) (cap - q)) (l.drop q) := by
        have := (HI.out.1 wr hMr).part (a := q) (z := m) hk (by rw [← HM.out]; exact Nat.le_refl _)
        rwa [List.take_of_length_le (by rw [← HM.out]; exact Nat.le_refl _)] at this
      obtain ⟨n, hn0⟩ : ∃ n, n = leafN (l.drop q) := ⟨_, rfl⟩
      have hn1 : 1 ≤ n := by rw [hn0]; exact leafN_pos hdr
      have hn2 : n ≤ m - q := by rw [hn0, ← hlen]; exact leafN_le _
      obtain ⟨ks, hks⟩ : ∃ ks, ks = (l.drop q).take n := ⟨_, rfl⟩
      have hkl : ks.length = n := by rw [hks, List.length_take, hlen]; omega
      have hgd : leafG (l.drop q) = ks :: leafG (l.drop (q + n)) := by rw [leafG_step hdr, ← hn0, ← hks, List.drop_drop]
      have hgr := leaf_group HI.out.2.1 (g := ks) (by rw [hgs, hgd]; simp)
      have hks64 : ks.length ≤ 64 := (leafOk_pairs hgr.2.1).1
      have hsur : ∀ W, Mv B bts none w W → Ls W.heap.size W 2 pairC (.slice (some ⟨b, off + q * 2, none⟩) n (cap - q)) ks := fun W hW => by
        have h3 := (HI.out.1 W hW).part (a := q) (z := q + n) (by omega) (by rw [← HM.out]; omega)
        rwa [show q + n - q = n from by omega, show (l.take (q + n)).drop q = ks from by rw [hks, List.drop_take, show q + n - q = n from by omega]] at h3
      have hBr : B ≤ wr.heap.size := by have := hMr.size; omega
      have hTr := HI.out.2.2.1.keep hMr.b h0
      have hgz := sizeP_any wr 0 _ (l.drop q) hlr hTr (by omega) (fun p hp => by have := (leaf_key HI.out.2.1 p (List.mem_of_mem_drop hp)); omega) hdr
      change Calls _ _ _ _ (fun e w' => e = .returned (.int .i64 ((leafN (l.drop q) : Nat) : Int)) ∧ Below wr.heap.size wr w') at hgz
      rw [← hn0] at hgz
      have hkk : leafK ks = (lastM (0, ks, []), (nodeO (0, ks, [])).1, countM (0, ks, [])) := by
        unfold leafK lastM nodeO countM
        simp [manyL]
      have hoo : leafO ks = nodeO (0, ks, []) := by unfold nodeO; simp
      obtain ⟨kk, hkk0⟩ : ∃ kk, kk = leafK ks := ⟨_, rfl⟩
      obtain ⟨oo, hoo0⟩ : ∃ oo, oo = leafO ks := ⟨_, rfl⟩
      rw [← hkk0] at hkk
      rw [← hoo0] at hoo
      have HK := hide (And.intro hgs (And.intro hrow (And.intro hBd (And.intro hMr hgd))))
      have HKK := hide (And.intro hkk0 hoo0)
      have HG := hide (And.intro hgr hsur)
      have HKO := hide (And.intro hkk hoo)
      have HTR := hide hTr
      clear hgs hrow hBd hMr hgd hlr hlen hdr hn0 hks hkk0 hoo0 hgr hsur hkk hoo hTr
      go_wp2_with fail
      refine hgz.mono ?_
      rintro e w1 ⟨rfl, hb1⟩
      clear hgz
      have hM1 := HK.out.2.2.2.1.more hb1 hBr
      have hBd1 := HK.out.2.2.1.keep hb1
      have hgr := HG.out.1
      have hsur := HG.out.2
      have hB1 : B ≤ w1.heap.size := Nat.le_trans hBr hb1.size
      have hlay := lay12_any B w1 g _ (0, ks, []) (.slice none 0 0) (.slice (some ⟨b, off + q * 2, none⟩) n (cap - q)) hBd1 (by have := keptP_le (done.map leafO) os; rw [List.length_map] at this; omega) (fun W _ => Ls.nil _ _ _ _) (fun W hW => hsur W (hM1.trans hW (Nx.refl _ _))) (HTR.out.keep hb1 HTR.out.1) h0 (fun _ => hgr.2.1) (fun h => absurd rfl h) (by simp) (by simp [manyL]) (by simp only; omega)
      rw [← HKO.out.2] at hlay
      have hl1 : lastM (0, ks, []) = kk.1 := by rw [HKO.out.1]
      have hl2 : oo.1 = kk.2.1 := by rw [HKO.out.1, HKO.out.2]
      have hl3 : countM (0, ks, []) = kk.2.2 := by rw [HKO.out.1]
      rw [hl1, hl2, hl3] at hlay
      have hrow1 := own_below HK.out.2.1 hb1
      have HM1 := hide (And.intro hM1 hrow1)
      clear hl1 hl2 hl3 hgr hsur hBd1 hM1 hrow1 hb1
      have hnc : (n : Int) ≤ ((cap - q : Nat) : Int) := by omega
      go_wp2_with fail
      refine hlay.mono ?_
      rintro e w2 ⟨rfl, hBd2, hM2⟩
      clear hlay
      have hrow2 := hM2.own0 HM1.out.2 (by decide)
      have hMw := HM1.out.1.trans hM2 (Nx.refl _ _)
      have hB2 : w.heap.size ≤ w2.heap.size := hMw.size
      obtain ⟨vn, w3, hrun, hrow3, hgr3, -⟩ := app_link w2 w.heap.size _ _ kk hrow2 hB2 (by rw [List.length_map]; omega)
      have hrowA := World.ownsRow.alloc hrow2 (.cells #[.string (strB kk.1), .string (strB kk.2.1), .int .i64 kk.2.2] 66)
      have hBd3 : BdW B w3 g (layP (keptP os (done.map leafO)) oo) := by
        obtain ⟨hg, vo, mb, g1, g2, g3, g4⟩ := hBd2
        have hb : Below w2.heap.size w2 (w2.alloc (.cells #[.string (strB kk.1), .string (strB kk.2.1), .int .i64 kk.2.2] 66)) := (Below.refl _ _).alloc (Nat.le_refl _) _
        have g1' := (hb.block _ (lt_of_heap g1)).trans g1
        have g2' : Rw B (w2.alloc (.cells #[.string (strB kk.1), .string (strB kk.2.1), .int .i64 kk.2.2] 66)) 69 2 pairC vo _ := World.ownsRow.alloc g2 _
        have g3' := g3.same (hb.block _ g3.lt)
        refine ⟨hg, vo, mb, grow_keep hrowA hgr3 g1' (by decide), grow_other g2' hrowA hgr3 (own_ne g2' hrowA (by decide)), g3'.same (hgr3.block mb g3'.lt (fun hq => ?_)), g4⟩
        obtain ⟨c', fz, h1⟩ := Lib.ownsRow_kind hrowA mb hq.symm
        exact absurd rfl (g3'.ne h1)
      have hM3 : Mv B bts none w w3 := by
        refine ⟨(hMw.b.alloc (by omega) _).trans ((Below.refl _ _).grown hgr3 (by simp; omega) (fun q hq => by have := (hrowA.lt q hq).1; omega)), fun k cs t fr' hk ht hr => ?_⟩
        have hk5 := hMw.k k cs t fr' hk ht hr
        have hkA := (heap_past w2 (.cells #[.string (strB kk.1), .string (strB kk.2.1), .int .i64 kk.2.2] 66) k (lt_of_heap hk5)).trans hk5
        refine (hgr3.block k (lt_of_heap hkA) (fun hq => ?_)).trans hkA
        have h1 := (hrowA.lt k hq.symm).1
        have h2 := lt_of_heap hk
        omega
      have HRUN := hide hrun
      have H7 := hide (And.intro hrow3 (And.intro hBd3 hM3))
      obtain ⟨vnA, vnm, vnc, rfl⟩ := row_form hrow3
      clear hBd2 hM2 hrow2 hMw hrun hrow3 hgr3 hrowA hBd3 hM3
      go_wp2_with (at_builtin; refine wpList_plain rfl (fun K hK => wp_append_run (.tmp 19) (.tmp 26) 72 rfl rfl rfl HRUN.out (hK _ _ ?_)))
      have hnm : (n : Int) ≤ ((m - q : Nat) : Int) := by omega
      go_wp2
      go_roundw
      case rel =>
        refine ⟨q + n, done ++ [ks], if cap - q = n then some ⟨b, off + q * 2, none⟩ else some ⟨b, off + q * 2 + n * 2, none⟩, by omega, ?_, ?_, ?_, ?_, ?_, ?_, H7.out.2.2⟩
        · congr 1
          · omega
          · omega
        · intro hkn
          rw [if_neg (by omega), Nat.add_mul, Nat.add_assoc]
        · simp; omega
        · rw [HK.out.1, HK.out.2.2.2.2, List.append_assoc]; rfl
        · rw [List.map_append]
          have : [ks].map leafK = [kk] := by rw [HKK.out.1]; rfl
          rw [this]
          exact H7.out.1
        · rw [List.map_append]
          have : [ks].map leafO = [oo] := by rw [HKK.out.2]; rfl
          rw [this, keptP_snoc]
          exact H7.out.2.1
      case measure => simp [sliceLen]; omega
    · obtain rfl : q = m := by omega
      rw [show l.drop q = [] from List.drop_eq_nil_of_le (by rw [← HM.out]; exact Nat.le_refl _), leafG_nil, List.append_nil] at hgs
      have HK := hide (And.intro hgs (And.intro hrow (And.intro hBd hMr)))
      obtain ⟨ua, um, uc, rfl⟩ := row_form hrow
      clear hgs hrow hBd hMr hak
      have hkk : ((q - q : Nat) : Int) = 0 := by omega
      go_wp2
      go_ret
      rw [HK.out.1]
      exact ⟨_, rfl, HK.out.2.1, HK.out.2.2.1, HK.out.2.2.2⟩
end Go.Proofs.YtimbleaafoiidaaGreatDoor

/-
  The branches of a level laid, by the program. Conditions: the links lie there and are right; the table holds its numbers.
-/
namespace Go.Proofs.YtimbleaafoiidaaGreatDoor
open Go.RowKit

theorem link_key {k : Link} (h : rlinkOk k = true) : k.1.length ≤ 64 := by
  have := ((rlinkOk_iff k).1 h).1
  unfold isKeyB at this
  simp at this
  omega
set_option maxRecDepth 40000 in
set_option maxHeartbeats 1600000 in
theorem layBranches_any (B : Nat) (w : World) (g : Nat) (os : List Pair) (l : List Link) (v : Value) (h : BdW B w g os) (hv : ∀ W, Mv B bts none w W → Ls W.heap.size W 3 linkC v l) (j : Nat) (lv : Int) (hlv : lv = ((j + 1 : Nat) : Int)) (raw : List Pair) (hj : j < 13) (hok : LevOk j l raw) (hll : l.length ≤ 8192) (hT : TabW w) (h0 : 0 < B) (hne : l ≠ []) (hn : os.length ≤ 1000000) :
    Calls Tryz.prog 50 #[.pointer (some ⟨g, 0, none⟩), .int .i64 lv, v] w fun e w' => ∃ u, e = .returned u ∧ Rw w.heap.size w' 66 3 linkC u ((brG (j + 1) l).map (brK lv)) ∧ BdW B w' g (keptP os ((brG (j + 1) l).map (brO lv))) ∧ Mv B bts none w w' := by
  have hB : B ≤ w.heap.size := by
    obtain ⟨hg, vo, mb, hh, -⟩ := h
    have := lt_of_heap hh
    omega
  have HLV := hide hlv
  clear hlv
  obtain ⟨ao, cap, hvv, hcap, hcap2, hne2⟩ := hv w (Mv.refl _ _ _ _)
  subst hvv
  obtain ⟨b, off, rfl, -, -⟩ := hne2 hne
  unfold maxLen at hcap2
  have hpos : 1 ≤ l.length := by cases l with | nil => exact absurd rfl hne | cons _ _ => simp
  have HI := hide (And.intro hv (And.intro hok (And.intro hT h)))
  obtain ⟨m, hm⟩ : ∃ m, m = l.length := ⟨_, rfl⟩
  rw [← hm] at hcap hpos hll
  rw [← hm]
  have HM := hide hm
  clear hm hok hT h hv hne2
  go_enter Tryz.func50, Tryz.ntmps50
  go_wp2_with fail
  go_loopw [2, 7] (fun t u wr => ∃ (q : Nat) (done : List (List Link)) (ak : Option Addr), q ≤ m ∧ t = .slice ak (m - q) (cap - q) ∧ (q < m → ak = some ⟨b, off + q * 3, none⟩) ∧ done.length ≤ q ∧ brG (j + 1) l = done ++ brG (j + 1) (l.drop q) ∧ Rw w.heap.size wr 66 3 linkC u (done.map (brK lv)) ∧ BdW B wr g (keptP os (done.map (brO lv))) ∧ Mv B bts none w wr)
    (fun t _ _ => sliceLen t)
  case atStart => exact ⟨0, [], some ⟨b, off, none⟩, by omega, by simp, fun _ => by simp, by simp, by simp, World.ownsRow_nil _ _ _ _, HI.out.2.2.2, Mv.refl _ _ _ _⟩
  case round =>
    obtain ⟨q, done, ak, hk, rfl, hak, hdl, hgs, hrow, hBd, hMr⟩ := hrel
    by_cases hlt : q < m
    · obtain rfl := hak hlt
      clear hak
      have hlen : (l.drop q).length = m - q := by rw [List.length_drop, ← HM.out]
      have hdr : l.drop q ≠ [] := fun e => by rw [e] at hlen; simp at hlen; omega
      have hlr : Ls wr.heap.size wr 3 linkC (.slice (some ⟨b, off + q * 3, none⟩) (m - q) (cap - q)) (l.drop q) := by
        have := (HI.out.1 wr hMr).part (a := q) (z := m) hk (by rw [← HM.out]; exact Nat.le_refl _)
        rwa [List.take_of_length_le (by rw [← HM.out]; exact Nat.le_refl _)] at this
      obtain ⟨n, hn0⟩ : ∃ n, n = brN (j + 1) (l.drop q) := ⟨_, rfl⟩
      have hn1 : 1 ≤ n := by rw [hn0]; exact brN_pos hdr
      have hn2 : n ≤ m - q := by rw [hn0, ← hlen]; exact brN_le (j + 1) _
      obtain ⟨ks, hks⟩ : ∃ ks, ks = (l.drop q).take n := ⟨_, rfl⟩
      have hkl : ks.length = n := by rw [hks, List.length_take, hlen]; omega
      have hgd : brG (j + 1) (l.drop q) = ks :: brG (j + 1) (l.drop (q + n)) := by rw [brG_step hdr, ← hn0, ← hks, List.drop_drop]
      have hgr := HI.out.2.1.group (g := ks) (level := j + 1) (by rw [hgs, hgd]; simp)
      have hks64 : ks.length ≤ 64 := hgr.2.1
      have hsur : ∀ W, Mv B bts none w W → Ls W.heap.size W 3 linkC (.slice (some ⟨b, off + q * 3, none⟩) n (cap - q)) ks := fun W hW => by
        have h3 := (HI.out.1 W hW).part (a := q) (z := q + n) (by omega) (by rw [← HM.out]; omega)
        rwa [show q + n - q = n from by omega, show (l.take (q + n)).drop q = ks from by rw [hks, List.drop_take, show q + n - q = n from by omega]] at h3
      have hBr : B ≤ wr.heap.size := by have := hMr.size; omega
      have hTr := HI.out.2.2.1.keep hMr.b h0
      have hgz := sizeL_any wr (j + 1) _ (l.drop q) hlr hTr (by omega) (fun p hp => by have := link_key (HI.out.2.1.each p (List.mem_of_mem_drop hp)); omega) hdr
      change Calls _ _ _ _ (fun e w' => e = .returned (.int .i64 ((brN (j + 1) (l.drop q) : Nat) : Int)) ∧ Below wr.heap.size wr w') at hgz
      rw [← hn0] at hgz
      rw [← HLV.out] at hgz
      have hkk : brK lv ks = (lastM (lv, [], ks), (nodeO (lv, [], ks)).1, countM (lv, [], ks)) := by
        unfold brK lastM nodeO countM
        rw [if_neg (show ¬ (lv, ([] : List Pair), ks).2.2.length = 0 by simp only; omega), if_neg (show ¬ (lv, ([] : List Pair), ks).1 = 0 by have := HLV.out; simp only; omega)]
        simp
      have hoo : brO lv ks = nodeO (lv, [], ks) := by
        unfold nodeO
        rw [if_neg (show ¬ (lv, ([] : List Pair), ks).1 = 0 by have := HLV.out; simp only; omega)]
      obtain ⟨kk, hkk0⟩ : ∃ kk, kk = (brK lv) ks := ⟨_, rfl⟩
      obtain ⟨oo, hoo0⟩ : ∃ oo, oo = (brO lv) ks := ⟨_, rfl⟩
      rw [← hkk0] at hkk
      rw [← hoo0] at hoo
      have HK := hide (And.intro hgs (And.intro hrow (And.intro hBd (And.intro hMr hgd))))
      have HKK := hide (And.intro hkk0 hoo0)
      have HG := hide (And.intro hgr hsur)
      have HKO := hide (And.intro hkk hoo)
      have HTR := hide hTr
      clear hgs hrow hBd hMr hgd hlr hlen hdr hn0 hks hkk0 hoo0 hgr hsur hkk hoo hTr
      go_wp2_with fail
      refine hgz.mono ?_
      rintro e w1 ⟨rfl, hb1⟩
      clear hgz
      have hM1 := HK.out.2.2.2.1.more hb1 hBr
      have hBd1 := HK.out.2.2.1.keep hb1
      have hgr := HG.out.1
      have hsur := HG.out.2
      have hB1 : B ≤ w1.heap.size := Nat.le_trans hBr hb1.size
      have hlay := lay12_any B w1 g _ (lv, [], ks) (.slice (some ⟨b, off + q * 3, none⟩) n (cap - q)) (.slice none 0 0) hBd1 (by have := keptP_le (done.map (brO lv)) os; rw [List.length_map] at this; omega) (fun W hW => hsur W (hM1.trans hW (Nx.refl _ _))) (fun W _ => Ls.nil _ _ _ _) (HTR.out.keep hb1 HTR.out.1) h0 (fun h => by have := HLV.out; simp only at h; omega) (fun _ => branchOk_of (by have := HLV.out; omega) (by have := HLV.out; omega) hgr.1 hgr.2.1 hgr.2.2.1 hgr.2.2.2.1 hgr.2.2.2.2.1) hgr.2.2.1 hgr.2.2.2.2.1 (by simp)
      rw [← HKO.out.2] at hlay
      have hl1 : lastM (lv, [], ks) = kk.1 := by rw [HKO.out.1]
      have hl2 : oo.1 = kk.2.1 := by rw [HKO.out.1, HKO.out.2]
      have hl3 : countM (lv, [], ks) = kk.2.2 := by rw [HKO.out.1]
      rw [hl1, hl2, hl3] at hlay
      have hrow1 := own_below HK.out.2.1 hb1
      have HM1 := hide (And.intro hM1 hrow1)
      clear hl1 hl2 hl3 hgr hsur hBd1 hM1 hrow1 hb1
      have hnc : (n : Int) ≤ ((cap - q : Nat) : Int) := by omega
      go_wp2_with fail
      refine hlay.mono ?_
      rintro e w2 ⟨rfl, hBd2, hM2⟩
      clear hlay
      have hrow2 := hM2.own0 HM1.out.2 (by decide)
      have hMw := HM1.out.1.trans hM2 (Nx.refl _ _)
      have hB2 : w.heap.size ≤ w2.heap.size := hMw.size
      obtain ⟨vn, w3, hrun, hrow3, hgr3, -⟩ := app_link w2 w.heap.size _ _ kk hrow2 hB2 (by rw [List.length_map]; omega)
      have hrowA := World.ownsRow.alloc hrow2 (.cells #[.string (strB kk.1), .string (strB kk.2.1), .int .i64 kk.2.2] 66)
      have hBd3 : BdW B w3 g (layP (keptP os (done.map (brO lv))) oo) := by
        obtain ⟨hg, vo, mb, g1, g2, g3, g4⟩ := hBd2
        have hb : Below w2.heap.size w2 (w2.alloc (.cells #[.string (strB kk.1), .string (strB kk.2.1), .int .i64 kk.2.2] 66)) := (Below.refl _ _).alloc (Nat.le_refl _) _
        have g1' := (hb.block _ (lt_of_heap g1)).trans g1
        have g2' : Rw B (w2.alloc (.cells #[.string (strB kk.1), .string (strB kk.2.1), .int .i64 kk.2.2] 66)) 69 2 pairC vo _ := World.ownsRow.alloc g2 _
        have g3' := g3.same (hb.block _ g3.lt)
        refine ⟨hg, vo, mb, grow_keep hrowA hgr3 g1' (by decide), grow_other g2' hrowA hgr3 (own_ne g2' hrowA (by decide)), g3'.same (hgr3.block mb g3'.lt (fun hq => ?_)), g4⟩
        obtain ⟨c', fz, h1⟩ := Lib.ownsRow_kind hrowA mb hq.symm
        exact absurd rfl (g3'.ne h1)
      have hM3 : Mv B bts none w w3 := by
        refine ⟨(hMw.b.alloc (by omega) _).trans ((Below.refl _ _).grown hgr3 (by simp; omega) (fun q hq => by have := (hrowA.lt q hq).1; omega)), fun k cs t fr' hk ht hr => ?_⟩
        have hk5 := hMw.k k cs t fr' hk ht hr
        have hkA := (heap_past w2 (.cells #[.string (strB kk.1), .string (strB kk.2.1), .int .i64 kk.2.2] 66) k (lt_of_heap hk5)).trans hk5
        refine (hgr3.block k (lt_of_heap hkA) (fun hq => ?_)).trans hkA
        have h1 := (hrowA.lt k hq.symm).1
        have h2 := lt_of_heap hk
        omega
      have HRUN := hide hrun
      have H7 := hide (And.intro hrow3 (And.intro hBd3 hM3))
      obtain ⟨vnA, vnm, vnc, rfl⟩ := row_form hrow3
      clear hBd2 hM2 hrow2 hMw hrun hrow3 hgr3 hrowA hBd3 hM3
      go_wp2_with (at_builtin; refine wpList_plain rfl (fun K hK => wp_append_run (.tmp 15) (.tmp 24) 72 rfl rfl rfl HRUN.out (hK _ _ ?_)))
      have hnm : (n : Int) ≤ ((m - q : Nat) : Int) := by omega
      go_wp2
      go_roundw
      case rel =>
        refine ⟨q + n, done ++ [ks], if cap - q = n then some ⟨b, off + q * 3, none⟩ else some ⟨b, off + q * 3 + n * 3, none⟩, by omega, ?_, ?_, ?_, ?_, ?_, ?_, H7.out.2.2⟩
        · congr 1
          · omega
          · omega
        · intro hkn
          rw [if_neg (by omega), Nat.add_mul, Nat.add_assoc]
        · simp; omega
        · rw [HK.out.1, HK.out.2.2.2.2, List.append_assoc]; rfl
        · rw [List.map_append]
          have : [ks].map (brK lv) = [kk] := by rw [HKK.out.1]; rfl
          rw [this]
          exact H7.out.1
        · rw [List.map_append]
          have : [ks].map (brO lv) = [oo] := by rw [HKK.out.2]; rfl
          rw [this, keptP_snoc]
          exact H7.out.2.1
      case measure => simp [sliceLen]; omega
    · obtain rfl : q = m := by omega
      rw [show l.drop q = [] from List.drop_eq_nil_of_le (by rw [← HM.out]; exact Nat.le_refl _), brG_nil, List.append_nil] at hgs
      have HK := hide (And.intro hgs (And.intro hrow (And.intro hBd hMr)))
      obtain ⟨ua, um, uc, rfl⟩ := row_form hrow
      clear hgs hrow hBd hMr hak
      have hkk : ((q - q : Nat) : Int) = 0 := by omega
      go_wp2
      go_ret
      rw [HK.out.1]
      exact ⟨_, rfl, HK.out.2.1, HK.out.2.2.1, HK.out.2.2.2⟩
end Go.Proofs.YtimbleaafoiidaaGreatDoor

/-
  Objects, each id once, by the reference. Conditions: they lie there, not too many.
-/
namespace Go.Proofs.YtimbleaafoiidaaGreatDoor
open Go.RowKit

theorem app_nil_obj (W : World) (a : Addr) (n c : Nat) (hnc : n ≤ c) : (Builtin.append_ #[25, 25] 25 #[.slice (some a) n c, .slice none 0 0]).run Tryz.prog W = .ok (.slice (some a) n c) W := by
  obtain ⟨i0, hi0, hz0, hz1, hz2⟩ := info_parts Tryz.zObj
  simp [Builtin.append_, run_underlying Tryz.underlying25, sizeOf, typeInfo, zeroValue, hi0, Builtin.lenOf, run_firstCells_none, hnc, storeCells, Result.andThen]
theorem any_take_step (os : List Pair) (id : Bs) (k : Nat) (h : k < os.length) : (os.take (k + 1)).any (fun o => o.1 == id) = ((os.take k).any (fun o => o.1 == id) || os[k].1 == id) := by
  rw [List.take_succ_eq_append_getElem h, List.any_append]
  simp
set_option maxRecDepth 40000 in
set_option maxHeartbeats 1600000 in
theorem kept_any (w : World) (raw : List Pair) (v : Value) (hv : Ls w.heap.size w 2 pairC v raw) (hn : raw.length ≤ 1000000) :
    Calls Tryz.prog 32 #[.slice none 0 0, v] w fun e w' => ∃ u, e = .returned u ∧ Rw w.heap.size w' 69 2 pairC u (keptP [] raw) ∧ Below w.heap.size w w' := by
  obtain ⟨i0, hi0, hz0, hz1, hz2⟩ := info_parts Tryz.zObj
  obtain ⟨ao, cap, rfl, hcap, hcap2, h4⟩ := hv
  unfold maxLen at hcap2
  obtain ⟨m, hm⟩ : ∃ m, m = raw.length := ⟨_, rfl⟩
  rw [← hm] at hcap hn ⊢
  obtain ⟨w1, hmk, hown1, hgr1⟩ := run_make_own (P := Tryz.prog) w w.heap.size 25 69 i0 _ 2 Tryz.underlying25 hi0 hz0 hz1 .i64 .i64 m (by rw [hz2]; omega) (by unfold maxLen; omega) (Nat.le_refl _)
  have hb1 : Below w.heap.size w w1 := (Below.refl _ w).grown hgr1 (Nat.le_refl _) (by intro k hk; cases hk)
  have R1 := hide (app_nil_obj w1 ⟨w.heap.size, 0, none⟩ 0 m (Nat.zero_le _))
  have HM := hide hm
  have H1 := hide (And.intro hown1 hb1)
  clear hm hown1 hb1 hgr1 hi0 hz0 hz1 hz2
  go_enter Tryz.func32, Tryz.ntmps32
  go_wp2_with (at_builtin; refine wpList_plain rfl (fun K hK => wp_append_run (.tmp 14) (.tmp 15) 25 rfl rfl rfl R1.out (hK _ _ ?_)))
  go_loopw [5, 6] (fun t u wr => ∃ i : Nat, i ≤ m ∧ u = .int .i64 i ∧ Rw w.heap.size wr 69 2 pairC t (keptP [] (raw.take i)) ∧ Below w.heap.size w wr)
    (fun _ u _ => m - (intOf u).toNat)
  case atStart => exact ⟨0, by omega, rfl, H1.out.1, H1.out.2⟩
  case round =>
    obtain ⟨i, him, rfl, hrow, hbw⟩ := hrel
    obtain ⟨os, hos⟩ : ∃ os, os = keptP [] (raw.take i) := ⟨_, rfl⟩
    have hosl : os.length ≤ 1000000 := by have := keptP_le (raw.take i) []; rw [hos]; simp at this; omega
    rw [← hos] at hrow
    obtain ⟨oa, oc, hov, ho1, ho2⟩ := own_form hrow
    obtain ⟨n, hn2⟩ : ∃ n, n = os.length := ⟨_, rfl⟩
    rw [← hn2] at hov ho1 hosl
    subst hov
    by_cases hlt : i < m
    · have hlt2 : i < raw.length := by have := HM.out; omega
      obtain ⟨b, off, rfl, hbB, hcell⟩ := h4 (by rintro rfl; simp at hlt2)
      have hstep := keptP_step [] raw i hlt2
      rw [← hos] at hstep
      have k0 : ∀ W, Below w.heap.size w W → W.cell? ⟨b, off + i * 2, none⟩ = some (.string (strB raw[i].1)) := fun W hW => (hW.cell (p := ⟨b, off + i * 2 + 0, none⟩) hbB).trans (hcell i hlt2 0 _ rfl)
      have k1 : ∀ W, Below w.heap.size w W → W.cell? ⟨b, off + i * 2 + 1, none⟩ = some (.string (strB raw[i].2)) := fun W hW => (hW.cell (p := ⟨b, off + i * 2 + 1, none⟩) hbB).trans (hcell i hlt2 1 _ rfl)
      generalize raw[i] = x at *
      have HS := hide (And.intro hrow (And.intro hbw (And.intro hstep hn2)))
      have HK := hide (And.intro k0 k1)
      have hx := toL x.1
      clear hrow hbw hstep hn2 k0 k1 hos h4 hcell
      obtain ⟨wo, rfl⟩ : ∃ wo, wo = wr := ⟨wr, rfl⟩
      go_wp2_with fail
      go_loopw [7, 8] (fun t u wi => ∃ k : Nat, k ≤ n ∧ u = .int .i64 k ∧ t = .bool ((os.take k).any (fun o => o.1 == x.1)) ∧ Below wo.heap.size wo wi)
        (fun _ u _ => n - (intOf u).toNat)
      case atStart => exact ⟨0, by omega, rfl, rfl, Below.refl _ _⟩
      case round =>
        obtain ⟨k, hk, rfl, rfl, hbi⟩ := hrel
        have hB2 := HS.out.2.1.trans (hbi.mono HS.out.2.1.size)
        have x0 := HK.out.1 wr hB2
        have x1 := HK.out.2 wr hB2
        have hrow2 := own_below HS.out.1 hbi
        have HR := hide (And.intro hrow2 (And.intro hB2 hbi))
        by_cases hlk : k < n
        · have hlk2 : k < os.length := by have := HS.out.2.2.2; omega
          have hls := ls_of_own pairC_length hrow2
          obtain ⟨oa', oc', he1, -, -, hc⟩ := hls
          obtain ⟨ob, oo, rfl, hob, hoc⟩ := hc (by rintro rfl; simp at hlk2)
          injection he1 with he1 _ he2
          subst he1 he2
          have y0 := hoc k hlk2 0 _ rfl
          have hst := any_take_step os x.1 k hlk2
          generalize os[k] = y at *
          simp only [Nat.add_zero] at y0
          have hy := toL y.1
          have HST := hide hst
          clear hst hoc hc hrow2 hB2 hbi
          generalize hth : (os.take k).any (fun o => o.1 == x.1) = th at *
          generalize hye : (y.1 == x.1) = ye at *
          go_wp2_with fail
          cases th with
          | true =>
            refine wp_region_held_drew (S := fun W => W.cell? ⟨ob, oo + k * 2, none⟩ = some (.string (strB y.1)) ∧ W.cell? ⟨b, off + i * 2, none⟩ = some (.string (strB x.1))) (by kernel_rfl) (⟨y0, x0⟩) (fun hHeld => ?_)
            refine takeK 0 hHeld ?_
            refine takeK 1 hHeld ?_
            refine skipH (i := 2) rfl (by kernel_rfl) (by kernel_rfl) (by kernel_rfl) (fun _ _ _ h => h) rfl hHeld ?_
            try simp only [Act.put, List.setIfInBounds_toArray, List.set_cons_zero, List.set_cons_succ]
            refine skipH (i := 3) rfl (by kernel_rfl) (by kernel_rfl) (by kernel_rfl) (fun _ _ _ h => h) rfl hHeld ?_
            try simp only [Act.put, List.setIfInBounds_toArray, List.set_cons_zero, List.set_cons_succ]
            refine skipH (i := 4) rfl (by kernel_rfl) (by kernel_rfl) (by kernel_rfl) (fun _ _ _ h => h) rfl hHeld ?_
            try simp only [Act.put, List.setIfInBounds_toArray, List.set_cons_zero, List.set_cons_succ]
            refine skipH (i := 5) rfl (by kernel_rfl) (by kernel_rfl) (by kernel_rfl) (fun _ _ _ h => h) rfl hHeld ?_
            try simp only [Act.put, List.setIfInBounds_toArray, List.set_cons_zero, List.set_cons_succ]
            refine skipH (i := 6) rfl (by kernel_rfl) (by kernel_rfl) (by kernel_rfl) (fun _ _ _ h => h) rfl hHeld ?_
            try simp only [Act.put, List.setIfInBounds_toArray, List.set_cons_zero, List.set_cons_succ]
            refine skipH (i := 7) rfl (by kernel_rfl) (by kernel_rfl) (by kernel_rfl) (fun _ _ _ h => h) rfl hHeld ?_
            try simp only [Act.put, List.setIfInBounds_toArray, List.set_cons_zero, List.set_cons_succ]
            refine skipH (i := 8) rfl (by kernel_rfl) (by kernel_rfl) (by kernel_rfl) (fun _ _ _ h => h) rfl hHeld ?_
            try simp only [Act.put, List.setIfInBounds_toArray, List.set_cons_zero, List.set_cons_succ]
            refine skipH (i := 9) rfl (by kernel_rfl) (by kernel_rfl) (by kernel_rfl) (fun _ _ _ h => h) rfl hHeld ?_
            try simp only [Act.put, List.setIfInBounds_toArray, List.set_cons_zero, List.set_cons_succ]
            refine skipH (i := 10) rfl (by kernel_rfl) (by kernel_rfl) (by kernel_rfl) (fun _ _ _ h => h) rfl hHeld ?_
            try simp only [Act.put, List.setIfInBounds_toArray, List.set_cons_zero, List.set_cons_succ]
            refine skipH (i := 11) rfl (by kernel_rfl) (by kernel_rfl) (by kernel_rfl) (fun _ _ _ h => h) rfl hHeld ?_
            try simp only [Act.put, List.setIfInBounds_toArray, List.set_cons_zero, List.set_cons_succ]
            refine skipH (i := 12) rfl (by kernel_rfl) (by kernel_rfl) (by kernel_rfl) (fun _ _ _ h => h) rfl hHeld ?_
            try simp only [Act.put, List.setIfInBounds_toArray, List.set_cons_zero, List.set_cons_succ]
            refine takeK 13 hHeld ?_
            refine takeK 14 hHeld ?_
            refine wpAnyH_done (by kernel_rfl) ?_ _
            clear hHeld
            go_wp2
            go_roundw
            case rel => exact ⟨k + 1, by omega, by go_num, by rw [HST.out]; rfl, HR.out.2.2.drew⟩
            case measure => simp [intOf]; omega
          | false =>
            refine wp_region_held_drew (S := fun W => W.cell? ⟨ob, oo + k * 2, none⟩ = some (.string (strB y.1)) ∧ W.cell? ⟨b, off + i * 2, none⟩ = some (.string (strB x.1))) (by kernel_rfl) (⟨y0, x0⟩) (fun hHeld => ?_)
            refine takeK 0 hHeld ?_
            refine takeK 1 hHeld ?_
            refine takeK 2 hHeld ?_
            refine takeK 3 hHeld ?_
            refine takeK 4 hHeld ?_
            refine takeK 5 hHeld ?_
            refine takeK 6 hHeld ?_
            refine takeK 7 hHeld ?_
            refine takeK 8 hHeld ?_
            refine takeK 9 hHeld ?_
            refine takeK 10 hHeld ?_
            refine takeK 11 hHeld ?_
            refine takeK 12 hHeld ?_
            refine takeK 13 hHeld ?_
            refine takeK 14 hHeld ?_
            refine wpAnyH_done (by kernel_rfl) ?_ _
            clear hHeld
            go_wp2
            go_roundw
            case rel => exact ⟨k + 1, by omega, by go_num, by rw [HST.out]; rfl, HR.out.2.2.drew⟩
            case measure => simp [intOf]; omega
        · obtain rfl : k = n := by omega
          have htk : os.take k = os := by rw [HS.out.2.2.2, List.take_length]
          rw [htk]
          obtain ⟨vn, w3, run3, row3, gr3, -⟩ := app_obj wr w.heap.size _ os x hrow2 hB2.size (by have := HS.out.2.2.2; omega)
          have hrA : Rw w.heap.size (wr.alloc (.cells #[.string (strB x.1), .string (strB x.2)] 69)) 69 2 pairC (.slice oa k oc) os := World.ownsRow.alloc hrow2 _
          have hb3 : Below w.heap.size w w3 := (hB2.alloc hB2.size _).trans ((Below.refl _ _).grown gr3 (by have := hB2.size; simp; omega) (fun q hq => (World.ownsRow.lt hrA q hq).1))
          have R3 := hide run3
          have H3 := hide (And.intro row3 hb3)
          obtain ⟨na, nm, nc, rfl⟩ := row_form row3
          have hst := HS.out.2.2.1
          unfold layP at hst
          clear htk hrow2 hB2 hbi run3 row3 gr3 hrA hb3
          generalize hth : os.any (fun o => o.1 == x.1) = th at *
          cases th with
          | true =>
            rw [if_pos rfl] at hst
            have HST := hide hst
            clear hst
            go_wp2
            go_roundw
            case rel => exact ⟨i + 1, by omega, by go_num, by rw [HST.out]; exact HR.out.1, HR.out.2.1⟩
            case measure => simp [intOf]; omega
          | false =>
            rw [if_neg (by simp)] at hst
            have HST := hide hst
            clear hst
            go_wp2_with (at_builtin; refine wpList_plain rfl (fun K hK => wp_append_run (.tmp 45) (.tmp 50) 25 rfl rfl rfl R3.out (hK _ _ ?_)))
            go_wp2
            go_roundw
            case rel => exact ⟨i + 1, by omega, by go_num, by rw [HST.out]; exact H3.out.1, H3.out.2⟩
            case measure => simp [intOf]; omega
    · obtain rfl : i = m := by omega
      have htk : raw.take i = raw := by rw [HM.out, List.take_length]
      rw [hos, htk] at hrow
      have HS := hide (And.intro hrow hbw)
      clear hrow hbw hos hn2 htk
      go_wp2
      go_ret
      exact ⟨_, rfl, HS.out.1, HS.out.2⟩
end Go.Proofs.YtimbleaafoiidaaGreatDoor
