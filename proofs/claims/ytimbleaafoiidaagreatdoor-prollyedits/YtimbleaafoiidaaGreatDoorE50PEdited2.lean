/-
  edited: the pairs behind all puts. Conditions: the pairs rise; not too many.
-/
import Derived.Test.YtimbleaafoiidaaGreatDoorE49PEdited
namespace Go.Proofs.YtimbleaafoiidaaGreatDoor
open Go.RowKit

abbrev putO (p : PutM) : Obj := .cells #[.string (strB p.1), .string (strB p.2.1), .bool p.2.2] 108
set_option maxRecDepth 100000 in
set_option maxHeartbeats 1000000 in
theorem edited_any (w : World) (vp vq : Value) (pairs : List Pair) (puts : List PutM) (hp : Ls w.heap.size w 2 pairC vp pairs) (hq : Ls w.heap.size w 3 putC vq puts) (hr : Rises pairs) (hn : pairs.length ≤ 10000) (hm : puts.length ≤ 1000) :
    Calls Tryz.prog 46 #[vp, vq] w fun e w' => ∃ v, e = .returned v ∧ Rw w.heap.size w' 60 2 pairC v (doneA pairs puts) ∧ Below w.heap.size w w' := by
  obtain ⟨ap, cp, rfl, p1, p2, p4⟩ := hp
  obtain ⟨aq, cq, rfl, q1, q2, q4⟩ := hq
  unfold maxLen at p2 q2
  have hb1 : Below w.heap.size w (w.alloc (.map #[] 0)) := (Below.refl _ _).alloc (Nat.le_refl _) _
  have hm1 := Mp.MapW.made w
  have hs1 : (w.alloc (.map #[] 0)).heap.size = w.heap.size + 1 := by simp
  have H1 := hide (And.intro hb1 (And.intro hm1 hs1))
  have hmk : (Instr.makeMap 130 none).run Tryz.prog w = .ok (.map (some w.heap.size)) (w.alloc (.map #[] 0)) := by kernel_rfl
  clear hb1 hm1 hs1
  go_enter Tryz.func46, Tryz.ntmps46
  go_wp2_with fail
  go_loopw [13] (fun t wr => ∃ k : Nat, k ≤ pairs.length ∧ t = .int .i64 k ∧ Mp.MapW wr w.heap.size (pv (pairs.take k)) ∧ Below w.heap.size w wr ∧ w.heap.size < wr.heap.size)
    (fun t _ => pairs.length - (intOf t).toNat)
  case atStart => exact ⟨0, by omega, rfl, H1.out.2.1, H1.out.1, by have := H1.out.2.2; omega⟩
  case round =>
    obtain ⟨k, hk, rfl, hmw, hbr, hsz⟩ := hrel
    by_cases hlt : k < pairs.length
    · obtain ⟨b, off, rfl, hbl, hc⟩ := p4 (by intro e; rw [e] at hlt; simp at hlt)
      have c0 := (hbr.cell (p := ⟨b, off + k * 2 + 0, none⟩) hbl).trans (hc k hlt 0 _ rfl)
      have c1 := (hbr.cell (p := ⟨b, off + k * 2 + 1, none⟩) hbl).trans (hc k hlt 1 _ rfl)
      have htk : pairs.take (k + 1) = pairs.take k ++ [pairs[k]] := by rw [List.take_add_one]; simp [hlt]
      have hne : ∀ y ∈ pairs.take k, y.1 ≠ pairs[k].1 := fun y hy => by
        have h1 := hr.sublist (List.take_sublist (k + 1) pairs)
        rw [htk] at h1
        exact lt_ne ((List.pairwise_append.1 h1).2.2 y hy _ (by simp))
      generalize pairs[k] = x at *
      try simp only [Nat.add_zero] at c0 c1
      have hmA := hmw.same (heap_past wr (pairO x) _ hmw.lt)
      obtain ⟨w2, hrun, hm2, hch, hs2⟩ := lay_new hmA x hne
      have hbA : Below w.heap.size w (wr.alloc (pairO x)) := hbr.trans (((Below.refl _ _).alloc (Nat.le_refl _) _).mono hbr.size)
      have hb2 : Below w.heap.size w w2 := hbA.trans (hch.below (fun i e => by omega) (by simp; omega))
      have hm3 : Mp.MapW w2 w.heap.size (pv (pairs.take (k + 1))) := by
        rw [htk]
        exact hm2.perm ((List.perm_append_singleton x _).symm.map _)
      have hsA : (wr.alloc (pairO x)).heap.size = wr.heap.size + 1 := by simp
      have H2 := hide (And.intro hm3 (And.intro hb2 (show w.heap.size < w2.heap.size by omega)))
      clear hmw hbr hmA hm2 hch hbA hb2 hm3 hne htk hc p4 hsA hs2
      go_wp2_with fail
      go_roundw
      case rel => exact ⟨k + 1, by omega, by go_num, H2.out.1, H2.out.2.1, H2.out.2.2⟩
      case measure => simp [intOf]; omega
    · have hkl : k = pairs.length := by omega
      subst hkl
      rw [List.take_length] at hmw
      have HM := hide (And.intro hmw (And.intro hbr hsz))
      clear hmw hbr
      go_wp2_with fail
      go_loopw [24] (fun t wr => ∃ k : Nat, k ≤ puts.length ∧ t = .int .i64 k ∧ Mp.MapW wr w.heap.size (pv (doneA pairs (puts.take k))) ∧ Below w.heap.size w wr ∧ w.heap.size < wr.heap.size)
        (fun t _ => puts.length - (intOf t).toNat)
      case atStart => exact ⟨0, by omega, rfl, HM.out.1, HM.out.2.1, HM.out.2.2⟩
      case round =>
        obtain ⟨k, hk, rfl, hmw, hbr, hsz2⟩ := hrel
        by_cases hlt : k < puts.length
        · obtain ⟨b, off, rfl, hbl, hc⟩ := q4 (by intro e; rw [e] at hlt; simp at hlt)
          have c0 := (hbr.cell (p := ⟨b, off + k * 3 + 0, none⟩) hbl).trans (hc k hlt 0 _ rfl)
          have c1 := (hbr.cell (p := ⟨b, off + k * 3 + 1, none⟩) hbl).trans (hc k hlt 1 _ rfl)
          have c2 := (hbr.cell (p := ⟨b, off + k * 3 + 2, none⟩) hbl).trans (hc k hlt 2 _ rfl)
          have htk : doneA pairs (puts.take (k + 1)) = doneM (doneA pairs (puts.take k)) puts[k] := by
            rw [show puts.take (k + 1) = puts.take k ++ [puts[k]] by rw [List.take_add_one]; simp [hlt]]
            unfold doneA
            rw [List.foldl_append]
            rfl
          have hrk := doneA_rises hr (puts.take k)
          generalize puts[k] = x at *
          try simp only [Nat.add_zero] at c0 c1 c2
          generalize doneA pairs (puts.take k) = l at *
          have hmA := hmw.same (heap_past wr (putO x) _ hmw.lt)
          have hbA : Below w.heap.size w (wr.alloc (putO x)) := hbr.trans (((Below.refl _ _).alloc (Nat.le_refl _) _).mono hbr.size)
          have hsA : (wr.alloc (putO x)).heap.size = wr.heap.size + 1 := by simp
          cases hgo : x.2.2 with
          | true =>
            rw [hgo] at c2
            obtain ⟨w2, hrun, hm2, hch, hs2⟩ := take_put hmA hrk x hgo 0
            have hb2 : Below w.heap.size w w2 := hbA.trans (hch.below (fun i e => by omega) (by simp; omega))
            rw [← htk] at hm2
            have H2 := hide (And.intro hm2 (And.intro hb2 (show w.heap.size < w2.heap.size by omega)))
            simp only [putO, hgo] at hrun
            clear hmw hbr hmA hm2 hch hbA hb2 htk hc q4 hsA hs2 hrk hgo
            go_wp2_with fail
            go_roundw
            case rel => exact ⟨k + 1, by omega, by go_num, H2.out.1, H2.out.2.1, H2.out.2.2⟩
            case measure => simp [intOf]; omega
          | false =>
            rw [hgo] at c2
            obtain ⟨w2, hrun, hm2, hch, hs2⟩ := lay_put hmA hrk x hgo
            have hb2 : Below w.heap.size w w2 := hbA.trans (hch.below (fun i e => by omega) (by simp; omega))
            rw [← htk] at hm2
            have H2 := hide (And.intro hm2 (And.intro hb2 (show w.heap.size < w2.heap.size by omega)))
            simp only [putO, hgo] at hrun
            clear hmw hbr hmA hm2 hch hbA hb2 htk hc q4 hsA hs2 hrk hgo
            go_wp2_with fail
            go_roundw
            case rel => exact ⟨k + 1, by omega, by go_num, H2.out.1, H2.out.2.1, H2.out.2.2⟩
            case measure => simp [intOf]; omega
        · have hkl : k = puts.length := by omega
          subst hkl
          rw [List.take_length] at hmw
          have hra := doneA_rises hr puts
          have hle := doneA_length puts pairs
          have hbx : Below wr.heap.size wr (wr.alloc (.cells #[.map (some w.heap.size)] 130)) := (Below.refl _ _).alloc (Nat.le_refl _) _
          have hbox := heap_last wr (.cells #[.map (some w.heap.size)] 130) _ rfl
          have hsv := sorted_vals _ _ _ _ hra hbox (hmw.same (hbx.block _ hmw.lt)) (by omega)
          have HB := hide (And.intro hbr hbx)
          have hvf := valuesF_any wr w.heap.size
          clear hmw hbr hbx hbox hra hle
          go_wp2_with fail
          refine hvf.mono ?_
          rintro e w3 ⟨rfl, rfl⟩
          clear hvf
          go_wp2_with fail
          refine hsv.mono ?_
          rintro e w4 ⟨v, rfl, h1, h2⟩
          have hb4 := HB.out.2.trans (h2.mono HB.out.2.size)
          have H4 := hide (And.intro (own_low h1 (Nat.le_trans HB.out.1.size HB.out.2.size)) (HB.out.1.trans (hb4.mono HB.out.1.size)))
          clear hsv h1 h2 hb4
          go_wp2
          go_ret
          exact ⟨v, rfl, H4.out.1, H4.out.2⟩
end Go.Proofs.YtimbleaafoiidaaGreatDoor
