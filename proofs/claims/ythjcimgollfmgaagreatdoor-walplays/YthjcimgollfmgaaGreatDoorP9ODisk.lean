/-
  Texts joined: ODisk, CrashPure, OffPure, KeepPure, Kx.
-/
import Derived.Test.YthjcimgollfmgaaGreatDoorP8DirEnd
import Derived.Test.YthjcimgollfmgaaGreatDoorP5BeginRep
import Derived.Test.YthjcimgollfmgaaGreatDoorP6OnFile
/-
  What came out, laid on a disk of its own: outcome.disk. Conditions: what lies there is told by hypotheses.
-/
namespace Go.Proofs.YthjcimgollfmgaaGreatDoor
open Go.RowKit

theorem sumQ_perm {q : Nat → Nat} {l l' : Dir} (h : l.Perm l') : sumQ q l = sumQ q l' := sum_perm (h.map fun p : Nm × Nat => q p.2)
theorem sumQ_le {q : Nat → Nat} {dl rl D : Dir} (h : (dl ++ rl).Perm D) : sumQ q dl + sumQ q rl = sumQ q D := by
  rw [← sumQ_perm h]
  unfold sumQ
  rw [List.map_append, List.sum_append_nat]

theorem Goes.iter {w : World} {b r : Nat} {rest : List (Value × Value)} (h : Goes w b r rest) {k : Nat} {c : Array Value} {t : TypeId} (hk : w.heap[k]? = some (.cells c t (0, 0))) : k ≠ r := by
  obtain ⟨es, ck, seen, c0, a1, a2, a3, a4, a5⟩ := h
  exact ne_of_obj hk a3 (by intro e; cases e)
theorem sumQ_pick {q : Nat → Nat} {rl rl' : Dir} {n : Nm} {f : Nat} (h : rl.Perm ((n, f) :: rl')) : sumQ q rl = q f + sumQ q rl' := by
  rw [sumQ_perm h]
  rfl

set_option maxRecDepth 20000 in
set_option maxHeartbeats 1600000 in
theorem odisk_any (w : World) (on om : Nat) (room : Int) (fb : Nat → Nat) (is : List Nat) (ml : List (Nat × Nat)) (D : Dir) (sr : Nat → Nat) (src : Nat → List UInt8) (hn : (ids D).Nodup)
    (hon : MapW w on (dv fb D)) (hom : MapW w om (mv fb ml)) (hl : Lies w fb is) (hml : ∀ p ∈ ml, p.1 ∈ is) (hDi : ∀ i ∈ ids D, i ∈ is) (hs : Sorted D)
    (hfile : ∀ i ∈ ids D, ∃ rv nmv, w.heap[fb i]? = some (.cells #[rv, .int .i64 (sr i : Int), nmv] 80) ∧ w.ownsRow 0 5 1 rv (src i).length (bc (src i)))
    (hq : ∀ i ∈ ids D, sr i + mlook ml i ≤ (src i).length) (hsz : ∀ i ∈ ids D, (src i).length < 1099511627776) (hsum : sumQ (fun i => sr i + mlook ml i) D < 1099511627776) :
    Calls Tryz.prog 34 #[.agg #[.map (some on), .map (some om)], .int .i64 room] w fun e w' => ∃ d2 nm sm fb2 rv2, e = .returned (.pointer (some ⟨d2, 0, none⟩)) ∧
      New w d2 nm room (some sm) fb2 rv2 (fun i => sr i + mlook ml i) (fun i => (src i).take (sr i + mlook ml i)) D w' ∧ MapW w' sm (dv fb2 D) ∧ w.heap.size ≤ sm ∧ sm ≠ nm := by
  have hmm := @run_makeMap Tryz.prog
  obtain ⟨q, hqd⟩ : ∃ q : Nat → Nat, q = fun i => sr i + mlook ml i := ⟨_, rfl⟩
  obtain ⟨cut, hcd⟩ : ∃ cut : Nat → List UInt8, cut = fun i => (src i).take (sr i + mlook ml i) := ⟨_, rfl⟩
  rw [← hqd] at hsum
  rw [← hqd, ← hcd]
  have hA : Chg (fun _ => False) w (((w.alloc (.cells #[.map (some on), .map (some om)] 84)).alloc (.map #[] 0)).alloc (.cells #[.int .i64 room, .int .i64 0, .map (some (w.heap.size + 1)), .map none, .slice none 0 0, .int .i64 0, .bool false, .int .i64 0, .map none] 63)) := (((Chg.refl _ w).alloc _).alloc _).alloc _
  have hob : (((w.alloc (.cells #[.map (some on), .map (some om)] 84)).alloc (.map #[] 0)).alloc (.cells #[.int .i64 room, .int .i64 0, .map (some (w.heap.size + 1)), .map none, .slice none 0 0, .int .i64 0, .bool false, .int .i64 0, .map none] 63)).heap[w.heap.size]? = some (.cells #[.map (some on), .map (some om)] 84) := heap_past _ (heap_past _ (heap_last w _))
  have hmp : MapW (((w.alloc (.cells #[.map (some on), .map (some om)] 84)).alloc (.map #[] 0)).alloc (.cells #[.int .i64 room, .int .i64 0, .map (some (w.heap.size + 1)), .map none, .slice none 0 0, .int .i64 0, .bool false, .int .i64 0, .map none] 63)) (w.heap.size + 1) [] := by
    have h1 := MapW.made (w.alloc (.cells #[.map (some on), .map (some om)] 84))
    rw [show (w.alloc (.cells #[.map (some on), .map (some om)] 84)).heap.size = w.heap.size + 1 by simp] at h1
    exact h1.keep ((Chg.refl (fun _ => False) _).alloc _) (fun h => h)
  have hdk : (((w.alloc (.cells #[.map (some on), .map (some om)] 84)).alloc (.map #[] 0)).alloc (.cells #[.int .i64 room, .int .i64 0, .map (some (w.heap.size + 1)), .map none, .slice none 0 0, .int .i64 0, .bool false, .int .i64 0, .map none] 63)).heap[w.heap.size + 2]? = some (.cells #[.int .i64 room, .int .i64 0, .map (some (w.heap.size + 1)), .map none, .slice none 0 0, .int .i64 0, .bool false, .int .i64 0, .map none] 63) := by
    have h1 := heap_last ((w.alloc (.cells #[.map (some on), .map (some om)] 84)).alloc (.map #[] 0)) (.cells #[.int .i64 room, .int .i64 0, .map (some (w.heap.size + 1)), .map none, .slice none 0 0, .int .i64 0, .bool false, .int .i64 0, .map none] 63)
    rw [show ((w.alloc (.cells #[.map (some on), .map (some om)] 84)).alloc (.map #[] 0)).heap.size = w.heap.size + 2 by simp] at h1
    exact h1
  have hsz3 : (((w.alloc (.cells #[.map (some on), .map (some om)] 84)).alloc (.map #[] 0)).alloc (.cells #[.int .i64 room, .int .i64 0, .map (some (w.heap.size + 1)), .map none, .slice none 0 0, .int .i64 0, .bool false, .int .i64 0, .map none] 63)).heap.size = w.heap.size + 3 := by simp
  obtain ⟨w1, hrun1, hgo1, hch1, hsz1⟩ := Goes.start (hon.keep hA (fun h => h)) Tryz.underlying59
  rw [hsz3] at hrun1 hgo1
  have hnew0 : New w (w.heap.size + 2) (w.heap.size + 1) room none (fun _ => 0) (fun _ => .nilFunc) q cut [] w1 :=
    ⟨hch1.keep hdk (fun h => h), hmp.keep hch1 (fun h => h), (fun i hi => by cases hi), (fun i hi => by cases hi), (fun i hi => by cases hi), (fun i hi => by cases hi), hA.then hch1, by omega, by omega⟩
  have hob1 := hch1.keep hob (fun h => h)
  have z0 := cell_of hob 0
  have honl := hon.lt
  have HN0 := hide hnew0
  have HG1 := hide hgo1
  have HO1 := hide hob1
  have HOM := hide hom
  have HLL := hide hl
  have HML := hide hml
  have HDI := hide hDi
  have HFI := hide hfile
  have HQ := hide hq
  have HSZ := hide hsz
  have HS := hide hs
  have HN := hide hn
  have HQD := hide hqd
  have HCD := hide hcd
  clear hnew0 hgo1 hob1 hom hl hml hDi hfile hq hsz hs hn hqd hcd hA hob hmp hdk hch1 hon hsz1
  go_enter Tryz.func34, Tryz.ntmps34
  go_wp2_with fail
  go_loopw [16] (fun _ wr => ∃ (rl dl : Dir) (fb2 : Nat → Nat) (rv2 : Nat → Value), (dl ++ rl).Perm D ∧ Goes wr on (w.heap.size + 3) (dv fb rl) ∧ New w (w.heap.size + 2) (w.heap.size + 1) room none fb2 rv2 q cut dl wr ∧ wr.heap[w.heap.size]? = some (.cells #[.map (some on), .map (some om)] 84)) (fun _ wr => leftLen wr on (w.heap.size + 3))
  case atStart => exact ⟨D, [], _, _, List.Perm.refl _, HG1.out, HN0.out, HO1.out⟩
  case round =>
    obtain ⟨rl, dl, fb2, rv2, hpl, hgo, hnew, hobr⟩ := hrel
    have hbase : ∀ k, k < w.heap.size → wr.heap[k]? = w.heap[k]? := fun k hk => hnew.chg.block k hk (fun h => h)
    rcases hgo.step (P := Tryz.prog) 0 with ⟨hr0, hnext⟩ | ⟨k, v, rest, w2, hperm, hnext, hentry, hgo2, hc2, hs2⟩
    · have hrl0 : rl = [] := List.map_eq_nil_iff.1 hr0
      subst hrl0
      rw [List.append_nil] at hpl
      have hcl := mclone_some wr (w.heap.size + 1) _ hnew.map
      have hdk := hnew.disk
      have y2 := cell_of hdk 2
      have HNEW := hide hnew
      have HDK := hide hdk
      have HPL := hide hpl
      clear hgo hnew hdk hr0 hpl hobr hbase
      go_wp2_with fail
      refine hcl.mono ?_
      rintro e w4 ⟨rfl, hm4, hc4⟩
      obtain ⟨sm, hsm⟩ : ∃ sm, sm = wr.heap.size := ⟨_, rfl⟩
      rw [← hsm] at hm4 ⊢
      have hsm1 := HNEW.out.map.lt
      have hsm2 := lt_of_heap HDK.out
      have hd4 := hc4.keep HDK.out (fun h => h)
      have z3 := thawed hd4 3
      have a3 := cell_of hd4 3
      have hD4 := heap_set hd4 3 (.map (some sm))
      have hne : w.heap.size + 2 ≠ w.heap.size + 1 := by omega
      have hN4 := HNEW.out.keep hc4 (fun _ h => h.elim) (fun h => h) (fun h => h) (fun _ _ _ _ _ h => h)
      have hmD : MapW (w4.setCell ⟨w.heap.size + 2, 3, none⟩ (.map (some sm))) sm (dv fb2 dl) := hm4.keep (chg_set w4 _ 3 _) (fun e => by omega)
      have hfin : New w (w.heap.size + 2) (w.heap.size + 1) room (some sm) fb2 rv2 q cut D (w4.setCell ⟨w.heap.size + 2, 3, none⟩ (.map (some sm))) := by
        have hnf : ∀ k c t, w4.heap[k]? = some (.cells c t (0, 0)) → t = 80 ∨ t = 5 → k ≠ w.heap.size + 2 := fun k c t hk ht e => by
          subst e
          rcases ht with rfl | rfl
          · exact ne_tag hk hd4 (show 80 ≠ 63 by decide) rfl
          · exact ne_tag hk hd4 (show 5 ≠ 63 by decide) rfl
        have hids : ∀ i, i ∈ ids D ↔ i ∈ ids dl := fun i => ((HPL.out.map fun p : Nm × Nat => p.2).mem_iff).symm
        refine ⟨?_, ?_, fun i hi => ?_, fun i hi j hj => hN4.inj i ((hids i).1 hi) j ((hids j).1 hj), fun i hi => ?_, fun i hi j hj => hN4.apart i ((hids i).1 hi) j ((hids j).1 hj), hN4.chg.trans (chg_set w4 _ 3 _) (fun i hi e => by omega), hN4.newD, hN4.newM⟩
        · rw [← sumQ_perm HPL.out]
          exact hD4
        · exact (hN4.map.perm (HPL.out.map fun p : Nm × Nat => (Value.string (strB p.1), Value.pointer (some ⟨fb2 p.2, 0, none⟩)))).keep (chg_set w4 _ 3 _) (fun e => by omega)
        · obtain ⟨g1, g2⟩ := hN4.files i ((hids i).1 hi)
          exact ⟨g1, heap_set_other g2 (hnf _ _ _ g2 (Or.inl rfl))⟩
        · obtain ⟨g1, g2⟩ := hN4.rows i ((hids i).1 hi)
          refine ⟨own_keep g1 (chg_set w4 _ 3 _) (fun k hk => ?_), g2⟩
          obtain ⟨cur, hcur⟩ := own_block g1 hk
          exact hnf _ _ _ hcur (Or.inr rfl)
      have HMD := hide (hmD.perm (HPL.out.map fun p : Nm × Nat => (Value.string (strB p.1), Value.pointer (some ⟨fb2 p.2, 0, none⟩))))
      have HFIN := hide hfin
      have HSM : Hid (w.heap.size ≤ sm ∧ sm ≠ w.heap.size + 1) := hide ⟨by omega, by omega⟩
      clear hmD hfin hN4 hD4 hd4 hm4 hc4 hcl hsm
      go_wp2
      go_ret
      exact ⟨_, _, sm, fb2, rv2, rfl, HFIN.out, HMD.out, HSM.out.1, HSM.out.2⟩
    · obtain ⟨n, f, rl', hp1, rfl, rfl, hp2⟩ := dv_pick hperm
      have hfr : f ∈ ids rl := List.mem_map.2 ⟨(n, f), hp1.mem_iff.2 List.mem_cons_self, rfl⟩
      have hpl2 : ((n, f) :: dl ++ rl').Perm D := (List.perm_middle.symm.trans (hp1.symm.append_left dl)).trans hpl
      have hfD : f ∈ ids D := (hpl2.map fun p : Nm × Nat => p.2).mem_iff.1 (by simp)
      have hnd := ((hpl2.map fun p : Nm × Nat => p.2).nodup_iff).2 HN.out
      have hfd : f ∉ ids dl := fun h => by
        rw [List.map_append, List.map_cons, List.cons_append, List.nodup_cons] at hnd
        exact hnd.1 (List.mem_append.2 (Or.inl h))
      have hnl : look dl n = none := look_none_of fun p hp e => by
        have h2 := ((hpl2.map fun p : Nm × Nat => p.1).nodup_iff).2 (sorted_keys HS.out)
        rw [List.map_append, List.map_cons, List.cons_append, List.nodup_cons] at h2
        exact h2.1 (List.mem_append.2 (Or.inl (List.mem_map.2 ⟨p, hp, e⟩)))
      have hsl := sumQ_le (q := q) hpl
      have hsp := sumQ_pick (q := q) hp1
      obtain ⟨rvf, nmv, hf0, hrow0⟩ := HFI.out f hfD
      have hq1 := HQ.out f hfD
      have hq2 := HSZ.out f hfD
      have hqf : q f = sr f + mlook ml f := by rw [HQD.out]
      have hcf : cut f = (src f).take (q f) := by rw [HCD.out, hqf]
      have hnew2 : New w (w.heap.size + 2) (w.heap.size + 1) room none fb2 rv2 q cut dl w2.drew := (hnew.keep hc2 (fun k e => by omega) (by omega) (by omega) (fun k c t hk _ => hgo.iter hk)).keep ((Chg.refl (fun _ => False) _).drew) (fun _ h => h.elim) (fun h => h) (fun h => h) (fun _ _ _ _ _ h => h)
      have hc02 := hnew2.chg
      have hf2 := hc02.keep hf0 (fun h => h)
      have hob2 : w2.drew.heap[w.heap.size]? = _ := hc2.keep hobr (by omega)
      have hlk := more_look (HOM.out.keep hc02 (fun h => h)) (HLL.out.keep hc02 (fun _ _ h => h)) HML.out (HDI.out f hfD)
      have hgo3 : Goes w2.drew on (w.heap.size + 3) (dv fb rl') := hgo2.perm hp2
      have HLEN := hide hgo.len
      have HPLEN := hide hp1.length_eq
      have HROW := hide hrow0
      have HHF := hide hf2
      have HOB2 := hide hob2
      have HGO3 := hide hgo3
      have HNEW2 := hide hnew2
      have HP2 := hide hpl2
      have v1 := cell_of hf2 1
      have v2 := cell_of hob2 1
      clear hgo hnew hobr hbase hperm hgo2 hc2 hs2 hp2 hpl hp1 hnew2 hc02 hf2 hob2 hgo3 hrow0 hnd hpl2 hfr
      obtain ⟨x, hx⟩ : ∃ x, x = sr f := ⟨_, rfl⟩
      obtain ⟨y, hy⟩ : ∃ y, y = mlook ml f := ⟨_, rfl⟩
      rw [← hx] at v1 hq1 hqf
      rw [← hy] at hlk hq1 hqf
      have HX := hide hx
      clear hx hy
      go_wp2_with fail
      refine wp_region_held_drew (S := fun W => W.cell? ⟨fb f, 1, none⟩ = some (.int .i64 (x : Int)) ∧ W.cell? ⟨w.heap.size, 1, none⟩ = some (.map (some om)) ∧ (Instr.lookup 82 (.map (some om)) (.pointer (some ⟨fb f, 0, none⟩)) false).run Tryz.prog W = .ok (.int .i64 (y : Int)) W) (by kernel_rfl) (⟨v1, v2, hlk⟩) (fun hHeld => ?_)
      refine takeH (i := 0) (v := ?_) rfl (by kernel_rfl) (by kernel_rfl) (by kernel_rfl) (fun _ _ _ h => h) rfl ?_ hHeld ?_
      rotate_left
      · intro w hS; (try dsimp only at hS); obtain ⟨hS0, hS1, hS2⟩ := hS; go_simp; first | done | (with_reducible rfl)
      try simp only [Act.put, ly1, ly2, ly3]
      refine takeH (i := 1) (v := ?_) rfl (by kernel_rfl) (by kernel_rfl) (by kernel_rfl) (fun _ _ _ h => h) rfl ?_ hHeld ?_
      rotate_left
      · intro w hS; (try dsimp only at hS); obtain ⟨hS0, hS1, hS2⟩ := hS; go_simp; first | done | (with_reducible rfl)
      try simp only [Act.put, ly1, ly2, ly3]
      refine takeH (i := 2) (v := ?_) rfl (by kernel_rfl) (by kernel_rfl) (by kernel_rfl) (fun _ _ _ h => h) rfl ?_ hHeld ?_
      rotate_left
      · intro w hS; (try dsimp only at hS); obtain ⟨hS0, hS1, hS2⟩ := hS; go_simp; first | done | (with_reducible rfl)
      try simp only [Act.put, ly1, ly2, ly3]
      refine takeH (i := 3) (v := ?_) rfl (by kernel_rfl) (by kernel_rfl) (by kernel_rfl) (fun _ _ _ h => h) rfl ?_ hHeld ?_
      rotate_left
      · intro w hS; (try dsimp only at hS); obtain ⟨hS0, hS1, hS2⟩ := hS; go_simp; first | done | (with_reducible rfl)
      try simp only [Act.put, ly1, ly2, ly3]
      refine takeH (i := 4) (v := ?_) rfl (by kernel_rfl) (by kernel_rfl) (by kernel_rfl) (fun _ _ _ h => h) rfl ?_ hHeld ?_
      rotate_left
      · intro w hS; (try dsimp only at hS); obtain ⟨hS0, hS1, hS2⟩ := hS; go_simp; first | done | (with_reducible rfl)
      try simp only [Act.put, ly1, ly2, ly3]
      refine takeH (i := 5) (v := ?_) rfl (by kernel_rfl) (by kernel_rfl) (by kernel_rfl) (fun _ _ _ h => h) rfl ?_ hHeld ?_
      rotate_left
      · intro w hS; (try dsimp only at hS); obtain ⟨hS0, hS1, hS2⟩ := hS; go_simp; first | done | (with_reducible rfl)
      try simp only [Act.put, ly1, ly2, ly3]
      refine takeH (i := 6) (v := ?_) rfl (by kernel_rfl) (by kernel_rfl) (by kernel_rfl) (fun _ _ _ h => h) rfl ?_ hHeld ?_
      rotate_left
      · intro w hS; (try dsimp only at hS); obtain ⟨hS0, hS1, hS2⟩ := hS; go_simp; first | done | (with_reducible rfl)
      try simp only [Act.put, ly1, ly2, ly3]
      refine takeH (i := 7) (v := ?_) rfl (by kernel_rfl) (by kernel_rfl) (by kernel_rfl) (fun _ _ _ h => h) rfl ?_ hHeld ?_
      rotate_left
      · intro w hS; (try dsimp only at hS); obtain ⟨hS0, hS1, hS2⟩ := hS; go_simp; first | done | (with_reducible rfl)
      try simp only [Act.put, ly1, ly2, ly3]
      refine takeH (i := 8) (v := ?_) rfl (by kernel_rfl) (by kernel_rfl) (by kernel_rfl) (fun _ _ _ h => h) rfl ?_ hHeld ?_
      rotate_left
      · intro w hS; (try dsimp only at hS); obtain ⟨hS0, hS1, hS2⟩ := hS; go_simp; first | done | (with_reducible rfl)
      try simp only [Act.put, ly1, ly2, ly3]
      refine takeH (i := 9) (v := ?_) rfl (by kernel_rfl) (by kernel_rfl) (by kernel_rfl) (fun _ _ _ h => h) rfl ?_ hHeld ?_
      rotate_left
      · intro w hS; (try dsimp only at hS); obtain ⟨hS0, hS1, hS2⟩ := hS; go_simp; first | done | (with_reducible rfl)
      try simp only [Act.put, ly1, ly2, ly3]
      refine wpAnyH_done (by kernel_rfl) ?_ _
      clear hHeld
      have hwr : IntKind.i64.wrap ((x : Int) + (y : Int)) = ((q f : Nat) : Int) := by
        rw [hqf, IntKind.wrap_i64]
        omega
      rw [hwr]
      clear hwr hlk v1 v2
      generalize w2.drew = w3 at *
      obtain ⟨z, hz⟩ : ∃ z, z = q f := ⟨_, rfl⟩
      rw [← hz] at hsp hcf ⊢
      have hzl : z ≤ (src f).length := by omega
      clear hqf hq1
      have HZ := hide hz
      clear hz
      go_wp2_with fail
      have hch3 := HNEW2.out.chg.drew
      have hrow4 := own_keep HROW.out hch3 (fun _ _ h => h)
      have hrc : ∃ ra rc, rvf = .slice ra (src f).length rc ∧ (src f).length ≤ rc ∧ (ra = none → rc = 0) := by
        rcases hrow4.2 with ⟨e, h0⟩ | ⟨g, cap, cur, e, q1, q2, q3, q4, q5, q6⟩
        · exact ⟨none, 0, by rw [h0]; exact e, by omega, fun _ => rfl⟩
        · exact ⟨_, cap, e, q3, fun h => by cases h⟩
      obtain ⟨ra, rc, rfl, hle, hnil⟩ := hrc
      have hf4 := hch3.keep hf0 (fun h => h)
      have hnew4 := HNEW2.out.keep ((Chg.refl (fun _ => False) _).drew) (fun _ h => h.elim) (fun h => h) (fun h => h) (fun _ _ _ _ _ h => h)
      have hd4 := hnew4.disk
      have hlcut : (cut f).length = z := by rw [hcf, List.length_take]; omega
      have hcut := own_cut (l := src f) (k := z) hrow4 rfl hzl
      rw [← hcf] at hcut
      have hcl := clone_any w3.drew (.slice ra z rc) (cut f) (by
        have := sl_of_own (l := cut f) (w := w3.drew) (base := 0) (v := .slice ra z rc) (by rw [hlcut]; exact hcut)
        exact this) (by omega)
      rw [hlcut] at hcl
      obtain ⟨len, hlen⟩ : ∃ len, len = (src f).length := ⟨_, rfl⟩
      rw [← hlen] at hf4 hle hzl hq2
      have hzr : z ≤ rc := by omega
      have u0 := cell_of hf4 0
      have u2 := cell_of hd4 2
      have HF4 := hide hf4
      have HNEW4 := hide hnew4
      have HD4 := hide hd4
      have HHLEN := hide hlen
      have hdn : w.heap.size + 2 ≠ w.heap.size + 1 := by omega
      clear hrow4 hcut hlcut hf4 hnew4 hd4 hch3 hlen
      refine wp_region_held_drew (S := fun W => W.cell? ⟨w.heap.size + 2, 2, none⟩ = some (.map (some (w.heap.size + 1))) ∧ W.cell? ⟨fb f, 0, none⟩ = some (.slice ra len rc)) (by kernel_rfl) (⟨u2, u0⟩) (fun hHeld => ?_)
      refine takeH (i := 0) (v := ?_) rfl (by kernel_rfl) (by kernel_rfl) (by kernel_rfl) (fun _ _ _ h => h) rfl ?_ hHeld ?_
      rotate_left
      · intro w hS; (try dsimp only at hS); obtain ⟨hS0, hS1⟩ := hS; go_simp; first | done | (with_reducible rfl)
      try simp only [Act.put, ly1, ly2, ly3]
      refine takeH (i := 1) (v := ?_) rfl (by kernel_rfl) (by kernel_rfl) (by kernel_rfl) (fun _ _ _ h => h) rfl ?_ hHeld ?_
      rotate_left
      · intro w hS; (try dsimp only at hS); obtain ⟨hS0, hS1⟩ := hS; go_simp; first | done | (with_reducible rfl)
      try simp only [Act.put, ly1, ly2, ly3]
      refine takeH (i := 2) (v := ?_) rfl (by kernel_rfl) (by kernel_rfl) (by kernel_rfl) (fun _ _ _ h => h) rfl ?_ hHeld ?_
      rotate_left
      · intro w hS; (try dsimp only at hS); obtain ⟨hS0, hS1⟩ := hS; go_simp; first | done | (with_reducible rfl)
      try simp only [Act.put, ly1, ly2, ly3]
      refine takeH (i := 3) (v := ?_) rfl (by kernel_rfl) (by kernel_rfl) (by kernel_rfl) (fun _ _ _ h => h) rfl ?_ hHeld ?_
      rotate_left
      · intro w hS; (try dsimp only at hS); obtain ⟨hS0, hS1⟩ := hS; go_simp; first | done | (with_reducible rfl)
      try simp only [Act.put, ly1, ly2, ly3]
      refine takeH (i := 4) (v := ?_) rfl (by kernel_rfl) (by kernel_rfl) (by kernel_rfl) (fun _ _ _ h => h) rfl ?_ hHeld ?_
      rotate_left
      · intro w hS; (try dsimp only at hS); obtain ⟨hS0, hS1⟩ := hS; go_simp; first | done | (with_reducible rfl)
      try simp only [Act.put, ly1, ly2, ly3]
      refine takeH (i := 5) (v := ?_) rfl (by kernel_rfl) (by kernel_rfl) (by kernel_rfl) (fun _ _ _ h => h) rfl ?_ hHeld ?_
      rotate_left
      · intro w hS; (try dsimp only at hS); obtain ⟨hS0, hS1⟩ := hS; go_simp; first | done | (with_reducible rfl)
      try simp only [Act.put, ly1, ly2, ly3]
      refine takeH (i := 6) (v := ?_) rfl (by kernel_rfl) (by kernel_rfl) (by kernel_rfl) (fun _ _ _ h => h) rfl ?_ hHeld ?_
      rotate_left
      · intro w hS; (try dsimp only at hS); obtain ⟨hS0, hS1⟩ := hS; go_simp; first | done | (with_reducible rfl)
      try simp only [Act.put, ly1, ly2, ly3]
      refine takeH (i := 7) (v := ?_) rfl (by kernel_rfl) (by kernel_rfl) (by kernel_rfl) (fun _ _ _ h => h) rfl ?_ hHeld ?_
      rotate_left
      · intro w hS; (try dsimp only at hS); obtain ⟨hS0, hS1⟩ := hS; go_simp; first | done | (with_reducible rfl)
      try simp only [Act.put, ly1, ly2, ly3]
      refine takeH (i := 8) (v := ?_) rfl (by kernel_rfl) (by kernel_rfl) (by kernel_rfl) (fun _ _ _ h => h) rfl ?_ hHeld ?_
      rotate_left
      · intro w hS; (try dsimp only at hS); obtain ⟨hS0, hS1⟩ := hS; go_simp; first | done | (with_reducible rfl)
      try simp only [Act.put, ly1, ly2, ly3]
      refine takeH (i := 9) (v := ?_) rfl (by kernel_rfl) (by kernel_rfl) (by kernel_rfl) (fun _ _ _ h => h) rfl ?_ hHeld ?_
      rotate_left
      · intro w hS; (try dsimp only at hS); obtain ⟨hS0, hS1⟩ := hS; go_simp; first | done | (with_reducible rfl)
      try simp only [Act.put, ly1, ly2, ly3]
      refine takeH (i := 10) (v := ?_) rfl (by kernel_rfl) (by kernel_rfl) (by kernel_rfl) (fun _ _ _ h => h) rfl ?_ hHeld ?_
      rotate_left
      · intro w hS; (try dsimp only at hS); obtain ⟨hS0, hS1⟩ := hS; go_simp; first | done | (with_reducible rfl)
      try simp only [Act.put, ly1, ly2, ly3]
      refine takeH (i := 12) (v := ?_) rfl (by kernel_rfl) (by kernel_rfl) (by kernel_rfl) (fun _ _ _ h => h) rfl ?_ hHeld ?_
      rotate_left
      · intro w hS; (try dsimp only at hS); obtain ⟨hS0, hS1⟩ := hS; go_simp; first | done | (with_reducible rfl)
      try simp only [Act.put, ly1, ly2, ly3]
      refine onlyH (i := 11) rfl (by kernel_rfl) rfl (fun K hK => ?_)
      go_simp
      refine hcl.mono ?_
      rintro e w5 ⟨v', rfl, hv5, hb5⟩
      obtain ⟨va, vcap, rfl⟩ := own_shape hv5
      have hc5 : Chg (fun _ => False) w3.drew w5 := (Chg.of_below hb5).mono fun k hk e => absurd hk (Nat.not_lt_of_le e)
      have hd5 := hc5.keep HD4.out (fun h => h)
      have hf5 := hc5.keep HF4.out (fun h => h)
      refine hK.out _ _ (⟨cell_of hd5 2, cell_of hf5 0⟩) (fun hHeld => ?_)
      clear hK K
      try simp only [Act.put, ly1, ly2, ly3]
      refine takeH (i := 13) (v := ?_) rfl (by kernel_rfl) (by kernel_rfl) (by kernel_rfl) (fun _ _ _ h => h) rfl ?_ hHeld ?_
      rotate_left
      · intro w hS; (try dsimp only at hS); obtain ⟨hS0, hS1⟩ := hS; go_simp; first | done | (with_reducible rfl)
      try simp only [Act.put, ly1, ly2, ly3]
      have hd6 := heap_past (.cells #[.slice va z vcap, .int .i64 (z : Int), .bool true] 80) hd5
      have hf6 := heap_past (.cells #[.slice va z vcap, .int .i64 (z : Int), .bool true] 80) hf5
      obtain ⟨w7, hput, hm7, hc7, hs7⟩ := ((HNEW4.out.map.keep hc5 (fun h => h)).keep ((Chg.refl (fun _ => False) w5).alloc (.cells #[.slice va z vcap, .int .i64 (z : Int), .bool true] 80)) (fun h => h)).put_new (kstr _) (dv_keys fb2 dl) Tryz.underlying59 ⟨_, rfl⟩ (dv_ne hnl) (.pointer (some ⟨w5.heap.size, 0, none⟩))
      have hd7 := hc7.keep hd6 hdn
      have hf7 := hc7.keep hf6 (fun e => by
        have h1 := lt_of_heap hf0
        omega)
      refine onlyH (i := 14) rfl (by kernel_rfl) rfl (fun K hK => ?_)
      go_simp
      refine hK.out _ _ (⟨cell_of hd6 2, cell_of hf6 0⟩) (fun hHeld => ?_)
      clear hK K
      try simp only [Act.put, ly1, ly2, ly3]
      refine onlyH (i := 15) rfl (by kernel_rfl) rfl (fun K hK => ?_)
      go_simp
      refine hK.out _ _ (⟨cell_of hd7 2, cell_of hf7 0⟩) (fun hHeld => ?_)
      clear hK K
      try simp only [Act.put, ly1, ly2, ly3]
      refine wpAnyH_done (by kernel_rfl) ?_ _
      clear hHeld
      have hadd := HNEW4.out.add (n := n) hfd hb5 (by rw [← HZ.out]; exact hv5) hm7 (by rw [← HZ.out]; exact hc7)
      rw [← HZ.out] at hadd
      have t1 := cell_of hd7 1
      have t2 := thawed hd7 1
      have hgo7 : Goes w7 on (w.heap.size + 3) (dv fb rl') := ((HGO3.out.keep ((Chg.refl (fun _ => False) _).drew) (fun h => h) (fun h => h)).keep (hc5.alloc _) (fun h => h) (fun h => h)).keep hc7 (by omega) (by omega)
      have hob7 := hc7.keep (heap_past (.cells #[.slice va z vcap, .int .i64 (z : Int), .bool true] 80) (hc5.keep ((Chg.refl (fun _ => False) w3).drew.keep HOB2.out (fun h => h)) (fun h => h))) (by omega)
      have HADD := hide hadd
      have HGO7 := hide hgo7
      have HOB7 := hide hob7
      have hss : sumQ q dl + z < 1099511627776 := by omega
      obtain ⟨sq, hsq⟩ : ∃ sq, sq = sumQ q dl := ⟨_, rfl⟩
      rw [← hsq] at t1 hss HADD
      clear hadd hgo7 hob7 hm7 hc7 hput hd7 hf7 hd6 hf6 hd5 hf5 hc5 hb5 hv5 hcl u0 u2 hsq hsl
      go_wp2_with fail
      have hgo8 := HGO7.out.keep (chg_set w7 (w.heap.size + 2) 1 (.int .i64 ((sq : Int) + (z : Int)))) (by omega) (by omega)
      go_roundw
      case rel => exact ⟨rl', (n, f) :: dl, _, _, HP2.out, hgo8, HADD.out, heap_set_other HOB7.out (show w.heap.size ≠ w.heap.size + 2 by omega)⟩
      case measure =>
        rw [hgo8.len, HLEN.out]
        have := HPLEN.out
        simp [dv, this]
end Go.Proofs.YthjcimgollfmgaaGreatDoor

/-
  What a crash leaves, plain. No condition.
-/
namespace Go.Proofs.YthjcimgollfmgaaGreatDoor
open Go.RowKit

theorem torn_more (t : Nat) (ls : List Ac) : ∀ a ∈ torn t ls, isMore a = true := by
  intro a ha
  unfold torn at ha
  split at ha
  · simp at ha
    subst ha
    rfl
  · cases ha
theorem app_stay (l : Dir) (ls : List Ac) (keep t : Int) : appD l (stay ls keep t) = appD l (ls.take keep.toNat) := by
  unfold stay
  rw [appD_append, (more_only (torn_more _ _)).1]
theorem madeIds_take (ls : List Ac) (k : Nat) : (madeIds (ls.take k)).Sublist (madeIds ls) := (List.take_sublist k ls).filterMap _
theorem Ok.upto {S : Dk} (h : Ok S) (k : Nat) : Sorted (appD S.sure (S.acts.take k)) ∧ (ids (appD S.sure (S.acts.take k))).Nodup ∧ ∀ i ∈ ids (appD S.sure (S.acts.take k)), S.live i := by
  have hv : Valid S.sure (S.acts.take k) := by
    have := h.valid
    rw [← List.take_append_drop k S.acts] at this
    exact (valid_append.1 this).1
  refine ⟨sorted_app h.sortS hv, ?_, fun i hi => ?_⟩
  · have h1 : (ids S.sure ++ (madeIds (S.acts.take k) ++ [])).Nodup := by
      rw [List.append_nil]
      exact ((List.Sublist.refl _).append (madeIds_take _ _)).nodup h.one
    have := ids_app h.sortS hv h1
    rwa [List.append_nil] at this
  · rcases mem_app hi with h1 | h1
    · exact Or.inl h1
    · exact Or.inr ((madeIds_take _ _).subset h1)
theorem moreSum_torn (t : Nat) (ls : List Ac) (i : Nat) : moreSum (torn t ls) i ≤ moreSum ls i := by
  unfold torn
  split
  · rename_i f k r
    rw [moreSum_cons (.more f k) r]
    have : moreSum [.more f (min k t)] i ≤ moreSum [.more f k] i := by
      simp only [moreSum, List.map_cons, List.map_nil, List.sum_cons, List.sum_nil]
      split <;> omega
    omega
  · simp [moreSum]
theorem moreSum_stay (ls : List Ac) (keep t : Int) (i : Nat) : moreSum (stay ls keep t) i ≤ moreSum ls i := by
  unfold stay
  rw [moreSum_append]
  have h1 : moreSum ls i = moreSum (ls.take keep.toNat) i + moreSum (ls.drop keep.toNat) i := by
    rw [← moreSum_append, List.take_append_drop]
  have := moreSum_torn t.toNat (ls.drop keep.toNat) i
  omega
theorem Ok.quota {S : Dk} (h : Ok S) (keep t : Int) {i : Nat} {x : Fl} (hx : S.files[i]? = some x) : x.sure + moreSum (stay S.acts keep t) i ≤ x.b.length := by
  have h1 := h.lens i x hx
  have h2 := moreSum_stay S.acts keep t i
  omega
theorem crash_file {S : Dk} {keep t : Int} {i : Nat} {y : Fl} (h : (S.crash keep t).files[i]? = some y) : ∃ x, S.files[i]? = some x ∧ y = ⟨x.b.take (x.sure + moreSum (stay S.acts keep t) i), x.sure + moreSum (stay S.acts keep t) i⟩ := by
  have h1 : (S.files.mapIdx fun i x => (⟨x.b.take (x.sure + moreSum (stay S.acts keep t) i), x.sure + moreSum (stay S.acts keep t) i⟩ : Fl))[i]? = some y := h
  rw [List.getElem?_mapIdx] at h1
  cases hx : S.files[i]? with
  | none => rw [hx] at h1; cases h1
  | some x =>
    rw [hx] at h1
    simp at h1
    exact ⟨x, rfl, h1.symm⟩
theorem Ok.crash {S : Dk} (h : Ok S) (keep t : Int) : Ok (S.crash keep t) where
  sortS := by
    show Sorted (appD S.sure (stay S.acts keep t))
    rw [app_stay]
    exact (h.upto _).1
  valid := trivial
  dir := rfl
  one := by
    show (ids (appD S.sure (stay S.acts keep t)) ++ madeIds []).Nodup
    rw [app_stay]
    simpa [madeIds] using (h.upto keep.toNat).2.1
  idS i hi := by
    show i < (S.files.mapIdx _).length
    have hi' : i ∈ ids (appD S.sure (stay S.acts keep t)) := hi
    rw [app_stay] at hi'
    rw [List.length_mapIdx]
    exact h.liveLt ((h.upto _).2.2 i hi')
  idA i hi := by cases hi
  idM i hi := by cases hi
  lens i y hy := by
    obtain ⟨x, hx, rfl⟩ := crash_file hy
    have := h.quota keep t hx
    show (x.b.take _).length = (x.sure + moreSum (stay S.acts keep t) i) + 0
    rw [List.length_take, Nat.min_eq_left this, Nat.add_zero]
end Go.Proofs.YthjcimgollfmgaaGreatDoor

/-
  What DiskCrashes' and DiskOff's calls do, plainly. No program; no condition.
-/
namespace Go.Proofs.YthjcimgollfmgaaGreatDoor
variable {S : Dk}

/-! ### a crash that keeps all; a crash of what a crash left -/
theorem stay_all (cs : List Ac) : stay cs (cs.length : Int) 0 = cs := by
  unfold stay
  simp [torn]
theorem stay_none (keep t : Int) : stay [] keep t = [] := by
  unfold stay
  simp [torn]
theorem crash_all_dir (h : Ok S) : (S.crash (S.acts.length : Int) 0).dir = S.dir := by
  show appD S.sure (stay S.acts _ 0) = _
  rw [stay_all, ← h.dir]
theorem crash_bytes (keep t : Int) (f : Nat) : (S.crash keep t).bytes f = (S.bytes f).take (((S.files[f]?).map (·.sure)).getD 0 + moreSum (stay S.acts keep t) f) := by
  unfold Dk.bytes Dk.crash
  simp only [List.getElem?_mapIdx]
  cases S.files[f]? with
  | none => simp
  | some x => simp
theorem crash_all_bytes (h : Ok S) (f : Nat) : (S.crash (S.acts.length : Int) 0).bytes f = S.bytes f := by
  rw [crash_bytes, stay_all]
  cases hf : S.files[f]? with
  | none => simp [Dk.bytes, hf]
  | some x =>
    have := h.lens f x hf
    have e : S.bytes f = x.b := by simp [Dk.bytes, hf]
    rw [e]
    refine List.take_of_length_le ?_
    simp
    omega
theorem crash_all_size (h : Ok S) (n : Nm) : (S.crash (S.acts.length : Int) 0).size n = S.size n := by
  unfold Dk.size
  rw [crash_all_dir h]
  cases look S.dir n with
  | none => rfl
  | some f =>
    show (((S.crash (S.acts.length : Int) 0).bytes f).length : Int) = _
    rw [crash_all_bytes h]
theorem crash_again_dir (keep t k2 t2 : Int) : ((S.crash keep t).crash k2 t2).dir = (S.crash keep t).dir := by
  show appD (appD S.sure (stay S.acts keep t)) (stay [] k2 t2) = _
  rw [stay_none]
  rfl
theorem crash_again_bytes (keep t k2 t2 : Int) (f : Nat) : ((S.crash keep t).crash k2 t2).bytes f = (S.crash keep t).bytes f := by
  rw [crash_bytes]
  have e : (S.crash keep t).acts = [] := rfl
  rw [e, stay_none, crash_bytes]
  have e2 : (((S.crash keep t).files[f]?).map (·.sure)).getD 0 = (match S.files[f]? with | none => 0 | some x => x.sure + moreSum (stay S.acts keep t) f) := by
    unfold Dk.crash
    simp only [List.getElem?_mapIdx]
    cases S.files[f]? <;> simp
  rw [e2]
  cases hf : S.files[f]? with
  | none => simp [Dk.bytes, hf]
  | some x =>
    simp only [Option.map_some, Option.getD_some]
    rw [List.take_take]
    simp [moreSum]
/-- A disk on, of which nothing fails, read. -/
def Calm (S : Dk) : Prop := S.cut = none ∧ ∀ k, S.fails k = false
theorem calm_crash (keep t : Int) : Calm (S.crash keep t) := ⟨rfl, fun _ => rfl⟩
theorem Calm.begun (h : Calm S) : Calm S.begun ∧ S.begun.dir = S.dir ∧ (∀ f, S.begun.bytes f = S.bytes f) ∧ S.begun.n = S.n + 1 := by
  unfold Dk.begun
  rw [if_neg (by simp [Dk.on, h.1])]
  exact ⟨h, rfl, fun _ => rfl, rfl⟩
theorem Calm.read (h : Calm S) {n : Nm} {f : Nat} (hn : isNm n = true) (hl : look S.dir n = some f) : S.read n = (S.bytes f, 0) := by
  have e : S.onFile n = .ok (f, false) := by
    unfold Dk.onFile
    rw [if_neg (by simp [Dk.on, h.1]), if_neg (by rw [hn]; decide), hl]
    simp [h.2]
  unfold Dk.read
  rw [e]
  rfl

/-! ### the power gone -/
theorem off_on (h : S.cut = some S.n) : S.on = false := by simp [Dk.on, h]
theorem off_file (h : S.on = false) (n : Nm) : S.onFile n = .error 35 := by unfold Dk.onFile; rw [if_pos h]
theorem off_begun (h : S.on = false) : S.begun = S := by unfold Dk.begun; rw [if_pos h]
theorem off_append (h : S.on = false) (n : Nm) (b : List UInt8) : S.append n b = (S, 35) := by unfold Dk.append; rw [if_pos h]
theorem off_read (h : S.on = false) (n : Nm) : S.read n = ([], 35) := by unfold Dk.read; rw [off_file h]
theorem off_sync (h : S.on = false) (n : Nm) : S.sync n = (S, 35) := by unfold Dk.sync; rw [off_file h]; simp only [off_begun h]
theorem off_syncDir (h : S.on = false) : S.syncDir = (S, 35) := by unfold Dk.syncDir; rw [if_pos h]
theorem off_rename (h : S.on = false) (a b : Nm) : S.rename a b = (S, 35) := by unfold Dk.rename; rw [if_pos h]
theorem off_remove (h : S.on = false) (n : Nm) : S.remove n = (S, 35) := by unfold Dk.remove; rw [off_file h]; simp only [off_begun h]
end Go.Proofs.YthjcimgollfmgaaGreatDoor

/-
  A file whose bytes and name are sure, under calls that name others; plainly. No program; no condition.
-/
namespace Go.Proofs.YthjcimgollfmgaaGreatDoor

/-- 'zz-kept' -/
def zz : Nm := [122, 122, 45, 107, 101, 112, 116]
/-- An act that leaves a name alone. -/
def avoids (z : Nm) : Ac → Prop
  | .made n _ => z ≠ n
  | .ren a b => z ≠ a ∧ z ≠ b
  | .rem n => z ≠ n
  | .more _ _ => True
theorem look_ins_ne (l : Dir) {n m : Nm} (h : m ≠ n) (f : Nat) : look (ins n f l) m = look l m := by
  induction l with
  | nil =>
    show look [(n, f)] m = _
    rw [look_cons, if_neg (fun e => h e.symm)]
  | cons q r ih =>
    unfold ins
    split
    · rw [look_cons, if_neg (fun e => h e.symm)]
    · rw [look_cons, look_cons, ih]
theorem look_done {z : Nm} {a : Ac} (l : Dir) (h : avoids z a) : look (doneD l a) z = look l z := by
  cases a with
  | made n f => exact look_ins_ne l h f
  | ren x y =>
    simp only [doneD]
    cases hk : look l x with
    | none => rfl
    | some f =>
      show look (ins y f (del y (del x l))) z = _
      rw [look_ins_ne _ h.2, look_del, if_neg h.2, look_del, if_neg h.1]
  | rem n =>
    show look (del n l) z = _
    rw [look_del, if_neg h]
  | more f k => rfl
theorem look_app {z : Nm} (cs : List Ac) : ∀ (l : Dir), (∀ a ∈ cs, avoids z a) → look (appD l cs) z = look l z := by
  induction cs with
  | nil => exact fun _ _ => rfl
  | cons a r ih =>
    intro l h
    show look (appD (doneD l a) r) z = _
    rw [ih _ fun x hx => h x (by simp [hx]), look_done l (h a (by simp))]
theorem same_id : ∀ {l : Dir} {n m : Nm} {f : Nat}, (ids l).Nodup → (n, f) ∈ l → (m, f) ∈ l → n = m := by
  intro l
  induction l with
  | nil => intro n m f _ h; cases h
  | cons p r ih =>
    intro n m f hn h1 h2
    have hn' := List.nodup_cons.1 (show (p.2 :: ids r).Nodup from hn)
    have hi : ∀ {x : Nm}, (x, f) ∈ r → f ∈ ids r := fun hx => List.mem_map.2 ⟨_, hx, rfl⟩
    rcases List.mem_cons.1 h1 with e1 | e1 <;> rcases List.mem_cons.1 h2 with e2 | e2
    · rw [← e1] at e2
      exact (congrArg Prod.fst e2).symm
    · rw [← e1] at hn'
      exact absurd (hi e2) hn'.1
    · rw [← e2] at hn'
      exact absurd (hi e1) hn'.1
    · exact ih hn'.2 e1 e2

structure Kept (z : Nm) (S : Dk) (f : Nat) (was : Nat) (all : List UInt8) : Prop where
  lookS : look S.sure z = some f
  lookD : look S.dir z = some f
  acts : ∀ a ∈ S.acts, avoids z a
  file : ∃ x, S.files[f]? = some x ∧ x.b = all ∧ was ≤ x.sure
section
variable {z : Nm} {S : Dk} {f was : Nat} {all : List UInt8}
theorem Kept.next (h : Kept z S f was all) : Kept z S.next f was all := ⟨h.lookS, h.lookD, h.acts, h.file⟩
theorem Kept.failAt (h : Kept z S f was all) (ks : List Int) : Kept z (S.failAt ks) f was all := ⟨h.lookS, h.lookD, h.acts, h.file⟩
theorem Kept.begun (h : Kept z S f was all) : Kept z S.begun f was all := by
  unfold Dk.begun
  split
  · exact h
  · exact h.next
theorem Kept.ne (h : Kept z S f was all) (hk : Ok S) {n : Nm} (hn : z ≠ n) {g : Nat} (hg : look S.dir n = some g) : g ≠ f := by
  rintro rfl
  exact hn (same_id hk.oneD (look_mem h.lookD) (look_mem hg))
theorem Kept.modify (h : Kept z S f was all) {g : Nat} (hg : g ≠ f) (fn : Fl → Fl) : ∃ x, (S.files.modify g fn)[f]? = some x ∧ x.b = all ∧ was ≤ x.sure := by
  have e : (S.files.modify g fn)[f]? = S.files[f]? := by simp [hg]
  rw [e]
  exact h.file
theorem Kept.ext (h : Kept z S f was all) {g : Nat} (hg : g ≠ f) (b : List UInt8) : Kept z (S.ext g b) f was all :=
  ⟨h.lookS, h.lookD, fun a ha => by
    rcases List.mem_append.1 ha with ha | ha
    · exact h.acts a ha
    · simp at ha; subst ha; trivial, h.modify hg _⟩
theorem Kept.ext_own (h : Kept z S f was all) (b : List UInt8) : Kept z (S.ext f b) f was (all ++ b) :=
  ⟨h.lookS, h.lookD, fun a ha => by
    rcases List.mem_append.1 ha with ha | ha
    · exact h.acts a ha
    · simp at ha; subst ha; trivial, by
    obtain ⟨x, h1, h2, h3⟩ := h.file
    refine ⟨{ x with b := x.b ++ b }, ?_, by simp [h2], h3⟩
    show (S.files.modify f _)[f]? = _
    simp [h1]⟩
theorem Kept.mk1 (h : Kept z S f was all) {n : Nm} (hn : z ≠ n) : Kept z (S.mk1 n) f was all :=
  ⟨h.lookS, (look_ins_ne _ hn _).trans h.lookD, fun a ha => by
    rcases List.mem_append.1 ha with ha | ha
    · exact h.acts a ha
    · simp at ha; subst ha; exact hn, by
    obtain ⟨x, h1, h2⟩ := h.file
    refine ⟨x, ?_, h2⟩
    show (S.files ++ [_])[f]? = _
    rw [List.getElem?_append_left (List.getElem?_eq_some_iff.1 h1).1]
    exact h1⟩
theorem Kept.append (h : Kept z S f was all) (hk : Ok S) {n : Nm} (hn : z ≠ n) (b : List UInt8) : Kept z (S.append n b).1 f was all := by
  unfold Dk.append
  split
  · exact h
  split
  · exact h.next
  split
  · exact h.next
  split
  · exact h.next
  show Kept z (S.next.app n b) f was all
  unfold Dk.app
  split
  · rename_i g hg
    split
    · exact h.next
    · exact h.next.ext (h.ne hk hn hg) b
  · have hlt : S.next.files.length ≠ f := by
      obtain ⟨x, h1, _⟩ := h.file
      have := (List.getElem?_eq_some_iff.1 h1).1
      exact fun e => by rw [← e] at this; exact Nat.lt_irrefl _ this
    split
    · exact h.next.mk1 hn
    · exact (h.next.mk1 hn).ext hlt b
theorem Kept.append_own (h : Kept z S f was all) (b : List UInt8) : ((S.append z b).2 = 0 → Kept z (S.append z b).1 f was (all ++ b)) ∧ ((S.append z b).2 ≠ 0 → Kept z (S.append z b).1 f was all) := by
  unfold Dk.append
  split
  · exact ⟨fun e => absurd e (by simp), fun _ => h⟩
  split
  · exact ⟨fun e => absurd e (by simp), fun _ => h.next⟩
  split
  · exact ⟨fun e => absurd e (by simp), fun _ => h.next⟩
  split
  · exact ⟨fun e => absurd e (by simp), fun _ => h.next⟩
  refine ⟨fun _ => ?_, fun e => absurd rfl e⟩
  show Kept z (S.next.app z b) f was (all ++ b)
  unfold Dk.app
  rw [show look S.next.dir z = some f from h.lookD]
  show Kept z (if b = [] then S.next else S.next.ext f b) f was (all ++ b)
  split
  · rename_i hb
    subst hb
    rw [List.append_nil]
    exact h.next
  · exact h.next.ext_own b
theorem Kept.sync (h : Kept z S f was all) (hk : Ok S) {n : Nm} (hn : z ≠ n) : Kept z (S.sync n).1 f was all := by
  unfold Dk.sync
  split
  · exact h.begun
  · rename_i g fl hon
    have hg : look S.dir n = some g := by
      unfold Dk.onFile at hon
      split at hon
      · cases hon
      split at hon
      · cases hon
      split at hon
      · cases hon
      · rename_i g' hl
        cases hon
        exact hl
    have hne := h.ne hk hn hg
    have hb := h.begun
    split
    · exact ⟨hb.lookS, hb.lookD, fun a ha => hb.acts a (List.mem_filter.1 ha).1, hb.modify hne _⟩
    · exact ⟨hb.lookS, hb.lookD, fun a ha => hb.acts a (List.mem_filter.1 ha).1, hb.modify hne _⟩
theorem Kept.syncDir (h : Kept z S f was all) : Kept z S.syncDir.1 f was all := by
  unfold Dk.syncDir
  split
  · exact h
  split
  · exact ⟨h.lookS, h.lookS, fun a ha => h.acts a (List.mem_filter.1 ha).1, h.file⟩
  · exact ⟨h.lookD, h.lookD, fun a ha => h.acts a (List.mem_filter.1 ha).1, h.file⟩
theorem Kept.act (h : Kept z S f was all) {a : Ac} (ha : avoids z a) : Kept z (S.act a) f was all :=
  ⟨h.lookS, (look_done _ ha).trans h.lookD, fun x hx => by
    rcases List.mem_append.1 hx with hx | hx
    · exact h.acts x hx
    · simp at hx; subst hx; exact ha, h.file⟩
theorem Kept.rename (h : Kept z S f was all) {a b : Nm} (ha : z ≠ a) (hb : z ≠ b) : Kept z (S.rename a b).1 f was all := by
  unfold Dk.rename
  split
  · exact h
  split
  · exact h.next
  split
  · exact h.next
  split
  · exact h.next
  split
  · exact h.next
  · exact h.next.act ⟨ha, hb⟩
theorem Kept.remove (h : Kept z S f was all) {n : Nm} (hn : z ≠ n) : Kept z (S.remove n).1 f was all := by
  unfold Dk.remove
  split
  · exact h.begun
  split
  · exact h.begun
  · exact h.begun.act hn
/-- Behind a crash. -/
theorem Kept.crash (h : Kept z S f was all) (keep t : Int) (hw : was ≤ all.length) : look (S.crash keep t).dir z = some f ∧ ∃ k, (S.crash keep t).bytes f = all.take k ∧ was ≤ (all.take k).length := by
  constructor
  · show look (appD S.sure (stay S.acts keep t)) z = _
    rw [look_app _ _ fun a ha => ?_]
    · exact h.lookS
    · unfold stay at ha
      rcases List.mem_append.1 ha with ha | ha
      · exact h.acts a (List.mem_of_mem_take ha)
      · unfold torn at ha
        split at ha
        · simp at ha; subst ha; trivial
        · simp at ha
  · obtain ⟨x, h1, h2, h3⟩ := h.file
    rw [crash_bytes, h1, show S.bytes f = all by simp [Dk.bytes, h1, h2]]
    refine ⟨_, rfl, ?_⟩
    simp only [List.length_take, Option.map_some, Option.getD_some]
    omega
/-- A file that was read, then synced, its directory behind it. -/
theorem kept_start {z : Nm} {S : Dk} (hk : Ok S) (h0 : (S.read z).2 = 0) (h1 : (S.begun.sync z).2 = 0) (h2 : ((S.begun.sync z).1.syncDir).2 = 0) :
    ∃ f, Kept z ((S.begun.sync z).1.syncDir).1 f (S.read z).1.length (S.read z).1 := by
  obtain ⟨f, hf, hr⟩ : ∃ f, look S.dir z = some f ∧ (S.read z).1 = S.bytes f := by
    unfold Dk.read at h0 ⊢
    unfold Dk.onFile at h0 ⊢
    by_cases e1 : S.on = false
    · rw [if_pos e1] at h0; exact absurd h0 (by simp)
    rw [if_neg e1] at h0 ⊢
    by_cases e2 : isNm z = false
    · rw [if_pos e2] at h0; exact absurd h0 (by simp)
    rw [if_neg e2] at h0 ⊢
    cases e3 : look S.dir z with
    | none => rw [e3] at h0; exact absurd h0 (by simp)
    | some f =>
      rw [e3] at h0
      refine ⟨f, rfl, ?_⟩
      cases e4 : S.fails S.n with
      | true => rw [e4] at h0; exact absurd h0 (by simp)
      | false => rfl
  have hd : S.begun.dir = S.dir ∧ S.begun.files = S.files := ⟨(begun_dir S).1, (begun_dir S).2.1⟩
  have hlk : look S.begun.dir z = some f := by rw [hd.1]; exact hf
  obtain ⟨U, hU, hUd, hUf⟩ : ∃ U : Dk, U = (S.begun.sync z).1 ∧ U.dir = S.dir ∧ U.files = S.files.modify f fun x => { x with sure := x.b.length } := by
    refine ⟨_, rfl, ?_⟩
    unfold Dk.sync at h1 ⊢
    unfold Dk.onFile at h1 ⊢
    by_cases e1 : S.begun.on = false
    · rw [if_pos e1] at h1; exact absurd h1 (by simp)
    rw [if_neg e1] at h1 ⊢
    by_cases e2 : isNm z = false
    · rw [if_pos e2] at h1; exact absurd h1 (by simp)
    rw [if_neg e2, hlk] at h1 ⊢
    cases e4 : S.begun.fails S.begun.n with
    | true => rw [e4] at h1; exact absurd h1 (by simp)
    | false =>
      show (S.begun.begun.keepF f).dir = _ ∧ (S.begun.begun.keepF f).files = _
      refine ⟨?_, ?_⟩
      · show S.begun.begun.dir = _
        rw [(begun_dir S.begun).1, hd.1]
      · show S.begun.begun.files.modify f _ = _
        rw [(begun_dir S.begun).2.1, hd.2]
  rw [← hU] at h2 ⊢
  unfold Dk.syncDir at h2 ⊢
  by_cases e1 : U.on = false
  · rw [if_pos e1] at h2; exact absurd h2 (by simp)
  rw [if_neg e1] at h2 ⊢
  by_cases e2 : U.fails U.n = true
  · rw [if_pos e2] at h2; exact absurd h2 (by simp)
  rw [if_neg e2]
  refine ⟨f, ?_, ?_, fun a ha => ?_, ?_⟩
  · show look U.dir z = _
    rw [hUd]; exact hf
  · show look U.dir z = _
    rw [hUd]; exact hf
  · have : isMore a = true := (List.mem_filter.1 ha).2
    cases a <;> simp [isMore] at this ⊢ <;> trivial
  · show ∃ x, U.files[f]? = some x ∧ x.b = (S.read z).1 ∧ (S.read z).1.length ≤ x.sure
    obtain ⟨x, hx⟩ : ∃ x, S.files[f]? = some x := ⟨_, List.getElem?_eq_getElem (hk.idD (look_id hf))⟩
    rw [hUf, hr, bytes_of hx]
    exact ⟨{ x with sure := x.b.length }, by simp [hx], rfl, Nat.le_refl _⟩
end
end Go.Proofs.YthjcimgollfmgaaGreatDoor

/-
  A file that no loose act of the directory has to do with, plainly: its bytes, how many of them are sure; what each operation makes of that. No program here. Conditions: none.
-/
namespace Go.Proofs.YthjcimgollfmgaaGreatDoor

structure Kx (z : Nm) (S : Dk) (f : Nat) (was : Nat) (all : List UInt8) : Prop where
  lookS : look S.sure z = some f
  lookD : look S.dir z = some f
  acts : ∀ a ∈ S.acts, avoids z a
  file : ∃ x, S.files[f]? = some x ∧ x.b = all ∧ x.sure = was
section
variable {z : Nm} {S : Dk} {f was : Nat} {all : List UInt8}
theorem Kx.next (h : Kx z S f was all) : Kx z S.next f was all := ⟨h.lookS, h.lookD, h.acts, h.file⟩
theorem Kx.failAt (h : Kx z S f was all) (ks : List Int) : Kx z (S.failAt ks) f was all := ⟨h.lookS, h.lookD, h.acts, h.file⟩
theorem Kx.begun (h : Kx z S f was all) : Kx z S.begun f was all := by
  unfold Dk.begun
  split
  · exact h
  · exact h.next
theorem Kx.ne (h : Kx z S f was all) (hk : Ok S) {n : Nm} (hn : z ≠ n) {g : Nat} (hg : look S.dir n = some g) : g ≠ f := by
  rintro rfl
  exact hn (same_id hk.oneD (look_mem h.lookD) (look_mem hg))
theorem Kx.modify (h : Kx z S f was all) {g : Nat} (hg : g ≠ f) (fn : Fl → Fl) : ∃ x, (S.files.modify g fn)[f]? = some x ∧ x.b = all ∧ x.sure = was := by
  have e : (S.files.modify g fn)[f]? = S.files[f]? := by simp [hg]
  rw [e]
  exact h.file
theorem Kx.ext (h : Kx z S f was all) {g : Nat} (hg : g ≠ f) (b : List UInt8) : Kx z (S.ext g b) f was all :=
  ⟨h.lookS, h.lookD, fun a ha => by
    rcases List.mem_append.1 ha with ha | ha
    · exact h.acts a ha
    · simp at ha; subst ha; trivial, h.modify hg _⟩
theorem Kx.ext_own (h : Kx z S f was all) (b : List UInt8) : Kx z (S.ext f b) f was (all ++ b) :=
  ⟨h.lookS, h.lookD, fun a ha => by
    rcases List.mem_append.1 ha with ha | ha
    · exact h.acts a ha
    · simp at ha; subst ha; trivial, by
    obtain ⟨x, h1, h2, h3⟩ := h.file
    refine ⟨{ x with b := x.b ++ b }, ?_, by simp [h2], h3⟩
    show (S.files.modify f _)[f]? = _
    simp [h1]⟩
theorem Kx.mk1 (h : Kx z S f was all) {n : Nm} (hn : z ≠ n) : Kx z (S.mk1 n) f was all :=
  ⟨h.lookS, (look_ins_ne _ hn _).trans h.lookD, fun a ha => by
    rcases List.mem_append.1 ha with ha | ha
    · exact h.acts a ha
    · simp at ha; subst ha; exact hn, by
    obtain ⟨x, h1, h2⟩ := h.file
    refine ⟨x, ?_, h2⟩
    show (S.files ++ [_])[f]? = _
    rw [List.getElem?_append_left (List.getElem?_eq_some_iff.1 h1).1]
    exact h1⟩
theorem Kx.append (h : Kx z S f was all) (hk : Ok S) {n : Nm} (hn : z ≠ n) (b : List UInt8) : Kx z (S.append n b).1 f was all := by
  unfold Dk.append
  split
  · exact h
  split
  · exact h.next
  split
  · exact h.next
  split
  · exact h.next
  show Kx z (S.next.app n b) f was all
  unfold Dk.app
  split
  · rename_i g hg
    split
    · exact h.next
    · exact h.next.ext (h.ne hk hn hg) b
  · have hlt : S.next.files.length ≠ f := by
      obtain ⟨x, h1, _⟩ := h.file
      have := (List.getElem?_eq_some_iff.1 h1).1
      exact fun e => by rw [← e] at this; exact Nat.lt_irrefl _ this
    split
    · exact h.next.mk1 hn
    · exact (h.next.mk1 hn).ext hlt b
theorem Kx.append_own (h : Kx z S f was all) (b : List UInt8) : ((S.append z b).2 = 0 → Kx z (S.append z b).1 f was (all ++ b)) ∧ ((S.append z b).2 ≠ 0 → Kx z (S.append z b).1 f was all) := by
  unfold Dk.append
  split
  · exact ⟨fun e => absurd e (by simp), fun _ => h⟩
  split
  · exact ⟨fun e => absurd e (by simp), fun _ => h.next⟩
  split
  · exact ⟨fun e => absurd e (by simp), fun _ => h.next⟩
  split
  · exact ⟨fun e => absurd e (by simp), fun _ => h.next⟩
  refine ⟨fun _ => ?_, fun e => absurd rfl e⟩
  show Kx z (S.next.app z b) f was (all ++ b)
  unfold Dk.app
  rw [show look S.next.dir z = some f from h.lookD]
  show Kx z (if b = [] then S.next else S.next.ext f b) f was (all ++ b)
  split
  · rename_i hb
    subst hb
    rw [List.append_nil]
    exact h.next
  · exact h.next.ext_own b
theorem Kx.sync (h : Kx z S f was all) (hk : Ok S) {n : Nm} (hn : z ≠ n) : Kx z (S.sync n).1 f was all := by
  unfold Dk.sync
  split
  · exact h.begun
  · rename_i g fl hon
    have hg : look S.dir n = some g := by
      unfold Dk.onFile at hon
      split at hon
      · cases hon
      split at hon
      · cases hon
      split at hon
      · cases hon
      · rename_i g' hl
        cases hon
        exact hl
    have hne := h.ne hk hn hg
    have hb := h.begun
    split
    · exact ⟨hb.lookS, hb.lookD, fun a ha => hb.acts a (List.mem_filter.1 ha).1, hb.modify hne _⟩
    · exact ⟨hb.lookS, hb.lookD, fun a ha => hb.acts a (List.mem_filter.1 ha).1, hb.modify hne _⟩
theorem Kx.syncDir (h : Kx z S f was all) : Kx z S.syncDir.1 f was all := by
  unfold Dk.syncDir
  split
  · exact h
  split
  · exact ⟨h.lookS, h.lookS, fun a ha => h.acts a (List.mem_filter.1 ha).1, h.file⟩
  · exact ⟨h.lookD, h.lookD, fun a ha => h.acts a (List.mem_filter.1 ha).1, h.file⟩
theorem Kx.act (h : Kx z S f was all) {a : Ac} (ha : avoids z a) : Kx z (S.act a) f was all :=
  ⟨h.lookS, (look_done _ ha).trans h.lookD, fun x hx => by
    rcases List.mem_append.1 hx with hx | hx
    · exact h.acts x hx
    · simp at hx; subst hx; exact ha, h.file⟩
theorem Kx.rename (h : Kx z S f was all) {a b : Nm} (ha : z ≠ a) (hb : z ≠ b) : Kx z (S.rename a b).1 f was all := by
  unfold Dk.rename
  split
  · exact h
  split
  · exact h.next
  split
  · exact h.next
  split
  · exact h.next
  split
  · exact h.next
  · exact h.next.act ⟨ha, hb⟩
theorem Kx.remove (h : Kx z S f was all) {n : Nm} (hn : z ≠ n) : Kx z (S.remove n).1 f was all := by
  unfold Dk.remove
  split
  · exact h.begun
  split
  · exact h.begun
  · exact h.begun.act hn
theorem Kx.kept (h : Kx z S f was all) : Kept z S f was all := by
  obtain ⟨x, h1, h2, h3⟩ := h.file
  exact ⟨h.lookS, h.lookD, h.acts, x, h1, h2, Nat.le_of_eq h3.symm⟩
theorem onFile_look {n : Nm} {g : Nat} {fl : Bool} (hon : S.onFile n = .ok (g, fl)) : look S.dir n = some g ∧ fl = S.fails S.n ∧ S.on = true ∧ isNm n = true := by
  unfold Dk.onFile at hon
  split at hon
  · cases hon
  split at hon
  · cases hon
  split at hon
  · cases hon
  · rename_i h1 h2 _ g' hl
    cases hon
    exact ⟨hl, rfl, by simpa using h1, by simpa using h2⟩
/-- The file's own sync: done, failed, or not begun. -/
theorem Kx.sync_own (h : Kx z S f was all) : ((S.sync z).2 = 0 → Kx z (S.sync z).1 f all.length all) ∧ ((S.sync z).2 = 34 → Kx z (S.sync z).1 f was (all.take was)) ∧ ((S.sync z).2 ≠ 0 → (S.sync z).2 ≠ 34 → Kx z (S.sync z).1 f was all) := by
  have hb := h.begun
  obtain ⟨x, h1, h2, h3⟩ := hb.file
  unfold Dk.sync
  split
  · rename_i e he
    have hne : e = 35 ∨ e = 30 ∨ e = 32 := by
      unfold Dk.onFile at he
      split at he
      · cases he; exact .inl rfl
      split at he
      · cases he; exact .inr (.inl rfl)
      split at he
      · cases he; exact .inr (.inr rfl)
      · cases he
    refine ⟨fun e0 => ?_, fun e0 => ?_, fun _ _ => hb⟩
    · simp only at e0; omega
    · simp only at e0; omega
  · rename_i g fl hon
    have hg : g = f := by
      have h5 := (onFile_look hon).1
      rw [h.lookD] at h5
      injection h5 with h5
      exact h5.symm
    subst hg
    split
    · refine ⟨fun e0 => absurd e0 (by simp), fun _ => ⟨hb.lookS, hb.lookD, fun a ha => hb.acts a (List.mem_filter.1 ha).1, { x with b := x.b.take x.sure }, ?_, ?_, h3⟩, fun _ e0 => absurd rfl e0⟩
      · show (S.begun.files.modify g _)[g]? = _
        simp [h1]
      · simp [h2, h3]
    · refine ⟨fun _ => ⟨hb.lookS, hb.lookD, fun a ha => hb.acts a (List.mem_filter.1 ha).1, { x with sure := x.b.length }, ?_, h2, by simp [h2]⟩, fun e0 => absurd e0 (by simp), fun e0 => absurd rfl e0⟩
      show (S.begun.files.modify g _)[g]? = _
      simp [h1]
/-- A name that is not there, and of which no loose act speaks. -/
structure Gone (z : Nm) (S : Dk) : Prop where
  lookS : look S.sure z = none
  lookD : look S.dir z = none
  acts : ∀ a ∈ S.acts, avoids z a
theorem Gone.next (h : Gone z S) : Gone z S.next := ⟨h.lookS, h.lookD, h.acts⟩
theorem Gone.begun (h : Gone z S) : Gone z S.begun := by
  unfold Dk.begun
  split
  · exact h
  · exact h.next
theorem Gone.ext (h : Gone z S) (g : Nat) (b : List UInt8) : Gone z (S.ext g b) :=
  ⟨h.lookS, h.lookD, fun a ha => by
    rcases List.mem_append.1 ha with ha | ha
    · exact h.acts a ha
    · simp at ha; subst ha; trivial⟩
theorem Gone.mk1 (h : Gone z S) {n : Nm} (hn : z ≠ n) : Gone z (S.mk1 n) :=
  ⟨h.lookS, (look_ins_ne _ hn _).trans h.lookD, fun a ha => by
    rcases List.mem_append.1 ha with ha | ha
    · exact h.acts a ha
    · simp at ha; subst ha; exact hn⟩
theorem Gone.append (h : Gone z S) {n : Nm} (hn : z ≠ n) (b : List UInt8) : Gone z (S.append n b).1 := by
  unfold Dk.append
  split
  · exact h
  split
  · exact h.next
  split
  · exact h.next
  split
  · exact h.next
  show Gone z (S.next.app n b)
  unfold Dk.app
  split
  · split
    · exact h.next
    · exact h.next.ext _ b
  · split
    · exact h.next.mk1 hn
    · exact (h.next.mk1 hn).ext _ b
theorem Gone.sync (h : Gone z S) (n : Nm) : Gone z (S.sync n).1 := by
  have hb := h.begun
  unfold Dk.sync
  split
  · exact hb
  · split
    · exact ⟨hb.lookS, hb.lookD, fun a ha => hb.acts a (List.mem_filter.1 ha).1⟩
    · exact ⟨hb.lookS, hb.lookD, fun a ha => hb.acts a (List.mem_filter.1 ha).1⟩
theorem Gone.syncDir (h : Gone z S) : Gone z S.syncDir.1 := by
  unfold Dk.syncDir
  split
  · exact h
  split
  · exact ⟨h.lookS, h.lookS, fun a ha => h.acts a (List.mem_filter.1 ha).1⟩
  · exact ⟨h.lookD, h.lookD, fun a ha => h.acts a (List.mem_filter.1 ha).1⟩
theorem Gone.act (h : Gone z S) {a : Ac} (ha : avoids z a) : Gone z (S.act a) :=
  ⟨h.lookS, (look_done _ ha).trans h.lookD, fun x hx => by
    rcases List.mem_append.1 hx with hx | hx
    · exact h.acts x hx
    · simp at hx; subst hx; exact ha⟩
theorem Gone.remove (h : Gone z S) {n : Nm} (hn : z ≠ n) : Gone z (S.remove n).1 := by
  unfold Dk.remove
  split
  · exact h.begun
  split
  · exact h.begun
  · exact h.begun.act hn
theorem stay_avoids {cs : List Ac} (h : ∀ a ∈ cs, avoids z a) (keep t : Int) : ∀ a ∈ stay cs keep t, avoids z a := by
  intro a ha
  unfold stay at ha
  rcases List.mem_append.1 ha with ha | ha
  · exact h a (List.mem_of_mem_take ha)
  · unfold torn at ha
    split at ha
    · simp at ha; subst ha; trivial
    · simp at ha
theorem Gone.crash (h : Gone z S) (keep t : Int) : Gone z (S.crash keep t) := by
  have e : look (appD S.sure (stay S.acts keep t)) z = none := by
    rw [look_app _ _ (stay_avoids h.acts keep t)]
    exact h.lookS
  exact ⟨e, e, fun a ha => by cases ha⟩
/-- Behind a crash: a beginning of its bytes, all sure ones among them. -/
theorem Kx.crash (h : Kx z S f was all) (hk : Ok S) (keep t : Int) : ∃ k, was ≤ (all.take k).length ∧ Kx z (S.crash keep t) f (all.take k).length (all.take k) := by
  have e : look (appD S.sure (stay S.acts keep t)) z = some f := by
    rw [look_app _ _ (stay_avoids h.acts keep t)]
    exact h.lookS
  obtain ⟨x, h1, h2, h3⟩ := h.file
  have hl := hk.lens f x h1
  have hf : (S.crash keep t).files[f]? = some ⟨x.b.take (x.sure + moreSum (stay S.acts keep t) f), x.sure + moreSum (stay S.acts keep t) f⟩ := by
    show (S.files.mapIdx _)[f]? = _
    rw [List.getElem?_mapIdx, h1]
    rfl
  have hl2 := (hk.crash keep t).lens f _ hf
  have hm : moreSum (S.crash keep t).acts f = 0 := rfl
  rw [hm] at hl2
  dsimp only at hl2
  rw [h2] at hl hl2
  refine ⟨x.sure + moreSum (stay S.acts keep t) f, ?_, e, e, (fun a ha => by cases ha), _, hf, by rw [h2], by dsimp only; omega⟩
  rw [List.length_take] at hl2 ⊢
  omega
end
end Go.Proofs.YthjcimgollfmgaaGreatDoor
