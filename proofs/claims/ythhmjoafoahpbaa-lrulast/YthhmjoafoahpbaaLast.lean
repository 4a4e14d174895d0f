/-
  LruLast, walked: a cache tells of a key what was put last, as long as it did not go. Conditions: what came in lies there.
-/
import Derived.Test.YthhmjoafoahpbaaLast1
import Derived.Deep.CutBlock
import Derived.Deep.CutRange
import Derived.Deep.LoopGhost
namespace Go.Proofs.Ythhmjoafoahpbaa
open Go.RowKit

set_option maxRecDepth 20000 in
set_option maxHeartbeats 16000000 in
theorem last_any (w : World) (budget : Int) (v : Value) (os : List Oq) (hbu : I64 budget) (h : Ob w.heap.size w v os) (hs : Small os) (hn : os.length ≤ 4611686018427387904) :
    Calls Try.prog 4 #[.int .i64 budget, v] w fun e w' => e = .returned (.bool true) ∧ Below w.heap.size w w' := by
  have h' := h
  obtain ⟨ao, cap, rfl, q1, q2, -⟩ := h'
  have hmx : (if budget < 0 then (0 : Int) else budget) = ((budget.toNat : Nat) : Int) := by split <;> omega
  have hmb : budget.toNat ≤ 9223372036854775807 := by unfold I64 at hbu; omega
  go_enter Try.func4, Try.ntmps4
  go_wp2_with fail
  refine (shown_any w).mono ?_
  rintro e w1 ⟨rfl, hb1⟩
  go_wp2_with fail
  refine (new_st (B := w.heap.size) w1 _ hbu hb1.size).mono ?_
  rintro e w2 ⟨c, rfl, hcz, s0, hc0, hz2⟩
  have HC1 : Hid (c < w2.heap.size) := by show c < w2.heap.size; omega
  clear hcz hz2
  have b2 := hb1.trans (quiet_below hb1.size hc0)
  obtain ⟨bud, hbud⟩ : ∃ bud, bud = budget.toNat := ⟨_, rfl⟩
  rw [← hbud] at s0 hmx hmb
  have hmk : (Instr.makeMap 43 none).run Try.prog w2 = .ok (.map (some w2.heap.size)) (w2.alloc (.map #[] 0)) := by kernel_rfl
  have m0 := MapI.new w2
  have hcM : Chg (fun _ => False) w2 (w2.alloc (.map #[] 0)) := (Chg.refl _ _).alloc _
  have s3 := s0.quiet hcM
  have b3 := b2.trans (quiet_below b2.size hcM)
  have hmB : w.heap.size ≤ w2.heap.size := b2.size
  have hcm : c ≠ w2.heap.size := by have := HC1.out; omega
  clear s0 hc0 HC1 hbud
  unfold pt
  go_wp2_with fail
  generalize w2.alloc (.map #[] 0) = w3 at *
  generalize w2.heap.size = m at *
  go_loopg [8] 150 (fun g i wr => ∃ (j : Nat) (F : Nat → Prop) (S : Lr) (f : Bs → Nat), g = 150 - j ∧ i = .int .i64 (j : Int) ∧ j ≤ os.length ∧ j ≤ 150 ∧ St w.heap.size wr F c S ∧ ¬ F m ∧ MapI wr m f ∧ Inv os j S f ∧ S.budget = bud ∧ S.l.length ≤ 2 * j ∧ Below w.heap.size w wr)
  case atStart => exact ⟨0, _, _, _, rfl, rfl, by omega, by omega, s3, (fun e => hcm e.symm), m0, (fun x => Or.inl ⟨rfl, rfl⟩), rfl, by simp, b3⟩
  case round =>
    clear s3 m0 b3 hcM b2 hb1 hmk hcm
    obtain ⟨j, F, S, f, rfl, rfl, j1, j2, st, hFm, hmi, hinv, hSb, hln, bb⟩ := hrel
    by_cases hlt : j < os.length ∧ j < 150
    · obtain ⟨j3, j4⟩ := hlt
      obtain ⟨b, off, rfl, hbB, hop⟩ := Ob.at (h.keep bb) j3
      obtain ⟨hsm, hkl⟩ := hs os[j] (List.getElem_mem j3)
      have HP := hide (fun hw => hinv.put st.lies.ok.uniq j3 hw)
      have HON := hide hinv.on
      have HON0 := hide hinv
      obtain ⟨kind, hkd⟩ : ∃ x, x = os[j].kind := ⟨_, rfl⟩
      obtain ⟨key, hke⟩ : ∃ x, x = os[j].key := ⟨_, rfl⟩
      obtain ⟨val, hva⟩ : ∃ x, x = os[j].val := ⟨_, rfl⟩
      obtain ⟨kk, hkk⟩ : ∃ x, x = os[j].keys := ⟨_, rfl⟩
      obtain ⟨d0, d1, d2, ⟨u, d3, hu⟩, d4⟩ := hop
      rw [← hkd] at d0 d4
      rw [← hke] at d1 hsm HP
      rw [← hva] at d2 hsm HP
      rw [← hkk] at hu hkl
      clear hkd hke hva hkk
      have hu' := hu
      obtain ⟨ua, uc, rfl, u1, u2, u4⟩ := hu'
      have hcA : Chg (fun _ => False) wr (wr.alloc (.cells #[.int .i64 kind, .string (strB key), .string (strB val), .slice ua kk.length uc] 30)) := (Chg.refl _ wr).alloc _
      have bA := bb.trans (quiet_below bb.size hcA)
      have stA := st.quiet hcA
      have miA := hmi.keep hcA (fun h => h)
      have huA := hu.keep (quiet_below bb.size hcA)
      have hlA := heap_last wr (.cells #[.int .i64 kind, .string (strB key), .string (strB val), .slice ua kk.length uc] 30)
      have hszA : (wr.alloc (.cells #[.int .i64 kind, .string (strB key), .string (strB val), .slice ua kk.length uc] 30)).heap.size = wr.heap.size + 1 := by simp
      have hqF : ¬ F wr.heap.size := fun hf => by have := st.lies.inn _ hf; omega
      have hqm : wr.heap.size ≠ m := by have := hmi.lt; omega
      have hpk := fun W => pick_any W kind 7 d4 (by omega)
      have pr := pk_range (c := kind) (n := 7) (by omega)
      clear st hmi hu hinv
      go_wp2_with fail
      refine (hpk _).mono ?_
      rintro e w6 ⟨rfl, hw6⟩
      rw [hw6]
      clear hw6
      generalize hWA : wr.alloc (.cells #[.int .i64 kind, .string (strB key), .string (strB val), .slice ua kk.length uc] 30) = wA at *
      generalize hq : wr.heap.size = q at *
      clear hWA
      have x0 : wA.cell? ⟨q, 0, none⟩ = some (.int .i64 kind) := cell_of hlA 0
      have x1 : wA.cell? ⟨q, 1, none⟩ = some (.string (strB key)) := cell_of hlA 1
      have x2 : wA.cell? ⟨q, 2, none⟩ = some (.string (strB val)) := cell_of hlA 2
      have x3 : wA.cell? ⟨q, 3, none⟩ = some (.slice ua kk.length uc) := cell_of hlA 3
      have hpk2 := hpk
      generalize pk kind 7 = kd at *
      go_upto_if 46 with fail
      go_cut [10, 11, 12, 13] from 29 to 165 (fun _ _ _ _ wx => ∃ F7 S7 f7, St w.heap.size wx F7 c S7 ∧ ¬ F7 m ∧ ¬ F7 q ∧ MapI wx m f7 ∧ Inv os (j + 1) S7 f7 ∧ S7.budget = bud ∧ S7.l.length ≤ 2 * j + 1 ∧ wx.heap[q]? = some (.cells #[.int .i64 kind, .string (strB key), .string (strB val), .slice ua kk.length uc] 30) ∧ Below w.heap.size w wx)
      case first =>
        by_cases hk4 : kd < 4
        · have hpu := put_st stA bA.size key val hsm (by omega)
          have HGL : Hid ((S.went key val).length ≤ 1000) := by
            show (S.went key val).length ≤ 1000
            unfold Lr.went
            split
            · have h1 : (del key S.l).length ≤ S.l.length := List.length_filter_le ..
              simp only [gone, List.length_reverse, List.length_map, List.length_drop, List.length_cons]
              omega
            · simp
          by_cases hw : wt (key, val) ≤ S.budget
          · have hcd : S.code key val = 0 := by unfold Lr.code; rw [if_pos hw]
            rw [hcd] at hpu
            obtain ⟨hnz, hnd, hin⟩ := HP.out hw
            unfold pt at hpu
            clear hcd
            go_wp2_with fail
            refine hpu.mono ?_
            rintro e w6 ⟨gv, b0, F7, rfl, hb0, ow6, s6, hF7, hc6⟩
            have hFm7 : ¬ F7 m := fun hf => by
              rcases (hF7 m hf).1 with hh | hh
              · exact hFm hh
              · have := miA.lt
                omega
            have hFq7 : ¬ F7 q := fun hf => by
              rcases (hF7 q hf).1 with hh | hh
              · exact hqF hh
              · omega
            have mi6 := miA.keep hc6 hFm
            have lA6 := hc6.keep hlA hqF
            have b6 := bA.trans (stA.below bA.size hc6)
            have y1 : w6.cell? ⟨q, 1, none⟩ = some (.string (strB key)) := cell_of lA6 1
            obtain ⟨w7, hput, mi7, hc7⟩ := mi6.put key (j + 1)
            rw [show (((j + 1 : Nat)) : Int) = (j : Int) + 1 by omega] at hput
            have s7 := s6.keep hc7 (fun k hk e => hFm7 (e ▸ hk))
            have lA7 := hc7.keep lA6 hqm
            have b7 := b6.trans (hc7.below (fun k e => by rw [e]; exact hmB) b6.size)
            have hts7 : Ts w7 gv (S.went key val) := Own.ts (B := b0) (own_keep ow6 hc7 (fun k hk e => by
              have h1 := (World.ownsRow.lt ow6 k hk).1
              have h2 := miA.lt
              omega))
            clear mi6 lA6 hc6 hc7
            have HMI := hide mi7
            have HS7 := hide s7
            have HNZ := hide hnz
            have HND := hide hnd
            have HIN := hide hin
            have HCP := hide lA7
            have HB7 := hide b7
            have HTS := hide (hts7 : Ts w7 gv (S.went key val))
            obtain ⟨ga, gc, rfl⟩ := own_shape ow6
            have HGM : Hid (∀ gb goff, ga = some ⟨gb, goff, none⟩ → gb ≠ m) := fun gb goff e => by
              subst e
              have h1 := (World.ownsRow.lt ow6 gb rfl).1
              have h2 := miA.lt
              omega
            have hbd7 : (S.put key val).budget = bud := (put_budget S key val).trans hSb
            have hln7 : (S.put key val).l.length ≤ 2 * j + 1 := Nat.le_trans (put_len S key val) (by omega)
            have hgl9 : (S.went key val).length ≤ 1000 := HGL.out
            clear mi7 s7 hnz hnd hin lA7 b7 hts7 ow6 stA miA s6 HP HON
            generalize S.went key val = gl at *
            go_wp2_with fail
            go_loopw [12] (fun i wr => ∃ n : Nat, i = .int .i64 (n : Int) ∧ n ≤ gl.length ∧ MapI wr m (zero (setf f key (j + 1)) (gl.take n)) ∧ Chg (· = m) w7 wr)
              (fun i _ => gl.length - (intOf i).toNat)
            case atStart => exact ⟨0, rfl, Nat.zero_le _, by rw [List.take_zero, zero_nil]; exact HMI.out, Chg.refl _ _⟩
            case round =>
              obtain ⟨n, rfl, hn1, hmi, hcm⟩ := hrel
              by_cases hnl : n < gl.length
              · obtain ⟨gb, goff, rfl, hgb, hgc⟩ : ∃ b off, ga = some ⟨b, off, none⟩ ∧ b < w7.heap.size ∧ ∀ j (h : j < gl.length), w7.cell? ⟨b, off + j, none⟩ = some (.string (strB gl[j])) := by
                  obtain ⟨ao', cap', hv, e1, e2, e4⟩ := HTS.out
                  injection hv with e5 _ _
                  subst e5
                  exact e4 (by rintro rfl; simp at hnl)
                have hgm : gb ≠ m := HGM.out gb goff rfl
                have hcx : wr.cell? ⟨gb, goff + n, none⟩ = some (.string (strB gl[n])) := (World.cell?_of_block (hcm.block gb hgb hgm)).trans (hgc n hnl)
                have hnz : zero (setf f key (j + 1)) (gl.take n) gl[n] ≠ 0 := by
                  have hni : gl[n] ∉ gl.take n := fun hin => by
                    obtain ⟨i, hi, he⟩ := List.getElem_of_mem hin
                    rw [List.getElem_take] at he
                    have hi2 : i < n := by rw [List.length_take] at hi; omega
                    have := (List.getElem_inj HND.out).1 he
                    omega
                  unfold zero
                  rw [if_neg hni]
                  exact HNZ.out _ (List.getElem_mem hnl)
                have hzm := zero_more (setf f key (j + 1)) gl hnl
                have hlk := hmi.look gl[n]
                obtain ⟨w8, hput, hmi8, hc8⟩ := hmi.put gl[n] 0
                rw [← hzm] at hmi8
                have HM8 := hide hmi8
                have hnb : (((zero (setf f key (j + 1)) (gl.take n) gl[n] : Nat) : Int) == 0) = false := by simp [hnz]
                clear hmi hmi8 hzm hgc
                generalize zero (setf f key (j + 1)) (gl.take n) gl[n] = nz at *
                generalize gl[n] = gx at *
                simp at hput
                go_wp2_with fail
                exact ⟨⟨n + 1, by go_num, by omega, HM8.out, hcm.then hc8⟩, by simp [intOf]; omega⟩
              · obtain rfl : n = gl.length := by omega
                rw [List.take_length] at hmi
                clear hnl
                have HMM := hide hmi
                clear hmi
                go_wp2
                go_meet
                exact ⟨F7, S.put key val, zero (setf f key (j + 1)) gl, HS7.out.keep hcm (fun k hk e => hFm7 (e ▸ hk)), hFm7, hFq7, HMM.out, HIN.out, hbd7, hln7, hcm.keep HCP.out hqm, HB7.out.trans (hcm.below (fun k e => by rw [e]; exact hmB) HB7.out.size)⟩
          · obtain ⟨e1, e2, e3, hin0⟩ := HON0.out.refused hw
            have hnz : ∀ x ∈ S.went key val, f x ≠ 0 := by rw [e1]; simp
            have hnd : (S.went key val).Nodup := by rw [e1]; exact List.nodup_nil
            have hin : Inv os (j + 1) (S.put key val) (zero f (S.went key val)) := by rw [e1, zero_nil]; exact hin0
            rw [e3] at hpu
            unfold pt at hpu
            clear e1 e2 e3 hin0
            go_wp2_with fail
            refine hpu.mono ?_
            rintro e w7 ⟨gv, b0, F7, rfl, hb0, ow6, s6, hF7, hc6⟩
            have hFm7 : ¬ F7 m := fun hf => by
              rcases (hF7 m hf).1 with hh | hh
              · exact hFm hh
              · have := miA.lt
                omega
            have hFq7 : ¬ F7 q := fun hf => by
              rcases (hF7 q hf).1 with hh | hh
              · exact hqF hh
              · omega
            have mi7 := miA.keep hc6 hFm
            have lA7 := hc6.keep hlA hqF
            have b7 := bA.trans (stA.below bA.size hc6)
            have s7 := s6
            have hts7 : Ts w7 gv (S.went key val) := Own.ts ow6
            clear hc6
            have HMI := hide mi7
            have HS7 := hide s7
            have HNZ := hide hnz
            have HND := hide hnd
            have HIN := hide hin
            have HCP := hide lA7
            have HB7 := hide b7
            have HTS := hide (hts7 : Ts w7 gv (S.went key val))
            obtain ⟨ga, gc, rfl⟩ := own_shape ow6
            have HGM : Hid (∀ gb goff, ga = some ⟨gb, goff, none⟩ → gb ≠ m) := fun gb goff e => by
              subst e
              have h1 := (World.ownsRow.lt ow6 gb rfl).1
              have h2 := miA.lt
              omega
            have hbd7 : (S.put key val).budget = bud := (put_budget S key val).trans hSb
            have hln7 : (S.put key val).l.length ≤ 2 * j + 1 := Nat.le_trans (put_len S key val) (by omega)
            have hgl9 : (S.went key val).length ≤ 1000 := HGL.out
            clear mi7 s7 hnz hnd hin lA7 b7 hts7 ow6 stA miA s6 HP HON
            generalize S.went key val = gl at *
            go_wp2_with fail
            go_loopw [12] (fun i wr => ∃ n : Nat, i = .int .i64 (n : Int) ∧ n ≤ gl.length ∧ MapI wr m (zero (f) (gl.take n)) ∧ Chg (· = m) w7 wr)
              (fun i _ => gl.length - (intOf i).toNat)
            case atStart => exact ⟨0, rfl, Nat.zero_le _, by rw [List.take_zero, zero_nil]; exact HMI.out, Chg.refl _ _⟩
            case round =>
              obtain ⟨n, rfl, hn1, hmi, hcm⟩ := hrel
              by_cases hnl : n < gl.length
              · obtain ⟨gb, goff, rfl, hgb, hgc⟩ : ∃ b off, ga = some ⟨b, off, none⟩ ∧ b < w7.heap.size ∧ ∀ j (h : j < gl.length), w7.cell? ⟨b, off + j, none⟩ = some (.string (strB gl[j])) := by
                  obtain ⟨ao', cap', hv, e1, e2, e4⟩ := HTS.out
                  injection hv with e5 _ _
                  subst e5
                  exact e4 (by rintro rfl; simp at hnl)
                have hgm : gb ≠ m := HGM.out gb goff rfl
                have hcx : wr.cell? ⟨gb, goff + n, none⟩ = some (.string (strB gl[n])) := (World.cell?_of_block (hcm.block gb hgb hgm)).trans (hgc n hnl)
                have hnz : zero (f) (gl.take n) gl[n] ≠ 0 := by
                  have hni : gl[n] ∉ gl.take n := fun hin => by
                    obtain ⟨i, hi, he⟩ := List.getElem_of_mem hin
                    rw [List.getElem_take] at he
                    have hi2 : i < n := by rw [List.length_take] at hi; omega
                    have := (List.getElem_inj HND.out).1 he
                    omega
                  unfold zero
                  rw [if_neg hni]
                  exact HNZ.out _ (List.getElem_mem hnl)
                have hzm := zero_more (f) gl hnl
                have hlk := hmi.look gl[n]
                obtain ⟨w8, hput, hmi8, hc8⟩ := hmi.put gl[n] 0
                rw [← hzm] at hmi8
                have HM8 := hide hmi8
                have hnb : (((zero (f) (gl.take n) gl[n] : Nat) : Int) == 0) = false := by simp [hnz]
                clear hmi hmi8 hzm hgc
                generalize zero (f) (gl.take n) gl[n] = nz at *
                generalize gl[n] = gx at *
                simp at hput
                go_wp2_with fail
                exact ⟨⟨n + 1, by go_num, by omega, HM8.out, hcm.then hc8⟩, by simp [intOf]; omega⟩
              · obtain rfl : n = gl.length := by omega
                rw [List.take_length] at hmi
                clear hnl
                have HMM := hide hmi
                clear hmi
                go_wp2
                go_meet
                exact ⟨F7, S.put key val, zero (f) gl, HS7.out.keep hcm (fun k hk e => hFm7 (e ▸ hk)), hFm7, hFq7, HMM.out, HIN.out, hbd7, hln7, hcm.keep HCP.out hqm, HB7.out.trans (hcm.below (fun k e => by rw [e]; exact hmB) HB7.out.size)⟩
        · have hk4b : ¬ kd < 4 := hk4
          by_cases hk6 : kd = 6
          · subst hk6
            have hdr := drop_st stA _ kk (huA.tf bA.size stA.new) hkl
            have HIN := hide (HON.out.drop kk)
            unfold pt at hdr
            go_wp2_with fail
            refine (hpk _).mono ?_
            rintro e w6 ⟨rfl, hw6⟩
            rw [hw6]
            clear hw6
            go_wp2_with fail
            refine hdr.mono ?_
            rintro e w7 ⟨rfl, s7, hc7⟩
            have mi7 := miA.keep hc7 hFm
            have lA7 := hc7.keep hlA hqF
            have b7 := bA.trans (stA.below bA.size hc7)
            have hu7 := huA.keep (stA.below bA.size hc7)
            have HS7 := hide s7
            have HMI := hide mi7
            have HCP := hide lA7
            have HB7 := hide b7
            have HU := hide hu7
            clear stA miA s7 mi7 lA7 b7 HP HON hdr hu7 huA
            go_wp2_with fail
            go_loopw [13] (fun i wr => ∃ n : Nat, i = .int .i64 (n : Int) ∧ n ≤ kk.length ∧ MapI wr m (zero f (kk.take n)) ∧ Chg (· = m) w7 wr)
              (fun i _ => kk.length - (intOf i).toNat)
            case atStart => exact ⟨0, rfl, Nat.zero_le _, by rw [List.take_zero, zero_nil]; exact HMI.out, Chg.refl _ _⟩
            case round =>
              obtain ⟨n, rfl, hn1, hmi, hcm⟩ := hrel
              have z3 : wr.cell? ⟨q, 3, none⟩ = some (.slice ua kk.length uc) := cell_of (hcm.keep HCP.out hqm) 3
              by_cases hnl : n < kk.length
              · obtain ⟨gb, goff, rfl, hgb, hgc⟩ : ∃ b off, ua = some ⟨b, off, none⟩ ∧ b < w.heap.size ∧ ∀ j (h : j < kk.length), w7.cell? ⟨b, off + j, none⟩ = some (.string (strB kk[j])) := by
                  obtain ⟨ao', cap', hv, e1, e2, e4⟩ := HU.out
                  injection hv with e5 _ _
                  subst e5
                  exact e4 (by rintro rfl; simp at hnl)
                have hcx : wr.cell? ⟨gb, goff + n, none⟩ = some (.string (strB kk[n])) := (World.cell?_of_block (hcm.block gb (by have := HB7.out.size; omega) (by omega))).trans (hgc n hnl)
                have hzm := zero_more f kk hnl
                obtain ⟨w8, hput, hmi8, hc8⟩ := hmi.put kk[n] 0
                rw [← hzm] at hmi8
                have HM8 := hide hmi8
                clear hmi hmi8 hzm hgc
                generalize kk[n] = gx at *
                simp at hput
                go_wp2_with fail
                exact ⟨⟨n + 1, by go_num, by omega, HM8.out, hcm.then hc8⟩, by simp [intOf]; omega⟩
              · obtain rfl : n = kk.length := by omega
                rw [List.take_length] at hmi
                clear hnl
                have HMM := hide hmi
                clear hmi
                go_wp2
                go_meet
                exact ⟨F, S.drop kk, zero f kk, HS7.out.keep hcm (fun k hk e => hFm (e ▸ hk)), hFm, hqF, HMM.out, HIN.out, hSb, Nat.le_trans (dropAll_len kk S.l) (by omega), hcm.keep HCP.out hqm, HB7.out.trans (hcm.below (fun k e => by rw [e]; exact hmB) HB7.out.size)⟩
          · have hk7 : (kd == 6) = false := by simp [hk6]
            go_wp2_with fail
            refine (hpk _).mono ?_
            rintro e w6 ⟨rfl, hw6⟩
            rw [hw6]
            clear hw6
            go_wp2
            go_meet
            exact ⟨F, S, f, stA, hFm, hqF, miA, HON.out, hSb, by omega, hlA, bA⟩
      case rest =>
        clear stA miA hlA bA x0 x1 x2 x3 huA hpk hpk2 HP HON HON0 hszA hqF hcA hFm
        obtain ⟨F7, S7, f7, s7, hFm7, hFq7, mi7, in7, hbd7, hln7, lA7, b7⟩ := hcut
        have y1 : wc.cell? ⟨q, 1, none⟩ = some (.string (strB key)) := cell_of lA7 1
        have hgg := get_st s7 key
        unfold pt at hgg
        go_wp2_with fail
        refine hgg.mono ?_
        rintro e w8 ⟨rfl, s8, hc8⟩
        have mi8 := mi7.keep hc8 hFm7
        have y8 : w8.cell? ⟨q, 1, none⟩ = some (.string (strB key)) := cell_of (hc8.keep lA7 hFq7) 1
        have b8 := b7.trans (s7.below b7.size hc8)
        have lk8 := mi8.look key
        have in8 := in7.get key
        have hbd8 := (get_budget S7 key).trans hbd7
        have hln8 : (S7.get key).l.length ≤ 2 * (j + 1) := Nat.le_trans (get_len S7 key) (by omega)
        have hby := bytes_any s8.lies
        have htot : tot (S7.get key).l ≤ bud := by have := s8.lies.ok.tot; rw [hbd8] at this; exact this
        have hsk := in7 key
        have hob8 := h.keep b8
        generalize S7.get key = S8 at *
        have HS8 := hide s8
        have HM8 := hide mi8
        have HI8 := hide in8
        clear s7 mi7 in7 s8 mi8 in8 lA7 y1 hgg
        go_upto_region 28 with fail
        have htd : (decide ((bud : Int) < ((tot S8.l : Nat) : Int))) = false := decide_eq_false (by omega)
        have htd2 : decide (bud < tot S8.l) = false := decide_eq_false (by omega)
        generalize tot S8.l = T8 at *
        unfold pt at hby
        go_cut [14, 15, 16, 136] from 29 to 165 (fun _ _ _ cc wx => cc = .bool false ∧ wx = w8)
        case first =>
          rcases hsk with ⟨e1, e2⟩ | ⟨i, hi, hij, e2, e1⟩
          · rw [e1, e2]
            simp only [Option.getD_none, Option.isSome_none]
            go_wp2_with fail
            refine hby.mono ?_
            rintro e w9 ⟨rfl, hw9⟩
            rw [hw9]
            clear hw9
            go_wp2
            go_meet
            first | exact ⟨congrArg Value.bool htd2, rfl⟩ | exact ⟨rfl, rfl⟩
          · obtain ⟨b', off', hbo, hbB', hop⟩ := Ob.at hob8 hi
            injection hbo with hbo
            injection hbo with hb1 hb2
            subst hb1 hb2
            obtain ⟨-, -, dv, -, -⟩ := hop
            have tv := toL os[i].val
            rw [e1, e2]
            generalize os[i].val = ov at *
            simp only [Option.getD_some, Option.isSome_some]
            have hci : (((i + 1 : Nat)) : Int) = (i : Int) + 1 := by omega
            rw [hci]
            have hcj : (i : Int) + 1 - 1 = (i : Int) := by omega
            go_wp2_with fail
            refine hby.mono ?_
            rintro e w9 ⟨rfl, hw9⟩
            rw [hw9]
            clear hw9
            go_wp2
            go_meet
            first | exact ⟨congrArg Value.bool htd2, rfl⟩ | exact ⟨rfl, rfl⟩
        case rest =>
          obtain ⟨rfl, hwc⟩ := hcut
          rw [hwc]
          clear hwc hsk hby htd lk8 y8 hob8
          have hks := keys_any HS8.out.lies
          have hKU := HS8.out.lies.ok.uniq
          have hKL : (S8.l.map (·.1)).length ≤ 1000 := by simp; omega
          have hnzk : ∀ x ∈ S8.l.map (·.1), f7 x ≠ 0 := fun x hx => HI8.out.keys hx
          unfold Uniq at hKU
          unfold pt at hks
          go_wp2_with fail
          refine hks.mono ?_
          rintro e w9 ⟨vk, rfl, ok9, hc9⟩
          have mi9 := HM8.out.keep hc9 (fun h => h)
          have s9 := HS8.out.quiet hc9
          have b9 := b8.trans (quiet_below b8.size hc9)
          have tk9 := ok9.ts
          obtain ⟨ka, kc, rfl⟩ := own_shape ok9
          generalize S8.l.map (·.1) = ks at *
          have HTK := hide tk9
          have HKU := hide hKU
          have HNK := hide hnzk
          have H9 := hide mi9
          have HS9 := hide s9
          have HB9 := hide b9
          clear tk9 hKU hnzk mi9 s9 b9 ok9 HS8 HM8 hks
          go_wp2_with fail
          go_loopw [18] (fun i wr => ∃ n : Nat, i = .int .i64 (n : Int) ∧ n ≤ ks.length ∧ Chg (fun _ => False) w9 wr)
            (fun i _ => ks.length - (intOf i).toNat)
          case atStart => exact ⟨0, rfl, Nat.zero_le _, Chg.refl _ _⟩
          case round =>
            obtain ⟨n, rfl, hn1, hcq⟩ := hrel
            by_cases hnl : n < ks.length
            · obtain ⟨kb, koff, rfl, hkb, hkc⟩ : ∃ b off, ka = some ⟨b, off, none⟩ ∧ b < w9.heap.size ∧ ∀ j (h : j < ks.length), w9.cell? ⟨b, off + j, none⟩ = some (.string (strB ks[j])) := by
                obtain ⟨ao', cap', hv, e1, e2, e4⟩ := HTK.out
                injection hv with e5 _ _
                subst e5
                exact e4 (by rintro rfl; simp at hnl)
              have ck : wr.cell? ⟨kb, koff + n, none⟩ = some (.string (strB ks[n])) := (World.cell?_of_block (hcq.block kb hkb (fun h => h))).trans (hkc n hnl)
              have c0 : wr.cell? ⟨kb, koff, none⟩ = some (.string (strB ks[0])) := (World.cell?_of_block (hcq.block kb hkb (fun h => h))).trans (hkc 0 (by omega))
              have lk := (H9.out.keep hcq.drew (fun h => h)).look ks[n]
              have hk0 : 0 < ks.length := by omega
              have hz := HNK.out ks[n] (List.getElem_mem hnl)
              have hne : n ≠ 0 → ks[n] ≠ ks[0] := fun h0 e => h0 ((List.getElem_inj HKU.out).1 e)
              have hnb : (((f7 ks[n] : Nat) : Int) == 0) = false := by simp [hz]
              generalize f7 ks[n] = nz at *
              generalize ks[n] = kx at *
              generalize ks[0] = k0 at *
              have t1 := toL kx
              have t2 := toL k0
              clear hkc hz
              by_cases hn0 : n = 0
              · subst hn0
                clear hne
                go_wp2_with fail
                refine wp_region_held_drew (S := fun W => W.cell? ⟨kb, koff, none⟩ = some (.string (strB kx)) ∧ (Instr.lookup 43 (.map (some m)) (.string (strB kx)) false).run Try.prog W = .ok (.int .i64 (nz : Int)) W) (by kernel_rfl) (⟨ck, lk⟩) (fun hHeld => ?_)
                refine takeH (i := 0) (v := ?_) rfl (by kernel_rfl) (by kernel_rfl) (by kernel_rfl) (fun _ _ _ h => h) rfl ?_ hHeld ?_
                rotate_left
                · intro w hS; (try dsimp only at hS); obtain ⟨hS0, hS1⟩ := hS; go_simp; first | done | (with_reducible rfl)
                try simp only [Act.put, List.setIfInBounds_toArray, List.set_cons_zero, List.set_cons_succ]
                refine takeH (i := 1) (v := ?_) rfl (by kernel_rfl) (by kernel_rfl) (by kernel_rfl) (fun _ _ _ h => h) rfl ?_ hHeld ?_
                rotate_left
                · intro w hS; (try dsimp only at hS); obtain ⟨hS0, hS1⟩ := hS; go_simp; first | done | (with_reducible rfl)
                try simp only [Act.put, List.setIfInBounds_toArray, List.set_cons_zero, List.set_cons_succ]
                refine takeH (i := 2) (v := ?_) rfl (by kernel_rfl) (by kernel_rfl) (by kernel_rfl) (fun _ _ _ h => h) rfl ?_ hHeld ?_
                rotate_left
                · intro w hS; (try dsimp only at hS); obtain ⟨hS0, hS1⟩ := hS; go_simp; first | done | (with_reducible rfl)
                try simp only [Act.put, List.setIfInBounds_toArray, List.set_cons_zero, List.set_cons_succ]
                refine takeH (i := 3) (v := ?_) rfl (by kernel_rfl) (by kernel_rfl) (by kernel_rfl) (fun _ _ _ h => h) rfl ?_ hHeld ?_
                rotate_left
                · intro w hS; (try dsimp only at hS); obtain ⟨hS0, hS1⟩ := hS; go_simp; first | done | (with_reducible rfl)
                try simp only [Act.put, List.setIfInBounds_toArray, List.set_cons_zero, List.set_cons_succ]
                refine takeH (i := 4) (v := ?_) rfl (by kernel_rfl) (by kernel_rfl) (by kernel_rfl) (fun _ _ _ h => h) rfl ?_ hHeld ?_
                rotate_left
                · intro w hS; (try dsimp only at hS); obtain ⟨hS0, hS1⟩ := hS; go_simp; first | done | (with_reducible rfl)
                try simp only [Act.put, List.setIfInBounds_toArray, List.set_cons_zero, List.set_cons_succ]
                refine takeH (i := 5) (v := ?_) rfl (by kernel_rfl) (by kernel_rfl) (by kernel_rfl) (fun _ _ _ h => h) rfl ?_ hHeld ?_
                rotate_left
                · intro w hS; (try dsimp only at hS); obtain ⟨hS0, hS1⟩ := hS; go_simp; first | done | (with_reducible rfl)
                try simp only [Act.put, List.setIfInBounds_toArray, List.set_cons_zero, List.set_cons_succ]
                refine takeH (i := 6) (v := ?_) rfl (by kernel_rfl) (by kernel_rfl) (by kernel_rfl) (fun _ _ _ h => h) rfl ?_ hHeld ?_
                rotate_left
                · intro w hS; (try dsimp only at hS); obtain ⟨hS0, hS1⟩ := hS; go_simp; first | done | (with_reducible rfl)
                try simp only [Act.put, List.setIfInBounds_toArray, List.set_cons_zero, List.set_cons_succ]
                refine takeH (i := 7) (v := ?_) rfl (by kernel_rfl) (by kernel_rfl) (by kernel_rfl) (fun _ _ _ h => h) rfl ?_ hHeld ?_
                rotate_left
                · intro w hS; (try dsimp only at hS); obtain ⟨hS0, hS1⟩ := hS; go_simp; first | done | (with_reducible rfl)
                try simp only [Act.put, List.setIfInBounds_toArray, List.set_cons_zero, List.set_cons_succ]
                refine takeH (i := 8) (v := ?_) rfl (by kernel_rfl) (by kernel_rfl) (by kernel_rfl) (fun _ _ _ h => h) rfl ?_ hHeld ?_
                rotate_left
                · intro w hS; (try dsimp only at hS); obtain ⟨hS0, hS1⟩ := hS; go_simp; first | done | (with_reducible rfl)
                try simp only [Act.put, List.setIfInBounds_toArray, List.set_cons_zero, List.set_cons_succ]
                refine takeH (i := 9) (v := ?_) rfl (by kernel_rfl) (by kernel_rfl) (by kernel_rfl) (fun _ _ _ h => h) rfl ?_ hHeld ?_
                rotate_left
                · intro w hS; (try dsimp only at hS); obtain ⟨hS0, hS1⟩ := hS; go_simp; first | done | (with_reducible rfl)
                try simp only [Act.put, List.setIfInBounds_toArray, List.set_cons_zero, List.set_cons_succ]
                refine takeH (i := 10) (v := ?_) rfl (by kernel_rfl) (by kernel_rfl) (by kernel_rfl) (fun _ _ _ h => h) rfl ?_ hHeld ?_
                rotate_left
                · intro w hS; (try dsimp only at hS); obtain ⟨hS0, hS1⟩ := hS; go_simp; first | done | (with_reducible rfl)
                try simp only [Act.put, List.setIfInBounds_toArray, List.set_cons_zero, List.set_cons_succ]
                refine skipH (i := 11) rfl (by kernel_rfl) (by kernel_rfl) (by kernel_rfl) (fun _ _ _ h => h) rfl hHeld ?_
                try simp only [Act.put, List.setIfInBounds_toArray, List.set_cons_zero, List.set_cons_succ]
                refine skipH (i := 12) rfl (by kernel_rfl) (by kernel_rfl) (by kernel_rfl) (fun _ _ _ h => h) rfl hHeld ?_
                try simp only [Act.put, List.setIfInBounds_toArray, List.set_cons_zero, List.set_cons_succ]
                refine skipH (i := 13) rfl (by kernel_rfl) (by kernel_rfl) (by kernel_rfl) (fun _ _ _ h => h) rfl hHeld ?_
                try simp only [Act.put, List.setIfInBounds_toArray, List.set_cons_zero, List.set_cons_succ]
                refine skipH (i := 14) rfl (by kernel_rfl) (by kernel_rfl) (by kernel_rfl) (fun _ _ _ h => h) rfl hHeld ?_
                try simp only [Act.put, List.setIfInBounds_toArray, List.set_cons_zero, List.set_cons_succ]
                refine skipH (i := 15) rfl (by kernel_rfl) (by kernel_rfl) (by kernel_rfl) (fun _ _ _ h => h) rfl hHeld ?_
                try simp only [Act.put, List.setIfInBounds_toArray, List.set_cons_zero, List.set_cons_succ]
                refine skipH (i := 16) rfl (by kernel_rfl) (by kernel_rfl) (by kernel_rfl) (fun _ _ _ h => h) rfl hHeld ?_
                try simp only [Act.put, List.setIfInBounds_toArray, List.set_cons_zero, List.set_cons_succ]
                refine skipH (i := 17) rfl (by kernel_rfl) (by kernel_rfl) (by kernel_rfl) (fun _ _ _ h => h) rfl hHeld ?_
                try simp only [Act.put, List.setIfInBounds_toArray, List.set_cons_zero, List.set_cons_succ]
                refine skipH (i := 18) rfl (by kernel_rfl) (by kernel_rfl) (by kernel_rfl) (fun _ _ _ h => h) rfl hHeld ?_
                try simp only [Act.put, List.setIfInBounds_toArray, List.set_cons_zero, List.set_cons_succ]
                refine takeH (i := 19) (v := ?_) rfl (by kernel_rfl) (by kernel_rfl) (by kernel_rfl) (fun _ _ _ h => h) rfl ?_ hHeld ?_
                rotate_left
                · intro w hS; (try dsimp only at hS); obtain ⟨hS0, hS1⟩ := hS; go_simp; first | done | (with_reducible rfl)
                try simp only [Act.put, List.setIfInBounds_toArray, List.set_cons_zero, List.set_cons_succ]
                refine takeH (i := 20) (v := ?_) rfl (by kernel_rfl) (by kernel_rfl) (by kernel_rfl) (fun _ _ _ h => h) rfl ?_ hHeld ?_
                rotate_left
                · intro w hS; (try dsimp only at hS); obtain ⟨hS0, hS1⟩ := hS; go_simp; first | done | (with_reducible rfl)
                try simp only [Act.put, List.setIfInBounds_toArray, List.set_cons_zero, List.set_cons_succ]
                refine wpAnyH_done (by kernel_rfl) ?_ _
                clear hHeld
                go_wp2_with fail
                exact ⟨⟨1, by go_num, by omega, hcq.drew⟩, by simp [intOf]; omega⟩
              · have hkk := str_ne (hne hn0)
                have hn2 : (0 : Int) < (n : Int) := by omega
                have hn3 : 0 < n := by omega
                clear hne
                go_wp2_with fail
                refine wp_region_held_drew (S := fun W => W.cell? ⟨kb, koff + n, none⟩ = some (.string (strB kx)) ∧ W.cell? ⟨kb, koff, none⟩ = some (.string (strB k0)) ∧ (Instr.lookup 43 (.map (some m)) (.string (strB kx)) false).run Try.prog W = .ok (.int .i64 (nz : Int)) W) (by kernel_rfl) (⟨ck, c0, lk⟩) (fun hHeld => ?_)
                refine takeH (i := 0) (v := ?_) rfl (by kernel_rfl) (by kernel_rfl) (by kernel_rfl) (fun _ _ _ h => h) rfl ?_ hHeld ?_
                rotate_left
                · intro w hS; (try dsimp only at hS); obtain ⟨hS0, hS1, hS2⟩ := hS; go_simp; first | done | (with_reducible rfl)
                try simp only [Act.put, List.setIfInBounds_toArray, List.set_cons_zero, List.set_cons_succ]
                refine takeH (i := 1) (v := ?_) rfl (by kernel_rfl) (by kernel_rfl) (by kernel_rfl) (fun _ _ _ h => h) rfl ?_ hHeld ?_
                rotate_left
                · intro w hS; (try dsimp only at hS); obtain ⟨hS0, hS1, hS2⟩ := hS; go_simp; first | done | (with_reducible rfl)
                try simp only [Act.put, List.setIfInBounds_toArray, List.set_cons_zero, List.set_cons_succ]
                refine takeH (i := 2) (v := ?_) rfl (by kernel_rfl) (by kernel_rfl) (by kernel_rfl) (fun _ _ _ h => h) rfl ?_ hHeld ?_
                rotate_left
                · intro w hS; (try dsimp only at hS); obtain ⟨hS0, hS1, hS2⟩ := hS; go_simp; first | done | (with_reducible rfl)
                try simp only [Act.put, List.setIfInBounds_toArray, List.set_cons_zero, List.set_cons_succ]
                refine takeH (i := 3) (v := ?_) rfl (by kernel_rfl) (by kernel_rfl) (by kernel_rfl) (fun _ _ _ h => h) rfl ?_ hHeld ?_
                rotate_left
                · intro w hS; (try dsimp only at hS); obtain ⟨hS0, hS1, hS2⟩ := hS; go_simp; first | done | (with_reducible rfl)
                try simp only [Act.put, List.setIfInBounds_toArray, List.set_cons_zero, List.set_cons_succ]
                refine takeH (i := 4) (v := ?_) rfl (by kernel_rfl) (by kernel_rfl) (by kernel_rfl) (fun _ _ _ h => h) rfl ?_ hHeld ?_
                rotate_left
                · intro w hS; (try dsimp only at hS); obtain ⟨hS0, hS1, hS2⟩ := hS; go_simp; first | done | (with_reducible rfl)
                try simp only [Act.put, List.setIfInBounds_toArray, List.set_cons_zero, List.set_cons_succ]
                refine takeH (i := 5) (v := ?_) rfl (by kernel_rfl) (by kernel_rfl) (by kernel_rfl) (fun _ _ _ h => h) rfl ?_ hHeld ?_
                rotate_left
                · intro w hS; (try dsimp only at hS); obtain ⟨hS0, hS1, hS2⟩ := hS; go_simp; first | done | (with_reducible rfl)
                try simp only [Act.put, List.setIfInBounds_toArray, List.set_cons_zero, List.set_cons_succ]
                refine takeH (i := 6) (v := ?_) rfl (by kernel_rfl) (by kernel_rfl) (by kernel_rfl) (fun _ _ _ h => h) rfl ?_ hHeld ?_
                rotate_left
                · intro w hS; (try dsimp only at hS); obtain ⟨hS0, hS1, hS2⟩ := hS; go_simp; first | done | (with_reducible rfl)
                try simp only [Act.put, List.setIfInBounds_toArray, List.set_cons_zero, List.set_cons_succ]
                refine takeH (i := 7) (v := ?_) rfl (by kernel_rfl) (by kernel_rfl) (by kernel_rfl) (fun _ _ _ h => h) rfl ?_ hHeld ?_
                rotate_left
                · intro w hS; (try dsimp only at hS); obtain ⟨hS0, hS1, hS2⟩ := hS; go_simp; first | done | (with_reducible rfl)
                try simp only [Act.put, List.setIfInBounds_toArray, List.set_cons_zero, List.set_cons_succ]
                refine takeH (i := 8) (v := ?_) rfl (by kernel_rfl) (by kernel_rfl) (by kernel_rfl) (fun _ _ _ h => h) rfl ?_ hHeld ?_
                rotate_left
                · intro w hS; (try dsimp only at hS); obtain ⟨hS0, hS1, hS2⟩ := hS; go_simp; first | done | (with_reducible rfl)
                try simp only [Act.put, List.setIfInBounds_toArray, List.set_cons_zero, List.set_cons_succ]
                refine takeH (i := 9) (v := ?_) rfl (by kernel_rfl) (by kernel_rfl) (by kernel_rfl) (fun _ _ _ h => h) rfl ?_ hHeld ?_
                rotate_left
                · intro w hS; (try dsimp only at hS); obtain ⟨hS0, hS1, hS2⟩ := hS; go_simp; first | done | (with_reducible rfl)
                try simp only [Act.put, List.setIfInBounds_toArray, List.set_cons_zero, List.set_cons_succ]
                refine takeH (i := 10) (v := ?_) rfl (by kernel_rfl) (by kernel_rfl) (by kernel_rfl) (fun _ _ _ h => h) rfl ?_ hHeld ?_
                rotate_left
                · intro w hS; (try dsimp only at hS); obtain ⟨hS0, hS1, hS2⟩ := hS; go_simp; first | done | (with_reducible rfl)
                try simp only [Act.put, List.setIfInBounds_toArray, List.set_cons_zero, List.set_cons_succ]
                refine takeH (i := 11) (v := ?_) rfl (by kernel_rfl) (by kernel_rfl) (by kernel_rfl) (fun _ _ _ h => h) rfl ?_ hHeld ?_
                rotate_left
                · intro w hS; (try dsimp only at hS); obtain ⟨hS0, hS1, hS2⟩ := hS; go_simp; first | done | (with_reducible rfl)
                try simp only [Act.put, List.setIfInBounds_toArray, List.set_cons_zero, List.set_cons_succ]
                refine takeH (i := 12) (v := ?_) rfl (by kernel_rfl) (by kernel_rfl) (by kernel_rfl) (fun _ _ _ h => h) rfl ?_ hHeld ?_
                rotate_left
                · intro w hS; (try dsimp only at hS); obtain ⟨hS0, hS1, hS2⟩ := hS; go_simp; first | done | (with_reducible rfl)
                try simp only [Act.put, List.setIfInBounds_toArray, List.set_cons_zero, List.set_cons_succ]
                refine takeH (i := 13) (v := ?_) rfl (by kernel_rfl) (by kernel_rfl) (by kernel_rfl) (fun _ _ _ h => h) rfl ?_ hHeld ?_
                rotate_left
                · intro w hS; (try dsimp only at hS); obtain ⟨hS0, hS1, hS2⟩ := hS; go_simp; first | done | (with_reducible rfl)
                try simp only [Act.put, List.setIfInBounds_toArray, List.set_cons_zero, List.set_cons_succ]
                refine takeH (i := 14) (v := ?_) rfl (by kernel_rfl) (by kernel_rfl) (by kernel_rfl) (fun _ _ _ h => h) rfl ?_ hHeld ?_
                rotate_left
                · intro w hS; (try dsimp only at hS); obtain ⟨hS0, hS1, hS2⟩ := hS; go_simp; first | done | (with_reducible rfl)
                try simp only [Act.put, List.setIfInBounds_toArray, List.set_cons_zero, List.set_cons_succ]
                refine takeH (i := 15) (v := ?_) rfl (by kernel_rfl) (by kernel_rfl) (by kernel_rfl) (fun _ _ _ h => h) rfl ?_ hHeld ?_
                rotate_left
                · intro w hS; (try dsimp only at hS); obtain ⟨hS0, hS1, hS2⟩ := hS; go_simp; first | done | (with_reducible rfl)
                try simp only [Act.put, List.setIfInBounds_toArray, List.set_cons_zero, List.set_cons_succ]
                refine takeH (i := 16) (v := ?_) rfl (by kernel_rfl) (by kernel_rfl) (by kernel_rfl) (fun _ _ _ h => h) rfl ?_ hHeld ?_
                rotate_left
                · intro w hS; (try dsimp only at hS); obtain ⟨hS0, hS1, hS2⟩ := hS; go_simp; first | done | (with_reducible rfl)
                try simp only [Act.put, List.setIfInBounds_toArray, List.set_cons_zero, List.set_cons_succ]
                refine takeH (i := 17) (v := ?_) rfl (by kernel_rfl) (by kernel_rfl) (by kernel_rfl) (fun _ _ _ h => h) rfl ?_ hHeld ?_
                rotate_left
                · intro w hS; (try dsimp only at hS); obtain ⟨hS0, hS1, hS2⟩ := hS; go_simp; first | done | (with_reducible rfl)
                try simp only [Act.put, List.setIfInBounds_toArray, List.set_cons_zero, List.set_cons_succ]
                refine takeH (i := 18) (v := ?_) rfl (by kernel_rfl) (by kernel_rfl) (by kernel_rfl) (fun _ _ _ h => h) rfl ?_ hHeld ?_
                rotate_left
                · intro w hS; (try dsimp only at hS); obtain ⟨hS0, hS1, hS2⟩ := hS; go_simp; first | done | (with_reducible rfl)
                try simp only [Act.put, List.setIfInBounds_toArray, List.set_cons_zero, List.set_cons_succ]
                refine takeH (i := 19) (v := ?_) rfl (by kernel_rfl) (by kernel_rfl) (by kernel_rfl) (fun _ _ _ h => h) rfl ?_ hHeld ?_
                rotate_left
                · intro w hS; (try dsimp only at hS); obtain ⟨hS0, hS1, hS2⟩ := hS; go_simp; first | done | (with_reducible rfl)
                try simp only [Act.put, List.setIfInBounds_toArray, List.set_cons_zero, List.set_cons_succ]
                refine takeH (i := 20) (v := ?_) rfl (by kernel_rfl) (by kernel_rfl) (by kernel_rfl) (fun _ _ _ h => h) rfl ?_ hHeld ?_
                rotate_left
                · intro w hS; (try dsimp only at hS); obtain ⟨hS0, hS1, hS2⟩ := hS; go_simp; first | done | (with_reducible rfl)
                try simp only [Act.put, List.setIfInBounds_toArray, List.set_cons_zero, List.set_cons_succ]
                refine wpAnyH_done (by kernel_rfl) ?_ _
                clear hHeld
                go_wp2_with fail
                exact ⟨⟨n + 1, by go_num, by omega, hcq.drew⟩, by simp [intOf]; omega⟩
            · obtain rfl : n = ks.length := by omega
              clear hnl
              go_wp2_with fail
              go_roundg (150 - (j + 1))
              case measure => omega
              case rel => exact ⟨j + 1, F7, S8, f7, rfl, by go_num, by omega, by omega, HS9.out.quiet hcq, hFm7, H9.out.keep hcq (fun h => h), HI8.out, hbd8, hln8, HB9.out.trans (quiet_below HB9.out.size hcq)⟩
    · by_cases hil : j < os.length
      · obtain rfl : j = 150 := by omega
        go_wp2
        go_ret
        exact ⟨rfl, bb⟩
      · obtain rfl : j = os.length := by omega
        go_wp2
        go_ret
        exact ⟨rfl, bb⟩
end Go.Proofs.Ythhmjoafoahpbaa
