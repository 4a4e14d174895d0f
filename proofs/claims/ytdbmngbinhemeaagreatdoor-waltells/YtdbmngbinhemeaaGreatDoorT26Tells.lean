/-
  WalTells, walked: one byte that is turned is told, or makes no difference. Conditions: what came in lies there; the table holds its numbers.
-/
import Derived.Test.YtdbmngbinhemeaaGreatDoorT25Names
import Derived.Deep.CutBlock
import Derived.Deep.CutRange
namespace Go.Proofs.YtdbmngbinhemeaaGreatDoor
open Go.RowKit

def rs3 : List (List UInt8) := [[116, 111, 114, 110], [116, 97, 105, 108], [111, 102, 32, 97, 32, 103, 114, 111, 117, 112, 32, 116, 104, 97, 116, 32, 109, 97, 121, 32, 110, 111, 116, 32, 115, 116, 97, 110, 100]]
theorem few3 : fewW rs3 = rs3 := by decide
theorem right3 : right rs3 = true := by decide
theorem grp3 : (grp sum4 rs3).length ≤ 7264 := by
  have := grp_few rs3
  rwa [few3] at this
theorem tx3 (w : World) : Tx (w.alloc (.cells #[.string (strB [116, 111, 114, 110]), .string (strB [116, 97, 105, 108]), .string (strB [111, 102, 32, 97, 32, 103, 114, 111, 117, 112, 32, 116, 104, 97, 116, 32, 109, 97, 121, 32, 110, 111, 116, 32, 115, 116, 97, 110, 100])] 9)) (.slice (some ⟨w.heap.size, 0, none⟩) 3 3) rs3 := by
  have h := heap_last w (.cells #[.string (strB [116, 111, 114, 110]), .string (strB [116, 97, 105, 108]), .string (strB [111, 102, 32, 97, 32, 103, 114, 111, 117, 112, 32, 116, 104, 97, 116, 32, 109, 97, 121, 32, 110, 111, 116, 32, 115, 116, 97, 110, 100])] 9)
  refine ⟨_, 3, rfl, by decide, by decide, fun _ => ⟨_, 0, rfl, by simp, fun j hj => ?_⟩⟩
  match j, hj with
  | 0, _ => exact cell_of h 0
  | 1, _ => exact cell_of h 1
  | 2, _ => exact cell_of h 2
set_option maxRecDepth 400000 in
set_option maxHeartbeats 16000000 in
theorem tells_any (w : World) (v : Value) (os : List Oq) (keep torn file at_ : Int) (b : UInt8) (hv : Ob w.heap.size w v os) (hs : Small os) (htr : -9223372036854775808 ≤ torn ∧ torn ≤ 9223372036854775807) (hfi : -9223372036854775808 ≤ file ∧ file ≤ 9223372036854775807) (hat : -9223372036854775808 ≤ at_ ∧ at_ ≤ 9223372036854775807) (hB0 : 0 < w.heap.size) (hT : TabW w) :
    Calls Tryz.prog 4 #[v, .int .i64 keep, .int .i64 torn, .int .i64 file, .int .i64 at_, .int .u8 (b.toNat : Int)] w fun e w' => e = .returned (.bool true) ∧ Below w.heap.size w w' := by
  have HO := hide hv
  obtain ⟨la, lc, rfl, l1, l2, -⟩ := hv
  have HT := hide hT
  have hsh := shown_any w hB0 hT
  clear hT
  go_enter Tryz.func4, Tryz.ntmps4
  go_wp2_with fail
  refine hsh.mono ?_
  rintro e w1 ⟨rfl, hb1⟩
  clear hsh
  have hbg := begun_any w.heap.size w1 hB0 hb1.size (HT.out.keep hb1)
  go_wp2_with fail
  refine hbg.mono ?_
  rintro e w2 ⟨X, d, a, F0, rfl, hX, ⟨S0, L0, hLg, hHas, hCalm, hbk, hrm⟩, hFX, hal, haX, hb2⟩
  have hOne : One w.heap.size w2 X d a F0 S0 L0 (.slice none 0 0) [] := ⟨hX, hLg, Rk.nil _, fun h => by have := (hFX _ h).2; omega, by omega, by have := hb1.size; omega⟩
  have hb2' : Below w.heap.size w w2 := hb1.trans (hb2.mono hb1.size)
  clear hbg hX hLg hFX hal haX hb2 hb1
  go_upto_block 0 with fail
  go_cut [17] from 41 to 71 (fun t wx => ∃ (F : Nat → Prop) (S : Dk) (La : Lw) (ga : Value) (gsa : List (List (List UInt8))), One w.heap.size wx X d a F S La ga gsa ∧ Has nmLog S La gsa ∧ (Calm S ∧ S.room = 16777216 ∧ S.bulk ≤ 800100) ∧ (laid sum4 gsa).length ≤ 72640 ∧ Below w.heap.size w wx)
  case first =>
    as_aux_lemma =>
      go_wp2_with fail
      go_loopw [16] (fun i wr => ∃ (k : Nat) (F : Nat → Prop) (S : Dk) (La : Lw) (ga : Value) (gsa : List (List (List UInt8))), i = .int .i64 (k : Int) ∧ k ≤ os.length ∧ k ≤ 10 ∧ One w.heap.size wr X d a F S La ga gsa ∧ Has nmLog S La gsa ∧ (Calm S ∧ S.room = 16777216 ∧ S.bulk ≤ 100 + k * 80000) ∧ (laid sum4 gsa).length ≤ 7264 * k ∧ gsa.length ≤ k ∧ Below w.heap.size w wr)
        (fun t _ => 10 - (intOf t).toNat)
      case atStart => exact ⟨0, F0, S0, L0, _, [], rfl, by omega, by omega, hOne, hHas, ⟨hCalm, hrm, by omega⟩, by rw [l0]; omega, by simp, hb2'⟩
      case round =>
        clear hOne hHas hCalm hrm hbk hb2'
        obtain ⟨k, F, S, La, ga, gsa, rfl, k1, k2, hO, hA, ⟨hM, hR, hU⟩, hla, hna, bb⟩ := hrel
        have hok := hO.la.1.ok
        by_cases hlt2 : k < os.length ∧ k < 10
        · obtain ⟨k3, k4⟩ := hlt2
          obtain ⟨ob, off, rfl, hbB, hop⟩ := Ob.at (HO.out.keep bb) k3
          obtain ⟨hsk, hsr⟩ := hs os[k] (List.getElem_mem k3)
          generalize os[k] = o at hop hsk hsr
          obtain ⟨kind, rs, nn, tt⟩ := o
          obtain ⟨e0, ⟨u, e1, hu⟩, e2, e3⟩ := hop
          dsimp only at e0 e1 e2 e3 hu hsk hsr
          have HUU := hide hu
          obtain ⟨va, vc, rfl, v1, v2, -⟩ := hu
          have hbeh := behind_any wr hO.wx hO.ra (by omega) kind nn tt hsk _ rs (HUU.out.tx bb.size) hsr
          have hgf := grp_few rs
          have hla2 := laid_then (pk kind 8) gsa (fewW rs)
          have hna2 := gsThen_len1 (pk kind 8) gsa (fewW rs)
          go_wp2_with fail
          refine hbeh.mono ?_
          rintro e wb ⟨v', rfl, hrk, hbb⟩
          have hrk : Rk (Off1 F a X) wb v' (gsThen (pk kind 8) gsa (fewW rs)) := hrk.mono (fun k _ h => h.elim id (fun h => hO.since h))
          have hPb := hO.quiet (chg_new hbb)
          have hbb' : Below w.heap.size w wb := bb.trans (hbb.mono bb.size)
          have hbbB : Below w.heap.size wr wb := hbb.mono bb.size
          have p0 := (hbbB.cell (p := ⟨ob, off + k * 4, none⟩) hbB).trans e0
          have p1 := (hbbB.cell (p := ⟨ob, off + k * 4 + 1, none⟩) hbB).trans e1
          have p2 := (hbbB.cell (p := ⟨ob, off + k * 4 + 2, none⟩) hbB).trans e2
          have p3 := (hbbB.cell (p := ⟨ob, off + k * 4 + 3, none⟩) hbB).trans e3
          have hdone := lay_done (rs := fewW rs) hA hM hok (isLg_nm nmLog_ok).1 (isLg_nm nmLog_ok).2 (pk kind 8) (fewW_right rs) (by omega)
          have hnear := lay_near S La (pk kind 8) (fewW rs)
          have hbulk := lay_bulk (rs := fewW rs) hA (pk kind 8)
          have hlaid := lay_has hA hok (isLg_nm nmLog_ok).1 (pk kind 8) (fewW_right rs)
          have hlay := lay_mild hPb.la hPb.wx hPb.XF hPb.Xl kind nn tt hsk _ rs ((HUU.out.keep hbbB).tx hbb'.size) hsr hB0 (HT.out.keep hbb') (by omega) (wh_range hA (by omega)) (.inl hdone.1) hnear.2
          clear hbeh hO
          obtain ⟨wa2, wc2, rfl⟩ := hrk.form
          go_wp2_with fail
          refine hlay.mono ?_
          rintro e wl ⟨rfl, hthen⟩
          obtain ⟨F5, hP5, hbl, hF5, hc5⟩ := hPb.step hthen
          have hrk5 := hrk.step1 hF5 hc5
          have hb5 := hbb'.trans hbl
          have hM5 : Calm (layW (pk kind 8) S La (fewW rs)).1 := hdone.2.calm hM
          have hR5 : (layW (pk kind 8) S La (fewW rs)).1.room = 16777216 := hnear.1.2.2.trans hR
          have h0 := hdone.1
          clear hlay hthen hnear hPb hrk hc5 p0 p1 p2 p3 e0 e1 e2 e3 hdone
          generalize layW (pk kind 8) S La (fewW rs) = R at *
          generalize gsThen (pk kind 8) gsa (fewW rs) = gs7 at *
          have z1 : wl.cell? ⟨X, 2, none⟩ = some ga := cell_of hP5.wx 2
          have z2 : wl.frozen? ⟨X, 2, none⟩ = false := thawed hP5.wx 2
          obtain ⟨hP6, hb6⟩ := hP5.put hrk5
          have HP6 := hide hP6
          have HL := hide (hlaid.1 h0)
          clear hP6 hP5 hrk5 hlaid
          rw [h0]
          go_wp2_with fail
          go_roundw
          case rel => exact ⟨k + 1, F5, R.1, R.2.1, _, gs7, by go_num, by omega, by omega, HP6.out, HL.out, ⟨hM5, hR5, by omega⟩, by omega, by omega, hb5.trans hb6⟩
          case measure => simp [intOf]; omega
        · have hlt3 : ¬ (k : Int) < (os.length : Int) ∨ (k : Int) < (os.length : Int) ∧ ¬ (k : Int) < 10 := by omega
          rcases hlt3 with hl | ⟨hl, hl2⟩
          · go_wp2
            go_meet
            exact ⟨F, S, La, ga, gsa, hO, hA, ⟨hM, hR, by omega⟩, by omega, bb⟩
          · go_wp2
            go_meet
            exact ⟨F, S, La, ga, gsa, hO, hA, ⟨hM, hR, by omega⟩, by omega, bb⟩
  case rest =>
    clear hOne hHas hCalm hrm hbk hb2'
    obtain ⟨F, S, La, ga, gsa, hO, hA, ⟨hM, hR, hU⟩, hla, bb⟩ := hcut
    go_upto_if 74 with fail
    go_cut [17] from 72 to 93 (fun t wx => ∃ (F : Nat → Prop) (S : Dk) (La : Lw) (ga : Value) (gsa g1 g2 : List (List (List UInt8))), One w.heap.size wx X d a F S La ga gsa ∧ Either nmLog S g1 g2 ∧ S.bulk ≤ 2000000 ∧ Below w.heap.size w wx)
    case first =>
      as_aux_lemma =>
        have hok := hO.la.1.ok
        by_cases hl : os.length = 0
        · have hl' : ¬ (0 : Int) < (os.length : Int) := by omega
          clear hl
          go_wp2
          go_meet
          exact ⟨F, S, La, ga, gsa, gsa, gsa, hO, either_has hA hok, by omega, bb⟩
        · have hl' : (0 : Int) < (os.length : Int) := by omega
          clear hl
          go_wp2_with fail
          have hOd := hO.quiet ((Chg.refl (fun _ => False) wc).drew)
          have x0 : wc.drew.cell? ⟨X, 0, none⟩ = some (.pointer (some ⟨d, 0, none⟩)) := cell_of hO.wx 0
          have hbd : Below w.heap.size w wc.drew := bb.drew
          have hops := ops_lies hOd.la.1
          have hpk := fun W => pick_any W torn 6 htr (by omega)
          obtain ⟨op, hop⟩ : ∃ op, IntKind.i64.wrap ((S.n : Int) + pk torn 6) = op := ⟨_, rfl⟩
          have hcut := cutAt_lies hOd.la.1 hbd.size op
          refine wp_region_held_drew (S := fun W => W.cell? ⟨X, 0, none⟩ = some (.pointer (some ⟨d, 0, none⟩))) (by kernel_rfl) (x0) (fun hHeld => ?_)
          refine takeH (i := 0) (v := ?_) rfl (by kernel_rfl) (by kernel_rfl) (by kernel_rfl) (fun _ _ _ h => h) rfl ?_ hHeld ?_
          rotate_left
          · intro w hS; (try dsimp only at hS); obtain hS0 := hS; go_simp; first | done | (with_reducible rfl)
          try simp only [Act.put, List.setIfInBounds_toArray, List.set_cons_zero, List.set_cons_succ]
          refine takeH (i := 1) (v := ?_) rfl (by kernel_rfl) (by kernel_rfl) (by kernel_rfl) (fun _ _ _ h => h) rfl ?_ hHeld ?_
          rotate_left
          · intro w hS; (try dsimp only at hS); obtain hS0 := hS; go_simp; first | done | (with_reducible rfl)
          try simp only [Act.put, List.setIfInBounds_toArray, List.set_cons_zero, List.set_cons_succ]
          refine takeH (i := 2) (v := ?_) rfl (by kernel_rfl) (by kernel_rfl) (by kernel_rfl) (fun _ _ _ h => h) rfl ?_ hHeld ?_
          rotate_left
          · intro w hS; (try dsimp only at hS); obtain hS0 := hS; go_simp; first | done | (with_reducible rfl)
          try simp only [Act.put, List.setIfInBounds_toArray, List.set_cons_zero, List.set_cons_succ]
          refine takeH (i := 3) (v := ?_) rfl (by kernel_rfl) (by kernel_rfl) (by kernel_rfl) (fun _ _ _ h => h) rfl ?_ hHeld ?_
          rotate_left
          · intro w hS; (try dsimp only at hS); obtain hS0 := hS; go_simp; first | done | (with_reducible rfl)
          try simp only [Act.put, List.setIfInBounds_toArray, List.set_cons_zero, List.set_cons_succ]
          refine takeH (i := 4) (v := ?_) rfl (by kernel_rfl) (by kernel_rfl) (by kernel_rfl) (fun _ _ _ h => h) rfl ?_ hHeld ?_
          rotate_left
          · intro w hS; (try dsimp only at hS); obtain hS0 := hS; go_simp; first | done | (with_reducible rfl)
          try simp only [Act.put, List.setIfInBounds_toArray, List.set_cons_zero, List.set_cons_succ]
          refine takeH (i := 5) (v := ?_) rfl (by kernel_rfl) (by kernel_rfl) (by kernel_rfl) (fun _ _ _ h => h) rfl ?_ hHeld ?_
          rotate_left
          · intro w hS; (try dsimp only at hS); obtain hS0 := hS; go_simp; first | done | (with_reducible rfl)
          try simp only [Act.put, List.setIfInBounds_toArray, List.set_cons_zero, List.set_cons_succ]
          refine takeH (i := 6) (v := ?_) rfl (by kernel_rfl) (by kernel_rfl) (by kernel_rfl) (fun _ _ _ h => h) rfl ?_ hHeld ?_
          rotate_left
          · intro w hS; (try dsimp only at hS); obtain hS0 := hS; go_simp; first | done | (with_reducible rfl)
          try simp only [Act.put, List.setIfInBounds_toArray, List.set_cons_zero, List.set_cons_succ]
          refine takeH (i := 7) (v := ?_) rfl (by kernel_rfl) (by kernel_rfl) (by kernel_rfl) (fun _ _ _ h => h) rfl ?_ hHeld ?_
          rotate_left
          · intro w hS; (try dsimp only at hS); obtain hS0 := hS; go_simp; first | done | (with_reducible rfl)
          try simp only [Act.put, List.setIfInBounds_toArray, List.set_cons_zero, List.set_cons_succ]
          refine takeH (i := 9) (v := ?_) rfl (by kernel_rfl) (by kernel_rfl) (by kernel_rfl) (fun _ _ _ h => h) rfl ?_ hHeld ?_
          rotate_left
          · intro w hS; (try dsimp only at hS); obtain hS0 := hS; go_simp; first | done | (with_reducible rfl)
          try simp only [Act.put, List.setIfInBounds_toArray, List.set_cons_zero, List.set_cons_succ]
          refine onlyH (i := 8) rfl (by kernel_rfl) rfl (fun K hK => ?_)
          go_simp
          refine hops.mono ?_
          rintro e w3 ⟨rfl, hw3⟩
          rw [hw3]
          clear hw3 w3
          refine hK.out _ _ (x0) (fun hHeld => ?_)
          clear hK K
          try simp only [Act.put, List.setIfInBounds_toArray, List.set_cons_zero, List.set_cons_succ]
          refine onlyH (i := 10) rfl (by kernel_rfl) rfl (fun K hK => ?_)
          go_simp
          refine (hpk _).mono ?_
          rintro e w3 ⟨rfl, hw3⟩
          rw [hw3]
          clear hw3 w3
          refine hK.out _ _ (x0) (fun hHeld => ?_)
          clear hK K
          try simp only [Act.put, List.setIfInBounds_toArray, List.set_cons_zero, List.set_cons_succ]
          refine takeH (i := 11) (v := ?_) rfl (by kernel_rfl) (by kernel_rfl) (by kernel_rfl) (fun _ _ _ h => h) rfl ?_ hHeld ?_
          rotate_left
          · intro w hS; (try dsimp only at hS); obtain hS0 := hS; go_simp; first | done | (with_reducible rfl)
          try simp only [Act.put, List.setIfInBounds_toArray, List.set_cons_zero, List.set_cons_succ]
          refine onlyH (i := 12) rfl (by kernel_rfl) rfl (fun K hK => ?_)
          go_simp
          refine hcut.mono ?_
          rintro e w4 ⟨rfl, haf⟩
          obtain ⟨F4, hO4, hb34, hF4, hc4⟩ := hOd.step (hOd.la.after haf)
          refine hK.out _ _ ((cell_of hO4.wx 0)) (fun hHeld => ?_)
          clear hK K
          try simp only [Act.put, List.setIfInBounds_toArray, List.set_cons_zero, List.set_cons_succ]
          refine wpAnyH_done (by kernel_rfl) ?_ _
          clear hHeld hops hpk hcut x0
          have hA4 := has_cut1 hA op
          have hM4 : Mild (S.cutAt op) := mild_cut1 hM.mild op
          have hR4 : (S.cutAt op).room = 16777216 := hR
          have hU4 : (S.cutAt op).bulk ≤ 800100 := hU
          have hb4 := hbd.trans hb34
          generalize S.cutAt op = S4 at *
          have hok4 := hO4.la.1.ok
          clear hop hOd hbd hb34 haf hA hM hR hU hc4 hF4 hO
          have x1 : w4.cell? ⟨X, 1, none⟩ = some (.pointer (some ⟨a, 0, none⟩)) := cell_of hO4.wx 1
          have hqa := alloc_quiet w4 (.cells #[.string (strB [116, 111, 114, 110]), .string (strB [116, 97, 105, 108]), .string (strB [111, 102, 32, 97, 32, 103, 114, 111, 117, 112, 32, 116, 104, 97, 116, 32, 109, 97, 121, 32, 110, 111, 116, 32, 115, 116, 97, 110, 100])] 9)
          have hO5 := hO4.quiet hqa
          have hsm := hO4.small
          have hoff := hO4.since (Nat.le_refl _)
          have htx := tx3 w4
          have hb5 : Below w.heap.size w (w4.alloc (.cells #[.string (strB [116, 111, 114, 110]), .string (strB [116, 97, 105, 108]), .string (strB [111, 102, 32, 97, 32, 103, 114, 111, 117, 112, 32, 116, 104, 97, 116, 32, 109, 97, 121, 32, 110, 111, 116, 32, 115, 116, 97, 110, 100])] 9)) := hb4.alloc hb4.size _
          have hg3 := grp3
          have hwhr := wh_range hA4 (by omega)
          have hap := append_lg hO5.la (v := .slice (some ⟨w4.heap.size, 0, none⟩) 3 3) (rs := rs3) ⟨htx, fun g hg => by injection hg with hg; subst hg; exact ⟨hoff.1, hoff.2.1, by simp⟩⟩ hB0 (HT.out.keep hb5) (by decide) (by omega) hwhr
          have hlaid := append_has (rs := rs3) hA4 hok4 (isLg_nm nmLog_ok).1 right3
          have hfine := mild_appendW (rs := rs3) hA4 hM4 hok4 (isLg_nm nmLog_ok).1 (isLg_nm nmLog_ok).2 right3 (by omega)
          have hbulk := bulk_appendW (rs := rs3) hA4
          have hap : Calls Tryz.prog 23 #[.pointer (some ⟨a, 0, none⟩), .slice (some ⟨w4.heap.size, 0, none⟩) 3 3] (w4.alloc (.cells #[.string ⟨#[116, 111, 114, 110]⟩, .string ⟨#[116, 97, 105, 108]⟩, .string ⟨#[111, 102, 32, 97, 32, 103, 114, 111, 117, 112, 32, 116, 104, 97, 116, 32, 109, 97, 121, 32, 110, 111, 116, 32, 115, 116, 97, 110, 100]⟩] 9)) _ := hap
          clear htx hqa hO4 hsm hoff
          go_wp2_with fail
          refine hap.mono ?_
          rintro e w6 ⟨rfl, hthen⟩
          obtain ⟨F6, hO6, hb56, -, -⟩ := hO5.step hthen
          have hok6 := hO6.la.1.ok
          have hb6 := hb5.trans hb56
          generalize appendW S4 La rs3 = R at *
          have hei : ∃ g1 g2, Either nmLog R.1 g1 g2 := by
            rcases hfine with h0 | h0
            · exact ⟨_, [], either_has (hlaid.1 h0) hok6⟩
            · exact ⟨_, _, either_laid hlaid h0 hok6⟩
          obtain ⟨g1, g2, hei⟩ := hei
          clear hap hthen hlaid hfine
          go_wp2
          go_meet
          exact ⟨F6, R.1, R.2.1, ga, gsa, g1, g2, hO6, hei, by omega, hb6⟩
    case rest =>
      clear hO hA hM hR hU hla bb
      obtain ⟨F5, S5, L5, ga, gsa, g1, g2, hO, hei, hU, bb⟩ := hcut
      obtain ⟨gq, tq, hOq, -⟩ := hei keep torn
      have x0 : wc.cell? ⟨X, 0, none⟩ = some (.pointer (some ⟨d, 0, none⟩)) := cell_of hO.wx 0
      have hcr := crash_lies hO.la.1 bb.size keep torn (by omega)
      have hbc := bulk_crash (S := S5) keep torn
      have hcm := calm_crash (S := S5) keep torn
      clear hei
      go_wp2_with fail
      refine hcr.mono ?_
      rintro e w6 ⟨d2, F6, rfl, hst6, hF6, hc6⟩
      have hb6 : Below w.heap.size w w6 := bb.trans (hc6.below (fun _ h => h.elim) bb.size)
      generalize S5.crash keep torn = S6 at *
      have hop := open_on hst6 hOq (calm_on hcm) (hcm.2 _) nmLog_ok hb6.size hB0 (HT.out.keep hb6) (by omega)
      have hop : Calls Tryz.prog 10 #[.pointer (some ⟨d2, 0, none⟩), .string ⟨#[108, 111, 103]⟩] w6 _ := hop
      clear hcr hO bb x0 hc6
      go_wp2_with fail
      refine hop.mono ?_
      rintro e w8 ⟨l8, v8, F8, b8, rfl, hl8, lg8, hF8, hc8, hG8, hb8', hlb8, hFb8⟩
      have hb8 : Below w.heap.size w w8 := hb6.trans (hc8.below (fun k hk => (hst6.2.1 k hk).1) hb6.size)
      have hO8 := hOq.begun
      have hcm8 : Calm S6.begun := (alt_begun S6).calm hcm
      have hU8 := bulk_begun' S6
      have hst8 := lg8.1
      have HG8 := hide hG8
      obtain ⟨a8, c8, rfl, -⟩ := hG8.form
      clear hop hG8 hc8 lg8 hst6 hF6 hF8 hOq hcm
      generalize S6.begun = S8 at *
      have hnm := names_stands1 hst8 (by omega)
      go_wp2_with fail
      refine hnm.mono ?_
      rintro e w9 ⟨v9, rfl, hrow, hst9, hc9, hdl⟩
      have hb9 : Below w.heap.size w w9 := hb8.trans (hc9.below (fun _ h => h.elim) hb8.size)
      have HG9 := hide (HG8.out.chg hc9 (fun _ _ h => h))
      have hrow' := hrow
      obtain ⟨n9, m9, rfl, -⟩ := own_form hrow'
      have hok8 := hst9.ok
      clear hnm hst8 hc9 HG8
      by_cases hz : S8.dir.length = 0
      · have hz' : ((S8.dir.length : Int) == 0) = true := by simp [hz]
        go_wp2
        go_ret
        exact ⟨rfl, hb9⟩
      · have hz' : ((S8.dir.length : Int) == 0) = false := by rw [beq_eq_false_iff_ne]; omega
        obtain ⟨hp0, hp1⟩ := pk_range (c := file) (n := (S8.dir.length : Int)) (by omega)
        have hpk := fun W => pick_big W file (S8.dir.length : Int) hfi (by omega)
        obtain ⟨q, hq⟩ := Int.eq_ofNat_of_zero_le hp0
        rw [hq] at hpk hp1
        have hql : q < S8.dir.length := by omega
        obtain ⟨fz, hfz⟩ := names_look hok8 hql
        have hsz := size_look hfz
        obtain ⟨nm, hnme⟩ : ∃ nm, (S8.dir[q]).1 = nm := ⟨_, rfl⟩
        rw [hnme] at hfz hsz
        have hcells := fun g hg => World.ownsRow.cells hrow (g := g) hg
        obtain ⟨ba, hba⟩ : ∃ ba, n9 = some ⟨ba, 0, none⟩ := by
          rcases hrow.2 with ⟨e1, -⟩ | ⟨g, cap, cur, e1, -⟩
          · injection e1 with e1 e2 e3
            omega
          · injection e1 with e1 e2 e3
            exact ⟨g, e1⟩
        subst hba
        have hcq : w9.cell? ⟨ba, q, none⟩ = some (.string (strB nm)) := by
          have := hcells ba rfl q (.string (strB nm)) (by unfold tc; simp [hql, hnme])
          simpa [Addr.add_lit] using this
        have hsl := size_lies hst9 nm
        rw [hsz] at hsl
        clear hcells hrow hnme hq hsz
        go_wp2_with fail
        refine (hpk _).mono ?_
        rintro e w10 ⟨rfl, hw10⟩
        rw [hw10]
        clear hw10 w10 hpk
        go_wp2_with fail
        refine hsl.mono ?_
        rintro e w10 ⟨rfl, hw10⟩
        rw [hw10]
        clear hw10 w10
        by_cases hy : (S8.bytes fz).length = 0
        · have hy' : (((S8.bytes fz).length : Int) == 0) = true := by simp [hy]
          go_wp2
          go_ret
          exact ⟨rfl, hb9⟩
        · have hy' : (((S8.bytes fz).length : Int) == 0) = false := by rw [beq_eq_false_iff_ne]; omega
          have hbl : (S8.bytes fz).length ≤ S8.bulk := bytes_le S8 fz
          obtain ⟨ht0, ht1⟩ := pk_range (c := at_) (n := ((S8.bytes fz).length : Int)) (by omega)
          have hpk := fun W => pick_big W at_ ((S8.bytes fz).length : Int) hat (by omega)
          generalize pk at_ ((S8.bytes fz).length : Int) = tq2 at *
          have htu := turn_lies hst9 nm tq2 b
          have htz := turn_zero b hfz ht0 ht1
          rw [htz] at htu
          have hlk := look_turn (n := nm) hO8 (isLg_nm nmLog_ok).1 (calm_on hcm8) (hcm8.2 _) tq2 b
          have hbu := turn_bulk S8 nm tq2 b
          go_wp2_with fail
          refine hsl.mono ?_
          rintro e w10 ⟨rfl, hw10⟩
          rw [hw10]
          clear hw10 w10
          go_wp2_with fail
          refine (hpk _).mono ?_
          rintro e w10 ⟨rfl, hw10⟩
          rw [hw10]
          clear hw10 w10 hpk hsl
          go_wp2_with fail
          refine htu.mono ?_
          rintro e w11 ⟨rfl, hst11, hc11⟩
          have hb11 : Below w.heap.size w w11 := hb9.trans (hc11.below (fun k hk => (hst9.2.1 k hk).1) hb9.size)
          have HG11 := hide (HG9.out.chg hc11 (fun k hk h => by have := hFb8 k h; omega))
          generalize (S8.turn nm tq2 b).1 = S11 at *
          have hop := open_lg hst11 hb11.size hB0 (HT.out.keep hb11) (by omega) nmLog nmLog_ok
          have hop : Calls Tryz.prog 10 #[.pointer (some ⟨d2, 0, none⟩), .string ⟨#[108, 111, 103]⟩] w11 _ := hop
          clear htu hst9 hc11 htz
          go_wp2_with fail
          refine hop.mono ?_
          rintro e w12 ⟨x12, v12, rfl, hOp⟩
          clear hop
          rcases hlk with ⟨p1, p2, hlk⟩ | ⟨hlk, hbz⟩
          · rw [hlk] at hOp ⊢
            obtain ⟨l12, F12, b12, rfl, -, -, hF12, hc12, hG12, -, -, -⟩ := hOp
            have hb12 : Below w.heap.size w w12 := hb11.trans (hc12.below (fun k hk => (hst11.2.1 k hk).1) hb11.size)
            have r8 : Rs w12 _ gq := (HG11.out.chg hc12 (fun k hk h => by have := hFb8 k h; omega)).rs
            have r12 : Rs w12 _ gq := hG12.rs
            obtain ⟨a12, c12, rfl, -⟩ := hG12.form
            have hsm := same_any w12 (.slice a12 gq.length c12) (.slice a8 gq.length c8) gq gq r12 r8
            rw [decide_eq_true rfl] at hsm
            clear hG12 hc12 hlk
            go_wp2_with fail
            refine hsm.mono ?_
            rintro e w13 ⟨rfl, hs13⟩
            go_wp2
            go_ret
            exact ⟨rfl, hb12.trans (hs13.below (fun _ h => h.elim) hb12.size)⟩
          · rw [hlk] at hOp ⊢
            obtain ⟨rfl, rfl, F12, hst12, hF12, hc12⟩ := hOp
            have hb12 : Below w.heap.size w w12 := hb11.trans (hc12.below (fun k hk => (hst11.2.1 k hk).1) hb11.size)
            have hbn : (((b.toNat : Nat) : Int) == 0) = false := by
              rw [beq_eq_false_iff_ne]
              intro h
              exact hbz (UInt8.toNat.inj (by simpa using h))
            have hbn2 : (((b.toNat : Nat) : Int) != 0) = true := by rw [bne, hbn]; rfl
            have hbn3 : ¬ (((b.toNat : Nat) : Int) = 0) := by simpa using hbn
            clear hlk hbz
            go_wp2
            go_ret
            exact ⟨rfl, hb12⟩
end Go.Proofs.YtdbmngbinhemeaaGreatDoor
