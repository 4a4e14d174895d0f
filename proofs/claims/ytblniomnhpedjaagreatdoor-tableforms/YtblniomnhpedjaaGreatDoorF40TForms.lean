/-
  TableForms, walked. Conditions: what came in lies there; the table of sums holds its numbers.
-/
import Derived.Test.YtblniomnhpedjaaGreatDoorF33TBegun
import Derived.Test.YtblniomnhpedjaaGreatDoorF35TNames
import Derived.Test.YtblniomnhpedjaaGreatDoorF39TRCommit
import Derived.Deep.CutBlock
import Derived.Deep.CutRange
import Derived.Deep.LoopGhost
namespace Go.Proofs.YtblniomnhpedjaaGreatDoor
open Go.RowKit

def okC (c : UInt8) : Bool := decide (33 ≤ c.toNat) && decide (c.toNat ≤ 126)
def headC (n : Bs) : Bool := decide (1 ≤ n.length) && decide (n.length ≤ 70)
theorem isLg_cut (n : Bs) : isLg n = (headC n && n.all okC) := rfl
theorem all_take (n : Bs) {k : Nat} (h : k < n.length) : (n.take (k + 1)).all okC = ((n.take k).all okC && okC (n.getD k 0)) := by
  rw [take_snoc n h, List.all_append]
  simp [List.getD, List.getElem?_eq_getElem h]
set_option maxRecDepth 40000 in
set_option maxHeartbeats 3200000 in
theorem tforms_any (w : World) (n : Bs) (v : Value) (ps : List PutM) (hv : PsT w v ps) (hn : n.length ≤ 140737488355328) (hpl : ps.length ≤ 140737488355328) (hB0 : 0 < w.heap.size) (hT : TabW w) :
    Calls Tryz.prog 8 #[.string (strB n), v] w fun e w' => e = .returned (.bool true) ∧ Below w.heap.size w w' := by
  have HT := hide hT
  have HV := hide hv
  obtain ⟨va, vc, rfl⟩ := hv.form
  have hsh := shown_any w hB0 hT
  have hsz := strB_size n
  clear hT hv
  go_enter Tryz.func8, Tryz.ntmps8
  go_wp2_with fail
  refine hsh.mono ?_
  rintro e w1 ⟨rfl, hb1⟩
  have hnew := new_lies2 (B := w.heap.size) w1 hb1.size muchT (by decide)
  have hnew : Calls Tryz.prog 35 #[.int .i64 67108864] w1 _ := hnew
  clear hsh
  go_wp2_with fail
  refine hnew.mono ?_
  rintro e w2 ⟨rfl, hs2, hc2⟩
  have hb2 : Below w.heap.size w w2 := hb1.trans (hc2.below (fun _ h => h.elim) hb1.size)
  have H2 := hide (And.intro hs2 hb2)
  clear hnew hs2 hc2 hb2
  have HB1 := hide hb1
  clear hb1
  go_upto_region 5 with fail
  go_cut [8] from 32 to 39 (fun v8 wx => v8 = .bool (headC n) ∧ wx = w2)
  case first =>
    by_cases h1 : 1 ≤ n.length
    · have d1 : decide ((1 : Int) ≤ (n.length : Int)) = true := decide_eq_true (by omega)
      by_cases h2 : n.length ≤ 70
      · have d2 : decide ((n.length : Int) ≤ 70) = true := decide_eq_true (by omega)
        go_wp2_with fail
        go_meet
        exact ⟨by unfold headC; rw [decide_eq_true h1, decide_eq_true h2]; rfl, rfl⟩
      · have d2 : decide ((n.length : Int) ≤ 70) = false := decide_eq_false (by omega)
        go_wp2_with fail
        go_meet
        exact ⟨by unfold headC; rw [decide_eq_true h1, decide_eq_false h2]; rfl, rfl⟩
    · have d1 : decide ((1 : Int) ≤ (n.length : Int)) = false := decide_eq_false (by omega)
      go_wp2_with fail
      go_meet
      exact ⟨by unfold headC; rw [decide_eq_false h1]; rfl, rfl⟩
  case rest =>
    obtain ⟨rfl, rfl⟩ := hcut
    go_wp2_with fail
    go_loopw [9, 8] (fun t m wr => ∃ k : Nat, k ≤ n.length ∧ t = .int .i64 k ∧ m = .bool (headC n && (n.take k).all okC) ∧ wr = wc) (fun t _ _ => n.length - (intOf t).toNat)
    case atStart => exact ⟨0, by omega, rfl, by simp, rfl⟩
    case round =>
      obtain ⟨k, hk, rfl, rfl, rfl⟩ := hrel
      by_cases hlt : k < n.length
      · have hi := index_str wr n .i64 k hlt
        have hc := (n.getD k 0).toNat_lt
        have HS := hide (all_take n hlt)
        generalize n.getD k 0 = c at *
        generalize hq : (headC n && (n.take k).all okC) = q at *
        have HN := hide (show (headC n && (n.take (k + 1)).all okC) = (q && okC c) by rw [HS.out, ← Bool.and_assoc, hq])
        clear hq
        cases q with
        | false =>
          go_wp2_with fail
          go_roundw
          case rel => exact ⟨k + 1, by omega, by go_num, by rw [HN.out]; rfl, trivial⟩
          case measure => simp [intOf]; omega
        | true =>
          by_cases h1 : 33 ≤ c.toNat
          · have d1 : decide ((33 : Int) ≤ (c.toNat : Int)) = true := decide_eq_true (by omega)
            by_cases h2 : c.toNat ≤ 126
            · have d2 : decide ((c.toNat : Int) ≤ 126) = true := decide_eq_true (by omega)
              have HO := hide (show okC c = true by unfold okC; rw [decide_eq_true h1, decide_eq_true h2]; rfl)
              clear h1 h2
              go_wp2_with fail
              go_roundw
              case rel => exact ⟨k + 1, by omega, by go_num, by rw [HN.out, HO.out]; rfl, trivial⟩
              case measure => simp [intOf]; omega
            · have d2 : decide ((c.toNat : Int) ≤ 126) = false := decide_eq_false (by omega)
              have HO := hide (show okC c = false by unfold okC; rw [decide_eq_true h1, decide_eq_false h2]; rfl)
              clear h1 h2
              go_wp2_with fail
              go_roundw
              case rel => exact ⟨k + 1, by omega, by go_num, by rw [HN.out, HO.out]; rfl, trivial⟩
              case measure => simp [intOf]; omega
          · have d1 : decide ((33 : Int) ≤ (c.toNat : Int)) = false := decide_eq_false (by omega)
            have HO := hide (show okC c = false by unfold okC; rw [decide_eq_false h1]; rfl)
            clear h1
            go_wp2_with fail
            go_roundw
            case rel => exact ⟨k + 1, by omega, by go_num, by rw [HN.out, HO.out]; rfl, trivial⟩
            case measure => simp [intOf]; omega
      · have hkl : k = n.length := by omega
        subst hkl
        rw [List.take_length, ← isLg_cut]
        clear hlt hk
        cases hlg : isLg n with
        | false =>
          have hbad := topen_bad wr w1.heap.size n hlg
          go_wp2_with fail
          refine hbad.mono ?_
          rintro e w3 ⟨rfl, rfl⟩
          go_wp2
          go_ret
          exact ⟨rfl, H2.out.2⟩
        | true =>
          have hop := topen_calm H2.out.1 (on_new (z := n) muchT) tab_none (by decide) (calm_new muchT) hlg H2.out.2.size hB0 (HT.out.keep H2.out.2) (by decide)
          have HLG := hide hlg
          clear hlg
          go_wp2_with fail
          refine hop.mono ?_
          rintro e w3 ⟨t, b, g, F3, rfl, hC3, hf3, ht3, hb3, hg3, hc3⟩
          have hC3 : TCalm w.heap.size w3 F3 w1.heap.size g t b n (Dk.new muchT).begun [] 1 muchT := hC3
          have hB3 : Below w.heap.size w w3 := H2.out.2.trans (hc3.below (fun k hk => by rw [hk]; exact HB1.out.size) H2.out.2.size)
          have hap := tcommit_calm hC3 HLG.out (HV.out.keepB hB3) hB0 (HT.out.keep hB3) (by decide) (by decide)
          clear hop hc3 hf3 ht3 hb3 hg3
          go_wp2_with fail
          refine hap.mono ?_
          rintro e w4 ⟨rfl, F4, b4, S4, hC4, hS4, hf4, -, hc4⟩
          have hB4 : Below w.heap.size w w4 := hB3.trans (hC3.belowC hc4)
          have hrr := rright_any w4 ps _ (HV.out.keepB hB4) hpl
          have HB4 := hide hB4
          clear hap hC3 hc4 hf4 hB3 hB4
          go_wp2_with fail
          refine hrr.mono ?_
          rintro e w5 ⟨rfl, q5⟩
          have hC5 := hC4.quiet q5
          have HB5 := hide (HB4.out.trans (q5.below (fun _ h => h.elim) HB4.out.size))
          clear hrr hC4 q5
          cases hr : rightT ps with
          | false =>
            have ha : ansT [] ps = 130 := ans_form hr
            have hnx : nextT [] ps = [] := next_no (by rw [ha]; decide)
            rw [ha]
            rw [hnx] at hC5
            have hS := hS4 (.inl (by rw [ha]; decide))
            have hle := tlen_calm hC5
            obtain ⟨hst, hbk, -⟩ := hC5.stands
            have hnm := names_stands1 hst (by have : (1 : Nat) + 2200000 < 1099511627776 := by decide
                                              omega)
            have hdir : S4.dir = [] := by rw [hS]; rfl
            rw [hdir] at hnm
            clear hst hbk hC5 hS hS4 hnx ha hr hdir
            go_wp2_with fail
            refine hle.mono ?_
            rintro e w6 ⟨rfl, rfl⟩
            go_wp2_with fail
            refine hnm.mono ?_
            rintro e w7 ⟨v7, rfl, hrow, -, q7, -⟩
            obtain ⟨a7, c7, rfl, -⟩ := own_form hrow
            clear hrow hnm hle
            go_wp2
            go_ret
            exact ⟨rfl, HB5.out.trans (q7.below (fun _ h => h.elim) HB5.out.size)⟩
          | true =>
            have hq6 := alloc_quiet w5 (.cells #[.slice none 0 0] 70)
            have hr6 := rtab_nil w5
            have hC6 := hC5.quiet hq6
            have HB6 := hide (HB5.out.alloc HB5.out.size (.cells #[.slice none 0 0] 70))
            generalize hw6 : w5.alloc (.cells #[.slice none 0 0] 70) = w6 at *
            have hrc := rcommit_any w6 w5.heap.size [] ps _ hr6 (List.Pairwise.nil) (by decide) (HV.out.keepB HB6.out) hpl
            clear hC5 hq6 hr6 hr hS4
            generalize hA : ansT [] ps = A at *
            generalize hL : nextT [] ps = L at *
            clear hA hL
            go_wp2_with fail
            try rw [hw6]
            refine hrc.mono ?_
            rintro e w7 ⟨r', rfl, hR7, -, hb7⟩
            have hC7 := hC6.quiet (quietB hb7)
            have HB7 := hide (HB6.out.trans (hb7.mono HB6.out.size))
            obtain ⟨ux, hx7, hp7⟩ := hR7
            obtain ⟨ua, uc, rfl⟩ := hp7.form
            have hc7 := cell_of hx7 0
            simp only [List.getElem?_toArray, List.getElem?_cons_zero] at hc7
            have hAA : (A == A) = true := by simp
            have hLL : ((L.length : Int) == (L.length : Int)) = true := by simp
            have H7 := hide (And.intro hC7 (And.intro hp7 (And.intro HB7.out (lt_of_heap hx7))))
            clear hC6 hrc hC7 hp7 hb7 hx7
            go_wp2_with fail
            refine wp_region_held_drew (S := fun W => W.cell? ⟨r', 0, none⟩ = some (.slice ua L.length uc)) (by kernel_rfl) (hc7) (fun hHeld => ?_)
            refine takeH (i := 0) (v := ?_) rfl (by kernel_rfl) (by kernel_rfl) (by kernel_rfl) (fun _ _ _ h => h) rfl ?_ hHeld ?_
            rotate_left
            · intro w hS; (try dsimp only at hS); obtain hS0 := hS; go_simp; first | done | (with_reducible rfl)
            try simp only [Act.put, List.setIfInBounds_toArray, List.set_cons_zero, List.set_cons_succ]
            refine takeH (i := 1) (v := ?_) rfl (by kernel_rfl) (by kernel_rfl) (by kernel_rfl) (fun _ _ _ h => h) rfl ?_ hHeld ?_
            rotate_left
            · intro w hS; (try dsimp only at hS); obtain hS0 := hS; go_simp; first | done | (with_reducible rfl)
            try simp only [Act.put, List.setIfInBounds_toArray, List.set_cons_zero, List.set_cons_succ]
            refine takeH (i := 2) (v := ?_) rfl (by kernel_rfl) (by kernel_rfl) (by kernel_rfl) (fun _ _ _ h => h) rfl ?_ hHeld ?_
            rotate_left
            · intro w hS; (try dsimp only at hS); obtain hS0 := hS; go_simp; first | done | (with_reducible rfl)
            try simp only [Act.put, List.setIfInBounds_toArray, List.set_cons_zero, List.set_cons_succ]
            refine takeH (i := 3) (v := ?_) rfl (by kernel_rfl) (by kernel_rfl) (by kernel_rfl) (fun _ _ _ h => h) rfl ?_ hHeld ?_
            rotate_left
            · intro w hS; (try dsimp only at hS); obtain hS0 := hS; go_simp; first | done | (with_reducible rfl)
            try simp only [Act.put, List.setIfInBounds_toArray, List.set_cons_zero, List.set_cons_succ]
            refine takeH (i := 4) (v := ?_) rfl (by kernel_rfl) (by kernel_rfl) (by kernel_rfl) (fun _ _ _ h => h) rfl ?_ hHeld ?_
            rotate_left
            · intro w hS; (try dsimp only at hS); obtain hS0 := hS; go_simp; first | done | (with_reducible rfl)
            try simp only [Act.put, List.setIfInBounds_toArray, List.set_cons_zero, List.set_cons_succ]
            refine takeH (i := 6) (v := ?_) rfl (by kernel_rfl) (by kernel_rfl) (by kernel_rfl) (fun _ _ _ h => h) rfl ?_ hHeld ?_
            rotate_left
            · intro w hS; (try dsimp only at hS); obtain hS0 := hS; go_simp; first | done | (with_reducible rfl)
            try simp only [Act.put, List.setIfInBounds_toArray, List.set_cons_zero, List.set_cons_succ]
            refine takeH (i := 7) (v := ?_) rfl (by kernel_rfl) (by kernel_rfl) (by kernel_rfl) (fun _ _ _ h => h) rfl ?_ hHeld ?_
            rotate_left
            · intro w hS; (try dsimp only at hS); obtain hS0 := hS; go_simp; first | done | (with_reducible rfl)
            try simp only [Act.put, List.setIfInBounds_toArray, List.set_cons_zero, List.set_cons_succ]
            refine takeH (i := 8) (v := ?_) rfl (by kernel_rfl) (by kernel_rfl) (by kernel_rfl) (fun _ _ _ h => h) rfl ?_ hHeld ?_
            rotate_left
            · intro w hS; (try dsimp only at hS); obtain hS0 := hS; go_simp; first | done | (with_reducible rfl)
            try simp only [Act.put, List.setIfInBounds_toArray, List.set_cons_zero, List.set_cons_succ]
            refine takeH (i := 9) (v := ?_) rfl (by kernel_rfl) (by kernel_rfl) (by kernel_rfl) (fun _ _ _ h => h) rfl ?_ hHeld ?_
            rotate_left
            · intro w hS; (try dsimp only at hS); obtain hS0 := hS; go_simp; first | done | (with_reducible rfl)
            try simp only [Act.put, List.setIfInBounds_toArray, List.set_cons_zero, List.set_cons_succ]
            refine takeH (i := 10) (v := ?_) rfl (by kernel_rfl) (by kernel_rfl) (by kernel_rfl) (fun _ _ _ h => h) rfl ?_ hHeld ?_
            rotate_left
            · intro w hS; (try dsimp only at hS); obtain hS0 := hS; go_simp; first | done | (with_reducible rfl)
            try simp only [Act.put, List.setIfInBounds_toArray, List.set_cons_zero, List.set_cons_succ]
            refine onlyH (i := 5) rfl (by kernel_rfl) rfl (fun K hK => ?_)
            go_simp
            have q8 := drewN_below w7 1
            refine (tlen_calm (H7.out.1.quiet (((Chg.refl (fun _ => False) w7).drew)))).mono ?_
            rintro e w8 ⟨rfl, rfl⟩
            refine hK.out _ _ (hc7) (fun hHeld => ?_)
            clear hK K
            try simp only [Act.put, List.setIfInBounds_toArray, List.set_cons_zero, List.set_cons_succ]
            refine takeH (i := 11) (v := ?_) rfl (by kernel_rfl) (by kernel_rfl) (by kernel_rfl) (fun _ _ _ h => h) rfl ?_ hHeld ?_
            rotate_left
            · intro w hS; (try dsimp only at hS); obtain hS0 := hS; go_simp; first | done | (with_reducible rfl)
            try simp only [Act.put, List.setIfInBounds_toArray, List.set_cons_zero, List.set_cons_succ]
            refine takeH (i := 12) (v := ?_) rfl (by kernel_rfl) (by kernel_rfl) (by kernel_rfl) (fun _ _ _ h => h) rfl ?_ hHeld ?_
            rotate_left
            · intro w hS; (try dsimp only at hS); obtain hS0 := hS; go_simp; first | done | (with_reducible rfl)
            try simp only [Act.put, List.setIfInBounds_toArray, List.set_cons_zero, List.set_cons_succ]
            refine takeH (i := 13) (v := ?_) rfl (by kernel_rfl) (by kernel_rfl) (by kernel_rfl) (fun _ _ _ h => h) rfl ?_ hHeld ?_
            rotate_left
            · intro w hS; (try dsimp only at hS); obtain hS0 := hS; go_simp; first | done | (with_reducible rfl)
            try simp only [Act.put, List.setIfInBounds_toArray, List.set_cons_zero, List.set_cons_succ]
            refine takeH (i := 14) (v := ?_) rfl (by kernel_rfl) (by kernel_rfl) (by kernel_rfl) (fun _ _ _ h => h) rfl ?_ hHeld ?_
            rotate_left
            · intro w hS; (try dsimp only at hS); obtain hS0 := hS; go_simp; first | done | (with_reducible rfl)
            try simp only [Act.put, List.setIfInBounds_toArray, List.set_cons_zero, List.set_cons_succ]
            refine takeH (i := 16) (v := ?_) rfl (by kernel_rfl) (by kernel_rfl) (by kernel_rfl) (fun _ _ _ h => h) rfl ?_ hHeld ?_
            rotate_left
            · intro w hS; (try dsimp only at hS); obtain hS0 := hS; go_simp; first | done | (with_reducible rfl)
            try simp only [Act.put, List.setIfInBounds_toArray, List.set_cons_zero, List.set_cons_succ]
            refine takeH (i := 17) (v := ?_) rfl (by kernel_rfl) (by kernel_rfl) (by kernel_rfl) (fun _ _ _ h => h) rfl ?_ hHeld ?_
            rotate_left
            · intro w hS; (try dsimp only at hS); obtain hS0 := hS; go_simp; first | done | (with_reducible rfl)
            try simp only [Act.put, List.setIfInBounds_toArray, List.set_cons_zero, List.set_cons_succ]
            refine takeH (i := 18) (v := ?_) rfl (by kernel_rfl) (by kernel_rfl) (by kernel_rfl) (fun _ _ _ h => h) rfl ?_ hHeld ?_
            rotate_left
            · intro w hS; (try dsimp only at hS); obtain hS0 := hS; go_simp; first | done | (with_reducible rfl)
            try simp only [Act.put, List.setIfInBounds_toArray, List.set_cons_zero, List.set_cons_succ]
            refine takeH (i := 19) (v := ?_) rfl (by kernel_rfl) (by kernel_rfl) (by kernel_rfl) (fun _ _ _ h => h) rfl ?_ hHeld ?_
            rotate_left
            · intro w hS; (try dsimp only at hS); obtain hS0 := hS; go_simp; first | done | (with_reducible rfl)
            try simp only [Act.put, List.setIfInBounds_toArray, List.set_cons_zero, List.set_cons_succ]
            refine onlyH (i := 15) rfl (by kernel_rfl) rfl (fun K hK => ?_)
            go_simp
            have hal := tall_calm (H7.out.1.quiet (((Chg.refl (fun _ => False) w7).drew))) [] (by decide)
            rw [filter_nil] at hal
            refine hal.mono ?_
            rintro e w9 ⟨v9, rfl, hp9, hb9⟩
            have hb79 : Below w7.heap.size w7 w9 := ((Below.refl _ _).drew).trans hb9
            have hc9 := (hb79.cell (p := ⟨r', 0, none⟩) H7.out.2.2.2).trans hc7
            have hp79 := H7.out.2.1.keepB (B := 0) hb79 (Nat.le_refl _)
            have HB9 := hide (H7.out.2.2.1.trans (hb79.mono H7.out.2.2.1.size))
            obtain ⟨o9, c9, rfl⟩ := hp9.form
            have hsm := rsame_any w9 L L _ _ hp9 hp79
            rw [decide_eq_true rfl] at hsm
            refine hK.out _ _ (hc9) (fun hHeld => ?_)
            clear hK K
            try simp only [Act.put, List.setIfInBounds_toArray, List.set_cons_zero, List.set_cons_succ]
            refine onlyH (i := 20) rfl (by kernel_rfl) rfl (fun K hK => ?_)
            go_simp
            refine hsm.mono ?_
            rintro e w10 ⟨rfl, q10⟩
            have hc10 := quiet_cell hc9 q10
            refine hK.out _ _ (hc10) (fun hHeld => ?_)
            clear hK K
            try simp only [Act.put, List.setIfInBounds_toArray, List.set_cons_zero, List.set_cons_succ]
            refine takeH (i := 21) (v := ?_) rfl (by kernel_rfl) (by kernel_rfl) (by kernel_rfl) (fun _ _ _ h => h) rfl ?_ hHeld ?_
            rotate_left
            · intro w hS; (try dsimp only at hS); obtain hS0 := hS; go_simp; first | done | (with_reducible rfl)
            try simp only [Act.put, List.setIfInBounds_toArray, List.set_cons_zero, List.set_cons_succ]
            refine takeH (i := 22) (v := ?_) rfl (by kernel_rfl) (by kernel_rfl) (by kernel_rfl) (fun _ _ _ h => h) rfl ?_ hHeld ?_
            rotate_left
            · intro w hS; (try dsimp only at hS); obtain hS0 := hS; go_simp; first | done | (with_reducible rfl)
            try simp only [Act.put, List.setIfInBounds_toArray, List.set_cons_zero, List.set_cons_succ]
            refine wpAnyH_done (by kernel_rfl) ?_ _
            clear hHeld
            go_wp2
            go_ret
            exact ⟨rfl, (HB9.out.trans (q10.below (fun _ h => h.elim) HB9.out.size))⟩
end Go.Proofs.YtblniomnhpedjaaGreatDoor
