/-
  What a cutter's Write does. Conditions: the cutter and the pieces lie there; lengths within reach.
-/
import Derived.Test.YthkhmjdenenikaaCutter
import Derived.Test.YthkhmjdenenikaaCuts
import Derived.Test.YthkhmjdenenikaaSteps
namespace Go.Proofs.Ythkhmjdenenikaa
open Go.RowKit

/-- Within Write: the cutter, what is told, the pieces. -/
structure Wst (w wr : World) (g : Nat) (vp : Value) (ps : List (List UInt8)) (told : Value) (T : List (List UInt8)) (hs hh : List UInt8) (v : Value) : Prop where
  cu : CuW wr g hs hh v
  told : wr.ownsRow w.heap.size 9 1 told T.length (tc T)
  ps : wr.ownsRow 0 9 1 vp ps.length (tc ps)
  below : Below g w wr
  lt : g < w.heap.size
  psLt : ∀ k, vp.ownBlock = some k → k < w.heap.size
theorem chg_mono {F G : Nat → Prop} {w w' : World} (h : Chg F w w') (hFG : ∀ k, F k → G k) : Chg G w w' := ⟨h.os, h.tape, h.output, h.size, fun k hk hn => h.block k hk (fun f => hn (hFG k f))⟩
section
variable {w wr w1 : World} {g : Nat} {vp told v : Value} {ps T : List (List UInt8)} {hs hh : List UInt8}
/-- A step that changes the cutter and the row that it holds. -/
theorem Wst.step (h : Wst w wr g vp ps told T hs hh v) {hs' hh' : List UInt8} {v' : Value} (hC : Chg (fun k => k = g ∨ some k = v.ownBlock) wr w1) (hcu : CuW w1 g hs' hh' v') : Wst w w1 g vp ps told T hs' hh' v' := by
  have key : ∀ {base n : Nat} {u : Value} {xs : List Value}, wr.ownsRow base 9 1 u n xs → w1.ownsRow base 9 1 u n xs := fun hu => own_keep hu hC (fun k hk => by
    rintro (rfl | e)
    · exact own_obj hu h.cu.1 (by decide) hk
    · exact own_apart hu h.cu.2 (by decide) k hk e)
  refine ⟨hcu, key h.told, key h.ps, h.below.trans (hC.below (fun k hk => ?_) (Nat.le_of_lt h.cu.lt)), h.lt, h.psLt⟩
  rcases hk with rfl | e
  · exact Nat.le_refl _
  · have := (h.cu.2.lt k e.symm).1
    omega
theorem Wst.step0 (h : Wst w wr g vp ps told T hs hh v) {hs' hh' : List UInt8} {v' : Value} (hC : Chg (fun k => k = g) wr w1) (hcu : CuW w1 g hs' hh' v') : Wst w w1 g vp ps told T hs' hh' v' :=
  h.step (chg_mono hC (fun _ h => .inl h)) hcu
theorem Wst.taken (h : Wst w wr g vp ps told T hs hh v) {hs' : List UInt8} (hC : Chg (fun k => k = g) wr w1) (hk : CkAt w1 g 48 hs' [v]) : Wst w w1 g vp ps told T hs' hh v :=
  h.step0 hC ⟨hk, own_keep h.cu.2 hC (fun k hk e => by have := (h.cu.2.lt k hk).1; omega)⟩
/-- One more is told. -/
theorem Wst.more (h : Wst w wr g vp ps told T hs hh v) {o : Obj} {told' : Value} {c : List UInt8} (hown : w1.ownsRow w.heap.size 9 1 told' (T.length + 1) (tc T ++ [.string (strB c)])) (hg : (wr.alloc o).grownBy w1 told.ownBlock) : Wst w w1 g vp ps told' (T ++ [c]) hs hh v := by
  have hlt := h.told.lt
  have hlt2 := h.lt
  have hC : Chg (fun k => some k = told.ownBlock) wr w1 := ((Chg.refl (fun k => some k = told.ownBlock) wr).alloc o).then (Chg.of_grown hg)
  refine ⟨⟨hC.keep h.cu.1 (fun e => ?_), own_keep h.cu.2 hC (fun k hk e => own_apart h.cu.2 h.told (by decide) k hk e)⟩, ?_, own_keep h.ps hC (fun k hk e => ?_), h.below.trans (hC.below (fun k hk => ?_) (Nat.le_of_lt h.cu.lt)), h.lt, h.psLt⟩
  · have := (hlt _ e.symm).1
    omega
  · simpa [tc] using hown
  · have := (hlt _ e.symm).1
    have := h.psLt k hk
    omega
  · have := (hlt _ hk.symm).1
    omega
end

theorem mid_succ {p : List UInt8} {f i : Nat} (hf : f ≤ i) (hi : i < p.length) : (p.drop f).take (i + 1 - f) = (p.drop f).take (i - f) ++ [p[i]] := by
  rw [show i + 1 - f = (i - f) + 1 by omega, List.take_add_one, List.getElem?_drop, show f + (i - f) = i by omega, List.getElem?_eq_getElem hi]
  rfl
theorem Chg.undrew {F : Nat → Prop} {a b : World} (h : Chg F a.drew b) : Chg F a b := ⟨h.os, h.tape, h.output, h.size, h.block⟩
theorem slice_mid (p : List UInt8) (m k : Nat) (j : Int) (hm : m ≤ k) (hk : k ≤ p.length) (hj : j = (k : Int)) (W : World) :
    (Instr.slice 9 (.string (strB p)) (some (.int .i64 (m : Int))) (some (.int .i64 j)) none).run Try.prog W = .ok (.string (strB ((p.drop m).take (k - m)))) W := by
  subst hj
  rw [run_slice_string W _ _ _ _ _ _ Try.underlying9 (by omega) (by omega) (by rw [strB_size]; omega), Int.toNat_natCast, Int.toNat_natCast, ext_mid]
theorem sp_eta (x : Sp) : (⟨x.t, x.h⟩ : Sp) = x := rfl

set_option maxRecDepth 20000 in
set_option maxHeartbeats 2000000 in
theorem write_any (w : World) (g : Nat) (h : List UInt8) (v vp : Value) (ps : List (List UInt8)) (hC : CuW w g h h v) (hh : Hd h) (hP : w.ownsRow 0 9 1 vp ps.length (tc ps)) (hl : h.length + ps.flatten.length + ps.length ≤ 1000000000) :
    Calls Try.prog 17 #[.pointer (some ⟨g, 0, none⟩), vp] w fun e w' => ∃ vt v', e = .returned vt ∧ Wst w w' g vp ps vt (spl ⟨[], h⟩ ps.flatten).t (spl ⟨[], h⟩ ps.flatten).h (spl ⟨[], h⟩ ps.flatten).h v' := by
  obtain ⟨i0, hi0, hz0, hz1, hz2⟩ := info_parts Try.infoT
  have h0 : Wst w w g vp ps (.slice none 0 0) [] h h v := ⟨hC, World.ownsRow_nil _ _ _ _, hP, Below.refl _ _, hC.lt, fun k hk => (hP.lt k hk).2⟩
  have hok : Sp.ok ⟨[], h⟩ := ⟨by simp, hh⟩
  obtain ⟨ap, cp, hvp, p1, p2, -⟩ := own_form hP
  subst hvp
  have H0 := hide h0
  clear hC h0 hP
  go_enter Try.func17, Try.ntmps17
  go_wp2_with fail
  go_loopw [14, 5] (fun i told wr => ∃ (j : Nat) (v' : Value), i = .int .i64 (j : Int) ∧ j ≤ ps.length ∧ Wst w wr g (.slice ap ps.length cp) ps told (spl ⟨[], h⟩ (ps.take j).flatten).t (spl ⟨[], h⟩ (ps.take j).flatten).h (spl ⟨[], h⟩ (ps.take j).flatten).h v')
    (fun i _ _ => ps.length - (intOf i).toNat)
  case atStart => exact ⟨0, v, rfl, Nat.zero_le _, H0.out⟩
  case round =>
    obtain ⟨j, v', rfl, hj, hW⟩ := hrel
    by_cases hlt : j < ps.length
    · obtain ⟨ap', cp', e0, -, -, hx⟩ := own_form hW.ps
      injection e0 with e1 e2 e3
      subst e1 e3
      obtain ⟨b, rfl, -, -, hcell⟩ := hx (by omega)
      have hcj := hcell j _ (tc_get ps j hlt)
      have hjf : (ps.take (j + 1)).flatten = (ps.take j).flatten ++ ps[j] := by rw [List.take_add_one, List.getElem?_eq_getElem hlt]; simp only [List.flatten_append, Option.toList_some, List.flatten_cons, List.flatten_nil, List.append_nil]
      have hple : (ps.take j).flatten.length + ps[j].length ≤ ps.flatten.length := by
        have := congrArg (fun x => x.flatten.length) (List.take_append_drop (j + 1) ps)
        simp only [List.flatten_append, List.length_append, hjf] at this
        omega
      have hps := strB_size ps[j]
      have hex := ext_mid ps[j]
      have HJF := hide hjf
      clear hcell hjf hx
      generalize ps[j] = p at *
      generalize hA : (ps.take j).flatten = A at *
      have HW := hide hW
      clear hW
      go_wp2_with fail
      go_loopw [20, 5, 8] (fun i told f wr => ∃ (k m : Nat) (hh : List UInt8) (v' : Value), i = .int .i64 (k : Int) ∧ k ≤ p.length ∧ f = .int .i64 (m : Int) ∧ m ≤ k ∧ hh ++ (p.drop m).take (k - m) = (spl ⟨[], h⟩ (A ++ p.take k)).h ∧
          Wst w wr g (.slice (some ⟨b, 0, none⟩) ps.length cp) ps told (spl ⟨[], h⟩ (A ++ p.take k)).t (spl ⟨[], h⟩ (A ++ p.take k)).h hh v')
        (fun i _ _ _ => p.length - (intOf i).toNat)
      case atStart =>
        refine ⟨0, 0, (spl ⟨[], h⟩ A).h, v', rfl, Nat.zero_le _, rfl, Nat.le_refl _, by simp, ?_⟩
        have := HW.out
        simpa using this
      case round =>
        obtain ⟨k, m, hh, v2, rfl, hk, rfl, hm, he, hW⟩ := hrel
        have hokk : (spl ⟨[], h⟩ (A ++ p.take k)).ok := hok.spl
        have hflat := congrArg List.length (spl_all (A ++ p.take k) ⟨[], h⟩)
        have hcount := told_le hokk (n := h.length + A.length + k) (by
          simp only [List.length_append, List.flatten_nil, List.nil_append, List.length_take, Nat.min_eq_left hk] at hflat
          omega)
        have hhl := congrArg List.length he
        have hxl : (spl ⟨[], h⟩ (A ++ p.take k)).h.length ≤ h.length + A.length + k := by
          simp only [List.length_append, List.flatten_nil, List.nil_append, List.length_take, Nat.min_eq_left hk] at hflat
          omega
        have hhle : hh.length ≤ h.length + A.length + k := by
          rw [List.length_append] at hhl
          omega
        by_cases hlt2 : k < p.length
        · have hix := fun W => index_str W p .i64 k hlt2
          have hsn : spl ⟨[], h⟩ (A ++ p.take (k + 1)) = adv (spl ⟨[], h⟩ (A ++ p.take k)) p[k] := by
            rw [List.take_add_one, List.getElem?_eq_getElem hlt2, ← List.append_assoc]
            exact spl_snoc _ _ _
          have hmid := mid_succ hm hlt2
          have hext := slice_mid p m (k + 1) ((k : Int) + 1) (by omega) (by omega) (by omega)
          have htk := fun (W : World) (hW : CkAt W g 48 (spl ⟨[], h⟩ (A ++ p.take k)).h [v2]) => take_any W g 48 _ _ p[k] hW hokk.2
          have HSN := hide hsn
          have HHL := hide hhl
          clear hflat hsn hhl
          generalize hc : p[k] = c at *
          generalize spl ⟨[], h⟩ (A ++ p.take k) = x at *
          have hfull : hh ++ (p.drop m).take (k + 1 - m) = x.h ++ [c] := by rw [hmid, ← List.append_assoc, he]
          have HF := hide hfull
          have HE := hide he
          have htell : (x.h ++ [c]).length ≤ 1000000000 := by simp; omega
          have hmidl : hh.length + ((p.drop m).take (k + 1 - m)).length ≤ 1000000000 := by
            rw [← List.length_append, hfull]
            exact htell
          clear hfull he hmid
          generalize hmd : (p.drop m).take (k + 1 - m) = mid at *
          have HMD := hide hmd
          clear hmd
          cases hen : ended (x.h ++ [c]) with
          | true =>
            rw [hen] at htk
            simp only [if_true] at htk
            go_wp2_with fail
            refine wp_region_held_drew (S := fun _ => True) (by kernel_rfl) (trivial) (fun hHeld => ?_)
            refine takeH (i := 0) (v := ?_) rfl (by kernel_rfl) (by kernel_rfl) (by kernel_rfl) (fun _ _ _ h => h) rfl ?_ hHeld ?_
            rotate_left
            · intro w _; go_simp; first | done | (with_reducible rfl)
            try simp only [Act.put, List.setIfInBounds_toArray, List.set_cons_zero, List.set_cons_succ]
            refine takeH (i := 1) (v := ?_) rfl (by kernel_rfl) (by kernel_rfl) (by kernel_rfl) (fun _ _ _ h => h) rfl ?_ hHeld ?_
            rotate_left
            · intro w _; go_simp; first | done | (with_reducible rfl)
            try simp only [Act.put, List.setIfInBounds_toArray, List.set_cons_zero, List.set_cons_succ]
            refine takeH (i := 2) (v := ?_) rfl (by kernel_rfl) (by kernel_rfl) (by kernel_rfl) (fun _ _ _ h => h) rfl ?_ hHeld ?_
            rotate_left
            · intro w _; go_simp; first | done | (with_reducible rfl)
            try simp only [Act.put, List.setIfInBounds_toArray, List.set_cons_zero, List.set_cons_succ]
            refine takeH (i := 3) (v := ?_) rfl (by kernel_rfl) (by kernel_rfl) (by kernel_rfl) (fun _ _ _ h => h) rfl ?_ hHeld ?_
            rotate_left
            · intro w _; go_simp; first | done | (with_reducible rfl)
            try simp only [Act.put, List.setIfInBounds_toArray, List.set_cons_zero, List.set_cons_succ]
            refine takeH (i := 4) (v := ?_) rfl (by kernel_rfl) (by kernel_rfl) (by kernel_rfl) (fun _ _ _ h => h) rfl ?_ hHeld ?_
            rotate_left
            · intro w _; go_simp; first | done | (with_reducible rfl)
            try simp only [Act.put, List.setIfInBounds_toArray, List.set_cons_zero, List.set_cons_succ]
            refine takeH (i := 5) (v := ?_) rfl (by kernel_rfl) (by kernel_rfl) (by kernel_rfl) (fun _ _ _ h => h) rfl ?_ hHeld ?_
            rotate_left
            · intro w _; go_simp; first | done | (with_reducible rfl)
            try simp only [Act.put, List.setIfInBounds_toArray, List.set_cons_zero, List.set_cons_succ]
            refine onlyH (i := 6) rfl (by kernel_rfl) rfl (fun K hK => ?_)
            go_simp
            refine (htk wr.drew hW.cu.1).mono ?_
            rintro e w1 ⟨rfl, hk1, hC1⟩
            have hW1 := hW.taken (hC1.undrew) hk1
            go_simp
            refine hK.out _ _ (trivial) (fun hHeld => ?_)
            clear hK K
            try simp only [Act.put, List.setIfInBounds_toArray, List.set_cons_zero, List.set_cons_succ]
            refine wpAnyH_done (by kernel_rfl) ?_ _
            go_wp2_with fail
            refine (hold_any _ g [] hh mid v2 hW1.cu (by omega)).mono ?_
            rintro e w2 ⟨rfl, ⟨v3, hcu2⟩, hC2⟩
            have hW2 := hW1.step hC2 hcu2
            rw [HF.out] at hW2
            go_wp2_with fail
            refine (tell_any _ g [] _ v3 hW2.cu).mono ?_
            rintro e w3 ⟨rfl, ⟨v4, hcu3⟩, hC3⟩
            have hW3 := hW2.step0 hC3 hcu3
            have hrow' := hW3.told
            obtain ⟨ao, cap, rfl, c1, c2, -⟩ := own_form hrow'
            have HW3 := hide hW3
            have hbz : w.heap.size ≤ w3.heap.size := hW3.below.size
            clear hW hW1 hW2 hW3 hC1 hC2 hC3 hcu2 hcu3 hk1 htk
            go_wp2_with (at_builtin; refine wpList_append_own _ rfl (.tmp 37) (.tmp 40) 30 rfl w.heap.size 9 i0 (.string ⟨#[]⟩) 1 16 Try.underlying30 hi0 hz0 hz1 hz2 rfl (by decide) _ _ _ rfl (hrow'.alloc _) ⟨w3.heap.size, 0, none⟩ 1 1 [.string (strB (x.h ++ [c]))] rfl rfl (cell_one_new _ _ _) (by simp [Value.oneCell']) (by unfold maxLen; omega) (by omega) (by simp; omega) ?_)
            intro v5 w5 hown5 hgrow5 _
            have hW5 := HW3.out.more hown5 hgrow5
            obtain ⟨ao', cap', rfl, -⟩ := own_form hown5
            have HW5 := hide hW5
            clear hW5 hgrow5 hown5 HW3 hrow'
            go_wp2
            go_roundw
            case rel =>
              refine ⟨k + 1, k + 1, [], v4, by go_num, by omega, by go_num, Nat.le_refl _, ?_, ?_⟩
              · rw [HSN.out]; unfold adv; rw [if_pos hen]; simp
              · rw [HSN.out]; unfold adv; rw [if_pos hen]; exact HW5.out
            case measure => simp [intOf] <;> omega
          | false =>
            rw [hen] at htk
            simp only [Bool.false_eq_true, if_false] at htk
            go_wp2_with fail
            refine wp_region_held_drew (S := fun _ => True) (by kernel_rfl) (trivial) (fun hHeld => ?_)
            refine takeH (i := 0) (v := ?_) rfl (by kernel_rfl) (by kernel_rfl) (by kernel_rfl) (fun _ _ _ h => h) rfl ?_ hHeld ?_
            rotate_left
            · intro w _; go_simp; first | done | (with_reducible rfl)
            try simp only [Act.put, List.setIfInBounds_toArray, List.set_cons_zero, List.set_cons_succ]
            refine takeH (i := 1) (v := ?_) rfl (by kernel_rfl) (by kernel_rfl) (by kernel_rfl) (fun _ _ _ h => h) rfl ?_ hHeld ?_
            rotate_left
            · intro w _; go_simp; first | done | (with_reducible rfl)
            try simp only [Act.put, List.setIfInBounds_toArray, List.set_cons_zero, List.set_cons_succ]
            refine takeH (i := 2) (v := ?_) rfl (by kernel_rfl) (by kernel_rfl) (by kernel_rfl) (fun _ _ _ h => h) rfl ?_ hHeld ?_
            rotate_left
            · intro w _; go_simp; first | done | (with_reducible rfl)
            try simp only [Act.put, List.setIfInBounds_toArray, List.set_cons_zero, List.set_cons_succ]
            refine takeH (i := 3) (v := ?_) rfl (by kernel_rfl) (by kernel_rfl) (by kernel_rfl) (fun _ _ _ h => h) rfl ?_ hHeld ?_
            rotate_left
            · intro w _; go_simp; first | done | (with_reducible rfl)
            try simp only [Act.put, List.setIfInBounds_toArray, List.set_cons_zero, List.set_cons_succ]
            refine takeH (i := 4) (v := ?_) rfl (by kernel_rfl) (by kernel_rfl) (by kernel_rfl) (fun _ _ _ h => h) rfl ?_ hHeld ?_
            rotate_left
            · intro w _; go_simp; first | done | (with_reducible rfl)
            try simp only [Act.put, List.setIfInBounds_toArray, List.set_cons_zero, List.set_cons_succ]
            refine takeH (i := 5) (v := ?_) rfl (by kernel_rfl) (by kernel_rfl) (by kernel_rfl) (fun _ _ _ h => h) rfl ?_ hHeld ?_
            rotate_left
            · intro w _; go_simp; first | done | (with_reducible rfl)
            try simp only [Act.put, List.setIfInBounds_toArray, List.set_cons_zero, List.set_cons_succ]
            refine onlyH (i := 6) rfl (by kernel_rfl) rfl (fun K hK => ?_)
            go_simp
            refine (htk wr.drew hW.cu.1).mono ?_
            rintro e w1 ⟨rfl, hk1, hC1⟩
            have hW1 := hW.taken (hC1.undrew) hk1
            go_simp
            refine hK.out _ _ (trivial) (fun hHeld => ?_)
            clear hK K
            try simp only [Act.put, List.setIfInBounds_toArray, List.set_cons_zero, List.set_cons_succ]
            refine wpAnyH_done (by kernel_rfl) ?_ _
            clear hW htk
            go_wp2_with fail
            refine ⟨⟨k + 1, m, hh, v2, by go_num, by omega, rfl, by omega, ?_, ?_⟩, by simp [intOf]; omega⟩
            · rw [HSN.out]; unfold adv; rw [if_neg (by simp [hen]), HMD.out]; exact HF.out
            · rw [HSN.out]; unfold adv; rw [if_neg (by simp [hen])]; exact hW1
        · obtain rfl : k = p.length := by omega
          have hext := hex m p.length
          have hwhole : (p.drop m).take (p.length - m) = p.drop m := List.take_of_length_le (by simp)
          rw [hwhole] at he hext
          rw [List.take_length] at *
          have hmidl : hh.length + (p.drop m).length ≤ 1000000000 := by rw [← List.length_append, he]; omega
          go_wp2_with fail
          refine (hold_any _ g _ hh _ v2 hW.cu (by omega)).mono ?_
          rintro e w1 ⟨rfl, ⟨v3, hcu1⟩, hC1⟩
          have hW1 := hW.step hC1 hcu1
          rw [he] at hW1
          clear hW
          go_wp2_with fail
          refine ⟨⟨j + 1, v3, by go_num, by omega, ?_⟩, by simp [intOf]; omega⟩
          rw [HJF.out]
          exact hW1
    · obtain rfl : j = ps.length := by omega
      rw [List.take_length] at hW
      obtain ⟨ao, cap, rfl, -⟩ := own_form hW.told
      go_wp2
      go_ret
      exact ⟨_, v', rfl, hW⟩
end Go.Proofs.Ythkhmjdenenikaa
