/-
  What Rename does where it does something. Condition: a disk within bounds.
-/
import Derived.Test.YtbedacdakmcfpaaRename
namespace Go.Proofs.Ytbedacdakmcfpaa
open Go.RowKit

section
variable {w w' : World} {F : Nat → Prop} {d : Nat} {S : Dk} {G : Gh}

theorem strB_ne {a b : Nm} (h : a ≠ b) : ((strB a).toList == (strB b).toList) = false := by
  rw [ByteArray.toList_eq, ByteArray.toList_eq, strB_list, strB_list, beq_eq_false_iff_ne]
  exact h
theorem gone_ren (l : Dir) (a b : Nm) : goneOf l (.ren a b) = look l b := rfl

set_option maxRecDepth 20000 in
set_option maxHeartbeats 1600000 in
/-- Rename does its work. -/
theorem rename_ok (h : Rep w F d S G) (hlow : ∀ k, F k → k < w.heap.size) (hon : S.on = true) (hb : S.bulk + 1 < 1099511627776) (a b : Nm) (h1 : isNm a = true) (h2 : isNm b = true) {f : Nat} (hl : look S.dir a = some f)
    (hf : S.fails S.n = false) (hab : a ≠ b) : Calls Try.prog 23 #[.pointer (some ⟨d, 0, none⟩), .string (strB a), .string (strB b)] w fun e w' => e = .returned (.int .i64 0) ∧
    ∃ G', Rep w' (Fx F w w') d (S.next.act (.ren a b)) G' ∧ Chg F w w' := by
  have hmf : ∀ (fn : Fn) (first cap : Array Value) (w : World), (Instr.makeFunc fn first cap).run Try.prog w = .ok (.func fn first cap) w := fun _ _ _ _ => rfl
  have hnl := n_le S
  have hbeg := beginOn_rep0 (h.keep (boxed_chg w a b) (fun _ _ h => h) (fun _ h => h)) hon (by omega)
  have hB := boxed_chg w a b
  have ha := boxed_a w a b
  have hb' := boxed_b w a b
  have hbs := boxed_size w a b
  have HFX : Hid (∀ w1 : World, (boxed w a b).heap.size ≤ w1.heap.size → ∀ k, Fx F (boxed w a b) w1 k → Fx F w w1 k) := hide fun w1 => boxed_fx
  unfold boxed at hbeg hB ha hb' HFX hbs
  have hne1 := strB_ne hab
  have hla := (isNm_len h1).2
  have hlb := (isNm_len h2).2
  have hbb : S.next.bulk ≤ S.bulk + 1 := by
    have e : S.begun = S.next := by unfold Dk.begun; rw [hon]; rfl
    have := bulk_begun S
    rwa [e] at this
  rw [hf] at hbeg
  go_enter Try.func23, Try.ntmps23
  go_wp2_with (first
    | (go_at_call 45; refine hbeg.mono ?_; rintro e w1 ⟨rfl, now, sure, hne, hr1, hc1⟩; have xa := cell_of (hc1.keep ha (fun hF => Nat.lt_irrefl _ (hlow _ hF))) 0; have xb := cell_of (hc1.keep hb' (fun hF => by have := hlow _ hF; omega)) 0)
    | (go_at_call 46; refine (isName_any _ _).mono ?_; rintro e w2 ⟨rfl, hw2⟩; subst hw2))
  obtain ⟨bn, rfl⟩ := Option.ne_none_iff_exists'.1 hne
  have hr2 := hr1.keep ((Chg.refl (fun _ => False) w2).drew) (fun _ _ h => h) (fun _ h => h)
  have hc2 := hc1.drew
  have ya : w2.drew.heap[w.heap.size]? = _ := hc2.keep ha (fun hF => Nat.lt_irrefl _ (hlow _ hF))
  have yb : w2.drew.heap[w.heap.size + 1]? = _ := hc2.keep hb' (fun hF => by have := hlow _ hF; omega)
  have hd1 := hr2.disk
  rw [next_cells] at hd1
  have x2 := cell_of hd1 2
  have hlk := now_map hr2 rfl a
  rw [show look S.next.dir a = some f from hl] at hlk
  have HR2 : Hid (Rep w2.drew (Fx F w w2.drew) d S.next { G with now := some bn, sure := sure }) := hide (hr2.mono (HFX.out w2 hc1.size))
  have HC2 := hide ((hB.mono fun _ _ f => f.elim).then hc2)
  have hws : w.heap.size + 2 ≤ w2.drew.heap.size := by
    have := hc2.size
    rw [hbs] at this
    exact this
  clear hr1 hc1 hd1 hr2 hc2
  refine wp_region_held_drew (S := fun W => W.cell? ⟨d, 2, none⟩ = some (.map (some bn)) ∧ W.cell? ⟨w.heap.size, 0, none⟩ = some (.string (strB a)) ∧ (Instr.lookup 62 (.map (some bn)) (.string (strB a)) false).run Try.prog W = .ok (.pointer (some ⟨G.fb f, 0, none⟩)) W) (by kernel_rfl) (⟨x2, xa, hlk⟩) (fun hHeld => ?_)
  refine takeH (i := 0) (v := ?_) rfl (by kernel_rfl) (by kernel_rfl) (by kernel_rfl) (fun _ _ _ h => h) rfl ?_ hHeld ?_
  rotate_left
  · intro w hS; (try dsimp only at hS); obtain ⟨hS0, hS1, hS2⟩ := hS; go_simp; first | done | (with_reducible rfl)
  try simp only [Act.put, List.setIfInBounds_toArray, List.set_cons_zero, List.set_cons_succ]
  refine takeH (i := 1) (v := ?_) rfl (by kernel_rfl) (by kernel_rfl) (by kernel_rfl) (fun _ _ _ h => h) rfl ?_ hHeld ?_
  rotate_left
  · intro w hS; (try dsimp only at hS); obtain ⟨hS0, hS1, hS2⟩ := hS; go_simp; first | done | (with_reducible rfl)
  try simp only [Act.put, List.setIfInBounds_toArray, List.set_cons_zero, List.set_cons_succ]
  refine takeH (i := 2) (v := ?_) rfl (by kernel_rfl) (by kernel_rfl) (by kernel_rfl) (fun _ _ _ h => h) rfl ?_ hHeld ?_
  rotate_left
  · intro w hS; (try dsimp only at hS); obtain ⟨hS0, hS1, hS2⟩ := hS; go_simp; first | done | (with_reducible rfl)
  try simp only [Act.put, List.setIfInBounds_toArray, List.set_cons_zero, List.set_cons_succ]
  refine takeH (i := 3) (v := ?_) rfl (by kernel_rfl) (by kernel_rfl) (by kernel_rfl) (fun _ _ _ h => h) rfl ?_ hHeld ?_
  rotate_left
  · intro w hS; (try dsimp only at hS); obtain ⟨hS0, hS1, hS2⟩ := hS; go_simp; first | done | (with_reducible rfl)
  try simp only [Act.put, List.setIfInBounds_toArray, List.set_cons_zero, List.set_cons_succ]
  refine takeH (i := 4) (v := ?_) rfl (by kernel_rfl) (by kernel_rfl) (by kernel_rfl) (fun _ _ _ h => h) rfl ?_ hHeld ?_
  rotate_left
  · intro w hS; (try dsimp only at hS); obtain ⟨hS0, hS1, hS2⟩ := hS; go_simp; first | done | (with_reducible rfl)
  try simp only [Act.put, List.setIfInBounds_toArray, List.set_cons_zero, List.set_cons_succ]
  refine takeH (i := 5) (v := ?_) rfl (by kernel_rfl) (by kernel_rfl) (by kernel_rfl) (fun _ _ _ h => h) rfl ?_ hHeld ?_
  rotate_left
  · intro w hS; (try dsimp only at hS); obtain ⟨hS0, hS1, hS2⟩ := hS; go_simp; first | done | (with_reducible rfl)
  try simp only [Act.put, List.setIfInBounds_toArray, List.set_cons_zero, List.set_cons_succ]
  refine takeH (i := 6) (v := ?_) rfl (by kernel_rfl) (by kernel_rfl) (by kernel_rfl) (fun _ _ _ h => h) rfl ?_ hHeld ?_
  rotate_left
  · intro w hS; (try dsimp only at hS); obtain ⟨hS0, hS1, hS2⟩ := hS; go_simp; first | done | (with_reducible rfl)
  try simp only [Act.put, List.setIfInBounds_toArray, List.set_cons_zero, List.set_cons_succ]
  refine takeH (i := 7) (v := ?_) rfl (by kernel_rfl) (by kernel_rfl) (by kernel_rfl) (fun _ _ _ h => h) rfl ?_ hHeld ?_
  rotate_left
  · intro w hS; (try dsimp only at hS); obtain ⟨hS0, hS1, hS2⟩ := hS; go_simp; first | done | (with_reducible rfl)
  try simp only [Act.put, List.setIfInBounds_toArray, List.set_cons_zero, List.set_cons_succ]
  refine wpAnyH_done (by kernel_rfl) ?_ _
  clear hHeld hlk
  have xa2 : w2.drew.cell? ⟨w.heap.size, 0, none⟩ = some (.string (strB a)) := xa
  have xb2 : w2.drew.cell? ⟨w.heap.size + 1, 0, none⟩ = some (.string (strB b)) := xb
  clear xa xb
  have HW := hide hws
  clear hws
  generalize w2.drew = w3 at *
  go_wp2_with fail
  have hr4 := HR2.out.keep ((Chg.refl (fun _ => False) w3).drew) (fun _ _ h => h) (fun _ h => h)
  have HC4 := hide HC2.out.drew
  have ya4 : w3.drew.heap[w.heap.size]? = _ := ya
  have yb4 : w3.drew.heap[w.heap.size + 1]? = _ := yb
  have xb4 : w3.drew.cell? ⟨w.heap.size + 1, 0, none⟩ = some (.string (strB b)) := xb2
  have x24 : w3.drew.cell? ⟨d, 2, none⟩ = some (.map (some bn)) := x2
  have hlk := now_map hr4 rfl b
  have HR4 : Hid (Rep w3.drew (Fx F w w3.drew) d S.next { G with now := some bn, sure := sure }) := hide hr4
  have HW4 : Hid (w.heap.size + 2 ≤ w3.drew.heap.size) := hide HW.out
  clear hr4 HR2 HC2 ya yb xa2 xb2 x2 HW hbeg hne
  refine wp_region_held_drew (S := fun W => W.cell? ⟨d, 2, none⟩ = some (.map (some bn)) ∧ W.cell? ⟨w.heap.size + 1, 0, none⟩ = some (.string (strB b)) ∧ (Instr.lookup 62 (.map (some bn)) (.string (strB b)) false).run Try.prog W = .ok (pv G.fb (look S.next.dir b)) W) (by kernel_rfl) (⟨x24, xb4, hlk⟩) (fun hHeld => ?_)
  refine takeH (i := 0) (v := ?_) rfl (by kernel_rfl) (by kernel_rfl) (by kernel_rfl) (fun _ _ _ h => h) rfl ?_ hHeld ?_
  rotate_left
  · intro w hS; (try dsimp only at hS); obtain ⟨hS0, hS1, hS2⟩ := hS; go_simp; first | done | (with_reducible rfl)
  try simp only [Act.put, List.setIfInBounds_toArray, List.set_cons_zero, List.set_cons_succ]
  refine takeH (i := 1) (v := ?_) rfl (by kernel_rfl) (by kernel_rfl) (by kernel_rfl) (fun _ _ _ h => h) rfl ?_ hHeld ?_
  rotate_left
  · intro w hS; (try dsimp only at hS); obtain ⟨hS0, hS1, hS2⟩ := hS; go_simp; first | done | (with_reducible rfl)
  try simp only [Act.put, List.setIfInBounds_toArray, List.set_cons_zero, List.set_cons_succ]
  refine takeH (i := 2) (v := ?_) rfl (by kernel_rfl) (by kernel_rfl) (by kernel_rfl) (fun _ _ _ h => h) rfl ?_ hHeld ?_
  rotate_left
  · intro w hS; (try dsimp only at hS); obtain ⟨hS0, hS1, hS2⟩ := hS; go_simp; first | done | (with_reducible rfl)
  try simp only [Act.put, List.setIfInBounds_toArray, List.set_cons_zero, List.set_cons_succ]
  refine takeH (i := 3) (v := ?_) rfl (by kernel_rfl) (by kernel_rfl) (by kernel_rfl) (fun _ _ _ h => h) rfl ?_ hHeld ?_
  rotate_left
  · intro w hS; (try dsimp only at hS); obtain ⟨hS0, hS1, hS2⟩ := hS; go_simp; first | done | (with_reducible rfl)
  try simp only [Act.put, List.setIfInBounds_toArray, List.set_cons_zero, List.set_cons_succ]
  refine takeH (i := 4) (v := ?_) rfl (by kernel_rfl) (by kernel_rfl) (by kernel_rfl) (fun _ _ _ h => h) rfl ?_ hHeld ?_
  rotate_left
  · intro w hS; (try dsimp only at hS); obtain ⟨hS0, hS1, hS2⟩ := hS; go_simp; first | done | (with_reducible rfl)
  try simp only [Act.put, List.setIfInBounds_toArray, List.set_cons_zero, List.set_cons_succ]
  refine takeH (i := 5) (v := ?_) rfl (by kernel_rfl) (by kernel_rfl) (by kernel_rfl) (fun _ _ _ h => h) rfl ?_ hHeld ?_
  rotate_left
  · intro w hS; (try dsimp only at hS); obtain ⟨hS0, hS1, hS2⟩ := hS; go_simp; first | done | (with_reducible rfl)
  try simp only [Act.put, List.setIfInBounds_toArray, List.set_cons_zero, List.set_cons_succ]
  refine takeH (i := 6) (v := ?_) rfl (by kernel_rfl) (by kernel_rfl) (by kernel_rfl) (fun _ _ _ h => h) rfl ?_ hHeld ?_
  rotate_left
  · intro w hS; (try dsimp only at hS); obtain ⟨hS0, hS1, hS2⟩ := hS; go_simp; first | done | (with_reducible rfl)
  try simp only [Act.put, List.setIfInBounds_toArray, List.set_cons_zero, List.set_cons_succ]
  refine wpAnyH_done (by kernel_rfl) ?_ _
  clear hHeld hlk
  generalize w3.drew = w4 at *
  clear w2 w3
  obtain ⟨G', hG'⟩ : ∃ G', G' = { G with now := some bn, sure := sure } := ⟨_, rfl⟩
  have hfb : G'.fb = G.fb := by rw [hG']
  have hbn : G'.now = some bn := by rw [hG']
  rw [← hG'] at HR4
  rw [← hfb]
  clear hG' hfb
  have hl1 : look S.next.dir a ≠ none := by
    show look S.dir a ≠ none
    rw [hl]
    simp
  have hga := gone_ren S.next.dir a b
  rcases hgo : look S.next.dir b with _ | g
  have hpv : pv G'.fb none = .pointer none := rfl
  rw [hpv]
  rw [hgo] at hga
  have HGA := hide hga
  have HGO := hide hgo
  clear hga hgo
  focus
    go_wp2_with fail
  have hga := HGA.out
  obtain ⟨w5, hw5⟩ : ∃ w5, w5 = w4 := ⟨_, rfl⟩
  have ya5 := ya4
  have yb5 := yb4
  have HD5 : Hid (w4.heap[d]? = some (.cells #[.int .i64 (S.next.room : Int), .int .i64 ((S.next.used : Int) - (((goneOf S.next.dir (.ren a b)).map (lenOf S.next.files)).getD 0 : Nat)), .map (some bn), .map G'.sure, G'.lv, .int .i64 (S.next.n : Int), .bool S.next.cut.isSome, .int .i64 G'.cv, .map G'.fls] 66)) := hide (by
    rw [hga, ← hbn]
    have := HR4.out.disk
    unfold dcells at this
    rw [this]
    simp)
  have HG5 : Hid (∀ g, goneOf S.next.dir (.ren a b) = some g → w4.heap[G'.fb g]? = some (.cells #[G'.rv g, G'.sv g, .bool false] 95)) := hide (fun g' hg' => by
    rw [hga] at hg'
    cases hg')
  have HC5 : Hid (Chg (fun k => k = d ∨ ∃ g, goneOf S.next.dir (.ren a b) = some g ∧ k = G'.fb g) w4 w4) := hide (Chg.refl _ _)
  rw [← hw5] at ya5 yb5 HD5 HG5 ⊢
  rw [show Chg (fun k => k = d ∨ ∃ g, goneOf S.next.dir (.ren a b) = some g ∧ k = G'.fb g) w4 w4 = Chg (fun k => k = d ∨ ∃ g, goneOf S.next.dir (.ren a b) = some g ∧ k = G'.fb g) w4 w5 by rw [hw5]] at HC5
  clear hw5
  rotate_left
  have hpv : pv G'.fb (some g) = .pointer (some ⟨G'.fb g, 0, none⟩) := rfl
  rw [hpv]
  have hun := unname_rep HR4.out (by omega) (look_id hgo)
  rw [hgo] at hga
  go_wp2_with (go_at_call 41; refine hun.mono ?_; rintro e w5 ⟨rfl, u1, u2, u3⟩)
  have hX : ∀ k x, w4.heap[k]? = some (Obj.cells #[x] 9) → ¬ (k = d ∨ k = G'.fb g) := fun k x hk e => by
    rcases e with e | e
    · exact ne_tag hk HR4.out.disk (show 9 ≠ 66 by decide) e
    · exact ne_tag hk (HR4.out.files g (Or.inl (live_of_dir HR4.out.ok (look_id hgo)))).2 (show 9 ≠ 95 by decide) e
  have ya5 := u3.keep ya4 (hX _ _ ya4)
  have yb5 := u3.keep yb4 (hX _ _ yb4)
  have HD5 : Hid (w5.heap[d]? = some (.cells #[.int .i64 (S.next.room : Int), .int .i64 ((S.next.used : Int) - (((goneOf S.next.dir (.ren a b)).map (lenOf S.next.files)).getD 0 : Nat)), .map (some bn), .map G'.sure, G'.lv, .int .i64 (S.next.n : Int), .bool S.next.cut.isSome, .int .i64 G'.cv, .map G'.fls] 66)) := hide (by rw [hga, ← hbn]; exact u1)
  have HG5 : Hid (∀ g, goneOf S.next.dir (.ren a b) = some g → w5.heap[G'.fb g]? = some (.cells #[G'.rv g, G'.sv g, .bool false] 95)) := hide (fun g' hg' => by
    rw [hga] at hg'
    injection hg' with hg'
    subst hg'
    exact u2)
  have HC5 : Hid (Chg (fun k => k = d ∨ ∃ g, goneOf S.next.dir (.ren a b) = some g ∧ k = G'.fb g) w4 w5) := hide (u3.mono fun k _ e => e.elim Or.inl fun e => Or.inr ⟨g, hga, e⟩)
  clear u1 u2 u3 hX
  all_goals
    have HA4 := hide ya4
    have HB4 := hide yb4
    clear ya4 yb4 xb4 x24
    have za5 : w5.drew.heap[w.heap.size]? = _ := ya5
    have zb5 : w5.drew.heap[w.heap.size + 1]? = _ := yb5
    refine wp_region_held_drew (S := fun W => W.cell? ⟨w.heap.size, 0, none⟩ = some (.string (strB a)) ∧ W.cell? ⟨w.heap.size + 1, 0, none⟩ = some (.string (strB b))) (by kernel_rfl) (⟨cell_of za5 0, cell_of zb5 0⟩) (fun hHeld => ?_)
    refine takeH (i := 0) (v := ?_) rfl (by kernel_rfl) (by kernel_rfl) (by kernel_rfl) (fun _ _ _ h => h) rfl ?_ hHeld ?_
    rotate_left
    · intro w hS; (try dsimp only at hS); obtain ⟨hS0, hS1⟩ := hS; go_simp; first | done | (with_reducible rfl)
    try simp only [Act.put, List.setIfInBounds_toArray, List.set_cons_zero, List.set_cons_succ]
    refine takeH (i := 2) (v := ?_) rfl (by kernel_rfl) (by kernel_rfl) (by kernel_rfl) (fun _ _ _ h => h) rfl ?_ hHeld ?_
    rotate_left
    · intro w hS; (try dsimp only at hS); obtain ⟨hS0, hS1⟩ := hS; go_simp; first | done | (with_reducible rfl)
    try simp only [Act.put, List.setIfInBounds_toArray, List.set_cons_zero, List.set_cons_succ]
    refine onlyH (i := 1) rfl (by kernel_rfl) rfl (fun K hK => ?_)
    go_simp
    refine (copyStr_any _ a (by omega)).mono ?_
    rintro e w6 ⟨rfl, hb6⟩
    have ya6 := (hb6.block w.heap.size (lt_of_heap za5)).trans za5
    have yb6 := (hb6.block (w.heap.size + 1) (lt_of_heap zb5)).trans zb5
    refine hK.out _ _ (⟨cell_of ya6 0, cell_of yb6 0⟩) (fun hHeld => ?_)
    clear hK K
    try simp only [Act.put, List.setIfInBounds_toArray, List.set_cons_zero, List.set_cons_succ]
    refine onlyH (i := 3) rfl (by kernel_rfl) rfl (fun K hK => ?_)
    go_simp
    refine (copyStr_any _ b (by omega)).mono ?_
    rintro e w7 ⟨rfl, hb7⟩
    have ya7 := (hb7.block w.heap.size (lt_of_heap ya6)).trans ya6
    have yb7 := (hb7.block (w.heap.size + 1) (lt_of_heap yb6)).trans yb6
    have ta7 := thawed ya7 0
    refine hK.out _ _ (⟨cell_of ya7 0, cell_of yb7 0⟩) (fun hHeld => ?_)
    clear hK K
    try simp only [Act.put, List.setIfInBounds_toArray, List.set_cons_zero, List.set_cons_succ]
    refine onlyH (i := 4) rfl (by kernel_rfl) rfl (fun K hK => ?_)
    go_simp
    have hsa := chg_same ya7
    have ya8 := hsa.keep ya7 (fun h => h)
    have yb8 := hsa.keep yb7 (fun h => h)
    have HC8 : Hid (Chg (fun k => k = d ∨ ∃ g, goneOf S.next.dir (.ren a b) = some g ∧ k = G'.fb g) w4 (w7.setCell ⟨w.heap.size, 0, none⟩ (.string (strB a)))) := hide (((HC5.out.drew.trans (Chg.of_below hb6) (fun i hi h => absurd (Nat.lt_of_lt_of_le hi HC5.out.size) (Nat.not_lt_of_le h))).trans (Chg.of_below hb7) (fun i hi h => absurd (Nat.lt_of_lt_of_le hi (Nat.le_trans HC5.out.size hb6.size)) (Nat.not_lt_of_le h))).then (hsa.mono fun _ _ h => h.elim))
    have HD8 := hide (hsa.keep ((hb7.block d (Nat.lt_of_lt_of_le (lt_of_heap HD5.out) hb6.size)).trans ((hb6.block d (lt_of_heap HD5.out)).trans HD5.out)) (fun h => h))
    have HG8 : Hid (∀ g, goneOf S.next.dir (.ren a b) = some g → (w7.setCell ⟨w.heap.size, 0, none⟩ (.string (strB a))).heap[G'.fb g]? = some (.cells #[G'.rv g, G'.sv g, .bool false] 95)) := hide (fun g hg => hsa.keep ((hb7.block _ (Nat.lt_of_lt_of_le (lt_of_heap (HG5.out g hg)) hb6.size)).trans ((hb6.block _ (lt_of_heap (HG5.out g hg))).trans (HG5.out g hg))) (fun h => h))
    refine hK.out _ _ (⟨cell_of ya8 0, cell_of yb8 0⟩) (fun hHeld => ?_)
    clear hK K
    try simp only [Act.put, List.setIfInBounds_toArray, List.set_cons_zero, List.set_cons_succ]
    clear HC5 HD5 HG5 hsa hb6 hb7 ya5 yb5 za5 zb5 ya6 yb6 ya7 yb7 ta7
    generalize w7.setCell ⟨w.heap.size, 0, none⟩ (.string (strB a)) = w8 at *
    have tb8 := thawed yb8 0
    refine onlyH (i := 5) rfl (by kernel_rfl) rfl (fun K hK => ?_)
    go_simp
    have hsb := chg_same yb8
    have ya9 := hsb.keep ya8 (fun h => h)
    have yb9 := hsb.keep yb8 (fun h => h)
    have HC9 := hide (HC8.out.then (hsb.mono fun _ _ h => h.elim))
    have HD9 := hide (hsb.keep HD8.out (fun h => h))
    have HG9 : Hid (∀ g, goneOf S.next.dir (.ren a b) = some g → (w8.setCell ⟨w.heap.size + 1, 0, none⟩ (.string (strB b))).heap[G'.fb g]? = some (.cells #[G'.rv g, G'.sv g, .bool false] 95)) := hide (fun g hg => hsb.keep (HG8.out g hg) (fun h => h))
    refine hK.out _ _ (⟨cell_of ya9 0, cell_of yb9 0⟩) (fun hHeld => ?_)
    clear hK K
    try simp only [Act.put, List.setIfInBounds_toArray, List.set_cons_zero, List.set_cons_succ]
    refine wpAnyH_done (by kernel_rfl) ?_ _
    clear hHeld
    clear HC8 HD8 HG8 hsb ya8 yb8 tb8
    generalize w8.setCell ⟨w.heap.size + 1, 0, none⟩ (.string (strB b)) = w9 at *
    have hca : Fx F w w4 w.heap.size := Or.inr ⟨Nat.le_refl _, lt_of_heap HA4.out⟩
    have hcb : Fx F w w4 (w.heap.size + 1) := Or.inr ⟨Nat.le_succ _, lt_of_heap HB4.out⟩
    have hch := changed_rep (w2 := w9) (a := .ren a b) HR4.out hbn (HR4.out.ok.ren hl1 hab) ⟨hl1, hab⟩ rfl rfl (by omega) HC9.out HD9.out HG9.out
      (g := 54) (caps := #[.pointer (some ⟨w.heap.size, 0, none⟩), .pointer (some ⟨w.heap.size + 1, 0, none⟩)]) enters54
      (fun W hm hW => ren1_any W bn w.heap.size (w.heap.size + 1) G'.fb S.next.dir a b HR4.out.ok.sortD hm hl1 hab (hW.keep ya9 (fun h => h)) (hW.keep yb9 (fun h => h)))
      (fun w' hk => ⟨w.heap.size, w.heap.size + 1, rfl, Or.inl hca, Or.inl hcb, hk _ _ ya9, hk _ _ yb9⟩)
    go_wp2_with (go_at_call 43; refine hch.mono ?_; rintro e w10 ⟨rfl, G5, hr5, hc5⟩; have HR5 := hide hr5; have HC10 := hide hc5; clear hr5 hc5 hch)
    go_ret
    refine ⟨rfl, G5, HR5.out.mono (fun k hk => ?_), HC4.out.trans HC10.out (fun i hi h => ?_)⟩
    · rcases hk with (hk | ⟨a, b⟩) | ⟨a, b⟩
      · exact Or.inl hk
      · exact Or.inr ⟨a, Nat.lt_of_lt_of_le b HC10.out.size⟩
      · exact Or.inr ⟨Nat.le_trans HC4.out.size a, b⟩
    · rcases h with h | ⟨a, b⟩
      · exact h
      · exact absurd hi (Nat.not_lt_of_le a)

/-- Rename, in one. -/
theorem rename_rep (h : Rep w F d S G) (hlow : ∀ k, F k → k < w.heap.size) (hb : S.bulk + 1 < 1099511627776) (a b : Nm) : Calls Try.prog 23 #[.pointer (some ⟨d, 0, none⟩), .string (strB a), .string (strB b)] w fun e w' => e = .returned (.int .i64 (S.rename a b).2) ∧
    ∃ G', Rep w' (Fx F w w') d (S.rename a b).1 G' ∧ Chg F w w' := by
  have hnl := n_le S
  unfold Dk.rename
  by_cases hon : S.on = false
  · simp only [if_pos hon]
    exact rename_off h hon a b
  simp only [if_neg hon]
  have hon' : S.on = true := by simpa using hon
  by_cases hn : isNm a = false ∨ isNm b = false
  · simp only [if_pos hn]
    exact rename_name h hlow hon' (by omega) a b hn
  simp only [if_neg hn]
  have h1 : isNm a = true := by
    rcases Bool.eq_false_or_eq_true (isNm a) with e | e
    · exact e
    · exact absurd (Or.inl e) hn
  have h2 : isNm b = true := by
    rcases Bool.eq_false_or_eq_true (isNm b) with e | e
    · exact e
    · exact absurd (Or.inr e) hn
  cases hl : look S.dir a with
  | none =>
    simp only [if_true]
    exact rename_none h hlow hon' (by omega) a b h1 h2 hl
  | some f =>
    simp only [reduceCtorEq, if_false]
    by_cases hf : S.fails S.n = true
    · simp only [if_pos hf]
      exact rename_io h hlow hon' (by omega) a b h1 h2 hl 34 (Or.inl ⟨hf, rfl⟩)
    have hf' : S.fails S.n = false := by simpa using hf
    simp only [if_neg hf]
    by_cases hab : a = b
    · simp only [if_pos hab]
      exact rename_io h hlow hon' (by omega) a b h1 h2 hl 0 (Or.inr ⟨hf', hab, rfl⟩)
    simp only [if_neg hab]
    exact rename_ok h hlow hon' hb a b h1 h2 hl hf' hab
end
end Go.Proofs.Ytbedacdakmcfpaa
