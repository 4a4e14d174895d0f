/-
  Texts joined: DRead, DMeet, DMeet2.
-/
import Derived.Test.YtldfjpgcemfpjaaM25DMem
/-
  Reading a node that was met. Conditions: the get keeps its word; the comparing lies there.
-/
namespace Go.Proofs.Ytldfjpgcemfpjaa
open Go.RowKit

theorem Try.eqLink : Try.prog.underlying 81 = some (.struct (Try.prog.fieldsOf 81)) ∧ Try.prog.stoodInHeld 81 = false ∧ Try.prog.eqGuardType Try.prog.depth 81 = false := ⟨by kernel_rfl, by kernel_rfl, by kernel_rfl⟩
theorem neq_Link0 (W : World) (a0 b0 a1 b1 : Bs) (a2 b2 : Int) : (binOp .neq 81 (.agg #[.string (strB a0), .string (strB a1), .int .i64 a2]) (.agg #[.string (strB b0), .string (strB b1), .int .i64 b2])).run Try.prog W = .ok (.bool (!(a0 == b0 && (a1 == b1 && a2 == b2)))) W := by
  obtain ⟨h1, h2, h3⟩ := Try.eqLink
  rw [run_neq_struct, run_equalIn_agg _ _ _ _ _ h1 h2]
  simp only [Program.fieldsOf, Try.underlying81]
  by_cases q0 : a0 = b0 <;> by_cases q1 : a1 = b1 <;> by_cases q2 : a2 = b2 <;> simp [Op.eqFields, go_sem, Try.underlying9, Try.underlying2, toL, q0, q1, q2]
theorem neq_Link (W : World) (x y : Link) : (binOp .neq 81 (.agg #[.string (strB x.1), .string (strB x.2.1), .int .i64 x.2.2]) (.agg #[.string (strB y.1), .string (strB y.2.1), .int .i64 y.2.2])).run Try.prog W = .ok (.bool (x != y)) W := by
  rw [neq_Link0]
  rfl
section
variable {B : Nat} {w : World} {c mb g : Nat} {caps : Array Value} {fd : Bs → Option Bs} {I : World → List Bs → Prop} {S : Gh} {σ : Cm}
theorem readM_have {id : Bs} (h : (σ.nd id).body.isSome = true) : readM fd σ id = (0, σ) := by unfold readM; rw [if_pos h]
set_option maxRecDepth 40000 in
set_option maxHeartbeats 3200000 in
theorem dread_any (hG : GetD g caps fd B I) (h : CmW B w c mb (.func (.func g) #[] caps) S σ) (ho : Okm σ) {id : Bs} (hid : id ∈ σ.met) (hI : I w σ.asked) (hn : σ.asked.length ≤ 4294967296) :
    Calls Try.prog 59 #[.pointer (some ⟨c, 0, none⟩), .pointer (some ⟨S.ad id, 0, none⟩)] w fun e w' => e = .returned (.int .i64 (readM fd σ id).1) ∧ I w' (readM fd σ id).2.asked ∧ ((readM fd σ id).1 = 0 → ∃ tg, CmW B w' c mb (.func (.func g) #[] caps) ⟨S.ad, tg, S.rv⟩ (readM fd σ id).2) ∧ Below B w w' := by
  obtain ⟨bp, hbl, hbp, haB⟩ := h.nodes id hid
  have hself := ho.self id hid
  have hbl0 := hbl
  unfold ndC at hbl
  have c1 := cell_of_row w (S.ad id) 1 _ _ _ hbl
  have c6 := cell_of_row w (S.ad id) 6 _ _ _ hbl
  simp only [List.getElem?_toArray, List.getElem?_cons_zero, List.getElem?_cons_succ] at c1 c6
  rw [hself] at c1
  cases hb : (σ.nd id).body with
  | some n =>
    rw [hb] at hbp
    obtain ⟨q, rfl, -⟩ := hbp
    rw [readM_have (by rw [hb]; rfl)]
    have H := hide (And.intro h hI)
    clear h hI hbl hbl0 hb hG ho
    go_enter Try.func59, Try.ntmps59
    go_wp2
    go_ret
    exact ⟨rfl, H.out.2, fun _ => ⟨S.tg, H.out.1⟩, Below.refl _ _⟩
  | none =>
    rw [hb] at hbp
    obtain rfl : bp = .pointer none := hbp
    have hask := dask_any hG h id hI hn
    have hr : readM fd σ id = if (askM fd (rootK id) (-1)).1 ≠ 0 then ((askM fd (rootK id) (-1)).1, askedM σ id) else if (askM fd (rootK id) (-1)).2.1 ≠ (σ.nd id).level ∨ linkM id (askM fd (rootK id) (-1)).2 ≠ (σ.nd id).link then (122, askedM σ id) else (0, ⟨σ.met, updN σ.nd id (bodied (σ.nd id) (askM fd (rootK id) (-1)).2), σ.lev, σ.prs, σ.asked ++ [id]⟩) := by
      unfold readM
      rw [hb]
      rfl
    have hok := fun h0 => (askM_ok (fd := fd) (k := rootK id) (level := -1) hG.short h0).1
    generalize readM fd σ id = R at *
    generalize askM fd (rootK id) (-1) = A at *
    obtain ⟨r, n⟩ := A
    unfold askSaid at hask
    simp only at hask hr hok
    have HH := hide (And.intro h (And.intro hI (And.intro hG ho)))
    clear h hI hG ho
    by_cases h0 : r = 0
    rotate_left
    · rw [if_pos h0] at hr
      subst hr
      simp only [if_neg h0] at hask
      simp only
      have hr0 : (r != 0) = true := by simpa using h0
      have H0 := hide h0
      clear h0 hok hbl
      go_enter Try.func59, Try.ntmps59
      go_wp2_with fail
      refine hask.mono ?_
      rintro e w1 ⟨rfl, hI1, hb1, -⟩
      have H1 := hide (And.intro hI1 hb1)
      clear hI1 hb1 hask
      go_wp2
      go_ret
      exact ⟨rfl, H1.out.1, fun hx => absurd hx H0.out, H1.out.2⟩
    · subst h0
      rw [if_neg (by simp)] at hr
      simp only [if_true] at hask
      have hR := hok rfl
      clear hok
      go_enter Try.func59, Try.ntmps59
      go_wp2_with fail
      refine hask.mono ?_
      rintro e w1 ⟨⟨q, vk, vp, rfl, hq, hbody, hlk, hpr⟩, hI1, hb1, hk1⟩
      have hs0 : w.heap.size ≤ w1.heap.size := hb1.size
      have hC := (HH.out.1.retag (fun x => if vp.ownBlock = some x then 4 else S.tg x) (fun x hx => if_neg (fun hv => by have := (hpr.lt x hv).1; omega))).keep hk1
      have hbl1 := hk1 _ _ hbl0 rfl
      have hB := HH.out.1.le
      have hBody : BodyAt B w1 (fun x => if vp.ownBlock = some x then 4 else S.tg x) q n := ⟨vk, vp, hbody, own_down hlk hB, own_down hpr hB, fun x hx => if_pos hx⟩
      have hI1' := hI1
      have hlink := blink_any w1.drew q id n vk vp hbody (ls_of_own linkC_length (own_down hlk hB)) (ls_of_own pairC_length (own_down hpr hB)) hR
      have d0 := cell_of_row w1 q 0 _ _ _ hbody
      have hbl2 := hbl1
      unfold ndC at hbl2
      have e0 := cell_of_row w1 (S.ad id) 0 _ _ _ hbl2
      have e1 := cell_of_row w1 (S.ad id) 1 _ _ _ hbl2
      have e2 := cell_of_row w1 (S.ad id) 2 _ _ _ hbl2
      have e3 := cell_of_row w1 (S.ad id) 3 _ _ _ hbl2
      simp only [List.getElem?_toArray, List.getElem?_cons_zero, List.getElem?_cons_succ] at d0 e0 e1 e2 e3
      rw [hself] at e1
      have HW := hide (And.intro hC (And.intro hbl1 (And.intro hBody (And.intro hI1 hb1))))
      clear hask c1 c6 hC hbl1 hbl2 hBody hI1 hI1' hbody hlk hpr hb1 hk1 hq
      generalize hlv : (σ.nd id).level = lv at *
      generalize hlk : (σ.nd id).link = lk at *
      by_cases hlev : n.1 = lv
      rotate_left
      · have hlb : (n.1 != lv) = true := by simpa using hlev
        rw [if_pos (.inl hlev)] at hr
        have HR := hide hr
        clear hr hlink
        go_wp2_with fail
        refine wp_region_held_drew (S := fun W => W.cell? ⟨q, 0, none⟩ = some (.int .i64 n.1) ∧ W.cell? ⟨S.ad id, 3, none⟩ = some (.int .i64 lv)) (by kernel_rfl) (⟨d0, e3⟩) (fun hHeld => ?_)
        refine takeK 0 hHeld ?_
        refine takeK 1 hHeld ?_
        refine takeK 2 hHeld ?_
        refine takeK 3 hHeld ?_
        refine takeK 4 hHeld ?_
        refine takeK 5 hHeld ?_
        refine takeK 6 hHeld ?_
        refine takeK 7 hHeld ?_
        refine takeK 8 hHeld ?_
        refine takeK 9 hHeld ?_
        refine takeK 10 hHeld ?_
        refine skipK 11 hHeld ?_
        refine skipK 12 hHeld ?_
        refine skipK 13 hHeld ?_
        refine skipK 14 hHeld ?_
        refine skipK 15 hHeld ?_
        refine skipK 16 hHeld ?_
        refine skipK 17 hHeld ?_
        refine skipK 18 hHeld ?_
        refine skipK 19 hHeld ?_
        refine skipK 20 hHeld ?_
        refine skipK 21 hHeld ?_
        refine skipK 22 hHeld ?_
        refine takeK 23 hHeld ?_
        refine wpAnyH_done (by kernel_rfl) ?_ _
        clear hHeld
        go_wp2
        go_ret
        rw [HR.out]
        exact ⟨rfl, HH.out.2.2.1.below HW.out.2.2.2.1 (Below.refl _ _).drew, fun hx => absurd hx (by simp), HW.out.2.2.2.2.drew⟩
      · have hlb : (n.1 != lv) = false := by simpa using hlev
        have hnq : ∀ W, _ := fun W => neq_Link W (linkM id n) lk
        by_cases hlq : linkM id n = lk
        · have hlb2 : (linkM id n != lk) = false := by simpa using hlq
          rw [hlb2, hself] at hnq
          rw [if_neg (by rintro (h1 | h1); exact h1 hlev; exact h1 hlq)] at hr
          have HR := hide hr
          have HLQ := hide (And.intro hlev (And.intro hlq (And.intro hlv hlk)))
          clear hr hlev hlq hlv hlk
          have f6 : ∀ W : World, Below w1.heap.size w1 W → W.heap[S.ad id]? = some (.cells (ndC (σ.nd id) (.pointer none)) 110) := fun W hW => (hW.block _ (lt_of_heap HW.out.2.1)).trans HW.out.2.1
          have HF := hide f6
          clear f6
          generalize hlm : linkM id n = lm at *
          go_wp2_with fail
          refine wp_region_held_drew (S := fun W => W.cell? ⟨q, 0, none⟩ = some (.int .i64 n.1) ∧ W.cell? ⟨S.ad id, 3, none⟩ = some (.int .i64 lv) ∧ W.cell? ⟨S.ad id, 0, none⟩ = some (.string (strB lk.1)) ∧ W.cell? ⟨S.ad id, 1, none⟩ = some (.string (strB id)) ∧ W.cell? ⟨S.ad id, 2, none⟩ = some (.int .i64 lk.2.2)) (by kernel_rfl) (⟨d0, e3, e0, e1, e2⟩) (fun hHeld => ?_)
          refine takeK 0 hHeld ?_
          refine takeK 1 hHeld ?_
          refine takeK 2 hHeld ?_
          refine takeK 3 hHeld ?_
          refine takeK 4 hHeld ?_
          refine takeK 5 hHeld ?_
          refine takeK 6 hHeld ?_
          refine takeK 7 hHeld ?_
          refine takeK 8 hHeld ?_
          refine takeK 9 hHeld ?_
          refine takeK 10 hHeld ?_
          refine takeK 11 hHeld ?_
          refine takeK 12 hHeld ?_
          refine takeK 13 hHeld ?_
          refine takeK 14 hHeld ?_
          refine takeK 15 hHeld ?_
          refine takeK 16 hHeld ?_
          refine takeK 18 hHeld ?_
          refine takeK 19 hHeld ?_
          refine takeK 20 hHeld ?_
          refine takeK 21 hHeld ?_
          refine onlyH (i := 17) rfl (by kernel_rfl) rfl (fun K hK => ?_)
          go_simp
          refine hlink.mono ?_
          rintro e w2 ⟨rfl, hb2⟩
          have hb2' : Below w1.heap.size w1 w2 := (Below.refl _ _).drew.trans hb2
          have hs1 : q < w1.heap.size := by obtain ⟨_, _, hx, -⟩ := HW.out.2.2.1; exact lt_of_heap hx
          have hs2 := lt_of_heap HW.out.2.1
          have H2 := hide hb2'
          refine hK.out _ _ (⟨(hb2'.cell (p := ⟨q, 0, none⟩) hs1).trans d0, (hb2'.cell (p := ⟨S.ad id, 3, none⟩) hs2).trans e3, (hb2'.cell (p := ⟨S.ad id, 0, none⟩) hs2).trans e0, (hb2'.cell (p := ⟨S.ad id, 1, none⟩) hs2).trans e1, (hb2'.cell (p := ⟨S.ad id, 2, none⟩) hs2).trans e2⟩) (fun hHeld => ?_)
          clear hK K
          try simp only [Act.put, List.setIfInBounds_toArray, List.set_cons_zero, List.set_cons_succ]
          refine takeK 22 hHeld ?_
          refine takeK 23 hHeld ?_
          refine wpAnyH_done (by kernel_rfl) ?_ _
          clear hHeld hlink hb2 hb2' d0 e0 e1 e2 e3 hs1 hs2 hnq
          have hbl2 := HF.out w2 H2.out
          unfold ndC at hbl2
          have x6 := cell_of_row w2 (S.ad id) 6 _ _ _ hbl2
          simp only [List.getElem?_toArray, List.getElem?_cons_zero, List.getElem?_cons_succ] at x6
          have z6 := frozen0 (j := 6) hbl2
          clear hbl2
          go_wp2
          go_ret
          rw [HR.out]
          have hC2 := ((HW.out.1.below H2.out).noded HH.out.2.2.2 hid (j := 6) (u := .pointer (some ⟨q, 0, none⟩)) (n := bodied (σ.nd id) n) (bp' := .pointer (some ⟨q, 0, none⟩)) (HF.out w2 H2.out) rfl ⟨q, rfl, HW.out.2.2.1.kp (Kp.of H2.out)⟩).asked id
          refine ⟨rfl, ?_, fun _ => ⟨_, hC2⟩, (HW.out.2.2.2.2.trans (H2.out.mono (Nat.le_trans hB hs0))).setCell (p := ⟨S.ad id, 6, none⟩) haB _⟩
          exact HH.out.2.2.1.mv (HH.out.2.2.1.below HW.out.2.2.2.1 H2.out) ((Mv.refl _ _ _ _).set (HF.out w2 H2.out) (by decide) haB _)
        · have hlb2 : (linkM id n != lk) = true := by simpa using hlq
          rw [hlb2, hself] at hnq
          rw [if_pos (.inr hlq)] at hr
          have HR := hide hr
          clear hr hlev hlq hlv hlk
          generalize hlm : linkM id n = lm at *
          go_wp2_with fail
          refine wp_region_held_drew (S := fun W => W.cell? ⟨q, 0, none⟩ = some (.int .i64 n.1) ∧ W.cell? ⟨S.ad id, 3, none⟩ = some (.int .i64 lv) ∧ W.cell? ⟨S.ad id, 0, none⟩ = some (.string (strB lk.1)) ∧ W.cell? ⟨S.ad id, 1, none⟩ = some (.string (strB id)) ∧ W.cell? ⟨S.ad id, 2, none⟩ = some (.int .i64 lk.2.2)) (by kernel_rfl) (⟨d0, e3, e0, e1, e2⟩) (fun hHeld => ?_)
          refine takeK 0 hHeld ?_
          refine takeK 1 hHeld ?_
          refine takeK 2 hHeld ?_
          refine takeK 3 hHeld ?_
          refine takeK 4 hHeld ?_
          refine takeK 5 hHeld ?_
          refine takeK 6 hHeld ?_
          refine takeK 7 hHeld ?_
          refine takeK 8 hHeld ?_
          refine takeK 9 hHeld ?_
          refine takeK 10 hHeld ?_
          refine takeK 11 hHeld ?_
          refine takeK 12 hHeld ?_
          refine takeK 13 hHeld ?_
          refine takeK 14 hHeld ?_
          refine takeK 15 hHeld ?_
          refine takeK 16 hHeld ?_
          refine takeK 18 hHeld ?_
          refine takeK 19 hHeld ?_
          refine takeK 20 hHeld ?_
          refine takeK 21 hHeld ?_
          refine onlyH (i := 17) rfl (by kernel_rfl) rfl (fun K hK => ?_)
          go_simp
          refine hlink.mono ?_
          rintro e w2 ⟨rfl, hb2⟩
          have hb2' : Below w1.heap.size w1 w2 := (Below.refl _ _).drew.trans hb2
          have hs1 : q < w1.heap.size := by obtain ⟨_, _, hx, -⟩ := HW.out.2.2.1; exact lt_of_heap hx
          have hs2 := lt_of_heap HW.out.2.1
          have H2 := hide hb2'
          refine hK.out _ _ (⟨(hb2'.cell (p := ⟨q, 0, none⟩) hs1).trans d0, (hb2'.cell (p := ⟨S.ad id, 3, none⟩) hs2).trans e3, (hb2'.cell (p := ⟨S.ad id, 0, none⟩) hs2).trans e0, (hb2'.cell (p := ⟨S.ad id, 1, none⟩) hs2).trans e1, (hb2'.cell (p := ⟨S.ad id, 2, none⟩) hs2).trans e2⟩) (fun hHeld => ?_)
          clear hK K
          try simp only [Act.put, List.setIfInBounds_toArray, List.set_cons_zero, List.set_cons_succ]
          refine takeK 22 hHeld ?_
          refine takeK 23 hHeld ?_
          refine wpAnyH_done (by kernel_rfl) ?_ _
          clear hHeld hlink hb2 hb2' d0 e0 e1 e2 e3 hs1 hs2 hnq
          go_wp2
          go_ret
          rw [HR.out]
          exact ⟨rfl, HH.out.2.2.1.below HW.out.2.2.2.1 H2.out, fun hx => absurd hx (by simp), HW.out.2.2.2.2.trans (H2.out.mono (Nat.le_trans hB hs0))⟩
end
end Go.Proofs.Ytldfjpgcemfpjaa

/-
  A node is met. Conditions: the comparing lies there; not too many nodes.
-/
namespace Go.Proofs.Ytldfjpgcemfpjaa
open Go.RowKit

section
variable {B : Nat} {w : World} {c mb : Nat} {gv : Value} {S : Gh} {σ : Cm}
theorem CmW.mapAt (h : CmW B w c mb gv S σ) : w.cell? ⟨c, 1, none⟩ = some (.map (some mb)) := by
  obtain ⟨cs, hc, -, -, k1, -⟩ := h.blk
  exact (cell_of_row w c 1 _ _ _ hc).trans k1
theorem CmW.rowAt (h : CmW B w c mb gv S σ) {k : Nat} (hk : k < 44) : w.cell? ⟨c, 2 + k, none⟩ = some (S.rv k) ∧ w.frozen? ⟨c, 2 + k, none⟩ = false := by
  obtain ⟨cs, hc, -, -, -, k5⟩ := h.blk
  exact ⟨by rw [cell_of_row w c (2 + k) _ _ _ hc, Nat.add_comm]; exact k5 k hk, frozen0 hc⟩
set_option maxRecDepth 40000 in
set_option maxHeartbeats 3200000 in
theorem meet_known (h : CmW B w c mb gv S σ) (ho : Okm σ) {i : Nat} (hi : i < 2) (k : Link) (l : Nat) (hl : l ≤ 20) (body : Option NodeM) (bp : Value) (hn : ∀ l, l < 21 → (σ.lev i l).length ≤ 4294967296) (hid : k.2.1 ∈ σ.met) :
    Calls Try.prog 46 #[.pointer (some ⟨c, 0, none⟩), .int .i64 i, .agg #[.string (strB k.1), .string (strB k.2.1), .int .i64 k.2.2, .int .i64 l, .bool false, .bool false, bp]] w fun e w' => e = .returned (.int .i64 (meetM σ i k l body).1) ∧ ((meetM σ i k l body).1 = 0 → ∃ S', CmW B w' c mb gv S' (meetM σ i k l body).2 ∧ (∀ j, j ≠ 22 * i + l → S'.rv j = S.rv j) ∧ ∀ x ∈ σ.met, S'.ad x = S.ad x) ∧ Mv B dts none w w' := by
  have hB := h.le
  have hb0 : Below w.heap.size w (w.alloc (.cells #[.string (strB k.1), .string (strB k.2.1), .int .i64 k.2.2, .int .i64 l, .bool false, .bool false, bp] 110)) := (Below.refl _ _).alloc (Nat.le_refl _) _
  have hx0 := heap_last w (.cells #[.string (strB k.1), .string (strB k.2.1), .int .i64 k.2.2, .int .i64 l, .bool false, .bool false, bp] 110) _ rfl
  have h0 := h.below hb0
  have hM0 : Mv B dts none w (w.alloc (.cells #[.string (strB k.1), .string (strB k.2.1), .int .i64 k.2.2, .int .i64 l, .bool false, .bool false, bp] 110)) := Mv.of hb0 hB
  generalize hw0 : w.alloc (.cells #[.string (strB k.1), .string (strB k.2.1), .int .i64 k.2.2, .int .i64 l, .bool false, .bool false, bp] 110) = w0 at *
  have m1 := h0.mapAt
  have x0 := cell_of_row w0 w.heap.size 0 _ _ _ hx0
  have x1 := cell_of_row w0 w.heap.size 1 _ _ _ hx0
  have x2 := cell_of_row w0 w.heap.size 2 _ _ _ hx0
  have x3 := cell_of_row w0 w.heap.size 3 _ _ _ hx0
  simp only [List.getElem?_toArray, List.getElem?_cons_zero, List.getElem?_cons_succ] at x0 x1 x2 x3
  have hlk := met_yes (h0.map.same (w' := w0.drew) rfl) hid
  have hks : knowM σ k l body = σ := by unfold knowM; rw [if_pos hid]
  unfold meetM
  rw [hks]
  obtain ⟨b1, g1, g2, g3⟩ := h0.nodes _ hid
  obtain ⟨n, hnn⟩ : ∃ n, n = σ.nd k.2.1 := ⟨_, rfl⟩
  rw [← hnn] at g1 g2 ⊢
  have g1' := g1
  unfold ndC at g1'
  have y0 := cell_of_row w0 (S.ad k.2.1) 0 _ _ _ g1'
  have y1 := cell_of_row w0 (S.ad k.2.1) 1 _ _ _ g1'
  have y2 := cell_of_row w0 (S.ad k.2.1) 2 _ _ _ g1'
  have y3 := cell_of_row w0 (S.ad k.2.1) 3 _ _ _ g1'
  have y4 := cell_of_row w0 (S.ad k.2.1) 4 _ _ _ g1'
  have y5 := cell_of_row w0 (S.ad k.2.1) 5 _ _ _ g1'
  simp only [List.getElem?_toArray, List.getElem?_cons_zero, List.getElem?_cons_succ] at y0 y1 y2 y3 y4 y5
  have yi : w0.cell? ⟨S.ad k.2.1, 4 + i, none⟩ = some (.bool (onAt n i)) := by
    unfold onAt
    obtain rfl | rfl : i = 0 ∨ i = 1 := by omega
    · exact y4
    · exact y5
  have hnq : ∀ W, _ := fun W => neq_Link W n.link k
  have H0 := hide (And.intro h0 (And.intro hM0 (And.intro g1 (And.intro g2 (And.intro g3 (And.intro ho hnn))))))
  clear h h0 hM0 hb0 hx0 g1 g2 g1' ho y4 y5 hks hnn
  have hii : (i : Int) < 2 := by omega
  have hll : (l : Int) < 21 := by omega
  generalize hon : onAt n i = on at *
  unfold oddM
  rw [hon]
  cases on with
  | true =>
    simp only [Bool.true_or, if_true]
    go_enter Try.func46, Try.ntmps46
    go_wp2_with fail
    try rw [hw0]
    go_wp2_with fail
    refine wp_region_held_drew (S := fun W => W.cell? ⟨c, 1, none⟩ = some (.map (some mb)) ∧ W.cell? ⟨w.heap.size, 1, none⟩ = some (.string (strB k.2.1)) ∧ (Instr.lookup 53 (.map (some mb)) (.string (strB k.2.1)) true).run Try.prog W = .ok (.tuple #[.pointer (some ⟨S.ad k.2.1, 0, none⟩), .bool true]) W) (by kernel_rfl) (⟨m1, x1, hlk⟩) (fun hHeld => ?_)
    refine takeK 0 hHeld ?_
    refine takeK 1 hHeld ?_
    refine takeK 2 hHeld ?_
    refine takeK 3 hHeld ?_
    refine takeK 4 hHeld ?_
    refine takeK 5 hHeld ?_
    refine takeK 6 hHeld ?_
    refine takeK 7 hHeld ?_
    refine takeK 8 hHeld ?_
    refine takeK 9 hHeld ?_
    refine takeK 10 hHeld ?_
    refine takeK 11 hHeld ?_
    refine takeK 12 hHeld ?_
    refine wpAnyH_done (by kernel_rfl) ?_ _
    clear hHeld
    go_wp2_with fail
    refine wp_region_held_drew (S := fun W => W.cell? ⟨S.ad k.2.1, 4 + i, none⟩ = some (.bool true)) (by kernel_rfl) (yi) (fun hHeld => ?_)
    refine takeK 0 hHeld ?_
    refine takeK 1 hHeld ?_
    refine takeK 2 hHeld ?_
    refine takeK 3 hHeld ?_
    refine takeK 4 hHeld ?_
    refine takeK 5 hHeld ?_
    refine takeK 6 hHeld ?_
    refine skipK 7 hHeld ?_
    refine skipK 8 hHeld ?_
    refine skipK 9 hHeld ?_
    refine skipK 10 hHeld ?_
    refine skipK 11 hHeld ?_
    refine skipK 12 hHeld ?_
    refine skipK 13 hHeld ?_
    refine takeK 14 hHeld ?_
    refine takeK 15 hHeld ?_
    refine skipK 16 hHeld ?_
    refine skipK 17 hHeld ?_
    refine skipK 18 hHeld ?_
    refine skipK 19 hHeld ?_
    refine skipK 20 hHeld ?_
    refine skipK 21 hHeld ?_
    refine skipK 22 hHeld ?_
    refine takeK 23 hHeld ?_
    refine wpAnyH_done (by kernel_rfl) ?_ _
    clear hHeld
    go_wp2
    go_ret
    exact ⟨rfl, fun hx => absurd hx (by simp), H0.out.2.1.drew.drew⟩
  | false =>
    by_cases hk1 : n.link = k
    rotate_left
    · have hkb : (n.link != k) = true := by simpa using hk1
      rw [hkb] at hnq ⊢
      simp only [Bool.true_or, Bool.or_true, if_true]
      clear hk1
      go_enter Try.func46, Try.ntmps46
      go_wp2_with fail
      try rw [hw0]
      go_wp2_with fail
      refine wp_region_held_drew (S := fun W => W.cell? ⟨c, 1, none⟩ = some (.map (some mb)) ∧ W.cell? ⟨w.heap.size, 1, none⟩ = some (.string (strB k.2.1)) ∧ (Instr.lookup 53 (.map (some mb)) (.string (strB k.2.1)) true).run Try.prog W = .ok (.tuple #[.pointer (some ⟨S.ad k.2.1, 0, none⟩), .bool true]) W) (by kernel_rfl) (⟨m1, x1, hlk⟩) (fun hHeld => ?_)
      refine takeK 0 hHeld ?_
      refine takeK 1 hHeld ?_
      refine takeK 2 hHeld ?_
      refine takeK 3 hHeld ?_
      refine takeK 4 hHeld ?_
      refine takeK 5 hHeld ?_
      refine takeK 6 hHeld ?_
      refine takeK 7 hHeld ?_
      refine takeK 8 hHeld ?_
      refine takeK 9 hHeld ?_
      refine takeK 10 hHeld ?_
      refine takeK 11 hHeld ?_
      refine takeK 12 hHeld ?_
      refine wpAnyH_done (by kernel_rfl) ?_ _
      clear hHeld
      go_wp2_with fail
      refine wp_region_held_drew (S := fun W => W.cell? ⟨S.ad k.2.1, 4 + i, none⟩ = some (.bool false) ∧ W.cell? ⟨S.ad k.2.1, 0, none⟩ = some (.string (strB n.link.1)) ∧ W.cell? ⟨S.ad k.2.1, 1, none⟩ = some (.string (strB n.link.2.1)) ∧ W.cell? ⟨S.ad k.2.1, 2, none⟩ = some (.int .i64 n.link.2.2) ∧ W.cell? ⟨w.heap.size, 0, none⟩ = some (.string (strB k.1)) ∧ W.cell? ⟨w.heap.size, 1, none⟩ = some (.string (strB k.2.1)) ∧ W.cell? ⟨w.heap.size, 2, none⟩ = some (.int .i64 k.2.2) ∧ W.cell? ⟨S.ad k.2.1, 3, none⟩ = some (.int .i64 n.level) ∧ W.cell? ⟨w.heap.size, 3, none⟩ = some (.int .i64 l)) (by kernel_rfl) (⟨yi, y0, y1, y2, x0, x1, x2, y3, x3⟩) (fun hHeld => ?_)
      refine takeK 0 hHeld ?_
      refine takeK 1 hHeld ?_
      refine takeK 2 hHeld ?_
      refine takeK 3 hHeld ?_
      refine takeK 4 hHeld ?_
      refine takeK 5 hHeld ?_
      refine takeK 6 hHeld ?_
      refine takeK 7 hHeld ?_
      refine takeK 8 hHeld ?_
      refine takeK 9 hHeld ?_
      refine takeK 10 hHeld ?_
      refine takeK 11 hHeld ?_
      refine takeK 12 hHeld ?_
      refine takeK 13 hHeld ?_
      refine takeK 14 hHeld ?_
      refine takeK 15 hHeld ?_
      refine skipK 16 hHeld ?_
      refine skipK 17 hHeld ?_
      refine skipK 18 hHeld ?_
      refine skipK 19 hHeld ?_
      refine skipK 20 hHeld ?_
      refine skipK 21 hHeld ?_
      refine skipK 22 hHeld ?_
      refine takeK 23 hHeld ?_
      refine wpAnyH_done (by kernel_rfl) ?_ _
      clear hHeld
      go_wp2
      go_ret
      exact ⟨rfl, fun hx => absurd hx (by simp), H0.out.2.1.drew.drew⟩
    · have hkb : (n.link != k) = false := by simpa using hk1
      rw [hkb] at hnq ⊢
      by_cases hk2 : n.level = l
      rotate_left
      · have hlb : (n.level != (l : Int)) = true := by simpa using hk2
        rw [hlb]
        simp only [Bool.or_true, if_true]
        clear hk1 hk2
        go_enter Try.func46, Try.ntmps46
        go_wp2_with fail
        try rw [hw0]
        go_wp2_with fail
        refine wp_region_held_drew (S := fun W => W.cell? ⟨c, 1, none⟩ = some (.map (some mb)) ∧ W.cell? ⟨w.heap.size, 1, none⟩ = some (.string (strB k.2.1)) ∧ (Instr.lookup 53 (.map (some mb)) (.string (strB k.2.1)) true).run Try.prog W = .ok (.tuple #[.pointer (some ⟨S.ad k.2.1, 0, none⟩), .bool true]) W) (by kernel_rfl) (⟨m1, x1, hlk⟩) (fun hHeld => ?_)
        refine takeK 0 hHeld ?_
        refine takeK 1 hHeld ?_
        refine takeK 2 hHeld ?_
        refine takeK 3 hHeld ?_
        refine takeK 4 hHeld ?_
        refine takeK 5 hHeld ?_
        refine takeK 6 hHeld ?_
        refine takeK 7 hHeld ?_
        refine takeK 8 hHeld ?_
        refine takeK 9 hHeld ?_
        refine takeK 10 hHeld ?_
        refine takeK 11 hHeld ?_
        refine takeK 12 hHeld ?_
        refine wpAnyH_done (by kernel_rfl) ?_ _
        clear hHeld
        go_wp2_with fail
        refine wp_region_held_drew (S := fun W => W.cell? ⟨S.ad k.2.1, 4 + i, none⟩ = some (.bool false) ∧ W.cell? ⟨S.ad k.2.1, 0, none⟩ = some (.string (strB n.link.1)) ∧ W.cell? ⟨S.ad k.2.1, 1, none⟩ = some (.string (strB n.link.2.1)) ∧ W.cell? ⟨S.ad k.2.1, 2, none⟩ = some (.int .i64 n.link.2.2) ∧ W.cell? ⟨w.heap.size, 0, none⟩ = some (.string (strB k.1)) ∧ W.cell? ⟨w.heap.size, 1, none⟩ = some (.string (strB k.2.1)) ∧ W.cell? ⟨w.heap.size, 2, none⟩ = some (.int .i64 k.2.2) ∧ W.cell? ⟨S.ad k.2.1, 3, none⟩ = some (.int .i64 n.level) ∧ W.cell? ⟨w.heap.size, 3, none⟩ = some (.int .i64 l)) (by kernel_rfl) (⟨yi, y0, y1, y2, x0, x1, x2, y3, x3⟩) (fun hHeld => ?_)
        refine takeK 0 hHeld ?_
        refine takeK 1 hHeld ?_
        refine takeK 2 hHeld ?_
        refine takeK 3 hHeld ?_
        refine takeK 4 hHeld ?_
        refine takeK 5 hHeld ?_
        refine takeK 6 hHeld ?_
        refine takeK 7 hHeld ?_
        refine takeK 8 hHeld ?_
        refine takeK 9 hHeld ?_
        refine takeK 10 hHeld ?_
        refine takeK 11 hHeld ?_
        refine takeK 12 hHeld ?_
        refine takeK 13 hHeld ?_
        refine takeK 14 hHeld ?_
        refine takeK 15 hHeld ?_
        refine takeK 16 hHeld ?_
        refine takeK 17 hHeld ?_
        refine takeK 18 hHeld ?_
        refine takeK 19 hHeld ?_
        refine takeK 20 hHeld ?_
        refine takeK 21 hHeld ?_
        refine takeK 22 hHeld ?_
        refine takeK 23 hHeld ?_
        refine wpAnyH_done (by kernel_rfl) ?_ _
        clear hHeld
        go_wp2
        go_ret
        exact ⟨rfl, fun hx => absurd hx (by simp), H0.out.2.1.drew.drew⟩
      · have hlb : (n.level != (l : Int)) = false := by simpa using hk2
        rw [hlb]
        simp only [Bool.or_false, Bool.false_eq_true, if_false]
        have HK := hide (And.intro hk1 hk2)
        clear hk1 hk2
        go_enter Try.func46, Try.ntmps46
        go_wp2_with fail
        try rw [hw0]
        go_wp2_with fail
        refine wp_region_held_drew (S := fun W => W.cell? ⟨c, 1, none⟩ = some (.map (some mb)) ∧ W.cell? ⟨w.heap.size, 1, none⟩ = some (.string (strB k.2.1)) ∧ (Instr.lookup 53 (.map (some mb)) (.string (strB k.2.1)) true).run Try.prog W = .ok (.tuple #[.pointer (some ⟨S.ad k.2.1, 0, none⟩), .bool true]) W) (by kernel_rfl) (⟨m1, x1, hlk⟩) (fun hHeld => ?_)
        refine takeK 0 hHeld ?_
        refine takeK 1 hHeld ?_
        refine takeK 2 hHeld ?_
        refine takeK 3 hHeld ?_
        refine takeK 4 hHeld ?_
        refine takeK 5 hHeld ?_
        refine takeK 6 hHeld ?_
        refine takeK 7 hHeld ?_
        refine takeK 8 hHeld ?_
        refine takeK 9 hHeld ?_
        refine takeK 10 hHeld ?_
        refine takeK 11 hHeld ?_
        refine takeK 12 hHeld ?_
        refine wpAnyH_done (by kernel_rfl) ?_ _
        clear hHeld
        go_wp2_with fail
        refine wp_region_held_drew (S := fun W => W.cell? ⟨S.ad k.2.1, 4 + i, none⟩ = some (.bool false) ∧ W.cell? ⟨S.ad k.2.1, 0, none⟩ = some (.string (strB n.link.1)) ∧ W.cell? ⟨S.ad k.2.1, 1, none⟩ = some (.string (strB n.link.2.1)) ∧ W.cell? ⟨S.ad k.2.1, 2, none⟩ = some (.int .i64 n.link.2.2) ∧ W.cell? ⟨w.heap.size, 0, none⟩ = some (.string (strB k.1)) ∧ W.cell? ⟨w.heap.size, 1, none⟩ = some (.string (strB k.2.1)) ∧ W.cell? ⟨w.heap.size, 2, none⟩ = some (.int .i64 k.2.2) ∧ W.cell? ⟨S.ad k.2.1, 3, none⟩ = some (.int .i64 n.level) ∧ W.cell? ⟨w.heap.size, 3, none⟩ = some (.int .i64 l)) (by kernel_rfl) (⟨yi, y0, y1, y2, x0, x1, x2, y3, x3⟩) (fun hHeld => ?_)
        refine takeK 0 hHeld ?_
        refine takeK 1 hHeld ?_
        refine takeK 2 hHeld ?_
        refine takeK 3 hHeld ?_
        refine takeK 4 hHeld ?_
        refine takeK 5 hHeld ?_
        refine takeK 6 hHeld ?_
        refine takeK 7 hHeld ?_
        refine takeK 8 hHeld ?_
        refine takeK 9 hHeld ?_
        refine takeK 10 hHeld ?_
        refine takeK 11 hHeld ?_
        refine takeK 12 hHeld ?_
        refine takeK 13 hHeld ?_
        refine takeK 14 hHeld ?_
        refine takeK 15 hHeld ?_
        refine takeK 16 hHeld ?_
        refine takeK 17 hHeld ?_
        refine takeK 18 hHeld ?_
        refine takeK 19 hHeld ?_
        refine takeK 20 hHeld ?_
        refine takeK 21 hHeld ?_
        refine takeK 22 hHeld ?_
        refine takeK 23 hHeld ?_
        refine wpAnyH_done (by kernel_rfl) ?_ _
        clear hHeld hnq hlk
        have z4 : w0.frozen? ⟨S.ad k.2.1, 4 + i, none⟩ = false := frozen0 H0.out.2.2.1
        have hlv := HK.out.2
        have hCS := H0.out.1.noded H0.out.2.2.2.2.2.1 hid (j := 4 + i) (u := .bool true) (n := setOn n i) (bp := b1) (bp' := b1) (by rw [← H0.out.2.2.2.2.2.2]; exact H0.out.2.2.1) (by
          rw [← H0.out.2.2.2.2.2.2]
          unfold setOn
          obtain rfl | rfl : i = 0 ∨ i = 1 := by omega
          · rfl
          · rfl) H0.out.2.2.2.1
        have hMS : Mv B dts none w (w0.setCell ⟨S.ad k.2.1, 4 + i, none⟩ (.bool true)) := H0.out.2.1.set H0.out.2.2.1 (by decide) g3 _
        have hgS : (w0.setCell ⟨S.ad k.2.1, 4 + i, none⟩ (.bool true)).heap[S.ad k.2.1]? = _ := Mp.heap_set H0.out.2.2.1 (4 + i) (.bool true)
        have y3S : (w0.setCell ⟨S.ad k.2.1, 4 + i, none⟩ (.bool true)).cell? ⟨S.ad k.2.1, 3, none⟩ = some (.int .i64 l) := by
          rw [← hlv, ← y3]
          exact World.cell?_setCell_other _ _ _ _ (by intro e; injection e with _ e; omega)
        go_wp2_with fail
        have hCD := hCS.below ((Below.refl _ _).drew.drew)
        have hMD := hMS.drew.drew
        have hgD : (w0.setCell ⟨S.ad k.2.1, 4 + i, none⟩ (.bool true)).drew.drew.heap[S.ad k.2.1]? = _ := hgS
        have y3D : (w0.setCell ⟨S.ad k.2.1, 4 + i, none⟩ (.bool true)).drew.drew.cell? ⟨S.ad k.2.1, 3, none⟩ = some (.int .i64 l) := y3S
        generalize (w0.setCell ⟨S.ad k.2.1, 4 + i, none⟩ (.bool true)).drew.drew = wD at *
        have hBD := hCD.le
        have hK44 : 22 * i + l < 44 := by omega
        obtain ⟨v', w3, hrun, hrow, hgr, hvo⟩ := app_ptr wD.drew B (S.rv (22 * i + l)) ((σ.lev i l).map S.ad) (S.ad k.2.1) (hCD.levs i hi l (by omega)) hBD (by rw [List.length_map]; exact hn l (by omega))
        rw [drew_alloc] at hrun hgr
        rw [show wD.drew.heap.size = wD.heap.size from rfl] at hrun hvo
        have hbE : Below wD.heap.size wD (wD.alloc (.cells #[.pointer (some ⟨S.ad k.2.1, 0, none⟩)] 111)).drew := ((Below.refl _ _).alloc (Nat.le_refl _) _).drew
        have hCE := hCD.below hbE
        have hME := hMD.more hbE hBD
        have hgE := (hbE.block _ (lt_of_heap hgD)).trans hgD
        have y3E := (hbE.cell (p := ⟨S.ad k.2.1, 3, none⟩) (lt_of_heap hgD)).trans y3D
        have hsE : (wD.alloc (.cells #[.pointer (some ⟨S.ad k.2.1, 0, none⟩)] 111)).drew.heap.size = wD.heap.size + 1 := by simp
        have rD := (hCD.rowAt hK44).1
        have rE := (hCE.rowAt hK44).1
        rw [show 2 + (22 * i + l) = 2 + i * 22 + l by omega] at rD rE
        have hg3 := grow_keep (hCE.levs i hi l (by omega)) hgr hgE (by decide)
        have y3W : w3.cell? ⟨S.ad k.2.1, 3, none⟩ = some (.int .i64 l) := by
          have := cell_of_row w3 (S.ad k.2.1) 3 _ _ _ hg3
          rw [this, ← cell_of_row _ (S.ad k.2.1) 3 _ _ _ hgE]
          exact y3E
        obtain ⟨cs3, hc3, -⟩ := hCE.blk
        have hc3' := grow_keep (hCE.levs i hi l (by omega)) hgr hc3 (by decide)
        have fz : w3.frozen? ⟨c, 2 + i * 22 + l, none⟩ = false := frozen0 hc3'
        have kc : ∃ u, w3.cell? ⟨c, 2 + i * 22 + l, none⟩ = some u := by
          rw [cell_of_row w3 c _ _ _ _ hc3', ← cell_of_row _ c _ _ _ _ hc3, rE]
          exact ⟨_, rfl⟩
        obtain ⟨u3, ku⟩ := kc
        have hCF := hCE.grown hK44 (v' := v') (w1 := w3) (lev' := updL σ.lev i l (σ.lev i l ++ [k.2.1])) (prs' := σ.prs) (hCE.levs i hi l (by omega)) hgr (by
          rcases hvo with hvo | hvo
          · exact .inl hvo
          · exact .inr ⟨_, hvo, by rw [hsE]; exact Nat.le_refl _⟩) (.inl rfl)
          (fun i' l' hi' hl' he => by
            obtain ⟨rfl, rfl⟩ : i' = i ∧ l' = l := by omega
            unfold updL
            rw [if_pos ⟨rfl, rfl⟩, List.map_append]
            exact hrow)
          (fun i' hi' he => by omega) (fun i' l' hi' hl' he => if_neg (by rintro ⟨rfl, rfl⟩; exact he rfl)) (fun _ _ _ => rfl)
        have hMF : Mv B dts none w (w3.setCell ⟨c, 2 + (22 * i + l), none⟩ v') := (hME.grown (hCE.levs i hi l (by omega)) hgr (by decide) hCE.le).set hc3' (by decide) hCE.base _
        have y3F : (w3.setCell ⟨c, 2 + i * 22 + l, none⟩ v').cell? ⟨S.ad k.2.1, 3, none⟩ = some (.int .i64 l) := (World.cell?_setCell_other _ _ _ _ (by intro e; injection e with e; exact ne_type hg3 hc3' (by decide) e.symm)).trans y3W
        have FIN : Hid (CmW B (w3.setCell ⟨c, 2 + i * 22 + l, none⟩ v') c mb gv ⟨S.ad, fun q => if v'.ownBlock = some q then 10 + (22 * i + l) else S.tg q, fun j => if j = 22 * i + l then v' else S.rv j⟩ (hangM σ i k.2.1) ∧ Mv B dts none w (w3.setCell ⟨c, 2 + i * 22 + l, none⟩ v')) := by
          rw [show 2 + i * 22 + l = 2 + (22 * i + l) by omega]
          unfold hangM
          rw [← H0.out.2.2.2.2.2.2, hlv]
          exact ⟨hCF, hMF⟩
        have T1 := hide y3D
        have T2 := hide y3E
        have T3 := hide y3W
        have T4 := hide y3F
        have HRUN := hide hrun
        obtain ⟨vA, vm, vc, rfl⟩ := row_form hrow
        clear y3S hCS hMS hgS hCD hMD hgD hrow hgr hvo hbE hCE hME hgE hg3 cs3 hc3 hc3' hCF hMF y3F y3W y3E hrun
        refine wp_region_held_drew (S := fun W => W.cell? ⟨S.ad k.2.1, 3, none⟩ = some (.int .i64 l)) (by kernel_rfl) (y3D) (fun hHeld => ?_)
        refine takeK 0 hHeld ?_
        refine takeK 1 hHeld ?_
        refine takeK 2 hHeld ?_
        refine takeK 3 hHeld ?_
        refine takeK 4 hHeld ?_
        refine takeK 5 hHeld ?_
        refine takeK 6 hHeld ?_
        refine takeK 7 hHeld ?_
        refine takeK 8 hHeld ?_
        refine takeK 9 hHeld ?_
        refine takeK 10 hHeld ?_
        refine takeK 11 hHeld ?_
        refine takeK 12 hHeld ?_
        refine takeK 14 hHeld ?_
        refine takeK 17 hHeld ?_
        refine takeK 18 hHeld ?_
        refine twoH (i := 13) (j := 15) rfl rfl (by kernel_rfl) rfl rfl (fun K hK => ?_) (fun K hK => ?_)
        · go_simp
          refine hK.out _ _ (T1.out) (fun hHeld => ?_)
          clear hK K
          try simp only [Act.put, List.setIfInBounds_toArray, List.set_cons_zero, List.set_cons_succ]
          refine onlyH (i := 15) rfl (by kernel_rfl) rfl (fun K hK => ?_)
          go_simp
          refine hK.out _ _ (T2.out) (fun hHeld => ?_)
          clear hK K
          try simp only [Act.put, List.setIfInBounds_toArray, List.set_cons_zero, List.set_cons_succ]
          refine onlyH (i := 16) rfl (by kernel_rfl) rfl (fun K hK => ?_)
          refine wp_append_run (.tmp 78) (.tmp 80) 54 rfl rfl rfl HRUN.out ?_
          refine hK.out _ _ (T3.out) (fun hHeld => ?_)
          clear hK K
          try simp only [Act.put, List.setIfInBounds_toArray, List.set_cons_zero, List.set_cons_succ]
          refine takeK 19 hHeld ?_
          refine onlyH (i := 20) rfl (by kernel_rfl) rfl (fun K hK => ?_)
          go_simp
          refine hK.out _ _ (T4.out) (fun hHeld => ?_)
          clear hK K
          try simp only [Act.put, List.setIfInBounds_toArray, List.set_cons_zero, List.set_cons_succ]
          refine wpAnyH_done (by kernel_rfl) ?_ _
          clear hHeld
          go_wp2
          go_ret
          refine ⟨rfl, fun _ => ⟨_, FIN.out.1, fun j hj => if_neg hj, fun x _ => rfl⟩, FIN.out.2⟩
        · go_simp
          refine hK.out _ _ (T2.out) (fun hHeld => ?_)
          clear hK K
          try simp only [Act.put, List.setIfInBounds_toArray, List.set_cons_zero, List.set_cons_succ]
          refine onlyH (i := 13) rfl (by kernel_rfl) rfl (fun K hK => ?_)
          go_simp
          refine hK.out _ _ (T2.out) (fun hHeld => ?_)
          clear hK K
          try simp only [Act.put, List.setIfInBounds_toArray, List.set_cons_zero, List.set_cons_succ]
          refine onlyH (i := 16) rfl (by kernel_rfl) rfl (fun K hK => ?_)
          refine wp_append_run (.tmp 78) (.tmp 80) 54 rfl rfl rfl HRUN.out ?_
          refine hK.out _ _ (T3.out) (fun hHeld => ?_)
          clear hK K
          try simp only [Act.put, List.setIfInBounds_toArray, List.set_cons_zero, List.set_cons_succ]
          refine takeK 19 hHeld ?_
          refine onlyH (i := 20) rfl (by kernel_rfl) rfl (fun K hK => ?_)
          go_simp
          refine hK.out _ _ (T4.out) (fun hHeld => ?_)
          clear hK K
          try simp only [Act.put, List.setIfInBounds_toArray, List.set_cons_zero, List.set_cons_succ]
          refine wpAnyH_done (by kernel_rfl) ?_ _
          clear hHeld
          go_wp2
          go_ret
          refine ⟨rfl, fun _ => ⟨_, FIN.out.1, fun j hj => if_neg hj, fun x _ => rfl⟩, FIN.out.2⟩
end
end Go.Proofs.Ytldfjpgcemfpjaa

/-
  A node is met for the first time. Conditions: the comparing lies there; not too many nodes.
-/
namespace Go.Proofs.Ytldfjpgcemfpjaa
open Go.RowKit

section
variable {B : Nat} {w : World} {c mb : Nat} {gv : Value} {S : Gh} {σ : Cm}
theorem Mv.mapped {ts : List TypeId} {r : Option Nat} {w w1 w2 : World} {mb : Nat} {es : Array MapEntry} {ck : Nat} (h : Mv B ts r w w1) (hc : Mp.Chg (· = mb) w1 w2) (hmb : B ≤ mb) (hm : w1.heap[mb]? = some (.map es ck)) : Mv B ts r w w2 := by
  refine ⟨h.b.trans ⟨hc.os, hc.tape, hc.output, hc.size, fun k hk => ?_⟩, fun k cs t fr hk ht hr => ?_⟩
  · by_cases hs : k < w1.heap.size
    · exact hc.block k hs (by omega)
    · have := lt_of_heap hm
      omega
  · have := h.k k cs t fr hk ht hr
    exact (hc.block k (lt_of_heap this) (by rintro rfl; rw [hm] at this; cases this)).trans this
set_option maxRecDepth 40000 in
set_option maxHeartbeats 3200000 in
theorem meet_new (h : CmW B w c mb gv S σ) (ho : Okm σ) {i : Nat} (hi : i < 2) (k : Link) (l : Nat) (hl : l ≤ 20) (body : Option NodeM) (bp : Value) (hbp : BpW B w S.tg bp body) (hbo : ∀ n, body = some n → RightM n ∧ n.1 = l ∧ linkM k.2.1 n = k) (hn : ∀ l, l < 21 → (σ.lev i l).length ≤ 4294967296) (hid : k.2.1 ∉ σ.met) :
    Calls Try.prog 46 #[.pointer (some ⟨c, 0, none⟩), .int .i64 i, .agg #[.string (strB k.1), .string (strB k.2.1), .int .i64 k.2.2, .int .i64 l, .bool false, .bool false, bp]] w fun e w' => e = .returned (.int .i64 (meetM σ i k l body).1) ∧ ((meetM σ i k l body).1 = 0 → ∃ S', CmW B w' c mb gv S' (meetM σ i k l body).2 ∧ (∀ j, j ≠ 22 * i + l → S'.rv j = S.rv j) ∧ ∀ x ∈ σ.met, S'.ad x = S.ad x) ∧ Mv B dts none w w' := by
  have hB := h.le
  have hb0 : Below w.heap.size w (w.alloc (.cells #[.string (strB k.1), .string (strB k.2.1), .int .i64 k.2.2, .int .i64 l, .bool false, .bool false, bp] 110)) := (Below.refl _ _).alloc (Nat.le_refl _) _
  have hx0 := heap_last w (.cells #[.string (strB k.1), .string (strB k.2.1), .int .i64 k.2.2, .int .i64 l, .bool false, .bool false, bp] 110) _ rfl
  have h0 := h.below hb0
  have hbp0 : BpW B (w.alloc (.cells #[.string (strB k.1), .string (strB k.2.1), .int .i64 k.2.2, .int .i64 l, .bool false, .bool false, bp] 110)) S.tg bp body := hbp.keep (fun g n hb => hb.kp (Kp.of hb0))
  have hM0 : Mv B dts none w (w.alloc (.cells #[.string (strB k.1), .string (strB k.2.1), .int .i64 k.2.2, .int .i64 l, .bool false, .bool false, bp] 110)) := Mv.of hb0 hB
  generalize hw0 : w.alloc (.cells #[.string (strB k.1), .string (strB k.2.1), .int .i64 k.2.2, .int .i64 l, .bool false, .bool false, bp] 110) = w0 at *
  have m1 := h0.mapAt
  have x1 := cell_of_row w0 w.heap.size 1 _ _ _ hx0
  simp only [List.getElem?_toArray, List.getElem?_cons_zero, List.getElem?_cons_succ] at x1
  have hlk := met_no (h0.map.same (w' := w0.drew) rfl) hid
  obtain ⟨w1, hput, hm1, hc1, hz1⟩ := met_put (w := w0.drew.drew) (h0.map.same rfl) hid w.heap.size
  have h0d := h0.below (Below.refl w0.heap.size w0).drew.drew
  obtain ⟨es, ck, hmb, -⟩ := h0.map
  have hbpd : BpW B w0.drew.drew S.tg bp body := hbp0.keep (fun g n hb => hb.kp (Kp.of (Below.refl w0.heap.size w0).drew.drew))
  have hC1 := h0d.known ho (a := w.heap.size) hid (by exact hx0) hbpd hB hm1 hc1
  have ho1 := ho.known (k := k) (level := l) (body := body) (by omega) (by omega) hbo
  have hkn : knowM σ k l body = ⟨σ.met ++ [k.2.1], updN σ.nd k.2.1 ⟨k, l, (false, false), body⟩, σ.lev, σ.prs, σ.asked⟩ := by unfold knowM; rw [if_neg hid]
  have hnd1 : (knowM σ k l body).nd k.2.1 = ⟨k, l, (false, false), body⟩ := by rw [hkn]; exact if_pos rfl
  have hlev1 : (knowM σ k l body).lev = σ.lev := by rw [hkn]
  have hid1 : k.2.1 ∈ (knowM σ k l body).met := by rw [hkn]; simp
  have cells : ∀ {g : Nat} {cs : Array Value} {t : TypeId} {fr : Nat × Nat}, w0.heap[g]? = some (.cells cs t fr) → w1.heap[g]? = some (.cells cs t fr) := fun {g cs t fr} hg => hc1.keep (show w0.drew.drew.heap[g]? = _ from hg) (by rintro rfl; rw [hmb] at hg; cases hg)
  have hg1 := cells hx0
  have hM1 : Mv B dts none w w1 := hM0.drew.drew.mapped hc1 h.mbB hmb
  obtain ⟨b1, q1, q2, q3⟩ := hC1.nodes _ hid1
  have hbp1 : BpW B w1 S.tg bp body := hbpd.keep (fun g n hb => hb.keep (fun cs hc' => cells hc') (fun v xs hr => hc1.own hmb hr) (fun v xs hr hq => ⟨hc1.own hmb hr, hq⟩))
  obtain ⟨S1, hS1⟩ : ∃ S1 : Gh, S1 = ⟨fun y => if y = k.2.1 then w.heap.size else S.ad y, S.tg, S.rv⟩ := ⟨_, rfl⟩
  rw [← hS1] at hC1
  have had : S1.ad k.2.1 = w.heap.size := by rw [hS1]; exact if_pos rfl
  have hrv1 : S1.rv = S.rv := by rw [hS1]
  have htg1 : S1.tg = S.tg := by rw [hS1]
  have hadx : ∀ x ∈ σ.met, S1.ad x = S.ad x := fun x hx => by rw [hS1]; exact if_neg (by rintro rfl; exact hid hx)
  rw [← htg1] at hbp1
  unfold meetM
  rw [hnd1]
  generalize knowM σ k l body = σ1 at *
  have hod : oddM ⟨k, l, (false, false), body⟩ i k l = false := by
    unfold oddM onAt
    obtain rfl | rfl : i = 0 ∨ i = 1 := by omega
    · simp
    · simp
  rw [hod]
  simp only [Bool.false_eq_true, if_false]
  have y0 := cell_of_row w1 w.heap.size 0 _ _ _ hg1
  have y1 := cell_of_row w1 w.heap.size 1 _ _ _ hg1
  have y2 := cell_of_row w1 w.heap.size 2 _ _ _ hg1
  have y3 := cell_of_row w1 w.heap.size 3 _ _ _ hg1
  have y4 := cell_of_row w1 w.heap.size 4 _ _ _ hg1
  have y5 := cell_of_row w1 w.heap.size 5 _ _ _ hg1
  simp only [List.getElem?_toArray, List.getElem?_cons_zero, List.getElem?_cons_succ] at y0 y1 y2 y3 y4 y5
  have yi : w1.cell? ⟨w.heap.size, 4 + i, none⟩ = some (.bool false) := by
    obtain rfl | rfl : i = 0 ∨ i = 1 := by omega
    · exact y4
    · exact y5
  have m1' := hC1.mapAt
  have hnq : ∀ W, _ := fun W => neq_Link W k k
  rw [show (k != k) = false by simp] at hnq
  have hlb : ((l : Int) != (l : Int)) = false := by simp
  have hii : (i : Int) < 2 := by omega
  have hll : (l : Int) < 21 := by omega
  have HC := hide (And.intro hC1 (And.intro ho1 (And.intro hM1 (And.intro hg1 (And.intro hbp1 (And.intro hnd1 (And.intro hlev1 (And.intro hid1 (And.intro had (And.intro hrv1 hadx))))))))))
  clear h h0 hM0 hb0 hx0 h0d hm1 hc1 hbp hbp0 hbpd hC1 ho1 hM1 hg1 hbp1 hnd1 hlev1 hid1 had hrv1 hadx y4 y5 hkn hS1 htg1 hod q1 q2 q3 cells hmb ho hbo hid hz1
  go_enter Try.func46, Try.ntmps46
  go_wp2_with fail
  try rw [hw0]
  go_wp2_with fail
  refine wp_region_held_drew (S := fun W => W.cell? ⟨c, 1, none⟩ = some (.map (some mb)) ∧ W.cell? ⟨w.heap.size, 1, none⟩ = some (.string (strB k.2.1)) ∧ (Instr.lookup 53 (.map (some mb)) (.string (strB k.2.1)) true).run Try.prog W = .ok (.tuple #[.pointer none, .bool false]) W) (by kernel_rfl) (⟨m1, x1, hlk⟩) (fun hHeld => ?_)
  refine takeK 0 hHeld ?_
  refine takeK 1 hHeld ?_
  refine takeK 2 hHeld ?_
  refine takeK 3 hHeld ?_
  refine takeK 4 hHeld ?_
  refine takeK 5 hHeld ?_
  refine takeK 6 hHeld ?_
  refine takeK 7 hHeld ?_
  refine takeK 8 hHeld ?_
  refine takeK 9 hHeld ?_
  refine takeK 10 hHeld ?_
  refine takeK 11 hHeld ?_
  refine takeK 12 hHeld ?_
  refine wpAnyH_done (by kernel_rfl) ?_ _
  clear hHeld hlk
  go_wp2_with fail
  refine wp_region_held_drew (S := fun W => W.cell? ⟨c, 1, none⟩ = some (.map (some mb)) ∧ W.cell? ⟨w.heap.size, 1, none⟩ = some (.string (strB k.2.1))) (by kernel_rfl) (⟨m1, x1⟩) (fun hHeld => ?_)
  refine takeK 0 hHeld ?_
  refine takeK 1 hHeld ?_
  refine takeK 2 hHeld ?_
  refine takeK 3 hHeld ?_
  refine takeK 4 hHeld ?_
  refine takeK 5 hHeld ?_
  refine takeK 6 hHeld ?_
  refine takeK 7 hHeld ?_
  refine onlyH (i := 8) rfl (by kernel_rfl) rfl (fun K hK => ?_)
  go_simp
  refine hK.out _ _ (⟨m1', y1⟩) (fun hHeld => ?_)
  clear hK K
  try simp only [Act.put, List.setIfInBounds_toArray, List.set_cons_zero, List.set_cons_succ]
  refine wpAnyH_done (by kernel_rfl) ?_ _
  clear hHeld hput m1 m1'
  go_wp2_with fail
  refine wp_region_held_drew (S := fun W => W.cell? ⟨w.heap.size, 4 + i, none⟩ = some (.bool false) ∧ W.cell? ⟨w.heap.size, 0, none⟩ = some (.string (strB k.1)) ∧ W.cell? ⟨w.heap.size, 1, none⟩ = some (.string (strB k.2.1)) ∧ W.cell? ⟨w.heap.size, 2, none⟩ = some (.int .i64 k.2.2) ∧ W.cell? ⟨w.heap.size, 3, none⟩ = some (.int .i64 l)) (by kernel_rfl) (⟨yi, y0, y1, y2, y3⟩) (fun hHeld => ?_)
  refine takeK 0 hHeld ?_
  refine takeK 1 hHeld ?_
  refine takeK 2 hHeld ?_
  refine takeK 3 hHeld ?_
  refine takeK 4 hHeld ?_
  refine takeK 5 hHeld ?_
  refine takeK 6 hHeld ?_
  refine takeK 7 hHeld ?_
  refine takeK 8 hHeld ?_
  refine takeK 9 hHeld ?_
  refine takeK 10 hHeld ?_
  refine takeK 11 hHeld ?_
  refine takeK 12 hHeld ?_
  refine takeK 13 hHeld ?_
  refine takeK 14 hHeld ?_
  refine takeK 15 hHeld ?_
  refine takeK 16 hHeld ?_
  refine takeK 17 hHeld ?_
  refine takeK 18 hHeld ?_
  refine takeK 19 hHeld ?_
  refine takeK 20 hHeld ?_
  refine takeK 21 hHeld ?_
  refine takeK 22 hHeld ?_
  refine takeK 23 hHeld ?_
  refine wpAnyH_done (by kernel_rfl) ?_ _
  clear hHeld hnq
  obtain ⟨hC1, ho1, hM1, hg1, hbp1, hnd1, hlev1, hid1, had, hrv1, hadx⟩ := HC.out
  clear HC
  have z4 : w1.frozen? ⟨w.heap.size, 4 + i, none⟩ = false := frozen0 hg1
  have HV := hide (And.intro hrv1 (And.intro had (And.intro hnd1 (And.intro hlev1 hadx))))
  have hCS := hC1.noded ho1 hid1 (j := 4 + i) (u := .bool true) (n := setOn ⟨k, l, (false, false), body⟩ i) (bp := bp) (bp' := bp) (by rw [had, hnd1]; exact hg1) (by
    rw [hnd1]
    unfold setOn
    obtain rfl | rfl : i = 0 ∨ i = 1 := by omega
    · rfl
    · rfl) hbp1
  rw [had] at hCS
  have hMS : Mv B dts none w (w1.setCell ⟨w.heap.size, 4 + i, none⟩ (.bool true)) := hM1.set hg1 (by decide) hB _
  have hgS : (w1.setCell ⟨w.heap.size, 4 + i, none⟩ (.bool true)).heap[w.heap.size]? = _ := Mp.heap_set hg1 (4 + i) (.bool true)
  have y3S : (w1.setCell ⟨w.heap.size, 4 + i, none⟩ (.bool true)).cell? ⟨w.heap.size, 3, none⟩ = some (.int .i64 l) := by
    rw [← y3]
    exact World.cell?_setCell_other _ _ _ _ (by intro e; injection e with _ e; omega)
  clear hrv1 had hnd1 hlev1 hadx hC1 ho1 hid1 hbp1
  go_wp2_with fail
  obtain ⟨hrv1, had, hnd1, hlev1, hadx⟩ := HV.out
  have hCD := hCS.below ((Below.refl _ _).drew)
  have hMD := hMS.drew
  have hgD : (w1.setCell ⟨w.heap.size, 4 + i, none⟩ (.bool true)).drew.heap[w.heap.size]? = _ := hgS
  have y3D : (w1.setCell ⟨w.heap.size, 4 + i, none⟩ (.bool true)).drew.cell? ⟨w.heap.size, 3, none⟩ = some (.int .i64 l) := y3S
  generalize (w1.setCell ⟨w.heap.size, 4 + i, none⟩ (.bool true)).drew = wD at *
  have hBD := hCD.le
  have hK44 : 22 * i + l < 44 := by omega
  obtain ⟨v', w3, hrun, hrow, hgr, hvo⟩ := app_ptr wD.drew B (S1.rv (22 * i + l)) ((σ1.lev i l).map S1.ad) (w.heap.size) (hCD.levs i hi l (by omega)) hBD (by rw [List.length_map]; rw [hlev1]; exact hn l (by omega))
  rw [drew_alloc] at hrun hgr
  rw [show wD.drew.heap.size = wD.heap.size from rfl] at hrun hvo
  have hbE : Below wD.heap.size wD (wD.alloc (.cells #[.pointer (some ⟨w.heap.size, 0, none⟩)] 111)).drew := ((Below.refl _ _).alloc (Nat.le_refl _) _).drew
  have hCE := hCD.below hbE
  have hME := hMD.more hbE hBD
  have hgE := (hbE.block _ (lt_of_heap hgD)).trans hgD
  have y3E := (hbE.cell (p := ⟨w.heap.size, 3, none⟩) (lt_of_heap hgD)).trans y3D
  have hsE : (wD.alloc (.cells #[.pointer (some ⟨w.heap.size, 0, none⟩)] 111)).drew.heap.size = wD.heap.size + 1 := by simp
  have rD := (hCD.rowAt hK44).1
  have rE := (hCE.rowAt hK44).1
  rw [show 2 + (22 * i + l) = 2 + i * 22 + l by omega] at rD rE
  have hg3 := grow_keep (hCE.levs i hi l (by omega)) hgr hgE (by decide)
  have y3W : w3.cell? ⟨w.heap.size, 3, none⟩ = some (.int .i64 l) := by
    have := cell_of_row w3 (w.heap.size) 3 _ _ _ hg3
    rw [this, ← cell_of_row _ (w.heap.size) 3 _ _ _ hgE]
    exact y3E
  obtain ⟨cs3, hc3, -⟩ := hCE.blk
  have hc3' := grow_keep (hCE.levs i hi l (by omega)) hgr hc3 (by decide)
  have fz : w3.frozen? ⟨c, 2 + i * 22 + l, none⟩ = false := frozen0 hc3'
  have kc : ∃ u, w3.cell? ⟨c, 2 + i * 22 + l, none⟩ = some u := by
    rw [cell_of_row w3 c _ _ _ _ hc3', ← cell_of_row _ c _ _ _ _ hc3, rE]
    exact ⟨_, rfl⟩
  obtain ⟨u3, ku⟩ := kc
  have hCF := hCE.grown hK44 (v' := v') (w1 := w3) (lev' := updL σ1.lev i l (σ1.lev i l ++ [k.2.1])) (prs' := σ1.prs) (hCE.levs i hi l (by omega)) hgr (by
    rcases hvo with hvo | hvo
    · exact .inl hvo
    · exact .inr ⟨_, hvo, by rw [hsE]; exact Nat.le_refl _⟩) (.inl rfl)
    (fun i' l' hi' hl' he => by
      obtain ⟨rfl, rfl⟩ : i' = i ∧ l' = l := by omega
      unfold updL
      rw [if_pos ⟨rfl, rfl⟩, List.map_append, List.map_cons, List.map_nil, had]
      exact hrow)
    (fun i' hi' he => by omega) (fun i' l' hi' hl' he => if_neg (by rintro ⟨rfl, rfl⟩; exact he rfl)) (fun _ _ _ => rfl)
  have hMF : Mv B dts none w (w3.setCell ⟨c, 2 + (22 * i + l), none⟩ v') := (hME.grown (hCE.levs i hi l (by omega)) hgr (by decide) hCE.le).set hc3' (by decide) hCE.base _
  have y3F : (w3.setCell ⟨c, 2 + i * 22 + l, none⟩ v').cell? ⟨w.heap.size, 3, none⟩ = some (.int .i64 l) := (World.cell?_setCell_other _ _ _ _ (by intro e; injection e with e; exact ne_type hg3 hc3' (by decide) e.symm)).trans y3W
  have FIN : Hid (CmW B (w3.setCell ⟨c, 2 + i * 22 + l, none⟩ v') c mb gv ⟨S1.ad, fun q => if v'.ownBlock = some q then 10 + (22 * i + l) else S1.tg q, fun j => if j = 22 * i + l then v' else S1.rv j⟩ (hangM σ1 i k.2.1) ∧ Mv B dts none w (w3.setCell ⟨c, 2 + i * 22 + l, none⟩ v')) := by
    rw [show 2 + i * 22 + l = 2 + (22 * i + l) by omega]
    unfold hangM
    rw [hnd1]
    exact ⟨hCF, hMF⟩
  clear hrv1 had hnd1 hlev1 hadx
  have T1 := hide y3D
  have T2 := hide y3E
  have T3 := hide y3W
  have T4 := hide y3F
  have HRUN := hide hrun
  obtain ⟨vA, vm, vc, rfl⟩ := row_form hrow
  clear y3S hCS hMS hgS hCD hMD hgD hrow hgr hvo hbE hCE hME hgE hg3 cs3 hc3 hc3' hCF hMF y3F y3W y3E hrun
  refine wp_region_held_drew (S := fun W => W.cell? ⟨w.heap.size, 3, none⟩ = some (.int .i64 l)) (by kernel_rfl) (y3D) (fun hHeld => ?_)
  refine takeK 0 hHeld ?_
  refine takeK 1 hHeld ?_
  refine takeK 2 hHeld ?_
  refine takeK 3 hHeld ?_
  refine takeK 4 hHeld ?_
  refine takeK 5 hHeld ?_
  refine takeK 6 hHeld ?_
  refine takeK 7 hHeld ?_
  refine takeK 8 hHeld ?_
  refine takeK 9 hHeld ?_
  refine takeK 10 hHeld ?_
  refine takeK 11 hHeld ?_
  refine takeK 12 hHeld ?_
  refine takeK 14 hHeld ?_
  refine takeK 17 hHeld ?_
  refine takeK 18 hHeld ?_
  refine twoH (i := 13) (j := 15) rfl rfl (by kernel_rfl) rfl rfl (fun K hK => ?_) (fun K hK => ?_)
  · go_simp
    refine hK.out _ _ (T1.out) (fun hHeld => ?_)
    clear hK K
    try simp only [Act.put, List.setIfInBounds_toArray, List.set_cons_zero, List.set_cons_succ]
    refine onlyH (i := 15) rfl (by kernel_rfl) rfl (fun K hK => ?_)
    go_simp
    refine hK.out _ _ (T2.out) (fun hHeld => ?_)
    clear hK K
    try simp only [Act.put, List.setIfInBounds_toArray, List.set_cons_zero, List.set_cons_succ]
    refine onlyH (i := 16) rfl (by kernel_rfl) rfl (fun K hK => ?_)
    refine wp_append_run (.tmp 78) (.tmp 80) 54 rfl rfl rfl HRUN.out ?_
    refine hK.out _ _ (T3.out) (fun hHeld => ?_)
    clear hK K
    try simp only [Act.put, List.setIfInBounds_toArray, List.set_cons_zero, List.set_cons_succ]
    refine takeK 19 hHeld ?_
    refine onlyH (i := 20) rfl (by kernel_rfl) rfl (fun K hK => ?_)
    go_simp
    refine hK.out _ _ (T4.out) (fun hHeld => ?_)
    clear hK K
    try simp only [Act.put, List.setIfInBounds_toArray, List.set_cons_zero, List.set_cons_succ]
    refine wpAnyH_done (by kernel_rfl) ?_ _
    clear hHeld
    go_wp2
    go_ret
    refine ⟨rfl, fun _ => ⟨_, FIN.out.1, fun j hj => (if_neg hj).trans (by rw [HV.out.1]), HV.out.2.2.2.2⟩, FIN.out.2⟩
  · go_simp
    refine hK.out _ _ (T2.out) (fun hHeld => ?_)
    clear hK K
    try simp only [Act.put, List.setIfInBounds_toArray, List.set_cons_zero, List.set_cons_succ]
    refine onlyH (i := 13) rfl (by kernel_rfl) rfl (fun K hK => ?_)
    go_simp
    refine hK.out _ _ (T2.out) (fun hHeld => ?_)
    clear hK K
    try simp only [Act.put, List.setIfInBounds_toArray, List.set_cons_zero, List.set_cons_succ]
    refine onlyH (i := 16) rfl (by kernel_rfl) rfl (fun K hK => ?_)
    refine wp_append_run (.tmp 78) (.tmp 80) 54 rfl rfl rfl HRUN.out ?_
    refine hK.out _ _ (T3.out) (fun hHeld => ?_)
    clear hK K
    try simp only [Act.put, List.setIfInBounds_toArray, List.set_cons_zero, List.set_cons_succ]
    refine takeK 19 hHeld ?_
    refine onlyH (i := 20) rfl (by kernel_rfl) rfl (fun K hK => ?_)
    go_simp
    refine hK.out _ _ (T4.out) (fun hHeld => ?_)
    clear hK K
    try simp only [Act.put, List.setIfInBounds_toArray, List.set_cons_zero, List.set_cons_succ]
    refine wpAnyH_done (by kernel_rfl) ?_ _
    clear hHeld
    go_wp2
    go_ret
    refine ⟨rfl, fun _ => ⟨_, FIN.out.1, fun j hj => (if_neg hj).trans (by rw [HV.out.1]), HV.out.2.2.2.2⟩, FIN.out.2⟩
end
end Go.Proofs.Ytldfjpgcemfpjaa
