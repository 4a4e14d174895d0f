/-
  Texts joined: PGoing, PGoing2.
-/
import Derived.Test.YtimbleaafoiidaaGreatDoorE36PPairs
import Derived.Test.YtimbleaafoiidaaGreatDoorE39PFind
/-
  Going into nodes and to their kids. Conditions: the get and whoever is told keep their words; not too much was asked.
-/
namespace Go.Proofs.YtimbleaafoiidaaGreatDoor
open Go.RowKit

theorem YieldOk.neq {σ : Type} {l : Nat} {k : Sink σ} {B : Nat} {sts : List TypeId} {J Jx : Value → σ → World → Prop} (hY : YieldOk l k B sts J Jx) {v : Value} {s : σ} {W : World} (hJ : J v s W) {b : Nat} {cs : Array Value} {t : TypeId} {fr : Nat × Nat} (h : W.heap[b]? = some (.cells cs t fr)) (ht : t ≠ 60) : some b ≠ v.ownBlock := by
  intro e
  obtain ⟨cs', fr', hq⟩ := hY.row hJ e.symm
  rw [h] at hq
  injection hq with hq
  injection hq with _ hq
  exact ht hq
theorem own_far {w : World} {B n k : Nat} {e : TypeId} {v u : Value} {xs : List Value} (h : w.ownsRow B e k v n xs) (hu : ∀ q, u.ownBlock = some q → q < B) : v.ownBlock = none ∨ v.ownBlock ≠ u.ownBlock := by
  cases hv : v.ownBlock with
  | none => exact .inl rfl
  | some q =>
    refine .inr fun hq => ?_
    have h1 := (h.lt q hv).1
    have h2 := hu q hq.symm
    omega
/-- What goInto keeps. -/
def IntoOk {σ : Type} (l : Nat) (k : Sink σ) (fd : Bs → Option Bs) (B : Nat) (sts : List TypeId) (J Jx : Value → σ → World → Prop) (I : World → List Bs → Prop) (gb : Nat) (gv : Value) (lo hi : Bs) (d : Nat) : Prop :=
  ∀ (W : World) (v : Value) (t : Tst σ) (er : Int) (n : NodeM) (vk vp : Value), J v t.s W → GoW B W gb gv (.func (.yield l) #[] #[]) lo hi t.told → I W t.asked → (er = 0 → RightM n ∧ n.1 ≤ d) →
    (∀ W', Mv B (gts sts) v.ownBlock W W' → Ls W'.heap.size W' 3 linkC vk n.2.2) → (∀ W', Mv B (gts sts) v.ownBlock W W' → Ls W'.heap.size W' 2 pairC vp n.2.1) →
    t.asked.length + d * (manyL n.2.2).toNat ≤ 1000000000 → k.cap t.s + (n.2.1.length + (manyL n.2.2).toNat) ≤ 1000000 →
    Calls Tryz.prog 62 #[.pointer (some ⟨gb, 0, none⟩), .agg #[.int .i64 n.1, vk, vp], .int .i64 er] W fun e W' => ToldSaid B sts J Jx I gb gv (.func (.yield l) #[] #[]) lo hi v W (intoT k (goT k fd lo hi d) lo hi (er, n) t) e W'
theorem eachT_nil {σ : Type} (f : Link → Tst σ → Tst σ × Bool) (lo hi : Bs) (t : Tst σ) : eachT f lo hi [] t = (t, true) := rfl
theorem eachT_skip {σ : Type} {f : Link → Tst σ → Tst σ × Bool} {lo hi : Bs} {q : Link} {r : List Link} {t : Tst σ} (h : ltB q.1 lo = true) (h2 : endM hi q.1 = false) : eachT f lo hi (q :: r) t = eachT f lo hi r t := by rw [eachT, h, h2]; rfl
theorem eachT_last {σ : Type} {f : Link → Tst σ → Tst σ × Bool} {lo hi : Bs} {q : Link} {r : List Link} {t : Tst σ} (h : ltB q.1 lo = true) (h2 : endM hi q.1 = true) : eachT f lo hi (q :: r) t = (t, true) := by rw [eachT, h, h2]; rfl
theorem eachT_stop {σ : Type} {f : Link → Tst σ → Tst σ × Bool} {lo hi : Bs} {q : Link} {r : List Link} {t : Tst σ} (h : ltB q.1 lo = false) (h3 : (f q t).2 = false) : eachT f lo hi (q :: r) t = ((f q t).1, false) := by rw [eachT, h, h3]; rfl
theorem eachT_on {σ : Type} {f : Link → Tst σ → Tst σ × Bool} {lo hi : Bs} {q : Link} {r : List Link} {t : Tst σ} (h : ltB q.1 lo = false) (h3 : (f q t).2 = true) (h2 : endM hi q.1 = false) : eachT f lo hi (q :: r) t = eachT f lo hi r (f q t).1 := by rw [eachT, h, h3, h2]; rfl
theorem eachT_end {σ : Type} {f : Link → Tst σ → Tst σ × Bool} {lo hi : Bs} {q : Link} {r : List Link} {t : Tst σ} (h : ltB q.1 lo = false) (h3 : (f q t).2 = true) (h2 : endM hi q.1 = true) : eachT f lo hi (q :: r) t = ((f q t).1, true) := by rw [eachT, h, h3, h2]; rfl
set_option maxRecDepth 20000 in
theorem goToKids_leaf (W : World) (gb : Nat) (lv : Int) (pa : Option Addr) (pm pc : Nat) (ka : Option Addr) (kc : Nat) :
    Calls Tryz.prog 89 #[.pointer (some ⟨gb, 0, none⟩), .agg #[.int .i64 lv, .slice ka 0 kc, .slice pa pm pc]] W fun e W' => e = .returned (.bool true) ∧ Below W.heap.size W W' := by
  have hb0 : Below W.heap.size W (W.alloc (.cells #[.int .i64 lv, .slice ka 0 kc, .slice pa pm pc] 83)) := (Below.refl _ _).alloc (Nat.le_refl _) _
  have HB := hide hb0
  clear hb0
  go_enter Tryz.func89, Tryz.ntmps89
  go_wp2_with fail
  go_loopw [11] (fun q wr => q = .int .i64 0 ∧ wr = W.alloc (.cells #[.int .i64 lv, .slice ka 0 kc, .slice pa pm pc] 83)) (fun _ _ => 0)
  case atStart => exact ⟨rfl, rfl⟩
  case round =>
    obtain ⟨rfl, rfl⟩ := hrel
    go_wp2
    go_ret
    exact ⟨rfl, HB.out⟩
end Go.Proofs.YtimbleaafoiidaaGreatDoor

/-
  Going to a branch's kids. Conditions: the get and whoever is told keep their words; not too much was asked.
-/
namespace Go.Proofs.YtimbleaafoiidaaGreatDoor
open Go.RowKit

set_option maxRecDepth 40000 in
set_option maxHeartbeats 6400000 in
theorem goToKids_any {σ : Type} (W : World) (l : Nat) (k : Sink σ) (g : Nat) (caps : Array Value) (fd : Bs → Option Bs) (B : Nat) (sts kts : List TypeId) (J Jx : Value → σ → World → Prop) (hY : YieldOk l k B sts J Jx) (I : World → List Bs → Prop) (hG : GetOk g caps fd B kts I) (_hkt : 60 ∈ kts ∧ 128 ∈ kts ∧ ∀ t ∈ sts, t ∈ kts)
    (gb : Nat) (lo hi : Bs) (d : Nat) (hrec : IntoOk l k fd B sts J Jx I gb (.func (.func g) #[] caps) lo hi d) (v : Value) (t : Tst σ) (hJ : J v t.s W) (hg : GoW B W gb (.func (.func g) #[] caps) (.func (.yield l) #[] #[]) lo hi t.told) (hI : I W t.asked)
    (lv : Int) (ks : List Link) (ka : Option Addr) (kc : Nat) (pa : Option Addr) (pm pc : Nat) (hlv : 1 ≤ lv) (hlv2 : lv ≤ d + 1) (hlv3 : lv ≤ 20) (hks : ∀ q ∈ ks, rlinkOk q = true) (hsure : ∀ W', Mv B (gts sts) v.ownBlock W W' → Ls W'.heap.size W' 3 linkC (.slice ka ks.length kc) ks) (hlen : ks.length ≤ 64) (hak : t.asked.length + (d + 1) * (manyL ks).toNat ≤ 1000000000) (hcap : k.cap t.s + (manyL ks).toNat ≤ 1000000) :
    Calls Tryz.prog 89 #[.pointer (some ⟨gb, 0, none⟩), .agg #[.int .i64 lv, .slice ka ks.length kc, .slice pa pm pc]] W fun e W' => ToldSaid B sts J Jx I gb (.func (.func g) #[] caps) (.func (.yield l) #[] #[]) lo hi v W (eachT (fun q u => goT k fd lo hi (d + 1) q (lv - 1) u) lo hi ks t) e W' := by
  have hB : B ≤ W.heap.size := by have := lt_of_heap hg.cell; have := hg.le; omega
  obtain ⟨R, hR⟩ : ∃ R, R = eachT (fun q u => goT k fd lo hi (d + 1) q (lv - 1) u) lo hi ks t := ⟨_, rfl⟩
  rw [← hR]
  have hb0 : Below W.heap.size W (W.alloc (.cells #[.int .i64 lv, .slice ka ks.length kc, .slice pa pm pc] 83)) := (Below.refl _ _).alloc (Nat.le_refl _) _
  have hn0 := heap_last W (.cells #[.int .i64 lv, .slice ka ks.length kc, .slice pa pm pc] 83) _ rfl
  have HS := hide hsure
  have HG := hide hG
  have HKS := hide hks
  have H0 := hide (And.intro hR (And.intro (hY.keep hJ (Mv.of hb0 hB) (KO.of hb0)) (And.intro (hg.below hb0) (And.intro (hG.below hI hb0) (And.intro ((Mv.refl B (gts sts) v.ownBlock W).more hb0 hB) (And.intro hn0 (And.intro hak hcap)))))))
  generalize hw0 : W.alloc (.cells #[.int .i64 lv, .slice ka ks.length kc, .slice pa pm pc] 83) = w0 at *
  have c1 := cell_of_row w0 W.heap.size 1 _ _ _ hn0
  simp only [List.getElem?_toArray, List.getElem?_cons_zero, List.getElem?_cons_succ] at c1
  clear hR hJ hg hI hsure hak hcap hks hb0 hn0 hG
  go_enter Tryz.func89, Tryz.ntmps89
  go_wp2_with fail
  try rw [hw0]
  go_wp2_with fail
  go_loopw [11] (fun q wr => ∃ (j' : Nat) (v3 : Value) (u3 : Tst σ), j' ≤ ks.length ∧ q = .int .i64 j' ∧ R = eachT (fun q u => goT k fd lo hi (d + 1) q (lv - 1) u) lo hi (ks.drop j') u3 ∧ J v3 u3.s wr ∧ GoW B wr gb (.func (.func g) #[] caps) (.func (.yield l) #[] #[]) lo hi u3.told ∧ I wr u3.asked ∧ Mv B (gts sts) v.ownBlock W wr ∧ Nx W v.ownBlock v3.ownBlock ∧ wr.heap[W.heap.size]? = some (.cells #[.int .i64 lv, .slice ka ks.length kc, .slice pa pm pc] 83) ∧ u3.asked.length + (d + 1) * (manyL (ks.drop j')).toNat ≤ 1000000000 ∧ k.cap u3.s + (manyL (ks.drop j')).toNat ≤ 1000000)
    (fun q _ => ks.length - (intOf q).toNat)
  case atStart => exact ⟨0, v, t, by omega, rfl, by simpa using H0.out.1, H0.out.2.1, H0.out.2.2.1, H0.out.2.2.2.1, H0.out.2.2.2.2.1, Nx.refl _ _, H0.out.2.2.2.2.2.1, by simpa using H0.out.2.2.2.2.2.2.1, by simpa using H0.out.2.2.2.2.2.2.2⟩
  case round =>
    clear H0 c1 hw0
    obtain ⟨j, v', u, hj, rfl, hRj, hJr, hgr, hIr, hMr, hNr, hnr, har, hcr⟩ := hrel
    have hBr : B ≤ wr.heap.size := Nat.le_trans hB hMr.size
    by_cases hlt : j < ks.length
    · obtain ⟨ao', cap', hvv, -, -, hc4⟩ := HS.out wr hMr
      obtain ⟨b, off, hao, hbB, hc⟩ := hc4 (by rintro rfl; simp at hlt)
      injection hvv with e1 _ e3
      subst e3
      rw [hao] at e1
      subst e1
      have d0 := hc j hlt 0 _ rfl
      have d1 := hc j hlt 1 _ rfl
      have d2 := hc j hlt 2 _ rfl
      simp only [Nat.add_zero] at d0
      have hxk := HKS.out ks[j] (by simp)
      rw [List.drop_eq_getElem_cons hlt] at hRj har hcr
      have hdk := fun q hq => HKS.out q (List.mem_of_mem_drop (i := j + 1) hq)
      generalize ks[j] = x at *
      have hxm := ((rlinkOk_iff x).1 hxk).2.2.1
      have hmr := manyL_many (ks.drop (j + 1)) hdk
      rw [manyL_cons] at har hcr
      have hsum : (x.2.2 + manyL (ks.drop (j + 1))).toNat = x.2.2.toNat + (manyL (ks.drop (j + 1))).toNat := by omega
      rw [hsum] at har hcr
      rw [Nat.mul_add] at har
      have hb1 : Below wr.heap.size wr (wr.alloc (.cells #[.string (strB x.1), .string (strB x.2.1), .int .i64 x.2.2] 66)) := (Below.refl _ _).alloc (Nat.le_refl _) _
      have hx1 := heap_last wr (.cells #[.string (strB x.1), .string (strB x.2.1), .int .i64 x.2.2] 66) _ rfl
      have hn1 := (hb1.block _ (lt_of_heap hnr)).trans hnr
      have hg1 := hgr.below hb1
      have hJ1 := hY.keep hJr (Mv.of hb1 hBr) (KO.of hb1)
      have hI1 := HG.out.below hIr hb1
      have hM1 := hMr.more hb1 hBr
      have hs1 : B ≤ (wr.alloc (.cells #[.string (strB x.1), .string (strB x.2.1), .int .i64 x.2.2] 66)).heap.size := Nat.le_trans hBr hb1.size
      generalize hw1 : wr.alloc (.cells #[.string (strB x.1), .string (strB x.2.1), .int .i64 x.2.2] 66) = w1 at *
      have g0 := cell_of_row w1 gb 0 _ _ _ hg1.cell
      have g1 := cell_of_row w1 gb 1 _ _ _ hg1.cell
      have g2 := cell_of_row w1 gb 2 _ _ _ hg1.cell
      have p0 := cell_of_row w1 wr.heap.size 0 _ _ _ hx1
      have p1 := cell_of_row w1 wr.heap.size 1 _ _ _ hx1
      have p2 := cell_of_row w1 wr.heap.size 2 _ _ _ hx1
      have n0 := cell_of_row w1 W.heap.size 0 _ _ _ hn1
      simp only [List.getElem?_toArray, List.getElem?_cons_zero, List.getElem?_cons_succ] at g0 g1 g2 p0 p1 p2 n0
      have H1 := hide (And.intro hx1 (And.intro hn1 (And.intro hg1 (And.intro hJ1 (And.intro hI1 hM1)))))
      have HRJ := hide hRj
      have HAC := hide (And.intro har (And.intro hcr (And.intro hxm hxk)))
      have hnext : ∀ (v2 : Value) (u2 : Tst σ) (W2 : World), R = eachT (fun q u => goT k fd lo hi (d + 1) q (lv - 1) u) lo hi (ks.drop (j + 1)) u2 → J v2 u2.s W2 → GoW B W2 gb (.func (.func g) #[] caps) (.func (.yield l) #[] #[]) lo hi u2.told → I W2 u2.asked → Mv B (gts sts) v.ownBlock W W2 → Nx W v.ownBlock v2.ownBlock → W2.heap[W.heap.size]? = some (.cells #[.int .i64 lv, .slice (some ⟨b, off, none⟩) ks.length kc, .slice pa pm pc] 83) → u2.asked.length + (d + 1) * (manyL (ks.drop (j + 1))).toNat ≤ 1000000000 → k.cap u2.s + (manyL (ks.drop (j + 1))).toNat ≤ 1000000 → ∃ (j' : Nat) (v3 : Value) (u3 : Tst σ), j' ≤ ks.length ∧ (Value.int .i64 ((j : Int) + 1)) = .int .i64 j' ∧ R = eachT (fun q u => goT k fd lo hi (d + 1) q (lv - 1) u) lo hi (ks.drop j') u3 ∧ J v3 u3.s W2 ∧ GoW B W2 gb (.func (.func g) #[] caps) (.func (.yield l) #[] #[]) lo hi u3.told ∧ I W2 u3.asked ∧ Mv B (gts sts) v.ownBlock W W2 ∧ Nx W v.ownBlock v3.ownBlock ∧ W2.heap[W.heap.size]? = some (.cells #[.int .i64 lv, .slice (some ⟨b, off, none⟩) ks.length kc, .slice pa pm pc] 83) ∧ u3.asked.length + (d + 1) * (manyL (ks.drop j')).toNat ≤ 1000000000 ∧ k.cap u3.s + (manyL (ks.drop j')).toNat ≤ 1000000 := fun v2 u2 W2 h1 h2 h3 h4 h5 h6 h7 h8 h9 => ⟨j + 1, v2, u2, by omega, by simp, h1, h2, h3, h4, h5, h6, h7, h8, h9⟩
      have HNX := hide hnext
      clear hnext hJr hgr hIr hMr hnr hc hc4 hb1 hx1 hn1 hg1 hJ1 hI1 hM1 hRj har hcr hxm hxk hdk hmr hsum hao
      have hbg := begunAt_any w1.drew lo hi x.1
      have hwl : IntKind.i64.wrap (lv - 1) = lv - 1 := by rw [IntKind.wrap_i64]; omega
      cases hlo : ltB x.1 lo with
      | true =>
        rw [hlo] at hbg
        simp only [Bool.not_true] at hbg
        go_wp2_with fail
        refine wp_region_held_drew (S := fun Z => Z.cell? ⟨gb, 0, none⟩ = some (.func (.func g) #[] caps) ∧ Z.cell? ⟨gb, 1, none⟩ = some (.string (strB lo)) ∧ Z.cell? ⟨gb, 2, none⟩ = some (.string (strB hi)) ∧ Z.cell? ⟨wr.heap.size, 0, none⟩ = some (.string (strB x.1)) ∧ Z.cell? ⟨wr.heap.size, 1, none⟩ = some (.string (strB x.2.1)) ∧ Z.cell? ⟨wr.heap.size, 2, none⟩ = some (.int .i64 x.2.2) ∧ Z.cell? ⟨W.heap.size, 0, none⟩ = some (.int .i64 lv)) (by kernel_rfl) (⟨g0, g1, g2, p0, p1, p2, n0⟩) (fun hHeld => ?_)
        refine takeK 0 hHeld ?_
        refine takeK 1 hHeld ?_
        refine takeK 2 hHeld ?_
        refine takeK 3 hHeld ?_
        refine takeK 4 hHeld ?_
        refine takeK 5 hHeld ?_
        refine onlyH (i := 6) rfl (by kernel_rfl) rfl (fun K hK => ?_)
        go_simp
        refine hbg.mono ?_
        rintro e w2 ⟨rfl, hb2⟩
        have hb2' : Below w1.heap.size w1 w2 := (Below.refl _ _).drew.trans hb2
        have hx2 := (hb2'.block _ (lt_of_heap H1.out.1)).trans H1.out.1
        have hn2 := (hb2'.block _ (lt_of_heap H1.out.2.1)).trans H1.out.2.1
        have hg2 := H1.out.2.2.1.below hb2'
        clear g0 g1 g2 p0 p1 p2 n0
        have g0 := cell_of_row w2 gb 0 _ _ _ hg2.cell
        have g1 := cell_of_row w2 gb 1 _ _ _ hg2.cell
        have g2 := cell_of_row w2 gb 2 _ _ _ hg2.cell
        have p0 := cell_of_row w2 wr.heap.size 0 _ _ _ hx2
        have p1 := cell_of_row w2 wr.heap.size 1 _ _ _ hx2
        have p2 := cell_of_row w2 wr.heap.size 2 _ _ _ hx2
        have n0 := cell_of_row w2 W.heap.size 0 _ _ _ hn2
        simp only [List.getElem?_toArray, List.getElem?_cons_zero, List.getElem?_cons_succ] at g0 g1 g2 p0 p1 p2 n0
        have H2 := hide (And.intro hx2 (And.intro hn2 (And.intro hg2 (And.intro (hY.keep H1.out.2.2.2.1 (Mv.of hb2' hs1) (KO.of hb2')) (And.intro (HG.out.below H1.out.2.2.2.2.1 hb2') (And.intro (H1.out.2.2.2.2.2.more hb2' hs1) (And.intro hNr (show u.asked.length + (d + 1) * (manyL (ks.drop (j + 1))).toNat ≤ 1000000000 ∧ k.cap u.s + (manyL (ks.drop (j + 1))).toNat ≤ 1000000 from ⟨by have := HAC.out.1; omega, by have := HAC.out.2.1; omega⟩))))))))
        clear hb2 hb2' hx2 hn2 hg2 hbg
        refine hK.out _ _ (⟨g0, g1, g2, p0, p1, p2, n0⟩) (fun hHeld => ?_)
        clear hK K
        try simp only [Act.put, List.setIfInBounds_toArray, List.set_cons_zero, List.set_cons_succ]
        refine takeK 7 hHeld ?_
        refine skipK 8 hHeld ?_
        refine skipK 9 hHeld ?_
        refine skipK 10 hHeld ?_
        refine skipK 11 hHeld ?_
        refine skipK 12 hHeld ?_
        refine skipK 13 hHeld ?_
        refine skipK 14 hHeld ?_
        refine skipK 15 hHeld ?_
        refine skipK 16 hHeld ?_
        refine skipK 17 hHeld ?_
        refine skipK 18 hHeld ?_
        refine skipK 19 hHeld ?_
        refine skipK 20 hHeld ?_
        refine skipK 21 hHeld ?_
        refine skipK 22 hHeld ?_
        refine takeK 23 hHeld ?_
        refine wpAnyH_done (by kernel_rfl) ?_ _
        clear hHeld g0 g1 g2 p0 p1 p2 n0
        have e1 := cell_of_row w2 gb 1 _ _ _ H2.out.2.2.1.cell
        have e2 := cell_of_row w2 gb 2 _ _ _ H2.out.2.2.1.cell
        have e3 := cell_of_row w2 wr.heap.size 0 _ _ _ H2.out.1
        simp only [List.getElem?_toArray, List.getElem?_cons_zero, List.getElem?_cons_succ] at e1 e2 e3
        have hen := endedAt_any w2.drew lo hi x.1
        go_wp2_with fail
        refine wp_region_held_drew (S := fun Z => Z.cell? ⟨gb, 1, none⟩ = some (.string (strB lo)) ∧ Z.cell? ⟨gb, 2, none⟩ = some (.string (strB hi)) ∧ Z.cell? ⟨wr.heap.size, 0, none⟩ = some (.string (strB x.1))) (by kernel_rfl) (⟨e1, e2, e3⟩) (fun hHeld => ?_)
        refine takeK 0 hHeld ?_
        refine takeK 1 hHeld ?_
        refine takeK 2 hHeld ?_
        refine takeK 3 hHeld ?_
        refine takeK 4 hHeld ?_
        refine takeK 5 hHeld ?_
        refine onlyH (i := 6) rfl (by kernel_rfl) rfl (fun K hK => ?_)
        go_simp
        refine hen.mono ?_
        rintro e w8 ⟨rfl, hb8⟩
        have hb8' : Below w2.heap.size w2 w8 := (Below.refl _ _).drew.trans hb8
        have hBZ : B ≤ w2.heap.size := Nat.le_trans hB H2.out.2.2.2.2.2.1.size
        have hx8 := (hb8'.block _ (lt_of_heap H2.out.1)).trans H2.out.1
        have hn8 := (hb8'.block _ (lt_of_heap H2.out.2.1)).trans H2.out.2.1
        have hg8 := H2.out.2.2.1.below hb8'
        have H8 := hide (And.intro hn8 (And.intro hg8 (And.intro (hY.keep H2.out.2.2.2.1 (Mv.of hb8' hBZ) (KO.of hb8')) (And.intro (HG.out.below H2.out.2.2.2.2.1 hb8') (H2.out.2.2.2.2.2.1.more hb8' hBZ)))))
        have e1 := cell_of_row w8 gb 1 _ _ _ hg8.cell
        have e2 := cell_of_row w8 gb 2 _ _ _ hg8.cell
        have e3 := cell_of_row w8 wr.heap.size 0 _ _ _ hx8
        simp only [List.getElem?_toArray, List.getElem?_cons_zero, List.getElem?_cons_succ] at e1 e2 e3
        clear hb8 hb8' hx8 hn8 hg8 hen
        refine hK.out _ _ (⟨e1, e2, e3⟩) (fun hHeld => ?_)
        clear hK K
        try simp only [Act.put, List.setIfInBounds_toArray, List.set_cons_zero, List.set_cons_succ]
        refine wpAnyH_done (by kernel_rfl) ?_ _
        clear hHeld e1 e2 e3
        cases hed : endM hi x.1 with
        | true =>
          have HRB := hide (show R = (u, true) from HRJ.out.trans (eachT_last hlo hed))
          go_wp2
          go_ret
          rw [HRB.out]
          exact ⟨rfl, v', fun _ => H8.out.2.2.1, fun h => (by cases h), H8.out.2.1, H8.out.2.2.2.1, H8.out.2.2.2.2, H2.out.2.2.2.2.2.2.1⟩
        | false =>
          have HREL := hide (HNX.out v' u w8 (HRJ.out.trans (eachT_skip hlo hed)) H8.out.2.2.1 H8.out.2.1 H8.out.2.2.2.1 H8.out.2.2.2.2 H2.out.2.2.2.2.2.2.1 H8.out.1 H2.out.2.2.2.2.2.2.2.1 H2.out.2.2.2.2.2.2.2.2)
          go_wp2
          go_roundw
          case rel => exact HREL.out
          case measure => simp [intOf]; omega
      | false =>
        rw [hlo] at hbg
        simp only [Bool.not_false] at hbg
        go_wp2_with fail
        refine wp_region_held_drew (S := fun Z => Z.cell? ⟨gb, 0, none⟩ = some (.func (.func g) #[] caps) ∧ Z.cell? ⟨gb, 1, none⟩ = some (.string (strB lo)) ∧ Z.cell? ⟨gb, 2, none⟩ = some (.string (strB hi)) ∧ Z.cell? ⟨wr.heap.size, 0, none⟩ = some (.string (strB x.1)) ∧ Z.cell? ⟨wr.heap.size, 1, none⟩ = some (.string (strB x.2.1)) ∧ Z.cell? ⟨wr.heap.size, 2, none⟩ = some (.int .i64 x.2.2) ∧ Z.cell? ⟨W.heap.size, 0, none⟩ = some (.int .i64 lv)) (by kernel_rfl) (⟨g0, g1, g2, p0, p1, p2, n0⟩) (fun hHeld => ?_)
        refine takeK 0 hHeld ?_
        refine takeK 1 hHeld ?_
        refine takeK 2 hHeld ?_
        refine takeK 3 hHeld ?_
        refine takeK 4 hHeld ?_
        refine takeK 5 hHeld ?_
        refine onlyH (i := 6) rfl (by kernel_rfl) rfl (fun K hK => ?_)
        go_simp
        refine hbg.mono ?_
        rintro e w2 ⟨rfl, hb2⟩
        have hb2' : Below w1.heap.size w1 w2 := (Below.refl _ _).drew.trans hb2
        have hx2 := (hb2'.block _ (lt_of_heap H1.out.1)).trans H1.out.1
        have hn2 := (hb2'.block _ (lt_of_heap H1.out.2.1)).trans H1.out.2.1
        have hg2 := H1.out.2.2.1.below hb2'
        have hJ2 := hY.keep H1.out.2.2.2.1 (Mv.of hb2' hs1) (KO.of hb2')
        have hI2 := HG.out.below H1.out.2.2.2.2.1 hb2'
        have hM2 := H1.out.2.2.2.2.2.more hb2' hs1
        have hs2 : B ≤ w2.heap.size := Nat.le_trans hs1 hb2'.size
        clear g0 g1 g2 p0 p1 p2 n0
        have g0 := cell_of_row w2 gb 0 _ _ _ hg2.cell
        have g1 := cell_of_row w2 gb 1 _ _ _ hg2.cell
        have g2 := cell_of_row w2 gb 2 _ _ _ hg2.cell
        have p0 := cell_of_row w2 wr.heap.size 0 _ _ _ hx2
        have p1 := cell_of_row w2 wr.heap.size 1 _ _ _ hx2
        have p2 := cell_of_row w2 wr.heap.size 2 _ _ _ hx2
        have n0 := cell_of_row w2 W.heap.size 0 _ _ _ hn2
        simp only [List.getElem?_toArray, List.getElem?_cons_zero, List.getElem?_cons_succ] at g0 g1 g2 p0 p1 p2 n0
        have hak := askKid_any w2 g caps fd B kts I HG.out x (lv - 1) HAC.out.2.2.2 (by omega) (by omega) u.asked hI2 (by have := HAC.out.1; omega)
        have hok := fun h => askM_ok (fd := fd) (k := x) (level := lv - 1) HG.out.short h
        have hgo : goT k fd lo hi (d + 1) x (lv - 1) u = intoT k (goT k fd lo hi d) lo hi (askM fd x (lv - 1)) ⟨u.asked ++ [x.2.1], u.told, u.s⟩ := rfl
        obtain ⟨er, n, hern⟩ : ∃ er n, askM fd x (lv - 1) = (er, n) := ⟨_, _, rfl⟩
        have hze := fun h => askM_zero (fd := fd) (k := x) (level := lv - 1) h
        rw [hern] at hak hok hgo hze
        unfold nodeIs at hak
        simp only at hak hok hze
        have hgr := goT_grows (k := k) fd HG.out.short lo hi (d + 1) x (lv - 1) u HAC.out.2.2.2 (by omega) (by omega)
        rw [hgo] at hgr
        have H2 := hide (And.intro hx2 (And.intro hn2 (And.intro hg2 (And.intro hJ2 (And.intro hI2 hM2)))))
        have HGO := hide (And.intro hgo (And.intro hgr (And.intro hok hze)))
        clear hb2 hb2' hx2 hn2 hg2 hJ2 hI2 hM2 hbg hgo hgr hok hze hern
        refine hK.out _ _ (⟨g0, g1, g2, p0, p1, p2, n0⟩) (fun hHeld => ?_)
        clear hK K
        try simp only [Act.put, List.setIfInBounds_toArray, List.set_cons_zero, List.set_cons_succ]
        refine takeK 7 hHeld ?_
        refine takeK 8 hHeld ?_
        refine takeK 9 hHeld ?_
        refine takeK 10 hHeld ?_
        refine takeK 11 hHeld ?_
        refine takeK 12 hHeld ?_
        refine takeK 13 hHeld ?_
        refine takeK 14 hHeld ?_
        refine takeK 15 hHeld ?_
        refine takeK 16 hHeld ?_
        refine takeK 17 hHeld ?_
        refine onlyH (i := 18) rfl (by kernel_rfl) rfl (fun K hK => ?_)
        go_simp
        refine hak.mono ?_
        rintro e w3 ⟨⟨vk, vp, rfl, hrk, hrp⟩, hI3, hm3, hko3⟩
        have hx3 := hm3.k _ _ _ _ H2.out.1 (by decide) (by simp)
        have hn3 := hm3.k _ _ _ _ H2.out.2.1 (by decide) (by simp)
        have hg3 := H2.out.2.2.1.mv hm3 (by decide) (by simp)
        have hJ3 := hY.keep H2.out.2.2.2.1 (hm3.types (by decide)) hko3
        have hM3 : Mv B (gts sts) v.ownBlock W w3 := H2.out.2.2.2.2.2.trans ((hm3.types (ts' := gts sts) (by intro t ht; exact jts_sub sts t (by revert ht; revert t; decide))).none (r := v.ownBlock)) (Nx.refl _ _)
        have hs3 : B ≤ w3.heap.size := Nat.le_trans hs2 hm3.size
        have hvlt : ∀ q, v'.ownBlock = some q → q < w2.heap.size := fun q hq => by obtain ⟨cs, fr, h⟩ := hY.row H2.out.2.2.2.1 hq; exact lt_of_heap h
        have hsk : ∀ W', Mv B (gts sts) v'.ownBlock w3 W' → Ls W'.heap.size W' 3 linkC vk n.2.2 := fun W' h => ls_of_own linkC_length (h.own hrk (by have := hY.apart; simp [this.2.2.1]) (own_far hrk hvlt))
        have hsp : ∀ W', Mv B (gts sts) v'.ownBlock w3 W' → Ls W'.heap.size W' 2 pairC vp n.2.1 := fun W' h => ls_of_own pairC_length (h.own hrp (by have := hY.apart; simp [this.2.1]) (own_far hrp hvlt))
        clear g0 g1 g2 p0 p1 p2 n0
        have g0 := cell_of_row w3 gb 0 _ _ _ hg3.cell
        have g1 := cell_of_row w3 gb 1 _ _ _ hg3.cell
        have g2 := cell_of_row w3 gb 2 _ _ _ hg3.cell
        have p0 := cell_of_row w3 wr.heap.size 0 _ _ _ hx3
        have p1 := cell_of_row w3 wr.heap.size 1 _ _ _ hx3
        have p2 := cell_of_row w3 wr.heap.size 2 _ _ _ hx3
        have n0 := cell_of_row w3 W.heap.size 0 _ _ _ hn3
        simp only [List.getElem?_toArray, List.getElem?_cons_zero, List.getElem?_cons_succ] at g0 g1 g2 p0 p1 p2 n0
        have hbn : n.2.1.length + (manyL n.2.2).toNat ≤ x.2.2.toNat ∧ d * (manyL n.2.2).toNat ≤ d * x.2.2.toNat := by
          by_cases he : er = 0
          · obtain ⟨q1, q2⟩ := HGO.out.2.2.1 he
            rcases q2 with q2 | q2
            · omega
            · have q3 := (fitsM_count q2).2
              unfold countM at q3
              have q4 := manyL_many n.2.2 q1.links.2.1
              have q5 : (manyL n.2.2).toNat ≤ x.2.2.toNat := by omega
              exact ⟨by omega, Nat.mul_le_mul_left _ q5⟩
          · rw [HGO.out.2.2.2 he]
            simp [manyL]
        have hd1 : (d + 1) * x.2.2.toNat = d * x.2.2.toNat + x.2.2.toNat := by rw [Nat.add_mul]; simp
        have hre := hrec w3 v' ⟨u.asked ++ [x.2.1], u.told, u.s⟩ er n vk vp hJ3 hg3 hI3 (fun he => by
          obtain ⟨q1, q2⟩ := HGO.out.2.2.1 he
          rcases q2 with q2 | q2
          · omega
          · exact ⟨q1, by rw [(fitsM_count q2).1]; omega⟩) hsk hsp (by have := HAC.out.1; have := HAC.out.2.2.1; simp only [List.length_append, List.length_singleton]; omega) (by have := HAC.out.2.1; simp only; omega)
        obtain ⟨r2, hr2⟩ : ∃ r2, r2 = intoT k (goT k fd lo hi d) lo hi (er, n) ⟨u.asked ++ [x.2.1], u.told, u.s⟩ := ⟨_, rfl⟩
        rw [← hr2] at hre
        have HR2 := hide hr2
        have H3 := hide (And.intro hx3 (And.intro hn3 (And.intro hJ3 hM3)))
        obtain ⟨ka', km', kc', rfl⟩ := row_form hrk
        obtain ⟨pa', pm', pc', rfl⟩ := row_form hrp
        clear hko3 hrk hrp hI3 hm3 hx3 hn3 hg3 hJ3 hM3 hvlt hsk hsp hak hbn hd1 hr2
        unfold ToldSaid at hre
        refine hK.out _ _ (⟨g0, g1, g2, p0, p1, p2, n0⟩) (fun hHeld => ?_)
        clear hK K
        try simp only [Act.put, List.setIfInBounds_toArray, List.set_cons_zero, List.set_cons_succ]
        refine takeK 19 hHeld ?_
        refine takeK 20 hHeld ?_
        refine onlyH (i := 21) rfl (by kernel_rfl) rfl (fun K hK => ?_)
        go_simp
        refine hre.mono ?_
        rintro e w5 ⟨rfl, v5, hJ5, hJx5, hg5, hI5, hm5, hN5⟩
        have hx5 := hm5.k _ _ _ _ H3.out.1 (by have := hY.apart; simp [this.2.2.1]) (hY.neq H3.out.2.2.1 H3.out.1 (by decide))
        have hn5 := hm5.k _ _ _ _ H3.out.2.1 (by have := hY.apart; simp [this.2.2.2]) (hY.neq H3.out.2.2.1 H3.out.2.1 (by decide))
        have hM5 : Mv B (gts sts) v.ownBlock W w5 := H3.out.2.2.2.trans hm5 hNr
        have hNN : Nx W v.ownBlock v5.ownBlock := hNr.trans hN5 (by have := H3.out.2.2.2.size; exact this)
        clear g0 g1 g2 p0 p1 p2 n0
        have g0 := cell_of_row w5 gb 0 _ _ _ hg5.cell
        have g1 := cell_of_row w5 gb 1 _ _ _ hg5.cell
        have g2 := cell_of_row w5 gb 2 _ _ _ hg5.cell
        have p0 := cell_of_row w5 wr.heap.size 0 _ _ _ hx5
        have p1 := cell_of_row w5 wr.heap.size 1 _ _ _ hx5
        have p2 := cell_of_row w5 wr.heap.size 2 _ _ _ hx5
        have n0 := cell_of_row w5 W.heap.size 0 _ _ _ hn5
        simp only [List.getElem?_toArray, List.getElem?_cons_zero, List.getElem?_cons_succ] at g0 g1 g2 p0 p1 p2 n0
        clear hre
        refine hK.out _ _ (⟨g0, g1, g2, p0, p1, p2, n0⟩) (fun hHeld => ?_)
        clear hK K
        try simp only [Act.put, List.setIfInBounds_toArray, List.set_cons_zero, List.set_cons_succ]
        cases hfl : r2.2 with
        | false =>
          refine takeK 22 hHeld ?_
          refine takeK 23 hHeld ?_
          refine wpAnyH_done (by kernel_rfl) ?_ _
          clear hHeld g0 g1 g2 p0 p1 p2 n0
          have hrq : goT k fd lo hi (d + 1) x (lv - 1) u = r2 := by rw [HGO.out.1, HR2.out]
          have HRB := hide (HRJ.out.trans (eachT_stop (f := fun q u => goT k fd lo hi (d + 1) q (lv - 1) u) hlo (by simp only [hrq, hfl])))
          have HF := hide (And.intro (hJx5 hfl) (And.intro hg5 (And.intro hI5 (And.intro hM5 (And.intro hNN hrq)))))
          clear hJ5 hJx5 hg5 hI5 hm5 hN5 hx5 hn5 hM5 hNN hrq
          go_wp2
          go_ret
          rw [HRB.out]
          simp only [HF.out.2.2.2.2.2]
          exact ⟨rfl, v5, fun h => (by cases h), fun _ => HF.out.1, HF.out.2.1, HF.out.2.2.1, HF.out.2.2.2.1, HF.out.2.2.2.2.1⟩
        | true =>
          refine takeK 22 hHeld ?_
          refine takeK 23 hHeld ?_
          refine wpAnyH_done (by kernel_rfl) ?_ _
          clear hHeld g0 g1 g2 p0 p1 p2 n0
          have hrq : goT k fd lo hi (d + 1) x (lv - 1) u = r2 := by rw [HGO.out.1, HR2.out]
          have HRQ := hide (And.intro hrq hfl)
          have hgw := HGO.out.2.1
          rw [← HR2.out] at hgw
          have H5 := hide (And.intro hx5 (And.intro hn5 (And.intro hg5 (And.intro (hJ5 hfl) (And.intro hI5 (And.intro hM5 (And.intro hNN (show r2.1.asked.length + (d + 1) * (manyL (ks.drop (j + 1))).toNat ≤ 1000000000 ∧ k.cap r2.1.s + (manyL (ks.drop (j + 1))).toNat ≤ 1000000 from ⟨by have := HAC.out.1; have := hgw.1; omega, by have := HAC.out.2.1; have := hgw.2; omega⟩))))))))
          clear hJ5 hJx5 hg5 hI5 hm5 hN5 hx5 hn5 hM5 hNN hrq hgw hfl
          have e1 := cell_of_row w5 gb 1 _ _ _ H5.out.2.2.1.cell
          have e2 := cell_of_row w5 gb 2 _ _ _ H5.out.2.2.1.cell
          have e3 := cell_of_row w5 wr.heap.size 0 _ _ _ H5.out.1
          simp only [List.getElem?_toArray, List.getElem?_cons_zero, List.getElem?_cons_succ] at e1 e2 e3
          have hen := endedAt_any w5.drew lo hi x.1
          go_wp2_with fail
          refine wp_region_held_drew (S := fun Z => Z.cell? ⟨gb, 1, none⟩ = some (.string (strB lo)) ∧ Z.cell? ⟨gb, 2, none⟩ = some (.string (strB hi)) ∧ Z.cell? ⟨wr.heap.size, 0, none⟩ = some (.string (strB x.1))) (by kernel_rfl) (⟨e1, e2, e3⟩) (fun hHeld => ?_)
          refine takeK 0 hHeld ?_
          refine takeK 1 hHeld ?_
          refine takeK 2 hHeld ?_
          refine takeK 3 hHeld ?_
          refine takeK 4 hHeld ?_
          refine takeK 5 hHeld ?_
          refine onlyH (i := 6) rfl (by kernel_rfl) rfl (fun K hK => ?_)
          go_simp
          refine hen.mono ?_
          rintro e w8 ⟨rfl, hb8⟩
          have hb8' : Below w5.heap.size w5 w8 := (Below.refl _ _).drew.trans hb8
          have hBZ : B ≤ w5.heap.size := Nat.le_trans hB H5.out.2.2.2.2.2.1.size
          have hx8 := (hb8'.block _ (lt_of_heap H5.out.1)).trans H5.out.1
          have hn8 := (hb8'.block _ (lt_of_heap H5.out.2.1)).trans H5.out.2.1
          have hg8 := H5.out.2.2.1.below hb8'
          have H8 := hide (And.intro hn8 (And.intro hg8 (And.intro (hY.keep H5.out.2.2.2.1 (Mv.of hb8' hBZ) (KO.of hb8')) (And.intro (HG.out.below H5.out.2.2.2.2.1 hb8') (H5.out.2.2.2.2.2.1.more hb8' hBZ)))))
          have e1 := cell_of_row w8 gb 1 _ _ _ hg8.cell
          have e2 := cell_of_row w8 gb 2 _ _ _ hg8.cell
          have e3 := cell_of_row w8 wr.heap.size 0 _ _ _ hx8
          simp only [List.getElem?_toArray, List.getElem?_cons_zero, List.getElem?_cons_succ] at e1 e2 e3
          clear hb8 hb8' hx8 hn8 hg8 hen
          refine hK.out _ _ (⟨e1, e2, e3⟩) (fun hHeld => ?_)
          clear hK K
          try simp only [Act.put, List.setIfInBounds_toArray, List.set_cons_zero, List.set_cons_succ]
          refine wpAnyH_done (by kernel_rfl) ?_ _
          clear hHeld e1 e2 e3
          cases hed : endM hi x.1 with
          | true =>
            have HRB := hide (show R = (r2.1, true) from HRJ.out.trans ((eachT_end (f := fun q u => goT k fd lo hi (d + 1) q (lv - 1) u) hlo (by simp only [HRQ.out.1, HRQ.out.2]) hed).trans (by simp only [HRQ.out.1])))
            go_wp2
            go_ret
            rw [HRB.out]
            exact ⟨rfl, v5, fun _ => H8.out.2.2.1, fun h => (by cases h), H8.out.2.1, H8.out.2.2.2.1, H8.out.2.2.2.2, H5.out.2.2.2.2.2.2.1⟩
          | false =>
            have HREL := hide (HNX.out v5 r2.1 w8 (HRJ.out.trans ((eachT_on (f := fun q u => goT k fd lo hi (d + 1) q (lv - 1) u) hlo (by simp only [HRQ.out.1, HRQ.out.2]) hed).trans (by simp only [HRQ.out.1]))) H8.out.2.2.1 H8.out.2.1 H8.out.2.2.2.1 H8.out.2.2.2.2 H5.out.2.2.2.2.2.2.1 H8.out.1 H5.out.2.2.2.2.2.2.2.1 H5.out.2.2.2.2.2.2.2.2)
            go_wp2
            go_roundw
            case rel => exact HREL.out
            case measure => simp [intOf]; omega
    · obtain rfl : j = ks.length := by omega
      rw [List.drop_length, eachT_nil] at hRj
      have HF := hide (And.intro hRj (And.intro hJr (And.intro hgr (And.intro hIr (And.intro hMr hNr)))))
      clear hRj hJr hgr hIr hMr hNr
      go_wp2
      go_ret
      rw [HF.out.1]
      exact ⟨rfl, v', fun _ => HF.out.2.1, fun h => (by cases h), HF.out.2.2.1, HF.out.2.2.2.1, HF.out.2.2.2.2.1, HF.out.2.2.2.2.2⟩
end Go.Proofs.YtimbleaafoiidaaGreatDoor
