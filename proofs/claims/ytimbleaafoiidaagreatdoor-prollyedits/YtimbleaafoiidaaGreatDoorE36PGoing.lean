/-
  Texts joined: PGoing, PGoing2, PGoing3, PThrough, PRange, PValues, PRGo0.
-/
import Derived.Test.YtimbleaafoiidaaGreatDoorE32PPairs
import Derived.Test.YtimbleaafoiidaaGreatDoorE35PFind
import Derived.Maps.AppendAt
import Derived.Test.YtimbleaafoiidaaGreatDoorE19PRow
import Derived.Test.YtimbleaafoiidaaGreatDoorE24MChg
import Derived.Test.YtimbleaafoiidaaGreatDoorE21PRMany
/-
  Going into nodes and to their kids. Conditions: the get and whoever is told keep their words; not too much was asked.
-/
namespace Go.Proofs.YtimbleaafoiidaaGreatDoor
open Go.RowKit

theorem YieldOk.neq {σ : Type} {l : Nat} {k : Sink σ} {B : Nat} {sts : List TypeId} {J Jx : Value → σ → World → Prop} (hY : YieldOk l k B sts J Jx) {v : Value} {s : σ} {W : World} (hJ : J v s W) {b : Nat} {cs : Array Value} {t : TypeId} {fr : Nat × Nat} (h : W.heap[b]? = some (.cells cs t fr)) (ht : t ≠ 60) : some b ≠ v.ownBlock := by
  intro e
  obtain ⟨cs', fr', hq⟩ := hY.row hJ e.symm
  rw [h] at hq
  injection hq with hq
  injection hq with _ hq
  exact ht hq
theorem own_far {w : World} {B n k : Nat} {e : TypeId} {v u : Value} {xs : List Value} (h : w.ownsRow B e k v n xs) (hu : ∀ q, u.ownBlock = some q → q < B) : v.ownBlock = none ∨ v.ownBlock ≠ u.ownBlock := by
  cases hv : v.ownBlock with
  | none => exact .inl rfl
  | some q =>
    refine .inr fun hq => ?_
    have h1 := (h.lt q hv).1
    have h2 := hu q hq.symm
    omega
/-- What goInto keeps. -/
def IntoOk {σ : Type} (l : Nat) (k : Sink σ) (fd : Bs → Option Bs) (B : Nat) (sts : List TypeId) (J Jx : Value → σ → World → Prop) (I : World → List Bs → Prop) (gb : Nat) (gv : Value) (lo hi : Bs) (d : Nat) : Prop :=
  ∀ (W : World) (v : Value) (t : Tst σ) (er : Int) (n : NodeM) (vk vp : Value), J v t.s W → GoW B W gb gv (.func (.yield l) #[] #[]) lo hi t.told → I W t.asked → (er = 0 → RightM n ∧ n.1 ≤ d) →
    (∀ W', Mv B (gts sts) v.ownBlock W W' → Ls W'.heap.size W' 3 linkC vk n.2.2) → (∀ W', Mv B (gts sts) v.ownBlock W W' → Ls W'.heap.size W' 2 pairC vp n.2.1) →
    t.asked.length + d * (manyL n.2.2).toNat ≤ 1000000000 → k.cap t.s + (n.2.1.length + (manyL n.2.2).toNat) ≤ 1000000 →
    Calls Tryz.prog 62 #[.pointer (some ⟨gb, 0, none⟩), .agg #[.int .i64 n.1, vk, vp], .int .i64 er] W fun e W' => ToldSaid B sts J Jx I gb gv (.func (.yield l) #[] #[]) lo hi v W (intoT k (goT k fd lo hi d) lo hi (er, n) t) e W'
theorem eachT_nil {σ : Type} (f : Link → Tst σ → Tst σ × Bool) (lo hi : Bs) (t : Tst σ) : eachT f lo hi [] t = (t, true) := rfl
theorem eachT_skip {σ : Type} {f : Link → Tst σ → Tst σ × Bool} {lo hi : Bs} {q : Link} {r : List Link} {t : Tst σ} (h : ltB q.1 lo = true) (h2 : endM hi q.1 = false) : eachT f lo hi (q :: r) t = eachT f lo hi r t := by rw [eachT, h, h2]; rfl
theorem eachT_last {σ : Type} {f : Link → Tst σ → Tst σ × Bool} {lo hi : Bs} {q : Link} {r : List Link} {t : Tst σ} (h : ltB q.1 lo = true) (h2 : endM hi q.1 = true) : eachT f lo hi (q :: r) t = (t, true) := by rw [eachT, h, h2]; rfl
theorem eachT_stop {σ : Type} {f : Link → Tst σ → Tst σ × Bool} {lo hi : Bs} {q : Link} {r : List Link} {t : Tst σ} (h : ltB q.1 lo = false) (h3 : (f q t).2 = false) : eachT f lo hi (q :: r) t = ((f q t).1, false) := by rw [eachT, h, h3]; rfl
theorem eachT_on {σ : Type} {f : Link → Tst σ → Tst σ × Bool} {lo hi : Bs} {q : Link} {r : List Link} {t : Tst σ} (h : ltB q.1 lo = false) (h3 : (f q t).2 = true) (h2 : endM hi q.1 = false) : eachT f lo hi (q :: r) t = eachT f lo hi r (f q t).1 := by rw [eachT, h, h3, h2]; rfl
theorem eachT_end {σ : Type} {f : Link → Tst σ → Tst σ × Bool} {lo hi : Bs} {q : Link} {r : List Link} {t : Tst σ} (h : ltB q.1 lo = false) (h3 : (f q t).2 = true) (h2 : endM hi q.1 = true) : eachT f lo hi (q :: r) t = ((f q t).1, true) := by rw [eachT, h, h3, h2]; rfl
set_option maxRecDepth 20000 in
theorem goToKids_leaf (W : World) (gb : Nat) (lv : Int) (pa : Option Addr) (pm pc : Nat) (ka : Option Addr) (kc : Nat) :
    Calls Tryz.prog 89 #[.pointer (some ⟨gb, 0, none⟩), .agg #[.int .i64 lv, .slice ka 0 kc, .slice pa pm pc]] W fun e W' => e = .returned (.bool true) ∧ Below W.heap.size W W' := by
  have hb0 : Below W.heap.size W (W.alloc (.cells #[.int .i64 lv, .slice ka 0 kc, .slice pa pm pc] 83)) := (Below.refl _ _).alloc (Nat.le_refl _) _
  have HB := hide hb0
  clear hb0
  go_enter Tryz.func89, Tryz.ntmps89
  go_wp2_with fail
  go_loopw [11] (fun q wr => q = .int .i64 0 ∧ wr = W.alloc (.cells #[.int .i64 lv, .slice ka 0 kc, .slice pa pm pc] 83)) (fun _ _ => 0)
  case atStart => exact ⟨rfl, rfl⟩
  case round =>
    obtain ⟨rfl, rfl⟩ := hrel
    go_wp2
    go_ret
    exact ⟨rfl, HB.out⟩
end Go.Proofs.YtimbleaafoiidaaGreatDoor

/-
  Going to a branch's kids. Conditions: the get and whoever is told keep their words; not too much was asked.
-/
namespace Go.Proofs.YtimbleaafoiidaaGreatDoor
open Go.RowKit

set_option maxRecDepth 40000 in
set_option maxHeartbeats 6400000 in
theorem goToKids_any {σ : Type} (W : World) (l : Nat) (k : Sink σ) (g : Nat) (caps : Array Value) (fd : Bs → Option Bs) (B : Nat) (sts kts : List TypeId) (J Jx : Value → σ → World → Prop) (hY : YieldOk l k B sts J Jx) (I : World → List Bs → Prop) (hG : GetOk g caps fd B kts I) (_hkt : 60 ∈ kts ∧ 128 ∈ kts ∧ ∀ t ∈ sts, t ∈ kts)
    (gb : Nat) (lo hi : Bs) (d : Nat) (hrec : IntoOk l k fd B sts J Jx I gb (.func (.func g) #[] caps) lo hi d) (v : Value) (t : Tst σ) (hJ : J v t.s W) (hg : GoW B W gb (.func (.func g) #[] caps) (.func (.yield l) #[] #[]) lo hi t.told) (hI : I W t.asked)
    (lv : Int) (ks : List Link) (ka : Option Addr) (kc : Nat) (pa : Option Addr) (pm pc : Nat) (hlv : 1 ≤ lv) (hlv2 : lv ≤ d + 1) (hlv3 : lv ≤ 20) (hks : ∀ q ∈ ks, rlinkOk q = true) (hsure : ∀ W', Mv B (gts sts) v.ownBlock W W' → Ls W'.heap.size W' 3 linkC (.slice ka ks.length kc) ks) (hlen : ks.length ≤ 64) (hak : t.asked.length + (d + 1) * (manyL ks).toNat ≤ 1000000000) (hcap : k.cap t.s + (manyL ks).toNat ≤ 1000000) :
    Calls Tryz.prog 89 #[.pointer (some ⟨gb, 0, none⟩), .agg #[.int .i64 lv, .slice ka ks.length kc, .slice pa pm pc]] W fun e W' => ToldSaid B sts J Jx I gb (.func (.func g) #[] caps) (.func (.yield l) #[] #[]) lo hi v W (eachT (fun q u => goT k fd lo hi (d + 1) q (lv - 1) u) lo hi ks t) e W' := by
  have hB : B ≤ W.heap.size := by have := lt_of_heap hg.cell; have := hg.le; omega
  obtain ⟨R, hR⟩ : ∃ R, R = eachT (fun q u => goT k fd lo hi (d + 1) q (lv - 1) u) lo hi ks t := ⟨_, rfl⟩
  rw [← hR]
  have hb0 : Below W.heap.size W (W.alloc (.cells #[.int .i64 lv, .slice ka ks.length kc, .slice pa pm pc] 83)) := (Below.refl _ _).alloc (Nat.le_refl _) _
  have hn0 := heap_last W (.cells #[.int .i64 lv, .slice ka ks.length kc, .slice pa pm pc] 83) _ rfl
  have HS := hide hsure
  have HG := hide hG
  have HKS := hide hks
  have H0 := hide (And.intro hR (And.intro (hY.keep hJ (Mv.of hb0 hB) (KO.of hb0)) (And.intro (hg.below hb0) (And.intro (hG.below hI hb0) (And.intro ((Mv.refl B (gts sts) v.ownBlock W).more hb0 hB) (And.intro hn0 (And.intro hak hcap)))))))
  generalize hw0 : W.alloc (.cells #[.int .i64 lv, .slice ka ks.length kc, .slice pa pm pc] 83) = w0 at *
  have c1 := cell_of_row w0 W.heap.size 1 _ _ _ hn0
  simp only [List.getElem?_toArray, List.getElem?_cons_zero, List.getElem?_cons_succ] at c1
  clear hR hJ hg hI hsure hak hcap hks hb0 hn0 hG
  go_enter Tryz.func89, Tryz.ntmps89
  go_wp2_with fail
  try rw [hw0]
  go_wp2_with fail
  go_loopw [11] (fun q wr => ∃ (j' : Nat) (v3 : Value) (u3 : Tst σ), j' ≤ ks.length ∧ q = .int .i64 j' ∧ R = eachT (fun q u => goT k fd lo hi (d + 1) q (lv - 1) u) lo hi (ks.drop j') u3 ∧ J v3 u3.s wr ∧ GoW B wr gb (.func (.func g) #[] caps) (.func (.yield l) #[] #[]) lo hi u3.told ∧ I wr u3.asked ∧ Mv B (gts sts) v.ownBlock W wr ∧ Nx W v.ownBlock v3.ownBlock ∧ wr.heap[W.heap.size]? = some (.cells #[.int .i64 lv, .slice ka ks.length kc, .slice pa pm pc] 83) ∧ u3.asked.length + (d + 1) * (manyL (ks.drop j')).toNat ≤ 1000000000 ∧ k.cap u3.s + (manyL (ks.drop j')).toNat ≤ 1000000)
    (fun q _ => ks.length - (intOf q).toNat)
  case atStart => exact ⟨0, v, t, by omega, rfl, by simpa using H0.out.1, H0.out.2.1, H0.out.2.2.1, H0.out.2.2.2.1, H0.out.2.2.2.2.1, Nx.refl _ _, H0.out.2.2.2.2.2.1, by simpa using H0.out.2.2.2.2.2.2.1, by simpa using H0.out.2.2.2.2.2.2.2⟩
  case round =>
    clear H0 c1 hw0
    obtain ⟨j, v', u, hj, rfl, hRj, hJr, hgr, hIr, hMr, hNr, hnr, har, hcr⟩ := hrel
    have hBr : B ≤ wr.heap.size := Nat.le_trans hB hMr.size
    by_cases hlt : j < ks.length
    · obtain ⟨ao', cap', hvv, -, -, hc4⟩ := HS.out wr hMr
      obtain ⟨b, off, hao, hbB, hc⟩ := hc4 (by rintro rfl; simp at hlt)
      injection hvv with e1 _ e3
      subst e3
      rw [hao] at e1
      subst e1
      have d0 := hc j hlt 0 _ rfl
      have d1 := hc j hlt 1 _ rfl
      have d2 := hc j hlt 2 _ rfl
      simp only [Nat.add_zero] at d0
      have hxk := HKS.out ks[j] (by simp)
      rw [List.drop_eq_getElem_cons hlt] at hRj har hcr
      have hdk := fun q hq => HKS.out q (List.mem_of_mem_drop (i := j + 1) hq)
      generalize ks[j] = x at *
      have hxm := ((rlinkOk_iff x).1 hxk).2.2.1
      have hmr := manyL_many (ks.drop (j + 1)) hdk
      rw [manyL_cons] at har hcr
      have hsum : (x.2.2 + manyL (ks.drop (j + 1))).toNat = x.2.2.toNat + (manyL (ks.drop (j + 1))).toNat := by omega
      rw [hsum] at har hcr
      rw [Nat.mul_add] at har
      have hb1 : Below wr.heap.size wr (wr.alloc (.cells #[.string (strB x.1), .string (strB x.2.1), .int .i64 x.2.2] 66)) := (Below.refl _ _).alloc (Nat.le_refl _) _
      have hx1 := heap_last wr (.cells #[.string (strB x.1), .string (strB x.2.1), .int .i64 x.2.2] 66) _ rfl
      have hn1 := (hb1.block _ (lt_of_heap hnr)).trans hnr
      have hg1 := hgr.below hb1
      have hJ1 := hY.keep hJr (Mv.of hb1 hBr) (KO.of hb1)
      have hI1 := HG.out.below hIr hb1
      have hM1 := hMr.more hb1 hBr
      have hs1 : B ≤ (wr.alloc (.cells #[.string (strB x.1), .string (strB x.2.1), .int .i64 x.2.2] 66)).heap.size := Nat.le_trans hBr hb1.size
      generalize hw1 : wr.alloc (.cells #[.string (strB x.1), .string (strB x.2.1), .int .i64 x.2.2] 66) = w1 at *
      have g0 := cell_of_row w1 gb 0 _ _ _ hg1.cell
      have g1 := cell_of_row w1 gb 1 _ _ _ hg1.cell
      have g2 := cell_of_row w1 gb 2 _ _ _ hg1.cell
      have p0 := cell_of_row w1 wr.heap.size 0 _ _ _ hx1
      have p1 := cell_of_row w1 wr.heap.size 1 _ _ _ hx1
      have p2 := cell_of_row w1 wr.heap.size 2 _ _ _ hx1
      have n0 := cell_of_row w1 W.heap.size 0 _ _ _ hn1
      simp only [List.getElem?_toArray, List.getElem?_cons_zero, List.getElem?_cons_succ] at g0 g1 g2 p0 p1 p2 n0
      have H1 := hide (And.intro hx1 (And.intro hn1 (And.intro hg1 (And.intro hJ1 (And.intro hI1 hM1)))))
      have HRJ := hide hRj
      have HAC := hide (And.intro har (And.intro hcr (And.intro hxm hxk)))
      have hnext : ∀ (v2 : Value) (u2 : Tst σ) (W2 : World), R = eachT (fun q u => goT k fd lo hi (d + 1) q (lv - 1) u) lo hi (ks.drop (j + 1)) u2 → J v2 u2.s W2 → GoW B W2 gb (.func (.func g) #[] caps) (.func (.yield l) #[] #[]) lo hi u2.told → I W2 u2.asked → Mv B (gts sts) v.ownBlock W W2 → Nx W v.ownBlock v2.ownBlock → W2.heap[W.heap.size]? = some (.cells #[.int .i64 lv, .slice (some ⟨b, off, none⟩) ks.length kc, .slice pa pm pc] 83) → u2.asked.length + (d + 1) * (manyL (ks.drop (j + 1))).toNat ≤ 1000000000 → k.cap u2.s + (manyL (ks.drop (j + 1))).toNat ≤ 1000000 → ∃ (j' : Nat) (v3 : Value) (u3 : Tst σ), j' ≤ ks.length ∧ (Value.int .i64 ((j : Int) + 1)) = .int .i64 j' ∧ R = eachT (fun q u => goT k fd lo hi (d + 1) q (lv - 1) u) lo hi (ks.drop j') u3 ∧ J v3 u3.s W2 ∧ GoW B W2 gb (.func (.func g) #[] caps) (.func (.yield l) #[] #[]) lo hi u3.told ∧ I W2 u3.asked ∧ Mv B (gts sts) v.ownBlock W W2 ∧ Nx W v.ownBlock v3.ownBlock ∧ W2.heap[W.heap.size]? = some (.cells #[.int .i64 lv, .slice (some ⟨b, off, none⟩) ks.length kc, .slice pa pm pc] 83) ∧ u3.asked.length + (d + 1) * (manyL (ks.drop j')).toNat ≤ 1000000000 ∧ k.cap u3.s + (manyL (ks.drop j')).toNat ≤ 1000000 := fun v2 u2 W2 h1 h2 h3 h4 h5 h6 h7 h8 h9 => ⟨j + 1, v2, u2, by omega, by simp, h1, h2, h3, h4, h5, h6, h7, h8, h9⟩
      have HNX := hide hnext
      clear hnext hJr hgr hIr hMr hnr hc hc4 hb1 hx1 hn1 hg1 hJ1 hI1 hM1 hRj har hcr hxm hxk hdk hmr hsum hao
      have hbg := begunAt_any w1.drew lo hi x.1
      have hwl : IntKind.i64.wrap (lv - 1) = lv - 1 := by rw [IntKind.wrap_i64]; omega
      cases hlo : ltB x.1 lo with
      | true =>
        rw [hlo] at hbg
        simp only [Bool.not_true] at hbg
        go_wp2_with fail
        refine wp_region_held_drew (S := fun Z => Z.cell? ⟨gb, 0, none⟩ = some (.func (.func g) #[] caps) ∧ Z.cell? ⟨gb, 1, none⟩ = some (.string (strB lo)) ∧ Z.cell? ⟨gb, 2, none⟩ = some (.string (strB hi)) ∧ Z.cell? ⟨wr.heap.size, 0, none⟩ = some (.string (strB x.1)) ∧ Z.cell? ⟨wr.heap.size, 1, none⟩ = some (.string (strB x.2.1)) ∧ Z.cell? ⟨wr.heap.size, 2, none⟩ = some (.int .i64 x.2.2) ∧ Z.cell? ⟨W.heap.size, 0, none⟩ = some (.int .i64 lv)) (by kernel_rfl) (⟨g0, g1, g2, p0, p1, p2, n0⟩) (fun hHeld => ?_)
        refine takeK 0 hHeld ?_
        refine takeK 1 hHeld ?_
        refine takeK 2 hHeld ?_
        refine takeK 3 hHeld ?_
        refine takeK 4 hHeld ?_
        refine takeK 5 hHeld ?_
        refine onlyH (i := 6) rfl (by kernel_rfl) rfl (fun K hK => ?_)
        go_simp
        refine hbg.mono ?_
        rintro e w2 ⟨rfl, hb2⟩
        have hb2' : Below w1.heap.size w1 w2 := (Below.refl _ _).drew.trans hb2
        have hx2 := (hb2'.block _ (lt_of_heap H1.out.1)).trans H1.out.1
        have hn2 := (hb2'.block _ (lt_of_heap H1.out.2.1)).trans H1.out.2.1
        have hg2 := H1.out.2.2.1.below hb2'
        clear g0 g1 g2 p0 p1 p2 n0
        have g0 := cell_of_row w2 gb 0 _ _ _ hg2.cell
        have g1 := cell_of_row w2 gb 1 _ _ _ hg2.cell
        have g2 := cell_of_row w2 gb 2 _ _ _ hg2.cell
        have p0 := cell_of_row w2 wr.heap.size 0 _ _ _ hx2
        have p1 := cell_of_row w2 wr.heap.size 1 _ _ _ hx2
        have p2 := cell_of_row w2 wr.heap.size 2 _ _ _ hx2
        have n0 := cell_of_row w2 W.heap.size 0 _ _ _ hn2
        simp only [List.getElem?_toArray, List.getElem?_cons_zero, List.getElem?_cons_succ] at g0 g1 g2 p0 p1 p2 n0
        have H2 := hide (And.intro hx2 (And.intro hn2 (And.intro hg2 (And.intro (hY.keep H1.out.2.2.2.1 (Mv.of hb2' hs1) (KO.of hb2')) (And.intro (HG.out.below H1.out.2.2.2.2.1 hb2') (And.intro (H1.out.2.2.2.2.2.more hb2' hs1) (And.intro hNr (show u.asked.length + (d + 1) * (manyL (ks.drop (j + 1))).toNat ≤ 1000000000 ∧ k.cap u.s + (manyL (ks.drop (j + 1))).toNat ≤ 1000000 from ⟨by have := HAC.out.1; omega, by have := HAC.out.2.1; omega⟩))))))))
        clear hb2 hb2' hx2 hn2 hg2 hbg
        refine hK.out _ _ (⟨g0, g1, g2, p0, p1, p2, n0⟩) (fun hHeld => ?_)
        clear hK K
        try simp only [Act.put, List.setIfInBounds_toArray, List.set_cons_zero, List.set_cons_succ]
        refine takeK 7 hHeld ?_
        refine skipK 8 hHeld ?_
        refine skipK 9 hHeld ?_
        refine skipK 10 hHeld ?_
        refine skipK 11 hHeld ?_
        refine skipK 12 hHeld ?_
        refine skipK 13 hHeld ?_
        refine skipK 14 hHeld ?_
        refine skipK 15 hHeld ?_
        refine skipK 16 hHeld ?_
        refine skipK 17 hHeld ?_
        refine skipK 18 hHeld ?_
        refine skipK 19 hHeld ?_
        refine skipK 20 hHeld ?_
        refine skipK 21 hHeld ?_
        refine skipK 22 hHeld ?_
        refine takeK 23 hHeld ?_
        refine wpAnyH_done (by kernel_rfl) ?_ _
        clear hHeld g0 g1 g2 p0 p1 p2 n0
        have e1 := cell_of_row w2 gb 1 _ _ _ H2.out.2.2.1.cell
        have e2 := cell_of_row w2 gb 2 _ _ _ H2.out.2.2.1.cell
        have e3 := cell_of_row w2 wr.heap.size 0 _ _ _ H2.out.1
        simp only [List.getElem?_toArray, List.getElem?_cons_zero, List.getElem?_cons_succ] at e1 e2 e3
        have hen := endedAt_any w2.drew lo hi x.1
        go_wp2_with fail
        refine wp_region_held_drew (S := fun Z => Z.cell? ⟨gb, 1, none⟩ = some (.string (strB lo)) ∧ Z.cell? ⟨gb, 2, none⟩ = some (.string (strB hi)) ∧ Z.cell? ⟨wr.heap.size, 0, none⟩ = some (.string (strB x.1))) (by kernel_rfl) (⟨e1, e2, e3⟩) (fun hHeld => ?_)
        refine takeK 0 hHeld ?_
        refine takeK 1 hHeld ?_
        refine takeK 2 hHeld ?_
        refine takeK 3 hHeld ?_
        refine takeK 4 hHeld ?_
        refine takeK 5 hHeld ?_
        refine onlyH (i := 6) rfl (by kernel_rfl) rfl (fun K hK => ?_)
        go_simp
        refine hen.mono ?_
        rintro e w8 ⟨rfl, hb8⟩
        have hb8' : Below w2.heap.size w2 w8 := (Below.refl _ _).drew.trans hb8
        have hBZ : B ≤ w2.heap.size := Nat.le_trans hB H2.out.2.2.2.2.2.1.size
        have hx8 := (hb8'.block _ (lt_of_heap H2.out.1)).trans H2.out.1
        have hn8 := (hb8'.block _ (lt_of_heap H2.out.2.1)).trans H2.out.2.1
        have hg8 := H2.out.2.2.1.below hb8'
        have H8 := hide (And.intro hn8 (And.intro hg8 (And.intro (hY.keep H2.out.2.2.2.1 (Mv.of hb8' hBZ) (KO.of hb8')) (And.intro (HG.out.below H2.out.2.2.2.2.1 hb8') (H2.out.2.2.2.2.2.1.more hb8' hBZ)))))
        have e1 := cell_of_row w8 gb 1 _ _ _ hg8.cell
        have e2 := cell_of_row w8 gb 2 _ _ _ hg8.cell
        have e3 := cell_of_row w8 wr.heap.size 0 _ _ _ hx8
        simp only [List.getElem?_toArray, List.getElem?_cons_zero, List.getElem?_cons_succ] at e1 e2 e3
        clear hb8 hb8' hx8 hn8 hg8 hen
        refine hK.out _ _ (⟨e1, e2, e3⟩) (fun hHeld => ?_)
        clear hK K
        try simp only [Act.put, List.setIfInBounds_toArray, List.set_cons_zero, List.set_cons_succ]
        refine wpAnyH_done (by kernel_rfl) ?_ _
        clear hHeld e1 e2 e3
        cases hed : endM hi x.1 with
        | true =>
          have HRB := hide (show R = (u, true) from HRJ.out.trans (eachT_last hlo hed))
          go_wp2
          go_ret
          rw [HRB.out]
          exact ⟨rfl, v', fun _ => H8.out.2.2.1, fun h => (by cases h), H8.out.2.1, H8.out.2.2.2.1, H8.out.2.2.2.2, H2.out.2.2.2.2.2.2.1⟩
        | false =>
          have HREL := hide (HNX.out v' u w8 (HRJ.out.trans (eachT_skip hlo hed)) H8.out.2.2.1 H8.out.2.1 H8.out.2.2.2.1 H8.out.2.2.2.2 H2.out.2.2.2.2.2.2.1 H8.out.1 H2.out.2.2.2.2.2.2.2.1 H2.out.2.2.2.2.2.2.2.2)
          go_wp2
          go_roundw
          case rel => exact HREL.out
          case measure => simp [intOf]; omega
      | false =>
        rw [hlo] at hbg
        simp only [Bool.not_false] at hbg
        go_wp2_with fail
        refine wp_region_held_drew (S := fun Z => Z.cell? ⟨gb, 0, none⟩ = some (.func (.func g) #[] caps) ∧ Z.cell? ⟨gb, 1, none⟩ = some (.string (strB lo)) ∧ Z.cell? ⟨gb, 2, none⟩ = some (.string (strB hi)) ∧ Z.cell? ⟨wr.heap.size, 0, none⟩ = some (.string (strB x.1)) ∧ Z.cell? ⟨wr.heap.size, 1, none⟩ = some (.string (strB x.2.1)) ∧ Z.cell? ⟨wr.heap.size, 2, none⟩ = some (.int .i64 x.2.2) ∧ Z.cell? ⟨W.heap.size, 0, none⟩ = some (.int .i64 lv)) (by kernel_rfl) (⟨g0, g1, g2, p0, p1, p2, n0⟩) (fun hHeld => ?_)
        refine takeK 0 hHeld ?_
        refine takeK 1 hHeld ?_
        refine takeK 2 hHeld ?_
        refine takeK 3 hHeld ?_
        refine takeK 4 hHeld ?_
        refine takeK 5 hHeld ?_
        refine onlyH (i := 6) rfl (by kernel_rfl) rfl (fun K hK => ?_)
        go_simp
        refine hbg.mono ?_
        rintro e w2 ⟨rfl, hb2⟩
        have hb2' : Below w1.heap.size w1 w2 := (Below.refl _ _).drew.trans hb2
        have hx2 := (hb2'.block _ (lt_of_heap H1.out.1)).trans H1.out.1
        have hn2 := (hb2'.block _ (lt_of_heap H1.out.2.1)).trans H1.out.2.1
        have hg2 := H1.out.2.2.1.below hb2'
        have hJ2 := hY.keep H1.out.2.2.2.1 (Mv.of hb2' hs1) (KO.of hb2')
        have hI2 := HG.out.below H1.out.2.2.2.2.1 hb2'
        have hM2 := H1.out.2.2.2.2.2.more hb2' hs1
        have hs2 : B ≤ w2.heap.size := Nat.le_trans hs1 hb2'.size
        clear g0 g1 g2 p0 p1 p2 n0
        have g0 := cell_of_row w2 gb 0 _ _ _ hg2.cell
        have g1 := cell_of_row w2 gb 1 _ _ _ hg2.cell
        have g2 := cell_of_row w2 gb 2 _ _ _ hg2.cell
        have p0 := cell_of_row w2 wr.heap.size 0 _ _ _ hx2
        have p1 := cell_of_row w2 wr.heap.size 1 _ _ _ hx2
        have p2 := cell_of_row w2 wr.heap.size 2 _ _ _ hx2
        have n0 := cell_of_row w2 W.heap.size 0 _ _ _ hn2
        simp only [List.getElem?_toArray, List.getElem?_cons_zero, List.getElem?_cons_succ] at g0 g1 g2 p0 p1 p2 n0
        have hak := askKid_any w2 g caps fd B kts I HG.out x (lv - 1) HAC.out.2.2.2 (by omega) (by omega) u.asked hI2 (by have := HAC.out.1; omega)
        have hok := fun h => askM_ok (fd := fd) (k := x) (level := lv - 1) HG.out.short h
        have hgo : goT k fd lo hi (d + 1) x (lv - 1) u = intoT k (goT k fd lo hi d) lo hi (askM fd x (lv - 1)) ⟨u.asked ++ [x.2.1], u.told, u.s⟩ := rfl
        obtain ⟨er, n, hern⟩ : ∃ er n, askM fd x (lv - 1) = (er, n) := ⟨_, _, rfl⟩
        have hze := fun h => askM_zero (fd := fd) (k := x) (level := lv - 1) h
        rw [hern] at hak hok hgo hze
        unfold nodeIs at hak
        simp only at hak hok hze
        have hgr := goT_grows (k := k) fd HG.out.short lo hi (d + 1) x (lv - 1) u HAC.out.2.2.2 (by omega) (by omega)
        rw [hgo] at hgr
        have H2 := hide (And.intro hx2 (And.intro hn2 (And.intro hg2 (And.intro hJ2 (And.intro hI2 hM2)))))
        have HGO := hide (And.intro hgo (And.intro hgr (And.intro hok hze)))
        clear hb2 hb2' hx2 hn2 hg2 hJ2 hI2 hM2 hbg hgo hgr hok hze hern
        refine hK.out _ _ (⟨g0, g1, g2, p0, p1, p2, n0⟩) (fun hHeld => ?_)
        clear hK K
        try simp only [Act.put, List.setIfInBounds_toArray, List.set_cons_zero, List.set_cons_succ]
        refine takeK 7 hHeld ?_
        refine takeK 8 hHeld ?_
        refine takeK 9 hHeld ?_
        refine takeK 10 hHeld ?_
        refine takeK 11 hHeld ?_
        refine takeK 12 hHeld ?_
        refine takeK 13 hHeld ?_
        refine takeK 14 hHeld ?_
        refine takeK 15 hHeld ?_
        refine takeK 16 hHeld ?_
        refine takeK 17 hHeld ?_
        refine onlyH (i := 18) rfl (by kernel_rfl) rfl (fun K hK => ?_)
        go_simp
        refine hak.mono ?_
        rintro e w3 ⟨⟨vk, vp, rfl, hrk, hrp⟩, hI3, hm3, hko3⟩
        have hx3 := hm3.k _ _ _ _ H2.out.1 (by decide) (by simp)
        have hn3 := hm3.k _ _ _ _ H2.out.2.1 (by decide) (by simp)
        have hg3 := H2.out.2.2.1.mv hm3 (by decide) (by simp)
        have hJ3 := hY.keep H2.out.2.2.2.1 (hm3.types (by decide)) hko3
        have hM3 : Mv B (gts sts) v.ownBlock W w3 := H2.out.2.2.2.2.2.trans ((hm3.types (ts' := gts sts) (by intro t ht; exact jts_sub sts t (by revert ht; revert t; decide))).none (r := v.ownBlock)) (Nx.refl _ _)
        have hs3 : B ≤ w3.heap.size := Nat.le_trans hs2 hm3.size
        have hvlt : ∀ q, v'.ownBlock = some q → q < w2.heap.size := fun q hq => by obtain ⟨cs, fr, h⟩ := hY.row H2.out.2.2.2.1 hq; exact lt_of_heap h
        have hsk : ∀ W', Mv B (gts sts) v'.ownBlock w3 W' → Ls W'.heap.size W' 3 linkC vk n.2.2 := fun W' h => ls_of_own linkC_length (h.own hrk (by have := hY.apart; simp [this.2.2.1]) (own_far hrk hvlt))
        have hsp : ∀ W', Mv B (gts sts) v'.ownBlock w3 W' → Ls W'.heap.size W' 2 pairC vp n.2.1 := fun W' h => ls_of_own pairC_length (h.own hrp (by have := hY.apart; simp [this.2.1]) (own_far hrp hvlt))
        clear g0 g1 g2 p0 p1 p2 n0
        have g0 := cell_of_row w3 gb 0 _ _ _ hg3.cell
        have g1 := cell_of_row w3 gb 1 _ _ _ hg3.cell
        have g2 := cell_of_row w3 gb 2 _ _ _ hg3.cell
        have p0 := cell_of_row w3 wr.heap.size 0 _ _ _ hx3
        have p1 := cell_of_row w3 wr.heap.size 1 _ _ _ hx3
        have p2 := cell_of_row w3 wr.heap.size 2 _ _ _ hx3
        have n0 := cell_of_row w3 W.heap.size 0 _ _ _ hn3
        simp only [List.getElem?_toArray, List.getElem?_cons_zero, List.getElem?_cons_succ] at g0 g1 g2 p0 p1 p2 n0
        have hbn : n.2.1.length + (manyL n.2.2).toNat ≤ x.2.2.toNat ∧ d * (manyL n.2.2).toNat ≤ d * x.2.2.toNat := by
          by_cases he : er = 0
          · obtain ⟨q1, q2⟩ := HGO.out.2.2.1 he
            rcases q2 with q2 | q2
            · omega
            · have q3 := (fitsM_count q2).2
              unfold countM at q3
              have q4 := manyL_many n.2.2 q1.links.2.1
              have q5 : (manyL n.2.2).toNat ≤ x.2.2.toNat := by omega
              exact ⟨by omega, Nat.mul_le_mul_left _ q5⟩
          · rw [HGO.out.2.2.2 he]
            simp [manyL]
        have hd1 : (d + 1) * x.2.2.toNat = d * x.2.2.toNat + x.2.2.toNat := by rw [Nat.add_mul]; simp
        have hre := hrec w3 v' ⟨u.asked ++ [x.2.1], u.told, u.s⟩ er n vk vp hJ3 hg3 hI3 (fun he => by
          obtain ⟨q1, q2⟩ := HGO.out.2.2.1 he
          rcases q2 with q2 | q2
          · omega
          · exact ⟨q1, by rw [(fitsM_count q2).1]; omega⟩) hsk hsp (by have := HAC.out.1; have := HAC.out.2.2.1; simp only [List.length_append, List.length_singleton]; omega) (by have := HAC.out.2.1; simp only; omega)
        obtain ⟨r2, hr2⟩ : ∃ r2, r2 = intoT k (goT k fd lo hi d) lo hi (er, n) ⟨u.asked ++ [x.2.1], u.told, u.s⟩ := ⟨_, rfl⟩
        rw [← hr2] at hre
        have HR2 := hide hr2
        have H3 := hide (And.intro hx3 (And.intro hn3 (And.intro hJ3 hM3)))
        obtain ⟨ka', km', kc', rfl⟩ := row_form hrk
        obtain ⟨pa', pm', pc', rfl⟩ := row_form hrp
        clear hko3 hrk hrp hI3 hm3 hx3 hn3 hg3 hJ3 hM3 hvlt hsk hsp hak hbn hd1 hr2
        unfold ToldSaid at hre
        refine hK.out _ _ (⟨g0, g1, g2, p0, p1, p2, n0⟩) (fun hHeld => ?_)
        clear hK K
        try simp only [Act.put, List.setIfInBounds_toArray, List.set_cons_zero, List.set_cons_succ]
        refine takeK 19 hHeld ?_
        refine takeK 20 hHeld ?_
        refine onlyH (i := 21) rfl (by kernel_rfl) rfl (fun K hK => ?_)
        go_simp
        refine hre.mono ?_
        rintro e w5 ⟨rfl, v5, hJ5, hJx5, hg5, hI5, hm5, hN5⟩
        have hx5 := hm5.k _ _ _ _ H3.out.1 (by have := hY.apart; simp [this.2.2.1]) (hY.neq H3.out.2.2.1 H3.out.1 (by decide))
        have hn5 := hm5.k _ _ _ _ H3.out.2.1 (by have := hY.apart; simp [this.2.2.2]) (hY.neq H3.out.2.2.1 H3.out.2.1 (by decide))
        have hM5 : Mv B (gts sts) v.ownBlock W w5 := H3.out.2.2.2.trans hm5 hNr
        have hNN : Nx W v.ownBlock v5.ownBlock := hNr.trans hN5 (by have := H3.out.2.2.2.size; exact this)
        clear g0 g1 g2 p0 p1 p2 n0
        have g0 := cell_of_row w5 gb 0 _ _ _ hg5.cell
        have g1 := cell_of_row w5 gb 1 _ _ _ hg5.cell
        have g2 := cell_of_row w5 gb 2 _ _ _ hg5.cell
        have p0 := cell_of_row w5 wr.heap.size 0 _ _ _ hx5
        have p1 := cell_of_row w5 wr.heap.size 1 _ _ _ hx5
        have p2 := cell_of_row w5 wr.heap.size 2 _ _ _ hx5
        have n0 := cell_of_row w5 W.heap.size 0 _ _ _ hn5
        simp only [List.getElem?_toArray, List.getElem?_cons_zero, List.getElem?_cons_succ] at g0 g1 g2 p0 p1 p2 n0
        clear hre
        refine hK.out _ _ (⟨g0, g1, g2, p0, p1, p2, n0⟩) (fun hHeld => ?_)
        clear hK K
        try simp only [Act.put, List.setIfInBounds_toArray, List.set_cons_zero, List.set_cons_succ]
        cases hfl : r2.2 with
        | false =>
          refine takeK 22 hHeld ?_
          refine takeK 23 hHeld ?_
          refine wpAnyH_done (by kernel_rfl) ?_ _
          clear hHeld g0 g1 g2 p0 p1 p2 n0
          have hrq : goT k fd lo hi (d + 1) x (lv - 1) u = r2 := by rw [HGO.out.1, HR2.out]
          have HRB := hide (HRJ.out.trans (eachT_stop (f := fun q u => goT k fd lo hi (d + 1) q (lv - 1) u) hlo (by simp only [hrq, hfl])))
          have HF := hide (And.intro (hJx5 hfl) (And.intro hg5 (And.intro hI5 (And.intro hM5 (And.intro hNN hrq)))))
          clear hJ5 hJx5 hg5 hI5 hm5 hN5 hx5 hn5 hM5 hNN hrq
          go_wp2
          go_ret
          rw [HRB.out]
          simp only [HF.out.2.2.2.2.2]
          exact ⟨rfl, v5, fun h => (by cases h), fun _ => HF.out.1, HF.out.2.1, HF.out.2.2.1, HF.out.2.2.2.1, HF.out.2.2.2.2.1⟩
        | true =>
          refine takeK 22 hHeld ?_
          refine takeK 23 hHeld ?_
          refine wpAnyH_done (by kernel_rfl) ?_ _
          clear hHeld g0 g1 g2 p0 p1 p2 n0
          have hrq : goT k fd lo hi (d + 1) x (lv - 1) u = r2 := by rw [HGO.out.1, HR2.out]
          have HRQ := hide (And.intro hrq hfl)
          have hgw := HGO.out.2.1
          rw [← HR2.out] at hgw
          have H5 := hide (And.intro hx5 (And.intro hn5 (And.intro hg5 (And.intro (hJ5 hfl) (And.intro hI5 (And.intro hM5 (And.intro hNN (show r2.1.asked.length + (d + 1) * (manyL (ks.drop (j + 1))).toNat ≤ 1000000000 ∧ k.cap r2.1.s + (manyL (ks.drop (j + 1))).toNat ≤ 1000000 from ⟨by have := HAC.out.1; have := hgw.1; omega, by have := HAC.out.2.1; have := hgw.2; omega⟩))))))))
          clear hJ5 hJx5 hg5 hI5 hm5 hN5 hx5 hn5 hM5 hNN hrq hgw hfl
          have e1 := cell_of_row w5 gb 1 _ _ _ H5.out.2.2.1.cell
          have e2 := cell_of_row w5 gb 2 _ _ _ H5.out.2.2.1.cell
          have e3 := cell_of_row w5 wr.heap.size 0 _ _ _ H5.out.1
          simp only [List.getElem?_toArray, List.getElem?_cons_zero, List.getElem?_cons_succ] at e1 e2 e3
          have hen := endedAt_any w5.drew lo hi x.1
          go_wp2_with fail
          refine wp_region_held_drew (S := fun Z => Z.cell? ⟨gb, 1, none⟩ = some (.string (strB lo)) ∧ Z.cell? ⟨gb, 2, none⟩ = some (.string (strB hi)) ∧ Z.cell? ⟨wr.heap.size, 0, none⟩ = some (.string (strB x.1))) (by kernel_rfl) (⟨e1, e2, e3⟩) (fun hHeld => ?_)
          refine takeK 0 hHeld ?_
          refine takeK 1 hHeld ?_
          refine takeK 2 hHeld ?_
          refine takeK 3 hHeld ?_
          refine takeK 4 hHeld ?_
          refine takeK 5 hHeld ?_
          refine onlyH (i := 6) rfl (by kernel_rfl) rfl (fun K hK => ?_)
          go_simp
          refine hen.mono ?_
          rintro e w8 ⟨rfl, hb8⟩
          have hb8' : Below w5.heap.size w5 w8 := (Below.refl _ _).drew.trans hb8
          have hBZ : B ≤ w5.heap.size := Nat.le_trans hB H5.out.2.2.2.2.2.1.size
          have hx8 := (hb8'.block _ (lt_of_heap H5.out.1)).trans H5.out.1
          have hn8 := (hb8'.block _ (lt_of_heap H5.out.2.1)).trans H5.out.2.1
          have hg8 := H5.out.2.2.1.below hb8'
          have H8 := hide (And.intro hn8 (And.intro hg8 (And.intro (hY.keep H5.out.2.2.2.1 (Mv.of hb8' hBZ) (KO.of hb8')) (And.intro (HG.out.below H5.out.2.2.2.2.1 hb8') (H5.out.2.2.2.2.2.1.more hb8' hBZ)))))
          have e1 := cell_of_row w8 gb 1 _ _ _ hg8.cell
          have e2 := cell_of_row w8 gb 2 _ _ _ hg8.cell
          have e3 := cell_of_row w8 wr.heap.size 0 _ _ _ hx8
          simp only [List.getElem?_toArray, List.getElem?_cons_zero, List.getElem?_cons_succ] at e1 e2 e3
          clear hb8 hb8' hx8 hn8 hg8 hen
          refine hK.out _ _ (⟨e1, e2, e3⟩) (fun hHeld => ?_)
          clear hK K
          try simp only [Act.put, List.setIfInBounds_toArray, List.set_cons_zero, List.set_cons_succ]
          refine wpAnyH_done (by kernel_rfl) ?_ _
          clear hHeld e1 e2 e3
          cases hed : endM hi x.1 with
          | true =>
            have HRB := hide (show R = (r2.1, true) from HRJ.out.trans ((eachT_end (f := fun q u => goT k fd lo hi (d + 1) q (lv - 1) u) hlo (by simp only [HRQ.out.1, HRQ.out.2]) hed).trans (by simp only [HRQ.out.1])))
            go_wp2
            go_ret
            rw [HRB.out]
            exact ⟨rfl, v5, fun _ => H8.out.2.2.1, fun h => (by cases h), H8.out.2.1, H8.out.2.2.2.1, H8.out.2.2.2.2, H5.out.2.2.2.2.2.2.1⟩
          | false =>
            have HREL := hide (HNX.out v5 r2.1 w8 (HRJ.out.trans ((eachT_on (f := fun q u => goT k fd lo hi (d + 1) q (lv - 1) u) hlo (by simp only [HRQ.out.1, HRQ.out.2]) hed).trans (by simp only [HRQ.out.1]))) H8.out.2.2.1 H8.out.2.1 H8.out.2.2.2.1 H8.out.2.2.2.2 H5.out.2.2.2.2.2.2.1 H8.out.1 H5.out.2.2.2.2.2.2.2.1 H5.out.2.2.2.2.2.2.2.2)
            go_wp2
            go_roundw
            case rel => exact HREL.out
            case measure => simp [intOf]; omega
    · obtain rfl : j = ks.length := by omega
      rw [List.drop_length, eachT_nil] at hRj
      have HF := hide (And.intro hRj (And.intro hJr (And.intro hgr (And.intro hIr (And.intro hMr hNr)))))
      clear hRj hJr hgr hIr hMr hNr
      go_wp2
      go_ret
      rw [HF.out.1]
      exact ⟨rfl, v', fun _ => HF.out.2.1, fun h => (by cases h), HF.out.2.2.1, HF.out.2.2.2.1, HF.out.2.2.2.2.1, HF.out.2.2.2.2.2⟩
end Go.Proofs.YtimbleaafoiidaaGreatDoor

/-
  Going into nodes, all levels; going through a map. Conditions: the get and whoever is told keep their words; not too much was asked.
-/
namespace Go.Proofs.YtimbleaafoiidaaGreatDoor
open Go.RowKit

theorem intoT_err {σ : Type} {k : Sink σ} {f : Link → Int → Tst σ → Tst σ × Bool} {lo hi : Bs} {er : Int} {n : NodeM} {t : Tst σ} (h : er ≠ 0) : intoT k f lo hi (er, n) t = (⟨t.asked, t.told, k.er t.s er⟩, false) := by unfold intoT; rw [if_pos h]
theorem intoT_stop {σ : Type} {k : Sink σ} {f : Link → Int → Tst σ → Tst σ × Bool} {lo hi : Bs} {er : Int} {n : NodeM} {t : Tst σ} (h : er = 0) (h2 : (tellT k lo hi n.2.1 t).2 = false) : intoT k f lo hi (er, n) t = ((tellT k lo hi n.2.1 t).1, false) := by unfold intoT; rw [if_neg (by rw [h]; simp), h2]; rfl
theorem intoT_on {σ : Type} {k : Sink σ} {f : Link → Int → Tst σ → Tst σ × Bool} {lo hi : Bs} {er : Int} {n : NodeM} {t : Tst σ} (h : er = 0) (h2 : (tellT k lo hi n.2.1 t).2 = true) : intoT k f lo hi (er, n) t = eachT (fun q u => f q (n.1 - 1) u) lo hi n.2.2 (tellT k lo hi n.2.1 t).1 := by unfold intoT; rw [if_neg (by rw [h]; simp), h2]; rfl
/-- What goToKids keeps. -/
def KidsOk {σ : Type} (l : Nat) (k : Sink σ) (fd : Bs → Option Bs) (B : Nat) (sts : List TypeId) (J Jx : Value → σ → World → Prop) (I : World → List Bs → Prop) (gb : Nat) (gv : Value) (lo hi : Bs) (d : Nat) : Prop :=
  ∀ (W : World) (v : Value) (t : Tst σ) (n : NodeM) (vk vp : Value), J v t.s W → GoW B W gb gv (.func (.yield l) #[] #[]) lo hi t.told → I W t.asked → RightM n → n.1 ≤ d →
    (∀ W', Mv B (gts sts) v.ownBlock W W' → Ls W'.heap.size W' 3 linkC vk n.2.2) → (∃ a m c, vp = .slice a m c) →
    t.asked.length + d * (manyL n.2.2).toNat ≤ 1000000000 → k.cap t.s + (manyL n.2.2).toNat ≤ 1000000 →
    Calls Tryz.prog 89 #[.pointer (some ⟨gb, 0, none⟩), .agg #[.int .i64 n.1, vk, vp]] W fun e W' => ToldSaid B sts J Jx I gb gv (.func (.yield l) #[] #[]) lo hi v W (eachT (fun q u => goT k fd lo hi d q (n.1 - 1) u) lo hi n.2.2 t) e W'
theorem kids_leaf {σ : Type} {l : Nat} {k : Sink σ} {g : Nat} {caps : Array Value} {fd : Bs → Option Bs} {B : Nat} {sts kts : List TypeId} {J Jx : Value → σ → World → Prop} (hY : YieldOk l k B sts J Jx) {I : World → List Bs → Prop} (hG : GetOk g caps fd B kts I) {gb : Nat} {gv : Value} {lo hi : Bs} {f : Link → Tst σ → Tst σ × Bool} (W : World) (v : Value) (t : Tst σ) (n : NodeM) (vk vp : Value) (hJ : J v t.s W) (hg : GoW B W gb gv (.func (.yield l) #[] #[]) lo hi t.told) (hI : I W t.asked) (hn : n.2.2 = []) (hsk : Ls W.heap.size W 3 linkC vk n.2.2) (hvp : ∃ a m c, vp = .slice a m c) :
    Calls Tryz.prog 89 #[.pointer (some ⟨gb, 0, none⟩), .agg #[.int .i64 n.1, vk, vp]] W fun e W' => ToldSaid B sts J Jx I gb gv (.func (.yield l) #[] #[]) lo hi v W (eachT f lo hi n.2.2 t) e W' := by
  have hB : B ≤ W.heap.size := by have := lt_of_heap hg.cell; have := hg.le; omega
  obtain ⟨pa, pm, pc, rfl⟩ := hvp
  obtain ⟨ka, kc, rfl, -⟩ := ls_none hsk
  rw [hn]
  refine (goToKids_leaf W gb n.1 pa pm pc ka kc).mono ?_
  rintro e w1 ⟨rfl, hb⟩
  exact ⟨rfl, v, fun _ => hY.keep hJ (Mv.of hb hB) (KO.of hb), fun h => (by cases h), hg.below hb, hG.below hI hb, (Mv.refl B (gts sts) v.ownBlock W).more hb hB, Nx.refl _ _⟩
set_option maxRecDepth 40000 in
set_option maxHeartbeats 3200000 in
theorem into_of_kids {σ : Type} (l : Nat) (k : Sink σ) (g : Nat) (caps : Array Value) (fd : Bs → Option Bs) (B : Nat) (sts kts : List TypeId) (J Jx : Value → σ → World → Prop) (hY : YieldOk l k B sts J Jx) (I : World → List Bs → Prop) (hG : GetOk g caps fd B kts I) (hkt : 60 ∈ kts ∧ 128 ∈ kts ∧ ∀ t ∈ sts, t ∈ kts) (gb : Nat) (lo hi : Bs) (d : Nat) (hk : KidsOk l k fd B sts J Jx I gb (.func (.func g) #[] caps) lo hi d) : IntoOk l k fd B sts J Jx I gb (.func (.func g) #[] caps) lo hi d := by
  intro W v t er n vk vp hJ hg hI hr hsk hsp hak hcap
  have hB : B ≤ W.heap.size := by have := lt_of_heap hg.cell; have := hg.le; omega
  obtain ⟨R, hR⟩ : ∃ R, R = intoT k (goT k fd lo hi d) lo hi (er, n) t := ⟨_, rfl⟩
  rw [← hR]
  obtain ⟨ka, kc, rfl, -⟩ := ls_none (hsk W (Mv.refl _ _ _ _))
  obtain ⟨pa, pc, rfl, -⟩ := ls_none (hsp W (Mv.refl _ _ _ _))
  have hb0 : Below W.heap.size W (W.alloc (.cells #[.int .i64 n.1, .slice ka n.2.2.length kc, .slice pa n.2.1.length pc] 83)) := (Below.refl _ _).alloc (Nat.le_refl _) _
  have hn0 := heap_last W (.cells #[.int .i64 n.1, .slice ka n.2.2.length kc, .slice pa n.2.1.length pc] 83) _ rfl
  have hJ0 := hY.keep hJ (Mv.of hb0 hB) (KO.of hb0)
  have hg0 := hg.below hb0
  have hI0 := hG.below hI hb0
  have hM0 := (Mv.refl B (gts sts) v.ownBlock W).more hb0 hB
  have hs0 : B ≤ (W.alloc (.cells #[.int .i64 n.1, .slice ka n.2.2.length kc, .slice pa n.2.1.length pc] 83)).heap.size := Nat.le_trans hB hb0.size
  generalize hw0 : W.alloc (.cells #[.int .i64 n.1, .slice ka n.2.2.length kc, .slice pa n.2.1.length pc] 83) = w0 at *
  have c2 := cell_of_row w0 W.heap.size 2 _ _ _ hn0
  simp only [List.getElem?_toArray, List.getElem?_cons_zero, List.getElem?_cons_succ] at c2
  by_cases he : er = 0
  · obtain ⟨hN, hnd⟩ := hr he
    have e0 : (er != 0) = false := by rw [he]; rfl
    have htp := tellPairs_any w0 l k B sts kts J Jx hY I hG.mv hkt gb (.func (.func g) #[] caps) lo hi v t hJ0 hg0 hI0 _ n.2.1 (fun W' h => hsp W' (hM0.trans h (Nx.refl _ _))) (by omega)
    have hgr := tellT_grows k lo hi n.2.1 t
    obtain ⟨r, hrr⟩ : ∃ r, r = tellT k lo hi n.2.1 t := ⟨_, rfl⟩
    rw [← hrr] at htp hgr
    unfold ToldSaid at htp
    have HR := hide hR
    have HRR := hide hrr
    have HE := hide he
    have HN := hide (And.intro hN (And.intro hnd (And.intro hsk (And.intro hak (And.intro hcap hgr)))))
    have H0 := hide (And.intro hn0 (And.intro hM0 hJ0))
    clear hR hrr he hN hnd hsk hsp hak hcap hgr hn0 hJ0 hg0 hI0 hM0 hb0 hJ hg hI hr
    cases hfl : r.2 with
    | false =>
      rw [hfl] at htp
      go_enter Tryz.func62, Tryz.ntmps62
      go_wp2_with fail
      try rw [hw0]
      go_wp2_with fail
      refine htp.mono ?_
      rintro e w1 ⟨rfl, v1, hJ1, hJx1, hg1, hI1, hm1, hN1⟩
      have hRs := HR.out.trans (intoT_stop HE.out (by rw [← HRR.out]; exact hfl))
      rw [← HRR.out] at hRs
      have hMM := H0.out.2.1.trans hm1 (Nx.refl _ _)
      have hNN : Nx W v.ownBlock v1.ownBlock := (Nx.refl W v.ownBlock).trans hN1 H0.out.2.1.size
      have HF := hide (And.intro hRs (And.intro (hJx1 trivial) (And.intro hg1 (And.intro hI1 (And.intro hMM hNN)))))
      clear htp hJ1 hJx1 hg1 hI1 hm1 hN1 hRs hMM hNN c2
      go_wp2
      go_ret
      rw [HF.out.1]
      exact ⟨rfl, v1, fun h => (by cases h), fun _ => HF.out.2.1, HF.out.2.2.1, HF.out.2.2.2.1, HF.out.2.2.2.2.1, HF.out.2.2.2.2.2⟩
    | true =>
      rw [hfl] at htp
      go_enter Tryz.func62, Tryz.ntmps62
      go_wp2_with fail
      try rw [hw0]
      go_wp2_with fail
      refine htp.mono ?_
      rintro e w1 ⟨rfl, v1, hJ1, -, hg1, hI1, hm1, hN1⟩
      have hJ1 := hJ1 trivial
      have hn1 := hm1.k _ _ _ _ H0.out.1 (by have := hY.apart; simp [this.2.2.2]) (hY.neq H0.out.2.2 H0.out.1 (by decide))
      have hMM := H0.out.2.1.trans hm1 (Nx.refl _ _)
      have hNN : Nx W v.ownBlock v1.ownBlock := (Nx.refl W v.ownBlock).trans hN1 H0.out.2.1.size
      have hgr := HN.out.2.2.2.2.2
      have hkc := hk w1 v1 r.1 n (.slice ka n.2.2.length kc) (.slice pa n.2.1.length pc) hJ1 hg1 hI1 HN.out.1 HN.out.2.1 (fun W' h => HN.out.2.2.1 W' (hMM.trans h hNN)) ⟨_, _, _, rfl⟩ (by have := HN.out.2.2.2.1; have := hgr.1; omega) (by have := HN.out.2.2.2.2.1; have := hgr.2; omega)
      have hRs := HR.out.trans (intoT_on HE.out (by rw [← HRR.out]; exact hfl))
      rw [← HRR.out] at hRs
      rw [← hRs] at hkc
      unfold ToldSaid at hkc
      have n0 := cell_of_row w1 W.heap.size 0 _ _ _ hn1
      have n1 := cell_of_row w1 W.heap.size 1 _ _ _ hn1
      have n2 := cell_of_row w1 W.heap.size 2 _ _ _ hn1
      simp only [List.getElem?_toArray, List.getElem?_cons_zero, List.getElem?_cons_succ] at n0 n1 n2
      have H1 := hide (And.intro hMM hNN)
      clear htp hJ1 hg1 hI1 hm1 hN1 hRs hMM hNN c2 hgr hn1
      go_wp2_with fail
      refine hkc.mono ?_
      rintro e w2 ⟨rfl, v2, hJ2, hJx2, hg2, hI2, hm2, hN2⟩
      have hMM := H1.out.1.trans hm2 H1.out.2
      have hNN : Nx W v.ownBlock v2.ownBlock := H1.out.2.trans hN2 H1.out.1.size
      have HF := hide (And.intro hJ2 (And.intro hJx2 (And.intro hg2 (And.intro hI2 (And.intro hMM hNN)))))
      clear hkc hJ2 hJx2 hg2 hI2 hm2 hN2 hMM hNN n0 n1 n2
      go_wp2
      go_ret
      exact ⟨rfl, v2, HF.out.1, HF.out.2.1, HF.out.2.2.1, HF.out.2.2.2.1, HF.out.2.2.2.2.1, HF.out.2.2.2.2.2⟩
  · have e0 : (er != 0) = true := by simpa using he
    have hfa := fail_any w0 l k B sts J Jx hY gb (.func (.func g) #[] caps) lo hi t.told v t.s er he hJ0 hg0
    have hRs := hR.trans (intoT_err he)
    have HRS := hide hRs
    have H0 := hide (And.intro hg0 (And.intro hI0 (And.intro hM0 hJ0)))
    clear hR he hsk hsp hak hcap hn0 hJ0 hg0 hI0 hM0 hb0 hJ hg hI hr hRs
    go_enter Tryz.func62, Tryz.ntmps62
    go_wp2_with fail
    try rw [hw0]
    go_wp2_with fail
    refine hfa.mono ?_
    rintro e w1 ⟨rfl, v1, hJx, hM1, hN1⟩
    have hI1 := hG.mv H0.out.2.1 (hM1.absorb (fun q hq => hY.row H0.out.2.2.2 hq) hkt.1 hkt.2.2)
    have hg1 := H0.out.1.mv hM1 hY.apart.1 (hY.ne H0.out.2.2.2 H0.out.1)
    have hMM := H0.out.2.2.1.trans (hM1.types (gts_sub sts)) (Nx.refl _ _)
    have hNN : Nx W v.ownBlock v1.ownBlock := (Nx.refl W v.ownBlock).trans hN1 H0.out.2.2.1.size
    have HF := hide (And.intro hJx (And.intro hg1 (And.intro hI1 (And.intro hMM hNN))))
    clear hfa hJx hM1 hN1 hI1 hg1 hMM hNN c2
    go_wp2
    go_ret
    rw [HRS.out]
    exact ⟨rfl, v1, fun h => (by cases h), fun _ => HF.out.1, HF.out.2.1, HF.out.2.2.1, HF.out.2.2.2.1, HF.out.2.2.2.2⟩
theorem goInto_any {σ : Type} (l : Nat) (k : Sink σ) (g : Nat) (caps : Array Value) (fd : Bs → Option Bs) (B : Nat) (sts kts : List TypeId) (J Jx : Value → σ → World → Prop) (hY : YieldOk l k B sts J Jx) (I : World → List Bs → Prop) (hG : GetOk g caps fd B kts I) (hkt : 60 ∈ kts ∧ 128 ∈ kts ∧ ∀ t ∈ sts, t ∈ kts) (gb : Nat) (lo hi : Bs) : ∀ (d : Nat), IntoOk l k fd B sts J Jx I gb (.func (.func g) #[] caps) lo hi d := by
  intro d
  induction d with
  | zero =>
    refine into_of_kids l k g caps fd B sts kts J Jx hY I hG hkt gb lo hi 0 ?_
    intro W v t n vk vp hJ hg hI hN hnd hsk hvp _ _
    have h0 : n.1 = 0 := by have := hN.lo; simp at hnd; omega
    exact kids_leaf hY hG W v t n vk vp hJ hg hI (hN.leaf h0).1 (hsk W (Mv.refl _ _ _ _)) hvp
  | succ d ih =>
    refine into_of_kids l k g caps fd B sts kts J Jx hY I hG hkt gb lo hi (d + 1) ?_
    intro W v t n vk vp hJ hg hI hN hnd hsk hvp hak hcap
    by_cases h0 : n.1 = 0
    · exact kids_leaf hY hG W v t n vk vp hJ hg hI (hN.leaf h0).1 (hsk W (Mv.refl _ _ _ _)) hvp
    · obtain ⟨pa, pm, pc, rfl⟩ := hvp
      obtain ⟨ka, kc, rfl, -⟩ := ls_none (hsk W (Mv.refl _ _ _ _))
      have hlo := hN.lo
      exact goToKids_any W l k g caps fd B sts kts J Jx hY I hG hkt gb lo hi d ih v t hJ hg hI n.1 n.2.2 ka kc pa pm pc (by omega) (by simpa using hnd) hN.hi hN.links.2.1 hsk hN.links.2.2.2 hak hcap
end Go.Proofs.YtimbleaafoiidaaGreatDoor

/-
  Going through a map from its root on. Conditions: the get and whoever is told keep their words; not too much was asked.
-/
namespace Go.Proofs.YtimbleaafoiidaaGreatDoor
open Go.RowKit

set_option maxRecDepth 20000 in
theorem through_any (w : World) (gv : Value) (hgv : gv.oneCell' = true) (root lo hi : Bs) : Calls Tryz.prog 41 #[gv, .string (strB root), .agg #[.string (strB lo), .string (strB hi)]] w fun e w' => e = .returned (.func (.func 61) #[] #[.pointer (some ⟨w.heap.size, 0, none⟩), .pointer (some ⟨w.heap.size + 2, 0, none⟩), .pointer (some ⟨w.heap.size + 1, 0, none⟩)]) ∧ w' = ((w.alloc (.cells #[gv] 35)).alloc (.cells #[.string (strB root)] 9)).alloc (.cells #[.string (strB lo), .string (strB hi)] 99) := by
  have hmf : ∀ (fn : Fn) (first cap : Array Value) (w : World), (Instr.makeFunc fn first cap).run Tryz.prog w = .ok (.func fn first cap) w := fun _ _ _ _ => rfl
  go_enter Tryz.func41, Tryz.ntmps41
  go_wp2
  go_ret
  exact ⟨rfl, rfl⟩
set_option maxRecDepth 40000 in
set_option maxHeartbeats 3200000 in
theorem through1_any {σ : Type} (W : World) (l : Nat) (k : Sink σ) (g : Nat) (caps : Array Value) (fd : Bs → Option Bs) (B : Nat) (sts kts : List TypeId) (J Jx : Value → σ → World → Prop) (hY : YieldOk l k B sts J Jx) (I : World → List Bs → Prop) (hG : GetOk g caps fd B kts I) (hkt : 60 ∈ kts ∧ 128 ∈ kts ∧ ∀ t ∈ sts, t ∈ kts)
    (c1 c2 c3 : Nat) (root lo hi : Bs) (asked : List Bs) (v : Value) (s : σ) (h1 : W.heap[c1]? = some (.cells #[.func (.func g) #[] caps] 35)) (h2 : W.heap[c2]? = some (.cells #[.string (strB lo), .string (strB hi)] 99)) (h3 : W.heap[c3]? = some (.cells #[.string (strB root)] 9)) (hB : B ≤ W.heap.size) (hJ : J v s W) (hI : I W asked) (hal : asked.length ≤ 1000000) (hcap : k.cap s ≤ 1000) :
    Calls Tryz.prog 61 #[.func (.yield l) #[] #[], .pointer (some ⟨c1, 0, none⟩), .pointer (some ⟨c2, 0, none⟩), .pointer (some ⟨c3, 0, none⟩)] W fun e W' => (∃ x, e = .returned x) ∧ ∃ v', ((goT k fd lo hi 21 (rootK root) (-1) ⟨asked, [], s⟩).2 = true → J v' (goT k fd lo hi 21 (rootK root) (-1) ⟨asked, [], s⟩).1.s W') ∧ ((goT k fd lo hi 21 (rootK root) (-1) ⟨asked, [], s⟩).2 = false → Jx v' (goT k fd lo hi 21 (rootK root) (-1) ⟨asked, [], s⟩).1.s W') ∧ I W' (goT k fd lo hi 21 (rootK root) (-1) ⟨asked, [], s⟩).1.asked ∧ Mv B (gts sts) v.ownBlock W W' ∧ Nx W v.ownBlock v'.ownBlock := by
  have hgo : goT k fd lo hi 21 (rootK root) (-1) ⟨asked, [], s⟩ = intoT k (goT k fd lo hi 20) lo hi (askM fd (rootK root) (-1)) ⟨asked ++ [root], [], s⟩ := rfl
  obtain ⟨R, hR⟩ : ∃ R, R = goT k fd lo hi 21 (rootK root) (-1) ⟨asked, [], s⟩ := ⟨_, rfl⟩
  rw [← hR] at hgo ⊢
  have k1 := cell_of_row W c1 0 _ _ _ h1
  have k2 := cell_of_row W c2 0 _ _ _ h2
  have k3 := cell_of_row W c2 1 _ _ _ h2
  have hb0 : Below W.heap.size W (W.alloc (.cells #[.func (.func g) #[] caps, .string (strB lo), .string (strB hi), .func (.yield l) #[] #[], .string ⟨#[]⟩] 128)) := (Below.refl _ _).alloc (Nat.le_refl _) _
  have hn0 := heap_last W (.cells #[.func (.func g) #[] caps, .string (strB lo), .string (strB hi), .func (.yield l) #[] #[], .string ⟨#[]⟩] 128) _ rfl
  have hr0 := (hb0.block _ (lt_of_heap h3)).trans h3
  have hJ0 := hY.keep hJ (Mv.of hb0 hB) (KO.of hb0)
  have hI0 := hG.below hI hb0
  have hM0 := (Mv.refl B (gts sts) v.ownBlock W).more hb0 hB
  have hs0 : B ≤ (W.alloc (.cells #[.func (.func g) #[] caps, .string (strB lo), .string (strB hi), .func (.yield l) #[] #[], .string ⟨#[]⟩] 128)).heap.size := Nat.le_trans hB hb0.size
  have hg0 : GoW B (W.alloc (.cells #[.func (.func g) #[] caps, .string (strB lo), .string (strB hi), .func (.yield l) #[] #[], .string ⟨#[]⟩] 128)) W.heap.size (.func (.func g) #[] caps) (.func (.yield l) #[] #[]) lo hi [] := ⟨hB, hn0⟩
  have n0 := cell_of_row (W.alloc (.cells #[.func (.func g) #[] caps, .string (strB lo), .string (strB hi), .func (.yield l) #[] #[], .string ⟨#[]⟩] 128)) W.heap.size 0 _ _ _ hn0
  have r0 := cell_of_row (W.alloc (.cells #[.func (.func g) #[] caps, .string (strB lo), .string (strB hi), .func (.yield l) #[] #[], .string ⟨#[]⟩] 128)) c3 0 _ _ _ hr0
  simp only [List.getElem?_toArray, List.getElem?_cons_zero, List.getElem?_cons_succ] at k1 k2 k3 n0 r0
  have hask := ask_any (W.alloc (.cells #[.func (.func g) #[] caps, .string (strB lo), .string (strB hi), .func (.yield l) #[] #[], .string ⟨#[]⟩] 128)) g caps fd B kts I hG root asked hI0 (by omega)
  have hok := fun h => (askM_ok (fd := fd) (k := rootK root) (level := -1) hG.short h).1
  have hze := fun h => askM_zero (fd := fd) (k := rootK root) (level := -1) h
  obtain ⟨er, n, hern⟩ : ∃ er n, askM fd (rootK root) (-1) = (er, n) := ⟨_, _, rfl⟩
  rw [hern] at hask hgo hok hze
  unfold nodeIs at hask
  simp only at hask hok hze
  have HGO := hide (And.intro hgo (And.intro hok hze))
  have H0 := hide (And.intro hg0 (And.intro hJ0 hM0))
  clear hb0 hn0 hr0 hJ0 hI0 hM0 hg0 hgo hok hze hern hR h1 h2 h3 hJ hI
  go_enter Tryz.func61, Tryz.ntmps61
  go_wp2_with fail
  refine hask.mono ?_
  rintro e w1 ⟨⟨vk, vp, rfl, hrk, hrp⟩, hI1, hm1, hko1⟩
  clear hask
  generalize W.alloc (.cells #[.func (.func g) #[] caps, .string (strB lo), .string (strB hi), .func (.yield l) #[] #[], .string ⟨#[]⟩] 128) = w0 at *
  have hg1 := H0.out.1.mv hm1 (by decide) (by simp)
  have hJ1 := hY.keep H0.out.2.1 (hm1.types (by decide)) hko1
  have hM1 : Mv B (gts sts) v.ownBlock W w1 := H0.out.2.2.trans ((hm1.types (ts' := gts sts) (by intro t ht; exact jts_sub sts t (by revert ht; revert t; decide))).none (r := v.ownBlock)) (Nx.refl _ _)
  have hvlt : ∀ q, v.ownBlock = some q → q < w0.heap.size := fun q hq => by obtain ⟨cs, fr, h⟩ := hY.row H0.out.2.1 hq; exact lt_of_heap h
  have hs1 : B ≤ w1.heap.size := Nat.le_trans hs0 hm1.size
  obtain ⟨ka, km, kc, rfl⟩ := row_form hrk
  obtain ⟨pa, pm, pc, rfl⟩ := row_form hrp
  have hb2 : Below w1.heap.size w1 (w1.alloc (.cells #[.int .i64 n.1, .slice ka km kc, .slice pa pm pc] 83)) := (Below.refl _ _).alloc (Nat.le_refl _) _
  have hn2 := heap_last w1 (.cells #[.int .i64 n.1, .slice ka km kc, .slice pa pm pc] 83) _ rfl
  have hg2 := hg1.below hb2
  have hJ2 := hY.keep hJ1 (Mv.of hb2 hs1) (KO.of hb2)
  have hI2 := hG.below hI1 hb2
  have hM2 := hM1.more hb2 hs1
  have hrk2 := own_below hrk hb2
  have hrp2 := own_below hrp hb2
  generalize hw2 : w1.alloc (.cells #[.int .i64 n.1, .slice ka km kc, .slice pa pm pc] 83) = w2 at *
  have m0 := cell_of_row w2 w1.heap.size 0 _ _ _ hn2
  have m1 := cell_of_row w2 w1.heap.size 1 _ _ _ hn2
  have m2 := cell_of_row w2 w1.heap.size 2 _ _ _ hn2
  simp only [List.getElem?_toArray, List.getElem?_cons_zero, List.getElem?_cons_succ] at m0 m1 m2
  have hbn : n.2.1.length ≤ 64 ∧ (manyL n.2.2).toNat ≤ 4096 := by
    by_cases he : er = 0
    · have q1 := HGO.out.2.1 he
      exact ⟨q1.links.1, by have := q1.links.2.2.1; omega⟩
    · rw [HGO.out.2.2 he]
      simp [manyL]
  have hin := goInto_any l k g caps fd B sts kts J Jx hY I hG hkt W.heap.size lo hi 20 w2 v ⟨asked ++ [root], [], s⟩ er n _ _ hJ2 hg2 hI2 (fun he => ⟨HGO.out.2.1 he, (HGO.out.2.1 he).hi⟩) (fun W' h => ls_of_own linkC_length (h.own hrk2 (by have := hY.apart; simp [this.2.2.1]) (own_far hrk2 hvlt))) (fun W' h => ls_of_own pairC_length (h.own hrp2 (by have := hY.apart; simp [this.2.1]) (own_far hrp2 hvlt))) (by simp only [List.length_append, List.length_singleton]; omega) (by simp only; omega)
  rw [← HGO.out.1] at hin
  unfold ToldSaid at hin
  have H2 := hide hM2
  clear hko1 hrk hrp hI1 hm1 hg1 hJ1 hM1 hvlt hb2 hn2 hg2 hJ2 hI2 hM2 hrk2 hrp2 hbn n0 r0 k1 k2 k3
  go_wp2_with fail
  refine hin.mono ?_
  rintro e w3 ⟨rfl, v3, hJ3, hJx3, -, hI3, hm3, hN3⟩
  have hMM := H2.out.trans hm3 (Nx.refl _ _)
  have hNN : Nx W v.ownBlock v3.ownBlock := (Nx.refl W v.ownBlock).trans hN3 H2.out.size
  have HF := hide (And.intro hJ3 (And.intro hJx3 (And.intro hI3 (And.intro hMM hNN))))
  clear hin hJ3 hJx3 hI3 hm3 hN3 hMM hNN m0 m1 m2
  go_wp2
  go_end0
  exact ⟨⟨_, rfl⟩, v3, HF.out.1, HF.out.2.1, HF.out.2.2.1, HF.out.2.2.2.1, HF.out.2.2.2.2⟩
end Go.Proofs.YtimbleaafoiidaaGreatDoor

/-
  A range over pairs and errors that an iterator tells: told once for every iterator that keeps to its word. Conditions: what each round owes.
-/
namespace Go.Proofs.YtimbleaafoiidaaGreatDoor
open Go.RowKit
attribute [local go_sem] Oper.semAt_some

/-- How a body is left: by a return, or by a break out of block id. -/
def leaveX : Option Nat → Exit
  | none => .ret
  | some id => .exit id
def leaveC : Option Nat → Code
  | none => .ret
  | some id => .exit id
/-- What a pair is, in a variable of its own. -/
abbrev pairO (x : Pair) : Obj := .cells #[.string (strB x.1), .string (strB x.2)] 60
/-- A record is turned: of cells nothing moves. -/
theorem Mv.put {B : Nat} {ts : List TypeId} {r : Option Nat} {W : World} {k : Nat} {o o' : Obj} (h : W.heap[k]? = some o) (ho : isRec o = true) (hB : B ≤ k) : Mv B ts r W (W.putObj k o') := by
  have hlt := lt_of_heap h
  refine ⟨⟨rfl, rfl, rfl, by simp [World.putObj], fun i hi => World.putObj_heap_other (by omega)⟩, fun i cs t fr hi _ _ => ?_⟩
  refine (World.putObj_heap_other ?_).trans hi
  rintro rfl
  rw [h] at hi
  injection hi with hi
  subst hi
  cases ho
set_option maxHeartbeats 1600000 in
theorem wp_told {σ : Type} {P : Program} {g : Operand} {p q : Tmp} {assign body : Code} {Q : Exit → Act → World → Prop} {a : Act} {w : World} {gf : Nat} {lb : Array Value}
    (hPP : P = Tryz.prog) (hg : a.eval g = .func (.func gf) #[] lb) (henter : ∀ args w, (callFunc gf args).run P w = .ok (.enter gf args) w)
    (k : Sink σ) (B : Nat) (sts : List TypeId) (hBw : B ≤ w.heap.size) (J0 Jn Jc : Value → σ → World → Prop) (lv : σ → Option Nat)
    (kJ : ∀ {v : Value} {s : σ} {W W' : World}, J0 v s W → Mv B jts Option.none W W' → J0 v s W') (kn : ∀ {v : Value} {s : σ} {W W' : World}, Jn v s W → Mv B [] Option.none W W' → Jn v s W') (kc : ∀ {v : Value} {s : σ} {W W' : World}, Jc v s W → Mv B [] Option.none W W' → Jc v s W')
    (row : ∀ {v : Value} {s : σ} {W : World} {b : Nat}, J0 v s W → v.ownBlock = some b → ∃ cs fr, W.heap[b]? = some (.cells cs 60 fr))
    (apart : 128 ∉ sts ∧ 60 ∉ sts ∧ 66 ∉ sts ∧ 83 ∉ sts)
    (olds : List (Nat × Obj)) (ho : ∀ p ∈ olds, w.heap[p.1]? = some p.2 ∧ isRec p.2 = true) (start : Nat → Pair → Int → Act)
    (hassign : ∀ (l : Nat) (x : Pair) (er : Int) (W : World) (K : Act → World → Prop), K (start W.heap.size x er) (W.alloc (pairO x)) →
      assign.wpIn (Fence.wide.inRound l) 0 P (Exit.then K (fun _ _ _ => False)) { tmps := (a.tmps.setIfInBounds p (.agg #[.string (strB x.1), .string (strB x.2)])).setIfInBounds q (.int .i64 er), defers := [] } W)
    (hbody : ∀ (l b : Nat) (v : Value) (s : σ) (x : Pair) (er : Int) (W : World), J0 v s W → W.heap[b]? = some (pairO x) → some b ≠ v.ownBlock → (er = 0 → k.cap s ≤ 1000000) → (er ≠ 0 → x = ([], [])) →
      body.wpIn (Fence.wide.inRound l) 0 P (fun e _ W' => KO W W' ∧ ∃ v', Mv B sts v.ownBlock W W' ∧ Nx W v.ownBlock v'.ownBlock ∧
        ((e = .normal ∧ ((er = 0 ∧ (k.st s x).2 = true ∧ J0 v' (k.st s x).1 W') ∨ (er ≠ 0 ∧ Jn v' (k.er s er) W'))) ∨ (∃ s', e = leaveX (lv s') ∧ ((er = 0 ∧ (k.st s x).2 = false ∧ s' = (k.st s x).1) ∨ (er ≠ 0 ∧ s' = k.er s er)) ∧ Jc v' s' W'))) (start b x er) W)
    (v0 : Value) (s0 : σ) (h0 : J0 v0 s0 w) (T : Tst σ × Bool) (X : World → Prop) (kX : ∀ {W W' : World}, X W → Mv B [] Option.none W W' → X W')
    (hiter : ∀ (l : Nat) (J Jx : Value → σ → World → Prop) (W : World), YieldOk l k B sts J Jx → J v0 s0 W → Below w.heap.size w W → Calls P gf (#[.func (.yield l) #[] #[]] ++ lb) W fun e W' => (∃ x, e = .returned x) ∧ ∃ v', (T.2 = true → J v' T.1.s W') ∧ (T.2 = false → Jx v' T.1.s W') ∧ X W')
    (hall : ∀ (D : Nat) (W : World) (v' : Value), w.heap.size ≤ D → (T.2 = true ∧ J0 v' T.1.s W ∨ T.2 = false ∧ Jn v' T.1.s W) → X W → W.heap[D]? = some (.deferred (some [])) → (∀ p ∈ olds, W.heap[p.1]? = some p.2) → Q .normal { a with defers := { target := .collected D, args := #[] } :: a.defers } W)
    (hleft : ∀ (D : Nat) (W : World) (v' : Value), w.heap.size ≤ D → T.2 = false → Jc v' T.1.s W → X W → W.heap[D]? = some (.deferred (some [])) → (∀ p ∈ olds, W.heap[p.1]? = some p.2) → (leaveC (lv T.1.s)).wpIn Fence.wide 0 P Q { a with defers := { target := .collected D, args := #[] } :: a.defers } W) :
    (Code.rangeFunc g #[p, q] assign body).wpIn Fence.wide 0 P Q a w := by
  subst hPP
  refine wpIn_rangeFunc fun fn hfn => ?_
  let D := w.heap.size
  let R : LoopState → Option Code → Obj := fun st pe => .loop { state := st, pending := pe, fn, tmps := a.tmps, params := #[p, q], assign, body, defers := D }
  let wl := (w.alloc (.deferred (some []))).alloc (R .ready none)
  have hD : wl.heap[D]? = some (.deferred (some [])) := (Below.heap_alloc _ _ _ (by simp [D])).trans (World.alloc_heap_new w _)
  have hL : wl.heap[D + 1]? = some (R .ready none) := by
    have := World.alloc_heap_new (w.alloc (.deferred (some []))) (R .ready none)
    rwa [World.size_alloc] at this
  have hbl : Below w.heap.size w wl := ((Below.refl _ w).alloc (Nat.le_refl _) _).alloc (by simp) _
  have turn : ∀ (ts : List TypeId) (r : Option Nat) (W : World) st pe st' pe', W.heap[D + 1]? = some (R st pe) → Mv B ts r W (W.putObj (D + 1) (R st' pe')) :=
    fun ts r W st pe st' pe' h => Mv.put h rfl (Nat.le_trans hBw (Nat.le_succ _))
  refine ⟨D + 1, [{ target := .collected D, args := #[] }], wl, { target := .fn (.func gf) lb, args := #[] ++ #[.func (.yield (D + 1)) #[] #[]] }, wl, gf,
    #[.func (.yield (D + 1)) #[] #[]] ++ lb, wl, run_enterLoop_outer _ _ _ _ _, ?_, fun _ _ => trivial, ?_, (fun h => by cases h), ?_⟩
  · simp only [resolve, hg]
    simp [Deferred.ofValue, go_sem]
  · simp [invoke, henter]
  -- a round
  have hround : ∀ (v : Value) (s : σ) (x : Pair) (er : Int) (W : World), (J0 v s W ∧ W.heap[D + 1]? = some (R .ready none) ∧ W.heap[D]? = some (.deferred (some [])) ∧ ∀ p ∈ olds, W.heap[p.1]? = some p.2) → (er = 0 → k.cap s ≤ 1000000) → (er ≠ 0 → x = ([], [])) →
      YieldAt Fence.wide 0 Tryz.prog (D + 1) #[.agg #[.string (strB x.1), .string (strB x.2)], .int .i64 er] W fun e W' => ∃ v', Mv B sts v.ownBlock W W' ∧ Nx W v.ownBlock v'.ownBlock ∧ (W'.heap[D]? = some (.deferred (some [])) ∧ ∀ p ∈ olds, W'.heap[p.1]? = some p.2) ∧
        ((e = .returned (.bool true) ∧ W'.heap[D + 1]? = some (R .ready none) ∧ ((er = 0 ∧ (k.st s x).2 = true ∧ J0 v' (k.st s x).1 W') ∨ (er ≠ 0 ∧ Jn v' (k.er s er) W'))) ∨ (∃ s', e = .returned (.bool false) ∧ W'.heap[D + 1]? = some (R .done (some (leaveC (lv s')))) ∧ ((er = 0 ∧ (k.st s x).2 = false ∧ s' = (k.st s x).1) ∨ (er ≠ 0 ∧ s' = k.er s er)) ∧ Jc v' s' W')) := by
    rintro v s x er W ⟨hj, hl, hd, hold⟩ hcap hx
    have hlt : D + 1 < W.heap.size := (Array.getElem?_eq_some_iff.1 hl).1
    refine ⟨fn, (a.tmps.setIfInBounds p (.agg #[.string (strB x.1), .string (strB x.2)])).setIfInBounds q (.int .i64 er), assign, body, (run_yield (args := #[.agg #[.string (strB x.1), .string (strB x.2)], .int .i64 er]) hl rfl).trans (by simp), roundIn_of_wpIn hfn ?_⟩
    refine hassign (D + 1) x er W (fun a1 w1 => ∃ w2, (Instr.beginRound (D + 1)).run Tryz.prog w1 = .ok () w2 ∧ body.wpIn (Fence.wide.inRound (D + 1)) 0 Tryz.prog _ a1 w2) ?_
    have hlA : (W.alloc (pairO x)).heap[D + 1]? = some (R .ready none) := (heap_past _ _ _ hlt).trans hl
    have hdA : (W.alloc (pairO x)).heap[D]? = some (.deferred (some [])) := (heap_past _ _ _ (lt_of_heap hd)).trans hd
    have hoA : ∀ p ∈ olds, (W.alloc (pairO x)).heap[p.1]? = some p.2 := fun p hp => (heap_past _ _ _ (lt_of_heap (hold p hp))).trans (hold p hp)
    have hbA : Below W.heap.size W (W.alloc (pairO x)) := (Below.refl _ _).alloc (Nat.le_refl _) _
    have hBW : B ≤ W.heap.size := by omega
    have hMA : Mv B sts v.ownBlock W (W.alloc (pairO x)) := Mv.of hbA hBW
    have hjA := kJ hj (Mv.of hbA hBW)
    have hxA := heap_last W (pairO x) _ rfl
    have hvlt : ∀ b, v.ownBlock = some b → b < W.heap.size := fun b hb => by obtain ⟨cs, fr, h⟩ := row hj hb; exact lt_of_heap h
    have hsA : (W.alloc (pairO x)).heap.size = W.heap.size + 1 := by simp
    generalize W.alloc (pairO x) = wa at *
    refine ⟨_, run_beginRound hlA rfl, ?_⟩
    have hl1 : (wa.putObj (D + 1) (R .busy none)).heap[D + 1]? = some (R .busy none) := World.putObj_heap_same (by omega)
    have hd1 : (wa.putObj (D + 1) (R .busy none)).heap[D]? = some (.deferred (some [])) := (World.putObj_heap_other (by omega)).trans hdA
    have ho1 : ∀ p ∈ olds, (wa.putObj (D + 1) (R .busy none)).heap[p.1]? = some p.2 := fun p hp => (World.putObj_heap_other (by have := lt_of_heap (ho p hp).1; omega)).trans (hoA p hp)
    have hM1 : Mv B sts v.ownBlock W (wa.putObj (D + 1) (R .busy none)) := hMA.trans (turn sts v.ownBlock wa _ _ _ _ hlA) (Nx.refl _ _)
    have hj1 := kJ hjA (turn jts Option.none wa _ _ .busy Option.none hlA)
    have hx1 : (wa.putObj (D + 1) (R .busy none)).heap[W.heap.size]? = some (pairO x) := (World.putObj_heap_other (by omega)).trans hxA
    have hs1 : (wa.putObj (D + 1) (R .busy none)).heap.size = wa.heap.size := by simp [World.putObj]
    refine wpIn_mono (hbody (D + 1) W.heap.size v s x er (wa.putObj (D + 1) (R .busy none)) hj1 hx1 (fun e => by have := hvlt _ e.symm; omega) hcap hx) fun e b V2 hp => ?_
    obtain ⟨hk2, v', hm2, hn2, hcs⟩ := hp
    have hl2 := hk2 _ _ hl1 rfl
    have hd2 := hk2 _ _ hd1 rfl
    have ho2 := fun p (hp : p ∈ olds) => hk2 _ _ (ho1 p hp) (ho p hp).2
    have ho3 := fun (o : Obj) p (hp : p ∈ olds) => (World.putObj_heap_other (w := V2) (o := o) (show p.1 ≠ D + 1 by have := lt_of_heap (ho p hp).1; omega)).trans (ho2 p hp)
    have hN : Nx W v.ownBlock v'.ownBlock := (Nx.refl W v.ownBlock).trans hn2 hM1.size
    rcases hcs with ⟨rfl, hcs⟩ | ⟨s', rfl, hcs, hjc⟩
    · refine ⟨_, _, run_endRound none hl2, v', (hM1.trans hm2 (Nx.refl _ _)).trans ((turn sts v.ownBlock V2 _ _ _ _ hl2)) (Nx.refl _ _), hN, ⟨(World.putObj_heap_other (by omega)).trans hd2, ho3 _⟩, .inl ⟨rfl, World.putObj_heap_same (Array.getElem?_eq_some_iff.1 hl2).1, ?_⟩⟩
      rcases hcs with ⟨h1, h2, h3⟩ | ⟨h1, h3⟩
      · exact .inl ⟨h1, h2, kJ h3 (turn jts Option.none V2 _ _ _ _ hl2)⟩
      · exact .inr ⟨h1, kn h3 (turn [] Option.none V2 _ _ _ _ hl2)⟩
    · cases hlv : lv s' with
      | none =>
        exact ⟨_, _, run_endRound (some .ret) hl2, v', (hM1.trans hm2 (Nx.refl _ _)).trans ((turn sts v.ownBlock V2 _ _ _ _ hl2)) (Nx.refl _ _), hN, ⟨(World.putObj_heap_other (by omega)).trans hd2, ho3 _⟩, .inr ⟨s', rfl, by rw [hlv]; exact World.putObj_heap_same (Array.getElem?_eq_some_iff.1 hl2).1, hcs, kc hjc (turn [] Option.none V2 _ _ _ _ hl2)⟩⟩
      | some id =>
        exact ⟨_, _, run_endRound (some (.exit id)) hl2, v', (hM1.trans hm2 (Nx.refl _ _)).trans ((turn sts v.ownBlock V2 _ _ _ _ hl2)) (Nx.refl _ _), hN, ⟨(World.putObj_heap_other (by omega)).trans hd2, ho3 _⟩, .inr ⟨s', rfl, by rw [hlv]; exact World.putObj_heap_same (Array.getElem?_eq_some_iff.1 hl2).1, hcs, kc hjc (turn [] Option.none V2 _ _ _ _ hl2)⟩⟩
  let J : Value → σ → World → Prop := fun v s W => J0 v s W ∧ W.heap[D + 1]? = some (R .ready none) ∧ W.heap[D]? = some (.deferred (some [])) ∧ ∀ p ∈ olds, W.heap[p.1]? = some p.2
  let Jx : Value → σ → World → Prop := fun v s W => (Jn v s W ∧ W.heap[D + 1]? = some (R .ready none) ∧ W.heap[D]? = some (.deferred (some [])) ∧ ∀ p ∈ olds, W.heap[p.1]? = some p.2) ∨ (Jc v s W ∧ W.heap[D + 1]? = some (R .done (some (leaveC (lv s)))) ∧ W.heap[D]? = some (.deferred (some [])) ∧ ∀ p ∈ olds, W.heap[p.1]? = some p.2)
  have hY : YieldOk (D + 1) k B sts J Jx := by
    refine ⟨fun h hm hk => ⟨kJ h.1 hm, hk _ _ h.2.1 rfl, hk _ _ h.2.2.1 rfl, fun p hp => hk _ _ (h.2.2.2 p hp) (ho p hp).2⟩, fun h hb => row h.1 hb, fun v s x W hj hcap => ?_, fun v s er W hj her => ?_, apart⟩
    · obtain ⟨f1, t1, a1, b1, hy, hR⟩ := hround v s x 0 W hj (fun _ => hcap) (fun h => absurd rfl h)
      refine ⟨f1, t1, a1, b1, hy, hR.mono fun e W' hp => ?_⟩
      obtain ⟨v', hm, hn, hd, hcs⟩ := hp
      rcases hcs with ⟨rfl, hl, ⟨-, h2, h3⟩ | ⟨h1, -⟩⟩ | ⟨s', rfl, hl, ⟨-, h2, rfl⟩ | ⟨h1, -⟩, h3⟩
      · exact ⟨v', by rw [h2], hm, hn, fun _ => ⟨h3, hl, hd.1, hd.2⟩, fun h => by rw [h2] at h; cases h⟩
      · exact absurd rfl h1
      · exact ⟨v', by rw [h2], hm, hn, (fun h => by rw [h2] at h; cases h), fun _ => .inr ⟨h3, hl, hd.1, hd.2⟩⟩
      · exact absurd rfl h1
    · obtain ⟨f1, t1, a1, b1, hy, hR⟩ := hround v s ([], []) er W hj (fun h => absurd h her) (fun _ => rfl)
      refine ⟨f1, t1, a1, b1, hy, hR.mono fun e W' hp => ?_⟩
      obtain ⟨v', hm, hn, hd, hcs⟩ := hp
      rcases hcs with ⟨rfl, hl, ⟨h1, -, -⟩ | ⟨-, h3⟩⟩ | ⟨s', rfl, hl, ⟨h1, -, -⟩ | ⟨-, rfl⟩, h3⟩
      · exact absurd h1 her
      · exact ⟨v', true, rfl, hm, hn, .inl ⟨h3, hl, hd.1, hd.2⟩⟩
      · exact absurd h1 her
      · exact ⟨v', false, rfl, hm, hn, .inr ⟨h3, hl, hd.1, hd.2⟩⟩
  have hit := hiter (D + 1) J Jx wl hY ⟨kJ h0 (Mv.of hbl hBw), hL, hD, fun p hp => (hbl.block _ (lt_of_heap (ho p hp).1)).trans (ho p hp).1⟩ hbl
  refine (callsIn_wide.2 hit).mono ?_
  rintro e V ⟨⟨v, rfl⟩, v', hJ, hJx, hX⟩
  cases hT : T.2 with
  | true =>
    obtain ⟨hj, hl, hd, hold⟩ := hJ hT
    exact ⟨none, _, run_endLoop hl (by simp), hall D _ v' (Nat.le_refl _) (.inl ⟨hT, kJ hj (turn jts Option.none V _ _ _ _ hl)⟩) (kX hX (turn [] Option.none V _ _ _ _ hl)) ((World.putObj_heap_other (by omega)).trans hd) (fun p hp => (World.putObj_heap_other (show p.1 ≠ D + 1 by have := lt_of_heap (ho p hp).1; omega)).trans (hold p hp))⟩
  | false =>
    rcases hJx hT with ⟨hj, hl, hd, hold⟩ | ⟨hj, hl, hd, hold⟩
    · exact ⟨none, _, run_endLoop hl (by simp), hall D _ v' (Nat.le_refl _) (.inr ⟨hT, kn hj (turn [] Option.none V _ _ _ _ hl)⟩) (kX hX (turn [] Option.none V _ _ _ _ hl)) ((World.putObj_heap_other (by omega)).trans hd) (fun p hp => (World.putObj_heap_other (show p.1 ≠ D + 1 by have := lt_of_heap (ho p hp).1; omega)).trans (hold p hp))⟩
    · exact ⟨some (leaveC (lv T.1.s)), _, run_endLoop hl (by simp), hleft D _ v' (Nat.le_refl _) hT (kc hj (turn [] Option.none V _ _ _ _ hl)) (kX hX (turn [] Option.none V _ _ _ _ hl)) ((World.putObj_heap_other (by omega)).trans hd) (fun p hp => (World.putObj_heap_other (show p.1 ≠ D + 1 by have := lt_of_heap (ho p hp).1; omega)).trans (hold p hp))⟩
end Go.Proofs.YtimbleaafoiidaaGreatDoor

/-
  What maps.Values tells of a map of pairs, and what slices.Collect makes of it: the pairs, in some order. Conditions: the map lies there; not too many pairs.
-/
namespace Go.Proofs.YtimbleaafoiidaaGreatDoor
open Go.RowKit
attribute [local go_sem] Oper.semAt_some

/-- Pairs as a map has them. -/
def pv (l : List Pair) : List (Value × Value) := l.map fun x => (.string (strB x.1), .agg #[.string (strB x.1), .string (strB x.2)])
theorem pv_pick {rl : List Pair} {k v : Value} {rest : List (Value × Value)} (h : (pv rl).Perm ((k, v) :: rest)) :
    ∃ x rl', rl.Perm (x :: rl') ∧ k = .string (strB x.1) ∧ v = .agg #[.string (strB x.1), .string (strB x.2)] ∧ rest.Perm (pv rl') := by
  have hm : (k, v) ∈ pv rl := h.mem_iff.2 List.mem_cons_self
  obtain ⟨x, hp, e⟩ := List.mem_map.1 hm
  injection e with e1 e2
  have h1 : rl.Perm (x :: rl.erase x) := List.perm_cons_erase hp
  refine ⟨x, rl.erase x, h1, e1.symm, e2.symm, ?_⟩
  have h2 : (pv rl).Perm ((.string (strB x.1), .agg #[.string (strB x.1), .string (strB x.2)]) :: pv (rl.erase x)) := h1.map _
  have h3 := h.symm.trans h2
  rw [← e1, ← e2] at h3
  exact List.perm_cons (a := (Value.string (strB x.1), Value.agg #[.string (strB x.1), .string (strB x.2)])) |>.1 h3
namespace Mp
def leftLen (w : World) (b r : Nat) : Nat := match w.heap[r]?, w.heap[b]? with
  | some (.mapIter _ _ seen _), some (.map es _) => (leftOf es seen).size
  | _, _ => 0
theorem Goes.len {w : World} {b r : Nat} {rest : List (Value × Value)} (h : Goes w b r rest) : leftLen w b r = rest.length := by
  obtain ⟨es, ck, seen, c0, a1, a2, a3, a4, a5⟩ := h
  unfold leftLen
  rw [a3, a1]
  simp only
  rw [← a5.length_eq, List.length_map, Array.length_toList]
theorem Goes.perm {w : World} {b r : Nat} {l l' : List (Value × Value)} (h : Goes w b r l) (hp : l.Perm l') : Goes w b r l' := by
  obtain ⟨es, ck, seen, c0, a1, a2, a3, a4, a5⟩ := h
  exact ⟨es, ck, seen, c0, a1, a2, a3, a4, a5.trans hp⟩
/-- Whatever leaves maps and those that go over them leaves this. -/
theorem Goes.others {w w' : World} {b r : Nat} {l : List (Value × Value)} (h : Goes w b r l) (hk : KeepsOthers w w') : Goes w' b r l := by
  obtain ⟨es, ck, seen, c0, a1, a2, a3, a4, a5⟩ := h
  exact ⟨es, ck, seen, c0, hk.same _ _ a1 rfl, a2, hk.same _ _ a3 rfl, a4, a5⟩
end Mp
/-- All but maps, and who goes over them, is as it was. -/
structure KW (B : Nat) (W W' : World) : Prop where
  b : Below B W W'
  k : ∀ (k : Nat) (ob : Obj), W.heap[k]? = some ob → ob.isWalk = false → W'.heap[k]? = some ob
theorem KW.of {B : Nat} {W W' : World} (h : Below W.heap.size W W') (hB : B ≤ W.heap.size) : KW B W W' := ⟨h.mono hB, fun k _ hk _ => (h.block k (lt_of_heap hk)).trans hk⟩
theorem KW.chg {B r : Nat} {W W' : World} (h : Mp.Chg (· = r) W W') (hB : B ≤ r) (hr : B ≤ W.heap.size) {es : Option Nat} {a c : Nat} {seen : Array Nat} (hi : W.heap[r]? = some (.mapIter es a seen c)) : KW B W W' := by
  refine ⟨h.below (fun k e => by omega) hr, fun k ob hk ho => ?_⟩
  refine (h.block k (lt_of_heap hk) fun e => ?_).trans hk
  subst e
  rw [hi] at hk
  injection hk with hk
  subst hk
  cases ho
set_option maxRecDepth 100000 in
set_option maxHeartbeats 1000000 in
theorem values1_any (w : World) (box b B : Nat) (l : List Pair) (_hxB : box < B) (hB : B ≤ w.heap.size) (hbox : w.heap[box]? = some (.cells #[.map (some b)] 130)) (hm : Mp.MapW w b (pv l)) (L : Nat) (J : List Pair → World → Prop)
    (kJ : ∀ {out : List Pair} {W W' : World}, J out W → KW B W W' → J out W')
    (hY : ∀ (out : List Pair) (x : Pair) (W : World), J out W → out.length < l.length → YieldAt Fence.wide 0 Tryz.prog L #[.agg #[.string (strB x.1), .string (strB x.2)]] W fun e W' => e = .returned (.bool true) ∧ J (out ++ [x]) W' ∧ KeepsOthers W W' ∧ Below B W W')
    (h0 : J [] w) : CallsIn Fence.wide 0 Tryz.prog 92 #[.func (.yield L) #[] #[], .pointer (some ⟨box, 0, none⟩)] w fun e w' => (∃ v, e = .returned v) ∧ ∃ out, out.Perm l ∧ J out w' := by
  obtain ⟨w1, hrun1, hgo1, hch1, hsz1⟩ := Mp.Goes.start hm Tryz.underlying130
  have hc0 := cell_of_row w box 0 _ _ _ hbox
  simp only [List.getElem?_toArray, List.getElem?_cons_zero] at hc0
  have hj1 := kJ h0 (KW.of (hch1.below (B := w.heap.size) (fun _ h => h.elim) (Nat.le_refl _)) hB)
  have HGO1 := hide hgo1
  have HJ1 := hide hj1
  have hs1 : w.heap.size < w1.heap.size := by omega
  clear hgo1 hj1 hch1 hm hsz1 h0
  refine callsIn_of_wp Tryz.func92 rfl trivial ?_ rfl
  simp only [Tryz.ntmps92, List.size_toArray, List.length_cons, List.length_nil, Nat.reduceAdd, Nat.reduceSub, Array.replicate_succ, Array.replicate_zero, List.push_toArray, List.append_toArray, List.nil_append, List.cons_append]
  gi_wp2
  gi_loopw [7] (fun _ wr => ∃ out rl : List Pair, (out ++ rl).Perm l ∧ Mp.Goes wr b w.heap.size (pv rl) ∧ J out wr ∧ w.heap.size < wr.heap.size) (fun _ wr => Mp.leftLen wr b w.heap.size)
  case atStart => exact ⟨[], l, List.Perm.refl _, HGO1.out, HJ1.out, hs1⟩
  case round =>
    obtain ⟨out, rl, hpl, hgo, hJ, hsz⟩ := hrel
    rcases hgo.step (P := Tryz.prog) 0 with ⟨hr0, hnext⟩ | ⟨k, v, rest, w2, hperm, hnext, hentry, hgo2, hc2, hs2⟩
    · have hrl0 : rl = [] := List.map_eq_nil_iff.1 hr0
      subst hrl0
      rw [List.append_nil] at hpl
      have HJ := hide hJ
      clear hgo hJ hr0
      gi_wp2
      go_end0
      exact ⟨⟨_, rfl⟩, out, hpl, HJ.out⟩
    · obtain ⟨x, rl', hp1, rfl, rfl, hp2⟩ := pv_pick hperm
      have hlen := hgo.len
      have hwi : ∃ es a seen c, wr.heap[w.heap.size]? = some (.mapIter es a seen c) := by
        obtain ⟨es, ck, seen, c0, a1, a2, a3, a4, a5⟩ := hgo
        exact ⟨_, _, _, _, a3⟩
      obtain ⟨es', ca, seen', cc, hwi⟩ := hwi
      have hj2 := kJ hJ (KW.chg hc2 hB (by omega) hwi)
      have hb3 : Below w2.heap.size w2 (w2.alloc (pairO x)) := (Below.refl _ _).alloc (Nat.le_refl _) _
      have hj3 := kJ hj2 (KW.of hb3 (by omega))
      have hgo3 := (hgo2.perm hp2).others (KeepsOthers.alloc w2 (pairO x))
      have hlt : out.length < l.length := by
        rw [← hpl.length_eq, List.length_append, hp1.length_eq, List.length_cons]
        omega
      have hpl' : (out ++ [x] ++ rl').Perm l := by
        refine List.Perm.trans ?_ hpl
        rw [List.append_assoc]
        exact (hp1.symm.append_left out)
      obtain ⟨fn, tmps, assign, body, hy, hR⟩ := hY out x _ hj3 hlt
      have HG := hide hgo3
      have HL := hide hlen
      have HP := hide hp1.length_eq
      have HPL := hide hpl'
      have hsz3 : w.heap.size < (w2.alloc (pairO x)).heap.size := by simp; omega
      clear hj3 hj2 hgo hgo2 hgo3 hJ hpl hpl' hperm hp1 hp2 hc2 hwi hlen hb3
      gi_wp2
      refine ⟨rfl, hR.mono ?_⟩
      rintro e W3 ⟨rfl, hJ3, hk3, hb3⟩
      have hg3 := HG.out.others hk3
      have hsW := hk3.size
      gi_wp2
      go_roundw
      case rel => exact ⟨out ++ [x], rl', HPL.out, hg3, hJ3, by omega⟩
      case measure =>
        rw [hg3.len, HL.out]
        have := HP.out
        simp [pv, this]
end Go.Proofs.YtimbleaafoiidaaGreatDoor

/-
  The reference's list under way. Conditions: not too many.
-/
namespace Go.Proofs.YtimbleaafoiidaaGreatDoor
open Go.RowKit

/-- The reference's list g: the objects, what was asked, told (the row vp), the first error. -/
def RlW (B : Nat) (w : World) (g : Nat) (vo : Value) (objs : List Pair) (vp : Value) (s : LsS) : Prop :=
  B ≤ g ∧ Ls B w 2 pairC vo objs ∧ ∃ va, w.heap[g]? = some (.cells #[vo, va, vp, .int .i64 s.bad] 102) ∧ Rw B w 9 1 idC va s.asked ∧ Rw B w 60 2 pairC vp s.out
/-- What it moves. -/
abbrev lts : List TypeId := [9, 102]
theorem RlW.le {B : Nat} {w : World} {g : Nat} {vo : Value} {objs : List Pair} {vp : Value} {s : LsS} (h : RlW B w g vo objs vp s) : B ≤ w.heap.size := by
  obtain ⟨hg, -, va, hh, -⟩ := h
  have := lt_of_heap hh
  omega
theorem RlW.below {B : Nat} {w w' : World} {g : Nat} {vo : Value} {objs : List Pair} {vp : Value} {s : LsS} (h : RlW B w g vo objs vp s) (hb : Below w.heap.size w w') : RlW B w' g vo objs vp s := by
  have hB := h.le
  obtain ⟨hg, hl, va, hh, h1, h3⟩ := h
  exact ⟨hg, hl.keep (hb.mono hB), va, (hb.block _ (lt_of_heap hh)).trans hh, own_same h1 (fun q hq => hb.block q (h1.lt q hq).2), own_same h3 (fun q hq => hb.block q (h3.lt q hq).2)⟩
theorem RlW.lt {B : Nat} {w : World} {g : Nat} {vo : Value} {objs : List Pair} {vp : Value} {s : LsS} (h : RlW B w g vo objs vp s) {q : Nat} (hq : vp.ownBlock = some q) : q < w.heap.size := by
  obtain ⟨-, -, va, -, -, h3⟩ := h
  exact (h3.lt q hq).2
theorem set4 {w : World} {g : Nat} {v0 v1 v2 v3 : Value} {t : TypeId} (h : w.heap[g]? = some (.cells #[v0, v1, v2, v3] t)) (u : Value) :
    (w.setCell ⟨g, 1, none⟩ u).heap[g]? = some (.cells #[v0, u, v2, v3] t) ∧ (w.setCell ⟨g, 2, none⟩ u).heap[g]? = some (.cells #[v0, v1, u, v3] t) ∧ (w.setCell ⟨g, 3, none⟩ u).heap[g]? = some (.cells #[v0, v1, v2, u] t) := by
  refine ⟨?_, ?_, ?_⟩ <;> (rw [heap_setCell _ _ _ _ _ _ _ h]; simp)
/-- One more is asked. -/
theorem RlW.ask {B : Nat} {w : World} {g : Nat} {vo : Value} {objs : List Pair} {vp : Value} {s : LsS} (h : RlW B w g vo objs vp s) (id : Bs) (hn : s.asked.length ≤ 4294967296) :
    ∃ va va' w1, w.heap[g]? = some (.cells #[vo, va, vp, .int .i64 s.bad] 102) ∧ (∃ a m c, va' = .slice a m c) ∧
      (Builtin.append_ #[32, 32] 32 #[va, .slice (some ⟨w.heap.size, 0, none⟩) 1 1]).run Tryz.prog (w.alloc (.cells #[.string (strB id)] 9)).drew = .ok va' w1 ∧
      w1.heap[g]? = some (.cells #[vo, va, vp, .int .i64 s.bad] 102) ∧ RlW B (w1.setCell ⟨g, 1, none⟩ va') g vo objs vp ⟨s.asked ++ [id], s.out, s.bad⟩ ∧ Mv B lts none w w1 ∧ Mv B lts none w (w1.setCell ⟨g, 1, none⟩ va') := by
  have hB := h.le
  obtain ⟨hg, hl, va, hh, h1, h3⟩ := h
  obtain ⟨va', w1, hrun, hrow, hgr, -⟩ := app_id w.drew B va s.asked id h1 hB hn
  rw [drew_alloc] at hrun hgr
  rw [show w.drew.heap.size = w.heap.size from rfl] at hrun
  have h1' : Rw B (w.alloc (.cells #[.string (strB id)] 9)).drew 9 1 idC va s.asked := World.ownsRow.alloc h1 _
  have h3' : Rw B (w.alloc (.cells #[.string (strB id)] 9)).drew 60 2 pairC vp s.out := World.ownsRow.alloc h3 _
  have hh' := (heap_past w (.cells #[.string (strB id)] 9) _ (lt_of_heap hh)).trans hh
  have hh1 := grow_keep h1' hgr (show (w.alloc _).drew.heap[g]? = _ from hh') (by decide)
  have hm1 : Mv B lts none w w1 := ((Mv.refl B lts none w).alloc hB _).drew.grown h1' hgr (by decide) (by simp; omega)
  have hm2 := hm1.set (j := 1) hh1 (by decide) hg va'
  refine ⟨va, va', w1, hh, row_form hrow, hrun, hh1, ⟨hg, hl.keep hm2.b, va', (set4 hh1 _).1, own_setCell hrow hh1 (by decide) _, own_setCell (grow_other h3' h1' hgr (own_ne h3' h1' (by decide))) hh1 (by decide) _⟩, hm1, hm2⟩
/-- One more pair is told. -/
theorem RlW.tell {B : Nat} {w : World} {g : Nat} {vo : Value} {objs : List Pair} {vp : Value} {s : LsS} (h : RlW B w g vo objs vp s) (p : Pair) (hn : s.out.length ≤ 4294967296) :
    ∃ va vp' w1, w.heap[g]? = some (.cells #[vo, va, vp, .int .i64 s.bad] 102) ∧ (∃ a m c, vp' = .slice a m c) ∧
      (Builtin.append_ #[22, 22] 22 #[vp, .slice (some ⟨w.heap.size, 0, none⟩) 1 1]).run Tryz.prog (w.alloc (.cells #[.string (strB p.1), .string (strB p.2)] 60)).drew = .ok vp' w1 ∧
      w1.heap[g]? = some (.cells #[vo, va, vp, .int .i64 s.bad] 102) ∧ RlW B (w1.setCell ⟨g, 2, none⟩ vp') g vo objs vp' ⟨s.asked, s.out ++ [p], s.bad⟩ ∧ Mv B lts vp.ownBlock w w1 ∧ Mv B lts vp.ownBlock w (w1.setCell ⟨g, 2, none⟩ vp') ∧ Nx w vp.ownBlock vp'.ownBlock := by
  have hB := h.le
  obtain ⟨hg, hl, va, hh, h1, h3⟩ := h
  obtain ⟨vp', w1, hrun, hrow, hgr, hloc⟩ := app_pair w.drew B vp s.out p h3 hB hn
  rw [drew_alloc] at hrun hgr
  rw [show w.drew.heap.size = w.heap.size from rfl] at hrun hloc
  have h1' : Rw B (w.alloc (.cells #[.string (strB p.1), .string (strB p.2)] 60)).drew 9 1 idC va s.asked := World.ownsRow.alloc h1 _
  have h3' : Rw B (w.alloc (.cells #[.string (strB p.1), .string (strB p.2)] 60)).drew 60 2 pairC vp s.out := World.ownsRow.alloc h3 _
  have hh' := (heap_past w (.cells #[.string (strB p.1), .string (strB p.2)] 60) _ (lt_of_heap hh)).trans hh
  have hh1 := grow_keep h3' hgr (show (w.alloc _).drew.heap[g]? = _ from hh') (by decide)
  have hm1 : Mv B lts vp.ownBlock w w1 := ((Mv.refl B lts vp.ownBlock w).alloc hB _).drew.grownRow h3' hgr (Nx.refl _ _) (by simp; omega)
  have hm2 := hm1.set (j := 2) hh1 (by decide) hg vp'
  refine ⟨va, vp', w1, hh, row_form hrow, hrun, hh1, ⟨hg, hl.keep hm2.b, va, (set4 hh1 _).2.1, own_setCell (grow_other h1' h3' hgr (own_ne h1' h3' (by decide))) hh1 (by decide) _, own_setCell hrow hh1 (by decide) _⟩, hm1, hm2, ?_⟩
  rcases hloc with h | h
  · exact .inl h
  · exact .inr ⟨_, h, by omega⟩
/-- The error is laid. -/
theorem RlW.err {B : Nat} {w : World} {g : Nat} {vo : Value} {objs : List Pair} {vp : Value} {s : LsS} (h : RlW B w g vo objs vp s) (e : Int) : RlW B (w.setCell ⟨g, 3, none⟩ (.int .i64 e)) g vo objs vp ⟨s.asked, s.out, e⟩ ∧ Mv B lts none w (w.setCell ⟨g, 3, none⟩ (.int .i64 e)) := by
  obtain ⟨hg, hl, va, hh, h1, h3⟩ := h
  have hm : Mv B lts none w (w.setCell ⟨g, 3, none⟩ (.int .i64 e)) := (Mv.refl B lts none w).set (j := 3) hh (by decide) hg _
  exact ⟨⟨hg, hl.keep hm.b, va, (set4 hh _).2.2, own_setCell h1 hh (by decide) _, own_setCell h3 hh (by decide) _⟩, hm⟩
/-- The first ones of what is gone to. -/
theorem takeM_skip {lo hi : Bs} {x : Pair} {r : List Pair} {s : LsS} (h : inM lo hi x.1 = false) : takeM lo hi (x :: r) s = takeM lo hi r s := by rw [takeM, if_neg (by rw [h]; simp)]
theorem takeM_stop {lo hi : Bs} {x : Pair} {r : List Pair} {s : LsS} (h : inM lo hi x.1 = true) (h2 : backM s x.1 = true) : takeM lo hi (x :: r) s = ⟨s.asked, s.out, 122⟩ := by rw [takeM, if_pos h, if_pos h2]
theorem takeM_more {lo hi : Bs} {x : Pair} {r : List Pair} {s : LsS} (h : inM lo hi x.1 = true) (h2 : backM s x.1 = false) : takeM lo hi (x :: r) s = takeM lo hi r ⟨s.asked, s.out ++ [x], s.bad⟩ := by rw [takeM, if_pos h, if_neg (by rw [h2]; simp)]
end Go.Proofs.YtimbleaafoiidaaGreatDoor
