/-
  Going into nodes, all levels; going through a map. Conditions: the get and whoever is told keep their words; not too much was asked.
-/
import Derived.Test.YtfeffaeinggiiaaGreatDoorJ43PGoing2
namespace Go.Proofs.YtfeffaeinggiiaaGreatDoor
open Go.RowKit

theorem intoT_err {σ : Type} {k : Sink σ} {f : Link → Int → Tst σ → Tst σ × Bool} {lo hi : Bs} {er : Int} {n : NodeM} {t : Tst σ} (h : er ≠ 0) : intoT k f lo hi (er, n) t = (⟨t.asked, t.told, k.er t.s er⟩, false) := by unfold intoT; rw [if_pos h]
theorem intoT_stop {σ : Type} {k : Sink σ} {f : Link → Int → Tst σ → Tst σ × Bool} {lo hi : Bs} {er : Int} {n : NodeM} {t : Tst σ} (h : er = 0) (h2 : (tellT k lo hi n.2.1 t).2 = false) : intoT k f lo hi (er, n) t = ((tellT k lo hi n.2.1 t).1, false) := by unfold intoT; rw [if_neg (by rw [h]; simp), h2]; rfl
theorem intoT_on {σ : Type} {k : Sink σ} {f : Link → Int → Tst σ → Tst σ × Bool} {lo hi : Bs} {er : Int} {n : NodeM} {t : Tst σ} (h : er = 0) (h2 : (tellT k lo hi n.2.1 t).2 = true) : intoT k f lo hi (er, n) t = eachT (fun q u => f q (n.1 - 1) u) lo hi n.2.2 (tellT k lo hi n.2.1 t).1 := by unfold intoT; rw [if_neg (by rw [h]; simp), h2]; rfl
/-- What goToKids keeps. -/
def KidsOk {σ : Type} (l : Nat) (k : Sink σ) (fd : Bs → Option Bs) (B : Nat) (sts : List TypeId) (J Jx : Value → σ → World → Prop) (I : World → List Bs → Prop) (gb : Nat) (gv : Value) (lo hi : Bs) (d : Nat) : Prop :=
  ∀ (W : World) (v : Value) (t : Tst σ) (n : NodeM) (vk vp : Value), J v t.s W → GoW B W gb gv (.func (.yield l) #[] #[]) lo hi t.told → I W t.asked → RightM n → n.1 ≤ d →
    (∀ W', Mv B (gts sts) v.ownBlock W W' → Ls W'.heap.size W' 3 linkC vk n.2.2) → (∃ a m c, vp = .slice a m c) →
    t.asked.length + d * (manyL n.2.2).toNat ≤ 1000000000 → k.cap t.s + (manyL n.2.2).toNat ≤ 1000000 →
    Calls Tryz.prog 89 #[.pointer (some ⟨gb, 0, none⟩), .agg #[.int .i64 n.1, vk, vp]] W fun e W' => ToldSaid B sts J Jx I gb gv (.func (.yield l) #[] #[]) lo hi v W (eachT (fun q u => goT k fd lo hi d q (n.1 - 1) u) lo hi n.2.2 t) e W'
theorem kids_leaf {σ : Type} {l : Nat} {k : Sink σ} {g : Nat} {caps : Array Value} {fd : Bs → Option Bs} {B : Nat} {sts kts : List TypeId} {J Jx : Value → σ → World → Prop} (hY : YieldOk l k B sts J Jx) {I : World → List Bs → Prop} (hG : GetOk g caps fd B kts I) {gb : Nat} {gv : Value} {lo hi : Bs} {f : Link → Tst σ → Tst σ × Bool} (W : World) (v : Value) (t : Tst σ) (n : NodeM) (vk vp : Value) (hJ : J v t.s W) (hg : GoW B W gb gv (.func (.yield l) #[] #[]) lo hi t.told) (hI : I W t.asked) (hn : n.2.2 = []) (hsk : Ls W.heap.size W 3 linkC vk n.2.2) (hvp : ∃ a m c, vp = .slice a m c) :
    Calls Tryz.prog 89 #[.pointer (some ⟨gb, 0, none⟩), .agg #[.int .i64 n.1, vk, vp]] W fun e W' => ToldSaid B sts J Jx I gb gv (.func (.yield l) #[] #[]) lo hi v W (eachT f lo hi n.2.2 t) e W' := by
  have hB : B ≤ W.heap.size := by have := lt_of_heap hg.cell; have := hg.le; omega
  obtain ⟨pa, pm, pc, rfl⟩ := hvp
  obtain ⟨ka, kc, rfl, -⟩ := ls_none hsk
  rw [hn]
  refine (goToKids_leaf W gb n.1 pa pm pc ka kc).mono ?_
  rintro e w1 ⟨rfl, hb⟩
  exact ⟨rfl, v, fun _ => hY.keep hJ (Mv.of hb hB) (KO.of hb), fun h => (by cases h), hg.below hb, hG.below hI hb, (Mv.refl B (gts sts) v.ownBlock W).more hb hB, Nx.refl _ _⟩
set_option maxRecDepth 40000 in
set_option maxHeartbeats 3200000 in
theorem into_of_kids {σ : Type} (l : Nat) (k : Sink σ) (g : Nat) (caps : Array Value) (fd : Bs → Option Bs) (B : Nat) (sts kts : List TypeId) (J Jx : Value → σ → World → Prop) (hY : YieldOk l k B sts J Jx) (I : World → List Bs → Prop) (hG : GetOk g caps fd B kts I) (hkt : 60 ∈ kts ∧ 128 ∈ kts ∧ ∀ t ∈ sts, t ∈ kts) (gb : Nat) (lo hi : Bs) (d : Nat) (hk : KidsOk l k fd B sts J Jx I gb (.func (.func g) #[] caps) lo hi d) : IntoOk l k fd B sts J Jx I gb (.func (.func g) #[] caps) lo hi d := by
  intro W v t er n vk vp hJ hg hI hr hsk hsp hak hcap
  have hB : B ≤ W.heap.size := by have := lt_of_heap hg.cell; have := hg.le; omega
  obtain ⟨R, hR⟩ : ∃ R, R = intoT k (goT k fd lo hi d) lo hi (er, n) t := ⟨_, rfl⟩
  rw [← hR]
  obtain ⟨ka, kc, rfl, -⟩ := ls_none (hsk W (Mv.refl _ _ _ _))
  obtain ⟨pa, pc, rfl, -⟩ := ls_none (hsp W (Mv.refl _ _ _ _))
  have hb0 : Below W.heap.size W (W.alloc (.cells #[.int .i64 n.1, .slice ka n.2.2.length kc, .slice pa n.2.1.length pc] 83)) := (Below.refl _ _).alloc (Nat.le_refl _) _
  have hn0 := heap_last W (.cells #[.int .i64 n.1, .slice ka n.2.2.length kc, .slice pa n.2.1.length pc] 83) _ rfl
  have hJ0 := hY.keep hJ (Mv.of hb0 hB) (KO.of hb0)
  have hg0 := hg.below hb0
  have hI0 := hG.below hI hb0
  have hM0 := (Mv.refl B (gts sts) v.ownBlock W).more hb0 hB
  have hs0 : B ≤ (W.alloc (.cells #[.int .i64 n.1, .slice ka n.2.2.length kc, .slice pa n.2.1.length pc] 83)).heap.size := Nat.le_trans hB hb0.size
  generalize hw0 : W.alloc (.cells #[.int .i64 n.1, .slice ka n.2.2.length kc, .slice pa n.2.1.length pc] 83) = w0 at *
  have c2 := cell_of_row w0 W.heap.size 2 _ _ _ hn0
  simp only [List.getElem?_toArray, List.getElem?_cons_zero, List.getElem?_cons_succ] at c2
  by_cases he : er = 0
  · obtain ⟨hN, hnd⟩ := hr he
    have e0 : (er != 0) = false := by rw [he]; rfl
    have htp := tellPairs_any w0 l k B sts kts J Jx hY I hG.mv hkt gb (.func (.func g) #[] caps) lo hi v t hJ0 hg0 hI0 _ n.2.1 (fun W' h => hsp W' (hM0.trans h (Nx.refl _ _))) (by omega)
    have hgr := tellT_grows k lo hi n.2.1 t
    obtain ⟨r, hrr⟩ : ∃ r, r = tellT k lo hi n.2.1 t := ⟨_, rfl⟩
    rw [← hrr] at htp hgr
    unfold ToldSaid at htp
    have HR := hide hR
    have HRR := hide hrr
    have HE := hide he
    have HN := hide (And.intro hN (And.intro hnd (And.intro hsk (And.intro hak (And.intro hcap hgr)))))
    have H0 := hide (And.intro hn0 (And.intro hM0 hJ0))
    clear hR hrr he hN hnd hsk hsp hak hcap hgr hn0 hJ0 hg0 hI0 hM0 hb0 hJ hg hI hr
    cases hfl : r.2 with
    | false =>
      rw [hfl] at htp
      go_enter Tryz.func62, Tryz.ntmps62
      go_wp2_with fail
      try rw [hw0]
      go_wp2_with fail
      refine htp.mono ?_
      rintro e w1 ⟨rfl, v1, hJ1, hJx1, hg1, hI1, hm1, hN1⟩
      have hRs := HR.out.trans (intoT_stop HE.out (by rw [← HRR.out]; exact hfl))
      rw [← HRR.out] at hRs
      have hMM := H0.out.2.1.trans hm1 (Nx.refl _ _)
      have hNN : Nx W v.ownBlock v1.ownBlock := (Nx.refl W v.ownBlock).trans hN1 H0.out.2.1.size
      have HF := hide (And.intro hRs (And.intro (hJx1 trivial) (And.intro hg1 (And.intro hI1 (And.intro hMM hNN)))))
      clear htp hJ1 hJx1 hg1 hI1 hm1 hN1 hRs hMM hNN c2
      go_wp2
      go_ret
      rw [HF.out.1]
      exact ⟨rfl, v1, fun h => (by cases h), fun _ => HF.out.2.1, HF.out.2.2.1, HF.out.2.2.2.1, HF.out.2.2.2.2.1, HF.out.2.2.2.2.2⟩
    | true =>
      rw [hfl] at htp
      go_enter Tryz.func62, Tryz.ntmps62
      go_wp2_with fail
      try rw [hw0]
      go_wp2_with fail
      refine htp.mono ?_
      rintro e w1 ⟨rfl, v1, hJ1, -, hg1, hI1, hm1, hN1⟩
      have hJ1 := hJ1 trivial
      have hn1 := hm1.k _ _ _ _ H0.out.1 (by have := hY.apart; simp [this.2.2.2]) (hY.neq H0.out.2.2 H0.out.1 (by decide))
      have hMM := H0.out.2.1.trans hm1 (Nx.refl _ _)
      have hNN : Nx W v.ownBlock v1.ownBlock := (Nx.refl W v.ownBlock).trans hN1 H0.out.2.1.size
      have hgr := HN.out.2.2.2.2.2
      have hkc := hk w1 v1 r.1 n (.slice ka n.2.2.length kc) (.slice pa n.2.1.length pc) hJ1 hg1 hI1 HN.out.1 HN.out.2.1 (fun W' h => HN.out.2.2.1 W' (hMM.trans h hNN)) ⟨_, _, _, rfl⟩ (by have := HN.out.2.2.2.1; have := hgr.1; omega) (by have := HN.out.2.2.2.2.1; have := hgr.2; omega)
      have hRs := HR.out.trans (intoT_on HE.out (by rw [← HRR.out]; exact hfl))
      rw [← HRR.out] at hRs
      rw [← hRs] at hkc
      unfold ToldSaid at hkc
      have n0 := cell_of_row w1 W.heap.size 0 _ _ _ hn1
      have n1 := cell_of_row w1 W.heap.size 1 _ _ _ hn1
      have n2 := cell_of_row w1 W.heap.size 2 _ _ _ hn1
      simp only [List.getElem?_toArray, List.getElem?_cons_zero, List.getElem?_cons_succ] at n0 n1 n2
      have H1 := hide (And.intro hMM hNN)
      clear htp hJ1 hg1 hI1 hm1 hN1 hRs hMM hNN c2 hgr hn1
      go_wp2_with fail
      refine hkc.mono ?_
      rintro e w2 ⟨rfl, v2, hJ2, hJx2, hg2, hI2, hm2, hN2⟩
      have hMM := H1.out.1.trans hm2 H1.out.2
      have hNN : Nx W v.ownBlock v2.ownBlock := H1.out.2.trans hN2 H1.out.1.size
      have HF := hide (And.intro hJ2 (And.intro hJx2 (And.intro hg2 (And.intro hI2 (And.intro hMM hNN)))))
      clear hkc hJ2 hJx2 hg2 hI2 hm2 hN2 hMM hNN n0 n1 n2
      go_wp2
      go_ret
      exact ⟨rfl, v2, HF.out.1, HF.out.2.1, HF.out.2.2.1, HF.out.2.2.2.1, HF.out.2.2.2.2.1, HF.out.2.2.2.2.2⟩
  · have e0 : (er != 0) = true := by simpa using he
    have hfa := fail_any w0 l k B sts J Jx hY gb (.func (.func g) #[] caps) lo hi t.told v t.s er he hJ0 hg0
    have hRs := hR.trans (intoT_err he)
    have HRS := hide hRs
    have H0 := hide (And.intro hg0 (And.intro hI0 (And.intro hM0 hJ0)))
    clear hR he hsk hsp hak hcap hn0 hJ0 hg0 hI0 hM0 hb0 hJ hg hI hr hRs
    go_enter Tryz.func62, Tryz.ntmps62
    go_wp2_with fail
    try rw [hw0]
    go_wp2_with fail
    refine hfa.mono ?_
    rintro e w1 ⟨rfl, v1, hJx, hM1, hN1⟩
    have hI1 := hG.mv H0.out.2.1 (hM1.absorb (fun q hq => hY.row H0.out.2.2.2 hq) hkt.1 hkt.2.2)
    have hg1 := H0.out.1.mv hM1 hY.apart.1 (hY.ne H0.out.2.2.2 H0.out.1)
    have hMM := H0.out.2.2.1.trans (hM1.types (gts_sub sts)) (Nx.refl _ _)
    have hNN : Nx W v.ownBlock v1.ownBlock := (Nx.refl W v.ownBlock).trans hN1 H0.out.2.2.1.size
    have HF := hide (And.intro hJx (And.intro hg1 (And.intro hI1 (And.intro hMM hNN))))
    clear hfa hJx hM1 hN1 hI1 hg1 hMM hNN c2
    go_wp2
    go_ret
    rw [HRS.out]
    exact ⟨rfl, v1, fun h => (by cases h), fun _ => HF.out.1, HF.out.2.1, HF.out.2.2.1, HF.out.2.2.2.1, HF.out.2.2.2.2⟩
theorem goInto_any {σ : Type} (l : Nat) (k : Sink σ) (g : Nat) (caps : Array Value) (fd : Bs → Option Bs) (B : Nat) (sts kts : List TypeId) (J Jx : Value → σ → World → Prop) (hY : YieldOk l k B sts J Jx) (I : World → List Bs → Prop) (hG : GetOk g caps fd B kts I) (hkt : 60 ∈ kts ∧ 128 ∈ kts ∧ ∀ t ∈ sts, t ∈ kts) (gb : Nat) (lo hi : Bs) : ∀ (d : Nat), IntoOk l k fd B sts J Jx I gb (.func (.func g) #[] caps) lo hi d := by
  intro d
  induction d with
  | zero =>
    refine into_of_kids l k g caps fd B sts kts J Jx hY I hG hkt gb lo hi 0 ?_
    intro W v t n vk vp hJ hg hI hN hnd hsk hvp _ _
    have h0 : n.1 = 0 := by have := hN.lo; simp at hnd; omega
    exact kids_leaf hY hG W v t n vk vp hJ hg hI (hN.leaf h0).1 (hsk W (Mv.refl _ _ _ _)) hvp
  | succ d ih =>
    refine into_of_kids l k g caps fd B sts kts J Jx hY I hG hkt gb lo hi (d + 1) ?_
    intro W v t n vk vp hJ hg hI hN hnd hsk hvp hak hcap
    by_cases h0 : n.1 = 0
    · exact kids_leaf hY hG W v t n vk vp hJ hg hI (hN.leaf h0).1 (hsk W (Mv.refl _ _ _ _)) hvp
    · obtain ⟨pa, pm, pc, rfl⟩ := hvp
      obtain ⟨ka, kc, rfl, -⟩ := ls_none (hsk W (Mv.refl _ _ _ _))
      have hlo := hN.lo
      exact goToKids_any W l k g caps fd B sts kts J Jx hY I hG hkt gb lo hi d ih v t hJ hg hI n.1 n.2.2 ka kc pa pm pc (by omega) (by simpa using hnd) hN.hi hN.links.2.1 hsk hN.links.2.2.2 hak hcap
end Go.Proofs.YtfeffaeinggiiaaGreatDoor
