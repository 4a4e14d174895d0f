/-
  Going through a map from its root on. Conditions: the get and whoever is told keep their words; not too much was asked.
-/
import Derived.Test.YtfeffaeinggiiaaGreatDoorJ44PGoing3
namespace Go.Proofs.YtfeffaeinggiiaaGreatDoor
open Go.RowKit

theorem results_none' {P : Program} {fn : Func} (h : fn.results = #[]) (tmps : Array Value) (w : World) : (results fn tmps).run P w = .ok (.tuple #[]) w := by simp [results, h]
set_option maxRecDepth 20000 in
theorem through_any (w : World) (gv : Value) (hgv : gv.oneCell' = true) (root lo hi : Bs) : Calls Tryz.prog 41 #[gv, .string (strB root), .agg #[.string (strB lo), .string (strB hi)]] w fun e w' => e = .returned (.func (.func 61) #[] #[.pointer (some ⟨w.heap.size, 0, none⟩), .pointer (some ⟨w.heap.size + 2, 0, none⟩), .pointer (some ⟨w.heap.size + 1, 0, none⟩)]) ∧ w' = ((w.alloc (.cells #[gv] 35)).alloc (.cells #[.string (strB root)] 9)).alloc (.cells #[.string (strB lo), .string (strB hi)] 99) := by
  have hmf : ∀ (fn : Fn) (first cap : Array Value) (w : World), (Instr.makeFunc fn first cap).run Tryz.prog w = .ok (.func fn first cap) w := fun _ _ _ _ => rfl
  go_enter Tryz.func41, Tryz.ntmps41
  go_wp2
  go_ret
  exact ⟨rfl, rfl⟩
set_option maxRecDepth 40000 in
set_option maxHeartbeats 3200000 in
theorem through1_any {σ : Type} (W : World) (l : Nat) (k : Sink σ) (g : Nat) (caps : Array Value) (fd : Bs → Option Bs) (B : Nat) (sts kts : List TypeId) (J Jx : Value → σ → World → Prop) (hY : YieldOk l k B sts J Jx) (I : World → List Bs → Prop) (hG : GetOk g caps fd B kts I) (hkt : 60 ∈ kts ∧ 128 ∈ kts ∧ ∀ t ∈ sts, t ∈ kts)
    (c1 c2 c3 : Nat) (root lo hi : Bs) (asked : List Bs) (v : Value) (s : σ) (h1 : W.heap[c1]? = some (.cells #[.func (.func g) #[] caps] 35)) (h2 : W.heap[c2]? = some (.cells #[.string (strB lo), .string (strB hi)] 99)) (h3 : W.heap[c3]? = some (.cells #[.string (strB root)] 9)) (hB : B ≤ W.heap.size) (hJ : J v s W) (hI : I W asked) (hal : asked.length ≤ 1000000) (hcap : k.cap s ≤ 1000) :
    Calls Tryz.prog 61 #[.func (.yield l) #[] #[], .pointer (some ⟨c1, 0, none⟩), .pointer (some ⟨c2, 0, none⟩), .pointer (some ⟨c3, 0, none⟩)] W fun e W' => (∃ x, e = .returned x) ∧ ∃ v', ((goT k fd lo hi 21 (rootK root) (-1) ⟨asked, [], s⟩).2 = true → J v' (goT k fd lo hi 21 (rootK root) (-1) ⟨asked, [], s⟩).1.s W') ∧ ((goT k fd lo hi 21 (rootK root) (-1) ⟨asked, [], s⟩).2 = false → Jx v' (goT k fd lo hi 21 (rootK root) (-1) ⟨asked, [], s⟩).1.s W') ∧ I W' (goT k fd lo hi 21 (rootK root) (-1) ⟨asked, [], s⟩).1.asked ∧ Mv B (gts sts) v.ownBlock W W' ∧ Nx W v.ownBlock v'.ownBlock := by
  have hgo : goT k fd lo hi 21 (rootK root) (-1) ⟨asked, [], s⟩ = intoT k (goT k fd lo hi 20) lo hi (askM fd (rootK root) (-1)) ⟨asked ++ [root], [], s⟩ := rfl
  obtain ⟨R, hR⟩ : ∃ R, R = goT k fd lo hi 21 (rootK root) (-1) ⟨asked, [], s⟩ := ⟨_, rfl⟩
  rw [← hR] at hgo ⊢
  have k1 := cell_of_row W c1 0 _ _ _ h1
  have k2 := cell_of_row W c2 0 _ _ _ h2
  have k3 := cell_of_row W c2 1 _ _ _ h2
  have hb0 : Below W.heap.size W (W.alloc (.cells #[.func (.func g) #[] caps, .string (strB lo), .string (strB hi), .func (.yield l) #[] #[], .string ⟨#[]⟩] 128)) := (Below.refl _ _).alloc (Nat.le_refl _) _
  have hn0 := heap_last W (.cells #[.func (.func g) #[] caps, .string (strB lo), .string (strB hi), .func (.yield l) #[] #[], .string ⟨#[]⟩] 128) _ rfl
  have hr0 := (hb0.block _ (lt_of_heap h3)).trans h3
  have hJ0 := hY.keep hJ (Mv.of hb0 hB) (KO.of hb0)
  have hI0 := hG.below hI hb0
  have hM0 := (Mv.refl B (gts sts) v.ownBlock W).more hb0 hB
  have hs0 : B ≤ (W.alloc (.cells #[.func (.func g) #[] caps, .string (strB lo), .string (strB hi), .func (.yield l) #[] #[], .string ⟨#[]⟩] 128)).heap.size := Nat.le_trans hB hb0.size
  have hg0 : GoW B (W.alloc (.cells #[.func (.func g) #[] caps, .string (strB lo), .string (strB hi), .func (.yield l) #[] #[], .string ⟨#[]⟩] 128)) W.heap.size (.func (.func g) #[] caps) (.func (.yield l) #[] #[]) lo hi [] := ⟨hB, hn0⟩
  have n0 := cell_of_row (W.alloc (.cells #[.func (.func g) #[] caps, .string (strB lo), .string (strB hi), .func (.yield l) #[] #[], .string ⟨#[]⟩] 128)) W.heap.size 0 _ _ _ hn0
  have r0 := cell_of_row (W.alloc (.cells #[.func (.func g) #[] caps, .string (strB lo), .string (strB hi), .func (.yield l) #[] #[], .string ⟨#[]⟩] 128)) c3 0 _ _ _ hr0
  simp only [List.getElem?_toArray, List.getElem?_cons_zero, List.getElem?_cons_succ] at k1 k2 k3 n0 r0
  have hask := ask_any (W.alloc (.cells #[.func (.func g) #[] caps, .string (strB lo), .string (strB hi), .func (.yield l) #[] #[], .string ⟨#[]⟩] 128)) g caps fd B kts I hG root asked hI0 (by omega)
  have hok := fun h => (askM_ok (fd := fd) (k := rootK root) (level := -1) hG.short h).1
  have hze := fun h => askM_zero (fd := fd) (k := rootK root) (level := -1) h
  obtain ⟨er, n, hern⟩ : ∃ er n, askM fd (rootK root) (-1) = (er, n) := ⟨_, _, rfl⟩
  rw [hern] at hask hgo hok hze
  unfold nodeIs at hask
  simp only at hask hok hze
  have HGO := hide (And.intro hgo (And.intro hok hze))
  have H0 := hide (And.intro hg0 (And.intro hJ0 hM0))
  clear hb0 hn0 hr0 hJ0 hI0 hM0 hg0 hgo hok hze hern hR h1 h2 h3 hJ hI
  go_enter Tryz.func61, Tryz.ntmps61
  go_wp2_with fail
  refine hask.mono ?_
  rintro e w1 ⟨⟨vk, vp, rfl, hrk, hrp⟩, hI1, hm1, hko1⟩
  clear hask
  generalize W.alloc (.cells #[.func (.func g) #[] caps, .string (strB lo), .string (strB hi), .func (.yield l) #[] #[], .string ⟨#[]⟩] 128) = w0 at *
  have hg1 := H0.out.1.mv hm1 (by decide) (by simp)
  have hJ1 := hY.keep H0.out.2.1 (hm1.types (by decide)) hko1
  have hM1 : Mv B (gts sts) v.ownBlock W w1 := H0.out.2.2.trans ((hm1.types (ts' := gts sts) (by intro t ht; exact jts_sub sts t (by revert ht; revert t; decide))).none (r := v.ownBlock)) (Nx.refl _ _)
  have hvlt : ∀ q, v.ownBlock = some q → q < w0.heap.size := fun q hq => by obtain ⟨cs, fr, h⟩ := hY.row H0.out.2.1 hq; exact lt_of_heap h
  have hs1 : B ≤ w1.heap.size := Nat.le_trans hs0 hm1.size
  obtain ⟨ka, km, kc, rfl⟩ := row_form hrk
  obtain ⟨pa, pm, pc, rfl⟩ := row_form hrp
  have hb2 : Below w1.heap.size w1 (w1.alloc (.cells #[.int .i64 n.1, .slice ka km kc, .slice pa pm pc] 83)) := (Below.refl _ _).alloc (Nat.le_refl _) _
  have hn2 := heap_last w1 (.cells #[.int .i64 n.1, .slice ka km kc, .slice pa pm pc] 83) _ rfl
  have hg2 := hg1.below hb2
  have hJ2 := hY.keep hJ1 (Mv.of hb2 hs1) (KO.of hb2)
  have hI2 := hG.below hI1 hb2
  have hM2 := hM1.more hb2 hs1
  have hrk2 := own_below hrk hb2
  have hrp2 := own_below hrp hb2
  generalize hw2 : w1.alloc (.cells #[.int .i64 n.1, .slice ka km kc, .slice pa pm pc] 83) = w2 at *
  have m0 := cell_of_row w2 w1.heap.size 0 _ _ _ hn2
  have m1 := cell_of_row w2 w1.heap.size 1 _ _ _ hn2
  have m2 := cell_of_row w2 w1.heap.size 2 _ _ _ hn2
  simp only [List.getElem?_toArray, List.getElem?_cons_zero, List.getElem?_cons_succ] at m0 m1 m2
  have hbn : n.2.1.length ≤ 64 ∧ (manyL n.2.2).toNat ≤ 4096 := by
    by_cases he : er = 0
    · have q1 := HGO.out.2.1 he
      exact ⟨q1.links.1, by have := q1.links.2.2.1; omega⟩
    · rw [HGO.out.2.2 he]
      simp [manyL]
  have hin := goInto_any l k g caps fd B sts kts J Jx hY I hG hkt W.heap.size lo hi 20 w2 v ⟨asked ++ [root], [], s⟩ er n _ _ hJ2 hg2 hI2 (fun he => ⟨HGO.out.2.1 he, (HGO.out.2.1 he).hi⟩) (fun W' h => ls_of_own linkC_length (h.own hrk2 (by have := hY.apart; simp [this.2.2.1]) (own_far hrk2 hvlt))) (fun W' h => ls_of_own pairC_length (h.own hrp2 (by have := hY.apart; simp [this.2.1]) (own_far hrp2 hvlt))) (by simp only [List.length_append, List.length_singleton]; omega) (by simp only; omega)
  rw [← HGO.out.1] at hin
  unfold ToldSaid at hin
  have H2 := hide hM2
  clear hko1 hrk hrp hI1 hm1 hg1 hJ1 hM1 hvlt hb2 hn2 hg2 hJ2 hI2 hM2 hrk2 hrp2 hbn n0 r0 k1 k2 k3
  go_wp2_with fail
  refine hin.mono ?_
  rintro e w3 ⟨rfl, v3, hJ3, hJx3, -, hI3, hm3, hN3⟩
  have hMM := H2.out.trans hm3 (Nx.refl _ _)
  have hNN : Nx W v.ownBlock v3.ownBlock := (Nx.refl W v.ownBlock).trans hN3 H2.out.size
  have HF := hide (And.intro hJ3 (And.intro hJx3 (And.intro hI3 (And.intro hMM hNN))))
  clear hin hJ3 hJx3 hI3 hm3 hN3 hMM hNN m0 m1 m2
  go_wp2
  go_end0
  exact ⟨⟨_, rfl⟩, v3, HF.out.1, HF.out.2.1, HF.out.2.2.1, HF.out.2.2.2.1, HF.out.2.2.2.2⟩
end Go.Proofs.YtfeffaeinggiiaaGreatDoor
