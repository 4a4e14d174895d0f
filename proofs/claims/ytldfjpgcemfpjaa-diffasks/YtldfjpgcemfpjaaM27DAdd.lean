/-
  Texts joined: DAdd, DInto0, DInto, DThrough0.
-/
import Derived.Test.YtldfjpgcemfpjaaM26DRead
/-
  A node met, whether it was known or not; a leaf's pairs told. Conditions: the comparing lies there; not too much.
-/
namespace Go.Proofs.Ytldfjpgcemfpjaa
open Go.RowKit

section
variable {B : Nat} {w : World} {c mb : Nat} {gv : Value} {S : Gh} {σ : Cm}
theorem meet_any (h : CmW B w c mb gv S σ) (ho : Okm σ) {i : Nat} (hi : i < 2) (k : Link) (l : Nat) (hl : l ≤ 20) (body : Option NodeM) (bp : Value) (hbp : BpW B w S.tg bp body) (hbo : ∀ n, body = some n → RightM n ∧ n.1 = l ∧ linkM k.2.1 n = k) (hn : ∀ l, l < 21 → (σ.lev i l).length ≤ 4294967296) :
    Calls Try.prog 46 #[.pointer (some ⟨c, 0, none⟩), .int .i64 i, .agg #[.string (strB k.1), .string (strB k.2.1), .int .i64 k.2.2, .int .i64 l, .bool false, .bool false, bp]] w fun e w' => e = .returned (.int .i64 (meetM σ i k l body).1) ∧ ((meetM σ i k l body).1 = 0 → ∃ S', CmW B w' c mb gv S' (meetM σ i k l body).2 ∧ (∀ j, j ≠ 22 * i + l → S'.rv j = S.rv j) ∧ ∀ x ∈ σ.met, S'.ad x = S.ad x) ∧ Mv B dts none w w' := by
  by_cases hid : k.2.1 ∈ σ.met
  · exact meet_known h ho hi k l hl body bp hn hid
  · exact meet_new h ho hi k l hl body bp hbp hbo hn hid
theorem updN_same {f : Bs → Nd} {x : Bs} {v : Nd} : updN f x v x = v := if_pos rfl
theorem updN_other {f : Bs → Nd} {x y : Bs} {v : Nd} (h : y ≠ x) : updN f x v y = f y := if_neg h
theorem Okm.hang (ho : Okm σ) (i : Nat) {id : Bs} (hid : id ∈ σ.met) : Okm (hangM σ i id) := by
  have hl := ho.lvl id hid
  have hq : ∀ x, (updN σ.nd id (setOn (σ.nd id) i) x).link = (σ.nd x).link ∧ (updN σ.nd id (setOn (σ.nd id) i) x).level = (σ.nd x).level ∧ (updN σ.nd id (setOn (σ.nd id) i) x).body = (σ.nd x).body := fun x => by
    by_cases hx : x = id
    · rw [hx, updN_same]; exact ⟨rfl, rfl, rfl⟩
    · rw [updN_other hx]; exact ⟨rfl, rfl, rfl⟩
  refine ⟨fun x hx => ?_, fun j l x hx => ?_, fun x hx => ?_, fun x hx n hb => ?_, ho.nodup⟩
  · show (updN σ.nd id (setOn (σ.nd id) i) x).link.2.1 = x
    rw [(hq x).1]; exact ho.self x hx
  · show x ∈ σ.met ∧ (updN σ.nd id (setOn (σ.nd id) i) x).level = l
    rw [(hq x).2.1]
    by_cases hj : j = i ∧ l = (σ.nd id).level.toNat
    · have hx' : x ∈ σ.lev i (σ.nd id).level.toNat ++ [id] := by
        have : (hangM σ i id).lev j l = σ.lev i (σ.nd id).level.toNat ++ [id] := if_pos hj
        rw [← this]; exact hx
      rcases List.mem_append.1 hx' with hx' | hx'
      · obtain ⟨g1, g2⟩ := ho.lev _ _ _ hx'
        exact ⟨g1, by rw [g2, hj.2]⟩
      · rw [List.mem_singleton.1 hx']
        exact ⟨hid, by rw [hj.2]; omega⟩
    · have : (hangM σ i id).lev j l = σ.lev j l := if_neg hj
      exact ho.lev j l x (this ▸ hx)
  · show 0 ≤ (updN σ.nd id (setOn (σ.nd id) i) x).level ∧ (updN σ.nd id (setOn (σ.nd id) i) x).level ≤ 20
    rw [(hq x).2.1]; exact ho.lvl x hx
  · have hb' : (updN σ.nd id (setOn (σ.nd id) i) x).body = some n := hb
    show RightM n ∧ n.1 = (updN σ.nd id (setOn (σ.nd id) i) x).level ∧ linkM x n = (updN σ.nd id (setOn (σ.nd id) i) x).link
    rw [(hq x).2.2] at hb'
    rw [(hq x).1, (hq x).2.1]
    exact ho.bod x hx n hb'
theorem knowM_mem (k : Link) (level : Int) (body : Option NodeM) : k.2.1 ∈ (knowM σ k level body).met := by
  unfold knowM
  split
  · assumption
  · simp
theorem Okm.meet (ho : Okm σ) {i : Nat} {k : Link} {l : Nat} {body : Option NodeM} (hl : l ≤ 20) (hbo : ∀ n, body = some n → RightM n ∧ n.1 = l ∧ linkM k.2.1 n = k) : Okm (meetM σ i k l body).2 := by
  have h1 := ho.known (k := k) (level := l) (body := body) (by omega) (by omega) hbo
  unfold meetM
  split
  · exact h1
  · exact h1.hang i (knowM_mem k l body)
theorem Try.zPairD : (Try.prog.info? 48).map (fun i => (i.zero, i.size, i.bytes)) = some (some (.agg #[.string ⟨#[]⟩, .string ⟨#[]⟩]), 2, 32) := by kernel_rfl
theorem app_nil_pair (W : World) (ao : Option Addr) (n c : Nat) (hnc : n ≤ c) (hz : ao = none → n = 0 ∧ c = 0) : (Builtin.append_ #[49, 49] 49 #[.slice ao n c, .slice none 0 0]).run Try.prog W = .ok (.slice ao n c) W := by
  obtain ⟨i0, hi0, hz0, hz1, hz2⟩ := info_parts Try.zPairD
  cases ao with
  | some a => simp [Builtin.append_, run_underlying Try.underlying49, sizeOf, typeInfo, zeroValue, hi0, Builtin.lenOf, run_firstCells_none, hnc, storeCells, Result.andThen]
  | none =>
    obtain ⟨rfl, rfl⟩ := hz rfl
    simp [Builtin.append_, run_underlying Try.underlying49, sizeOf, typeInfo, zeroValue, hi0, Builtin.lenOf, run_firstCells_none,Result.andThen]
theorem app_pairsD (w : World) (B B' : Nat) (v u : Value) (xs ys : List Pair) (h : Rw B w 48 2 pairC v xs) (hu : Rw B' w 48 2 pairC u ys) (hB : B ≤ w.heap.size) (hn : xs.length + ys.length ≤ 4294967296) :
    ∃ v' w', (Builtin.append_ #[49, 49] 49 #[v, u]).run Try.prog w = .ok v' w' ∧ Rw B w' 48 2 pairC v' (xs ++ ys) ∧ w.grownBy w' v.ownBlock ∧ (v'.ownBlock = v.ownBlock ∨ ∃ q, v'.ownBlock = some q ∧ w.heap.size ≤ q) := by
  obtain ⟨i0, hi, hz0, hz1, hz2⟩ := info_parts Try.zPairD
  have hk2 := hu.2
  rcases hk2 with ⟨rfl, h0⟩ | ⟨g4, cap4, cur4, rfl, -, -, -, -, -, -⟩
  · have hy : ys = [] := List.length_eq_zero_iff.1 h0
    subst hy
    have hv := h.2
    rw [List.append_nil]
    rcases hv with ⟨rfl, h0'⟩ | ⟨g5, cap5, cur5, rfl, q1, q2, q3, q4, q5, q6⟩
    · exact ⟨_, w, app_nil_pair w none 0 0 (Nat.le_refl _) (fun _ => ⟨rfl, rfl⟩), h, ⟨rfl, rfl, rfl, Nat.le_refl _, fun _ _ _ => rfl⟩, .inl rfl⟩
    · exact ⟨_, w, app_nil_pair w _ _ _ (by omega) (by simp), h, ⟨rfl, rfl, rfl, Nat.le_refl _, fun _ _ _ => rfl⟩, .inl rfl⟩
  have hfl : ∀ zs : List Pair, (zs.flatMap pairC).length = zs.length * 2 := fun zs => by
    induction zs with
    | nil => rfl
    | cons z zs ih => rw [List.flatMap_cons, List.length_append, ih, List.length_cons]; simp [pairC]; omega
  obtain ⟨v5, w5, hrun5, own5, hgr5, -, h5⟩ := run_append_own_at (P := Try.prog) w B 49 49 48 i0 (.agg #[.string ⟨#[]⟩, .string ⟨#[]⟩]) 2 32 Try.underlying49 hi hz0 hz1 hz2 rfl (by decide) v xs.length (xs.flatMap pairC) h ⟨g4, 0, none⟩ ys.length cap4 (ys.flatMap pairC) (hfl ys) (World.ownsRow.cells hu (g := g4) rfl) (by intro x hx; obtain ⟨y, -, hy⟩ := List.mem_flatMap.1 hx; simp [pairC] at hy; rcases hy with rfl | rfl <;> simp [Value.oneCell']) (by unfold maxLen; omega) (by omega) hB
  rw [← List.flatMap_append, ← List.length_append] at own5
  refine ⟨v5, w5, hrun5, own5, hgr5, ?_⟩
  rcases h5 with h5 | h5
  · exact .inl h5
  · exact .inr ⟨_, h5, Nat.le_refl _⟩
theorem dltB_total : ∀ (a b : Bs), ltB a b = false → ltB b a = false → a = b
  | [], [], _, _ => rfl
  | [], b :: m, h, _ => by rw [ltB_nil_cons] at h; cases h
  | a :: l, [], _, h => by rw [ltB_nil_cons] at h; cases h
  | a :: l, b :: m, h1, h2 => by
    rw [ltB_cons, Bool.or_eq_false_iff] at h1 h2
    have hab : a = b := by
      have h3 := of_decide_eq_false h1.1
      have h4 := of_decide_eq_false h2.1
      exact UInt8.le_antisymm (UInt8.not_lt.1 h4) (UInt8.not_lt.1 h3)
    subst hab
    have h3 := h1.2
    have h4 := h2.2
    simp only [beq_self_eq_true, Bool.true_and] at h3 h4
    rw [dltB_total l m h3 h4]
theorem dltB_irrefl : ∀ (a : Bs), ltB a a = false
  | [] => ltB_nil _
  | a :: l => by rw [ltB_cons, dltB_irrefl l]; simp
theorem leB_eq (a b : Bs) : (ltB a b || a == b) = !ltB b a := by
  cases h1 : ltB a b with
  | true =>
    cases h2 : ltB b a with
    | true => have := ltB_trans _ _ _ h1 h2; rw [dltB_irrefl] at this; cases this
    | false => rfl
  | false =>
    cases h2 : ltB b a with
    | true =>
      have : a ≠ b := by rintro rfl; rw [h1] at h2; cases h2
      simpa using this
    | false => rw [dltB_total a b h1 h2]; simp
theorem leq_strD (t : TypeId) (a b : Bs) : binOp .leq t (.string (strB a)) (.string (strB b)) = pure (.bool (!ltB b a)) := by
  rw [← leB_eq]
  simp [binOp, Op.stringOp, toLr, ltB]
set_option maxRecDepth 40000 in
set_option maxHeartbeats 3200000 in
theorem add_any (h : CmW B w c mb gv S σ) {i : Nat} (hi : i < 2) (ps : List Pair) (vp : Value) (hp : Rw B w 48 2 pairC vp ps) (hn : (σ.prs i).length + ps.length ≤ 4294967296) :
    Calls Try.prog 60 #[.pointer (some ⟨c, 2 + i * 22, none⟩), vp] w fun e w' => e = .returned (.bool (fitP (σ.prs i) ps)) ∧ (fitP (σ.prs i) ps = true → ∃ S', CmW B w' c mb gv S' (pairsM σ i ps) ∧ (∀ j, j ≠ 22 * i + 21 → S'.rv j = S.rv j) ∧ S'.ad = S.ad) ∧ Mv B dts none w w' := by
  have hB := h.le
  have hK44 : 22 * i + 21 < 44 := by omega
  have hrow := h.prs i hi
  obtain ⟨r0, fz⟩ := h.rowAt hK44
  rw [show 2 + (22 * i + 21) = 2 + i * 22 + 21 by omega] at r0 fz
  have h1 := h.below (Below.refl w.heap.size w).drew
  have hp1 : Rw B w.drew 48 2 pairC vp ps := hp
  obtain ⟨v', w3, hrun, hrow3, hgr, hvo⟩ := app_pairsD w.drew B B (S.rv (22 * i + 21)) vp (σ.prs i) ps (h1.prs i hi) hp1 hB hn
  obtain ⟨cs3, hc3, hsz3, -, -, hk3⟩ := h1.blk
  have hc3' := grow_keep (h1.prs i hi) hgr hc3 (by decide)
  have fz3 : w3.frozen? ⟨c, 2 + i * 22 + 21, none⟩ = false := frozen0 hc3'
  have kc : ∃ u, w3.cell? ⟨c, 2 + i * 22 + 21, none⟩ = some u := by
    rw [cell_of_row w3 c _ _ _ _ hc3', show 2 + i * 22 + 21 = 22 * i + 21 + 2 by omega, hk3 _ hK44]
    exact ⟨_, rfl⟩
  obtain ⟨u3, ku⟩ := kc
  have hCF := h1.grown hK44 (v' := v') (w1 := w3) (lev' := σ.lev) (prs' := updP σ.prs i (σ.prs i ++ ps)) (h1.prs i hi) hgr hvo (.inr rfl)
    (fun i' l' hi' hl' he => by omega)
    (fun i' hi' he => by
      obtain rfl : i' = i := by omega
      unfold updP
      rw [if_pos rfl]
      exact hrow3) (fun _ _ _ _ _ => rfl) (fun i' hi' he => if_neg (by rintro rfl; exact he rfl))
  have hMF : Mv B dts none w (w3.setCell ⟨c, 2 + (22 * i + 21), none⟩ v') := (((Mv.refl B dts none w).drew).grown (h1.prs i hi) hgr (by decide) h1.le).set hc3' (by decide) h1.base _
  have FIN : Hid (CmW B (w3.setCell ⟨c, 2 + i * 22 + 21, none⟩ v') c mb gv ⟨S.ad, fun q => if v'.ownBlock = some q then 10 + (22 * i + 21) else S.tg q, fun j => if j = 22 * i + 21 then v' else S.rv j⟩ (pairsM σ i ps) ∧ Mv B dts none w (w3.setCell ⟨c, 2 + i * 22 + 21, none⟩ v')) := by
    rw [show 2 + i * 22 + 21 = 2 + (22 * i + 21) by omega]
    exact ⟨hCF, hMF⟩
  have hMD : Mv B dts none w w.drew := (Mv.refl B dts none w).drew
  have hps := ls_of_own pairC_length hp
  have hos := ls_of_own pairC_length hrow
  obtain ⟨pa, pc, rfl, p1, p2, p4⟩ := hps
  obtain ⟨ra, rc, hrv, r1, r2, r4⟩ := hos
  obtain ⟨rm, hrm⟩ : ∃ rm, rm = (σ.prs i).length := ⟨_, rfl⟩
  rw [← hrm] at hrv r1
  unfold maxLen at p2 r2
  rw [hrv] at r0 hrun
  obtain ⟨va, vm, vc, rfl⟩ := row_form hrow3
  have HRUN := hide hrun
  have HMD := hide hMD
  generalize σ.prs i = os at *
  clear h h1 hrow hrun hrow3 hgr hvo hc3 hc3' hk3 hCF hMF hMD hp hp1 hrv hsz3
  unfold fitP
  by_cases hpe : ps = []
  · have hpl : ps.length ≤ 0 := by rw [hpe]; simp
    have hd : decide (0 < ps.length) = false := decide_eq_false (by omega)
    have HFT := hide (show (ps.isEmpty || os.isEmpty || ltB (lastP os) (headP ps)) = true by rw [hpe]; simp)
    clear hpe p4 r4 hrm
    go_enter Try.func60, Try.ntmps60
    go_wp2_with fail
    refine wp_region_held_drew (S := fun W => W.cell? ⟨c, 2 + i * 22 + 21, none⟩ = some (.slice ra rm rc)) (by kernel_rfl) (r0) (fun hHeld => ?_)
    refine takeK 0 hHeld ?_
    refine takeK 1 hHeld ?_
    refine takeK 2 hHeld ?_
    refine takeK 3 hHeld ?_
    refine skipK 4 hHeld ?_
    refine skipK 5 hHeld ?_
    refine skipK 6 hHeld ?_
    refine skipK 7 hHeld ?_
    refine skipK 8 hHeld ?_
    refine skipK 9 hHeld ?_
    refine takeK 10 hHeld ?_
    refine takeK 11 hHeld ?_
    refine skipK 12 hHeld ?_
    refine skipK 13 hHeld ?_
    refine skipK 14 hHeld ?_
    refine skipK 15 hHeld ?_
    refine skipK 16 hHeld ?_
    refine skipK 17 hHeld ?_
    refine skipK 18 hHeld ?_
    refine skipK 19 hHeld ?_
    refine skipK 20 hHeld ?_
    refine skipK 21 hHeld ?_
    refine skipK 22 hHeld ?_
    refine skipK 23 hHeld ?_
    refine skipK 24 hHeld ?_
    refine skipK 25 hHeld ?_
    refine skipK 26 hHeld ?_
    refine skipK 27 hHeld ?_
    refine skipK 28 hHeld ?_
    refine skipK 29 hHeld ?_
    refine takeK 30 hHeld ?_
    refine wpAnyH_done (by kernel_rfl) ?_ _
    clear hHeld
    go_wp2_with (at_builtin; refine wpList_plain rfl (fun K hK => wp_append_run (.tmp 40) (.tmp 41) 49 rfl rfl rfl HRUN.out (hK _ _ ?_)))
    go_wp2
    go_ret
    rw [HFT.out]
    exact ⟨rfl, fun _ => ⟨_, FIN.out.1, fun j hj => if_neg hj, rfl⟩, FIN.out.2⟩
  · have hpl : 0 < ps.length := by
      rcases ps with - | ⟨x, r⟩
      · exact absurd rfl hpe
      · simp
    have hd : decide (0 < ps.length) = true := decide_eq_true hpl
    by_cases hoe : os = []
    · have hol : rm ≤ 0 := by rw [hrm, hoe]; simp
      have hd2 : decide (0 < rm) = false := decide_eq_false (by omega)
      have HFT := hide (show (ps.isEmpty || os.isEmpty || ltB (lastP os) (headP ps)) = true by rw [hoe]; simp)
      clear hoe p4 r4 hrm
      go_enter Try.func60, Try.ntmps60
      go_wp2_with fail
      refine wp_region_held_drew (S := fun W => W.cell? ⟨c, 2 + i * 22 + 21, none⟩ = some (.slice ra rm rc)) (by kernel_rfl) (r0) (fun hHeld => ?_)
      refine takeK 0 hHeld ?_
      refine takeK 1 hHeld ?_
      refine takeK 2 hHeld ?_
      refine takeK 3 hHeld ?_
      refine takeK 4 hHeld ?_
      refine takeK 5 hHeld ?_
      refine takeK 6 hHeld ?_
      refine takeK 7 hHeld ?_
      refine takeK 8 hHeld ?_
      refine takeK 9 hHeld ?_
      refine takeK 10 hHeld ?_
      refine takeK 11 hHeld ?_
      refine skipK 12 hHeld ?_
      refine skipK 13 hHeld ?_
      refine skipK 14 hHeld ?_
      refine skipK 15 hHeld ?_
      refine skipK 16 hHeld ?_
      refine skipK 17 hHeld ?_
      refine skipK 18 hHeld ?_
      refine skipK 19 hHeld ?_
      refine skipK 20 hHeld ?_
      refine skipK 21 hHeld ?_
      refine skipK 22 hHeld ?_
      refine skipK 23 hHeld ?_
      refine skipK 24 hHeld ?_
      refine skipK 25 hHeld ?_
      refine skipK 26 hHeld ?_
      refine skipK 27 hHeld ?_
      refine skipK 28 hHeld ?_
      refine skipK 29 hHeld ?_
      refine takeK 30 hHeld ?_
      refine wpAnyH_done (by kernel_rfl) ?_ _
      clear hHeld
      go_wp2_with (at_builtin; refine wpList_plain rfl (fun K hK => wp_append_run (.tmp 40) (.tmp 41) 49 rfl rfl rfl HRUN.out (hK _ _ ?_)))
      go_wp2
      go_ret
      rw [HFT.out]
      exact ⟨rfl, fun _ => ⟨_, FIN.out.1, fun j hj => if_neg hj, rfl⟩, FIN.out.2⟩
    · have hol : 0 < rm := by
        rw [hrm]
        rcases os with - | ⟨x, r⟩
        · exact absurd rfl hoe
        · simp
      have hd2 : decide (0 < rm) = true := decide_eq_true hol
      obtain ⟨pb, po, rfl, hpB, hpc⟩ := p4 hpe
      obtain ⟨rb, ro, rfl, hrB, hrc⟩ := r4 hoe
      have e0 := hpc 0 hpl 0 _ rfl
      have e1 := hrc (rm - 1) (by omega) 0 _ rfl
      have hlg : lastP os = (os[rm - 1]'(by omega)).1 := by rw [lastP_get (by omega)]; simp only [hrm]
      have hhg : headP ps = (ps[0]'hpl).1 := by
        rcases ps with - | ⟨x, r⟩
        · exact absurd rfl hpe
        · rfl
      rw [← hlg] at e1
      rw [← hhg] at e0
      simp only [Nat.add_zero, Nat.zero_mul] at e0 e1
      have hwr : IntKind.i64.wrap ((rm : Int) - 1) = ((rm - 1 : Nat) : Int) := by rw [IntKind.wrap_i64]; omega
      have hlt0 : rm - 1 < rm := by omega
      have hle : ∀ W, _ := fun W : World => congrArg (fun s => Sem.run Try.prog s W) (leq_strD 9 (headP ps) (lastP os))
      have hle2 := leq_strD 9 (headP ps) (lastP os)
      have hFT : (ps.isEmpty || os.isEmpty || ltB (lastP os) (headP ps)) = ltB (lastP os) (headP ps) := by
        rcases ps with - | ⟨x, r⟩
        · exact absurd rfl hpe
        · rcases os with - | ⟨y, q⟩
          · exact absurd rfl hoe
          · rfl
      rw [hFT]
      clear hFT hlg hhg hpc hrc p4 r4 hrm hpe hoe hle
      cases hft : ltB (lastP os) (headP ps) with
      | true =>
        rw [hft] at hle2
        have HFT := hide hft
        clear hft
        go_enter Try.func60, Try.ntmps60
        go_wp2_with fail
        refine wp_region_held_drew (S := fun W => W.cell? ⟨c, 2 + i * 22 + 21, none⟩ = some (.slice (some ⟨rb, ro, none⟩) rm rc) ∧ W.cell? ⟨pb, po, none⟩ = some (.string (strB (headP ps))) ∧ W.cell? ⟨rb, ro + (rm - 1) * 2, none⟩ = some (.string (strB (lastP os)))) (by kernel_rfl) (⟨r0, e0, e1⟩) (fun hHeld => ?_)
        refine takeK 0 hHeld ?_
        refine takeK 1 hHeld ?_
        refine takeK 2 hHeld ?_
        refine takeK 3 hHeld ?_
        refine takeK 4 hHeld ?_
        refine takeK 5 hHeld ?_
        refine takeK 6 hHeld ?_
        refine takeK 7 hHeld ?_
        refine takeK 8 hHeld ?_
        refine takeK 9 hHeld ?_
        refine takeK 10 hHeld ?_
        refine takeK 11 hHeld ?_
        refine takeK 12 hHeld ?_
        refine takeK 13 hHeld ?_
        refine takeK 14 hHeld ?_
        refine takeK 15 hHeld ?_
        refine takeK 16 hHeld ?_
        refine takeK 17 hHeld ?_
        refine takeK 18 hHeld ?_
        refine takeK 19 hHeld ?_
        refine takeK 20 hHeld ?_
        refine takeK 21 hHeld ?_
        refine takeK 22 hHeld ?_
        refine takeK 23 hHeld ?_
        refine takeK 24 hHeld ?_
        refine takeK 25 hHeld ?_
        refine takeK 26 hHeld ?_
        refine takeK 27 hHeld ?_
        refine takeK 28 hHeld ?_
        refine takeK 29 hHeld ?_
        refine takeK 30 hHeld ?_
        refine wpAnyH_done (by kernel_rfl) ?_ _
        clear hHeld
        go_wp2_with (at_builtin; refine wpList_plain rfl (fun K hK => wp_append_run (.tmp 40) (.tmp 41) 49 rfl rfl rfl HRUN.out (hK _ _ ?_)))
        go_wp2
        go_ret
        exact ⟨rfl, fun _ => ⟨_, FIN.out.1, fun j hj => if_neg hj, rfl⟩, FIN.out.2⟩
      | false =>
        rw [hft] at hle2
        go_enter Try.func60, Try.ntmps60
        go_wp2_with fail
        refine wp_region_held_drew (S := fun W => W.cell? ⟨c, 2 + i * 22 + 21, none⟩ = some (.slice (some ⟨rb, ro, none⟩) rm rc) ∧ W.cell? ⟨pb, po, none⟩ = some (.string (strB (headP ps))) ∧ W.cell? ⟨rb, ro + (rm - 1) * 2, none⟩ = some (.string (strB (lastP os)))) (by kernel_rfl) (⟨r0, e0, e1⟩) (fun hHeld => ?_)
        refine takeK 0 hHeld ?_
        refine takeK 1 hHeld ?_
        refine takeK 2 hHeld ?_
        refine takeK 3 hHeld ?_
        refine takeK 4 hHeld ?_
        refine takeK 5 hHeld ?_
        refine takeK 6 hHeld ?_
        refine takeK 7 hHeld ?_
        refine takeK 8 hHeld ?_
        refine takeK 9 hHeld ?_
        refine takeK 10 hHeld ?_
        refine takeK 11 hHeld ?_
        refine takeK 12 hHeld ?_
        refine takeK 13 hHeld ?_
        refine takeK 14 hHeld ?_
        refine takeK 15 hHeld ?_
        refine takeK 16 hHeld ?_
        refine takeK 17 hHeld ?_
        refine takeK 18 hHeld ?_
        refine takeK 19 hHeld ?_
        refine takeK 20 hHeld ?_
        refine takeK 21 hHeld ?_
        refine takeK 22 hHeld ?_
        refine takeK 23 hHeld ?_
        refine takeK 24 hHeld ?_
        refine takeK 25 hHeld ?_
        refine takeK 26 hHeld ?_
        refine takeK 27 hHeld ?_
        refine takeK 28 hHeld ?_
        refine takeK 29 hHeld ?_
        refine takeK 30 hHeld ?_
        refine wpAnyH_done (by kernel_rfl) ?_ _
        clear hHeld
        go_wp2
        go_ret
        exact ⟨rfl, fun hx => absurd hx (by simp), HMD.out⟩
end
end Go.Proofs.Ytldfjpgcemfpjaa

/-
  Going into a node, plainly. No condition.
-/
namespace Go.Proofs.Ytldfjpgcemfpjaa
open Go.RowKit

section
variable {σ : Cm} {fd : Bs → Option Bs}
theorem kidsM_take (i : Nat) (lv : Int) : ∀ (ks : List Link) (σ : Cm) (k : Nat) (h : k < ks.length), (kidsM i lv (ks.take k) σ).1 = 0 → kidsM i lv (ks.take (k + 1)) σ = meetM (kidsM i lv (ks.take k) σ).2 i ks[k] lv none
  | x :: r, σ, 0, _, _ => by
    simp only [List.take_zero, List.take_succ_cons, kidsM, List.getElem_cons_zero]
    by_cases h : (meetM σ i x lv none).1 ≠ 0
    · rw [if_pos h]
    · rw [if_neg h]
      have : (meetM σ i x lv none).1 = 0 := by simpa using h
      rw [← this]
  | x :: r, σ, k + 1, h, h0 => by
    simp only [List.take_succ_cons, kidsM, List.getElem_cons_succ] at h0 ⊢
    by_cases hm : (meetM σ i x lv none).1 ≠ 0
    · rw [if_pos hm] at h0
      exact absurd h0 hm
    · rw [if_neg hm] at h0 ⊢
      rw [if_neg hm]
      exact kidsM_take i lv r _ k (by simpa using h) h0
theorem kidsM_stop (i : Nat) (lv : Int) : ∀ (ks : List Link) (σ : Cm) (k : Nat), (kidsM i lv (ks.take k) σ).1 ≠ 0 → kidsM i lv ks σ = kidsM i lv (ks.take k) σ
  | [], σ, k, _ => by simp
  | x :: r, σ, 0, h => by simp [kidsM] at h
  | x :: r, σ, k + 1, h => by
    simp only [List.take_succ_cons, kidsM] at h ⊢
    by_cases hm : (meetM σ i x lv none).1 ≠ 0
    · rw [if_pos hm, if_pos hm]
    · rw [if_neg hm] at h ⊢
      rw [if_neg hm]
      exact kidsM_stop i lv r _ k h
/-- What meeting leaves as it was. -/
structure Kept (σ τ : Cm) : Prop where
  met : ∀ x ∈ σ.met, x ∈ τ.met
  nd : ∀ x ∈ σ.met, (τ.nd x).link = (σ.nd x).link ∧ (τ.nd x).level = (σ.nd x).level ∧ ∀ n, (σ.nd x).body = some n → (τ.nd x).body = some n
theorem Kept.refl (σ : Cm) : Kept σ σ := ⟨fun _ h => h, fun _ _ => ⟨rfl, rfl, fun _ h => h⟩⟩
theorem Kept.trans {a b c : Cm} (h : Kept a b) (k : Kept b c) : Kept a c := ⟨fun x hx => k.met x (h.met x hx), fun x hx => by
  obtain ⟨h1, h2, h3⟩ := h.nd x hx
  obtain ⟨k1, k2, k3⟩ := k.nd x (h.met x hx)
  exact ⟨k1.trans h1, k2.trans h2, fun n hn => k3 n (h3 n hn)⟩⟩
theorem knowM_kept (k : Link) (level : Int) (body : Option NodeM) : Kept σ (knowM σ k level body) := by
  unfold knowM
  split
  · exact Kept.refl σ
  · rename_i hid
    exact ⟨fun x hx => List.mem_append_left _ hx, fun x hx => by
      have : updN σ.nd k.2.1 ⟨k, level, (false, false), body⟩ x = σ.nd x := updN_other (by rintro rfl; exact hid hx)
      simp only [this]
      exact ⟨trivial, trivial, fun _ h => h⟩⟩
theorem hangM_kept (i : Nat) (id : Bs) : Kept σ (hangM σ i id) := ⟨fun x hx => hx, fun x hx => by
  show (updN σ.nd id (setOn (σ.nd id) i) x).link = _ ∧ (updN σ.nd id (setOn (σ.nd id) i) x).level = _ ∧ ∀ n, (σ.nd x).body = some n → (updN σ.nd id (setOn (σ.nd id) i) x).body = some n
  by_cases h : x = id
  · rw [h, updN_same]; exact ⟨rfl, rfl, fun _ h => h⟩
  · rw [updN_other h]; exact ⟨rfl, rfl, fun _ h => h⟩⟩
theorem meetM_kept (i : Nat) (k : Link) (level : Int) (body : Option NodeM) : Kept σ (meetM σ i k level body).2 := by
  unfold meetM
  split
  · exact knowM_kept k level body
  · exact (knowM_kept k level body).trans (hangM_kept i _)
theorem meetM_asked (i : Nat) (k : Link) (level : Int) (body : Option NodeM) : (meetM σ i k level body).2.asked = σ.asked ∧ (meetM σ i k level body).2.prs = σ.prs := by
  unfold meetM hangM knowM
  split <;> split <;> exact ⟨rfl, rfl⟩
theorem knowM_lev (k : Link) (level : Int) (body : Option NodeM) : (knowM σ k level body).lev = σ.lev := by unfold knowM; split <;> rfl
/-- Each level has at most one more. -/
theorem meetM_len (i : Nat) (k : Link) (level : Int) (body : Option NodeM) (j l : Nat) : ((meetM σ i k level body).2.lev j l).length ≤ (σ.lev j l).length + 1 := by
  unfold meetM
  split
  · rw [knowM_lev]; omega
  · show (updL _ i _ _ j l).length ≤ _
    unfold updL
    rw [knowM_lev]
    split
    · rename_i h
      rw [h.1, h.2, List.length_append]; simp
    · omega
theorem Kept.kids (i : Nat) (lv : Int) : ∀ (ks : List Link) (σ : Cm), Kept σ (kidsM i lv ks σ).2 ∧ (kidsM i lv ks σ).2.asked = σ.asked ∧ (kidsM i lv ks σ).2.prs = σ.prs ∧ ∀ j l, ((kidsM i lv ks σ).2.lev j l).length ≤ (σ.lev j l).length + ks.length
  | [], σ => ⟨Kept.refl σ, rfl, rfl, fun _ _ => by simp [kidsM]⟩
  | k :: r, σ => by
    have h1 := meetM_kept (σ := σ) i k lv none
    have h2 := meetM_asked (σ := σ) i k lv none
    have h3 := meetM_len (σ := σ) i k lv none
    rw [kidsM]
    split
    · exact ⟨h1, h2.1, h2.2, fun j l => by have := h3 j l; simp; omega⟩
    · obtain ⟨g1, g2, g3, g4⟩ := Kept.kids i lv r (meetM σ i k lv none).2
      exact ⟨h1.trans g1, g2.trans h2.1, g3.trans h2.2, fun j l => by have := h3 j l; have := g4 j l; simp; omega⟩
theorem Okm.kids {i l : Nat} (hl : l ≤ 20) : ∀ (ks : List Link) (σ : Cm), Okm σ → Okm (kidsM i l ks σ).2
  | [], σ, h => h
  | k :: r, σ, h => by
    rw [kidsM]
    split
    · exact h.meet hl (fun n hn => by cases hn)
    · exact Okm.kids hl r _ (h.meet hl (fun n hn => by cases hn))
theorem Okm.pairs (ho : Okm σ) (i : Nat) (ps : List Pair) : Okm (pairsM σ i ps) := ⟨ho.self, ho.lev, ho.lvl, ho.bod, ho.nodup⟩
theorem Okm.asks (ho : Okm σ) (id : Bs) : Okm (askedM σ id) := ⟨ho.self, ho.lev, ho.lvl, ho.bod, ho.nodup⟩
/-- A node that was read. -/
theorem readM_ok (ho : Okm σ) (hs : ∀ id b, fd id = some b → b.length ≤ 140737488355328) {id : Bs} (_hid : id ∈ σ.met) (h : (readM fd σ id).1 = 0) :
    Okm (readM fd σ id).2 ∧ Kept σ (readM fd σ id).2 ∧ (readM fd σ id).2.lev = σ.lev ∧ (readM fd σ id).2.prs = σ.prs ∧ (readM fd σ id).2.met = σ.met ∧ (∃ n, ((readM fd σ id).2.nd id).body = some n) ∧ (readM fd σ id).2.asked.length ≤ σ.asked.length + 1 := by
  unfold readM at h ⊢
  by_cases hb : (σ.nd id).body.isSome = true
  · rw [if_pos hb]
    exact ⟨ho, Kept.refl σ, rfl, rfl, rfl, Option.isSome_iff_exists.1 hb, by simp⟩
  · rw [if_neg hb] at h ⊢
    have hbn : (σ.nd id).body = none := by simpa using hb
    by_cases he : (askM fd (rootK id) (-1)).1 ≠ 0
    · rw [if_pos he] at h
      exact absurd h he
    · rw [if_neg he] at h ⊢
      have hR := (askM_ok (fd := fd) (k := rootK id) (level := -1) hs (by simpa using he)).1
      generalize (askM fd (rootK id) (-1)).2 = n at *
      by_cases hq : n.1 ≠ (σ.nd id).level ∨ linkM id n ≠ (σ.nd id).link
      · rw [if_pos hq] at h
        cases h
      · rw [if_neg hq]
        obtain ⟨q1, q2⟩ := not_or.1 hq
        have q1 : n.1 = (σ.nd id).level := by simpa using q1
        have q2 : linkM id n = (σ.nd id).link := by simpa using q2
        have hx : ∀ x, (updN σ.nd id (bodied (σ.nd id) n) x).link = (σ.nd x).link ∧ (updN σ.nd id (bodied (σ.nd id) n) x).level = (σ.nd x).level := fun x => by
          by_cases hx : x = id
          · rw [hx, updN_same]; exact ⟨rfl, rfl⟩
          · rw [updN_other hx]; exact ⟨rfl, rfl⟩
        refine ⟨⟨fun x hm => ?_, fun i l x hm => ?_, fun x hm => ?_, fun x hm m hm2 => ?_, ho.nodup⟩, ⟨fun x hm => hm, fun x hm => ⟨(hx x).1, (hx x).2, fun m hm2 => ?_⟩⟩, rfl, rfl, rfl, ⟨n, by show (updN σ.nd id (bodied (σ.nd id) n) id).body = some n; rw [updN_same]; rfl⟩, by simp⟩
        · show (updN σ.nd id (bodied (σ.nd id) n) x).link.2.1 = x
          rw [(hx x).1]; exact ho.self x hm
        · show x ∈ σ.met ∧ (updN σ.nd id (bodied (σ.nd id) n) x).level = l
          rw [(hx x).2]; exact ho.lev i l x hm
        · show 0 ≤ (updN σ.nd id (bodied (σ.nd id) n) x).level ∧ (updN σ.nd id (bodied (σ.nd id) n) x).level ≤ 20
          rw [(hx x).2]; exact ho.lvl x hm
        · have hm2' : (updN σ.nd id (bodied (σ.nd id) n) x).body = some m := hm2
          show RightM m ∧ m.1 = (updN σ.nd id (bodied (σ.nd id) n) x).level ∧ linkM x m = (updN σ.nd id (bodied (σ.nd id) n) x).link
          rw [(hx x).1, (hx x).2]
          by_cases hxi : x = id
          · rw [hxi, updN_same] at hm2'
            injection hm2' with hm2'
            subst hm2'
            rw [hxi]
            exact ⟨hR, q1, q2⟩
          · rw [updN_other hxi] at hm2'
            exact ho.bod x hm m hm2'
        · show (updN σ.nd id (bodied (σ.nd id) n) x).body = some m
          by_cases hxi : x = id
          · rw [hxi, hbn] at hm2; cases hm2
          · rw [updN_other hxi]; exact hm2
end
end Go.Proofs.Ytldfjpgcemfpjaa

/-
  Going into a node. Conditions: the get keeps its word; the comparing lies there; not too much.
-/
namespace Go.Proofs.Ytldfjpgcemfpjaa
open Go.RowKit

section
variable {B : Nat} {w : World} {c mb g : Nat} {caps : Array Value} {fd : Bs → Option Bs} {I : World → List Bs → Prop} {S : Gh} {σ : Cm}
theorem Mv.own_none {B' : Nat} {ts : List TypeId} {w w' : World} (h : Mv B ts Option.none w w') {v : Value} {n k : Nat} {xs : List Value} {e : TypeId} (hown : w.ownsRow B' e k v n xs) (he : e ∉ ts) : w'.ownsRow B' e k v n xs :=
  h.own hown he (by cases hq : v.ownBlock with | none => exact .inl rfl | some q => exact .inr (by simp))
theorem kidsM_snoc {i : Nat} {lv : Int} {ks : List Link} {σ τ : Cm} {k : Nat} (h : k < ks.length) (h0 : kidsM i lv (ks.take k) σ = (0, τ)) : kidsM i lv (ks.take (k + 1)) σ = meetM τ i ks[k] lv none := by
  rw [kidsM_take i lv ks σ k h (by rw [h0]), h0]
set_option maxRecDepth 40000 in
set_option maxHeartbeats 3200000 in
theorem into_any (hG : GetD g caps fd B I) (h : CmW B w c mb (.func (.func g) #[] caps) S σ) (ho : Okm σ) {i : Nat} (hi : i < 2) {id : Bs} (hid : id ∈ σ.met) (hI : I w σ.asked) (hn : σ.asked.length ≤ 4294967296) (hb1 : ∀ l, l < 21 → (σ.lev i l).length + 64 ≤ 4294967296) (hb2 : (σ.prs i).length + 64 ≤ 4294967296) :
    Calls Try.prog 49 #[.pointer (some ⟨c, 0, none⟩), .int .i64 i, .pointer (some ⟨S.ad id, 0, none⟩)] w fun e w' => e = .returned (.int .i64 (intoM fd σ i id).1) ∧ ((intoM fd σ i id).1 = 0 → I w' (intoM fd σ i id).2.asked ∧ ∃ S', CmW B w' c mb (.func (.func g) #[] caps) S' (intoM fd σ i id).2 ∧ S'.rv (22 * i + (σ.nd id).level.toNat) = S.rv (22 * i + (σ.nd id).level.toNat) ∧ ∀ x ∈ σ.met, S'.ad x = S.ad x) ∧ Below B w w' := by
  have hrd := dread_any hG h ho hid hI hn
  have hok := fun h0 => readM_ok ho hG.short hid (fd := fd) h0
  have HH := hide (And.intro hG (And.intro h ho))
  clear hG h ho hI
  by_cases hr0 : (readM fd σ id).1 = 0
  rotate_left
  · unfold intoM
    rw [if_pos hr0]
    generalize readM fd σ id = R at *
    have hrb : (R.1 != 0) = true := by simpa using hr0
    have HR := hide hr0
    clear hr0 hok
    go_enter Try.func49, Try.ntmps49
    go_wp2_with fail
    refine hrd.mono ?_
    rintro e w1 ⟨rfl, -, -, hbw⟩
    have H1 := hide hbw
    clear hrd hbw
    go_wp2
    go_ret
    exact ⟨rfl, fun hx => absurd hx HR.out, H1.out⟩
  · unfold intoM
    rw [if_neg (by simpa using hr0)]
    obtain ⟨ho1, hk1, hlev1, hprs1, hmet1, ⟨n, hbn⟩, -⟩ := hok hr0
    rw [hr0] at hrd
    generalize hR : (readM fd σ id).2 = σ1 at *
    have hid1 : id ∈ σ1.met := by rw [hmet1]; exact hid
    obtain ⟨hRn, hnl, -⟩ := ho1.bod id hid1 n hbn
    obtain ⟨l1, l2, l3, l4⟩ := hRn.links
    have hlv1 := (hk1.nd id hid).2.1
    rw [← hlv1, ← hnl]
    unfold tellM
    rw [show bodyOf (σ1.nd id) = n by unfold bodyOf; rw [hbn]; rfl, ← hnl, hprs1]
    have hn0 := hRn.lo
    have hn1 := hRn.hi
    obtain ⟨R, hRR⟩ : ∃ R, R = kidsM i (n.1 - 1) n.2.2 (pairsM σ1 i n.2.1) := ⟨_, rfl⟩
    rw [← hRR]
    obtain ⟨m0, hm0⟩ : ∃ m0, m0 = n.1.toNat := ⟨_, rfl⟩
    rw [← hm0]
    have HRR := hide hRR
    have HM0 := hide hm0
    clear hok hR hr0 hRR hm0
    go_enter Try.func49, Try.ntmps49
    go_wp2_with fail
    refine hrd.mono ?_
    rintro e w1 ⟨rfl, hI1, hC1, hbw1⟩
    obtain ⟨tg, hC1⟩ := hC1 trivial
    obtain ⟨bp, hbl, hbp, haB⟩ := hC1.nodes id hid1
    have hbl' := hbl
    rw [hbn] at hbp
    obtain ⟨q, rfl, hbody⟩ := hbp
    have hbody' := hbody
    obtain ⟨vk, vp, hq, hlk, hpr, htg⟩ := hbody
    unfold ndC at hbl
    have c6 := cell_of_row w1 (S.ad id) 6 _ _ _ hbl
    have q2 := cell_of_row w1 q 2 _ _ _ hq
    simp only [List.getElem?_toArray, List.getElem?_cons_zero, List.getElem?_cons_succ] at c6 q2
    have hadd := add_any (hC1.below (Below.refl w1.heap.size w1).drew) hi n.2.1 vp (by exact hpr) (by rw [hprs1]; omega)
    rw [hprs1] at hadd
    have hii : (i : Int) < 2 := by omega
    have H1 := hide (And.intro hC1 (And.intro hI1 (And.intro hbw1 (And.intro hbl' (And.intro hbody' (And.intro hlk ho1))))))
    obtain ⟨pa, pm, pc, rfl⟩ := row_form hpr
    obtain ⟨ka, km, kc, rfl⟩ := row_form hlk
    clear hrd hC1 hI1 hbw1 hbl hbl' hbody' hlk hpr htg hq ho1
    cases hft : fitP (σ.prs i) n.2.1 with
    | false =>
      rw [hft] at hadd
      simp only []
      go_wp2_with fail
      refine wp_region_held_drew (S := fun _ => True) (by kernel_rfl) (trivial) (fun hHeld => ?_)
      refine takeK 0 hHeld ?_
      refine takeK 1 hHeld ?_
      refine takeK 2 hHeld ?_
      refine takeK 3 hHeld ?_
      refine takeK 4 hHeld ?_
      refine takeK 5 hHeld ?_
      refine takeK 6 hHeld ?_
      refine takeK 7 hHeld ?_
      refine onlyH (i := 8) rfl (by kernel_rfl) rfl (fun K hK => ?_)
      go_simp
      refine hK.out _ _ (trivial) (fun hHeld => ?_)
      clear hK K
      try simp only [Act.put, List.setIfInBounds_toArray, List.set_cons_zero, List.set_cons_succ]
      refine takeK 9 hHeld ?_
      refine takeK 10 hHeld ?_
      refine onlyH (i := 11) rfl (by kernel_rfl) rfl (fun K hK => ?_)
      go_simp
      refine hK.out _ _ (trivial) (fun hHeld => ?_)
      clear hK K
      try simp only [Act.put, List.setIfInBounds_toArray, List.set_cons_zero, List.set_cons_succ]
      refine onlyH (i := 12) rfl (by kernel_rfl) rfl (fun K hK => ?_)
      go_simp
      refine hadd.mono ?_
      rintro e w2 ⟨rfl, -, hM2⟩
      have H2 := hide hM2
      clear hadd hM2
      refine hK.out _ _ (trivial) (fun hHeld => ?_)
      clear hK K
      try simp only [Act.put, List.setIfInBounds_toArray, List.set_cons_zero, List.set_cons_succ]
      refine takeK 13 hHeld ?_
      refine wpAnyH_done (by kernel_rfl) ?_ _
      clear hHeld
      go_wp2
      go_ret
      exact ⟨rfl, H1.out.2.2.1.trans ((Below.refl _ _).drew.trans H2.out.b)⟩
    | true =>
      rw [hft] at hadd
      simp only []
      go_wp2_with fail
      refine wp_region_held_drew (S := fun _ => True) (by kernel_rfl) (trivial) (fun hHeld => ?_)
      refine takeK 0 hHeld ?_
      refine takeK 1 hHeld ?_
      refine takeK 2 hHeld ?_
      refine takeK 3 hHeld ?_
      refine takeK 4 hHeld ?_
      refine takeK 5 hHeld ?_
      refine takeK 6 hHeld ?_
      refine takeK 7 hHeld ?_
      refine onlyH (i := 8) rfl (by kernel_rfl) rfl (fun K hK => ?_)
      go_simp
      refine hK.out _ _ (trivial) (fun hHeld => ?_)
      clear hK K
      try simp only [Act.put, List.setIfInBounds_toArray, List.set_cons_zero, List.set_cons_succ]
      refine takeK 9 hHeld ?_
      refine takeK 10 hHeld ?_
      refine onlyH (i := 11) rfl (by kernel_rfl) rfl (fun K hK => ?_)
      go_simp
      refine hK.out _ _ (trivial) (fun hHeld => ?_)
      clear hK K
      try simp only [Act.put, List.setIfInBounds_toArray, List.set_cons_zero, List.set_cons_succ]
      refine onlyH (i := 12) rfl (by kernel_rfl) rfl (fun K hK => ?_)
      go_simp
      refine hadd.mono ?_
      rintro e w2 ⟨rfl, hC2, hM2⟩
      obtain ⟨S2, hC2, hrv2, had2⟩ := hC2 trivial
      have ho2 := H1.out.2.2.2.2.2.2.pairs i n.2.1
      have hid2 : id ∈ (pairsM σ1 i n.2.1).met := hid1
      have hnd2 : (pairsM σ1 i n.2.1).nd = σ1.nd := rfl
      have hprs2 : (pairsM σ1 i n.2.1).lev = σ1.lev := rfl
      have hask2 : (pairsM σ1 i n.2.1).asked = σ1.asked := rfl
      have hmet2 : (pairsM σ1 i n.2.1).met = σ1.met := rfl
      have hI2 := HH.out.1.mv H1.out.2.1 (((Mv.refl B dts none w1).drew).trans hM2 (Nx.refl _ _))
      have hbw2 : Below B w w2 := H1.out.2.2.1.trans ((Below.refl _ _).drew.trans hM2.b)
      have hRR := HRR.out
      generalize pairsM σ1 i n.2.1 = σ2 at *
      have HRQ := hide hRR
      clear hRR
      obtain ⟨bp2, hbl2, hbp2, -⟩ := hC2.nodes id hid2
      rw [hnd2] at hbl2 hbp2
      rw [hbn] at hbp2
      obtain ⟨q', rfl, vk', vp', hq', hlk', -, -⟩ := hbp2
      rw [had2] at hbl2
      unfold ndC at hbl2
      have d6 := cell_of_row w2 (S.ad id) 6 _ _ _ hbl2
      have e1 := cell_of_row w2 q' 1 _ _ _ hq'
      simp only [List.getElem?_toArray, List.getElem?_cons_zero, List.getElem?_cons_succ] at d6 e1
      have hm0 := HM0.out
      have hrvN : S2.rv (22 * i + m0) = S.rv (22 * i + m0) := hrv2 _ (by omega)
      clear hm0
      have H2 := hide (And.intro hC2 (And.intro hI2 (And.intro hbw2 (And.intro hlk' (And.intro ho2 (And.intro hrvN had2))))))
      have HP := hide (And.intro hnd2 (And.intro hprs2 (And.intro hask2 hmet2)))
      obtain ⟨ka', kc', rfl, k1, k2, k4⟩ := ls_of_own linkC_length hlk'
      unfold maxLen at k2
      clear hadd hM2 hC2 hI2 hbw2 hbl2 hq' hlk' ho2 hrv2 had2 hrvN c6 q2 k4 hnd2 hprs2 hask2 hmet2
      refine hK.out _ _ (trivial) (fun hHeld => ?_)
      clear hK K
      try simp only [Act.put, List.setIfInBounds_toArray, List.set_cons_zero, List.set_cons_succ]
      refine takeK 13 hHeld ?_
      refine wpAnyH_done (by kernel_rfl) ?_ _
      clear hHeld
      go_wp2_with fail
      go_loopw [40] (fun t wr => ∃ k : Nat, k ≤ n.2.2.length ∧ t = .int .i64 k ∧ ∃ σk Sk, kidsM i (n.1 - 1) (n.2.2.take k) σ2 = (0, σk) ∧ CmW B wr c mb (.func (.func g) #[] caps) Sk σk ∧ Okm σk ∧ Mv B dts none w2 wr ∧ Sk.rv (22 * i + m0) = S.rv (22 * i + m0) ∧ ∀ x ∈ σ2.met, Sk.ad x = S.ad x)
        (fun t _ => n.2.2.length - (intOf t).toNat)
      case atStart => exact ⟨0, by omega, rfl, σ2, S2, by simp [kidsM], H2.out.1, H2.out.2.2.2.2.1, Mv.refl _ _ _ _, H2.out.2.2.2.2.2.1, fun x _ => by rw [H2.out.2.2.2.2.2.2]⟩
      case round =>
        obtain ⟨k, hkk, rfl, σk, Sk, hkm, hCk, hok, hMk, hrvk, hadk⟩ := hrel
        have hkept := Kept.kids i (n.1 - 1) (n.2.2.take k) σ2
        rw [hkm] at hkept
        simp only at hkept
        have hidk : id ∈ σk.met := hkept.1.met id hid2
        by_cases hlt : k < n.2.2.length
        · have hne : n.1 ≠ 0 := by
            intro h0
            rw [(hRn.leaf h0).1] at hlt
            simp at hlt
          obtain ⟨l, hl⟩ : ∃ l : Nat, n.1 = (l : Int) + 1 := ⟨(n.1 - 1).toNat, by omega⟩
          have hwr : IntKind.i64.wrap (n.1 - 1) = (l : Int) := by rw [IntKind.wrap_i64]; omega
          have hsub : n.1 - 1 = (l : Int) := by omega
          rw [hsub] at hkm hwr
          have hsn := kidsM_snoc hlt hkm
          have hls := ls_of_own linkC_length (hMk.own_none H2.out.2.2.2.1 (by decide))
          obtain ⟨ka2, kc2, he2, -, -, k4⟩ := hls
          injection he2 with he2 _ he3
          subst he2 he3
          obtain ⟨b, off, rfl, hbB, hc⟩ := k4 (by rintro hx; rw [hx] at hlt; simp at hlt)
          have d0 := hc k hlt 0 _ rfl
          have d1 := hc k hlt 1 _ rfl
          have d2 := hc k hlt 2 _ rfl
          simp only [Nat.add_zero] at d0
          have hlen : ∀ l, l < 21 → (σk.lev i l).length ≤ 4294967296 := fun l hl => by
            have g1 := hkept.2.2.2 i l
            rw [HP.out.2.1, hlev1, List.length_take] at g1
            have g2 := hb1 l hl
            omega
          generalize n.2.2[k] = x at *
          obtain ⟨bpk, hblk, -, -⟩ := hCk.nodes id hidk
          rw [hadk id hid2] at hblk
          unfold ndC at hblk
          rw [(hkept.1.nd id hid2).2.1, HP.out.1, ← hnl, hl] at hblk
          have hbW : Below wr.heap.size wr (wr.alloc (.cells #[.string (strB x.1), .string (strB x.2.1), .int .i64 x.2.2] 81)) := (Below.refl _ _).alloc (Nat.le_refl _) _
          have hX := heap_last wr (.cells #[.string (strB x.1), .string (strB x.2.1), .int .i64 x.2.2] 81) _ rfl
          have hblW := (hbW.block _ (lt_of_heap hblk)).trans hblk
          have hCW := hCk.below hbW
          have hBw := hCk.le
          have hMW := hMk.more hbW hBw
          generalize hwk : wr.alloc (.cells #[.string (strB x.1), .string (strB x.2.1), .int .i64 x.2.2] 81) = wk at *
          have x0 := cell_of_row wk wr.heap.size 0 _ _ _ hX
          have x1 := cell_of_row wk wr.heap.size 1 _ _ _ hX
          have x2 := cell_of_row wk wr.heap.size 2 _ _ _ hX
          have x3 := cell_of_row wk (S.ad id) 3 _ _ _ hblW
          simp only [List.getElem?_toArray, List.getElem?_cons_zero, List.getElem?_cons_succ] at x0 x1 x2 x3
          have hwl : IntKind.i64.wrap (l : Int) = (l : Int) := by rw [IntKind.wrap_i64]; omega
          have hmt := meet_any (hCW.below (Below.refl wk.heap.size wk).drew) hok hi x l (by omega) none (.pointer none) rfl (fun m hm => by cases hm) hlen
          have hokM := hok.meet (i := i) (k := x) (l := l) (body := none) (by omega) (fun m hm => by cases hm)
          have HK := hide (And.intro hkm (And.intro hsn (And.intro hMW (And.intro hrvk (And.intro hadk (And.intro hkept (And.intro hokM hX)))))))
          have HN := hide (And.intro hsub (And.intro hl hnl))
          clear hkm hsn hMW hMk hrvk hadk hkept hCk hCW hblk hblW hbW hc k4 hok hokM hX hwr hsub hnl hlen
          go_wp2_with fail
          try rw [hwk]
          go_wp2_with fail
          by_cases hr : (meetM σk i x l none).1 = 0
          · rw [hr] at hmt
            have HR := hide hr
            clear hr
            refine wp_region_held_drew (S := fun W => W.cell? ⟨wr.heap.size, 0, none⟩ = some (.string (strB x.1)) ∧ W.cell? ⟨wr.heap.size, 1, none⟩ = some (.string (strB x.2.1)) ∧ W.cell? ⟨wr.heap.size, 2, none⟩ = some (.int .i64 x.2.2)) (by kernel_rfl) (⟨x0, x1, x2⟩) (fun hHeld => ?_)
            refine takeK 0 hHeld ?_
            refine takeK 1 hHeld ?_
            refine takeK 2 hHeld ?_
            refine takeK 3 hHeld ?_
            refine takeK 4 hHeld ?_
            refine takeK 5 hHeld ?_
            refine onlyH (i := 6) rfl (by kernel_rfl) rfl (fun K hK => ?_)
            go_simp
            refine hK.out _ _ (⟨x0, x1, x2⟩) (fun hHeld => ?_)
            clear hK K
            try simp only [Act.put, List.setIfInBounds_toArray, List.set_cons_zero, List.set_cons_succ]
            refine takeK 7 hHeld ?_
            refine takeK 8 hHeld ?_
            refine onlyH (i := 9) rfl (by kernel_rfl) rfl (fun K hK => ?_)
            go_simp
            refine hmt.mono ?_
            rintro e w5 ⟨rfl, hC5, hM5⟩
            obtain ⟨S5, hC5, hrv5, had5⟩ := hC5 rfl
            have hX5 := hM5.k _ _ _ _ (show wk.drew.heap[wr.heap.size]? = _ from HK.out.2.2.2.2.2.2.2) (by decide) (by simp)
            have z0 := cell_of_row w5 wr.heap.size 0 _ _ _ hX5
            have z1 := cell_of_row w5 wr.heap.size 1 _ _ _ hX5
            have z2 := cell_of_row w5 wr.heap.size 2 _ _ _ hX5
            simp only [List.getElem?_toArray, List.getElem?_cons_zero, List.getElem?_cons_succ] at z0 z1 z2
            have H5 := hide (And.intro hC5 (And.intro hM5 (And.intro hrv5 had5)))
            clear hC5 hM5 hrv5 had5 hX5 hmt
            refine hK.out _ _ (⟨z0, z1, z2⟩) (fun hHeld => ?_)
            clear hK K
            try simp only [Act.put, List.setIfInBounds_toArray, List.set_cons_zero, List.set_cons_succ]
            refine takeK 10 hHeld ?_
            refine wpAnyH_done (by kernel_rfl) ?_ _
            clear hHeld
            go_wp2
            go_roundw
            case rel =>
              refine ⟨k + 1, by omega, by go_num, (meetM σk i x l none).2, S5, ?_, H5.out.1, HK.out.2.2.2.2.2.2.1, ?_, ?_, ?_⟩
              · rw [HN.out.1, HK.out.2.1, ← HR.out]
              · exact HK.out.2.2.1.drew.trans H5.out.2.1 (Nx.refl _ _)
              · rw [H5.out.2.2.1 _ (by rw [HM0.out, HN.out.2.1]; omega)]
                exact HK.out.2.2.2.1
              · intro y hy
                rw [H5.out.2.2.2 y (HK.out.2.2.2.2.2.1.1.met y hy)]
                exact HK.out.2.2.2.2.1 y hy
            case measure => simp [intOf]; omega
          · have hrb : ((meetM σk i x l none).1 != 0) = true := by simpa using hr
            have HR := hide hr
            clear hr
            refine wp_region_held_drew (S := fun W => W.cell? ⟨wr.heap.size, 0, none⟩ = some (.string (strB x.1)) ∧ W.cell? ⟨wr.heap.size, 1, none⟩ = some (.string (strB x.2.1)) ∧ W.cell? ⟨wr.heap.size, 2, none⟩ = some (.int .i64 x.2.2)) (by kernel_rfl) (⟨x0, x1, x2⟩) (fun hHeld => ?_)
            refine takeK 0 hHeld ?_
            refine takeK 1 hHeld ?_
            refine takeK 2 hHeld ?_
            refine takeK 3 hHeld ?_
            refine takeK 4 hHeld ?_
            refine takeK 5 hHeld ?_
            refine onlyH (i := 6) rfl (by kernel_rfl) rfl (fun K hK => ?_)
            go_simp
            refine hK.out _ _ (⟨x0, x1, x2⟩) (fun hHeld => ?_)
            clear hK K
            try simp only [Act.put, List.setIfInBounds_toArray, List.set_cons_zero, List.set_cons_succ]
            refine takeK 7 hHeld ?_
            refine takeK 8 hHeld ?_
            refine onlyH (i := 9) rfl (by kernel_rfl) rfl (fun K hK => ?_)
            go_simp
            refine hmt.mono ?_
            rintro e w5 ⟨rfl, -, hM5⟩
            have hX5 := hM5.k _ _ _ _ (show wk.drew.heap[wr.heap.size]? = _ from HK.out.2.2.2.2.2.2.2) (by decide) (by simp)
            have z0 := cell_of_row w5 wr.heap.size 0 _ _ _ hX5
            have z1 := cell_of_row w5 wr.heap.size 1 _ _ _ hX5
            have z2 := cell_of_row w5 wr.heap.size 2 _ _ _ hX5
            simp only [List.getElem?_toArray, List.getElem?_cons_zero, List.getElem?_cons_succ] at z0 z1 z2
            have H5 := hide hM5
            clear hM5 hX5 hmt
            refine hK.out _ _ (⟨z0, z1, z2⟩) (fun hHeld => ?_)
            clear hK K
            try simp only [Act.put, List.setIfInBounds_toArray, List.set_cons_zero, List.set_cons_succ]
            refine takeK 10 hHeld ?_
            refine wpAnyH_done (by kernel_rfl) ?_ _
            clear hHeld
            have hst : R = meetM σk i x l none := by
              rw [HRQ.out, HN.out.1, kidsM_stop i l n.2.2 σ2 (k + 1) (by rw [HK.out.2.1]; exact HR.out)]
              exact HK.out.2.1
            have HST := hide hst
            clear hst
            go_wp2
            all_goals
              go_ret
              rw [HST.out]
              exact ⟨rfl, fun hx => absurd hx HR.out, H2.out.2.2.1.trans ((HK.out.2.2.1.drew.trans H5.out (Nx.refl _ _)).b)⟩
        · obtain rfl : k = n.2.2.length := by omega
          rw [List.take_length] at hkm
          have HK := hide (And.intro hkm (And.intro hCk (And.intro hMk (And.intro hrvk (And.intro hadk hkept)))))
          clear hkm hCk hMk hrvk hadk hkept hok
          go_wp2
          all_goals
            go_ret
            rw [show R = (0, σk) from HRQ.out.trans HK.out.1]
            refine ⟨rfl, fun _ => ⟨?_, Sk, HK.out.2.1, HK.out.2.2.2.1, fun x hx => HK.out.2.2.2.2.1 x (by rw [HP.out.2.2.2, hmet1]; exact hx)⟩, H2.out.2.2.1.trans HK.out.2.2.1.b⟩
            show I wr σk.asked
            rw [HK.out.2.2.2.2.2.2.1, HP.out.2.2.1]
            exact HH.out.1.mv H2.out.2.1 HK.out.2.2.1
end
end Go.Proofs.Ytldfjpgcemfpjaa

/-
  Going through a level, plainly. No condition.
-/
namespace Go.Proofs.Ytldfjpgcemfpjaa
open Go.RowKit

section
variable {σ : Cm} {fd : Bs → Option Bs}
/-- One node of a level. -/
def stepM (fd : Bs → Option Bs) (i : Nat) (σ : Cm) (id : Bs) : Int × Cm := if isSh (σ.nd id) then (0, σ) else intoM fd σ i id
theorem throughM_cons (i : Nat) (id : Bs) (r : List Bs) (σ : Cm) : throughM fd i (id :: r) σ = if (stepM fd i σ id).1 ≠ 0 then stepM fd i σ id else throughM fd i r (stepM fd i σ id).2 := by
  rw [throughM, stepM]
  by_cases h : isSh (σ.nd id) = true
  · simp [h]
  · simp only [if_neg h]
theorem throughM_take (i : Nat) : ∀ (ks : List Bs) (σ τ : Cm) (k : Nat) (h : k < ks.length), throughM fd i (ks.take k) σ = (0, τ) → throughM fd i (ks.take (k + 1)) σ = stepM fd i τ ks[k]
  | x :: r, σ, τ, 0, _, h0 => by
    simp only [List.take_zero, throughM, Prod.mk.injEq, true_and] at h0
    subst h0
    simp only [List.take_succ_cons, List.take_zero, List.getElem_cons_zero]
    rw [throughM_cons]
    by_cases h : (stepM fd i σ x).1 ≠ 0
    · rw [if_pos h]
    · rw [if_neg h, throughM]
      have : (stepM fd i σ x).1 = 0 := by simpa using h
      rw [← this]
  | x :: r, σ, τ, k + 1, h, h0 => by
    rw [List.take_succ_cons, throughM_cons] at h0 ⊢
    by_cases hm : (stepM fd i σ x).1 ≠ 0
    · rw [if_pos hm] at h0
      rw [h0] at hm
      exact absurd rfl hm
    · rw [if_neg hm] at h0 ⊢
      exact throughM_take i r _ τ k (by simpa using h) h0
theorem throughM_stop (i : Nat) : ∀ (ks : List Bs) (σ : Cm) (k : Nat), (throughM fd i (ks.take k) σ).1 ≠ 0 → throughM fd i ks σ = throughM fd i (ks.take k) σ
  | [], σ, k, _ => by simp
  | x :: r, σ, 0, h => by simp [throughM] at h
  | x :: r, σ, k + 1, h => by
    rw [List.take_succ_cons, throughM_cons] at h ⊢
    rw [throughM_cons]
    by_cases hm : (stepM fd i σ x).1 ≠ 0
    · rw [if_pos hm, if_pos hm]
    · rw [if_neg hm] at h ⊢
      rw [if_neg hm]
      exact throughM_stop i r _ k h
theorem meetM_lev {i : Nat} {k : Link} {lv : Int} {body : Option NodeM} {l : Nat} (h : lv.toNat ≠ l) (j : Nat) : (meetM σ i k lv body).2.lev j l = σ.lev j l := by
  unfold meetM
  split
  · rw [knowM_lev]
  · rename_i hodd
    show updL _ i _ _ j l = _
    unfold updL
    rw [knowM_lev, if_neg]
    rintro ⟨-, hl⟩
    unfold oddM at hodd
    simp only [Bool.or_eq_true, not_or, bne_iff_ne, ne_eq, Decidable.not_not] at hodd
    rw [hodd.2] at hl
    exact h hl.symm
theorem kidsM_lev {i : Nat} {lv : Int} {l : Nat} (h : lv.toNat ≠ l) (j : Nat) : ∀ (ks : List Link) (σ : Cm), (kidsM i lv ks σ).2.lev j l = σ.lev j l
  | [], σ => rfl
  | k :: r, σ => by
    rw [kidsM]
    split
    · exact meetM_lev h j
    · rw [kidsM_lev h j r, meetM_lev h j]
/-- A node that was gone into. -/
theorem intoM_ok (ho : Okm σ) (hs : ∀ id b, fd id = some b → b.length ≤ 140737488355328) {i : Nat} {id : Bs} (hid : id ∈ σ.met) (h : (intoM fd σ i id).1 = 0) :
    Okm (intoM fd σ i id).2 ∧ Kept σ (intoM fd σ i id).2 ∧ ∀ j l, (σ.nd id).level = (l : Nat) → (intoM fd σ i id).2.lev j l = σ.lev j l := by
  unfold intoM at h ⊢
  by_cases hr : (readM fd σ id).1 = 0
  rotate_left
  · rw [if_pos hr] at h
    exact absurd h hr
  rw [if_neg (by simpa using hr)] at h ⊢
  obtain ⟨ho1, hk1, hlev1, hprs1, hmet1, ⟨n, hbn⟩, -⟩ := readM_ok ho hs hid hr
  generalize (readM fd σ id).2 = σ1 at *
  have hid1 : id ∈ σ1.met := by rw [hmet1]; exact hid
  obtain ⟨hRn, hnl, -⟩ := ho1.bod id hid1 n hbn
  unfold tellM at h ⊢
  rw [show bodyOf (σ1.nd id) = n by unfold bodyOf; rw [hbn]; rfl, ← hnl] at h ⊢
  by_cases hf : fitP (σ1.prs i) n.2.1 = false
  · rw [if_pos hf] at h
    cases h
  · rw [if_neg hf] at h ⊢
    have hkp : Kept σ1 (pairsM σ1 i n.2.1) := ⟨fun _ h => h, fun _ _ => ⟨rfl, rfl, fun _ h => h⟩⟩
    have hop := ho1.pairs i n.2.1
    have hkk := (Kept.kids i (n.1 - 1) n.2.2 (pairsM σ1 i n.2.1)).1
    refine ⟨?_, (hk1.trans hkp).trans hkk, fun j l hl => ?_⟩
    · by_cases h0 : n.1 = 0
      · rw [(hRn.leaf h0).1]; exact hop
      · obtain ⟨m, hm⟩ : ∃ m : Nat, n.1 - 1 = (m : Int) := ⟨(n.1 - 1).toNat, by have := hRn.lo; omega⟩
        rw [hm]
        exact Okm.kids (by have := hRn.hi; omega) _ _ hop
    · rw [← (hk1.nd id hid).2.1, ← hnl] at hl
      by_cases h0 : n.1 = 0
      · rw [(hRn.leaf h0).1]; show σ1.lev j l = _; rw [hlev1]
      · rw [kidsM_lev (by have := hRn.lo; omega) j]
        show σ1.lev j l = _
        rw [hlev1]
theorem stepM_ok (ho : Okm σ) (hs : ∀ id b, fd id = some b → b.length ≤ 140737488355328) {i : Nat} {id : Bs} (hid : id ∈ σ.met) (h : (stepM fd i σ id).1 = 0) :
    Okm (stepM fd i σ id).2 ∧ Kept σ (stepM fd i σ id).2 ∧ ∀ j l, (σ.nd id).level = (l : Nat) → (stepM fd i σ id).2.lev j l = σ.lev j l := by
  unfold stepM at h ⊢
  split
  · exact ⟨ho, Kept.refl σ, fun _ _ _ => rfl⟩
  · rename_i hsh
    rw [if_neg hsh] at h
    exact intoM_ok ho hs hid h
theorem throughM_ok (hs : ∀ id b, fd id = some b → b.length ≤ 140737488355328) {i l : Nat} : ∀ (ks : List Bs) (σ τ : Cm), Okm σ → (∀ x ∈ ks, x ∈ σ.met ∧ (σ.nd x).level = l) → throughM fd i ks σ = (0, τ) → Okm τ ∧ Kept σ τ ∧ ∀ j, τ.lev j l = σ.lev j l
  | [], σ, τ, ho, _, h => by
    simp only [throughM, Prod.mk.injEq, true_and] at h
    subst h
    exact ⟨ho, Kept.refl σ, fun _ => rfl⟩
  | x :: r, σ, τ, ho, hx, h => by
    rw [throughM_cons] at h
    by_cases hm : (stepM fd i σ x).1 ≠ 0
    · rw [if_pos hm] at h
      rw [h] at hm
      exact absurd rfl hm
    · rw [if_neg hm] at h
      obtain ⟨h1, h2⟩ := hx x (by simp)
      obtain ⟨g1, g2, g3⟩ := stepM_ok ho hs h1 (by simpa using hm)
      obtain ⟨q1, q2, q3⟩ := throughM_ok hs r _ τ g1 (fun y hy => by
        obtain ⟨y1, y2⟩ := hx y (by simp [hy])
        exact ⟨g2.met y y1, by rw [(g2.nd y y1).2.1]; exact y2⟩) h
      exact ⟨q1, g2.trans q2, fun j => by rw [q3 j, g3 j l h2]⟩
end
end Go.Proofs.Ytldfjpgcemfpjaa
