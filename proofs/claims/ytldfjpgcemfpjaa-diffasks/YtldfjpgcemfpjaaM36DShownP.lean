/-
  Texts joined: DShownP, DWhole5, DShown, DShown2, DRising.
-/
import Derived.Test.YtldfjpgcemfpjaaM28DThrough
import Derived.Test.YtldfjpgcemfpjaaM30DChange2
import Derived.Test.YtldfjpgcemfpjaaM35PRBuild
import Derived.Test.YtldfjpgcemfpjaaM29DWhole
import Derived.Test.YtldfjpgcemfpjaaM34PKept
/-
  What the statements show first, plainly: two maps of two pairs that differ in one value. No condition.
-/
namespace Go.Proofs.Ytldfjpgcemfpjaa
open Go.RowKit

def twoV (v : UInt8) : List Pair := [([97], [49]), ([98], [v])]
theorem twoV_ends : ends12 1 [97] 0 = false := by kernel_rfl
theorem twoV_leaf (v : UInt8) : leafG (twoV v) = [twoV v] := by
  unfold leafG twoV
  rw [gath, if_neg (by rw [show ([] : List Pair).length + 1 = 1 from rfl, twoV_ends]; simp), gath]
  split
  · rfl
  · rfl
theorem twoV_build (v : UInt8) (h : pairsOk (twoV v) = true) : buildM (twoV v) = ((leafO (twoV v)).1, [leafO (twoV v)], 0) := by
  rw [buildM_some (by unfold twoV; simp) h (by unfold twoV; simp)]
  unfold mapR
  rw [twoV_leaf, riseL_one (by simp)]
  rfl
theorem two_ok (v : UInt8) (h : leafOk ltB (twoV v) = true) (hlen : (leafB (twoV v)).length ≤ 1000) : (leafO (twoV v)).2.length ≤ 140737488351232 ∧ nodeM (leafO (twoV v)).2 = some (0, twoV v, []) := by
  have e : (leafO (twoV v)).2 = 76 :: leafB (twoV v) := rfl
  rw [e]
  exact ⟨by simp; omega, nodeM_leaf ((takenLeaf_iff (76 :: leafB (twoV v)) (by simp; omega) (twoV v)).2 ⟨h, rfl⟩)⟩
theorem ids_ne : (leafO (twoV 50)).1 ≠ (leafO (twoV 53)).1 := by decide +kernel
section
variable {fd : Bs → Option Bs} {x y : Bs} {n m : NodeM}
/-- A node that nobody knew is met. -/
theorem meetM_fresh {σ : Cm} {i : Nat} {k : Link} {l : Nat} {body : Option NodeM} (hid : k.2.1 ∉ σ.met) : ∃ τ, meetM σ i k l body = (0, τ) ∧ τ.met = σ.met ++ [k.2.1] ∧ τ.nd k.2.1 = setOn ⟨k, l, (false, false), body⟩ i ∧ (∀ z, z ≠ k.2.1 → τ.nd z = σ.nd z) ∧ τ.lev = updL σ.lev i l (σ.lev i l ++ [k.2.1]) ∧ τ.prs = σ.prs ∧ τ.asked = σ.asked := by
  have hkn : knowM σ k l body = ⟨σ.met ++ [k.2.1], updN σ.nd k.2.1 ⟨k, l, (false, false), body⟩, σ.lev, σ.prs, σ.asked⟩ := by unfold knowM; rw [if_neg hid]
  have hod : oddM ((knowM σ k l body).nd k.2.1) i k l = false := by
    rw [hkn]
    simp only [updN_same]
    unfold oddM onAt
    by_cases hi : i = 0 <;> simp [hi]
  refine ⟨hangM (knowM σ k l body) i k.2.1, by unfold meetM; rw [hod]; simp, ?_, ?_, fun z hz => ?_, ?_, ?_, ?_⟩
  · rw [hkn]; rfl
  · rw [hkn]
    show updN _ k.2.1 (setOn (updN σ.nd k.2.1 ⟨k, l, (false, false), body⟩ k.2.1) i) k.2.1 = _
    rw [updN_same, updN_same]
  · rw [hkn]
    show updN _ k.2.1 _ z = _
    rw [updN_other hz]
    exact updN_other hz
  · rw [hkn]
    show updL σ.lev i (updN σ.nd k.2.1 ⟨k, l, (false, false), body⟩ k.2.1).level.toNat _ = _
    simp only [updN_same]
    rfl
  · rw [hkn]; rfl
  · rw [hkn]; rfl
theorem downM_skip {σ : Cm} (h : ∀ k, 1 ≤ k → σ.lev 0 k = [] ∧ σ.lev 1 k = []) : ∀ l, downM fd (l + 1) σ = downM fd 1 σ
  | 0 => rfl
  | l + 1 => by
    have hb : bothM fd (l + 1) σ = (0, σ) := by
      unfold bothM
      rw [(h (l + 1) (by omega)).1, throughM, if_neg (by simp), (h (l + 1) (by omega)).2, throughM]
    rw [downM, hb, if_neg (by simp)]
    exact downM_skip h l
/-- A leaf that is known whole is gone into. -/
theorem throughM_leaf {σ : Cm} {i : Nat} {z : Bs} {q : NodeM} (hb : (σ.nd z).body = some q) (hs : isSh (σ.nd z) = false) (hq : q.2.2 = []) (hp : σ.prs i = []) : throughM fd i [z] σ = (0, pairsM σ i q.2.1) := by
  rw [throughM_cons]
  have : stepM fd i σ z = (0, pairsM σ i q.2.1) := by
    unfold stepM
    rw [hs]
    simp only [Bool.false_eq_true, if_false]
    unfold intoM
    rw [readM_have (by rw [hb]; rfl), if_neg (by simp)]
    unfold tellM
    rw [show bodyOf (σ.nd z) = q by unfold bodyOf; rw [hb]; rfl, hp, hq]
    rw [if_neg (by unfold fitP; simp)]
    rfl
  rw [this, if_neg (by simp), throughM]
/-- Two leaves that are not one. -/
theorem leaves_down (hxy : x ≠ y) (hx : askM fd (rootK x) (-1) = (0, n)) (hy : askM fd (rootK y) (-1) = (0, m)) (hn : n.1 = 0) (hm : m.1 = 0) (hn2 : n.2.2 = []) (hm2 : m.2.2 = []) : ∃ σ, goDownM fd x y = (0, σ) ∧ σ.prs 0 = n.2.1 ∧ σ.prs 1 = m.2.1 ∧ σ.asked = [x, y] := by
  have hyx : y ≠ x := fun h => hxy h.symm
  obtain ⟨σa, a0, a1, a2, a3, a4, a5, a6⟩ := meetM_fresh (σ := askedM cm0 x) (i := 0) (k := linkM x n) (l := 0) (body := some n) (by simp [askedM, cm0])
  have hba : beginM fd cm0 0 x = (0, σa) := by
    unfold beginM
    rw [hx, if_neg (by simp), hn]
    exact a0
  have ha1 : σa.met = [x] := a1
  obtain ⟨σb, b0, b1, b2, b3, b4, b5, b6⟩ := meetM_fresh (σ := askedM σa y) (i := 1) (k := linkM y m) (l := 0) (body := some m) (by
    show y ∉ σa.met
    rw [ha1]
    simpa using hyx)
  have hbb : beginM fd σa 1 y = (0, σb) := by
    unfold beginM
    rw [hy, if_neg (by simp), hm]
    exact b0
  have hroots : rootsM fd x y = (0, σb) := by
    unfold rootsM
    rw [hba, if_neg (by simp)]
    exact hbb
  have hlev : ∀ i k, σb.lev i k = if i = 1 ∧ k = 0 then [y] else if i = 0 ∧ k = 0 then [x] else [] := fun i k => by
    rw [b4]
    show updL σa.lev 1 0 (σa.lev 1 0 ++ [y]) i k = _
    rw [a4]
    unfold updL
    by_cases h1 : i = 1 ∧ k = 0
    · simp [h1, askedM, cm0]
    · rw [if_neg h1, if_neg h1]
      by_cases h2 : i = 0 ∧ k = 0
      · simp [h2, askedM, cm0, linkM]
      · rw [if_neg h2, if_neg h2]; rfl
  have hndx : σb.nd x = setOn ⟨linkM x n, 0, (false, false), some n⟩ 0 := by
    rw [b3 x hxy]
    exact a2
  have hndy : σb.nd y = setOn ⟨linkM y m, 0, (false, false), some m⟩ 1 := b2
  have hprs : ∀ i, σb.prs i = [] := fun i => by
    rw [b5]
    show σa.prs i = []
    rw [a5]
    rfl
  have hask : σb.asked = [x, y] := by
    rw [b6]
    show σa.asked ++ [y] = _
    rw [a6]
    rfl
  have h1 : throughM fd 0 (σb.lev 0 0) σb = (0, pairsM σb 0 n.2.1) := by
    rw [hlev 0 0]
    exact throughM_leaf (by rw [hndx]; rfl) (by rw [hndx]; rfl) hn2 (hprs 0)
  have h2 : throughM fd 1 ((pairsM σb 0 n.2.1).lev 1 0) (pairsM σb 0 n.2.1) = (0, pairsM (pairsM σb 0 n.2.1) 1 m.2.1) := by
    rw [show (pairsM σb 0 n.2.1).lev 1 0 = [y] from hlev 1 0]
    refine throughM_leaf ?_ ?_ hm2 ?_
    · show (σb.nd y).body = _
      rw [hndy]; rfl
    · show isSh (σb.nd y) = _
      rw [hndy]; rfl
    · show updP σb.prs 0 (σb.prs 0 ++ n.2.1) 1 = []
      unfold updP
      rw [if_neg (by omega)]
      exact hprs 1
  have hboth : bothM fd 0 σb = (0, pairsM (pairsM σb 0 n.2.1) 1 m.2.1) := by
    unfold bothM
    rw [h1, if_neg (by simp)]
    exact h2
  refine ⟨pairsM (pairsM σb 0 n.2.1) 1 m.2.1, ?_, ?_, ?_, hask⟩
  · unfold goDownM
    rw [hroots, if_neg (by simp), downM_skip (fun k hk => ⟨by rw [hlev, if_neg (by omega), if_neg (by omega)], by rw [hlev, if_neg (by omega), if_neg (by omega)]⟩) 20, downM, hboth, if_neg (by simp), downM]
  · show updP (updP σb.prs 0 (σb.prs 0 ++ n.2.1)) 1 (updP σb.prs 0 (σb.prs 0 ++ n.2.1) 1 ++ m.2.1) 0 = n.2.1
    unfold updP
    rw [if_neg (by omega), if_pos rfl, hprs]
    rfl
  · show updP (updP σb.prs 0 (σb.prs 0 ++ n.2.1)) 1 (updP σb.prs 0 (σb.prs 0 ++ n.2.1) 1 ++ m.2.1) 1 = m.2.1
    unfold updP
    rw [if_pos rfl, if_neg (by omega), hprs]
    rfl
end
/-- The two maps that are shown have one change. -/
theorem shown_maps : ∃ asks, mapsM (findO [leafO (twoV 50), leafO (twoV 53)]) (leafO (twoV 50)).1 (leafO (twoV 53)).1 = (0, ([([98], (some [50], some [53]))], asks)) := by
  have hne := ids_ne
  obtain ⟨-, hn⟩ := two_ok 50 (by decide) (by decide +kernel)
  obtain ⟨-, hm⟩ := two_ok 53 (by decide) (by decide +kernel)
  have hf1 : findO [leafO (twoV 50), leafO (twoV 53)] (leafO (twoV 50)).1 = some (leafO (twoV 50)).2 := by unfold findO; simp
  have hf2 : findO [leafO (twoV 50), leafO (twoV 53)] (leafO (twoV 53)).1 = some (leafO (twoV 53)).2 := by
    unfold findO
    have : ((leafO (twoV 50)).1 == (leafO (twoV 53)).1) = false := by simpa using hne
    simp [this]
  obtain ⟨σ, h1, h2, h3, h4⟩ := leaves_down hne (askM_root_ok hf1 hn) (askM_root_ok hf2 hm) rfl rfl rfl rfl
  refine ⟨σ.asked, ?_⟩
  unfold mapsM
  rw [if_neg hne, h1, if_neg (by simp), h2, h3]
  rfl
end Go.Proofs.Ytldfjpgcemfpjaa

/-
  Two maps that are there whole are gone down to the end. Conditions: their pairs rise.
-/
namespace Go.Proofs.Ytldfjpgcemfpjaa
open Go.RowKit

section
variable {fd : Bs → Option Bs}
/-- A side's pairs, as far as it is gone. -/
def frP (fd : Bs → Option Bs) (σ : Cm) (i l : Nat) : List Pair := σ.prs i ++ remP fd σ i l
/-- How two whole maps stand when all levels from l on were gone through. -/
structure Dn (fd : Bs → Option Bs) (A : Nat → List Pair) (l : Nat) (σ : Cm) : Prop where
  wh : Wh fd σ
  rise : ∀ i, i < 2 → RisesD (A i)
  sub : ∀ i, i < 2 → (frP fd σ i l).Sublist (A i)
  com : ∀ i j, i < 2 → j < 2 → i ≠ j → ∀ p ∈ A i, p ∉ frP fd σ i l → p ∈ A j ∧ p ∉ frP fd σ j l
theorem flat_oneD {f : Bs → List Pair} : ∀ {ks : List Bs}, RisesD (ks.flatMap f) → ∀ {x y : Bs} {p : Pair}, x ∈ ks → y ∈ ks → p ∈ f x → p ∈ f y → x = y
  | [], _, _, _, _, hx, _, _, _ => by simp at hx
  | k :: r, h, x, y, p, hx, hy, px, py => by
    rw [List.flatMap_cons] at h
    rcases List.mem_cons.1 hx with h1 | h1
    · rcases List.mem_cons.1 hy with h2 | h2
      · rw [h1, h2]
      · rw [h1] at px
        exact (h.apart px (List.mem_flatMap.2 ⟨y, h2, py⟩)).elim
    · rcases List.mem_cons.1 hy with h2 | h2
      · rw [h2] at py
        exact (h.apart py (List.mem_flatMap.2 ⟨x, h1, px⟩)).elim
      · exact flat_oneD ((List.pairwise_append.1 h).2.1) h1 h2 px py
theorem flat_sub {f : Bs → List Pair} {q : Bs → Bool} : ∀ (ks : List Bs), ((ks.filter q).flatMap f).Sublist (ks.flatMap f)
  | [] => by simp
  | k :: r => by
    rw [List.filter_cons]
    split
    · rw [List.flatMap_cons, List.flatMap_cons]
      exact List.Sublist.append (List.Sublist.refl _) (flat_sub r)
    · rw [List.flatMap_cons]
      exact (flat_sub r).trans (List.sublist_append_right _ _)
theorem frP_next {σ : Cm} {i l : Nat} : frP fd σ i (l + 1) = frP fd σ i l ++ (σ.lev i l).flatMap (prsAt fd l) := by
  unfold frP
  rw [remP, List.append_assoc]
theorem own_sub {σ : Cm} {i l : Nat} : (frP fd σ i l ++ (ownOf σ (σ.lev i l)).flatMap (prsAt fd l)).Sublist (frP fd σ i (l + 1)) := by
  rw [frP_next]
  exact List.Sublist.append (List.Sublist.refl _) (flat_sub _)
/-- A level is gone through on both sides. -/
theorem both_whole (hs : ∀ id b, fd id = some b → b.length ≤ 140737488355328) {A : Nat → List Pair} {l : Nat} {σ : Cm} (h : Dn fd A (l + 1) σ) : ∃ τ, bothM fd l σ = (0, τ) ∧ Dn fd A l τ := by
  have hrise : ∀ i, i < 2 → RisesD (frP fd σ i (l + 1)) := fun i hi => List.Pairwise.sublist (h.sub i hi) (h.rise i hi)
  obtain ⟨τ1, a1, a2⟩ := through_whole hs (i := 0) (l := l) (by omega) (σ.lev 0 l) σ h.wh (fun _ hx => hx) (List.Pairwise.sublist own_sub (hrise 0 (by omega)))
  have l1 : ∀ m, τ1.lev 1 m = σ.lev 1 m := fun m => a2.lev 1 m (.inl (by omega))
  have p1 : τ1.prs 1 = σ.prs 1 := a2.other 1 (by omega)
  have f1 : ∀ m, frP fd τ1 1 m = frP fd σ 1 m := fun m => by
    unfold frP
    rw [p1, remP_same (fun q _ => l1 q)]
  have o1 : ownOf τ1 (σ.lev 1 l) = ownOf σ (σ.lev 1 l) := by
    unfold ownOf
    refine List.filter_congr (fun y hy => ?_)
    have hm := h.wh.ok.lev 1 l y hy
    unfold isSh
    rw [a2.on y hm.1 hm.2]
  obtain ⟨τ, b1, b2⟩ := through_whole hs (i := 1) (l := l) (by omega) (τ1.lev 1 l) τ1 a2.wh (fun _ hx => hx) (by
    rw [l1, o1]
    have := List.Pairwise.sublist own_sub (hrise 1 (by omega))
    rw [← f1 l] at this
    exact this)
  rw [l1, o1] at b2
  -- the pairs of each side now
  have e0 : frP fd τ 0 l = frP fd σ 0 l ++ (ownOf σ (σ.lev 0 l)).flatMap (prsAt fd l) := by
    have h1 : frP fd τ 0 l = frP fd τ1 0 l := by
      unfold frP
      rw [b2.other 0 (by omega), remP_same (fun q _ => b2.lev 0 q (.inl (by omega)))]
    rw [h1]
    exact a2.pairs
  have e1 : frP fd τ 1 l = frP fd σ 1 l ++ (ownOf σ (σ.lev 1 l)).flatMap (prsAt fd l) := by
    rw [← f1 l]
    exact b2.pairs
  have e : ∀ i, i < 2 → frP fd τ i l = frP fd σ i l ++ (ownOf σ (σ.lev i l)).flatMap (prsAt fd l) := fun i hi => by
    rcases (show i = 0 ∨ i = 1 by omega) with rfl | rfl
    · exact e0
    · exact e1
  refine ⟨τ, ?_, ⟨b2.wh, h.rise, fun i hi => ?_, fun i j hi hj hij p hp hn => ?_⟩⟩
  · unfold bothM
    rw [a1, if_neg (by simp)]
    exact b1
  · rw [e i hi]
    exact own_sub.trans (h.sub i hi)
  · have hnot : ∀ q, q < 2 → p ∉ frP fd σ q (l + 1) → p ∉ frP fd τ q l := fun q hq hn1 hn2 => by
      rw [e q hq] at hn2
      exact hn1 (own_sub.subset hn2)
    by_cases hin : p ∈ frP fd σ i (l + 1)
    rotate_left
    · obtain ⟨h1, h2⟩ := h.com i j hi hj hij p hp hin
      exact ⟨h1, hnot j hj h2⟩
    -- it lies below a node that both have
    rw [e i hi] at hn
    rw [frP_next] at hin
    obtain ⟨n1, n2⟩ := not_or.1 (fun h1 => hn (List.mem_append.2 h1))
    obtain ⟨x, hx, hpx⟩ := List.mem_flatMap.1 ((List.mem_append.1 hin).resolve_left n1)
    have hsh : isSh (σ.nd x) = true := by
      cases hsh : isSh (σ.nd x) with
      | true => rfl
      | false => exact absurd (List.mem_flatMap.2 ⟨x, List.mem_filter.2 ⟨hx, by rw [hsh]; rfl⟩, hpx⟩) n2
    obtain ⟨hxm, hxl⟩ := h.wh.ok.lev i l x hx
    have hxj : x ∈ σ.lev j l := by
      have h1 : onAt (σ.nd x) j = true := by
        unfold isSh at hsh
        rw [Bool.and_eq_true] at hsh
        unfold onAt
        split
        · exact hsh.1
        · exact hsh.2
      have h2 := (h.wh.on j hj x hxm).1 h1
      rw [hxl] at h2
      simpa using h2
    have hpj : p ∈ (σ.lev j l).flatMap (prsAt fd l) := List.mem_flatMap.2 ⟨x, hxj, hpx⟩
    have hrj := hrise j hj
    rw [frP_next] at hrj
    refine ⟨(h.sub j hj).subset (by rw [frP_next]; exact List.mem_append_right _ hpj), fun hm => ?_⟩
    rw [e j hj] at hm
    rcases List.mem_append.1 hm with hm | hm
    · exact hrj.apart hm hpj
    · obtain ⟨y, hy, hpy⟩ := List.mem_flatMap.1 hm
      obtain ⟨hy1, hy2⟩ := List.mem_filter.1 hy
      obtain rfl := flat_oneD ((List.pairwise_append.1 hrj).2.1) hxj hy1 hpx hpy
      rw [hsh] at hy2
      cases hy2
theorem down_whole (hs : ∀ id b, fd id = some b → b.length ≤ 140737488355328) {A : Nat → List Pair} : ∀ (l : Nat) (σ : Cm), Dn fd A l σ → ∃ τ, downM fd l σ = (0, τ) ∧ Dn fd A 0 τ
  | 0, σ, h => ⟨σ, rfl, h⟩
  | l + 1, σ, h => by
    obtain ⟨τ1, a1, a2⟩ := both_whole hs h
    obtain ⟨τ, b1, b2⟩ := down_whole hs l τ1 a2
    refine ⟨τ, ?_, b2⟩
    rw [downM, a1, if_neg (by simp)]
    exact b1
theorem remP_one {σ : Cm} {i L : Nat} {x : Bs} (h : ∀ m, σ.lev i m = if m = L then [x] else []) : ∀ (n : Nat), remP fd σ i n = if L < n then prsAt fd L x else []
  | 0 => by simp [remP]
  | n + 1 => by
    rw [remP, remP_one h n, h n]
    by_cases h1 : n = L
    · subst h1
      simp
    · by_cases h2 : L < n
      · rw [if_pos h2, if_neg h1, if_pos (by omega)]
        simp
      · rw [if_neg h2, if_neg h1, if_neg (by omega)]
        simp
/-- Both roots are met. -/
theorem roots_whole (hs : ∀ id b, fd id = some b → b.length ≤ 140737488355328) {x y : Bs} {L M : Nat} (hL : L ≤ 20) (hM : M ≤ 20) (hxy : x ≠ y) (hx : GoodN fd L x) (hy : GoodN fd M y) (hrx : RisesD (prsAt fd L x)) (hry : RisesD (prsAt fd M y)) :
    ∃ σ, rootsM fd x y = (0, σ) ∧ Dn fd (fun i => if i = 0 then prsAt fd L x else prsAt fd M y) 21 σ ∧ σ.asked = [x, y] ∧ (∀ i, σ.prs i = []) ∧ (σ.nd x).body.isSome = true ∧ (σ.nd y).body.isSome = true := by
  have hyx : y ≠ x := fun h => hxy h.symm
  obtain ⟨n, hn, hnl⟩ := hx.node
  obtain ⟨m, hm, hml⟩ := hy.node
  have hax := node_ask hn
  have hay := node_ask hm
  obtain ⟨σa, a0, a1, a2, a3, a4, a5, a6⟩ := meetM_fresh (σ := askedM cm0 x) (i := 0) (k := linkM x n) (l := L) (body := some n) (by simp [askedM, cm0])
  have hba : beginM fd cm0 0 x = (0, σa) := by
    unfold beginM
    rw [hax, if_neg (by simp), hnl]
    exact a0
  have ha1 : σa.met = [x] := a1
  obtain ⟨σb, b0, b1, b2, b3, b4, b5, b6⟩ := meetM_fresh (σ := askedM σa y) (i := 1) (k := linkM y m) (l := M) (body := some m) (by
    show y ∉ σa.met
    rw [ha1]
    simpa using hyx)
  have hbb : beginM fd σa 1 y = (0, σb) := by
    unfold beginM
    rw [hay, if_neg (by simp), hml]
    exact b0
  have hroots : rootsM fd x y = (0, σb) := by
    unfold rootsM
    rw [hba, if_neg (by simp)]
    exact hbb
  have hmet : σb.met = [x, y] := by
    rw [b1]
    show σa.met ++ [y] = _
    rw [ha1]
    rfl
  have hlev : ∀ i k, σb.lev i k = if i = 1 ∧ k = M then [y] else if i = 0 ∧ k = L then [x] else [] := fun i k => by
    rw [b4]
    show updL σa.lev 1 M (σa.lev 1 M ++ [y]) i k = _
    rw [a4]
    unfold updL
    by_cases h1 : i = 1 ∧ k = M
    · simp [h1, askedM, cm0]
    · rw [if_neg h1, if_neg h1]
      by_cases h2 : i = 0 ∧ k = L
      · simp [h2, askedM, cm0, linkM]
      · rw [if_neg h2, if_neg h2]; rfl
  have hndx : σb.nd x = setOn ⟨linkM x n, L, (false, false), some n⟩ 0 := by
    rw [b3 x hxy]
    exact a2
  have hndy : σb.nd y = setOn ⟨linkM y m, M, (false, false), some m⟩ 1 := b2
  have hprs : ∀ i, σb.prs i = [] := fun i => by
    rw [b5]
    show σa.prs i = []
    rw [a5]
    rfl
  have hask : σb.asked = [x, y] := by
    rw [b6]
    show σa.asked ++ [y] = _
    rw [a6]
    rfl
  have hok : Okm σb := (rootsM_bnd hs hroots).ok
  have hWh : Wh fd σb := by
    refine ⟨hok, fun id hid => ?_, fun i l id hid => ?_, fun i hi id hid => ?_⟩
    · rw [hmet] at hid
      rcases List.mem_cons.1 hid with rfl | hid
      · rw [hndx]
        exact ⟨n, hn, rfl, hnl.symm, .inr rfl⟩
      · obtain rfl := List.mem_singleton.1 hid
        rw [hndy]
        exact ⟨m, hm, rfl, hml.symm, .inr rfl⟩
    · rw [hlev] at hid
      split at hid
      · rename_i h1
        obtain rfl := List.mem_singleton.1 hid
        rw [h1.2]; exact hy
      · split at hid
        · rename_i h1
          obtain rfl := List.mem_singleton.1 hid
          rw [h1.2]; exact hx
        · simp at hid
    · rw [hmet] at hid
      rcases List.mem_cons.1 hid with rfl | hid
      · rw [hndx, hlev]
        rcases (show i = 0 ∨ i = 1 by omega) with rfl | rfl
        · simp [onAt, setOn]
        · by_cases h1 : L = M
          · simp [onAt, setOn, h1, hxy]
          · simp [onAt, setOn, h1]
      · obtain rfl := List.mem_singleton.1 hid
        rw [hndy, hlev]
        rcases (show i = 0 ∨ i = 1 by omega) with rfl | rfl
        · by_cases h1 : M = L
          · simp [onAt, setOn, h1, hyx]
          · simp [onAt, setOn, h1]
        · simp [onAt, setOn]
  have f0 : frP fd σb 0 21 = prsAt fd L x := by
    unfold frP
    rw [hprs, remP_one (L := L) (x := x) (fun m => by rw [hlev]; simp), if_pos (by omega)]
    rfl
  have f1 : frP fd σb 1 21 = prsAt fd M y := by
    unfold frP
    rw [hprs, remP_one (L := M) (x := y) (fun m => by rw [hlev]; simp), if_pos (by omega)]
    rfl
  have f : ∀ i, i < 2 → frP fd σb i 21 = if i = 0 then prsAt fd L x else prsAt fd M y := fun i hi => by
    rcases (show i = 0 ∨ i = 1 by omega) with rfl | rfl
    · rw [f0]; rfl
    · rw [f1]; rfl
  refine ⟨σb, hroots, ⟨hWh, fun i hi => ?_, fun i hi => ?_, fun i j hi hj hij p hp hn => ?_⟩, hask, hprs, by rw [hndx]; rfl, by rw [hndy]; rfl⟩
  · show RisesD (if i = 0 then prsAt fd L x else prsAt fd M y)
    split
    · exact hrx
    · exact hry
  · rw [f i hi]
    exact List.Sublist.refl _
  · rw [f i hi] at hn
    exact absurd hp hn
/-- What is told of two whole maps. -/
theorem maps_whole (hs : ∀ id b, fd id = some b → b.length ≤ 140737488355328) {x y : Bs} {L M : Nat} (hL : L ≤ 20) (hM : M ≤ 20) (hxy : x ≠ y) (hx : GoodN fd L x) (hy : GoodN fd M y) (hrx : RisesD (prsAt fd L x)) (hry : RisesD (prsAt fd M y)) :
    (mapsM fd x y).1 = 0 ∧ (mapsM fd x y).2.1 = chgs (prsAt fd L x) (prsAt fd M y) := by
  obtain ⟨σ, h1, h2, -⟩ := roots_whole hs hL hM hxy hx hy hrx hry
  obtain ⟨τ, h3, h4⟩ := down_whole hs 21 σ h2
  have hg : goDownM fd x y = (0, τ) := by
    unfold goDownM
    rw [h1, if_neg (by simp)]
    exact h3
  unfold mapsM
  rw [if_neg hxy, hg, if_neg (by simp)]
  refine ⟨rfl, (chgs_cut ⟨hrx, hry, ?_, ?_, ?_, ?_⟩).symm⟩
  · simpa [frP, remP] using h4.sub 0 (by omega)
  · simpa [frP, remP] using h4.sub 1 (by omega)
  · simpa [frP, remP] using h4.com 0 1 (by omega) (by omega) (by omega)
  · simpa [frP, remP] using h4.com 1 0 (by omega) (by omega) (by omega)
theorem changesM_self : ∀ (n : Nat) (A : List Pair), changesM n A A = []
  | 0, _ => rfl
  | _ + 1, [] => rfl
  | n + 1, a :: l => by
    rw [changesM, if_neg (by simp [dltB_irrefl]), if_neg (by simp [dltB_irrefl]), if_pos rfl]
    exact changesM_self n l
theorem mapsM_whole (hs : ∀ id b, fd id = some b → b.length ≤ 140737488355328) {a b : Bs} (ha : (listM fd a [] []).bad = 0) (hb : (listM fd b [] []).bad = 0) (hra : rise ltB ((listM fd a [] []).out.map (·.1)) = true) (hrb : rise ltB ((listM fd b [] []).out.map (·.1)) = true) :
    (mapsM fd a b).1 = 0 ∧ (mapsM fd a b).2.1 = chgs (listM fd a [] []).out (listM fd b [] []).out := by
  by_cases hab : a = b
  · subst hab
    unfold mapsM
    rw [if_pos rfl]
    refine ⟨rfl, ?_⟩
    unfold chgs
    rw [changesM_self]
  · obtain ⟨L, hL, gL, oL, -⟩ := listM_whole hs ha
    obtain ⟨M, hM, gM, oM, -⟩ := listM_whole hs hb
    rw [oL, oM]
    rw [oL] at hra
    rw [oM] at hrb
    exact maps_whole hs hL hM hab gL gM (rise_rises _ hra) (rise_rises _ hrb)
end
end Go.Proofs.Ytldfjpgcemfpjaa

/-
  What the statements show first. No condition.
-/
namespace Go.Proofs.Ytldfjpgcemfpjaa
open Go.RowKit

set_option maxRecDepth 40000 in
set_option maxHeartbeats 1600000 in
theorem kept2_any (w : World) (os0 raw : List Pair) (v0 v : Value) (B0 : Nat) (h0 : Rw B0 w 73 2 pairC v0 os0) (hos0 : 1 ≤ os0.length) (hv : Ls w.heap.size w 2 pairC v raw) (hn : os0.length + raw.length ≤ 1000000) :
    Calls Try.prog 19 #[v0, v] w fun e w' => ∃ u, e = .returned u ∧ Rw w.heap.size w' 73 2 pairC u (keptP os0 raw) ∧ Below w.heap.size w w' := by
  obtain ⟨i0, hi0, hz0, hz1, hz2⟩ := info_parts Try.zObj
  obtain ⟨ao, cap, rfl, hcap, hcap2, h4⟩ := hv
  unfold maxLen at hcap2
  obtain ⟨m, hm⟩ : ∃ m, m = raw.length := ⟨_, rfl⟩
  rw [← hm] at hcap hn ⊢
  obtain ⟨c0, hc0, n0, rfl⟩ : ∃ c0 hc0 n0, v0 = .slice c0 hc0 n0 := row_form h0
  obtain ⟨z0, hz⟩ : ∃ z0, z0 = os0.length := ⟨_, rfl⟩
  have hv0 : hc0 = z0 := by
    obtain ⟨q1, q2, q3, -⟩ := own_form h0
    injection q3 with _ q3 _
    rw [q3, hz]
  subst hv0
  obtain ⟨M, hM⟩ : ∃ M, M = hc0 + m := ⟨_, rfl⟩
  obtain ⟨w1, hmk, hown1, hgr1⟩ := run_make_own (P := Try.prog) w w.heap.size 22 73 i0 _ 2 Try.underlying22 hi0 hz0 hz1 .i64 .i64 M (by rw [hz2]; omega) (by unfold maxLen; omega) (Nat.le_refl _)
  have hb1 : Below w.heap.size w w1 := (Below.refl _ w).grown hgr1 (Nat.le_refl _) (by intro k hk; cases hk)
  have h01 : Rw B0 w1 73 2 pairC (.slice c0 hc0 n0) os0 := own_below h0 hb1
  obtain ⟨v5, w5, hrun5, hown5, hb5, -⟩ := app_objs w1 w.heap.size B0 _ _ ([] : List Pair) os0 hown1 h01 hos0 hb1.size (by simp; omega)
  obtain ⟨v5a, v5n, v5c, rfl⟩ := row_form hown5
  rw [List.nil_append] at hown5
  have R1 := hide hrun5
  have hwr : IntKind.i64.wrap ((hc0 : Int) + (m : Int)) = (M : Int) := by rw [IntKind.wrap_i64]; omega
  have hMs : (hc0 : Int) + (m : Int) = (M : Int) := by omega
  clear hM
  have hb15 := hb1.trans hb5
  have HM := hide hm
  have H1 := hide (And.intro hown5 hb15)
  have HZ0 := hide hz
  have hz0n : hc0 ≤ 1000000 := by omega
  clear hm hown1 hb1 hgr1 hi0 hz0 hz1 hz2 h01 hrun5 hown5 hb5 hb15 h0 hz
  go_enter Try.func19, Try.ntmps19
  go_wp2_with (at_builtin; refine wpList_plain rfl (fun K hK => wp_append_run (.tmp 14) (.tmp 15) 22 rfl rfl rfl R1.out (hK _ _ ?_)))
  go_loopw [5, 6] (fun t u wr => ∃ i : Nat, i ≤ m ∧ u = .int .i64 i ∧ Rw w.heap.size wr 73 2 pairC t (keptP os0 (raw.take i)) ∧ Below w.heap.size w wr)
    (fun _ u _ => m - (intOf u).toNat)
  case atStart => exact ⟨0, by omega, rfl, by simpa [keptP] using H1.out.1, H1.out.2⟩
  case round =>
    obtain ⟨i, him, rfl, hrow, hbw⟩ := hrel
    obtain ⟨os, hos⟩ : ∃ os, os = keptP os0 (raw.take i) := ⟨_, rfl⟩
    have hosl : os.length ≤ 1000000 := by have := keptP_le (raw.take i) os0; rw [hos]; have hq := HZ0.out; simp at this; omega
    rw [← hos] at hrow
    obtain ⟨oa, oc, hov, ho1, ho2⟩ := own_form hrow
    obtain ⟨n, hn2⟩ : ∃ n, n = os.length := ⟨_, rfl⟩
    rw [← hn2] at hov ho1 hosl
    subst hov
    by_cases hlt : i < m
    · have hlt2 : i < raw.length := by have := HM.out; omega
      obtain ⟨b, off, rfl, hbB, hcell⟩ := h4 (by rintro rfl; simp at hlt2)
      have hstep := keptP_step os0 raw i hlt2
      rw [← hos] at hstep
      have k0 : ∀ W, Below w.heap.size w W → W.cell? ⟨b, off + i * 2, none⟩ = some (.string (strB raw[i].1)) := fun W hW => (hW.cell (p := ⟨b, off + i * 2 + 0, none⟩) hbB).trans (hcell i hlt2 0 _ rfl)
      have k1 : ∀ W, Below w.heap.size w W → W.cell? ⟨b, off + i * 2 + 1, none⟩ = some (.string (strB raw[i].2)) := fun W hW => (hW.cell (p := ⟨b, off + i * 2 + 1, none⟩) hbB).trans (hcell i hlt2 1 _ rfl)
      generalize raw[i] = x at *
      have HS := hide (And.intro hrow (And.intro hbw (And.intro hstep hn2)))
      have HK := hide (And.intro k0 k1)
      have hx := toL x.1
      clear hrow hbw hstep hn2 k0 k1 hos h4 hcell
      obtain ⟨wo, rfl⟩ : ∃ wo, wo = wr := ⟨wr, rfl⟩
      go_wp2_with fail
      go_loopw [7, 8] (fun t u wi => ∃ k : Nat, k ≤ n ∧ u = .int .i64 k ∧ t = .bool ((os.take k).any (fun o => o.1 == x.1)) ∧ Below wo.heap.size wo wi)
        (fun _ u _ => n - (intOf u).toNat)
      case atStart => exact ⟨0, by omega, rfl, rfl, Below.refl _ _⟩
      case round =>
        obtain ⟨k, hk, rfl, rfl, hbi⟩ := hrel
        have hB2 := HS.out.2.1.trans (hbi.mono HS.out.2.1.size)
        have x0 := HK.out.1 wr hB2
        have x1 := HK.out.2 wr hB2
        have hrow2 := own_below HS.out.1 hbi
        have HR := hide (And.intro hrow2 (And.intro hB2 hbi))
        by_cases hlk : k < n
        · have hlk2 : k < os.length := by have := HS.out.2.2.2; omega
          have hls := ls_of_own pairC_length hrow2
          obtain ⟨oa', oc', he1, -, -, hc⟩ := hls
          obtain ⟨ob, oo, rfl, hob, hoc⟩ := hc (by rintro rfl; simp at hlk2)
          injection he1 with he1 _ he2
          subst he1 he2
          have y0 := hoc k hlk2 0 _ rfl
          have hst := any_take_step os x.1 k hlk2
          generalize os[k] = y at *
          simp only [Nat.add_zero] at y0
          have hy := toL y.1
          have HST := hide hst
          clear hst hoc hc hrow2 hB2 hbi
          generalize hth : (os.take k).any (fun o => o.1 == x.1) = th at *
          generalize hye : (y.1 == x.1) = ye at *
          go_wp2_with fail
          cases th with
          | true =>
            refine wp_region_held_drew (S := fun W => W.cell? ⟨ob, oo + k * 2, none⟩ = some (.string (strB y.1)) ∧ W.cell? ⟨b, off + i * 2, none⟩ = some (.string (strB x.1))) (by kernel_rfl) (⟨y0, x0⟩) (fun hHeld => ?_)
            refine takeK 0 hHeld ?_
            refine takeK 1 hHeld ?_
            refine skipK 2 hHeld ?_
            refine skipK 3 hHeld ?_
            refine skipK 4 hHeld ?_
            refine skipK 5 hHeld ?_
            refine skipK 6 hHeld ?_
            refine skipK 7 hHeld ?_
            refine skipK 8 hHeld ?_
            refine skipK 9 hHeld ?_
            refine skipK 10 hHeld ?_
            refine skipK 11 hHeld ?_
            refine skipK 12 hHeld ?_
            refine takeK 13 hHeld ?_
            refine takeK 14 hHeld ?_
            refine wpAnyH_done (by kernel_rfl) ?_ _
            clear hHeld
            go_wp2
            go_roundw
            case rel => exact ⟨k + 1, by omega, by go_num, by rw [HST.out]; rfl, HR.out.2.2.drew⟩
            case measure => simp [intOf]; omega
          | false =>
            refine wp_region_held_drew (S := fun W => W.cell? ⟨ob, oo + k * 2, none⟩ = some (.string (strB y.1)) ∧ W.cell? ⟨b, off + i * 2, none⟩ = some (.string (strB x.1))) (by kernel_rfl) (⟨y0, x0⟩) (fun hHeld => ?_)
            refine takeK 0 hHeld ?_
            refine takeK 1 hHeld ?_
            refine takeK 2 hHeld ?_
            refine takeK 3 hHeld ?_
            refine takeK 4 hHeld ?_
            refine takeK 5 hHeld ?_
            refine takeK 6 hHeld ?_
            refine takeK 7 hHeld ?_
            refine takeK 8 hHeld ?_
            refine takeK 9 hHeld ?_
            refine takeK 10 hHeld ?_
            refine takeK 11 hHeld ?_
            refine takeK 12 hHeld ?_
            refine takeK 13 hHeld ?_
            refine takeK 14 hHeld ?_
            refine wpAnyH_done (by kernel_rfl) ?_ _
            clear hHeld
            go_wp2
            go_roundw
            case rel => exact ⟨k + 1, by omega, by go_num, by rw [HST.out]; rfl, HR.out.2.2.drew⟩
            case measure => simp [intOf]; omega
        · obtain rfl : k = n := by omega
          have htk : os.take k = os := by rw [HS.out.2.2.2, List.take_length]
          rw [htk]
          obtain ⟨vn, w3, run3, row3, gr3, -⟩ := app_obj wr w.heap.size _ os x hrow2 hB2.size (by have := HS.out.2.2.2; omega)
          have hrA : Rw w.heap.size (wr.alloc (.cells #[.string (strB x.1), .string (strB x.2)] 73)) 73 2 pairC (.slice oa k oc) os := World.ownsRow.alloc hrow2 _
          have hb3 : Below w.heap.size w w3 := (hB2.alloc hB2.size _).trans ((Below.refl _ _).grown gr3 (by have := hB2.size; simp; omega) (fun q hq => (World.ownsRow.lt hrA q hq).1))
          have R3 := hide run3
          have H3 := hide (And.intro row3 hb3)
          obtain ⟨na, nm, nc, rfl⟩ := row_form row3
          have hst := HS.out.2.2.1
          unfold layP at hst
          clear htk hrow2 hB2 hbi run3 row3 gr3 hrA hb3
          generalize hth : os.any (fun o => o.1 == x.1) = th at *
          cases th with
          | true =>
            rw [if_pos rfl] at hst
            have HST := hide hst
            clear hst
            go_wp2
            go_roundw
            case rel => exact ⟨i + 1, by omega, by go_num, by rw [HST.out]; exact HR.out.1, HR.out.2.1⟩
            case measure => simp [intOf]; omega
          | false =>
            rw [if_neg (by simp)] at hst
            have HST := hide hst
            clear hst
            go_wp2_with (at_builtin; refine wpList_plain rfl (fun K hK => wp_append_run (.tmp 45) (.tmp 50) 22 rfl rfl rfl R3.out (hK _ _ ?_)))
            go_wp2
            go_roundw
            case rel => exact ⟨i + 1, by omega, by go_num, by rw [HST.out]; exact H3.out.1, H3.out.2⟩
            case measure => simp [intOf]; omega
    · obtain rfl : i = m := by omega
      have htk : raw.take i = raw := by rw [HM.out, List.take_length]
      rw [hos, htk] at hrow
      have HS := hide (And.intro hrow hbw)
      clear hrow hbw hos hn2 htk
      go_wp2
      go_ret
      exact ⟨_, rfl, HS.out.1, HS.out.2⟩
end Go.Proofs.Ytldfjpgcemfpjaa

/-
  What the statements show first: the walk. No condition.
-/
namespace Go.Proofs.Ytldfjpgcemfpjaa
open Go.RowKit

theorem enters_ownD {P : Program} {f : FuncId} {fn : Func} {c : Code} (h1 : P.funcs[f]? = some fn) (h2 : (fn.name == "runtime.NumGoroutine") = false) (h3 : fn.body = some c) (args : Array Value) (w : World) : (callFunc f args).run P w = .ok (.enter f args) w := by
  have h4 : fn.name ≠ "runtime.NumGoroutine" := by simpa using h2
  simp [callFunc, h1, h4, h3, mark]
/-- The get of a list that lies there. -/
theorem get_fromD {w2 : World} {c : Nat} {v : Value} {objs : List Pair} (hc : w2.heap[c]? = some (.cells #[v] 22)) (hv : Ls w2.heap.size w2 2 pairC v objs) (hs : ∀ o ∈ objs, o.2.length ≤ 140737488351232) :
    GetD 22 #[.pointer (some ⟨c, 0, none⟩)] (findO objs) w2.heap.size (fun W _ => Below w2.heap.size w2 W) where
  eg := enters_ownD Try.func22 (by kernel_rfl) rfl
  le W a h := h.size
  mv h hm := h.trans hm.b
  call W a id h _ := (from1_any W c v objs id ((h.block c (lt_of_heap hc)).trans hc) ((hv.keep h).up h.size)).mono fun e w' hq => ⟨hq.1, hq.2 ▸ h, hq.2 ▸ Below.refl _ _, hq.2 ▸ Kp.refl _⟩
  short id b h := findO_short hs id b h
set_option maxRecDepth 20000 in
theorem fromD_any (w : World) (ao : Option Addr) (m c : Nat) : Calls Try.prog 9 #[.slice ao m c] w fun e w' => e = .returned (.func (.func 22) #[] #[.pointer (some ⟨w.heap.size, 0, none⟩)]) ∧ w' = w.alloc (.cells #[.slice ao m c] 22) := by
  have hmf : ∀ (fn : Fn) (first cap : Array Value) (w : World), (Instr.makeFunc fn first cap).run Try.prog w = .ok (.func fn first cap) w := fun _ _ _ _ => rfl
  go_enter Try.func9, Try.ntmps9
  go_wp2
  go_ret
  exact ⟨rfl, rfl⟩
theorem ls_twoV (w : World) (v : UInt8) : Ls (w.alloc (.cells #[.string ⟨#[97]⟩, .string ⟨#[49]⟩, .string ⟨#[98]⟩, .string ⟨#[v]⟩] 48)).heap.size (w.alloc (.cells #[.string ⟨#[97]⟩, .string ⟨#[49]⟩, .string ⟨#[98]⟩, .string ⟨#[v]⟩] 48)) 2 pairC (.slice (some ⟨w.heap.size, 0, none⟩) 2 2) (twoV v) := by
  have hx := heap_last w (.cells #[.string ⟨#[97]⟩, .string ⟨#[49]⟩, .string ⟨#[98]⟩, .string ⟨#[v]⟩] 48) _ rfl
  refine ⟨_, 2, rfl, Nat.le_refl _, by unfold maxLen; omega, fun _ => ⟨w.heap.size, 0, rfl, by simp, fun j hj i u hu => ?_⟩⟩
  rw [cell_of_row _ _ _ _ _ _ hx]
  match j, hj with
  | 0, _ =>
    match i with
    | 0 => exact hu
    | 1 => exact hu
    | _ + 2 => simp [twoV, pairC] at hu
  | 1, _ =>
    match i with
    | 0 => exact hu
    | 1 => exact hu
    | _ + 2 => simp [twoV, pairC] at hu
theorem Try.eqChange : Try.prog.underlying 52 = some (.struct (Try.prog.fieldsOf 52)) ∧ Try.prog.stoodInHeld 52 = false := ⟨by kernel_rfl, by kernel_rfl⟩
theorem equal_Change (W : World) (x y : Ch5) : (Op.equalIn 10000 52 (.agg (ch5C x).toArray) (.agg (ch5C y).toArray)).run Try.prog W = .ok (decide (x = y)) W := by
  obtain ⟨h1, h2⟩ := Try.eqChange
  rw [run_equalIn_agg _ _ _ _ _ h1 h2]
  simp only [Program.fieldsOf, Try.underlying52]
  obtain ⟨x0, x1, x2, x3, x4⟩ := x
  obtain ⟨y0, y1, y2, y3, y4⟩ := y
  by_cases q0 : x0 = y0 <;> by_cases q1 : x1 = y1 <;> by_cases q2 : x2 = y2 <;> by_cases q3 : x3 = y3 <;> by_cases q4 : x4 = y4 <;> simp [ch5C, Op.eqFields, go_sem, Try.underlying9, Try.underlying4, toL, q0, q1, q2, q3, q4]
end Go.Proofs.Ytldfjpgcemfpjaa

/-
  Whether pairs rise, by the reference; whether two lists of changes are the same. Conditions: they lie there.
-/
namespace Go.Proofs.Ytldfjpgcemfpjaa
open Go.RowKit

set_option maxRecDepth 40000 in
set_option maxHeartbeats 1600000 in
theorem rising14_any (w : World) (v : Value) (xs : List Pair) (hv : Ls w.heap.size w 2 pairC v xs) :
    Calls Try.prog 25 #[v] w fun e w' => e = .returned (.bool (rise ltB (xs.map (·.1)))) ∧ Below w.heap.size w w' := by
  obtain ⟨ao, cap, rfl, h1, h2, h4⟩ := hv
  unfold maxLen at h2
  go_enter Try.func25, Try.ntmps25
  go_wp2_with fail
  go_loopw [3] (fun t wr => ∃ k : Nat, 1 ≤ k ∧ (k ≤ xs.length ∨ k = 1) ∧ t = .int .i64 k ∧ rise ltB (xs.map (·.1)) = rise ltB ((xs.drop (k - 1)).map (·.1)) ∧ Below w.heap.size w wr)
    (fun t _ => xs.length - (intOf t).toNat)
  case atStart => exact ⟨1, by omega, .inr rfl, rfl, by simp, Below.refl _ _⟩
  case round =>
    obtain ⟨k, hk1, hk, rfl, hall, hb⟩ := hrel
    have HB := hide hb
    have HA := hide hall
    clear hb hall
    by_cases hlt : k < xs.length
    · obtain ⟨m, rfl⟩ : ∃ m, k = m + 1 := ⟨k - 1, by omega⟩
      rw [Nat.add_sub_cancel] at HA
      have hml : m < xs.length := by omega
      have hm0 : (0 : Int) ≤ (m : Int) + 1 := by omega
      have hw : IntKind.i64.wrap (m : Int) = (m : Int) := by rw [IntKind.wrap_i64]; omega
      have hk1' : ((m + 1 : Nat) : Int) - 1 = (m : Int) := by omega
      obtain ⟨b, off, rfl, hbB, hc⟩ := h4 (by rintro rfl; simp at hlt)
      have hst : rise ltB ((xs.drop m).map (·.1)) = (ltB (xs[m]'(by omega)).1 (xs[m + 1]'hlt).1 && rise ltB ((xs.drop (m + 1)).map (·.1))) := by
        rw [List.drop_eq_getElem_cons (show m < xs.length by omega), List.drop_eq_getElem_cons hlt]
        rfl
      have c0 := (HB.out.cell (p := ⟨b, off + m * 2 + 0, none⟩) hbB).trans (hc m hml 0 _ rfl)
      have d0 := (HB.out.cell (p := ⟨b, off + (m + 1) * 2 + 0, none⟩) hbB).trans (hc (m + 1) hlt 0 _ rfl)
      simp only [Nat.add_zero] at c0 d0
      obtain ⟨x, hx⟩ : ∃ x, x = xs[m] := ⟨_, rfl⟩
      obtain ⟨y, hy⟩ : ∃ y, y = xs[m + 1] := ⟨_, rfl⟩
      rw [← hx, ← hy] at hst
      rw [← hx] at c0
      rw [← hy] at d0
      have HST := hide hst
      clear hst hc hx hy h4
      have hge := geq_str 9 x.1 y.1
      go_wp2_with fail
      refine wp_region_held_drew (S := fun W => W.cell? ⟨b, off + m * 2, none⟩ = some (.string (strB x.1)) ∧ W.cell? ⟨b, off + (m + 1) * 2, none⟩ = some (.string (strB y.1))) (by kernel_rfl) (⟨c0, d0⟩) (fun hHeld => ?_)
      refine takeK 0 hHeld ?_
      refine takeK 1 hHeld ?_
      refine takeK 2 hHeld ?_
      refine takeK 3 hHeld ?_
      refine takeK 4 hHeld ?_
      refine takeK 5 hHeld ?_
      refine takeK 6 hHeld ?_
      refine takeK 7 hHeld ?_
      refine takeK 8 hHeld ?_
      refine takeK 9 hHeld ?_
      refine takeK 10 hHeld ?_
      refine takeK 11 hHeld ?_
      refine wpAnyH_done (by kernel_rfl) ?_ _
      clear hHeld
      by_cases hf : ltB x.1 y.1 = true
      · rw [hf]
        have HF := hide hf
        clear hf
        go_wp2
        go_roundw
        case rel =>
          refine ⟨m + 2, by omega, .inl (by omega), by go_num, ?_, HB.out.drew⟩
          rw [HA.out, HST.out, HF.out]
          rfl
        case measure => simp [intOf]; omega
      · have hf' : ltB x.1 y.1 = false := by simpa using hf
        rw [hf']
        have HF := hide hf'
        clear hf hf'
        go_wp2
        all_goals
          go_ret
          refine ⟨?_, HB.out.drew⟩
          rw [HA.out, HST.out, HF.out]
          rfl
    · have hall : rise ltB (xs.map (·.1)) = true := by
        rw [HA.out]
        have hlen : (xs.drop (k - 1)).length ≤ 1 := by rw [List.length_drop]; omega
        match hd : xs.drop (k - 1), hlen with
        | [], _ => rfl
        | [a], _ => rfl
      rw [hall]
      clear h4
      go_wp2
      all_goals
        go_ret
        exact ⟨rfl, HB.out⟩
theorem neq_Change (W : World) (x : Ch5) : (binOp .neq 52 (.agg #[.string (strB x.1), .string (strB x.2.1), .string (strB x.2.2.1), .bool x.2.2.2.1, .bool x.2.2.2.2]) (.agg #[.string (strB x.1), .string (strB x.2.1), .string (strB x.2.2.1), .bool x.2.2.2.1, .bool x.2.2.2.2])).run Try.prog W = .ok (.bool false) W := by
  rw [run_neq_struct]
  have := equal_Change W x x
  unfold ch5C at this
  rw [this]
  simp [Result.andThen]
set_option maxRecDepth 20000 in
set_option maxHeartbeats 1600000 in
theorem sameChanges_any (w : World) (xs : List Ch5) (vx vy : Value) (hvx : Ls w.heap.size w 5 ch5C vx xs) (hvy : Ls w.heap.size w 5 ch5C vy xs) :
    Calls Try.prog 11 #[vx, vy] w fun e w' => e = .returned (.bool true) ∧ Below w.heap.size w w' := by
  obtain ⟨ax, capx, rfl, gx1, gx2, hx⟩ := hvx
  obtain ⟨ay, capy, rfl, gy1, gy2, hy⟩ := hvy
  unfold maxLen at gx2 gy2
  go_enter Try.func11, Try.ntmps11
  go_wp2_with fail
  go_loopw [5] (fun t wr => ∃ k : Nat, k ≤ xs.length ∧ t = .int .i64 k ∧ Below w.heap.size w wr)
    (fun t _ => xs.length - (intOf t).toNat)
  case atStart => exact ⟨0, by omega, rfl, Below.refl _ _⟩
  case round =>
    obtain ⟨k, hk, rfl, hbr⟩ := hrel
    have HB := hide hbr
    by_cases hlt : k < xs.length
    · obtain ⟨bx, offx, rfl, hbX, hcx⟩ := hx (by intro e; rw [e] at hlt; simp at hlt)
      obtain ⟨bY, offy, rfl, hbYl, hcy⟩ := hy (by intro e; rw [e] at hlt; simp at hlt)
      have c0 := (hbr.cell (p := ⟨bx, offx + k * 5 + 0, none⟩) hbX).trans (hcx k hlt 0 _ rfl)
      have c1 := (hbr.cell (p := ⟨bx, offx + k * 5 + 1, none⟩) hbX).trans (hcx k hlt 1 _ rfl)
      have c2 := (hbr.cell (p := ⟨bx, offx + k * 5 + 2, none⟩) hbX).trans (hcx k hlt 2 _ rfl)
      have c3 := (hbr.cell (p := ⟨bx, offx + k * 5 + 3, none⟩) hbX).trans (hcx k hlt 3 _ rfl)
      have c4 := (hbr.cell (p := ⟨bx, offx + k * 5 + 4, none⟩) hbX).trans (hcx k hlt 4 _ rfl)
      have d0 := (hbr.cell (p := ⟨bY, offy + k * 5 + 0, none⟩) hbYl).trans (hcy k hlt 0 _ rfl)
      have d1 := (hbr.cell (p := ⟨bY, offy + k * 5 + 1, none⟩) hbYl).trans (hcy k hlt 1 _ rfl)
      have d2 := (hbr.cell (p := ⟨bY, offy + k * 5 + 2, none⟩) hbYl).trans (hcy k hlt 2 _ rfl)
      have d3 := (hbr.cell (p := ⟨bY, offy + k * 5 + 3, none⟩) hbYl).trans (hcy k hlt 3 _ rfl)
      have d4 := (hbr.cell (p := ⟨bY, offy + k * 5 + 4, none⟩) hbYl).trans (hcy k hlt 4 _ rfl)
      generalize xs[k] = x at *
      simp only [Nat.add_zero] at c0 d0
      have hnq : ∀ W, _ := fun W => neq_Change W x
      clear hcx hcy hx hy hbr
      go_wp2_with fail
      refine wp_region_held_drew (S := fun W => W.cell? ⟨bx, offx + k * 5, none⟩ = some (.string (strB x.1)) ∧ W.cell? ⟨bx, offx + k * 5 + 1, none⟩ = some (.string (strB x.2.1)) ∧ W.cell? ⟨bx, offx + k * 5 + 2, none⟩ = some (.string (strB x.2.2.1)) ∧ W.cell? ⟨bx, offx + k * 5 + 3, none⟩ = some (.bool x.2.2.2.1) ∧ W.cell? ⟨bx, offx + k * 5 + 4, none⟩ = some (.bool x.2.2.2.2) ∧ W.cell? ⟨bY, offy + k * 5, none⟩ = some (.string (strB x.1)) ∧ W.cell? ⟨bY, offy + k * 5 + 1, none⟩ = some (.string (strB x.2.1)) ∧ W.cell? ⟨bY, offy + k * 5 + 2, none⟩ = some (.string (strB x.2.2.1)) ∧ W.cell? ⟨bY, offy + k * 5 + 3, none⟩ = some (.bool x.2.2.2.1) ∧ W.cell? ⟨bY, offy + k * 5 + 4, none⟩ = some (.bool x.2.2.2.2)) (by kernel_rfl) (⟨c0, c1, c2, c3, c4, d0, d1, d2, d3, d4⟩) (fun hHeld => ?_)
      refine takeK 0 hHeld ?_
      refine takeK 1 hHeld ?_
      refine takeK 2 hHeld ?_
      refine takeK 3 hHeld ?_
      refine takeK 4 hHeld ?_
      refine takeK 5 hHeld ?_
      refine takeK 6 hHeld ?_
      refine takeK 7 hHeld ?_
      refine takeK 8 hHeld ?_
      refine wpAnyH_done (by kernel_rfl) ?_ _
      clear hHeld hnq
      go_wp2
      go_roundw
      case rel => exact ⟨k + 1, by omega, by go_num, HB.out.drew⟩
      case measure => simp [intOf]; omega
    · obtain rfl : k = xs.length := by omega
      clear hx hy hbr
      go_wp2
      all_goals
        go_ret
        exact ⟨rfl, HB.out⟩
end Go.Proofs.Ytldfjpgcemfpjaa
