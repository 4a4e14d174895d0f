/-
  Texts joined: PPlain, BPlain, BFind, PNode, BRow, BAsked.
-/
import Derived.Test.YtldfjpgcemfpjaaM16ORBranch
import Derived.Test.YtldfjpgcemfpjaaM10OEntry2
import Derived.Test.YtldfjpgcemfpjaaM12ORFan2
import Derived.Maps.AppendAt
/-
  Sorted maps as trees, plainly: groups, gathered one at a time; leaves, branches; what stands behind a link. No program here. No condition.
-/
namespace Go.Proofs.Ytldfjpgcemfpjaa

theorem ltB_cons (a b : UInt8) (l m : Bs) : ltB (a :: l) (b :: m) = (decide (a < b) || (a == b && ltB l m)) := by
  unfold ltB
  rw [Op.bytesLess]
theorem ltB_nil_cons (b : UInt8) (m : Bs) : ltB [] (b :: m) = true := by unfold ltB; rw [Op.bytesLess]
theorem ltB_nil (l : Bs) : ltB l [] = false := by
  unfold ltB
  cases l <;> rw [Op.bytesLess]
theorem ltB_trans : ∀ (a b c : Bs), ltB a b = true → ltB b c = true → ltB a c = true
  | _, _, [], _, h2 => by rw [ltB_nil] at h2; cases h2
  | [], _, c :: r, _, _ => ltB_nil_cons c r
  | a :: l, [], _ :: _, h1, _ => by rw [ltB_nil] at h1; cases h1
  | a :: l, b :: m, c :: r, h1, h2 => by
    rw [ltB_cons] at h1 h2 ⊢
    simp only [Bool.or_eq_true, decide_eq_true_eq, Bool.and_eq_true, beq_iff_eq] at h1 h2 ⊢
    rcases h1 with h1 | ⟨rfl, h1⟩
    · rcases h2 with h2 | ⟨rfl, h2⟩
      · exact .inl (UInt8.lt_trans h1 h2)
      · exact .inl h1
    · rcases h2 with h2 | ⟨rfl, h2⟩
      · exact .inl h2
      · exact .inr ⟨rfl, ltB_trans l m r h1 h2⟩
/-- Keys that rise: each ahead of all behind it. -/
theorem rise_iff : ∀ (l : List Bs), rise ltB l = true ↔ l.Pairwise (fun a b => ltB a b = true)
  | [] => by simp [rise]
  | [a] => by simp [rise]
  | a :: b :: r => by
    rw [rise, Bool.and_eq_true, rise_iff (b :: r)]
    constructor
    · rintro ⟨h1, h2⟩
      refine List.pairwise_cons.2 ⟨fun c hc => ?_, h2⟩
      rcases List.mem_cons.1 hc with rfl | hc
      · exact h1
      · exact ltB_trans _ _ _ h1 ((List.pairwise_cons.1 h2).1 c hc)
    · intro h
      have h := List.pairwise_cons.1 h
      exact ⟨h.1 b (by simp), h.2⟩
/-- Groups, gathered one at a time: those under way, the rest. -/
def gath {α : Type} (e : Nat → α → Bool) : List α → List α → List (List α)
  | cur, [] => if cur.isEmpty then [] else [cur]
  | cur, x :: r => if e (cur.length + 1) x then (cur ++ [x]) :: gath e [] r else gath e (cur ++ [x]) r
theorem gath_flat {α : Type} (e : Nat → α → Bool) : ∀ (r cur : List α), (gath e cur r).flatten = cur ++ r
  | [], cur => by
    rw [gath]
    cases cur <;> simp
  | x :: r, cur => by
    rw [gath]
    by_cases h : e (cur.length + 1) x = true
    · rw [if_pos h, List.flatten_cons, gath_flat e r []]; simp
    · rw [if_neg h, gath_flat e r]; simp
theorem gath_pos {α : Type} (e : Nat → α → Bool) : ∀ (r cur : List α), ∀ g ∈ gath e cur r, 1 ≤ g.length
  | [], cur, g, hg => by
    rw [gath] at hg
    cases cur with
    | nil => simp at hg
    | cons a l => simp at hg; rw [hg]; simp
  | x :: r, cur, g, hg => by
    rw [gath] at hg
    by_cases h : e (cur.length + 1) x = true
    · rw [if_pos h] at hg
      rcases List.mem_cons.1 hg with rfl | hg
      · simp
      · exact gath_pos e r [] g hg
    · rw [if_neg h] at hg
      exact gath_pos e r _ g hg
theorem gath_most {α : Type} (e : Nat → α → Bool) (m : Nat) (he : ∀ x, e m x = true) : ∀ (r cur : List α), cur.length < m → ∀ g ∈ gath e cur r, g.length ≤ m
  | [], cur, hc, g, hg => by
    rw [gath] at hg
    cases cur with
    | nil => simp at hg
    | cons a l => simp at hg; rw [hg]; omega
  | x :: r, cur, hc, g, hg => by
    rw [gath] at hg
    by_cases h : e (cur.length + 1) x = true
    · rw [if_pos h] at hg
      rcases List.mem_cons.1 hg with rfl | hg
      · simp; omega
      · exact gath_most e m he r [] (by simp; omega) g hg
    · rw [if_neg h] at hg
      refine gath_most e m he r _ ?_ g hg
      have : cur.length + 1 ≠ m := fun q => h (by rw [q]; exact he x)
      simp; omega
theorem gath_half {α : Type} (e : Nat → α → Bool) (he : ∀ n x, e n x = true → 2 ≤ n) : ∀ (r cur : List α), 2 * (gath e cur r).length ≤ cur.length + r.length + 1
  | [], cur => by
    rw [gath]
    cases cur with
    | nil => simp
    | cons a l => simp
  | x :: r, cur => by
    rw [gath]
    by_cases h : e (cur.length + 1) x = true
    · have h1 := gath_half e he r []
      have h2 := he _ _ h
      rw [if_pos h]
      simp at h1 ⊢
      omega
    · have h1 := gath_half e he r (cur ++ [x])
      rw [if_neg h]
      simp at h1 ⊢
      omega
theorem gath_ne {α : Type} (e : Nat → α → Bool) (r cur : List α) (h : cur ≠ [] ∨ r ≠ []) : 1 ≤ (gath e cur r).length := by
  have hf := gath_flat e r cur
  cases hg : gath e cur r with
  | nil =>
    rw [hg] at hf
    simp at hf
    rcases h with h | h
    · exact absurd hf.1 h
    · exact absurd hf.2 h
  | cons a l => simp
theorem gath_le {α : Type} (e : Nat → α → Bool) (r cur : List α) : (gath e cur r).length ≤ cur.length + r.length := by
  have hf := congrArg List.length (gath_flat e r cur)
  have hp := gath_pos e r cur
  have : ∀ (gs : List (List α)), (∀ g ∈ gs, 1 ≤ g.length) → gs.length ≤ gs.flatten.length := by
    intro gs
    induction gs with
    | nil => simp
    | cons g gs ih =>
      intro hc
      have h1 := ih (fun d hd => hc d (by simp [hd]))
      have h2 := hc g (by simp)
      simp at h1 ⊢
      omega
  have h3 := this _ hp
  rw [hf] at h3
  simpa using h3
theorem gath_in {α : Type} {e : Nat → α → Bool} {r cur : List α} {g : List α} (hg : g ∈ gath e cur r) : g.Sublist (cur ++ r) := by
  rw [← gath_flat e r cur]
  exact List.sublist_flatten_of_mem hg
/-- The last ones of groups stand in the order of all. -/
theorem lasts_sub {α β : Type} (f : α → β) (d : β) : ∀ (gs : List (List α)), (∀ g ∈ gs, 1 ≤ g.length) → (gs.map (fun g => (g.getLast?.map f).getD d)).Sublist (gs.flatten.map f)
  | [], _ => by simp
  | g :: gs, h => by
    have h1 := lasts_sub f d gs (fun x hx => h x (by simp [hx]))
    have h2 := h g (by simp)
    rw [List.map_cons, List.flatten_cons, List.map_append]
    obtain ⟨l, x, rfl⟩ : ∃ l x, g = l ++ [x] := ⟨g.dropLast, g.getLast (by intro q; rw [q] at h2; simp at h2), (List.dropLast_concat_getLast _).symm⟩
    rw [show ((l ++ [x]).getLast?.map f).getD d = f x from by simp]
    rw [List.map_append, List.append_assoc]
    exact (List.Sublist.cons_cons _ h1 : (f x :: _).Sublist ([x].map f ++ gs.flatten.map f)).trans (List.sublist_append_right _ _)
/-- Does a group of so many end with this key? level: of the node that is made. -/
def ends12 (n : Nat) (last : Bs) (level : Nat) : Bool := ((((sha last)[31 - level]?.getD 0).toNat : Int) % 16 == 0 && (decide (level = 0) || decide (2 ≤ n))) || decide (n = 64)
theorem ends12_64 (last : Bs) (level : Nat) : ends12 64 last level = true := by unfold ends12; simp
theorem ends12_two {n : Nat} {last : Bs} {level : Nat} (h : ends12 n last (level + 1) = true) : 2 ≤ n := by
  unfold ends12 at h
  simp only [Bool.or_eq_true, Bool.and_eq_true, decide_eq_true_eq] at h
  rcases h with ⟨-, h | h⟩ | h
  · omega
  · exact h
  · omega
/-- Last keys. -/
def lastP (l : List Pair) : Bs := (l.getLast?.map (·.1)).getD []
def lastL (l : List Link) : Bs := (l.getLast?.map (·.1)).getD []
def manyL (l : List Link) : Int := (l.map (·.2.2)).sum
/-- A leaf's object, its link; a branch's. -/
def leafO (g : List Pair) : Pair := (sha (76 :: leafB g), 76 :: leafB g)
def leafK (g : List Pair) : Link := (lastP g, ((leafO g).1, (g.length : Int)))
def brO (level : Int) (g : List Link) : Pair := (sha (66 :: branchB (level, g)), 66 :: branchB (level, g))
def brK (level : Int) (g : List Link) : Link := (lastL g, ((brO level g).1, manyL g))
def leafG (l : List Pair) : List (List Pair) := gath (fun n p => ends12 n p.1 0) [] l
def brG (level : Nat) (l : List Link) : List (List Link) := gath (fun n p => ends12 n p.1 level) [] l
/-- All levels over some links: the root, the objects one behind the other. -/
def riseL : Nat → Nat → List Link → List Pair → Link × List Pair
  | 0, _, ks, raw => (ks.headD ([], [], 0), raw)
  | n + 1, level, ks, raw => if 1 < ks.length then riseL n (level + 1) ((brG level ks).map (brK level)) (raw ++ (brG level ks).map (brO level)) else (ks.headD ([], [], 0), raw)
theorem riseL_one {n level : Nat} {ks : List Link} {raw : List Pair} (h : ¬ 1 < ks.length) : riseL n level ks raw = (ks.headD ([], [], 0), raw) := by
  cases n with
  | zero => rfl
  | succ n => rw [riseL, if_neg h]
/-- Objects, and one more, if its id is not there; many more. -/
def layP (os : List Pair) (o : Pair) : List Pair := if os.any (fun x => x.1 == o.1) then os else os ++ [o]
def keptP (os raw : List Pair) : List Pair := raw.foldl layP os
theorem layP_le (os : List Pair) (o : Pair) : (layP os o).length ≤ os.length + 1 := by
  unfold layP
  split
  · omega
  · simp
theorem keptP_le : ∀ (raw os : List Pair), (keptP os raw).length ≤ os.length + raw.length
  | [], os => by simp [keptP]
  | o :: raw, os => by
    have h1 := keptP_le raw (layP os o)
    have h2 := layP_le os o
    show (keptP (layP os o) raw).length ≤ _
    simp only [List.length_cons]
    omega
theorem keptP_step (os raw : List Pair) (j : Nat) (h : j < raw.length) : keptP os (raw.take (j + 1)) = layP (keptP os (raw.take j)) raw[j] := by
  unfold keptP
  rw [List.take_succ_eq_append_getElem h, List.foldl_append]
  rfl
/-- Pairs that a map may have. -/
def pairsOk (l : List Pair) : Bool := l.all pairOk && rise ltB (l.map (·.1))
def mapR (l : List Pair) : Link × List Pair := riseL 13 1 ((leafG l).map leafK) ((leafG l).map leafO)
/-- What Build answers: the root, the objects, the error. -/
def buildM (l : List Pair) : Bs × List Pair × Int :=
  if 4096 < l.length then ([], [], 121)
  else if pairsOk l = false then ([], [], 120)
  else if l.length = 0 then ((leafO []).1, [leafO []], 0)
  else ((mapR l).1.2.1, keptP [] (mapR l).2, 0)
/-- What holds of the links of a level. -/
structure LevOk (j : Nat) (ks : List Link) (raw : List Pair) : Prop where
  pos : 1 ≤ ks.length
  few : ks.length ≤ 2 ^ (13 - j)
  each : ∀ k ∈ ks, rlinkOk k = true
  rises : rise ltB (ks.map (·.1)) = true
  sum : manyL ks ≤ 4096
  objs : raw.length + 2 * ks.length ≤ 100000
theorem manyL_append (a b : List Link) : manyL (a ++ b) = manyL a + manyL b := by simp [manyL, List.sum_append]
theorem rlinkOk_iff (k : Link) : rlinkOk k = true ↔ isKeyB k.1 = true ∧ isIdB k.2.1 = true ∧ 1 ≤ k.2.2 ∧ k.2.2 ≤ 4096 := by
  unfold rlinkOk
  simp only [Bool.and_eq_true, decide_eq_true_eq]
  constructor
  · rintro ⟨⟨⟨h1, h2⟩, h3⟩, h4⟩; exact ⟨h1, h2, h3, h4⟩
  · rintro ⟨h1, h2, h3, h4⟩; exact ⟨⟨⟨h1, h2⟩, h3⟩, h4⟩
theorem manyL_many : ∀ (ks : List Link), (∀ k ∈ ks, rlinkOk k = true) → (ks.length : Int) ≤ manyL ks
  | [], _ => by simp [manyL]
  | k :: r, h => by
    have h1 := manyL_many r (fun q hq => h q (by simp [hq]))
    have h2 := ((rlinkOk_iff k).1 (h k (by simp))).2.2.1
    have : manyL (k :: r) = k.2.2 + manyL r := by simp [manyL]
    rw [this, List.length_cons]
    omega
theorem manyL_in : ∀ (gs : List (List Link)) (g : List Link), (∀ k ∈ gs.flatten, rlinkOk k = true) → g ∈ gs → manyL g ≤ manyL gs.flatten
  | [], _, _, h => by cases h
  | a :: gs, g, hk, h => by
    rw [List.flatten_cons, manyL_append]
    have h1 := manyL_many a (fun k hk' => hk k (by simp [hk']))
    have h2 := manyL_many gs.flatten (fun k hk' => hk k (by rw [List.flatten_cons]; exact List.mem_append_right _ hk'))
    rcases List.mem_cons.1 h with rfl | h
    · omega
    · have := manyL_in gs g (fun k hk' => hk k (by rw [List.flatten_cons]; exact List.mem_append_right _ hk')) h
      omega
theorem manyL_map (level : Int) : ∀ (gs : List (List Link)), manyL (gs.map (brK level)) = manyL gs.flatten
  | [] => rfl
  | g :: gs => by
    rw [List.flatten_cons, manyL_append, ← manyL_map level gs]
    simp [manyL, brK]
/-- A part of links that are right makes a branch that is right. -/
theorem branchOk_of {level : Int} {g : List Link} (h1 : 1 ≤ level) (h2 : level ≤ 20) (hp : 1 ≤ g.length) (hm : g.length ≤ 64) (he : ∀ k ∈ g, rlinkOk k = true) (hr : rise ltB (g.map (·.1)) = true) (hs : manyL g ≤ 4096) : branchOk ltB (level, g) = true := by
  rw [branchOk_alike (level, g) (by simp only [levelB, decide_eq_true_eq]; exact ⟨h1, h2⟩) hp hm]
  simp only [Bool.and_eq_true, decide_eq_true_eq, List.all_eq_true]
  exact ⟨⟨he, hr⟩, hs⟩
theorem lastL_mem {g : List Link} (h : 1 ≤ g.length) : ∃ k ∈ g, lastL g = k.1 := by
  obtain ⟨l, x, rfl⟩ : ∃ l x, g = l ++ [x] := ⟨g.dropLast, g.getLast (by intro q; rw [q] at h; simp at h), (List.dropLast_concat_getLast _).symm⟩
  exact ⟨x, by simp, by simp [lastL]⟩
theorem LevOk.group {j : Nat} {ks : List Link} {raw : List Pair} (h : LevOk j ks raw) {level : Nat} {g : List Link} (hg : g ∈ brG level ks) : 1 ≤ g.length ∧ g.length ≤ 64 ∧ (∀ k ∈ g, rlinkOk k = true) ∧ rise ltB (g.map (·.1)) = true ∧ manyL g ≤ 4096 ∧ 1 ≤ manyL g := by
  have h1 := gath_pos _ _ _ g hg
  have h2 := gath_most _ 64 (fun x => ends12_64 x.1 level) _ [] (by simp) g hg
  have h3 := gath_in hg
  have hf := gath_flat (fun n p => ends12 n p.1 level) ks []
  simp only [List.nil_append] at h3 hf
  change (brG level ks).flatten = ks at hf
  have h4 : ∀ k ∈ g, rlinkOk k = true := fun k hk => h.each k (h3.subset hk)
  have h5 := manyL_in _ g (by rw [hf]; exact h.each) hg
  rw [hf] at h5
  have h6 := manyL_many g h4
  refine ⟨h1, h2, h4, (rise_iff _).2 (((rise_iff _).1 h.rises).sublist (h3.map _)), Int.le_trans h5 h.sum, by omega⟩
theorem LevOk.next {j : Nat} {ks : List Link} {raw : List Pair} (h : LevOk j ks raw) (hlt : 1 < ks.length) : LevOk (j + 1) ((brG (j + 1) ks).map (brK ((j + 1 : Nat) : Int))) (raw ++ (brG (j + 1) ks).map (brO ((j + 1 : Nat) : Int))) := by
  have hh := gath_half (fun n (p : Link) => ends12 n p.1 (j + 1)) (fun n x hx => ends12_two hx) ks []
  have hf := gath_flat (fun n (p : Link) => ends12 n p.1 (j + 1)) ks []
  have hp := gath_pos (fun n (p : Link) => ends12 n p.1 (j + 1)) ks []
  have h1 := gath_ne (fun n (p : Link) => ends12 n p.1 (j + 1)) ks [] (.inr (by intro e; rw [e] at hlt; simp at hlt))
  have ho := h.objs
  have hfw := h.few
  have hj : j < 13 := by
    rcases Nat.lt_or_ge j 13 with q | q
    · exact q
    · rw [show 13 - j = 0 from by omega] at hfw
      simp at hfw
      omega
  have hp2 : 2 ^ (13 - j) = 2 * 2 ^ (13 - (j + 1)) := by rw [show 13 - j = (13 - (j + 1)) + 1 from by omega, Nat.pow_succ]; omega
  change 2 * (brG (j + 1) ks).length ≤ _ at hh
  change 1 ≤ (brG (j + 1) ks).length at h1
  simp only [List.length_nil, Nat.zero_add, List.nil_append] at hh hf
  refine ⟨by rw [List.length_map]; exact h1, by rw [List.length_map]; omega, fun k hk => ?_, ?_, ?_, by rw [List.length_append, List.length_map, List.length_map]; omega⟩
  · obtain ⟨g, hg, rfl⟩ := List.mem_map.1 hk
    obtain ⟨g1, g2, g3, g4, g5, g6⟩ := h.group hg
    obtain ⟨x, hx, e⟩ := lastL_mem g1
    refine (rlinkOk_iff _).2 ⟨?_, by simp [isIdB, brK, brO, sha_length], g6, g5⟩
    show isKeyB (lastL g) = true
    rw [e]
    exact ((rlinkOk_iff x).1 (g3 x hx)).1
  · rw [rise_iff, List.map_map]
    have hs := lasts_sub (fun k : Link => k.1) ([] : Bs) (brG (j + 1) ks) hp
    have hf' : (brG (j + 1) ks).flatten = ks := hf
    rw [hf'] at hs
    exact ((rise_iff _).1 h.rises).sublist hs
  · rw [manyL_map]
    have hf' : (brG (j + 1) ks).flatten = ks := hf
    rw [hf']
    exact h.sum
theorem lastP_mem {g : List Pair} (h : 1 ≤ g.length) : ∃ k ∈ g, lastP g = k.1 := by
  obtain ⟨l, x, rfl⟩ : ∃ l x, g = l ++ [x] := ⟨g.dropLast, g.getLast (by intro q; rw [q] at h; simp at h), (List.dropLast_concat_getLast _).symm⟩
  exact ⟨x, by simp, by simp [lastP]⟩
theorem leaf_group {l : List Pair} (h : pairsOk l = true) {g : List Pair} (hg : g ∈ leafG l) : 1 ≤ g.length ∧ leafOk ltB g = true ∧ ∀ p ∈ g, pairOk p = true := by
  have h1 := gath_pos _ _ _ g hg
  have h2 := gath_most _ 64 (fun x => ends12_64 x.1 0) _ [] (by simp) g hg
  have h3 := gath_in hg
  simp only [List.nil_append] at h3
  unfold pairsOk at h
  simp only [Bool.and_eq_true, List.all_eq_true] at h
  have h4 : ∀ p ∈ g, pairOk p = true := fun p hp => h.1 p (h3.subset hp)
  refine ⟨h1, ?_, h4⟩
  rw [leafOk_alike g h2]
  simp only [Bool.and_eq_true, List.all_eq_true]
  exact ⟨h4, (rise_iff _).2 (((rise_iff _).1 h.2).sublist (h3.map _))⟩
theorem leafG_le (l : List Pair) : (leafG l).length ≤ l.length := by
  have := gath_le (fun n (p : Pair) => ends12 n p.1 0) l []
  simp only [List.length_nil, Nat.zero_add] at this
  exact this
theorem manyL_leaves : ∀ (gs : List (List Pair)), manyL (gs.map leafK) = (gs.flatten.length : Int)
  | [] => rfl
  | g :: gs => by
    have := manyL_leaves gs
    rw [List.map_cons, List.flatten_cons, List.length_append, show leafK g :: gs.map leafK = [leafK g] ++ gs.map leafK from rfl, manyL_append, this]
    simp [manyL, leafK]
theorem leaves_ok {l : List Pair} (h : pairsOk l = true) (hl : l.length ≤ 4096) (hn : l.length ≠ 0) : LevOk 0 ((leafG l).map leafK) ((leafG l).map leafO) := by
  have hle := leafG_le l
  have hf := gath_flat (fun n (p : Pair) => ends12 n p.1 0) l []
  have hp := gath_pos (fun n (p : Pair) => ends12 n p.1 0) l []
  have h1 := gath_ne (fun n (p : Pair) => ends12 n p.1 0) l [] (.inr (by intro e; rw [e] at hn; simp at hn))
  change (leafG l).flatten = _ at hf
  change 1 ≤ (leafG l).length at h1
  simp only [List.nil_append] at hf
  refine ⟨by rw [List.length_map]; exact h1, by rw [List.length_map]; simp only [Nat.sub_zero]; omega, fun k hk => ?_, ?_, ?_, by rw [List.length_map, List.length_map]; omega⟩
  · obtain ⟨g, hg, rfl⟩ := List.mem_map.1 hk
    obtain ⟨g1, g2, g3⟩ := leaf_group h hg
    obtain ⟨x, hx, e⟩ := lastP_mem g1
    have g4 := (leafOk_pairs g2).1
    refine (rlinkOk_iff _).2 ⟨?_, by simp [isIdB, leafK, leafO, sha_length], by show 1 ≤ (g.length : Int); omega, by show (g.length : Int) ≤ 4096; omega⟩
    show isKeyB (lastP g) = true
    rw [e]
    have := g3 x hx
    unfold pairOk at this
    simp only [Bool.and_eq_true] at this
    exact this.1
  · rw [rise_iff, List.map_map]
    have hs := lasts_sub (fun k : Pair => k.1) ([] : Bs) (leafG l) hp
    rw [hf] at hs
    unfold pairsOk at h
    simp only [Bool.and_eq_true] at h
    exact ((rise_iff _).1 h.2).sublist hs
  · rw [manyL_leaves, hf]
    omega
end Go.Proofs.Ytldfjpgcemfpjaa

/-
  Files as trees, plainly: what stands behind a part, going to bytes, going through all fans. No program. No condition.
-/
namespace Go.Proofs.Ytldfjpgcemfpjaa

/-- What a part stands for: its level, its data, its kids. -/
abbrev Node := Int × (Bs × List Part)
/-- The first object that has the id. -/
def findO (objs : List Pair) (id : Bs) : Option Bs := (objs.find? (fun o => o.1 == id)).map (·.2)
/-- What was asked, read, met so far; the first error. -/
structure Wk where
  asked : List Bs
  data : Bs
  parts : List Part
  bad : Int
/-- No more than so many more. -/
def Grows (s t : Wk) (n m : Nat) : Prop := t.asked.length ≤ s.asked.length + n ∧ t.data.length ≤ s.data.length + m ∧ t.parts.length ≤ s.parts.length + m
theorem Grows.trans {s t u : Wk} {n m n' m' : Nat} (h : Grows s t n m) (k : Grows t u n' m') : Grows s u (n + n') (m + m') := ⟨by have := h.1; have := k.1; omega, by have := h.2.1; have := k.2.1; omega, by have := h.2.2; have := k.2.2; omega⟩
theorem Grows.refl (s : Wk) : Grows s s 0 0 := ⟨by omega, by omega, by omega⟩
theorem Grows.le {s t : Wk} {n m n' m' : Nat} (h : Grows s t n m) (h1 : n ≤ n') (h2 : m ≤ m') : Grows s t n' m' := ⟨by have := h.1; omega, by have := h.2.1; omega, by have := h.2.2; omega⟩
end Go.Proofs.Ytldfjpgcemfpjaa

/-
  Objects found by their id; the gets that find them. Conditions: lists lie there.
-/
namespace Go.Proofs.Ytldfjpgcemfpjaa
open Go.RowKit

/-- What a get answers. -/
def foundV (o : Option Bs) : Value := match o with | some b => .tuple #[.string (strB b), .int .i64 0] | none => .tuple #[.string (strB []), .int .i64 3]
theorem findO_none {objs : List Pair} {id : Bs} (h : ∀ o ∈ objs, o.1 ≠ id) : findO objs id = none := by
  unfold findO
  rw [List.find?_eq_none.2 (fun o ho => by simpa using h o ho)]
  rfl
theorem findO_at {objs : List Pair} {id : Bs} {k : Nat} (hk : k < objs.length) (he : objs[k].1 = id) (h : ∀ o ∈ objs.take k, o.1 ≠ id) : findO objs id = some objs[k].2 := by
  unfold findO
  have : objs.find? (fun o => o.1 == id) = some objs[k] := by
    rw [List.find?_eq_some_iff_getElem]
    refine ⟨by simpa using he, k, hk, rfl, fun j hj => ?_⟩
    have hm : objs[j] ∈ objs.take k := by rw [List.mem_take_iff_getElem]; exact ⟨j, by omega, rfl⟩
    simpa using h _ hm
  rw [this]
  rfl
theorem foundV_form (o : Option Bs) : ∃ s k, foundV o = .tuple #[.string (strB s), .int .i64 k] := by
  cases o with
  | none => exact ⟨[], 3, rfl⟩
  | some b => exact ⟨b, 0, rfl⟩
theorem findO_mem {objs : List Pair} {id b : Bs} (h : findO objs id = some b) : ∃ o ∈ objs, o.2 = b := by
  unfold findO at h
  cases hf : objs.find? (fun o => o.1 == id) with
  | none => rw [hf] at h; cases h
  | some o =>
    rw [hf] at h
    exact ⟨o, List.mem_of_find?_eq_some hf, by simpa using h⟩
set_option maxRecDepth 20000 in
theorem find_any (w : World) (v : Value) (objs : List Pair) (id : Bs) (hv : Ls w.heap.size w 2 pairC v objs) :
    Calls Try.prog 23 #[v, .string (strB id)] w fun e w' => e = .returned (foundV (findO objs id)) ∧ w' = w := by
  obtain ⟨ao, cap, rfl, h1, h2, h4⟩ := hv
  unfold maxLen at h2
  have hx := toL id
  go_enter Try.func23, Try.ntmps23
  go_wp2_with fail
  go_loopw [6] (fun t wr => ∃ k : Nat, k ≤ objs.length ∧ t = .int .i64 k ∧ (∀ o ∈ objs.take k, o.1 ≠ id) ∧ wr = w)
    (fun t _ => objs.length - (intOf t).toNat)
  case atStart => exact ⟨0, by omega, rfl, by simp, rfl⟩
  case round =>
    obtain ⟨k, hk, rfl, hno, rfl⟩ := hrel
    by_cases hlt : k < objs.length
    · obtain ⟨b, off, rfl, hbB, hc⟩ := h4 (by rintro rfl; simp at hlt)
      have c0 := hc k hlt 0 _ rfl
      have c1 := hc k hlt 1 _ rfl
      simp only [Nat.add_zero] at c0
      have hy := toL objs[k].1
      by_cases he : objs[k].1 = id
      · have hbe : (objs[k].1 == id) = true := by simpa using he
        have hfo := findO_at hlt he hno
        have HF := hide hfo
        clear hfo hno
        generalize objs[k] = y at *
        go_wp2
        go_ret2
        exact ⟨by rw [HF.out]; rfl, rfl⟩
      · have hbe : (objs[k].1 == id) = false := by simpa using he
        have hno2 : ∀ o ∈ objs.take (k + 1), o.1 ≠ id := by
          rw [List.take_succ_eq_append_getElem hlt]
          intro o ho
          rcases List.mem_append.1 ho with ho | ho
          · exact hno o ho
          · simp only [List.mem_singleton] at ho; subst ho; exact he
        generalize objs[k] = y at *
        go_wp2
        go_roundw
        case rel => exact ⟨k + 1, by omega, by go_num, hno2, trivial⟩
        case measure => simp [intOf]; omega
    · obtain rfl : k = objs.length := by omega
      rw [List.take_length] at hno
      have HF := hide (findO_none hno)
      clear hno
      go_wp2
      go_ret2
      exact ⟨by rw [HF.out]; rfl, rfl⟩
set_option maxRecDepth 20000 in
theorem from1_any (w : World) (c : Nat) (v : Value) (objs : List Pair) (id : Bs) (hc : w.heap[c]? = some (.cells #[v] 22)) (hv : Ls w.heap.size w 2 pairC v objs) :
    Calls Try.prog 22 #[.string (strB id), .pointer (some ⟨c, 0, none⟩)] w fun e w' => e = .returned (foundV (findO objs id)) ∧ w' = w := by
  have hf := find_any w v objs id hv
  have c0 := cell_of_row w c 0 _ _ _ hc
  simp only [List.getElem?_toArray, List.getElem?_cons_zero] at c0
  obtain ⟨ao, cap, rfl, -⟩ := hv
  obtain ⟨s, k, hfv⟩ := foundV_form (findO objs id)
  rw [hfv] at hf ⊢
  go_enter Try.func22, Try.ntmps22
  go_wp2_with fail
  refine hf.mono ?_
  rintro e w1 ⟨rfl, rfl⟩
  go_wp2
  go_ret2
  exact ⟨rfl, rfl⟩
end Go.Proofs.Ytldfjpgcemfpjaa

/-
  What stands behind a link, plainly: a leaf's pairs, a branch's links. No program here. No condition.
-/
namespace Go.Proofs.Ytldfjpgcemfpjaa

/-- A node: its level, a leaf's pairs, a branch's links. -/
abbrev NodeM := Int × (List Pair × List Link)
def nodeM (b : Bs) : Option NodeM :=
  match takenLeaf b with
  | some l => some (0, l, [])
  | none => match takenBranch b with
    | some f => some (f.1, [], f.2)
    | none => none
def countM (n : NodeM) : Int := (n.2.1.length : Int) + manyL n.2.2
/-- Is a node the one that the link says, at a level? -/
def fitsM (n : NodeM) (k : Link) (level : Int) : Bool :=
  decide (n.1 = level) && decide (countM n = k.2.2) && (if n.1 = 0 then decide (1 ≤ n.2.1.length) && lastP n.2.1 == k.1 else lastL n.2.2 == k.1)
/-- What is answered where a link is gone to: an error's number, the node. -/
def askM (fd : Bs → Option Bs) (k : Link) (level : Int) : Int × NodeM :=
  match fd k.2.1 with
  | none => (3, 0, [], [])
  | some b => match nodeM b with
    | none => (122, 0, [], [])
    | some n => if level < 0 ∨ fitsM n k level = true then (0, n) else (122, 0, [], [])
/-- What holds of every node. -/
structure RightM (n : NodeM) : Prop where
  lo : 0 ≤ n.1
  hi : n.1 ≤ 20
  leaf : n.1 = 0 → n.2.2 = [] ∧ leafOk ltB n.2.1 = true
  branch : 1 ≤ n.1 → n.2.1 = [] ∧ branchOk ltB (n.1, n.2.2) = true
theorem branch_level {f : Branch} (h : branchOk ltB f = true) : 1 ≤ f.1 ∧ f.1 ≤ 20 ∧ 1 ≤ f.2.length := by
  simp only [branchOk, levelB, Bool.and_eq_true, decide_eq_true_eq] at h
  obtain ⟨⟨⟨⟨h1, h2⟩, -⟩, -⟩, -⟩ := h
  exact ⟨h1.1, h1.2, h2.1⟩
theorem nodeM_right {b : Bs} (hb : b.length ≤ 140737488355328) {n : NodeM} (h : nodeM b = some n) : RightM n := by
  unfold nodeM at h
  cases hc : takenLeaf b with
  | some l =>
    rw [hc] at h
    simp only [Option.some.injEq] at h
    subst h
    have := ((takenLeaf_iff b hb l).1 hc).1
    exact ⟨by simp, by simp, fun _ => ⟨rfl, this⟩, fun h => absurd h (by simp)⟩
  | none =>
    rw [hc] at h
    cases hf : takenBranch b with
    | some f =>
      rw [hf] at h
      simp only [Option.some.injEq] at h
      subst h
      have g := ((takenBranch_iff b hb f).1 hf).1
      have g2 := branch_level g
      exact ⟨by simp only; omega, g2.2.1, fun h => by simp only at h; omega, fun _ => ⟨rfl, g⟩⟩
    | none =>
      rw [hf] at h
      cases h
theorem nodeM_leaf {b : Bs} {l : List Pair} (h : takenLeaf b = some l) : nodeM b = some (0, l, []) := by unfold nodeM; rw [h]
theorem nodeM_branch {b : Bs} {f : Branch} (h0 : takenLeaf b = none) (h : takenBranch b = some f) : nodeM b = some (f.1, [], f.2) := by unfold nodeM; rw [h0, h]
theorem nodeM_none {b : Bs} (h0 : takenLeaf b = none) (h : takenBranch b = none) : nodeM b = none := by unfold nodeM; rw [h0, h]
theorem askM_miss {fd : Bs → Option Bs} {k : Link} {level : Int} (h : fd k.2.1 = none) : askM fd k level = (3, 0, [], []) := by unfold askM; rw [h]
theorem askM_odd {fd : Bs → Option Bs} {k : Link} {level : Int} {b : Bs} (h : fd k.2.1 = some b) (hn : nodeM b = none) : askM fd k level = (122, 0, [], []) := by unfold askM; rw [h]; simp only [hn]
theorem askM_yes {fd : Bs → Option Bs} {k : Link} {level : Int} {b : Bs} {n : NodeM} (h : fd k.2.1 = some b) (hn : nodeM b = some n) (hl : level < 0 ∨ fitsM n k level = true) : askM fd k level = (0, n) := by unfold askM; rw [h]; simp only [hn, if_pos hl]
theorem askM_no {fd : Bs → Option Bs} {k : Link} {level : Int} {b : Bs} {n : NodeM} (h : fd k.2.1 = some b) (hn : nodeM b = some n) (hl : ¬ level < 0) (h2 : fitsM n k level = false) : askM fd k level = (122, 0, [], []) := by unfold askM; rw [h]; simp only [hn]; rw [if_neg (by rw [h2]; simp [hl])]
theorem askM_ok {fd : Bs → Option Bs} {k : Link} {level : Int} (hs : ∀ id b, fd id = some b → b.length ≤ 140737488355328) (h : (askM fd k level).1 = 0) : RightM (askM fd k level).2 ∧ (level < 0 ∨ fitsM (askM fd k level).2 k level = true) := by
  unfold askM at h ⊢
  cases hf : fd k.2.1 with
  | none => rw [hf] at h; cases h
  | some b =>
    rw [hf] at h
    cases hn : nodeM b with
    | none => simp only [hn] at h; cases h
    | some n =>
      simp only [hn] at h ⊢
      by_cases hc : level < 0 ∨ fitsM n k level = true
      · rw [if_pos hc]
        exact ⟨nodeM_right (hs _ _ hf) hn, hc⟩
      · rw [if_neg hc] at h
        cases h
theorem fitsM_leaf (l : List Pair) (k : Link) (level : Int) : fitsM (0, l, []) k level = (decide (0 = level) && decide ((l.length : Int) = k.2.2) && (decide (1 ≤ l.length) && lastP l == k.1)) := by
  unfold fitsM countM
  simp [manyL]
theorem fitsM_branch (f : Branch) (k : Link) (level : Int) (h : 1 ≤ f.1) : fitsM (f.1, [], f.2) k level = (decide (f.1 = level) && decide (manyL f.2 = k.2.2) && lastL f.2 == k.1) := by
  unfold fitsM countM
  simp only [List.length_nil, Int.natCast_zero, Int.zero_add]
  rw [if_neg (by omega : ¬ f.1 = 0)]
end Go.Proofs.Ytldfjpgcemfpjaa

/-
  Rows of a call's own, and what of memory moves: blocks of some types, and one row. No condition.
-/
namespace Go.Proofs.Ytldfjpgcemfpjaa
open Go.RowKit

/-- The row v, made since B, has these, each of k cells of the type e. -/
def Rw {α : Type} (B : Nat) (w : World) (e : TypeId) (k : Nat) (cs : α → List Value) (v : Value) (xs : List α) : Prop := w.ownsRow B e k v xs.length (xs.flatMap cs)
theorem own_same {w w' : World} {B k n : Nat} {e : TypeId} {v : Value} {xs : List Value} (h : w.ownsRow B e k v n xs) (hs : ∀ g, v.ownBlock = some g → w'.heap[g]? = w.heap[g]?) : w'.ownsRow B e k v n xs := by
  refine ⟨h.1, ?_⟩
  rcases h.2 with h | ⟨g, cap, cur, h1, h2, h3, h4⟩
  · exact .inl h
  · exact .inr ⟨g, cap, cur, h1, h2, by rw [hs g (by rw [h1]; rfl)]; exact h3, h4⟩
theorem row_form {w : World} {B k n : Nat} {e : TypeId} {v : Value} {xs : List Value} (h : w.ownsRow B e k v n xs) : ∃ a m c, v = .slice a m c := by
  obtain ⟨a, c, h1, -⟩ := own_form h
  exact ⟨a, _, c, h1⟩
/-- The row is where it was, or new. -/
def Nx (w : World) (a b : Option Nat) : Prop := b = a ∨ ∃ q, b = some q ∧ w.heap.size ≤ q
theorem Nx.refl (w : World) (a : Option Nat) : Nx w a a := .inl rfl
theorem Nx.trans {w w1 : World} {a b c : Option Nat} (h : Nx w a b) (k : Nx w1 b c) (hs : w.heap.size ≤ w1.heap.size) : Nx w a c := by
  rcases k with rfl | ⟨q, rfl, hq⟩
  · exact h
  · exact .inr ⟨q, rfl, Nat.le_trans hs hq⟩
/-- Nothing below B moves; above it blocks of these types alone, and the row r. -/
structure Mv (B : Nat) (ts : List TypeId) (r : Option Nat) (w w' : World) : Prop where
  b : Below B w w'
  k : ∀ (k : Nat) (cs : Array Value) (t : TypeId) (fr : Nat × Nat), w.heap[k]? = some (Obj.cells cs t fr) → t ∉ ts → some k ≠ r → w'.heap[k]? = some (Obj.cells cs t fr)
theorem Mv.refl (B : Nat) (ts : List TypeId) (r : Option Nat) (w : World) : Mv B ts r w w := ⟨Below.refl _ _, fun _ _ _ _ h _ _ => h⟩
theorem Mv.size {B : Nat} {ts : List TypeId} {r : Option Nat} {w w' : World} (h : Mv B ts r w w') : w.heap.size ≤ w'.heap.size := h.b.size
theorem Mv.trans {B : Nat} {ts : List TypeId} {r r1 : Option Nat} {a b c : World} (h : Mv B ts r a b) (k : Mv B ts r1 b c) (hn : Nx a r r1) : Mv B ts r a c :=
  ⟨h.b.trans k.b, fun i cs t fr hi ht hr => k.k i cs t fr (h.k i cs t fr hi ht hr) ht (by
    rcases hn with rfl | ⟨q, rfl, hq⟩
    · exact hr
    · intro e
      injection e with e
      have := lt_of_heap hi
      omega)⟩
theorem Mv.of {B : Nat} {ts : List TypeId} {r : Option Nat} {w w' : World} (h : Below w.heap.size w w') (hB : B ≤ w.heap.size) : Mv B ts r w w' := ⟨h.mono hB, fun k _ _ _ hk _ _ => (h.block k (lt_of_heap hk)).trans hk⟩
theorem Mv.more {B : Nat} {ts : List TypeId} {r : Option Nat} {a b c : World} (h : Mv B ts r a b) (k : Below b.heap.size b c) (hB : B ≤ b.heap.size) : Mv B ts r a c :=
  ⟨h.b.trans (k.mono hB), fun i cs t fr hi ht hr => by have := h.k i cs t fr hi ht hr; exact (k.block i (lt_of_heap this)).trans this⟩
theorem Mv.alloc {B : Nat} {ts : List TypeId} {r : Option Nat} {w w' : World} (h : Mv B ts r w w') (hB : B ≤ w'.heap.size) (o : Obj) : Mv B ts r w (w'.alloc o) := h.more ((Below.refl _ _).alloc (Nat.le_refl _) _) hB
theorem Mv.drew {B : Nat} {ts : List TypeId} {r : Option Nat} {w w' : World} (h : Mv B ts r w w') : Mv B ts r w w'.drew := ⟨h.b.drew, h.k⟩
theorem Mv.none {B : Nat} {ts : List TypeId} {r : Option Nat} {w w' : World} (h : Mv B ts Option.none w w') : Mv B ts r w w' := ⟨h.b, fun k cs t fr hk ht _ => h.k k cs t fr hk ht (by simp)⟩
theorem Mv.set {B : Nat} {ts : List TypeId} {r : Option Nat} {w w' : World} (h : Mv B ts r w w') {g j : Nat} {cs : Array Value} {t : TypeId} {fr : Nat × Nat} (hh : w'.heap[g]? = some (.cells cs t fr)) (ht : t ∈ ts) (hg : B ≤ g) (u : Value) : Mv B ts r w (w'.setCell ⟨g, j, Option.none⟩ u) :=
  ⟨h.b.setCell (p := ⟨g, j, Option.none⟩) hg _, fun k cs' t' fr' hk ht' hr => by
    exact (Kt.set (ts := ts) hh ht u).2 k cs' t' fr' (h.k k cs' t' fr' hk ht' hr) ht'⟩
/-- A row of one of the types has grown. -/
theorem Mv.grown {B : Nat} {ts : List TypeId} {r : Option Nat} {w w1 w2 : World} (h : Mv B ts r w w1) {v : Value} {n k : Nat} {xs : List Value} {e : TypeId} (hown : w1.ownsRow B e k v n xs) (hgr : w1.grownBy w2 v.ownBlock) (he : e ∈ ts) (hB : B ≤ w1.heap.size) : Mv B ts r w w2 := by
  refine ⟨h.b.trans ((Below.refl _ _).grown hgr hB (fun q hq => (hown.lt q hq).1)), fun i cs t fr hi ht hr => ?_⟩
  have hi1 := h.k i cs t fr hi ht hr
  refine (hgr.block i (lt_of_heap hi1) fun hq => ?_).trans hi1
  obtain ⟨c, fz, h1⟩ := Lib.ownsRow_kind hown i hq.symm
  rw [hi1] at h1
  injection h1 with h1
  injection h1 with _ h1
  exact ht (h1 ▸ he)
/-- The row itself has grown. -/
theorem Mv.grownRow {B : Nat} {ts : List TypeId} {r : Option Nat} {w w1 w2 : World} (h : Mv B ts r w w1) {v : Value} {n k : Nat} {xs : List Value} {e : TypeId} (hown : w1.ownsRow B e k v n xs) (hgr : w1.grownBy w2 v.ownBlock) (hn : Nx w r v.ownBlock) (hB : B ≤ w1.heap.size) : Mv B ts r w w2 := by
  refine ⟨h.b.trans ((Below.refl _ _).grown hgr hB (fun q hq => (hown.lt q hq).1)), fun i cs t fr hi ht hr => ?_⟩
  have hi1 := h.k i cs t fr hi ht hr
  refine (hgr.block i (lt_of_heap hi1) fun hq => ?_).trans hi1
  rcases hn with hn | ⟨q, hn, hl⟩
  · exact hr (hq.trans hn)
  · rw [hn] at hq
    injection hq with hq
    have := lt_of_heap hi
    omega
/-- A row of a type that does not move stays. -/
theorem Mv.own {B B' : Nat} {ts : List TypeId} {r : Option Nat} {w w' : World} (h : Mv B ts r w w') {v : Value} {n k : Nat} {xs : List Value} {e : TypeId} (hown : w.ownsRow B' e k v n xs) (he : e ∉ ts) (hr : v.ownBlock = Option.none ∨ v.ownBlock ≠ r) : w'.ownsRow B' e k v n xs := by
  refine own_same hown (fun g hg => ?_)
  rcases hr with hr | hr
  · rw [hr] at hg; cases hg
  · obtain ⟨c, fz, h1⟩ := Lib.ownsRow_kind hown g hg
    rw [h.k g c e fz h1 he (by rw [← hg]; exact hr), h1]
theorem grow_other {w w1 : World} {B B' k k' n n' : Nat} {e e' : TypeId} {v u : Value} {xs ys : List Value} (h : w.ownsRow B e k v n xs) (_hu : w.ownsRow B' e' k' u n' ys) (hgr : w.grownBy w1 u.ownBlock) (hne : v.ownBlock = none ∨ v.ownBlock ≠ u.ownBlock) : w1.ownsRow B e k v n xs := by
  refine own_same h (fun g hg => hgr.block g (h.lt g hg).2 ?_)
  rcases hne with hne | hne
  · rw [hne] at hg; cases hg
  · rw [← hg]; exact hne
theorem own_ne {w : World} {B B' k k' n n' : Nat} {e e' : TypeId} {v u : Value} {xs ys : List Value} (h : w.ownsRow B e k v n xs) (hu : w.ownsRow B' e' k' u n' ys) (he : e ≠ e') : v.ownBlock = none ∨ v.ownBlock ≠ u.ownBlock := by
  cases hv : v.ownBlock with
  | none => exact .inl rfl
  | some g =>
    refine .inr fun hq => ?_
    obtain ⟨c, fz, h1⟩ := Lib.ownsRow_kind h g hv
    obtain ⟨c', fz', h2⟩ := Lib.ownsRow_kind hu g hq.symm
    rw [h1] at h2
    injection h2 with h2
    injection h2 with _ h2
    exact he h2
theorem grow_keep {w w1 : World} {B k n : Nat} {e : TypeId} {u : Value} {ys : List Value} (hu : w.ownsRow B e k u n ys) (hgr : w.grownBy w1 u.ownBlock) {g : Nat} {cs : Array Value} {t : TypeId} {fr : Nat × Nat} (hh : w.heap[g]? = some (.cells cs t fr)) (ht : t ≠ e) : w1.heap[g]? = some (.cells cs t fr) := by
  refine (hgr.block g (lt_of_heap hh) fun hq => ?_).trans hh
  obtain ⟨c, fz, h1⟩ := Lib.ownsRow_kind hu g hq.symm
  rw [hh] at h1
  injection h1 with h1
  injection h1 with _ h1
  exact ht h1
theorem own_setCell {w : World} {B k n g j : Nat} {e t : TypeId} {v : Value} {xs : List Value} {cs : Array Value} {fr : Nat × Nat} (h : w.ownsRow B e k v n xs) (hh : w.heap[g]? = some (.cells cs t fr)) (hte : t ≠ e) (u : Value) : (w.setCell ⟨g, j, none⟩ u).ownsRow B e k v n xs := by
  refine own_same h (fun q hq => ?_)
  have hne : q ≠ g := by
    rintro rfl
    obtain ⟨c, fz, h1⟩ := Lib.ownsRow_kind h q hq
    rw [hh] at h1
    injection h1 with h1
    injection h1 with _ h1
    exact hte h1
  unfold World.setCell
  simp [Array.getElem?_modify, Ne.symm hne]
theorem heap_setOther {w : World} {g j q : Nat} {u : Value} (hne : q ≠ g) : (w.setCell ⟨g, j, none⟩ u).heap[q]? = w.heap[q]? := by
  unfold World.setCell
  simp [Array.getElem?_modify, Ne.symm hne]
theorem ne_type {w : World} {a b : Nat} {cs cs' : Array Value} {t t' : TypeId} {fr fr' : Nat × Nat} (h : w.heap[a]? = some (.cells cs t fr)) (h' : w.heap[b]? = some (.cells cs' t' fr')) (hne : t ≠ t') : a ≠ b := by
  rintro rfl
  rw [h] at h'
  injection h' with h'
  injection h' with _ h'
  exact hne h'

/-- A text laid behind a row of texts. -/
theorem app_id (w : World) (B : Nat) (v : Value) (xs : List Bs) (id : Bs) (h : Rw B w 9 1 idC v xs) (hB : B ≤ w.heap.size) (hn : xs.length ≤ 4294967296) :
    ∃ v' w', (Builtin.append_ #[34, 34] 34 #[v, .slice (some ⟨w.heap.size, 0, none⟩) 1 1]).run Try.prog (w.alloc (.cells #[.string (strB id)] 9)) = .ok v' w' ∧
      Rw B w' 9 1 idC v' (xs ++ [id]) ∧ (w.alloc (.cells #[.string (strB id)] 9)).grownBy w' v.ownBlock ∧ (v'.ownBlock = v.ownBlock ∨ v'.ownBlock = some (w.heap.size + 1)) := by
  obtain ⟨i0, hi, hz0, hz1, hz2⟩ := info_parts Try.zStr
  have hx := heap_last w (.cells #[.string (strB id)] 9) _ rfl
  obtain ⟨v', w', h1, h2, h3, -, h4⟩ := run_append_own_at (P := Try.prog) (w.alloc (.cells #[.string (strB id)] 9)) B 34 34 9 i0 (.string ⟨#[]⟩) 1 16 Try.underlying34 hi hz0 hz1 hz2 rfl (by decide) v xs.length (xs.flatMap idC) (h.alloc _) ⟨w.heap.size, 0, none⟩ 1 1 (idC id) rfl (fun j u hu => by
      rw [Addr.add_lit, Nat.zero_add, cell_of_row _ _ _ _ _ _ hx, List.getElem?_toArray]; exact hu) (by simp [idC, Value.oneCell']) (by unfold maxLen; omega) (by omega) (by simp; omega)
  refine ⟨v', w', h1, ?_, h3, by simpa using h4⟩
  unfold Rw
  rw [List.length_append, List.flatMap_append]
  simpa using h2
end Go.Proofs.Ytldfjpgcemfpjaa

/-
  The get that notes what is asked. Conditions: what it holds lies there; not too much was asked.
-/
namespace Go.Proofs.Ytldfjpgcemfpjaa
open Go.RowKit

/-- What the noting get holds: the objects, below B, and what was asked so far, since B. -/
structure AskW (B : Nat) (w : World) (ci cl ga : Nat) (objs : List Pair) (asked : List Bs) : Prop where
  ids : w.heap[ci]? = some (.cells #[.pointer (some ⟨ga, 0, none⟩)] 36)
  list : ∃ vl, w.heap[cl]? = some (.cells #[vl] 22) ∧ Ls B w 2 pairC vl objs
  row : ∃ va, w.heap[ga]? = some (.cells #[va] 34) ∧ Rw B w 9 1 idC va asked
  base : B ≤ ga
/-- What it moves. -/
abbrev ats : List TypeId := [9, 34]
theorem AskW.le {B : Nat} {w : World} {ci cl ga : Nat} {objs : List Pair} {asked : List Bs} (h : AskW B w ci cl ga objs asked) : B ≤ w.heap.size := by
  obtain ⟨va, hv, -⟩ := h.row
  have := lt_of_heap hv
  have := h.base
  omega
/-- It stays where nothing of it moves. -/
theorem AskW.keep {B B' : Nat} {w w' : World} {ci cl ga : Nat} {objs : List Pair} {asked : List Bs} {ts : List TypeId} {r : Option Nat} (h : AskW B w ci cl ga objs asked) (hm : Mv B' ts r w w') (hB : B ≤ B') (h1 : 36 ∉ ts) (h2 : 22 ∉ ts) (h3 : 34 ∉ ts) (h4 : 9 ∉ ts)
    (hr : ∀ q, r = some q → ∃ c t fr, w.heap[q]? = some (.cells c t fr) ∧ t ≠ 36 ∧ t ≠ 22 ∧ t ≠ 34 ∧ t ≠ 9) : AskW B w' ci cl ga objs asked := by
  obtain ⟨vl, hl, hv⟩ := h.list
  obtain ⟨va, ha, hw⟩ := h.row
  have ne : ∀ {k : Nat} {cs : Array Value} {t : TypeId} {fr : Nat × Nat}, w.heap[k]? = some (.cells cs t fr) → (t = 36 ∨ t = 22 ∨ t = 34 ∨ t = 9) → some k ≠ r := by
    intro k cs t fr hk ht hq
    obtain ⟨c, t', fr', g1, g2, g3, g4, g5⟩ := hr k hq.symm
    rw [hk] at g1
    injection g1 with g1
    injection g1 with _ g1
    subst g1
    rcases ht with h | h | h | h
    · exact g2 h
    · exact g3 h
    · exact g4 h
    · exact g5 h
  refine ⟨hm.k _ _ _ _ h.ids h1 (ne h.ids (.inl rfl)), ⟨vl, hm.k _ _ _ _ hl h2 (ne hl (.inr (.inl rfl))), hv.keep (hm.b.mono hB)⟩, ⟨va, hm.k _ _ _ _ ha h3 (ne ha (.inr (.inr (.inl rfl)))), ?_⟩, h.base⟩
  refine own_same hw (fun g hg => ?_)
  obtain ⟨c, fz, g1⟩ := Lib.ownsRow_kind hw g hg
  rw [hm.k _ _ _ _ g1 h4 (ne g1 (.inr (.inr (.inr rfl)))), g1]
theorem AskW.below {B : Nat} {w w' : World} {ci cl ga : Nat} {objs : List Pair} {asked : List Bs} (h : AskW B w ci cl ga objs asked) (hb : Below w.heap.size w w') : AskW B w' ci cl ga objs asked :=
  h.keep (ts := []) (r := none) (Mv.of hb (Nat.le_refl _)) h.le (by simp) (by simp) (by simp) (by simp) (by simp)
theorem AskW.alloc {B : Nat} {w : World} {ci cl ga : Nat} {objs : List Pair} {asked : List Bs} (h : AskW B w ci cl ga objs asked) (o : Obj) : AskW B (w.alloc o) ci cl ga objs asked := h.below ((Below.refl _ _).alloc (Nat.le_refl _) _)
theorem AskW.drew {B : Nat} {w : World} {ci cl ga : Nat} {objs : List Pair} {asked : List Bs} (h : AskW B w ci cl ga objs asked) : AskW B w.drew ci cl ga objs asked := ⟨h.ids, h.list, h.row, h.base⟩
theorem drew_alloc (w : World) (o : Obj) : w.drew.alloc o = (w.alloc o).drew := rfl
end Go.Proofs.Ytldfjpgcemfpjaa
