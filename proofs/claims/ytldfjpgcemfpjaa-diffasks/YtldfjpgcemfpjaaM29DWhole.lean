/-
  Texts joined: DWhole, DWhole2, DWhole3, DWhole4, DKey, DChange.
-/
import Derived.Test.YtldfjpgcemfpjaaM28DThrough
/-
  A map that is there whole, plainly: what its nodes have below them. No condition.
-/
namespace Go.Proofs.Ytldfjpgcemfpjaa
open Go.RowKit

def nodeAt (fd : Bs → Option Bs) (id : Bs) : Option NodeM := (fd id).bind nodeM
/-- The pairs below a node of level l. -/
def prsAt (fd : Bs → Option Bs) : Nat → Bs → List Pair
  | 0, id => ((nodeAt fd id).map (·.2.1)).getD []
  | l + 1, id => (((nodeAt fd id).map (·.2.2)).getD []).flatMap fun k => prsAt fd l k.2.1
/-- A node of level l that is there whole. -/
def GoodN (fd : Bs → Option Bs) : Nat → Bs → Prop
  | 0, id => ∃ n, nodeAt fd id = some n ∧ n.1 = 0
  | l + 1, id => ∃ n, nodeAt fd id = some n ∧ n.1 = ((l + 1 : Nat) : Int) ∧ ∀ q ∈ n.2.2, (∃ m, nodeAt fd q.2.1 = some m ∧ q = linkM q.2.1 m) ∧ prsAt fd l q.2.1 ≠ [] ∧ GoodN fd l q.2.1
section
variable {fd : Bs → Option Bs}
theorem askM_node {k : Link} {level : Int} (h : (askM fd k level).1 = 0) : nodeAt fd k.2.1 = some (askM fd k level).2 := by
  unfold nodeAt
  cases hf : fd k.2.1 with
  | none => rw [askM_miss hf] at h; cases h
  | some b =>
    cases hn : nodeM b with
    | none => rw [askM_odd hf hn] at h; cases h
    | some n =>
      by_cases hl : level < 0 ∨ fitsM n k level = true
      · rw [askM_yes hf hn hl]; simpa using hn
      · obtain ⟨h1, h2⟩ := not_or.1 hl
        rw [askM_no hf hn h1 (by simpa using h2)] at h
        cases h
theorem node_ask {id : Bs} {n : NodeM} (h : nodeAt fd id = some n) : askM fd (rootK id) (-1) = (0, n) := by
  unfold nodeAt at h
  cases hf : fd id with
  | none => rw [hf] at h; cases h
  | some b => rw [hf] at h; exact askM_root_ok hf h
theorem GoodN.node {l : Nat} {id : Bs} (h : GoodN fd l id) : ∃ n, nodeAt fd id = some n ∧ n.1 = (l : Int) := by
  cases l with
  | zero => obtain ⟨n, h1, h2⟩ := h; exact ⟨n, h1, by simpa using h2⟩
  | succ l => obtain ⟨n, h1, h2, -⟩ := h; exact ⟨n, h1, h2⟩
theorem fits_link {n : NodeM} {k : Link} {l : Int} (hR : RightM n) (h : fitsM n k l = true) : k = linkM k.2.1 n ∧ n.1 = l ∧ (n.1 = 0 → n.2.1 ≠ []) := by
  unfold fitsM at h
  simp only [Bool.and_eq_true, decide_eq_true_eq] at h
  obtain ⟨⟨h1, h2⟩, h3⟩ := h
  have hlast : k.1 = lastM n := by
    unfold lastM
    by_cases h0 : n.1 = 0
    · rw [if_pos h0] at h3
      rw [if_pos (by rw [(hR.leaf h0).1]; rfl)]
      simp only [Bool.and_eq_true, beq_iff_eq] at h3
      exact h3.2.symm
    · rw [if_neg h0] at h3
      have h4 := hR.lo
      have h5 := (branch_level (hR.branch (by omega)).2).2.2
      simp only at h5
      rw [if_neg (by omega)]
      simpa using (beq_iff_eq.1 h3).symm
  refine ⟨?_, h1, fun h0 he => ?_⟩
  · obtain ⟨k1, k2, k3⟩ := k
    simp only at hlast h2 ⊢
    unfold linkM
    rw [hlast, h2]
  · rw [if_pos h0] at h3
    simp only [Bool.and_eq_true, decide_eq_true_eq] at h3
    rw [he] at h3
    simp at h3
theorem inM_all (k : Bs) : inM [] [] k = true := by unfold inM; rw [ltB_nil]; rfl
theorem takeM_whole : ∀ (ps : List Pair) (s : LsS), s.bad = 0 → (takeM [] [] ps s).bad = 0 → (takeM [] [] ps s).out = s.out ++ ps ∧ (takeM [] [] ps s).asked = s.asked
  | [], s, _, _ => ⟨by simp [takeM], rfl⟩
  | x :: r, s, h, hb => by
    rw [takeM, inM_all, if_pos rfl] at hb ⊢
    by_cases hk : backM s x.1 = true
    · rw [if_pos hk] at hb; cases hb
    · rw [if_neg hk] at hb ⊢
      obtain ⟨g1, g2⟩ := takeM_whole r ⟨s.asked, s.out ++ [x], s.bad⟩ h hb
      exact ⟨by rw [g1]; simp, g2⟩
theorem eachM_bad {f : Link → LsS → LsS} : ∀ (ks : List Link) (s : LsS), s.bad ≠ 0 → eachM f [] [] ks s = s
  | [], s, _ => rfl
  | k :: r, s, h => by
    rw [eachM, if_neg (by unfold endM; simp), if_neg (by rintro ⟨h1, -⟩; exact h h1)]
    exact eachM_bad r s h
theorem eachM_whole {f : Link → LsS → LsS} {P : Link → Prop} {g : Link → List Pair} {hh : Link → List Bs} : ∀ (ks : List Link) (s : LsS), (∀ k ∈ ks, ∀ t : LsS, t.bad = 0 → (f k t).bad = 0 → P k ∧ (f k t).out = t.out ++ g k ∧ (f k t).asked = t.asked ++ hh k) → s.bad = 0 → (eachM f [] [] ks s).bad = 0 → (∀ k ∈ ks, P k) ∧ (eachM f [] [] ks s).out = s.out ++ ks.flatMap g ∧ (eachM f [] [] ks s).asked = s.asked ++ ks.flatMap hh
  | [], s, _, _, _ => ⟨by simp, by simp [eachM], by simp [eachM]⟩
  | k :: r, s, hf, h, hb => by
    rw [eachM, if_neg (by unfold endM; simp), if_pos ⟨h, ltB_nil _⟩] at hb ⊢
    by_cases hk : (f k s).bad = 0
    · obtain ⟨p1, p2, p3⟩ := hf k (by simp) s h hk
      obtain ⟨g1, g2, g3⟩ := eachM_whole r (f k s) (fun q hq => hf q (by simp [hq])) hk hb
      refine ⟨fun q hq => ?_, by rw [g2, p2]; simp, by rw [g3, p3]; simp⟩
      rcases List.mem_cons.1 hq with rfl | hq
      · exact p1
      · exact g1 q hq
    · rw [eachM_bad r _ hk] at hb
      exact absurd hb hk
/-- The ids below a node of level l, it first. -/
def idsAt (fd : Bs → Option Bs) : Nat → Bs → List Bs
  | 0, id => [id]
  | l + 1, id => id :: (((nodeAt fd id).map (·.2.2)).getD []).flatMap fun k => idsAt fd l k.2.1
theorem prsAt_leaf {id : Bs} {n : NodeM} (h : nodeAt fd id = some n) : prsAt fd 0 id = n.2.1 := by rw [prsAt, h]; rfl
theorem prsAt_branch {l : Nat} {id : Bs} {n : NodeM} (h : nodeAt fd id = some n) : prsAt fd (l + 1) id = n.2.2.flatMap fun k => prsAt fd l k.2.1 := by rw [prsAt, h]; rfl
theorem idsAt_branch {l : Nat} {id : Bs} {n : NodeM} (h : nodeAt fd id = some n) : idsAt fd (l + 1) id = id :: n.2.2.flatMap fun k => idsAt fd l k.2.1 := by rw [idsAt, h]; rfl
theorem goM_whole (hs : ∀ id b, fd id = some b → b.length ≤ 140737488355328) : ∀ (l d : Nat) (k : Link) (s : LsS), l < d → s.bad = 0 → (goM fd [] [] d k (l : Int) s).bad = 0 →
    ((∃ m, nodeAt fd k.2.1 = some m ∧ k = linkM k.2.1 m) ∧ prsAt fd l k.2.1 ≠ [] ∧ GoodN fd l k.2.1) ∧ (goM fd [] [] d k (l : Int) s).out = s.out ++ prsAt fd l k.2.1 ∧ (goM fd [] [] d k (l : Int) s).asked = s.asked ++ idsAt fd l k.2.1
  | l, d + 1, k, s, hd, hb, hg => by
    rw [goM] at hg ⊢
    by_cases ha : (askM fd k (l : Int)).1 ≠ 0
    · rw [if_pos ha] at hg
      exact absurd hg ha
    rw [if_neg ha] at hg ⊢
    have ha0 : (askM fd k (l : Int)).1 = 0 := by simpa using ha
    obtain ⟨hR, hF⟩ := askM_ok hs ha0
    have hnode := askM_node ha0
    generalize (askM fd k (l : Int)).2 = n at *
    rcases hF with hF | hF
    · omega
    obtain ⟨hk1, hk2, hk3⟩ := fits_link hR hF
    by_cases ht : (takeM [] [] n.2.1 ⟨s.asked ++ [k.2.1], s.out, s.bad⟩).bad = 0
    rotate_left
    · rw [eachM_bad _ _ ht] at hg
      exact absurd hg ht
    obtain ⟨t1, t2⟩ := takeM_whole n.2.1 ⟨s.asked ++ [k.2.1], s.out, s.bad⟩ hb ht
    cases l with
    | zero =>
      have hz : n.2.2 = [] := (hR.leaf (by simpa using hk2)).1
      rw [hz] at hg ⊢
      simp only [eachM] at hg ⊢
      refine ⟨⟨⟨n, hnode, hk1⟩, ?_, ⟨n, hnode, by simpa using hk2⟩⟩, by rw [t1, prsAt_leaf hnode], by rw [t2]; rfl⟩
      rw [prsAt_leaf hnode]
      exact hk3 (by simpa using hk2)
    | succ l =>
      have hne : n.1 ≠ 0 := by omega
      have hlo := hR.lo
      have hpe : n.2.1 = [] := (hR.branch (by omega)).1
      have hsub : n.1 - 1 = (l : Int) := by omega
      rw [hsub] at hg ⊢
      obtain ⟨g1, g2, g3⟩ := eachM_whole (P := fun q => (∃ m, nodeAt fd q.2.1 = some m ∧ q = linkM q.2.1 m) ∧ prsAt fd l q.2.1 ≠ [] ∧ GoodN fd l q.2.1) (g := fun q => prsAt fd l q.2.1) (hh := fun q => idsAt fd l q.2.1) n.2.2 _ (fun q _ t ht' hg' => goM_whole hs l d q t (by omega) ht' hg') ht hg
      refine ⟨⟨⟨n, hnode, hk1⟩, ?_, ⟨n, hnode, hk2, g1⟩⟩, ?_, ?_⟩
      · rw [prsAt_branch hnode]
        have h5 := (branch_level (hR.branch (by omega)).2).2.2
        simp only at h5
        cases hq : n.2.2 with
        | nil => rw [hq] at h5; simp at h5
        | cons q r =>
          rw [List.flatMap_cons]
          intro he
          exact (g1 q (by rw [hq]; simp)).2.1 (List.append_eq_nil_iff.1 he).1
      · rw [g2, t1, hpe, prsAt_branch hnode]
        simp
      · rw [g3, t2, idsAt_branch hnode]
        simp
theorem listM_whole (hs : ∀ id b, fd id = some b → b.length ≤ 140737488355328) {root : Bs} (h : (listM fd root [] []).bad = 0) : ∃ L, L ≤ 20 ∧ GoodN fd L root ∧ (listM fd root [] []).out = prsAt fd L root ∧ (listM fd root [] []).asked = idsAt fd L root := by
  unfold listM at h ⊢
  rw [goM] at h ⊢
  by_cases ha : (askM fd ([], (root, 0)) (-1)).1 ≠ 0
  · rw [if_pos ha] at h
    exact absurd h ha
  rw [if_neg ha] at h ⊢
  have ha0 : (askM fd ([], (root, 0)) (-1)).1 = 0 := by simpa using ha
  obtain ⟨hR, -⟩ := askM_ok hs ha0
  have hnode : nodeAt fd root = some (askM fd ([], (root, 0)) (-1)).2 := askM_node ha0
  generalize (askM fd ([], (root, 0)) (-1)).2 = n at *
  by_cases ht : (takeM [] [] n.2.1 ⟨[] ++ [root], [], 0⟩).bad = 0
  rotate_left
  · rw [eachM_bad _ _ ht] at h
    exact absurd h ht
  obtain ⟨t1, t2⟩ := takeM_whole n.2.1 ⟨[] ++ [root], [], 0⟩ rfl ht
  have hlo := hR.lo
  have hhi := hR.hi
  obtain ⟨L, hL⟩ : ∃ L : Nat, n.1 = (L : Int) := ⟨n.1.toNat, by omega⟩
  cases L with
  | zero =>
    have hz : n.2.2 = [] := (hR.leaf (by simpa using hL)).1
    rw [hz] at h ⊢
    simp only [eachM] at h ⊢
    exact ⟨0, by omega, ⟨n, hnode, by simpa using hL⟩, by rw [t1, prsAt_leaf hnode]; rfl, by rw [t2]; rfl⟩
  | succ l =>
    have hpe : n.2.1 = [] := (hR.branch (by omega)).1
    have hsub : n.1 - 1 = (l : Int) := by omega
    rw [hsub] at h ⊢
    obtain ⟨g1, g2, g3⟩ := eachM_whole (P := fun q => (∃ m, nodeAt fd q.2.1 = some m ∧ q = linkM q.2.1 m) ∧ prsAt fd l q.2.1 ≠ [] ∧ GoodN fd l q.2.1) (g := fun q => prsAt fd l q.2.1) (hh := fun q => idsAt fd l q.2.1) n.2.2 _ (fun q _ t ht' hg' => goM_whole hs l 20 q t (by omega) ht' hg') ht h
    refine ⟨l + 1, by omega, ⟨n, hnode, hL, g1⟩, ?_, ?_⟩
    · rw [g2, t1, hpe, prsAt_branch hnode]
      simp
    · rw [g3, t2, idsAt_branch hnode]
      simp
end
end Go.Proofs.Ytldfjpgcemfpjaa

/-
  Going down two maps that are there whole, plainly: a node's kids are met. No condition.
-/
namespace Go.Proofs.Ytldfjpgcemfpjaa
open Go.RowKit

def RisesD (l : List Pair) : Prop := l.Pairwise (fun x y => ltB x.1 y.1 = true)
theorem rise_rises : ∀ (l : List Pair), rise ltB (l.map (·.1)) = true → RisesD l
  | [], _ => List.Pairwise.nil
  | [a], _ => List.pairwise_singleton _ _
  | a :: b :: r, h => by
    simp only [List.map_cons, rise, Bool.and_eq_true] at h
    have ih := rise_rises (b :: r) (by simpa using h.2)
    refine List.pairwise_cons.2 ⟨fun x hx => ?_, ih⟩
    rcases List.mem_cons.1 hx with rfl | hx
    · exact h.1
    · exact ltB_trans _ _ _ h.1 ((List.pairwise_cons.1 ih).1 x hx)
/-- What rises has nothing twice. -/
theorem RisesD.apart {a b : List Pair} (h : RisesD (a ++ b)) {x : Pair} (h1 : x ∈ a) (h2 : x ∈ b) : False := by
  have := (List.pairwise_append.1 h).2.2 x h1 x h2
  rw [dltB_irrefl] at this
  cases this
section
variable {fd : Bs → Option Bs} {σ τ : Cm}
/-- What is known of two maps that are there whole. -/
structure Wh (fd : Bs → Option Bs) (σ : Cm) : Prop where
  ok : Okm σ
  node : ∀ id ∈ σ.met, ∃ n, nodeAt fd id = some n ∧ (σ.nd id).link = linkM id n ∧ (σ.nd id).level = n.1 ∧ ((σ.nd id).body = none ∨ (σ.nd id).body = some n)
  good : ∀ i l, ∀ id ∈ σ.lev i l, GoodN fd l id
  on : ∀ i, i < 2 → ∀ id ∈ σ.met, (onAt (σ.nd id) i = true ↔ id ∈ σ.lev i (σ.nd id).level.toNat)
/-- The pairs below the nodes of levels below l. -/
def remP (fd : Bs → Option Bs) (σ : Cm) (i : Nat) : Nat → List Pair
  | 0 => []
  | l + 1 => remP fd σ i l ++ (σ.lev i l).flatMap (prsAt fd l)
theorem remP_same {i : Nat} : ∀ {l : Nat}, (∀ m, m < l → τ.lev i m = σ.lev i m) → remP fd τ i l = remP fd σ i l
  | 0, _ => rfl
  | l + 1, h => by rw [remP, remP, remP_same (fun m hm => h m (by omega)), h l (by omega)]
/-- A kid that this side has not met yet is met. -/
theorem meet_kid (h : Wh fd σ) {i m : Nat} (hi : i < 2) (hm : m ≤ 20) {q : Link} (hq : ∃ n, nodeAt fd q.2.1 = some n ∧ q = linkM q.2.1 n) (hg : GoodN fd m q.2.1) (hno : q.2.1 ∉ σ.lev i m) :
    ∃ τ, meetM σ i q m none = (0, τ) ∧ Wh fd τ ∧ Kept σ τ ∧ τ.lev = updL σ.lev i m (σ.lev i m ++ [q.2.1]) ∧ τ.prs = σ.prs ∧ τ.asked = σ.asked ∧ (∀ z ∈ σ.met, (σ.nd z).level ≠ (m : Int) → (τ.nd z).on = (σ.nd z).on) := by
  obtain ⟨n, hn, hql⟩ := hq
  obtain ⟨n', hn', hlv⟩ := hg.node
  rw [hn] at hn'
  injection hn' with hn'
  subst hn'
  have hk := knowM_kept (σ := σ) q (m : Int) none
  have hmem := knowM_mem (σ := σ) q (m : Int) none
  have hkok := h.ok.known (k := q) (level := m) (body := none) (by omega) (by omega) (fun _ h => by cases h)
  -- what is known of q now
  have hnq : ((knowM σ q m none).nd q.2.1).link = q ∧ ((knowM σ q m none).nd q.2.1).level = (m : Int) ∧ onAt ((knowM σ q m none).nd q.2.1) i = false ∧ (((knowM σ q m none).nd q.2.1).body = none ∨ ((knowM σ q m none).nd q.2.1).body = some n) := by
    by_cases hid : q.2.1 ∈ σ.met
    · have hks : knowM σ q m none = σ := by unfold knowM; rw [if_pos hid]
      rw [hks]
      obtain ⟨n2, e1, e2, e3, e4⟩ := h.node q.2.1 hid
      rw [hn] at e1
      injection e1 with e1
      subst e1
      refine ⟨by rw [e2, ← hql], by rw [e3, hlv], ?_, e4⟩
      cases ho : onAt (σ.nd q.2.1) i with
      | false => rfl
      | true =>
        have := (h.on i hi q.2.1 hid).1 ho
        rw [e3, hlv] at this
        exact absurd (by simpa using this) hno
    · have hks : knowM σ q m none = ⟨σ.met ++ [q.2.1], updN σ.nd q.2.1 ⟨q, m, (false, false), none⟩, σ.lev, σ.prs, σ.asked⟩ := by unfold knowM; rw [if_neg hid]
      rw [hks]
      simp only [updN_same]
      refine ⟨trivial, trivial, ?_, .inl trivial⟩
      unfold onAt
      split <;> rfl
  obtain ⟨q1, q2, q3, q4⟩ := hnq
  have hod : oddM ((knowM σ q m none).nd q.2.1) i q m = false := by
    unfold oddM
    rw [q3, q1, q2]
    simp
  have hlevk := knowM_lev (σ := σ) q (m : Int) none
  have hlev : (hangM (knowM σ q m none) i q.2.1).lev = updL σ.lev i m (σ.lev i m ++ [q.2.1]) := by
    unfold hangM
    simp only [q2, hlevk, Int.toNat_natCast]
  have hnd : ∀ z, (hangM (knowM σ q m none) i q.2.1).nd z = if z = q.2.1 then setOn ((knowM σ q m none).nd q.2.1) i else (knowM σ q m none).nd z := fun z => rfl
  have hkn : ∀ z ∈ σ.met, (knowM σ q m none).nd z = σ.nd z := fun z hz => by
    unfold knowM
    split
    · rfl
    · rename_i hid
      exact updN_other (by rintro rfl; exact hid hz)
  have hmet : ∀ z, z ∈ (knowM σ q m none).met → z ∈ σ.met ∨ z = q.2.1 := fun z hz => by
    unfold knowM at hz
    split at hz
    · exact .inl hz
    · rcases List.mem_append.1 hz with hz | hz
      · exact .inl hz
      · exact .inr (List.mem_singleton.1 hz)
  refine ⟨hangM (knowM σ q m none) i q.2.1, by unfold meetM; rw [hod]; simp, ⟨hkok.hang i hmem, fun z hz => ?_, fun j l z hz => ?_, fun j hj z hz => ?_⟩, hk.trans (hangM_kept i _), hlev, ?_, ?_, fun z hz hzl => ?_⟩
  · rw [hnd z]
    by_cases hzq : z = q.2.1
    · rw [if_pos hzq, hzq]
      exact ⟨n, hn, by show ((knowM σ q m none).nd q.2.1).link = _; rw [q1, ← hql], by show ((knowM σ q m none).nd q.2.1).level = _; rw [q2, hlv], q4⟩
    · rw [if_neg hzq]
      have hz' : z ∈ (knowM σ q m none).met := hz
      rcases hmet z hz' with hz2 | hz2
      · rw [hkn z hz2]; exact h.node z hz2
      · exact absurd hz2 hzq
  · rw [hlev] at hz
    unfold updL at hz
    by_cases hjl : j = i ∧ l = m
    · rw [if_pos hjl] at hz
      rcases List.mem_append.1 hz with hz | hz
      · rw [hjl.2]; exact h.good i m z hz
      · rw [List.mem_singleton.1 hz, hjl.2]; exact hg
    · rw [if_neg hjl] at hz
      exact h.good j l z hz
  · rw [hnd z, hlev]
    have hz' : z ∈ (knowM σ q m none).met := hz
    by_cases hzq : z = q.2.1
    · subst hzq
      rw [if_pos rfl]
      have e1 : (setOn ((knowM σ q m none).nd q.2.1) i).level.toNat = m := by show ((knowM σ q m none).nd q.2.1).level.toNat = m; rw [q2]; simp
      rw [e1]
      by_cases hji : j = i
      · subst hji
        have e2 : onAt (setOn ((knowM σ q m none).nd q.2.1) j) j = true := by
          unfold onAt setOn
          by_cases hj0 : j = 0
          · simp [hj0]
          · simp [hj0]
        rw [e2]
        unfold updL
        simp
      · have e2 : onAt (setOn ((knowM σ q m none).nd q.2.1) i) j = onAt ((knowM σ q m none).nd q.2.1) j := by
          unfold onAt setOn
          by_cases hj0 : j = 0
          · have : ¬ i = 0 := fun h => hji (by omega)
            simp [hj0, this]
          · have : i = 0 := by omega
            simp [hj0, this]
        rw [e2]
        unfold updL
        rw [if_neg (by rintro ⟨h1, -⟩; exact hji h1)]
        by_cases hid : q.2.1 ∈ σ.met
        · rw [hkn _ hid, h.on j hj _ hid]
          obtain ⟨n2, f1, f2, f3, f4⟩ := h.node q.2.1 hid
          rw [hn] at f1
          injection f1 with f1
          subst f1
          rw [f3, hlv]
          simp
        · have hks : knowM σ q m none = ⟨σ.met ++ [q.2.1], updN σ.nd q.2.1 ⟨q, m, (false, false), none⟩, σ.lev, σ.prs, σ.asked⟩ := by unfold knowM; rw [if_neg hid]
          rw [hks]
          simp only [updN_same]
          constructor
          · intro h1
            unfold onAt at h1
            split at h1 <;> cases h1
          · intro h1
            exact absurd (h.ok.lev j m _ h1).1 hid
    · rw [if_neg hzq]
      rcases hmet z hz' with hz2 | hz2
      · rw [hkn z hz2, h.on j hj z hz2]
        unfold updL
        by_cases hjl : j = i ∧ (σ.nd z).level.toNat = m
        · rw [if_pos hjl, hjl.1, hjl.2]
          constructor
          · exact fun h1 => List.mem_append_left _ h1
          · intro h1
            rcases List.mem_append.1 h1 with h1 | h1
            · exact h1
            · exact absurd (List.mem_singleton.1 h1) hzq
        · rw [if_neg hjl]
      · exact absurd hz2 hzq
  · unfold hangM knowM; split <;> rfl
  · unfold hangM knowM; split <;> rfl
  · rw [hnd z]
    have hzq : z ≠ q.2.1 := by
      rintro rfl
      obtain ⟨n2, f1, f2, f3, f4⟩ := h.node q.2.1 hz
      rw [hn] at f1
      injection f1 with f1
      subst f1
      exact hzl (by rw [f3, hlv])
    rw [if_neg hzq, hkn z hz]
end
end Go.Proofs.Ytldfjpgcemfpjaa

/-
  Going down two maps that are there whole, plainly: nodes are gone into, a level is gone through. No condition.
-/
namespace Go.Proofs.Ytldfjpgcemfpjaa
open Go.RowKit

section
variable {fd : Bs → Option Bs}
theorem kids_whole {i m : Nat} (hi : i < 2) (hm : m ≤ 20) : ∀ (ks : List Link) (σ : Cm) (T : List Pair), Wh fd σ → (∀ q ∈ ks, (∃ n, nodeAt fd q.2.1 = some n ∧ q = linkM q.2.1 n) ∧ prsAt fd m q.2.1 ≠ [] ∧ GoodN fd m q.2.1) → RisesD ((σ.prs i ++ remP fd σ i (m + 1)) ++ ((ks.flatMap fun q => prsAt fd m q.2.1) ++ T)) →
    ∃ τ, kidsM i m ks σ = (0, τ) ∧ Wh fd τ ∧ Kept σ τ ∧ τ.prs = σ.prs ∧ τ.asked = σ.asked ∧ remP fd τ i (m + 1) = remP fd σ i (m + 1) ++ (ks.flatMap fun q => prsAt fd m q.2.1) ∧ (∀ j l, j ≠ i ∨ l ≠ m → τ.lev j l = σ.lev j l) ∧ (∀ z ∈ σ.met, (σ.nd z).level ≠ (m : Int) → (τ.nd z).on = (σ.nd z).on)
  | [], σ, T, h, _, _ => ⟨σ, rfl, h, Kept.refl σ, rfl, rfl, by simp, fun _ _ _ => rfl, fun _ _ _ => rfl⟩
  | q :: r, σ, T, h, hq, hr => by
    obtain ⟨h1, h2, h3⟩ := hq q (by simp)
    have hno : q.2.1 ∉ σ.lev i m := fun hin => by
      obtain ⟨p, hp⟩ := List.exists_mem_of_ne_nil _ h2
      refine hr.apart (x := p) (List.mem_append_right _ ?_) (List.mem_append_left _ ?_)
      · rw [remP]
        exact List.mem_append_right _ (List.mem_flatMap.2 ⟨_, hin, hp⟩)
      · exact List.mem_flatMap.2 ⟨q, by simp, hp⟩
    obtain ⟨τ1, a1, a2, a3, a4, a5, a6, a7⟩ := meet_kid h hi hm h1 h3 hno
    have hrem : remP fd τ1 i (m + 1) = remP fd σ i (m + 1) ++ prsAt fd m q.2.1 := by
      rw [remP, remP, remP_same (σ := σ) (τ := τ1) (fun l hl => by rw [a4]; unfold updL; rw [if_neg (by omega)]), a4]
      unfold updL
      rw [if_pos ⟨rfl, rfl⟩, List.flatMap_append]
      simp
    obtain ⟨τ, b1, b2, b3, b4, b5, b6, b7, b8⟩ := kids_whole hi hm r τ1 T a2 (fun z hz => hq z (by simp [hz])) (by
      rw [a5, hrem]
      simpa using hr)
    refine ⟨τ, ?_, b2, a3.trans b3, b4.trans a5, b5.trans a6, ?_, fun j l hjl => ?_, fun z hz hzl => ?_⟩
    · rw [kidsM, a1, if_neg (by simp)]
      exact b1
    · rw [b6, hrem]
      simp
    · rw [b7 j l hjl, a4]
      unfold updL
      rw [if_neg (by rintro ⟨e1, e2⟩; rcases hjl with h | h; exact h e1; exact h e2)]
    · rw [b8 z (a3.met z hz) (by rw [(a3.nd z hz).2.1]; exact hzl), a7 z hz hzl]
/-- What going into a node, or through some, leaves. -/
structure Gone (fd : Bs → Option Bs) (i l : Nat) (P : List Pair) (σ τ : Cm) : Prop where
  wh : Wh fd τ
  kept : Kept σ τ
  pairs : τ.prs i ++ remP fd τ i l = (σ.prs i ++ remP fd σ i l) ++ P
  none : l ≠ 0 → σ.prs i = [] → τ.prs i = []
  other : ∀ j, j ≠ i → τ.prs j = σ.prs j
  lev : ∀ j m, j ≠ i ∨ m + 1 ≠ l → τ.lev j m = σ.lev j m
  on : ∀ z ∈ σ.met, (σ.nd z).level = (l : Int) → (τ.nd z).on = (σ.nd z).on
theorem Gone.refl {i l : Nat} {σ : Cm} (h : Wh fd σ) : Gone fd i l [] σ σ := ⟨h, Kept.refl σ, by simp, fun _ h => h, fun _ _ => rfl, fun _ _ _ => rfl, fun _ _ _ => rfl⟩
theorem Gone.trans {i l : Nat} {P R : List Pair} {a b c : Cm} (h : Gone fd i l P a b) (k : Gone fd i l R b c) : Gone fd i l (P ++ R) a c :=
  ⟨k.wh, h.kept.trans k.kept, by rw [k.pairs, h.pairs, List.append_assoc], fun h0 h1 => k.none h0 (h.none h0 h1), fun j hj => (k.other j hj).trans (h.other j hj), fun j m hjm => (k.lev j m hjm).trans (h.lev j m hjm), fun z hz hl => (k.on z (h.kept.met z hz) (by rw [(h.kept.nd z hz).2.1]; exact hl)).trans (h.on z hz hl)⟩
theorem fit_rises {a b T : List Pair} (h : RisesD (a ++ (b ++ T))) : fitP a b = true := by
  unfold fitP
  cases hb : b with
  | nil => simp
  | cons y r =>
    rcases List.eq_nil_or_concat a with ha | ⟨a', z, ha⟩
    · rw [ha]; simp
    · rw [List.concat_eq_append] at ha
      have := (List.pairwise_append.1 h).2.2 z (by rw [ha]; simp) y (by rw [hb]; simp)
      have e1 : lastP a = z.1 := by rw [ha]; simp [lastP]
      have e2 : headP (y :: r) = y.1 := rfl
      rw [e1, e2, this]
      simp
theorem into_whole (hs : ∀ id b, fd id = some b → b.length ≤ 140737488355328) {σ : Cm} (h : Wh fd σ) {i l : Nat} (hi : i < 2) {x : Bs} (hx : x ∈ σ.lev i l) {T : List Pair} (hr : RisesD ((σ.prs i ++ remP fd σ i l) ++ (prsAt fd l x ++ T))) :
    ∃ τ, intoM fd σ i x = (0, τ) ∧ Gone fd i l (prsAt fd l x) σ τ ∧ (τ.asked = σ.asked ∨ τ.asked = σ.asked ++ [x] ∧ (σ.nd x).body = none) ∧ (τ.nd x).body.isSome = true := by
  obtain ⟨hxm, hxl⟩ := h.ok.lev i l x hx
  have hg := h.good i l x hx
  obtain ⟨n, hn, hnl, hlv, hbd⟩ := h.node x hxm
  have hl20 : l ≤ 20 := by have := (h.ok.lvl x hxm).2; omega
  have hnl' : n.1 = (l : Int) := by rw [← hlv, hxl]
  have hask := node_ask hn
  have hR : RightM n := by have := (askM_ok (fd := fd) (k := rootK x) (level := -1) hs (by rw [hask])).1; rw [hask] at this; exact this
  -- the node is read
  have hread : ∃ σ1, readM fd σ x = (0, σ1) ∧ Wh fd σ1 ∧ Kept σ σ1 ∧ σ1.prs = σ.prs ∧ σ1.lev = σ.lev ∧ σ1.met = σ.met ∧ (σ1.nd x).body = some n ∧ (∀ z, (σ1.nd z).on = (σ.nd z).on) ∧ (σ1.asked = σ.asked ∨ σ1.asked = σ.asked ++ [x] ∧ (σ.nd x).body = none) := by
    rcases hbd with hb | hb
    · have hrd : readM fd σ x = (0, ⟨σ.met, updN σ.nd x (bodied (σ.nd x) n), σ.lev, σ.prs, σ.asked ++ [x]⟩) := by
        unfold readM
        rw [hb, hask]
        simp only [Option.isSome_none, Bool.false_eq_true, if_false, ne_eq, not_true]
        rw [if_neg (by rintro (h1 | h1); exact h1 hlv.symm; exact h1 hnl.symm)]
      obtain ⟨o1, o2, o3, o4, o5, -, -⟩ := readM_ok h.ok hs hxm (fd := fd) (by rw [hrd])
      rw [hrd] at o1 o2
      have hon : ∀ z, (updN σ.nd x (bodied (σ.nd x) n) z).on = (σ.nd z).on := fun z => by
        by_cases hz : z = x
        · rw [hz, updN_same]; rfl
        · rw [updN_other hz]
      refine ⟨_, hrd, ⟨o1, fun z hz => ?_, fun j m z hz => h.good j m z hz, fun j hj z hz => ?_⟩, o2, rfl, rfl, rfl, ?_, hon, .inr ⟨rfl, hb⟩⟩
      · show ∃ n', nodeAt fd z = some n' ∧ (updN σ.nd x (bodied (σ.nd x) n) z).link = linkM z n' ∧ (updN σ.nd x (bodied (σ.nd x) n) z).level = n'.1 ∧ ((updN σ.nd x (bodied (σ.nd x) n) z).body = none ∨ (updN σ.nd x (bodied (σ.nd x) n) z).body = some n')
        by_cases hzx : z = x
        · rw [hzx, updN_same]
          exact ⟨n, hn, hnl, hlv, .inr rfl⟩
        · rw [updN_other hzx]
          exact h.node z hz
      · show (onAt (updN σ.nd x (bodied (σ.nd x) n) z) j = true ↔ z ∈ σ.lev j (updN σ.nd x (bodied (σ.nd x) n) z).level.toNat)
        have e1 : onAt (updN σ.nd x (bodied (σ.nd x) n) z) j = onAt (σ.nd z) j := by unfold onAt; rw [hon z]
        have e2 : (updN σ.nd x (bodied (σ.nd x) n) z).level = (σ.nd z).level := (o2.nd z hz).2.1
        rw [e1, e2]
        exact h.on j hj z hz
      · show (updN σ.nd x (bodied (σ.nd x) n) x).body = some n
        rw [updN_same]
        rfl
    · exact ⟨σ, readM_have (by rw [hb]; rfl), h, Kept.refl σ, rfl, rfl, rfl, hb, fun _ => rfl, .inl rfl⟩
  obtain ⟨σ1, r1, r2, r3, r4, r5, r6, r7, r8, r9⟩ := hread
  have hfit : fitP (σ1.prs i) n.2.1 = true := by
    rw [r4]
    by_cases h0 : l = 0
    · subst h0
      rw [prsAt_leaf hn, remP, List.append_nil] at hr
      exact fit_rises hr
    · rw [(hR.branch (by omega)).1]
      unfold fitP
      simp
  have htell : intoM fd σ i x = kidsM i (n.1 - 1) n.2.2 (pairsM σ1 i n.2.1) := by
    unfold intoM
    rw [r1, if_neg (by simp)]
    unfold tellM
    rw [show bodyOf (σ1.nd x) = n by unfold bodyOf; rw [r7]; rfl, if_neg (by rw [hfit]; simp), show (σ1.nd x).level = n.1 by rw [(r3.nd x hxm).2.1, hlv]]
  rw [htell]
  have hW2 : Wh fd (pairsM σ1 i n.2.1) := ⟨r2.ok.pairs i n.2.1, r2.node, r2.good, r2.on⟩
  have hpi : (pairsM σ1 i n.2.1).prs i = σ.prs i ++ n.2.1 := by
    show updP σ1.prs i _ i = _
    unfold updP
    rw [if_pos rfl, r4]
  have hpj : ∀ j, j ≠ i → (pairsM σ1 i n.2.1).prs j = σ.prs j := fun j hj => by
    show updP σ1.prs i _ j = _
    unfold updP
    rw [if_neg hj, r4]
  have hlp : (pairsM σ1 i n.2.1).lev = σ.lev := r5
  cases l with
  | zero =>
    have hz : n.2.2 = [] := (hR.leaf (by simpa using hnl')).1
    rw [hz]
    refine ⟨_, rfl, ⟨hW2, ⟨fun z hz => r3.met z hz, fun z hz => r3.nd z hz⟩, ?_, fun h0 => absurd rfl h0, hpj, fun j m _ => by rw [hlp], fun z _ _ => r8 z⟩, r9, ?_⟩
    · rw [hpi, prsAt_leaf hn]
      simp [remP]
    · show (σ1.nd x).body.isSome = true
      rw [r7]; rfl
  | succ m =>
    have hpe : n.2.1 = [] := (hR.branch (by omega)).1
    have hsub : n.1 - 1 = (m : Int) := by omega
    obtain ⟨n', hn', -, hkids⟩ := hg
    rw [hn] at hn'
    injection hn' with hn'
    subst hn'
    have hrem2 : remP fd (pairsM σ1 i n.2.1) i (m + 1) = remP fd σ i (m + 1) := remP_same (fun q _ => by rw [hlp])
    rw [hsub]
    obtain ⟨τ, b1, b2, b3, b4, b5, b6, b7, b8⟩ := kids_whole hi (by omega) n.2.2 (pairsM σ1 i n.2.1) T hW2 hkids (by
      rw [hpi, hrem2, hpe, List.append_nil, ← prsAt_branch hn]
      exact hr)
    have hpt : τ.prs i = σ.prs i := by rw [b4, hpi, hpe, List.append_nil]
    refine ⟨τ, b1, ⟨b2, ⟨fun z hz => b3.met z (r3.met z hz), fun z hz => ?_⟩, ?_, fun _ h1 => by rw [hpt]; exact h1, fun j hj => by rw [b4]; exact hpj j hj, fun j q hjq => ?_, fun z hz hzl => ?_⟩, ?_, ?_⟩
    · exact (r3.trans (show Kept σ1 τ from ⟨fun y hy => b3.met y hy, fun y hy => b3.nd y hy⟩)).nd z hz
    · rw [hpt, b6, hrem2, prsAt_branch hn, List.append_assoc]
    · rw [b7 j q (by rcases hjq with h1 | h1; exact .inl h1; exact .inr (by omega)), hlp]
    · rw [b8 z (r3.met z hz) (by show (σ1.nd z).level ≠ _; rw [(r3.nd z hz).2.1, hzl]; omega)]
      exact r8 z
    · rw [b5]
      exact r9
    · have := (b3.nd x (r3.met x hxm)).2.2 n r7
      rw [this]
      rfl
/-- Those of a level that the other side has not. -/
def ownOf (σ : Cm) (ks : List Bs) : List Bs := ks.filter fun x => !isSh (σ.nd x)
theorem through_whole (hs : ∀ id b, fd id = some b → b.length ≤ 140737488355328) {i l : Nat} (hi : i < 2) : ∀ (ks : List Bs) (σ : Cm), Wh fd σ → (∀ x ∈ ks, x ∈ σ.lev i l) → RisesD ((σ.prs i ++ remP fd σ i l) ++ (ownOf σ ks).flatMap (prsAt fd l)) →
    ∃ τ, throughM fd i ks σ = (0, τ) ∧ Gone fd i l ((ownOf σ ks).flatMap (prsAt fd l)) σ τ
  | [], σ, h, _, _ => ⟨σ, rfl, Gone.refl h⟩
  | x :: r, σ, h, hx, hr => by
    rw [throughM_cons]
    unfold stepM
    cases hsh : isSh (σ.nd x) with
    | true =>
      have e : ownOf σ (x :: r) = ownOf σ r := by unfold ownOf; rw [List.filter_cons, hsh]; rfl
      rw [e] at hr ⊢
      obtain ⟨τ, h1, h2⟩ := through_whole hs hi r σ h (fun y hy => hx y (by simp [hy])) hr
      exact ⟨τ, by simpa using h1, h2⟩
    | false =>
      have e : ownOf σ (x :: r) = x :: ownOf σ r := by unfold ownOf; rw [List.filter_cons, hsh]; rfl
      rw [e, List.flatMap_cons] at hr ⊢
      obtain ⟨τ1, h1, h2, -, -⟩ := into_whole hs h hi (hx x (by simp)) hr
      have hlx : ∀ y ∈ r, y ∈ τ1.lev i l := fun y hy => by rw [h2.lev i l (.inr (by omega))]; exact hx y (by simp [hy])
      have e2 : ownOf τ1 r = ownOf σ r := by
        unfold ownOf
        refine List.filter_congr (fun y hy => ?_)
        have hm := h.ok.lev i l y (hx y (by simp [hy]))
        unfold isSh
        rw [h2.on y hm.1 hm.2]
      obtain ⟨τ, h3, h4⟩ := through_whole hs hi r τ1 h2.wh hlx (by rw [h2.pairs, e2, List.append_assoc]; exact hr)
      rw [e2] at h4
      refine ⟨τ, ?_, h2.trans h4⟩
      simp only [Bool.false_eq_true, if_false]
      rw [h1, if_neg (by simp)]
      exact h3
end
end Go.Proofs.Ytldfjpgcemfpjaa

/-
  What two maps do not have in common stays the same where what they have in common is left out. No condition.
-/
namespace Go.Proofs.Ytldfjpgcemfpjaa
open Go.RowKit

/-- Of two lists of rising pairs some that both have are left out in both. -/
structure CutP (A B A' B' : List Pair) : Prop where
  ra : RisesD A
  rb : RisesD B
  sa : A'.Sublist A
  sb : B'.Sublist B
  ab : ∀ p ∈ A, p ∉ A' → p ∈ B ∧ p ∉ B'
  ba : ∀ p ∈ B, p ∉ B' → p ∈ A ∧ p ∉ A'
theorem RisesD.head {a : Pair} {l : List Pair} (h : RisesD (a :: l)) {p : Pair} (hp : p ∈ l) : ltB a.1 p.1 = true := (List.pairwise_cons.1 h).1 p hp
theorem RisesD.tail {a : Pair} {l : List Pair} (h : RisesD (a :: l)) : RisesD l := (List.pairwise_cons.1 h).2
theorem RisesD.off {a : Pair} {l : List Pair} (h : RisesD (a :: l)) : a ∉ l := fun hp => by
  have := h.head hp
  rw [dltB_irrefl] at this
  cases this
theorem sub_head {a : Pair} {l A' : List Pair} (h : RisesD (a :: l)) (hs : A'.Sublist (a :: l)) (ha : a ∈ A') : ∃ l', A' = a :: l' ∧ l'.Sublist l := by
  cases hs with
  | cons _ hs => exact absurd (hs.subset ha) h.off
  | cons_cons _ hs => exact ⟨_, rfl, hs⟩
theorem sub_tail {a : Pair} {l A' : List Pair} (hs : A'.Sublist (a :: l)) (ha : a ∉ A') : A'.Sublist l := by
  cases hs with
  | cons _ hs => exact hs
  | cons_cons _ hs => exact absurd List.mem_cons_self ha
theorem CutP.symm {A B A' B' : List Pair} (h : CutP A B A' B') : CutP B A B' A' := ⟨h.rb, h.ra, h.sb, h.sa, h.ba, h.ab⟩
theorem CutP.left {a : Pair} {l B l' B' : List Pair} (h : CutP (a :: l) B (a :: l') B') : CutP l B l' B' := by
  refine ⟨h.ra.tail, h.rb, List.cons_sublist_cons.1 h.sa, h.sb, fun p hp hn => h.ab p (List.mem_cons_of_mem _ hp) (fun hm => ?_), fun p hp hn => ?_⟩
  · rcases List.mem_cons.1 hm with rfl | hm
    · exact h.ra.off hp
    · exact hn hm
  · obtain ⟨h1, h2⟩ := h.ba p hp hn
    refine ⟨?_, fun hm => h2 (List.mem_cons_of_mem _ hm)⟩
    rcases List.mem_cons.1 h1 with rfl | h1
    · exact absurd List.mem_cons_self h2
    · exact h1
theorem CutP.right {b : Pair} {A m A' m' : List Pair} (h : CutP A (b :: m) A' (b :: m')) : CutP A m A' m' := h.symm.left.symm
theorem CutP.both {a : Pair} {l m A' B' : List Pair} (h : CutP (a :: l) (a :: m) A' B') (ha : a ∉ A') (hb : a ∉ B') : CutP l m A' B' := by
  refine ⟨h.ra.tail, h.rb.tail, sub_tail h.sa ha, sub_tail h.sb hb, fun p hp hn => ?_, fun p hp hn => ?_⟩
  · obtain ⟨h1, h2⟩ := h.ab p (List.mem_cons_of_mem _ hp) hn
    refine ⟨?_, h2⟩
    rcases List.mem_cons.1 h1 with rfl | h1
    · exact absurd hp h.ra.off
    · exact h1
  · obtain ⟨h1, h2⟩ := h.ba p (List.mem_cons_of_mem _ hp) hn
    refine ⟨?_, h2⟩
    rcases List.mem_cons.1 h1 with rfl | h1
    · exact absurd hp h.rb.off
    · exact h1
theorem changesM_none (n : Nat) : changesM n [] [] = [] := by cases n <;> rfl
theorem changesM_left (n : Nat) (a : Pair) (l B : List Pair) (h : ∀ b ∈ B, ltB a.1 b.1 = true) : changesM (n + 1) (a :: l) B = (a.1, (some a.2, none)) :: changesM n l B := by
  cases B with
  | nil => rfl
  | cons b m => rw [changesM, if_pos (h b (by simp))]
theorem changesM_right (n : Nat) (b : Pair) (m A : List Pair) (h : ∀ a ∈ A, ltB b.1 a.1 = true) : changesM (n + 1) A (b :: m) = (b.1, (none, some b.2)) :: changesM n A m := by
  cases A with
  | nil => rfl
  | cons a l =>
    have h1 := h a (by simp)
    have h2 : ltB a.1 b.1 = false := by
      cases h3 : ltB a.1 b.1 with
      | false => rfl
      | true =>
        have := ltB_trans _ _ _ h1 h3
        rw [dltB_irrefl] at this
        cases this
    rw [changesM, if_neg (by simp [h2]), if_pos h1]
theorem RisesD.ahead {b : Pair} {m : List Pair} (h : RisesD (b :: m)) {k : Bs} (hk : ltB k b.1 = true) : ∀ p ∈ b :: m, ltB k p.1 = true := fun p hp => by
  rcases List.mem_cons.1 hp with rfl | hp
  · exact hk
  · exact ltB_trans _ _ _ hk (h.head hp)
theorem not_ahead {k : Pair} {B : List Pair} (h : ∀ p ∈ B, ltB k.1 p.1 = true) : k ∉ B := fun hk => by
  have := h k hk
  rw [dltB_irrefl] at this
  cases this
theorem changes_cut : ∀ (n n' : Nat) (A B A' B' : List Pair), CutP A B A' B' → A.length + B.length ≤ n → A'.length + B'.length ≤ n' → changesM n A B = changesM n' A' B'
  | n, n', [], [], A', B', h, _, _ => by
    rw [List.sublist_nil.1 h.sa, List.sublist_nil.1 h.sb, changesM_none, changesM_none]
  | 0, _, _ :: _, _, _, _, _, hn, _ => by simp at hn
  | 0, _, [], _ :: _, _, _, _, hn, _ => by simp at hn
  | n + 1, n', a :: l, [], A', B', h, hn, hn' => by
    have ha : a ∈ A' := by
      by_cases ha : a ∈ A'
      · exact ha
      · exact absurd (h.ab a (by simp) ha).1 (by simp)
    obtain ⟨l', rfl, -⟩ := sub_head h.ra h.sa ha
    obtain rfl := List.sublist_nil.1 h.sb
    obtain ⟨k, rfl⟩ : ∃ k, n' = k + 1 := ⟨n' - 1, by simp at hn'; omega⟩
    rw [changesM_left _ _ _ _ (by simp), changesM_left _ _ _ _ (by simp), changes_cut n k l [] l' [] h.left (by simp at hn ⊢; omega) (by simp at hn' ⊢; omega)]
  | n + 1, n', [], b :: m, A', B', h, hn, hn' => by
    have hb : b ∈ B' := by
      by_cases hb : b ∈ B'
      · exact hb
      · exact absurd (h.ba b (by simp) hb).1 (by simp)
    obtain ⟨m', rfl, -⟩ := sub_head h.rb h.sb hb
    obtain rfl := List.sublist_nil.1 h.sa
    obtain ⟨k, rfl⟩ : ∃ k, n' = k + 1 := ⟨n' - 1, by simp at hn'; omega⟩
    rw [changesM_right _ _ _ _ (by simp), changesM_right _ _ _ _ (by simp), changes_cut n k [] m [] m' h.right (by simp at hn ⊢; omega) (by simp at hn' ⊢; omega)]
  | n + 1, n', a :: l, b :: m, A', B', h, hn, hn' => by
    simp only [List.length_cons] at hn
    cases hab : ltB a.1 b.1 with
    | true =>
      have hB := h.rb.ahead hab
      have ha : a ∈ A' := by
        by_cases ha : a ∈ A'
        · exact ha
        · exact absurd (h.ab a (by simp) ha).1 (not_ahead hB)
      obtain ⟨l', rfl, -⟩ := sub_head h.ra h.sa ha
      obtain ⟨k, rfl⟩ : ∃ k, n' = k + 1 := ⟨n' - 1, by simp at hn'; omega⟩
      simp only [List.length_cons] at hn'
      rw [changesM_left _ _ _ _ hB, changesM_left _ _ _ _ (fun p hp => hB p (h.sb.subset hp)), changes_cut n k l (b :: m) l' B' h.left (by simp; omega) (by omega)]
    | false =>
    cases hba : ltB b.1 a.1 with
    | true =>
      have hA := h.ra.ahead hba
      have hb : b ∈ B' := by
        by_cases hb : b ∈ B'
        · exact hb
        · exact absurd (h.ba b (by simp) hb).1 (not_ahead hA)
      obtain ⟨m', rfl, -⟩ := sub_head h.rb h.sb hb
      obtain ⟨k, rfl⟩ : ∃ k, n' = k + 1 := ⟨n' - 1, by simp at hn'; omega⟩
      simp only [List.length_cons] at hn'
      rw [changesM_right _ _ _ _ hA, changesM_right _ _ _ _ (fun p hp => hA p (h.sa.subset hp)), changes_cut n k (a :: l) m A' m' h.right (by simp; omega) (by omega)]
    | false =>
      have hk : a.1 = b.1 := dltB_total _ _ hab hba
      rw [changesM, if_neg (by simp [hab]), if_neg (by simp [hba])]
      -- both are there
      have hboth : ∀ (_ : a ∈ A') (_ : b ∈ B'), (if a.2 = b.2 then changesM n l m else (a.1, (some a.2, some b.2)) :: changesM n l m) = changesM n' A' B' := by
        intro ha hb
        obtain ⟨l', rfl, -⟩ := sub_head h.ra h.sa ha
        obtain ⟨m', rfl, -⟩ := sub_head h.rb h.sb hb
        obtain ⟨k, rfl⟩ : ∃ k, n' = k + 1 := ⟨n' - 1, by simp at hn'; omega⟩
        simp only [List.length_cons] at hn'
        have e : changesM (k + 1) (a :: l') (b :: m') = if a.2 = b.2 then changesM k l' m' else (a.1, (some a.2, some b.2)) :: changesM k l' m' := by
          rw [changesM, if_neg (by simp [hab]), if_neg (by simp [hba])]
        rw [e, changes_cut n k l m l' m' h.left.right (by omega) (by omega)]
      by_cases hv : a = b
      · subst hv
        by_cases ha : a ∈ A'
        · refine hboth ha ?_
          by_cases hb : a ∈ B'
          · exact hb
          · exact absurd ha (h.ba a (by simp) hb).2
        · have hb := (h.ab a (by simp) ha).2
          rw [if_pos rfl]
          exact changes_cut n n' l m A' B' (h.both ha hb) (by omega) hn'
      · refine hboth ?_ ?_
        · by_cases ha : a ∈ A'
          · exact ha
          · rcases List.mem_cons.1 (h.ab a (by simp) ha).1 with h1 | h1
            · exact absurd h1 hv
            · have := h.rb.head h1
              rw [hba] at this
              cases this
        · by_cases hb : b ∈ B'
          · exact hb
          · rcases List.mem_cons.1 (h.ba b (by simp) hb).1 with h1 | h1
            · exact absurd h1.symm hv
            · have := h.ra.head h1
              rw [hab] at this
              cases this
theorem chgs_cut {A B A' B' : List Pair} (h : CutP A B A' B') : chgs A B = chgs A' B' := changes_cut _ _ A B A' B' h (Nat.le_refl _) (Nat.le_refl _)
end Go.Proofs.Ytldfjpgcemfpjaa

/-
  The first key of two lists, and what a list has for a key. Conditions: the lists lie there.
-/
namespace Go.Proofs.Ytldfjpgcemfpjaa
open Go.RowKit

def firstK (l m : List Pair) : Bs := if m = [] then headP l else if l ≠ [] ∧ ltB (headP m) (headP l) = false then headP l else headP m
def takeKM (key : Bs) : List Pair → Bs × (Bool × List Pair)
  | [] => ([], (false, []))
  | x :: r => if x.1 = key then (x.2, (true, r)) else ([], (false, x :: r))
theorem takeKM_yes {key : Bs} {x : Pair} {r : List Pair} (h : x.1 = key) : takeKM key (x :: r) = (x.2, (true, r)) := if_pos h
theorem takeKM_no {key : Bs} {x : Pair} {r : List Pair} (h : ¬ x.1 = key) : takeKM key (x :: r) = ([], (false, x :: r)) := if_neg h
theorem ls_head {w : World} {B : Nat} {l : List Pair} {ao : Option Addr} {n c : Nat} (h : Ls B w 2 pairC (.slice ao n c) l) (hl : l ≠ []) : ∃ b off, ao = some ⟨b, off, none⟩ ∧ w.cell? ⟨b, off, none⟩ = some (.string (strB (headP l))) := by
  obtain ⟨a, cp, he, -, -, h4⟩ := h
  injection he with h1 _ _
  subst h1
  obtain ⟨b, off, h5, -, h6⟩ := h4 hl
  cases l with
  | nil => exact absurd rfl hl
  | cons x r =>
    have := h6 0 (by simp) 0 _ rfl
    exact ⟨b, off, h5, by rw [show headP (x :: r) = x.1 from rfl]; simpa using this⟩
set_option maxRecDepth 40000 in
set_option maxHeartbeats 1600000 in
theorem firstKey_any (w : World) (B : Nat) (l m : List Pair) (va vb : Value) (hl : Ls B w 2 pairC va l) (hm : Ls B w 2 pairC vb m) (hne : l ≠ [] ∨ m ≠ []) :
    Calls Try.prog 35 #[va, vb] w fun e w' => e = .returned (.string (strB (firstK l m))) ∧ Below w.heap.size w w' := by
  have hl' := hl
  have hm' := hm
  obtain ⟨aa, ca, rfl, a1, a2, -⟩ := hl'
  obtain ⟨ab, cb, rfl, b1, b2, -⟩ := hm'
  unfold maxLen at a2 b2
  unfold firstK
  by_cases hme : m = []
  · rw [if_pos hme]
    have hle : l ≠ [] := by
      rcases hne with h | h
      · exact h
      · exact absurd hme h
    have hml : ¬ 0 < m.length := by rw [hme]; simp
    have hll : 0 < l.length := by
      cases l with
      | nil => exact absurd rfl hle
      | cons x r => simp
    have hmq : ((m.length : Int) == 0) = true := by simp; exact hme
    obtain ⟨b, off, rfl, d0⟩ := ls_head hl hle
    generalize headP l = hp at *
    clear hl hm hne hme hle
    go_enter Try.func35, Try.ntmps35
    go_wp2_with fail
    refine wp_region_held_drew (S := fun _ => True) (by kernel_rfl) (trivial) (fun hHeld => ?_)
    refine takeK 0 hHeld ?_
    refine takeK 1 hHeld ?_
    refine takeK 2 hHeld ?_
    refine takeK 3 hHeld ?_
    refine skipK 4 hHeld ?_
    refine skipK 5 hHeld ?_
    refine skipK 6 hHeld ?_
    refine skipK 7 hHeld ?_
    refine skipK 8 hHeld ?_
    refine skipK 9 hHeld ?_
    refine skipK 10 hHeld ?_
    refine skipK 11 hHeld ?_
    refine skipK 12 hHeld ?_
    refine skipK 13 hHeld ?_
    refine skipK 14 hHeld ?_
    refine skipK 15 hHeld ?_
    refine skipK 16 hHeld ?_
    refine skipK 17 hHeld ?_
    refine takeK 18 hHeld ?_
    refine wpAnyH_done (by kernel_rfl) ?_ _
    clear hHeld
    go_wp2
    go_ret
    exact ⟨rfl, (Below.refl _ _).drew⟩
  · rw [if_neg hme]
    have hml : 0 < m.length := by
      cases m with
      | nil => exact absurd rfl hme
      | cons x r => simp
    have hmq : ((m.length : Int) == 0) = false := by simp; exact hme
    obtain ⟨bm, om, rfl, e0⟩ := ls_head hm hme
    by_cases hle : l = []
    · rw [if_neg (by simp [hle])]
      have hll : ¬ 0 < l.length := by rw [hle]; simp
      have hd : decide (0 < l.length) = false := decide_eq_false hll
      generalize headP m = hp at *
      clear hl hm hne hme hle
      go_enter Try.func35, Try.ntmps35
      go_wp2_with fail
      refine wp_region_held_drew (S := fun _ => True) (by kernel_rfl) (trivial) (fun hHeld => ?_)
      refine takeK 0 hHeld ?_
      refine takeK 1 hHeld ?_
      refine takeK 2 hHeld ?_
      refine takeK 3 hHeld ?_
      refine takeK 4 hHeld ?_
      refine takeK 5 hHeld ?_
      refine takeK 6 hHeld ?_
      refine takeK 7 hHeld ?_
      refine skipK 8 hHeld ?_
      refine skipK 9 hHeld ?_
      refine skipK 10 hHeld ?_
      refine skipK 11 hHeld ?_
      refine skipK 12 hHeld ?_
      refine skipK 13 hHeld ?_
      refine skipK 14 hHeld ?_
      refine skipK 15 hHeld ?_
      refine skipK 16 hHeld ?_
      refine takeK 17 hHeld ?_
      refine takeK 18 hHeld ?_
      refine wpAnyH_done (by kernel_rfl) ?_ _
      clear hHeld
      go_wp2
      go_ret
      exact ⟨rfl, (Below.refl _ _).drew⟩
    · have hll : 0 < l.length := by
        cases l with
        | nil => exact absurd rfl hle
        | cons x r => simp
      have hd : decide (0 < l.length) = true := decide_eq_true hll
      obtain ⟨bl, ol, rfl, d0⟩ := ls_head hl hle
      have hle2 := leq_strD 9 (headP l) (headP m)
      have hcond : (l ≠ [] ∧ ltB (headP m) (headP l) = false) ↔ ltB (headP m) (headP l) = false := ⟨fun h => h.2, fun h => ⟨hle, h⟩⟩
      simp only [hcond]
      generalize headP m = hpm at *
      generalize headP l = hpl at *
      clear hl hm hne hme hle hcond
      cases hlt : ltB hpm hpl with
      | true =>
        rw [hlt] at hle2
        clear hlt
        go_enter Try.func35, Try.ntmps35
        go_wp2_with fail
        refine wp_region_held_drew (S := fun W => W.cell? ⟨bl, ol, none⟩ = some (.string (strB hpl)) ∧ W.cell? ⟨bm, om, none⟩ = some (.string (strB hpm))) (by kernel_rfl) (⟨d0, e0⟩) (fun hHeld => ?_)
        refine takeK 0 hHeld ?_
        refine takeK 1 hHeld ?_
        refine takeK 2 hHeld ?_
        refine takeK 3 hHeld ?_
        refine takeK 4 hHeld ?_
        refine takeK 5 hHeld ?_
        refine takeK 6 hHeld ?_
        refine takeK 7 hHeld ?_
        refine takeK 8 hHeld ?_
        refine takeK 9 hHeld ?_
        refine takeK 10 hHeld ?_
        refine takeK 11 hHeld ?_
        refine takeK 12 hHeld ?_
        refine takeK 13 hHeld ?_
        refine takeK 14 hHeld ?_
        refine takeK 15 hHeld ?_
        refine takeK 16 hHeld ?_
        refine takeK 17 hHeld ?_
        refine takeK 18 hHeld ?_
        refine wpAnyH_done (by kernel_rfl) ?_ _
        clear hHeld
        go_wp2
        go_ret
        exact ⟨rfl, (Below.refl _ _).drew⟩
      | false =>
        rw [hlt] at hle2
        clear hlt
        go_enter Try.func35, Try.ntmps35
        go_wp2_with fail
        refine wp_region_held_drew (S := fun W => W.cell? ⟨bl, ol, none⟩ = some (.string (strB hpl)) ∧ W.cell? ⟨bm, om, none⟩ = some (.string (strB hpm))) (by kernel_rfl) (⟨d0, e0⟩) (fun hHeld => ?_)
        refine takeK 0 hHeld ?_
        refine takeK 1 hHeld ?_
        refine takeK 2 hHeld ?_
        refine takeK 3 hHeld ?_
        refine takeK 4 hHeld ?_
        refine takeK 5 hHeld ?_
        refine takeK 6 hHeld ?_
        refine takeK 7 hHeld ?_
        refine takeK 8 hHeld ?_
        refine takeK 9 hHeld ?_
        refine takeK 10 hHeld ?_
        refine takeK 11 hHeld ?_
        refine takeK 12 hHeld ?_
        refine takeK 13 hHeld ?_
        refine takeK 14 hHeld ?_
        refine takeK 15 hHeld ?_
        refine takeK 16 hHeld ?_
        refine takeK 17 hHeld ?_
        refine takeK 18 hHeld ?_
        refine wpAnyH_done (by kernel_rfl) ?_ _
        clear hHeld
        go_wp2
        go_ret
        exact ⟨rfl, (Below.refl _ _).drew⟩
set_option maxRecDepth 40000 in
set_option maxHeartbeats 1600000 in
theorem takeKey_any (w : World) (B : Nat) (key : Bs) (l : List Pair) (va : Value) (hl : Ls B w 2 pairC va l) :
    Calls Try.prog 36 #[.string (strB key), va] w fun e w' => ∃ v', e = .returned (.tuple #[.string (strB (takeKM key l).1), .bool (takeKM key l).2.1, v']) ∧ Ls B w' 2 pairC v' (takeKM key l).2.2 ∧ Below w.heap.size w w' := by
  have hl' := hl
  obtain ⟨aa, ca, rfl, a1, a2, -⟩ := hl'
  unfold maxLen at a2
  cases l with
  | nil =>
    have hmq : ((([] : List Pair).length : Int) == 0) = true := by simp
    unfold takeKM
    have HL := hide hl
    clear hl
    go_enter Try.func36, Try.ntmps36
    go_wp2
    go_ret3
    exact ⟨_, rfl, HL.out, Below.refl _ _⟩
  | cons x r =>
    have hmq : (((x :: r).length : Int) == 0) = false := by simp; omega
    obtain ⟨b, off, rfl, d0⟩ := ls_head hl (by simp)
    rw [show headP (x :: r) = x.1 from rfl] at d0
    have d1 : w.cell? ⟨b, off + 1, none⟩ = some (.string (strB x.2)) := by
      obtain ⟨a, cp, he, -, -, h4⟩ := hl
      obtain ⟨b', off', h5, -, h6⟩ := h4 (by simp)
      injection he with h1 _ _
      rw [h5] at h1
      injection h1 with h1
      injection h1 with q1 q2 _
      have := h6 0 (by simp) 1 _ rfl
      rw [← q1, ← q2] at this
      simpa using this
    have hpart : Ls B w 2 pairC (.slice (some ⟨b, off + 1 * 2, none⟩) ((x :: r).length - 1) (ca - 1)) r := by
      have := hl.part (a := 1) (z := (x :: r).length) (by simp) (Nat.le_refl _)
      simpa using this
    obtain ⟨n, hn⟩ : ∃ n, n = (x :: r).length := ⟨_, rfl⟩
    have hn1 : 1 ≤ n := by rw [hn]; simp
    have hn0 : 0 < n := hn1
    have hn2 : (1 : Int) ≤ (n : Int) := by omega
    have htx := toL x.1
    have htk := toL key
    rw [← hn] at a1 hmq hpart ⊢
    have HL := hide (And.intro hl hn)
    have HP := hide hpart
    clear hl hpart hn
    by_cases hk : x.1 = key
    · rw [takeKM_yes hk]
      subst hk
      have hkb : (x.1 == x.1) = true := by simp
      by_cases hc1 : ca = 1
      · have hrn : r = [] := by
          have := HL.out.2
          rw [List.length_cons] at this
          exact List.length_eq_zero_iff.1 (by omega)
        subst hrn
        obtain rfl : n = 1 := by omega
        subst hc1
        go_enter Try.func36, Try.ntmps36
        go_wp2_with fail
        refine wp_region_held_drew (S := fun W => W.cell? ⟨b, off + 1, none⟩ = some (.string (strB x.2))) (by kernel_rfl) (d1) (fun hHeld => ?_)
        refine takeK 0 hHeld ?_
        refine takeK 1 hHeld ?_
        refine takeK 2 hHeld ?_
        refine takeK 3 hHeld ?_
        refine takeK 4 hHeld ?_
        refine takeK 5 hHeld ?_
        refine takeK 6 hHeld ?_
        refine takeK 7 hHeld ?_
        refine takeK 8 hHeld ?_
        refine wpAnyH_done (by kernel_rfl) ?_ _
        clear hHeld
        go_wp2
        go_ret3
        exact ⟨_, rfl, ⟨_, 0, rfl, by simp, by unfold maxLen; omega, fun h => absurd rfl h⟩, (Below.refl _ _).drew⟩
      · have hc2 : ¬ ca = 1 := hc1
        go_enter Try.func36, Try.ntmps36
        go_wp2_with fail
        refine wp_region_held_drew (S := fun W => W.cell? ⟨b, off + 1, none⟩ = some (.string (strB x.2))) (by kernel_rfl) (d1) (fun hHeld => ?_)
        refine takeK 0 hHeld ?_
        refine takeK 1 hHeld ?_
        refine takeK 2 hHeld ?_
        refine takeK 3 hHeld ?_
        refine takeK 4 hHeld ?_
        refine takeK 5 hHeld ?_
        refine takeK 6 hHeld ?_
        refine takeK 7 hHeld ?_
        refine takeK 8 hHeld ?_
        refine wpAnyH_done (by kernel_rfl) ?_ _
        clear hHeld
        go_wp2
        go_ret3
        exact ⟨_, rfl, HP.out, (Below.refl _ _).drew⟩
    · rw [takeKM_no hk]
      have hkb : (x.1 == key) = false := by simpa using hk
      go_enter Try.func36, Try.ntmps36
      go_wp2
      go_ret3
      refine ⟨_, rfl, ?_, Below.refl _ _⟩
      rw [HL.out.2]
      exact HL.out.1
end Go.Proofs.Ytldfjpgcemfpjaa

/-
  Two lists of pairs held against each other. Conditions: the lists lie there; not too many pairs.
-/
namespace Go.Proofs.Ytldfjpgcemfpjaa
open Go.RowKit

/-- A change as it lies there: key, what was, what is, had, has. -/
abbrev Ch5 := Bs × (Bs × (Bs × (Bool × Bool)))
abbrev ch5C (c : Ch5) : List Value := [.string (strB c.1), .string (strB c.2.1), .string (strB c.2.2.1), .bool c.2.2.2.1, .bool c.2.2.2.2]
def ch5 (c : ChangeM) : Ch5 := (c.1, (c.2.1.getD [], (c.2.2.getD [], (c.2.1.isSome, c.2.2.isSome))))
/-- One step of holding against each other. -/
def oneC (l m : List Pair) : Ch5 := (firstK l m, ((takeKM (firstK l m) l).1, ((takeKM (firstK l m) m).1, ((takeKM (firstK l m) l).2.1, (takeKM (firstK l m) m).2.1))))
def difC (c : Ch5) : Bool := c.2.2.2.1 != c.2.2.2.2 || c.2.1 != c.2.2.1
def progC : Nat → List Pair → List Pair → List Ch5
  | 0, _, _ => []
  | n + 1, l, m => if l = [] ∧ m = [] then [] else (if difC (oneC l m) then [oneC l m] else []) ++ progC n (takeKM (firstK l m) l).2.2 (takeKM (firstK l m) m).2.2
theorem progC_nil (n : Nat) : progC n [] [] = [] := by cases n <;> simp [progC]
theorem takeKM_len (key : Bs) (l : List Pair) : (takeKM key l).2.2.length ≤ l.length := by
  cases l with
  | nil => simp [takeKM]
  | cons x r =>
    by_cases h : x.1 = key
    · rw [takeKM_yes h]; simp
    · rw [takeKM_no h]; simp
theorem takeKM_head (x : Pair) (r : List Pair) : takeKM x.1 (x :: r) = (x.2, (true, r)) := takeKM_yes rfl
/-- One of the lists gets shorter. -/
theorem step_len {l m : List Pair} (h : ¬ (l = [] ∧ m = [])) : (takeKM (firstK l m) l).2.2.length + (takeKM (firstK l m) m).2.2.length < l.length + m.length := by
  have h1 := takeKM_len (firstK l m) l
  have h2 := takeKM_len (firstK l m) m
  have hor : firstK l m = headP l ∧ l ≠ [] ∨ firstK l m = headP m ∧ m ≠ [] := by
    unfold firstK
    by_cases hm : m = []
    · rw [if_pos hm]
      exact .inl ⟨rfl, fun hl => h ⟨hl, hm⟩⟩
    · rw [if_neg hm]
      split
      · rename_i hc
        exact .inl ⟨rfl, hc.1⟩
      · exact .inr ⟨rfl, hm⟩
  rcases hor with ⟨he, hl⟩ | ⟨he, hm⟩
  · cases l with
    | nil => exact absurd rfl hl
    | cons x r =>
      have : (takeKM (firstK (x :: r) m) (x :: r)).2.2.length = r.length := by rw [he, show headP (x :: r) = x.1 from rfl, takeKM_head]
      simp only [List.length_cons] at *
      omega
  · cases m with
    | nil => exact absurd rfl hm
    | cons x r =>
      have : (takeKM (firstK l (x :: r)) (x :: r)).2.2.length = r.length := by rw [he, show headP (x :: r) = x.1 from rfl, takeKM_head]
      simp only [List.length_cons] at *
      omega
/-- It is what the plain changes are. -/
theorem progC_eq : ∀ (n : Nat) (l m : List Pair), progC n l m = (changesM n l m).map ch5
  | 0, _, _ => rfl
  | n + 1, [], [] => by simp [progC, changesM]
  | n + 1, a :: l, [] => by
    have hk : firstK (a :: l) [] = a.1 := rfl
    rw [progC, if_neg (by simp), changesM, hk, takeKM_head, List.map_cons, ← progC_eq n l []]
    unfold oneC
    rw [hk, takeKM_head]
    rfl
  | n + 1, [], b :: m => by
    have hk : firstK [] (b :: m) = b.1 := rfl
    rw [progC, if_neg (by simp), changesM, hk, takeKM_head, List.map_cons, ← progC_eq n [] m]
    unfold oneC
    rw [hk, takeKM_head]
    rfl
  | n + 1, a :: l, b :: m => by
    rw [progC, if_neg (by simp), changesM]
    by_cases h1 : ltB a.1 b.1 = true
    · have h2 : ltB b.1 a.1 = false := by
        cases h : ltB b.1 a.1 with
        | false => rfl
        | true => have := ltB_trans _ _ _ h1 h; rw [dltB_irrefl] at this; cases this
      have hk : firstK (a :: l) (b :: m) = a.1 := by
        unfold firstK
        rw [if_neg (by simp), if_pos ⟨by simp, h2⟩]
        rfl
      have hne : ¬ b.1 = a.1 := by intro e; rw [e, dltB_irrefl] at h1; cases h1
      rw [if_pos h1, hk, takeKM_head, takeKM_no hne, List.map_cons, ← progC_eq n l (b :: m)]
      unfold oneC
      rw [hk, takeKM_head, takeKM_no hne]
      rfl
    · rw [if_neg h1]
      by_cases h2 : ltB b.1 a.1 = true
      · have hk : firstK (a :: l) (b :: m) = b.1 := by
          unfold firstK
          rw [if_neg (by simp), if_neg (by rintro ⟨-, h⟩; rw [show headP (b :: m) = b.1 from rfl, show headP (a :: l) = a.1 from rfl, h2] at h; cases h)]
          rfl
        have hne : ¬ a.1 = b.1 := by intro e; rw [e, dltB_irrefl] at h2; cases h2
        rw [if_pos h2, hk, takeKM_head, takeKM_no hne, List.map_cons, ← progC_eq n (a :: l) m]
        unfold oneC
        rw [hk, takeKM_head, takeKM_no hne]
        rfl
      · rw [if_neg h2]
        have h2' : ltB b.1 a.1 = false := by simpa using h2
        have he : b.1 = a.1 := dltB_total _ _ h2' (by simpa using h1)
        have hk : firstK (a :: l) (b :: m) = a.1 := by
          unfold firstK
          rw [if_neg (by simp), if_pos ⟨by simp, h2'⟩]
          rfl
        rw [hk, takeKM_head, takeKM_yes he]
        have ho : oneC (a :: l) (b :: m) = (a.1, (a.2, (b.2, (true, true)))) := by
          unfold oneC
          rw [hk, takeKM_head, takeKM_yes he]
        rw [ho]
        unfold difC
        by_cases hv : a.2 = b.2
        · simp only [hv, bne_self_eq_false, Bool.or_false, Bool.false_eq_true, if_false, if_true, List.nil_append]
          exact progC_eq n l m
        · have hvb : (a.2 != b.2) = true := by simpa using hv
          simp only [hvb, Bool.or_true, if_true, if_neg hv, List.map_cons, ← progC_eq n l m]
          rfl
theorem Try.zChange : (Try.prog.info? 52).map (fun i => (i.zero, i.size, i.bytes)) = some (some (.agg #[.string ⟨#[]⟩, .string ⟨#[]⟩, .string ⟨#[]⟩, .bool false, .bool false]), 5, 56) := by kernel_rfl
theorem app_change (w : World) (B : Nat) (v : Value) (xs : List Ch5) (p : Ch5) (h : Rw B w 52 5 ch5C v xs) (hB : B ≤ w.heap.size) (hn : xs.length ≤ 4294967296) :
    ∃ v' w', (Builtin.append_ #[24, 24] 24 #[v, .slice (some ⟨w.heap.size, 0, none⟩) 1 1]).run Try.prog (w.alloc (.cells (ch5C p).toArray 52)) = .ok v' w' ∧
      Rw B w' 52 5 ch5C v' (xs ++ [p]) ∧ (w.alloc (.cells (ch5C p).toArray 52)).grownBy w' v.ownBlock ∧ (v'.ownBlock = v.ownBlock ∨ v'.ownBlock = some (w.heap.size + 1)) := by
  obtain ⟨i0, hi, hz0, hz1, hz2⟩ := info_parts Try.zChange
  have hx := heap_last w (.cells (ch5C p).toArray 52) _ rfl
  obtain ⟨v', w', h1, h2, h3, -, h4⟩ := run_append_own_at (P := Try.prog) (w.alloc (.cells (ch5C p).toArray 52)) B 24 24 52 i0 _ 5 56 Try.underlying24 hi hz0 hz1 hz2 rfl (by decide) v xs.length (xs.flatMap ch5C) (h.alloc _) ⟨w.heap.size, 0, none⟩ 1 1 (ch5C p) rfl (fun j u hu => by
      rw [Addr.add_lit, Nat.zero_add, cell_of_row _ _ _ _ _ _ hx, List.getElem?_toArray]; exact hu) (by simp [Value.oneCell']) (by unfold maxLen; omega) (by omega) (by simp; omega)
  refine ⟨v', w', h1, ?_, h3, by simpa using h4⟩
  unfold Rw
  rw [List.length_append, List.flatMap_append]
  simpa using h2
end Go.Proofs.Ytldfjpgcemfpjaa
