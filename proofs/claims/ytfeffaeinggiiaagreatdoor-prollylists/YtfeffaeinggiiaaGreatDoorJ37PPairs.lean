/-
  Texts joined: PPairs, PTell, PSteps.
-/
import Derived.Test.YtfeffaeinggiiaaGreatDoorJ26PRMany
import Derived.Test.YtfeffaeinggiiaaGreatDoorJ36PRRight
import Derived.Test.YtfeffaeinggiiaaGreatDoorJ32PAskKid
import Derived.RangeFuncNested
import Derived.RangeFuncBound
import Derived.RangeFuncCalls
import Derived.RangeFuncLeaves
import Derived.RangeFuncBox
import Derived.Shelf.Abstract
import Derived.Shelf.RegionOpen
import Derived.OwnWalkIn
import Derived.TacticsInMore
import Derived.LoopNIn
import Derived.LoopIn
import Derived.Test.YtfeffaeinggiiaaGreatDoorJ3HSpread
import Derived.WalkKit
/-
  Which pairs are right, by the program. Conditions: the pairs lie there.
-/
namespace Go.Proofs.YtfeffaeinggiiaaGreatDoor
open Go.RowKit

theorem ltB_le : ∀ (a b : Bs), (ltB a b || a == b) = !ltB b a
  | [], [] => by rw [ltB_nil]; rfl
  | [], b :: m => by rw [ltB_nil_cons, ltB_nil]; rfl
  | a :: l, [] => by rw [ltB_nil_cons, ltB_nil]; rfl
  | a :: l, b :: m => by
    have ih := ltB_le l m
    rw [ltB_cons, ltB_cons]
    by_cases h : a = b
    · subst h
      have h1 : ¬ a < a := UInt8.lt_irrefl a
      simp [h1, ih]
    · have h1 : (a == b) = false := by simpa using h
      have h2 : (b == a) = false := by simpa using fun e => h e.symm
      have h3 : (a :: l == b :: m) = false := by simp [h]
      rw [h1, h2, h3]
      by_cases h4 : a < b
      · have h5 : ¬ b < a := UInt8.lt_asymm h4
        simp [h4, h5]
      · have h5 : b < a := by
          rcases UInt8.lt_or_lt_of_ne h with q | q
          · exact absurd q h4
          · exact q
        simp [h4, h5]
theorem leq_str (t : TypeId) (a b : Bs) : binOp .leq t (.string (strB a)) (.string (strB b)) = pure (.bool (!ltB b a)) := by
  have := ltB_le a b
  unfold ltB at this
  simp [binOp, Op.stringOp, toLr, ltB, this]
theorem lastP_take (l : List Pair) (k : Nat) (hk : k < l.length) : lastP (l.take (k + 1)) = l[k].1 := by
  unfold lastP
  rw [List.take_succ_eq_append_getElem hk, List.getLast?_concat]
  rfl
theorem nextOk_last {l : List Pair} {k : Nat} {x : Pair} (hx : pairOk x = true) (hk : k ≤ l.length) : nextOk l k x = ltB (lastP (l.take k)) x.1 := by
  unfold nextOk
  rw [hx]
  cases k with
  | zero =>
    have : 1 ≤ x.1.length := by
      unfold pairOk isKeyB at hx
      simp at hx
      omega
    cases hq : x.1 with
    | nil => rw [hq] at this; simp at this
    | cons a r => simp [lastP, ltB_nil_cons]
  | succ k =>
    rw [lastP_take l k (by omega)]
    have : (k + 1 - 1) = k := by omega
    simp [this, List.getElem?_eq_getElem (show k < l.length by omega)]
theorem pairsOk_no {l : List Pair} {k : Nat} (hk : k < l.length) (h : nextOk l k l[k] = false) : pairsOk l = false := by
  have h1 := pairsOk_step l k hk
  rw [h, Bool.and_false] at h1
  cases hq : pairsOk l with
  | false => rfl
  | true => rw [pairsOk_take hq (k + 1)] at h1; cases h1
set_option maxRecDepth 20000 in
set_option maxHeartbeats 800000 in
theorem pairsAreRight_any (w : World) (l : List Pair) (v : Value) (hv : Ls w.heap.size w 2 pairC v l) :
    Calls Tryz.prog 26 #[v] w fun e w' => e = .returned (.bool (pairsOk l)) ∧ Below w.heap.size w w' := by
  obtain ⟨ao, cap, rfl, h1, h2, h4⟩ := hv
  unfold maxLen at h2
  have hnil : strB (lastP (l.take 0)) = ⟨#[]⟩ := rfl
  go_enter Tryz.func26, Tryz.ntmps26
  go_wp2_with fail
  go_loopw [8, 3] (fun t u wr => ∃ k : Nat, k ≤ l.length ∧ t = .int .i64 k ∧ u = .string (strB (lastP (l.take k))) ∧ pairsOk (l.take k) = true ∧ Below w.heap.size w wr)
    (fun t _ _ => l.length - (intOf t).toNat)
  case atStart => exact ⟨0, by omega, rfl, rfl, rfl, Below.refl _ _⟩
  case round =>
    obtain ⟨k, hk, rfl, rfl, hok, hb⟩ := hrel
    have HB := hide hb
    have HOK := hide hok
    clear hok
    by_cases hlt : k < l.length
    · obtain ⟨b, off, rfl, hbB, hc⟩ := h4 (by rintro rfl; simp at hlt)
      have c0 := (hb.cell (p := ⟨b, off + k * 2 + 0, none⟩) hbB).trans (hc k hlt 0 _ rfl)
      have c1 := (hb.cell (p := ⟨b, off + k * 2 + 1, none⟩) hbB).trans (hc k hlt 1 _ rfl)
      simp only [Nat.add_zero] at c0
      have hstep := pairsOk_step l k hlt
      have hno := fun h => pairsOk_no (l := l) hlt h
      have hlast := lastP_take l k hlt
      have hnx := fun (h : pairOk (l[k]'hlt) = true) => nextOk_last (l := l) (k := k) h hk
      have HB1 := hide (HB.out.alloc HB.out.size (.cells #[.string (strB l[k].1), .string (strB l[k].2)] 60))
      generalize l[k] = x at *
      have HX := hide (And.intro hstep (And.intro hno (And.intro hlast hnx)))
      have hx2 := strB_size x.2
      have hleq := leq_str 9 x.1 (lastP (l.take k))
      generalize lastP (l.take k) = last at *
      clear hstep hno hlast hnx hc hb
      cases hkey : isKeyB x.1 with
      | false =>
        have HN := hide (HX.out.2.1 (nextOk_no (pairOk_no (.inl hkey))))
        go_wp2_with fail
        refine (pisKey_any _ x.1).mono ?_
        rintro e w1 ⟨rfl, rfl⟩
        rw [hkey]
        go_wp2
        go_ret
        exact ⟨ret_bool HN.out.symm, HB1.out⟩
      | true =>
        by_cases hv : 128 < x.2.length
        · have HN := hide (HX.out.2.1 (nextOk_no (pairOk_no (.inr hv))))
          have hgt : decide ((128 : Int) < (x.2.length : Int)) = true := by simp; omega
          cases hlb : ltB last x.1 with
          | false =>
            rw [hlb] at hleq
            go_wp2_with fail
            refine (pisKey_any _ x.1).mono ?_
            rintro e w1 ⟨rfl, rfl⟩
            rw [hkey]
            go_wp2
            go_ret
            exact ⟨ret_bool HN.out.symm, HB1.out⟩
          | true =>
            rw [hlb] at hleq
            go_wp2_with fail
            refine (pisKey_any _ x.1).mono ?_
            rintro e w1 ⟨rfl, rfl⟩
            rw [hkey]
            go_wp2
            go_ret
            exact ⟨ret_bool HN.out.symm, HB1.out⟩
        · have hpo : pairOk x = true := by unfold pairOk; rw [hkey]; simp; omega
          have hgt : decide ((128 : Int) < (x.2.length : Int)) = false := by simp; omega
          have hnx := HX.out.2.2.2 hpo
          have HPO := hide hpo
          clear hpo
          cases hlb : ltB last x.1 with
          | false =>
            rw [hlb] at hnx hleq
            have HN := hide (HX.out.2.1 hnx)
            clear hnx
            go_wp2_with fail
            refine (pisKey_any _ x.1).mono ?_
            rintro e w1 ⟨rfl, rfl⟩
            rw [hkey]
            go_wp2
            go_ret
            exact ⟨ret_bool HN.out.symm, HB1.out⟩
          | true =>
            rw [hlb] at hnx hleq
            have HN := hide (show pairsOk (l.take (k + 1)) = true by rw [HX.out.1, HOK.out, hnx]; rfl)
            clear hnx
            go_wp2_with fail
            refine (pisKey_any _ x.1).mono ?_
            rintro e w1 ⟨rfl, rfl⟩
            rw [hkey]
            go_wp2
            go_roundw
            case rel => exact ⟨k + 1, by omega, by go_num, by rw [HX.out.2.2.1], HN.out, HB1.out⟩
            case measure => simp [intOf]; omega
    · obtain rfl : k = l.length := by omega
      rw [List.take_length] at HOK
      clear hb
      go_wp2
      go_ret
      exact ⟨ret_bool HOK.out.symm, HB.out⟩
end Go.Proofs.YtfeffaeinggiiaaGreatDoor

/-
  Telling a leaf's pairs, telling an error. Conditions: whoever is told keeps its word.
-/
namespace Go.Proofs.YtfeffaeinggiiaaGreatDoor
open Go.RowKit
attribute [local go_sem] Oper.semAt_some

/-- What is gone through, as it lies there: the get, the span, whoever is told, the last key that was told. -/
structure GoW (B : Nat) (W : World) (gb : Nat) (gv yv : Value) (lo hi told : Bs) : Prop where
  le : B ≤ gb
  cell : W.heap[gb]? = some (.cells #[gv, .string (strB lo), .string (strB hi), yv, .string (strB told)] 128)
/-- What going itself moves, and gets. -/
abbrev jts : List TypeId := [128, 9, 32]
/-- A block of pairs that moves counts as blocks of pairs that move. -/
theorem Mv.absorb {B : Nat} {ts ts' : List TypeId} {r : Option Nat} {W W' : World} (h : Mv B ts r W W') (hr : ∀ q, r = some q → ∃ cs fr, W.heap[q]? = some (.cells cs 60 fr)) (hp : 60 ∈ ts') (hs : ∀ t ∈ ts, t ∈ ts') : Mv B ts' Option.none W W' :=
  ⟨h.b, fun k cs t fr hk ht _ => h.k k cs t fr hk (fun hm => ht (hs t hm)) (fun e => by
    obtain ⟨cs', fr', hq⟩ := hr k e.symm
    rw [hk] at hq
    injection hq with hq
    injection hq with _ hq
    exact ht (hq ▸ hp))⟩
/-- Whoever is told keeps its word: J of it while it goes on, Jx where it was told an error or said 'no more'. -/
structure YieldOk {σ : Type} (l : Nat) (k : Sink σ) (B : Nat) (sts : List TypeId) (J Jx : Value → σ → World → Prop) : Prop where
  keep : ∀ {v : Value} {s : σ} {W W' : World}, J v s W → Mv B jts Option.none W W' → KO W W' → J v s W'
  row : ∀ {v : Value} {s : σ} {W : World} {q : Nat}, J v s W → v.ownBlock = some q → ∃ cs fr, W.heap[q]? = some (.cells cs 60 fr)
  tell : ∀ (v : Value) (s : σ) (x : Pair) (W : World), J v s W → k.cap s ≤ 1000000 → YieldAt Fence.wide 0 Tryz.prog l #[.agg #[.string (strB x.1), .string (strB x.2)], .int .i64 0] W fun e W' => ∃ v', e = .returned (.bool (k.st s x).2) ∧ Mv B sts v.ownBlock W W' ∧ Nx W v.ownBlock v'.ownBlock ∧ ((k.st s x).2 = true → J v' (k.st s x).1 W') ∧ ((k.st s x).2 = false → Jx v' (k.st s x).1 W')
  fail : ∀ (v : Value) (s : σ) (er : Int) (W : World), J v s W → er ≠ 0 → YieldAt Fence.wide 0 Tryz.prog l #[.agg #[.string ⟨#[]⟩, .string ⟨#[]⟩], .int .i64 er] W fun e W' => ∃ v' b, e = .returned (.bool b) ∧ Mv B sts v.ownBlock W W' ∧ Nx W v.ownBlock v'.ownBlock ∧ Jx v' (k.er s er) W'
  apart : 128 ∉ sts ∧ 60 ∉ sts ∧ 66 ∉ sts ∧ 83 ∉ sts
/-- All that moves. -/
abbrev gts (sts : List TypeId) : List TypeId := 128 :: 9 :: 32 :: sts
theorem gts_sub (sts : List TypeId) : ∀ t ∈ sts, t ∈ gts sts := fun _t h => List.mem_cons_of_mem _ (List.mem_cons_of_mem _ (List.mem_cons_of_mem _ h))
theorem jts_sub (sts : List TypeId) : ∀ t ∈ jts, t ∈ gts sts := by
  intro t h
  simp only [List.mem_cons, List.not_mem_nil, or_false] at h
  rcases h with rfl | rfl | rfl
  · exact List.mem_cons_self
  · exact List.mem_cons_of_mem _ List.mem_cons_self
  · exact List.mem_cons_of_mem _ (List.mem_cons_of_mem _ List.mem_cons_self)
/-- What a call tells: the flag, what whoever is told has come to, what was asked. -/
def ToldSaid {σ : Type} (B : Nat) (sts : List TypeId) (J Jx : Value → σ → World → Prop) (I : World → List Bs → Prop) (gb : Nat) (gv yv : Value) (lo hi : Bs) (v : Value) (W : World) (r : Tst σ × Bool) (e : Ending) (W' : World) : Prop :=
  e = .returned (.bool r.2) ∧ ∃ v', (r.2 = true → J v' r.1.s W') ∧ (r.2 = false → Jx v' r.1.s W') ∧ GoW B W' gb gv yv lo hi r.1.told ∧ I W' r.1.asked ∧ Mv B (gts sts) v.ownBlock W W' ∧ Nx W v.ownBlock v'.ownBlock
set_option maxRecDepth 20000 in
theorem begunAt_any (w : World) (lo hi key : Bs) : Calls Tryz.prog 113 #[.agg #[.string (strB lo), .string (strB hi)], .string (strB key)] w fun e w' => e = .returned (.bool (!ltB key lo)) ∧ Below w.heap.size w w' := by
  have hge := geq_str 9 key lo
  generalize ltB key lo = b at *
  go_enter Tryz.func113, Tryz.ntmps113
  go_wp2
  go_ret
  exact ⟨rfl, (Below.refl _ _).alloc (Nat.le_refl _) _⟩
set_option maxRecDepth 20000 in
theorem endedAt_any (w : World) (lo hi key : Bs) : Calls Tryz.prog 114 #[.agg #[.string (strB lo), .string (strB hi)], .string (strB key)] w fun e w' => e = .returned (.bool (endM hi key)) ∧ Below w.heap.size w w' := by
  have hge := geq_str 9 key hi
  have hem : endM hi key = (!hi.isEmpty && !ltB key hi) := rfl
  rw [hem]
  have tl := toL hi
  have te : (⟨#[]⟩ : ByteArray).toList = [] := toL []
  generalize ltB key hi = b at *
  by_cases h : hi = []
  · subst h
    go_enter Tryz.func114, Tryz.ntmps114
    go_wp2
    go_ret
    exact ⟨rfl, (Below.refl _ _).alloc (Nat.le_refl _) _⟩
  · have hb : (hi == []) = false := by simpa using h
    have hi2 : hi.isEmpty = false := by simpa using h
    rw [hi2]
    go_enter Tryz.func114, Tryz.ntmps114
    go_wp2
    go_ret
    refine ⟨?_, (Below.refl _ _).alloc (Nat.le_refl _) _⟩
    simp
theorem inM_form (lo hi k : Bs) : inM lo hi k = (!ltB k lo && !endM hi k) := by
  unfold inM endM
  cases hi.isEmpty <;> cases ltB k hi <;> simp
set_option maxRecDepth 20000 in
theorem fail_any {σ : Type} (W : World) (l : Nat) (k : Sink σ) (B : Nat) (sts : List TypeId) (J Jx : Value → σ → World → Prop) (hY : YieldOk l k B sts J Jx) (gb : Nat) (gv : Value) (lo hi told : Bs) (v : Value) (s : σ) (er : Int) (her : er ≠ 0) (hJ : J v s W) (hg : GoW B W gb gv (.func (.yield l) #[] #[]) lo hi told) :
    Calls Tryz.prog 87 #[.pointer (some ⟨gb, 0, none⟩), .int .i64 er] W fun e W' => e = .returned (.bool false) ∧ ∃ v', Jx v' (k.er s er) W' ∧ Mv B sts v.ownBlock W W' ∧ Nx W v.ownBlock v'.ownBlock := by
  obtain ⟨fn, tmps, assign, body, hy, hR⟩ := hY.fail v s er W hJ her
  have c3 := cell_of_row W gb 3 _ _ _ hg.cell
  simp only [List.getElem?_toArray, List.getElem?_cons_zero, List.getElem?_cons_succ] at c3
  refine (callsIn_wide (n := 0)).1 ?_
  refine callsIn_of_wp Tryz.func87 rfl trivial ?_ rfl
  simp only [Tryz.ntmps87, List.size_toArray, List.length_cons, List.length_nil, Nat.reduceAdd, Nat.reduceSub, Array.replicate_succ, Array.replicate_zero, List.push_toArray, List.append_toArray, List.nil_append, List.cons_append]
  clear hJ hg
  gi_wp2
  refine ⟨rfl, hR.mono ?_⟩
  rintro e W3 ⟨v', b, rfl, h1, h2, h3⟩
  have H := hide (And.intro h1 (And.intro h2 h3))
  clear h1 h2 h3 hR hy
  gi_wp2
  go_ret
  exact ⟨rfl, v', H.out.2.2, H.out.1, H.out.2.1⟩
end Go.Proofs.YtfeffaeinggiiaaGreatDoor

/-
  Laws of my own on regions that draw their order and call yield, read at the wide fence. No condition.
-/
namespace Go.Proofs.YtfeffaeinggiiaaGreatDoor
open Go.RowKit
variable {P : Program} {l : List Oper} {Q : Exit → Act → World → Prop} {md : Region.Mode}

theorem semW (o : Oper) (a : Act) : o.semAt Fence.wide.round a.eval = execOp a.eval o := Oper.semAt_none _ _
theorem takeIn {i : Nat} {oi : Oper} {v : Value} {fuel : Nat} {listed : Array Bool} {a : Act} {w : World} (hi : l[i]? = some oi)
    (hs : Region.noSelect l.toArray = true) (hf : Region.free md l.toArray listed i = true) (hr : (Region.ready md l.toArray listed).contains i = true)
    (hQ : ∀ c a w, Q (.panic c) (a.put oi.dst v) w → Q (.panic c) a w) (hg : Region.wanted oi (yielded l.toArray a.tmps) = true) (hab : ∀ w, oi.about P w a.eval = none) (hy : ∀ w, (execOp a.eval oi).run P w = .ok (.value v) w)
    (h : wpAnyIn Fence.wide 0 P md l.toArray Q fuel (listed.setIfInBounds i true) (a.put oi.dst v) w) : wpAnyIn Fence.wide 0 P md l.toArray Q (fuel + 1) listed a w :=
  wpAnyIn_take rfl (by simpa using hi) hs hf hr hQ ⟨Or.inl ⟨hg, hy⟩, hab⟩ h
theorem valW {o : Oper} {a : Act} {w : World} {v : Value} {K : Act → World → Prop} (hy : (execOp a.eval o).run P w = .ok (.value v) w) (h : K (a.put o.dst v) w) : Oper.wpIn Fence.wide 0 P o a w K Q :=
  ⟨fun _ _ => trivial, by rw [semW, hy]; exact h⟩
theorem roundW {o : Oper} {a : Act} {w : World} {k f : Nat} {tmps : Array Value} {assign body : Code} {R : Ending → World → Prop} {K : Act → World → Prop} (hy : (execOp a.eval o).run P w = .ok (.round k f tmps assign body) w)
    (hR : RoundIn Fence.wide 0 P k f tmps assign body w R) (h : ∀ e w', R e w' → ∃ v, e = .returned v ∧ K (a.put o.dst v) w') : Oper.wpIn Fence.wide 0 P o a w K Q :=
  ⟨fun _ _ => trivial, by
    rw [semW, hy]
    refine ⟨(fun h => by cases h), hR.mono fun e w' he => ?_⟩
    obtain ⟨v, rfl, hK⟩ := h e w' he
    exact hK⟩
theorem onlyIn {i : Nat} {oi : Oper} {fuel : Nat} {listed : Array Bool} {a : Act} {w : World} (hi : l[i]? = some oi) (hr : Region.ready md l.toArray listed = [i]) (hg : Region.wanted oi (yielded l.toArray a.tmps) = true)
    (h : Oper.wpIn Fence.wide 0 P oi a w (wpAnyIn Fence.wide 0 P md l.toArray Q fuel (listed.setIfInBounds i true)) Q) : wpAnyIn Fence.wide 0 P md l.toArray Q (fuel + 1) listed a w :=
  wpAnyIn_ready hr (by simp) (AllReadyIn.cons (o := oi) (by simpa using hi) (fun K hK => by rw [if_pos hg]; exact Oper.wpIn_mono hK h) AllReadyIn.nil)
theorem twoIn {i j : Nat} {oi oj : Oper} {fuel : Nat} {listed : Array Bool} {a : Act} {w : World} (hi : l[i]? = some oi) (hj : l[j]? = some oj) (hr : Region.ready md l.toArray listed = [i, j])
    (hgi : Region.wanted oi (yielded l.toArray a.tmps) = true) (hgj : Region.wanted oj (yielded l.toArray a.tmps) = true)
    (h1 : Oper.wpIn Fence.wide 0 P oi a w (wpAnyIn Fence.wide 0 P md l.toArray Q fuel (listed.setIfInBounds i true)) Q)
    (h2 : Oper.wpIn Fence.wide 0 P oj a w (wpAnyIn Fence.wide 0 P md l.toArray Q fuel (listed.setIfInBounds j true)) Q) : wpAnyIn Fence.wide 0 P md l.toArray Q (fuel + 1) listed a w :=
  wpAnyIn_ready hr (by simp) (AllReadyIn.cons (o := oi) (by simpa using hi) (fun K hK => by rw [if_pos hgi]; exact Oper.wpIn_mono hK h1) (AllReadyIn.cons (o := oj) (by simpa using hj) (fun K hK => by rw [if_pos hgj]; exact Oper.wpIn_mono hK h2) AllReadyIn.nil))
theorem startIn {id : Nat} {a : Act} {w : World} (hm : P.follows .mixedOrders = true)
    (h : wpAnyIn Fence.wide 0 P .any l.toArray Q l.length (Array.replicate l.length false) a w.drew) : (Code.region id l.toArray true).wp P Q a w :=
  (wpIn_wide (n := 0)).1 (wpIn_region_any hm (by simpa using h))
end Go.Proofs.YtfeffaeinggiiaaGreatDoor
