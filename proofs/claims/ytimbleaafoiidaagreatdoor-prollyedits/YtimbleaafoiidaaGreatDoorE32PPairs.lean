/-
  Texts joined: PPairs, PTell, PTell2.
-/
import Derived.Test.YtimbleaafoiidaaGreatDoorE21PRMany
import Derived.Test.YtimbleaafoiidaaGreatDoorE31PRRight
import Derived.Test.YtimbleaafoiidaaGreatDoorE27PAskKid
import Derived.RangeFuncNested
import Derived.RangeFuncBound
import Derived.RangeFuncCalls
import Derived.RangeFuncLeaves
import Derived.RangeFuncBox
import Derived.Shelf.Abstract
import Derived.Shelf.RegionOpen
import Derived.OwnWalkIn
import Derived.TacticsInMore
import Derived.LoopNIn
import Derived.LoopIn
import Derived.Test.YtimbleaafoiidaaGreatDoorE19PRow
/-
  Which pairs are right, by the program. Conditions: the pairs lie there.
-/
namespace Go.Proofs.YtimbleaafoiidaaGreatDoor
open Go.RowKit

theorem ltB_le : ∀ (a b : Bs), (ltB a b || a == b) = !ltB b a
  | [], [] => by rw [ltB_nil]; rfl
  | [], b :: m => by rw [ltB_nil_cons, ltB_nil]; rfl
  | a :: l, [] => by rw [ltB_nil_cons, ltB_nil]; rfl
  | a :: l, b :: m => by
    have ih := ltB_le l m
    rw [ltB_cons, ltB_cons]
    by_cases h : a = b
    · subst h
      have h1 : ¬ a < a := UInt8.lt_irrefl a
      simp [h1, ih]
    · have h1 : (a == b) = false := by simpa using h
      have h2 : (b == a) = false := by simpa using fun e => h e.symm
      have h3 : (a :: l == b :: m) = false := by simp [h]
      rw [h1, h2, h3]
      by_cases h4 : a < b
      · have h5 : ¬ b < a := UInt8.lt_asymm h4
        simp [h4, h5]
      · have h5 : b < a := by
          rcases UInt8.lt_or_lt_of_ne h with q | q
          · exact absurd q h4
          · exact q
        simp [h4, h5]
theorem leq_str (t : TypeId) (a b : Bs) : binOp .leq t (.string (strB a)) (.string (strB b)) = pure (.bool (!ltB b a)) := by
  have := ltB_le a b
  unfold ltB at this
  simp [binOp, Op.stringOp, toLr, ltB, this]
theorem lastP_take (l : List Pair) (k : Nat) (hk : k < l.length) : lastP (l.take (k + 1)) = l[k].1 := by
  unfold lastP
  rw [List.take_succ_eq_append_getElem hk, List.getLast?_concat]
  rfl
theorem nextOk_last {l : List Pair} {k : Nat} {x : Pair} (hx : pairOk x = true) (hk : k ≤ l.length) : nextOk l k x = ltB (lastP (l.take k)) x.1 := by
  unfold nextOk
  rw [hx]
  cases k with
  | zero =>
    have : 1 ≤ x.1.length := by
      unfold pairOk isKeyB at hx
      simp at hx
      omega
    cases hq : x.1 with
    | nil => rw [hq] at this; simp at this
    | cons a r => simp [lastP, ltB_nil_cons]
  | succ k =>
    rw [lastP_take l k (by omega)]
    have : (k + 1 - 1) = k := by omega
    simp [this, List.getElem?_eq_getElem (show k < l.length by omega)]
theorem pairsOk_no {l : List Pair} {k : Nat} (hk : k < l.length) (h : nextOk l k l[k] = false) : pairsOk l = false := by
  have h1 := pairsOk_step l k hk
  rw [h, Bool.and_false] at h1
  cases hq : pairsOk l with
  | false => rfl
  | true => rw [pairsOk_take hq (k + 1)] at h1; cases h1
set_option maxRecDepth 20000 in
set_option maxHeartbeats 800000 in
theorem pairsAreRight_any (w : World) (l : List Pair) (v : Value) (hv : Ls w.heap.size w 2 pairC v l) :
    Calls Tryz.prog 26 #[v] w fun e w' => e = .returned (.bool (pairsOk l)) ∧ Below w.heap.size w w' := by
  obtain ⟨ao, cap, rfl, h1, h2, h4⟩ := hv
  unfold maxLen at h2
  have hnil : strB (lastP (l.take 0)) = ⟨#[]⟩ := rfl
  go_enter Tryz.func26, Tryz.ntmps26
  go_wp2_with fail
  go_loopw [8, 3] (fun t u wr => ∃ k : Nat, k ≤ l.length ∧ t = .int .i64 k ∧ u = .string (strB (lastP (l.take k))) ∧ pairsOk (l.take k) = true ∧ Below w.heap.size w wr)
    (fun t _ _ => l.length - (intOf t).toNat)
  case atStart => exact ⟨0, by omega, rfl, rfl, rfl, Below.refl _ _⟩
  case round =>
    obtain ⟨k, hk, rfl, rfl, hok, hb⟩ := hrel
    have HB := hide hb
    have HOK := hide hok
    clear hok
    by_cases hlt : k < l.length
    · obtain ⟨b, off, rfl, hbB, hc⟩ := h4 (by rintro rfl; simp at hlt)
      have c0 := (hb.cell (p := ⟨b, off + k * 2 + 0, none⟩) hbB).trans (hc k hlt 0 _ rfl)
      have c1 := (hb.cell (p := ⟨b, off + k * 2 + 1, none⟩) hbB).trans (hc k hlt 1 _ rfl)
      simp only [Nat.add_zero] at c0
      have hstep := pairsOk_step l k hlt
      have hno := fun h => pairsOk_no (l := l) hlt h
      have hlast := lastP_take l k hlt
      have hnx := fun (h : pairOk (l[k]'hlt) = true) => nextOk_last (l := l) (k := k) h hk
      have HB1 := hide (HB.out.alloc HB.out.size (.cells #[.string (strB l[k].1), .string (strB l[k].2)] 60))
      generalize l[k] = x at *
      have HX := hide (And.intro hstep (And.intro hno (And.intro hlast hnx)))
      have hx2 := strB_size x.2
      have hleq := leq_str 9 x.1 (lastP (l.take k))
      generalize lastP (l.take k) = last at *
      clear hstep hno hlast hnx hc hb
      cases hkey : isKeyB x.1 with
      | false =>
        have HN := hide (HX.out.2.1 (nextOk_no (pairOk_no (.inl hkey))))
        go_wp2_with fail
        refine (pisKey_any _ x.1).mono ?_
        rintro e w1 ⟨rfl, rfl⟩
        rw [hkey]
        go_wp2
        go_ret
        exact ⟨ret_bool HN.out.symm, HB1.out⟩
      | true =>
        by_cases hv : 128 < x.2.length
        · have HN := hide (HX.out.2.1 (nextOk_no (pairOk_no (.inr hv))))
          have hgt : decide ((128 : Int) < (x.2.length : Int)) = true := by simp; omega
          cases hlb : ltB last x.1 with
          | false =>
            rw [hlb] at hleq
            go_wp2_with fail
            refine (pisKey_any _ x.1).mono ?_
            rintro e w1 ⟨rfl, rfl⟩
            rw [hkey]
            go_wp2
            go_ret
            exact ⟨ret_bool HN.out.symm, HB1.out⟩
          | true =>
            rw [hlb] at hleq
            go_wp2_with fail
            refine (pisKey_any _ x.1).mono ?_
            rintro e w1 ⟨rfl, rfl⟩
            rw [hkey]
            go_wp2
            go_ret
            exact ⟨ret_bool HN.out.symm, HB1.out⟩
        · have hpo : pairOk x = true := by unfold pairOk; rw [hkey]; simp; omega
          have hgt : decide ((128 : Int) < (x.2.length : Int)) = false := by simp; omega
          have hnx := HX.out.2.2.2 hpo
          have HPO := hide hpo
          clear hpo
          cases hlb : ltB last x.1 with
          | false =>
            rw [hlb] at hnx hleq
            have HN := hide (HX.out.2.1 hnx)
            clear hnx
            go_wp2_with fail
            refine (pisKey_any _ x.1).mono ?_
            rintro e w1 ⟨rfl, rfl⟩
            rw [hkey]
            go_wp2
            go_ret
            exact ⟨ret_bool HN.out.symm, HB1.out⟩
          | true =>
            rw [hlb] at hnx hleq
            have HN := hide (show pairsOk (l.take (k + 1)) = true by rw [HX.out.1, HOK.out, hnx]; rfl)
            clear hnx
            go_wp2_with fail
            refine (pisKey_any _ x.1).mono ?_
            rintro e w1 ⟨rfl, rfl⟩
            rw [hkey]
            go_wp2
            go_roundw
            case rel => exact ⟨k + 1, by omega, by go_num, by rw [HX.out.2.2.1], HN.out, HB1.out⟩
            case measure => simp [intOf]; omega
    · obtain rfl : k = l.length := by omega
      rw [List.take_length] at HOK
      clear hb
      go_wp2
      go_ret
      exact ⟨ret_bool HOK.out.symm, HB.out⟩
end Go.Proofs.YtimbleaafoiidaaGreatDoor

/-
  Telling a leaf's pairs, telling an error. Conditions: whoever is told keeps its word.
-/
namespace Go.Proofs.YtimbleaafoiidaaGreatDoor
open Go.RowKit
attribute [local go_sem] Oper.semAt_some

/-- What is gone through, as it lies there: the get, the span, whoever is told, the last key that was told. -/
structure GoW (B : Nat) (W : World) (gb : Nat) (gv yv : Value) (lo hi told : Bs) : Prop where
  le : B ≤ gb
  cell : W.heap[gb]? = some (.cells #[gv, .string (strB lo), .string (strB hi), yv, .string (strB told)] 128)
/-- What going itself moves, and gets. -/
abbrev jts : List TypeId := [128, 9, 32]
/-- A block of pairs that moves counts as blocks of pairs that move. -/
theorem Mv.absorb {B : Nat} {ts ts' : List TypeId} {r : Option Nat} {W W' : World} (h : Mv B ts r W W') (hr : ∀ q, r = some q → ∃ cs fr, W.heap[q]? = some (.cells cs 60 fr)) (hp : 60 ∈ ts') (hs : ∀ t ∈ ts, t ∈ ts') : Mv B ts' Option.none W W' :=
  ⟨h.b, fun k cs t fr hk ht _ => h.k k cs t fr hk (fun hm => ht (hs t hm)) (fun e => by
    obtain ⟨cs', fr', hq⟩ := hr k e.symm
    rw [hk] at hq
    injection hq with hq
    injection hq with _ hq
    exact ht (hq ▸ hp))⟩
/-- Whoever is told keeps its word: J of it while it goes on, Jx where it was told an error or said 'no more'. -/
structure YieldOk {σ : Type} (l : Nat) (k : Sink σ) (B : Nat) (sts : List TypeId) (J Jx : Value → σ → World → Prop) : Prop where
  keep : ∀ {v : Value} {s : σ} {W W' : World}, J v s W → Mv B jts Option.none W W' → KO W W' → J v s W'
  row : ∀ {v : Value} {s : σ} {W : World} {q : Nat}, J v s W → v.ownBlock = some q → ∃ cs fr, W.heap[q]? = some (.cells cs 60 fr)
  tell : ∀ (v : Value) (s : σ) (x : Pair) (W : World), J v s W → k.cap s ≤ 1000000 → YieldAt Fence.wide 0 Tryz.prog l #[.agg #[.string (strB x.1), .string (strB x.2)], .int .i64 0] W fun e W' => ∃ v', e = .returned (.bool (k.st s x).2) ∧ Mv B sts v.ownBlock W W' ∧ Nx W v.ownBlock v'.ownBlock ∧ ((k.st s x).2 = true → J v' (k.st s x).1 W') ∧ ((k.st s x).2 = false → Jx v' (k.st s x).1 W')
  fail : ∀ (v : Value) (s : σ) (er : Int) (W : World), J v s W → er ≠ 0 → YieldAt Fence.wide 0 Tryz.prog l #[.agg #[.string ⟨#[]⟩, .string ⟨#[]⟩], .int .i64 er] W fun e W' => ∃ v' b, e = .returned (.bool b) ∧ Mv B sts v.ownBlock W W' ∧ Nx W v.ownBlock v'.ownBlock ∧ Jx v' (k.er s er) W'
  apart : 128 ∉ sts ∧ 60 ∉ sts ∧ 66 ∉ sts ∧ 83 ∉ sts
/-- All that moves. -/
abbrev gts (sts : List TypeId) : List TypeId := 128 :: 9 :: 32 :: sts
theorem gts_sub (sts : List TypeId) : ∀ t ∈ sts, t ∈ gts sts := fun _t h => List.mem_cons_of_mem _ (List.mem_cons_of_mem _ (List.mem_cons_of_mem _ h))
theorem jts_sub (sts : List TypeId) : ∀ t ∈ jts, t ∈ gts sts := by
  intro t h
  simp only [List.mem_cons, List.not_mem_nil, or_false] at h
  rcases h with rfl | rfl | rfl
  · exact List.mem_cons_self
  · exact List.mem_cons_of_mem _ List.mem_cons_self
  · exact List.mem_cons_of_mem _ (List.mem_cons_of_mem _ List.mem_cons_self)
/-- What a call tells: the flag, what whoever is told has come to, what was asked. -/
def ToldSaid {σ : Type} (B : Nat) (sts : List TypeId) (J Jx : Value → σ → World → Prop) (I : World → List Bs → Prop) (gb : Nat) (gv yv : Value) (lo hi : Bs) (v : Value) (W : World) (r : Tst σ × Bool) (e : Ending) (W' : World) : Prop :=
  e = .returned (.bool r.2) ∧ ∃ v', (r.2 = true → J v' r.1.s W') ∧ (r.2 = false → Jx v' r.1.s W') ∧ GoW B W' gb gv yv lo hi r.1.told ∧ I W' r.1.asked ∧ Mv B (gts sts) v.ownBlock W W' ∧ Nx W v.ownBlock v'.ownBlock
set_option maxRecDepth 20000 in
theorem begunAt_any (w : World) (lo hi key : Bs) : Calls Tryz.prog 113 #[.agg #[.string (strB lo), .string (strB hi)], .string (strB key)] w fun e w' => e = .returned (.bool (!ltB key lo)) ∧ Below w.heap.size w w' := by
  have hge := geq_str 9 key lo
  generalize ltB key lo = b at *
  go_enter Tryz.func113, Tryz.ntmps113
  go_wp2
  go_ret
  exact ⟨rfl, (Below.refl _ _).alloc (Nat.le_refl _) _⟩
set_option maxRecDepth 20000 in
theorem endedAt_any (w : World) (lo hi key : Bs) : Calls Tryz.prog 114 #[.agg #[.string (strB lo), .string (strB hi)], .string (strB key)] w fun e w' => e = .returned (.bool (endM hi key)) ∧ Below w.heap.size w w' := by
  have hge := geq_str 9 key hi
  have hem : endM hi key = (!hi.isEmpty && !ltB key hi) := rfl
  rw [hem]
  have tl := toL hi
  have te : (⟨#[]⟩ : ByteArray).toList = [] := toL []
  generalize ltB key hi = b at *
  by_cases h : hi = []
  · subst h
    go_enter Tryz.func114, Tryz.ntmps114
    go_wp2
    go_ret
    exact ⟨rfl, (Below.refl _ _).alloc (Nat.le_refl _) _⟩
  · have hb : (hi == []) = false := by simpa using h
    have hi2 : hi.isEmpty = false := by simpa using h
    rw [hi2]
    go_enter Tryz.func114, Tryz.ntmps114
    go_wp2
    go_ret
    refine ⟨?_, (Below.refl _ _).alloc (Nat.le_refl _) _⟩
    simp
theorem inM_form (lo hi k : Bs) : inM lo hi k = (!ltB k lo && !endM hi k) := by
  unfold inM endM
  cases hi.isEmpty <;> cases ltB k hi <;> simp
set_option maxRecDepth 20000 in
theorem fail_any {σ : Type} (W : World) (l : Nat) (k : Sink σ) (B : Nat) (sts : List TypeId) (J Jx : Value → σ → World → Prop) (hY : YieldOk l k B sts J Jx) (gb : Nat) (gv : Value) (lo hi told : Bs) (v : Value) (s : σ) (er : Int) (her : er ≠ 0) (hJ : J v s W) (hg : GoW B W gb gv (.func (.yield l) #[] #[]) lo hi told) :
    Calls Tryz.prog 87 #[.pointer (some ⟨gb, 0, none⟩), .int .i64 er] W fun e W' => e = .returned (.bool false) ∧ ∃ v', Jx v' (k.er s er) W' ∧ Mv B sts v.ownBlock W W' ∧ Nx W v.ownBlock v'.ownBlock := by
  obtain ⟨fn, tmps, assign, body, hy, hR⟩ := hY.fail v s er W hJ her
  have c3 := cell_of_row W gb 3 _ _ _ hg.cell
  simp only [List.getElem?_toArray, List.getElem?_cons_zero, List.getElem?_cons_succ] at c3
  refine (callsIn_wide (n := 0)).1 ?_
  refine callsIn_of_wp Tryz.func87 rfl trivial ?_ rfl
  simp only [Tryz.ntmps87, List.size_toArray, List.length_cons, List.length_nil, Nat.reduceAdd, Nat.reduceSub, Array.replicate_succ, Array.replicate_zero, List.push_toArray, List.append_toArray, List.nil_append, List.cons_append]
  clear hJ hg
  gi_wp2
  refine ⟨rfl, hR.mono ?_⟩
  rintro e W3 ⟨v', b, rfl, h1, h2, h3⟩
  have H := hide (And.intro h1 (And.intro h2 h3))
  clear h1 h2 h3 hR hy
  gi_wp2
  go_ret
  exact ⟨rfl, v', H.out.2.2, H.out.1, H.out.2.1⟩
end Go.Proofs.YtimbleaafoiidaaGreatDoor

/-
  Telling a leaf's pairs, one by one. Conditions: whoever is told keeps its word; the pairs stay where they lie.
-/
namespace Go.Proofs.YtimbleaafoiidaaGreatDoor
open Go.RowKit
attribute [local go_sem] Oper.semAt_some

theorem GoW.mv {B : Nat} {W W' : World} {gb : Nat} {gv yv : Value} {lo hi told : Bs} {ts : List TypeId} {r : Option Nat} (h : GoW B W gb gv yv lo hi told) (hm : Mv B ts r W W') (h1 : 128 ∉ ts) (h2 : some gb ≠ r) : GoW B W' gb gv yv lo hi told := ⟨h.le, hm.k _ _ _ _ h.cell h1 h2⟩
theorem GoW.below {B : Nat} {W W' : World} {gb : Nat} {gv yv : Value} {lo hi told : Bs} (h : GoW B W gb gv yv lo hi told) (hb : Below W.heap.size W W') : GoW B W' gb gv yv lo hi told := ⟨h.le, (hb.block _ (lt_of_heap h.cell)).trans h.cell⟩
theorem heap_setTold {w : World} {g : Nat} {v0 v1 v2 v3 v4 u : Value} {t : TypeId} (h : w.heap[g]? = some (.cells #[v0, v1, v2, v3, v4] t)) : (w.setCell ⟨g, 4, none⟩ u).heap[g]? = some (.cells #[v0, v1, v2, v3, u] t) := by
  rw [heap_setCell _ _ _ _ _ _ _ h]
  simp
theorem YieldOk.ne {σ : Type} {l : Nat} {k : Sink σ} {B : Nat} {sts : List TypeId} {J Jx : Value → σ → World → Prop} (hY : YieldOk l k B sts J Jx) {v : Value} {s : σ} {W : World} (hJ : J v s W) {gb : Nat} {gv yv : Value} {lo hi told : Bs} (h : GoW B W gb gv yv lo hi told) : some gb ≠ v.ownBlock := by
  intro e
  obtain ⟨cs, fr, hq⟩ := hY.row hJ e.symm
  rw [h.cell] at hq
  injection hq with hq
  injection hq with _ hq
  exact absurd hq (by decide)
theorem tellT_nil {σ : Type} (k : Sink σ) (lo hi : Bs) (t : Tst σ) : tellT k lo hi [] t = (t, true) := rfl
theorem tellT_out {σ : Type} {k : Sink σ} {lo hi : Bs} {x : Pair} {r : List Pair} {t : Tst σ} (h : inM lo hi x.1 = false) : tellT k lo hi (x :: r) t = tellT k lo hi r t := by rw [tellT, h]; rfl
theorem tellT_back {σ : Type} {k : Sink σ} {lo hi : Bs} {x : Pair} {r : List Pair} {t : Tst σ} (h : inM lo hi x.1 = true) (h2 : ltB t.told x.1 = false) : tellT k lo hi (x :: r) t = (⟨t.asked, t.told, k.er t.s 122⟩, false) := by rw [tellT, h, h2]; rfl
theorem tellT_on {σ : Type} {k : Sink σ} {lo hi : Bs} {x : Pair} {r : List Pair} {t : Tst σ} (h : inM lo hi x.1 = true) (h2 : ltB t.told x.1 = true) (h3 : (k.st t.s x).2 = true) : tellT k lo hi (x :: r) t = tellT k lo hi r ⟨t.asked, x.1, (k.st t.s x).1⟩ := by rw [tellT, h, h2, h3]; rfl
theorem tellT_stop {σ : Type} {k : Sink σ} {lo hi : Bs} {x : Pair} {r : List Pair} {t : Tst σ} (h : inM lo hi x.1 = true) (h2 : ltB t.told x.1 = true) (h3 : (k.st t.s x).2 = false) : tellT k lo hi (x :: r) t = (⟨t.asked, x.1, (k.st t.s x).1⟩, false) := by rw [tellT, h, h2, h3]; rfl
set_option maxRecDepth 40000 in
set_option maxHeartbeats 3200000 in
theorem tellPairs_any {σ : Type} (W : World) (l : Nat) (k : Sink σ) (B : Nat) (sts kts : List TypeId) (J Jx : Value → σ → World → Prop) (hY : YieldOk l k B sts J Jx) (I : World → List Bs → Prop) (hIm : ∀ {W W' : World} {a : List Bs}, I W a → Mv B kts none W W' → I W' a) (hkt : 60 ∈ kts ∧ 128 ∈ kts ∧ ∀ t ∈ sts, t ∈ kts)
    (gb : Nat) (gv : Value) (lo hi : Bs) (v : Value) (t : Tst σ) (hJ : J v t.s W) (hg : GoW B W gb gv (.func (.yield l) #[] #[]) lo hi t.told) (hI : I W t.asked) (vp : Value) (ps : List Pair) (hsure : ∀ W', Mv B (gts sts) v.ownBlock W W' → Ls W'.heap.size W' 2 pairC vp ps) (hcap : k.cap t.s + ps.length ≤ 1000000) :
    Calls Tryz.prog 88 #[.pointer (some ⟨gb, 0, none⟩), vp] W fun e W' => ToldSaid B sts J Jx I gb gv (.func (.yield l) #[] #[]) lo hi v W (tellT k lo hi ps t) e W' := by
  have hB : B ≤ W.heap.size := by have := lt_of_heap hg.cell; have := hg.le; omega
  obtain ⟨R, hR⟩ : ∃ R, R = tellT k lo hi ps t := ⟨_, rfl⟩
  rw [← hR]
  obtain ⟨pa, pc, rfl, -, hpc⟩ := ls_none (hsure W (Mv.refl _ _ _ _))
  unfold maxLen at hpc
  have HS := hide hsure
  have H0 := hide (And.intro hR (And.intro hJ (And.intro hg (And.intro hI hcap))))
  have hlen : ps.length ≤ 1000000 := by omega
  clear hR hJ hg hI hsure hcap
  go_enter Tryz.func88, Tryz.ntmps88
  go_wp2_with fail
  go_loopw [9] (fun q wr => ∃ (j : Nat) (v' : Value) (u : Tst σ), j ≤ ps.length ∧ q = .int .i64 j ∧ R = tellT k lo hi (ps.drop j) u ∧ J v' u.s wr ∧ GoW B wr gb gv (.func (.yield l) #[] #[]) lo hi u.told ∧ I wr u.asked ∧ Mv B (gts sts) v.ownBlock W wr ∧ Nx W v.ownBlock v'.ownBlock ∧ k.cap u.s + (ps.length - j) ≤ 1000000)
    (fun q _ => ps.length - (intOf q).toNat)
  case atStart => exact ⟨0, v, t, by omega, rfl, by simpa using H0.out.1, H0.out.2.1, H0.out.2.2.1, H0.out.2.2.2.1, Mv.refl _ _ _ _, Nx.refl _ _, by simpa using H0.out.2.2.2.2⟩
  case round =>
    clear H0
    obtain ⟨j, v', u, hj, rfl, hRj, hJr, hgr, hIr, hMr, hNr, hcr⟩ := hrel
    have hBr : B ≤ wr.heap.size := Nat.le_trans hB hMr.size
    by_cases hlt : j < ps.length
    · obtain ⟨ao', cap', hvv, -, -, hc4⟩ := HS.out wr hMr
      obtain ⟨b, off, hao, hbB, hc⟩ := hc4 (by rintro rfl; simp at hlt)
      injection hvv with e1 _ e3
      subst e3
      rw [hao] at e1
      subst e1
      have d0 := hc j hlt 0 _ rfl
      have d1 := hc j hlt 1 _ rfl
      simp only [Nat.add_zero] at d0
      rw [List.drop_eq_getElem_cons hlt] at hRj
      generalize ps[j] = x at *
      have hb1 : Below wr.heap.size wr (wr.alloc (.cells #[.string (strB x.1), .string (strB x.2)] 60)) := (Below.refl _ _).alloc (Nat.le_refl _) _
      have hx1 := heap_last wr (.cells #[.string (strB x.1), .string (strB x.2)] 60) _ rfl
      have hg1 := hgr.below hb1
      have hJ1 := hY.keep hJr (Mv.of hb1 hBr) (KO.of hb1)
      have hI1 := hIm hIr (Mv.of hb1 hBr)
      have hM1 := hMr.more hb1 hBr
      have hs1 : B ≤ (wr.alloc (.cells #[.string (strB x.1), .string (strB x.2)] 60)).heap.size := Nat.le_trans hBr hb1.size
      generalize hw1 : wr.alloc (.cells #[.string (strB x.1), .string (strB x.2)] 60) = w1 at *
      have g1 := cell_of_row w1 gb 1 _ _ _ hg1.cell
      have g2 := cell_of_row w1 gb 2 _ _ _ hg1.cell
      have p0 := cell_of_row w1 wr.heap.size 0 _ _ _ hx1
      simp only [List.getElem?_toArray, List.getElem?_cons_zero, List.getElem?_cons_succ] at g1 g2 p0
      have H1 := hide (And.intro hx1 (And.intro hg1 (And.intro hJ1 (And.intro hI1 hM1))))
      have HRJ := hide hRj
      clear hJr hgr hIr hMr hc hc4 hb1 hx1 hg1 hJ1 hI1 hM1 hRj hao
      have hnext : ∀ (v2 : Value) (u2 : Tst σ) (W2 : World), R = tellT k lo hi (ps.drop (j + 1)) u2 → J v2 u2.s W2 → GoW B W2 gb gv (.func (.yield l) #[] #[]) lo hi u2.told → I W2 u2.asked → Mv B (gts sts) v.ownBlock W W2 → Nx W v.ownBlock v2.ownBlock → k.cap u2.s ≤ k.cap u.s + 1 → ∃ (j' : Nat) (v3 : Value) (u3 : Tst σ), j' ≤ ps.length ∧ (Value.int .i64 ((j : Int) + 1)) = .int .i64 j' ∧ R = tellT k lo hi (ps.drop j') u3 ∧ J v3 u3.s W2 ∧ GoW B W2 gb gv (.func (.yield l) #[] #[]) lo hi u3.told ∧ I W2 u3.asked ∧ Mv B (gts sts) v.ownBlock W W2 ∧ Nx W v.ownBlock v3.ownBlock ∧ k.cap u3.s + (ps.length - j') ≤ 1000000 := fun v2 u2 W2 h1 h2 h3 h4 h5 h6 h7 => ⟨j + 1, v2, u2, by omega, by simp, h1, h2, h3, h4, h5, h6, by omega⟩
      have HNX := hide hnext
      clear hnext
      have hbg := begunAt_any w1.drew lo hi x.1
      cases hlo : ltB x.1 lo with
      | true =>
        rw [hlo] at hbg
        simp only [Bool.not_true] at hbg
        have HR2 := hide (HRJ.out.trans (tellT_out (by rw [inM_form, hlo]; rfl)))
        go_wp2_with fail
        refine wp_region_held_drew (S := fun Z => Z.cell? ⟨gb, 1, none⟩ = some (.string (strB lo)) ∧ Z.cell? ⟨gb, 2, none⟩ = some (.string (strB hi)) ∧ Z.cell? ⟨wr.heap.size, 0, none⟩ = some (.string (strB x.1))) (by kernel_rfl) (⟨g1, g2, p0⟩) (fun hHeld => ?_)
        refine takeK 0 hHeld ?_
        refine takeK 1 hHeld ?_
        refine takeK 2 hHeld ?_
        refine takeK 3 hHeld ?_
        refine takeK 4 hHeld ?_
        refine takeK 5 hHeld ?_
        refine onlyH (i := 6) rfl (by kernel_rfl) rfl (fun K hK => ?_)
        go_simp
        refine hbg.mono ?_
        rintro e w2 ⟨rfl, hb2⟩
        have hb2' : Below w1.heap.size w1 w2 := (Below.refl _ _).drew.trans hb2
        have hx2 := (hb2'.block _ (lt_of_heap H1.out.1)).trans H1.out.1
        have hg2 := H1.out.2.1.below hb2'
        have k1 := cell_of_row w2 gb 1 _ _ _ hg2.cell
        have k2 := cell_of_row w2 gb 2 _ _ _ hg2.cell
        have q0 := cell_of_row w2 wr.heap.size 0 _ _ _ hx2
        simp only [List.getElem?_toArray, List.getElem?_cons_zero, List.getElem?_cons_succ] at k1 k2 q0
        have H2 := hide (And.intro hg2 (And.intro (hY.keep H1.out.2.2.1 (Mv.of hb2' hs1) (KO.of hb2')) (And.intro (hIm H1.out.2.2.2.1 (Mv.of hb2' hs1)) (H1.out.2.2.2.2.more hb2' hs1))))
        clear hb2 hb2' hx2 hg2 hbg
        refine hK.out _ _ (⟨k1, k2, q0⟩) (fun hHeld => ?_)
        clear hK K
        try simp only [Act.put, List.setIfInBounds_toArray, List.set_cons_zero, List.set_cons_succ]
        refine takeK 7 hHeld ?_
        refine takeK 8 hHeld ?_
        refine skipK 9 hHeld ?_
        refine skipK 10 hHeld ?_
        refine skipK 11 hHeld ?_
        refine skipK 12 hHeld ?_
        refine skipK 13 hHeld ?_
        refine skipK 14 hHeld ?_
        refine skipK 15 hHeld ?_
        refine takeK 16 hHeld ?_
        refine wpAnyH_done (by kernel_rfl) ?_ _
        clear hHeld
        have HREL := hide (HNX.out v' u w2 HR2.out H2.out.2.1 H2.out.1 H2.out.2.2.1 H2.out.2.2.2 hNr (by omega))
        go_wp2
        go_roundw
        case rel => exact HREL.out
        case measure => simp [intOf]; omega
      | false =>
        rw [hlo] at hbg
        simp only [Bool.not_false] at hbg
        go_wp2_with fail
        refine wp_region_held_drew (S := fun Z => Z.cell? ⟨gb, 1, none⟩ = some (.string (strB lo)) ∧ Z.cell? ⟨gb, 2, none⟩ = some (.string (strB hi)) ∧ Z.cell? ⟨wr.heap.size, 0, none⟩ = some (.string (strB x.1))) (by kernel_rfl) (⟨g1, g2, p0⟩) (fun hHeld => ?_)
        refine takeK 0 hHeld ?_
        refine takeK 1 hHeld ?_
        refine takeK 2 hHeld ?_
        refine takeK 3 hHeld ?_
        refine takeK 4 hHeld ?_
        refine takeK 5 hHeld ?_
        refine onlyH (i := 6) rfl (by kernel_rfl) rfl (fun K hK => ?_)
        go_simp
        refine hbg.mono ?_
        rintro e w2 ⟨rfl, hb2⟩
        have hb2' : Below w1.heap.size w1 w2 := (Below.refl _ _).drew.trans hb2
        have hx2 := (hb2'.block _ (lt_of_heap H1.out.1)).trans H1.out.1
        have hg2 := H1.out.2.1.below hb2'
        have k1 := cell_of_row w2 gb 1 _ _ _ hg2.cell
        have k2 := cell_of_row w2 gb 2 _ _ _ hg2.cell
        have q0 := cell_of_row w2 wr.heap.size 0 _ _ _ hx2
        simp only [List.getElem?_toArray, List.getElem?_cons_zero, List.getElem?_cons_succ] at k1 k2 q0
        have hen := endedAt_any w2 lo hi x.1
        have HB2 := hide hb2'
        clear hb2 hb2' hx2 hg2 hbg g1 g2 p0
        refine hK.out _ _ (⟨k1, k2, q0⟩) (fun hHeld => ?_)
        clear hK K
        try simp only [Act.put, List.setIfInBounds_toArray, List.set_cons_zero, List.set_cons_succ]
        refine takeK 7 hHeld ?_
        refine takeK 8 hHeld ?_
        refine takeK 9 hHeld ?_
        refine takeK 10 hHeld ?_
        refine takeK 11 hHeld ?_
        refine takeK 12 hHeld ?_
        refine takeK 13 hHeld ?_
        refine takeK 14 hHeld ?_
        refine onlyH (i := 15) rfl (by kernel_rfl) rfl (fun K hK => ?_)
        go_simp
        refine hen.mono ?_
        rintro e w3 ⟨rfl, hb3⟩
        have hb3' : Below w1.heap.size w1 w3 := HB2.out.trans (hb3.mono HB2.out.size)
        have hx3 := (hb3'.block _ (lt_of_heap H1.out.1)).trans H1.out.1
        have hg3 := H1.out.2.1.below hb3'
        have hJ3 := hY.keep H1.out.2.2.1 (Mv.of hb3' hs1) (KO.of hb3')
        have hI3 := hIm H1.out.2.2.2.1 (Mv.of hb3' hs1)
        have hM3 := H1.out.2.2.2.2.more hb3' hs1
        have hs3 : B ≤ w3.heap.size := Nat.le_trans hs1 hb3'.size
        have k1 := cell_of_row w3 gb 1 _ _ _ hg3.cell
        have k2 := cell_of_row w3 gb 2 _ _ _ hg3.cell
        have k4 := cell_of_row w3 gb 4 _ _ _ hg3.cell
        have q0 := cell_of_row w3 wr.heap.size 0 _ _ _ hx3
        have q1 := cell_of_row w3 wr.heap.size 1 _ _ _ hx3
        simp only [List.getElem?_toArray, List.getElem?_cons_zero, List.getElem?_cons_succ] at k1 k2 k4 q0 q1
        have H3 := hide (And.intro hx3 (And.intro hg3 (And.intro hJ3 (And.intro hI3 hM3))))
        clear hb3 hb3' hx3 hg3 hJ3 hI3 hM3 hen HB2 H1
        cases hed : endM hi x.1 with
        | true =>
          have HR2 := hide (HRJ.out.trans (tellT_out (by rw [inM_form, hlo, hed]; rfl)))
          refine hK.out _ _ (⟨k1, k2, q0⟩) (fun hHeld => ?_)
          clear hK K
          try simp only [Act.put, List.setIfInBounds_toArray, List.set_cons_zero, List.set_cons_succ]
          refine takeK 16 hHeld ?_
          refine wpAnyH_done (by kernel_rfl) ?_ _
          clear hHeld
          have HREL := hide (HNX.out v' u w3 HR2.out H3.out.2.2.1 H3.out.2.1 H3.out.2.2.2.1 H3.out.2.2.2.2 hNr (by omega))
          go_wp2
          go_roundw
          case rel => exact HREL.out
          case measure => simp [intOf]; omega
        | false =>
          have hin : inM lo hi x.1 = true := by rw [inM_form, hlo, hed]; rfl
          refine hK.out _ _ (⟨k1, k2, q0⟩) (fun hHeld => ?_)
          clear hK K
          try simp only [Act.put, List.setIfInBounds_toArray, List.set_cons_zero, List.set_cons_succ]
          refine takeK 16 hHeld ?_
          refine wpAnyH_done (by kernel_rfl) ?_ _
          clear hHeld k1 k2
          have hleq := leq_str 9 x.1 u.told
          have HIN := hide hin
          clear hin
          go_wp2_with fail
          refine wp_region_held_drew (S := fun Z => Z.cell? ⟨wr.heap.size, 0, none⟩ = some (.string (strB x.1)) ∧ Z.cell? ⟨gb, 4, none⟩ = some (.string (strB u.told))) (by kernel_rfl) (⟨q0, k4⟩) (fun hHeld => ?_)
          refine takeK 0 hHeld ?_
          refine takeK 1 hHeld ?_
          refine takeK 2 hHeld ?_
          refine takeK 3 hHeld ?_
          refine takeK 4 hHeld ?_
          refine takeK 5 hHeld ?_
          refine takeK 6 hHeld ?_
          refine wpAnyH_done (by kernel_rfl) ?_ _
          clear hHeld
          cases htb : ltB u.told x.1 with
          | false =>
            rw [htb] at hleq
            have HRB := hide (HRJ.out.trans (tellT_back HIN.out htb))
            have hgd : GoW B w3.drew gb gv (.func (.yield l) #[] #[]) lo hi u.told := ⟨H3.out.2.1.le, H3.out.2.1.cell⟩
            have hfa := fail_any w3.drew l k B sts J Jx hY gb gv lo hi u.told v' u.s 122 (by decide) (hY.keep H3.out.2.2.1 ((Mv.refl _ _ _ _).drew) ((KO.refl _).drew)) hgd
            clear hgd
            go_wp2_with fail
            refine hfa.mono ?_
            rintro e w4 ⟨rfl, v4, hJx, hM4, hN4⟩
            have hI4 := hIm H3.out.2.2.2.1 ((Mv.refl B kts none w3).drew.trans (hM4.absorb (fun q hq => hY.row (hY.keep H3.out.2.2.1 ((Mv.refl _ _ _ _).drew) ((KO.refl _).drew)) hq) hkt.1 hkt.2.2) (Nx.refl _ _))
            have hMM : Mv B (gts sts) v.ownBlock W w4 := (H3.out.2.2.2.2.drew).trans (hM4.types (gts_sub sts)) hNr
            have hNN : Nx W v.ownBlock v4.ownBlock := hNr.trans hN4 (by have := H3.out.2.2.2.2.size; exact this)
            have hG4 := (show GoW B w3.drew gb gv (.func (.yield l) #[] #[]) lo hi u.told from ⟨H3.out.2.1.le, H3.out.2.1.cell⟩).mv hM4 hY.apart.1 (hY.ne H3.out.2.2.1 H3.out.2.1)
            have HF := hide (And.intro hJx (And.intro hI4 (And.intro hMM (And.intro hNN hG4))))
            clear hfa hJx hM4 hN4 hI4 hMM hNN hG4
            go_wp2
            go_ret
            rw [HRB.out]
            exact ⟨rfl, v4, fun h => (by cases h), fun _ => HF.out.1, HF.out.2.2.2.2, HF.out.2.1, HF.out.2.2.1, HF.out.2.2.2.1⟩
          | true =>
            rw [htb] at hleq
            have f4 := frozen0 (j := 4) H3.out.2.1.cell
            have hg4 := heap_setTold (u := .string (strB x.1)) H3.out.2.1.cell
            have hne : wr.heap.size ≠ gb := ne_type H3.out.1 H3.out.2.1.cell (by decide)
            have hx4 : (w3.setCell ⟨gb, 4, none⟩ (.string (strB x.1))).heap[wr.heap.size]? = _ := (heap_setOther hne).trans H3.out.1
            have hmJ : Mv B jts none w3 (w3.setCell ⟨gb, 4, none⟩ (.string (strB x.1))) := (Mv.refl _ _ _ _).set H3.out.2.1.cell (by decide) H3.out.2.1.le _
            have hmK : Mv B kts none w3 (w3.setCell ⟨gb, 4, none⟩ (.string (strB x.1))) := (Mv.refl _ _ _ _).set H3.out.2.1.cell hkt.2.1 H3.out.2.1.le _
            have hJ4 := hY.keep H3.out.2.2.1 hmJ ((KO.refl _).set H3.out.2.1.cell _)
            have hI4 := hIm H3.out.2.2.2.1 hmK
            have hM4 : Mv B (gts sts) v.ownBlock W (w3.setCell ⟨gb, 4, none⟩ (.string (strB x.1))) := H3.out.2.2.2.2.set H3.out.2.1.cell (by simp) H3.out.2.1.le _
            have hG4 : GoW B (w3.setCell ⟨gb, 4, none⟩ (.string (strB x.1))) gb gv (.func (.yield l) #[] #[]) lo hi x.1 := ⟨H3.out.2.1.le, hg4⟩
            have H4 := hide (And.intro hx4 (And.intro hG4 (And.intro hJ4 (And.intro hI4 hM4))))
            clear hg4 hne hx4 hmJ hmK hJ4 hI4 hM4 hG4
            generalize hw4 : w3.setCell ⟨gb, 4, none⟩ (.string (strB x.1)) = w4 at *
            have y3 := cell_of_row w4 gb 3 _ _ _ H4.out.2.1.cell
            have x0 := cell_of_row w4 wr.heap.size 0 _ _ _ H4.out.1
            have x1 := cell_of_row w4 wr.heap.size 1 _ _ _ H4.out.1
            simp only [List.getElem?_toArray, List.getElem?_cons_zero, List.getElem?_cons_succ] at y3 x0 x1
            have hJd := hY.keep H4.out.2.2.1 ((Mv.refl B jts none w4).drew.drew) ((KO.refl _).drew.drew)
            obtain ⟨fn, tmps, assign, body, hy, hRd⟩ := hY.tell v' u.s x w4.drew.drew hJd (by omega)
            have HRD := hide hRd
            have HJD := hide hJd
            clear hRd hJd
            go_wp2_with fail
            refine startIn (by kernel_rfl) ?_
            refine takeIn (i := 0) (v := ?_) rfl (by kernel_rfl) (by kernel_rfl) (by kernel_rfl) (fun _ _ _ h => h) rfl (fun _ => rfl) ?_ ?_
            rotate_left
            · intro w; go_simp; first | done | (with_reducible rfl)
            try simp only [Act.put, List.setIfInBounds_toArray, List.set_cons_zero, List.set_cons_succ]
            refine takeIn (i := 1) (v := ?_) rfl (by kernel_rfl) (by kernel_rfl) (by kernel_rfl) (fun _ _ _ h => h) rfl (fun _ => rfl) ?_ ?_
            rotate_left
            · intro w; go_simp; first | done | (with_reducible rfl)
            try simp only [Act.put, List.setIfInBounds_toArray, List.set_cons_zero, List.set_cons_succ]
            refine takeIn (i := 2) (v := ?_) rfl (by kernel_rfl) (by kernel_rfl) (by kernel_rfl) (fun _ _ _ h => h) rfl (fun _ => rfl) ?_ ?_
            rotate_left
            · intro w; go_simp; first | done | (with_reducible rfl)
            try simp only [Act.put, List.setIfInBounds_toArray, List.set_cons_zero, List.set_cons_succ]
            refine twoIn (i := 3) (j := 4) rfl rfl (by kernel_rfl) rfl rfl ?_ ?_
            · skip
              refine valW (v := ?_) ?_ ?_
              rotate_left
              · go_simp; first | done | (with_reducible rfl)
              try simp only [Act.put, List.setIfInBounds_toArray, List.set_cons_zero, List.set_cons_succ]
              refine onlyIn (i := 4) rfl (by kernel_rfl) rfl ?_
              refine valW (v := ?_) ?_ ?_
              rotate_left
              · go_simp; first | done | (with_reducible rfl)
              try simp only [Act.put, List.setIfInBounds_toArray, List.set_cons_zero, List.set_cons_succ]
              refine onlyIn (i := 5) rfl (by kernel_rfl) rfl ?_
              refine roundW (k := l) (f := fn) (tmps := tmps) (assign := assign) (body := body) ?_ HRD.out ?_
              · go_simp; first | done | (with_reducible rfl)
              rintro e w5 ⟨v5, rfl, hM5, hN5, hJ5, hJx5⟩
              refine ⟨_, rfl, ?_⟩
              try simp only [Act.put, List.setIfInBounds_toArray, List.set_cons_zero, List.set_cons_succ]
              obtain ⟨fl, hfl⟩ : ∃ fl, fl = (k.st u.s x).2 := ⟨_, rfl⟩
              rw [← hfl] at hJ5 hJx5 ⊢
              have hI5 := hIm H4.out.2.2.2.1 ((Mv.refl B kts none w4).drew.drew.trans (hM5.absorb (fun q hq => hY.row HJD.out hq) hkt.1 hkt.2.2) (Nx.refl _ _))
              have hMM : Mv B (gts sts) v.ownBlock W w5 := (H4.out.2.2.2.2.drew.drew).trans (hM5.types (gts_sub sts)) hNr
              have hNN : Nx W v.ownBlock v5.ownBlock := hNr.trans hN5 (by have := H4.out.2.2.2.2.size; exact this)
              have hG5 := (show GoW B w4.drew.drew gb gv (.func (.yield l) #[] #[]) lo hi x.1 from ⟨H4.out.2.1.le, H4.out.2.1.cell⟩).mv hM5 hY.apart.1 (hY.ne HJD.out (show GoW B w4.drew.drew gb gv (.func (.yield l) #[] #[]) lo hi x.1 from ⟨H4.out.2.1.le, H4.out.2.1.cell⟩))
              have HF := hide (And.intro hJ5 (And.intro hJx5 (And.intro hI5 (And.intro hMM (And.intro hNN hG5)))))
              have HFL := hide hfl
              clear hM5 hN5 hJ5 hJx5 hI5 hMM hNN hG5 hfl y3 x0 x1 hy q0 q1 k4
              cases fl with
              | true =>
                refine takeIn (i := 6) (v := ?_) rfl (by kernel_rfl) (by kernel_rfl) (by kernel_rfl) (fun _ _ _ h => h) rfl (fun _ => rfl) ?_ ?_
                rotate_left
                · intro w; go_simp; first | done | (with_reducible rfl)
                try simp only [Act.put, List.setIfInBounds_toArray, List.set_cons_zero, List.set_cons_succ]
                refine wpAnyIn_done (by kernel_rfl) ?_ _
                have HREL := hide (HNX.out v5 ⟨u.asked, x.1, (k.st u.s x).1⟩ w5 (HRJ.out.trans (tellT_on HIN.out htb HFL.out.symm)) (HF.out.1 rfl) HF.out.2.2.2.2.2 HF.out.2.2.1 HF.out.2.2.2.1 HF.out.2.2.2.2.1 (k.grows _ _))
                go_wp2
                go_roundw
                case rel => exact HREL.out
                case measure => simp [intOf]; omega
              | false =>
                refine takeIn (i := 6) (v := ?_) rfl (by kernel_rfl) (by kernel_rfl) (by kernel_rfl) (fun _ _ _ h => h) rfl (fun _ => rfl) ?_ ?_
                rotate_left
                · intro w; go_simp; first | done | (with_reducible rfl)
                try simp only [Act.put, List.setIfInBounds_toArray, List.set_cons_zero, List.set_cons_succ]
                refine wpAnyIn_done (by kernel_rfl) ?_ _
                have HRB := hide (HRJ.out.trans (tellT_stop HIN.out htb HFL.out.symm))
                go_wp2
                go_ret
                rw [HRB.out]
                exact ⟨rfl, v5, fun h => (by cases h), fun _ => HF.out.2.1 trivial, HF.out.2.2.2.2.2, HF.out.2.2.1, HF.out.2.2.2.1, HF.out.2.2.2.2.1⟩
            · skip
              refine valW (v := ?_) ?_ ?_
              rotate_left
              · go_simp; first | done | (with_reducible rfl)
              try simp only [Act.put, List.setIfInBounds_toArray, List.set_cons_zero, List.set_cons_succ]
              refine onlyIn (i := 3) rfl (by kernel_rfl) rfl ?_
              refine valW (v := ?_) ?_ ?_
              rotate_left
              · go_simp; first | done | (with_reducible rfl)
              try simp only [Act.put, List.setIfInBounds_toArray, List.set_cons_zero, List.set_cons_succ]
              refine onlyIn (i := 5) rfl (by kernel_rfl) rfl ?_
              refine roundW (k := l) (f := fn) (tmps := tmps) (assign := assign) (body := body) ?_ HRD.out ?_
              · go_simp; first | done | (with_reducible rfl)
              rintro e w5 ⟨v5, rfl, hM5, hN5, hJ5, hJx5⟩
              refine ⟨_, rfl, ?_⟩
              try simp only [Act.put, List.setIfInBounds_toArray, List.set_cons_zero, List.set_cons_succ]
              obtain ⟨fl, hfl⟩ : ∃ fl, fl = (k.st u.s x).2 := ⟨_, rfl⟩
              rw [← hfl] at hJ5 hJx5 ⊢
              have hI5 := hIm H4.out.2.2.2.1 ((Mv.refl B kts none w4).drew.drew.trans (hM5.absorb (fun q hq => hY.row HJD.out hq) hkt.1 hkt.2.2) (Nx.refl _ _))
              have hMM : Mv B (gts sts) v.ownBlock W w5 := (H4.out.2.2.2.2.drew.drew).trans (hM5.types (gts_sub sts)) hNr
              have hNN : Nx W v.ownBlock v5.ownBlock := hNr.trans hN5 (by have := H4.out.2.2.2.2.size; exact this)
              have hG5 := (show GoW B w4.drew.drew gb gv (.func (.yield l) #[] #[]) lo hi x.1 from ⟨H4.out.2.1.le, H4.out.2.1.cell⟩).mv hM5 hY.apart.1 (hY.ne HJD.out (show GoW B w4.drew.drew gb gv (.func (.yield l) #[] #[]) lo hi x.1 from ⟨H4.out.2.1.le, H4.out.2.1.cell⟩))
              have HF := hide (And.intro hJ5 (And.intro hJx5 (And.intro hI5 (And.intro hMM (And.intro hNN hG5)))))
              have HFL := hide hfl
              clear hM5 hN5 hJ5 hJx5 hI5 hMM hNN hG5 hfl y3 x0 x1 hy q0 q1 k4
              cases fl with
              | true =>
                refine takeIn (i := 6) (v := ?_) rfl (by kernel_rfl) (by kernel_rfl) (by kernel_rfl) (fun _ _ _ h => h) rfl (fun _ => rfl) ?_ ?_
                rotate_left
                · intro w; go_simp; first | done | (with_reducible rfl)
                try simp only [Act.put, List.setIfInBounds_toArray, List.set_cons_zero, List.set_cons_succ]
                refine wpAnyIn_done (by kernel_rfl) ?_ _
                have HREL := hide (HNX.out v5 ⟨u.asked, x.1, (k.st u.s x).1⟩ w5 (HRJ.out.trans (tellT_on HIN.out htb HFL.out.symm)) (HF.out.1 rfl) HF.out.2.2.2.2.2 HF.out.2.2.1 HF.out.2.2.2.1 HF.out.2.2.2.2.1 (k.grows _ _))
                go_wp2
                go_roundw
                case rel => exact HREL.out
                case measure => simp [intOf]; omega
              | false =>
                refine takeIn (i := 6) (v := ?_) rfl (by kernel_rfl) (by kernel_rfl) (by kernel_rfl) (fun _ _ _ h => h) rfl (fun _ => rfl) ?_ ?_
                rotate_left
                · intro w; go_simp; first | done | (with_reducible rfl)
                try simp only [Act.put, List.setIfInBounds_toArray, List.set_cons_zero, List.set_cons_succ]
                refine wpAnyIn_done (by kernel_rfl) ?_ _
                have HRB := hide (HRJ.out.trans (tellT_stop HIN.out htb HFL.out.symm))
                go_wp2
                go_ret
                rw [HRB.out]
                exact ⟨rfl, v5, fun h => (by cases h), fun _ => HF.out.2.1 trivial, HF.out.2.2.2.2.2, HF.out.2.2.1, HF.out.2.2.2.1, HF.out.2.2.2.2.1⟩
    · obtain rfl : j = ps.length := by omega
      rw [List.drop_length, tellT_nil] at hRj
      have HF := hide (And.intro hRj (And.intro hJr (And.intro hgr (And.intro hIr (And.intro hMr hNr)))))
      clear hRj hJr hgr hIr hMr hNr
      go_wp2
      go_ret
      rw [HF.out.1]
      exact ⟨rfl, v', fun _ => HF.out.2.1, fun h => (by cases h), HF.out.2.2.1, HF.out.2.2.2.1, HF.out.2.2.2.2.1, HF.out.2.2.2.2.2⟩
end Go.Proofs.YtimbleaafoiidaaGreatDoor
