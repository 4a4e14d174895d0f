/-
  Texts joined: BRise, BRead, BRef0.
-/
import Derived.Test.YtokebnkgjchfaaaGreatDoorS27BBuild2
import Derived.Test.YtokebnkgjchfaaaGreatDoorS25BGo
import Derived.Test.YtokebnkgjchfaaaGreatDoorS11WRefTake
import Derived.Laws.EntriesVeiled
import Derived.Test.YtokebnkgjchfaaaGreatDoorS17ORTakeC
/-
  Groups, gathered one part at a time; objects, each id once. No program here.
-/
namespace Go.Proofs.YtokebnkgjchfaaaGreatDoor
open Go.RowKit

theorem gFrom_before (e : Nat → Bool) (most : Nat) : ∀ (d n : Nat), most - n = d → ∀ m, n ≤ m → m < gFrom e most n → e m = false := by
  intro d
  induction d with
  | zero =>
    intro n hd m h1 h2
    rw [gFrom_end (by omega)] at h2
    omega
  | succ d ih =>
    intro n hd m h1 h2
    have hlt : n < most := by omega
    cases he : e n with
    | true => rw [gFrom_hit hlt he] at h2; omega
    | false =>
      rw [gFrom_next hlt he] at h2
      by_cases hm : m = n
      · rw [hm]; exact he
      · exact ih (n + 1) (by omega) m (by omega) h2
theorem gFrom_at (e : Nat → Bool) (most : Nat) : ∀ (d n : Nat), most - n = d → gFrom e most n = most ∨ (e (gFrom e most n) = true ∧ n ≤ gFrom e most n) := by
  intro d
  induction d with
  | zero =>
    intro n hd
    exact .inl (gFrom_end (by omega))
  | succ d ih =>
    intro n hd
    have hlt : n < most := by omega
    cases he : e n with
    | true => rw [gFrom_hit hlt he]; exact .inr ⟨he, Nat.le_refl _⟩
    | false =>
      rw [gFrom_next hlt he]
      rcases ih (n + 1) (by omega) with h | ⟨h, h2⟩
      · exact .inl h
      · exact .inr ⟨h, by omega⟩
/-- Does a group end with the part that comes? -/
def endsG (n : Nat) (id : Bs) : Bool := decide (2 ≤ (n : Int)) && endG id || (n : Int) == 32
theorem group_end {cur r : List Part} {x : Part} (h : cur.length < groupN (cur ++ x :: r)) : (endsG (cur.length + 1) x.1 = true ∨ r = []) ↔ cur.length + 1 = groupN (cur ++ x :: r) := by
  have hl : (cur ++ x :: r).length = cur.length + 1 + r.length := by simp; omega
  obtain ⟨b1, b2⟩ := groupN_le (cur ++ x :: r)
  have hg : (cur ++ x :: r)[cur.length]? = some x := by simp
  have hbef := gFrom_before (fun n => ((cur ++ x :: r)[n - 1]?.map fun p => endG p.1).getD false) (min (cur ++ x :: r).length 32) _ 2 rfl (cur.length + 1)
  have hat := gFrom_at (fun n => ((cur ++ x :: r)[n - 1]?.map fun p => endG p.1).getD false) (min (cur ++ x :: r).length 32) _ 2 rfl
  rw [show gFrom (fun n => ((cur ++ x :: r)[n - 1]?.map fun p => endG p.1).getD false) (min (cur ++ x :: r).length 32) 2 = groupN (cur ++ x :: r) from rfl] at hbef hat
  simp only [Nat.add_sub_cancel, hg, Option.map_some, Option.getD_some] at hbef
  generalize groupN (cur ++ x :: r) = G at *
  have h32 : endsG (cur.length + 1) x.1 = true ↔ (2 ≤ cur.length + 1 ∧ endG x.1 = true) ∨ cur.length + 1 = 32 := by
    unfold endsG
    simp only [Bool.or_eq_true, Bool.and_eq_true, decide_eq_true_eq, beq_iff_eq]
    constructor
    · rintro (⟨h1, h2⟩ | h1)
      · exact .inl ⟨by omega, h2⟩
      · exact .inr (by omega)
    · rintro (⟨h1, h2⟩ | h1)
      · exact .inl ⟨by omega, h2⟩
      · exact .inr (by omega)
  have hr : r = [] ↔ r.length = 0 := List.length_eq_zero_iff.symm
  rw [h32, hr]
  constructor
  · rintro ((⟨h1, h2⟩ | h1) | h1)
    · rcases Nat.lt_or_ge (cur.length + 1) G with hc | hc
      · rw [hbef h1 hc] at h2; cases h2
      · omega
    · omega
    · omega
  · intro hG
    rcases hat with h1 | ⟨h1, h2⟩
    · rw [h1] at hG
      rw [hl] at hG
      omega
    · rw [← hG] at h1 h2
      simp only [Nat.add_sub_cancel, hg, Option.map_some, Option.getD_some] at h1
      exact .inl (.inl ⟨h2, h1⟩)
/-- What has been gathered of parts: whole groups, the one under way, the rest. -/
structure Gath (ps : List Part) (done : List (List Part)) (cur rest : List Part) : Prop where
  all : ps = done.flatten ++ (cur ++ rest)
  grp : groups ps = done ++ groups (cur ++ rest)
  go : rest ≠ [] → cur.length < groupN (cur ++ rest)
  fin : rest = [] → cur = []
theorem Gath.start {ps : List Part} (h : ps ≠ []) : Gath ps [] [] ps := ⟨rfl, rfl, fun _ => groupN_pos h, fun e => absurd e h⟩
theorem Gath.next {ps : List Part} {done : List (List Part)} {cur r : List Part} {x : Part} (h : Gath ps done cur (x :: r)) (he : ¬ (endsG (cur.length + 1) x.1 = true ∨ r = [])) : Gath ps done (cur ++ [x]) r := by
  have hg := h.go (by simp)
  rw [group_end hg] at he
  refine ⟨by rw [h.all]; simp, by rw [h.grp]; simp, fun _ => ?_, fun e => absurd ((group_end hg).1 (.inr e)) he⟩
  have : cur ++ [x] ++ r = cur ++ x :: r := by simp
  rw [this, List.length_append, List.length_singleton]
  omega
theorem Gath.close {ps : List Part} {done : List (List Part)} {cur r : List Part} {x : Part} (h : Gath ps done cur (x :: r)) (he : endsG (cur.length + 1) x.1 = true ∨ r = []) : Gath ps (done ++ [cur ++ [x]]) [] r := by
  have hg := h.go (by simp)
  rw [group_end hg] at he
  have hgr := groups_step (ps := cur ++ x :: r) (by simp)
  have e1 : (cur ++ x :: r) = (cur ++ [x]) ++ r := by simp
  have hl : (cur ++ [x]).length = groupN (cur ++ x :: r) := by simp; omega
  rw [← hl] at hgr
  rw [show (cur ++ x :: r).take (cur ++ [x]).length = cur ++ [x] from by rw [e1, List.take_left], show (cur ++ x :: r).drop (cur ++ [x]).length = r from by rw [e1, List.drop_left]] at hgr
  refine ⟨by rw [h.all]; simp, by rw [h.grp, hgr]; simp, fun hr => groupN_pos hr, fun _ => rfl⟩
theorem Gath.stop {ps : List Part} {done : List (List Part)} {cur : List Part} (h : Gath ps done cur []) : groups ps = done := by
  rw [h.grp, h.fin rfl]
  simp [groups_nil]
theorem Gath.rest {ps : List Part} {done : List (List Part)} {cur rest : List Part} (h : Gath ps done cur rest) {i : Nat} (hi : i = done.flatten.length + cur.length) : rest = ps.drop i := by
  have : ps = (done.flatten ++ cur) ++ rest := by rw [h.all]; simp
  rw [this, hi, ← List.length_append, List.drop_left]
theorem Gath.few {ps : List Part} {done : List (List Part)} {cur rest : List Part} (h : Gath ps done cur rest) : 2 * done.length ≤ ps.length + 1 ∧ cur.length ≤ 32 := by
  have h1 := groups_half ps
  have h2 := congrArg List.length h.grp
  rw [List.length_append] at h2
  refine ⟨by omega, ?_⟩
  by_cases hr : rest = []
  · rw [h.fin hr]; simp
  · have := h.go hr
    have := (groupN_le (cur ++ rest)).2
    omega
/-- Objects laid one behind the other, each id once. -/
def keptP (os raw : List Pair) : List Pair := raw.foldl layP os
theorem keptP_append (os a b : List Pair) : keptP os (a ++ b) = keptP (keptP os a) b := List.foldl_append
theorem layC_kept (os : List Pair) (cs : List Bs) : layC os cs = keptP os (cs.map objOf) := by
  unfold layC keptP
  rw [List.foldl_map]
theorem layF_kept (level : Int) (os : List Pair) (gs : List (List Part)) : layF level os gs = keptP os (gs.map (fanO level)) := by
  unfold layF keptP
  rw [List.foldl_map]
/-- All levels over some parts, as the reference goes: the root, the objects one behind the other. -/
def riseR : Nat → Int → List Part → List Pair → Part × List Pair
  | 0, _, ps, raw => (ps.headD ([], 0), raw)
  | n + 1, level, ps, raw => if 1 < ps.length then riseR n (level + 1) ((groups ps).map (fanP level)) (raw ++ (groups ps).map (fanO level)) else (ps.headD ([], 0), raw)
theorem riseR_one {n : Nat} {level : Int} {ps : List Part} {raw : List Pair} (h : ¬ 1 < ps.length) : riseR n level ps raw = (ps.headD ([], 0), raw) := by
  cases n with
  | zero => rfl
  | succ n => rw [riseR, if_neg h]
theorem rise_same : ∀ (n : Nat) (level : Int) (ps : List Part) (raw : List Pair), riseP n level ps (keptP [] raw) = ((riseR n level ps raw).1, keptP [] (riseR n level ps raw).2)
  | 0, _, _, _ => rfl
  | n + 1, level, ps, raw => by
    rw [riseP, riseR]
    by_cases h : 1 < ps.length
    · rw [if_pos h, if_pos h, layF_kept, ← keptP_append, rise_same n]
    · rw [if_neg h, if_neg h]
def fileR (l : Bs) : Part × List Pair := riseR 19 1 ((cutC l).map partOf) ((cutC l).map objOf)
theorem file_same (l : Bs) : fileP l = ((fileR l).1, keptP [] (fileR l).2) := by
  unfold fileP fileR
  rw [layC_kept, rise_same]
theorem keptP_le : ∀ (raw os : List Pair), (keptP os raw).length ≤ os.length + raw.length
  | [], os => by simp [keptP]
  | o :: raw, os => by
    have h1 := keptP_le raw (layP os o)
    have h2 := layP_le os o
    show (keptP (layP os o) raw).length ≤ _
    simp only [List.length_cons]
    omega
theorem keptP_step (os raw : List Pair) (j : Nat) (h : j < raw.length) : keptP os (raw.take (j + 1)) = layP (keptP os (raw.take j)) raw[j] := by
  unfold keptP
  rw [List.take_succ_eq_append_getElem h, List.foldl_append]
  rfl
end Go.Proofs.YtokebnkgjchfaaaGreatDoor

/-
  Reading some of a file's bytes. Conditions: the get keeps its word.
-/
namespace Go.Proofs.YtokebnkgjchfaaaGreatDoor
open Go.RowKit

/-- A right root. -/
def rightR (p : Part) : Bool := decide (p.1.length = 32) && decide (0 ≤ p.2) && decide (p.2 ≤ 262144)
theorem rightR_iff (p : Part) : rightR p = true ↔ p.1.length = 32 ∧ 0 ≤ p.2 ∧ p.2 ≤ 262144 := by
  simp only [rightR, Bool.and_eq_true, decide_eq_true_eq]
  constructor
  · rintro ⟨⟨h1, h2⟩, h3⟩; exact ⟨h1, h2, h3⟩
  · rintro ⟨h1, h2, h3⟩; exact ⟨⟨h1, h2⟩, h3⟩
set_option maxRecDepth 20000 in
theorem isRight_any (w : World) (p : Part) : Calls Tryz.prog 25 #[.agg #[.string (strB p.1), .int .i64 p.2]] w fun e w' => e = .returned (.bool (rightR p)) ∧ Below w.heap.size w w' := by
  have hs := strB_size p.1
  have hb : Below w.heap.size w (w.alloc (.cells #[.string (strB p.1), .int .i64 p.2] 25)) := (Below.refl _ _).alloc (Nat.le_refl _) _
  have HB := hide hb
  clear hb
  by_cases h1 : p.1.length = 32
  · have b1 : ((p.1.length : Int) == 32) = true := by simp [h1]
    by_cases h2 : 0 ≤ p.2
    · have hr : rightR p = decide (p.2 ≤ 262144) := by unfold rightR; simp [h1, h2]
      have HR := hide hr
      clear hr h1
      go_enter Tryz.func25, Tryz.ntmps25
      go_wp2
      go_ret
      exact ⟨by rw [HR.out]; rfl, HB.out⟩
    · have hr : rightR p = false := by unfold rightR; simp [h1, h2]
      have HR := hide hr
      clear hr h1
      go_enter Tryz.func25, Tryz.ntmps25
      go_wp2
      go_ret
      exact ⟨by rw [HR.out]; rfl, HB.out⟩
  · have b1 : ((p.1.length : Int) == 32) = false := by rw [beq_eq_false_iff_ne]; omega
    have hr : rightR p = false := by unfold rightR; simp [h1]
    have HR := hide hr
    clear hr h1
    go_enter Tryz.func25, Tryz.ntmps25
    go_wp2
    go_ret
    exact ⟨by rw [HR.out]; rfl, HB.out⟩
/-- The place behind n bytes. -/
def endP (z f n : Int) : Int := f + min n (z - f)
set_option maxRecDepth 20000 in
theorem endOf_any (w : World) (p : Part) (f n : Int) (hp : 0 ≤ p.2) (hp2 : p.2 ≤ 262144) (hf : 0 ≤ f) (hf2 : f ≤ 9223372036854775807) (hn : 0 ≤ n) (hn2 : n ≤ 9223372036854775807) : Calls Tryz.prog 26 #[.agg #[.string (strB p.1), .int .i64 p.2], .int .i64 f, .int .i64 n] w fun e w' => e = .returned (.int .i64 (endP p.2 f n)) ∧ Below w.heap.size w w' := by
  have hb : Below w.heap.size w (w.alloc (.cells #[.string (strB p.1), .int .i64 p.2] 25)) := (Below.refl _ _).alloc (Nat.le_refl _) _
  have HB := hide hb
  have hm : (if p.2 - f < n then p.2 - f else n) = min n (p.2 - f) := by split <;> omega
  have hE : endP p.2 f n = f + min n (p.2 - f) := rfl
  have hbd : -9223372036854775808 ≤ min n (p.2 - f) ∧ min n (p.2 - f) ≤ 9223372036854775807 ∧ f + min n (p.2 - f) ≤ 9223372036854775807 ∧ 0 ≤ f + min n (p.2 - f) := by omega
  rw [hE]
  generalize min n (p.2 - f) = m at *
  clear hb hE
  go_enter Tryz.func26, Tryz.ntmps26
  go_wp2
  go_ret
  exact ⟨rfl, HB.out⟩
theorem eql_nilF (W : World) (gf : Nat) (caps : Array Value) : (binOp .eql 33 (.func (.func gf) #[] caps) .nilFunc).run Tryz.prog W = .ok (.bool false) W := by
  have h : (Op.equal 33 (.func (.func gf) #[] caps) .nilFunc).run Tryz.prog W = .ok false W := by
    show (Op.equalIn (9999 + 1) 33 _ _).run Tryz.prog W = _
    unfold Op.equalIn
    simp [run_underlying Tryz.underlying33, Result.andThen]
  simp only [binOp, Sem.run_bind, h, Result.andThen, Sem.run_pure]
/-- What Read answers, and what it asked. -/
def readP (fd : Bs → Option Bs) (p : Part) (f n : Int) (asked : List Bs) : Wk := goS fd f (endP p.2 f n) 21 p 0 (-1) ⟨asked, [], [], 0⟩
def readV (s : Wk) : Value := if s.bad = 0 then .tuple #[.string (strB s.data), .int .i64 0] else .tuple #[.string ⟨#[]⟩, .int .i64 s.bad]
set_option maxRecDepth 40000 in
set_option maxHeartbeats 1600000 in
theorem bread_any (w : World) (gf : Nat) (caps : Array Value) (fd : Bs → Option Bs) (B : Nat) (I : World → List Bs → Prop) (hG : GetOk gf caps fd B rts I) (p : Part) (f n : Int) (asked : List Bs) (hI : I w asked) (hal : asked.length ≤ 1000) (hr : rightR p = true) (hf : 0 ≤ f) (hf2 : f ≤ 9223372036854775807) (hn : 0 ≤ n) (hn2 : n ≤ 9223372036854775807) :
    Calls Tryz.prog 19 #[.func (.func gf) #[] caps, .agg #[.string (strB p.1), .int .i64 p.2], .int .i64 f, .int .i64 n] w fun e w' => e = .returned (readV (readP fd p f n asked)) ∧ I w' (readP fd p f n asked).asked ∧ Mv B gts none w w' := by
  obtain ⟨r1, r2, r3⟩ := (rightR_iff p).1 hr
  have hB := hG.le _ _ hI
  have hb0 : Below w.heap.size w (w.alloc (.cells #[.string (strB p.1), .int .i64 p.2] 25)) := (Below.refl _ _).alloc (Nat.le_refl _) _
  have hx0 := heap_last w (.cells #[.string (strB p.1), .int .i64 p.2] 25) _ rfl
  generalize hw0 : w.alloc (.cells #[.string (strB p.1), .int .i64 p.2] 25) = w0 at *
  have c0 := cell_of_row w0 w.heap.size 0 _ _ _ hx0
  have c1 := cell_of_row w0 w.heap.size 1 _ _ _ hx0
  simp only [List.getElem?_toArray, List.getElem?_cons_zero, List.getElem?_cons_succ] at c0 c1
  have hri := isRight_any w0 p
  rw [hr] at hri
  have H0 := hide (And.intro hb0 hx0)
  clear hb0 hx0
  go_enter Tryz.func19, Tryz.ntmps19
  go_wp2_with fail
  try rw [hw0]
  refine hri.mono ?_
  rintro e w1 ⟨rfl, hb1⟩
  have hx1 := (hb1.block _ (lt_of_heap H0.out.2)).trans H0.out.2
  have hB1 := H0.out.1.trans (hb1.mono H0.out.1.size)
  have c0 := cell_of_row w1 w.heap.size 0 _ _ _ hx1
  have c1 := cell_of_row w1 w.heap.size 1 _ _ _ hx1
  simp only [List.getElem?_toArray, List.getElem?_cons_zero, List.getElem?_cons_succ] at c0 c1
  have hnil := fun W => eql_nilF W gf caps
  have hen := endOf_any w1 p f n r2 r3 hf hf2 hn hn2
  have H1 := hide (And.intro hx1 hB1)
  clear hri hb1 hx1 hB1
  go_wp2_with fail
  refine hen.mono ?_
  rintro e w2 ⟨rfl, hb2⟩
  have hx2 := (hb2.block _ (lt_of_heap H1.out.1)).trans H1.out.1
  have hB2 := H1.out.2.trans (hb2.mono H1.out.2.size)
  have hEb : 0 ≤ endP p.2 f n ∧ endP p.2 f n ≤ 262144 := by unfold endP; omega
  obtain ⟨y, hy⟩ : ∃ y, y = endP p.2 f n := ⟨_, rfl⟩
  rw [← hy] at hEb ⊢
  have hx3 := (heap_past w2 (.cells #[.func (.func gf) #[] caps, .int .i64 f, .int .i64 y, .slice none 0 0] 79) _ (lt_of_heap hx2)).trans hx2
  have hg3 := heap_last w2 (.cells #[.func (.func gf) #[] caps, .int .i64 f, .int .i64 y, .slice none 0 0] 79) _ rfl
  have hB3 := hB2.alloc hB2.size (.cells #[.func (.func gf) #[] caps, .int .i64 f, .int .i64 y, .slice none 0 0] 79)
  have hI3 := hG.below hI hB3
  have hR3 : RdW B (w2.alloc (.cells #[.func (.func gf) #[] caps, .int .i64 f, .int .i64 y, .slice none 0 0] 79)) w2.heap.size (.func (.func gf) #[] caps) f y [] := ⟨Nat.le_trans hB hB2.size, _, hg3, World.ownsRow_nil _ _ _ _⟩
  have hgo := goTo_any w2.heap.size gf caps fd B I hG f y hf hf2 hEb.1 hEb.2 21 (w2.alloc (.cells #[.func (.func gf) #[] caps, .int .i64 f, .int .i64 y, .slice none 0 0] 79)) p 0 (-1) ⟨asked, [], [], 0⟩ (.inl ⟨rfl, by omega⟩) (by omega) r2 (by omega) rfl hR3 hI3 (by simp only; omega) (by simp only [List.length_nil]; omega)
  have hrp : readP fd p f n asked = goS fd f y 21 p 0 (-1) ⟨asked, [], [], 0⟩ := by unfold readP; rw [hy]
  rw [← hrp] at hgo
  obtain ⟨s, hs⟩ : ∃ s, s = readP fd p f n asked := ⟨_, rfl⟩
  rw [← hs] at hgo
  have HS := hide hs
  have c0 := cell_of_row (w2.alloc (.cells #[.func (.func gf) #[] caps, .int .i64 f, .int .i64 y, .slice none 0 0] 79)) w.heap.size 0 _ _ _ hx3
  have c1 := cell_of_row (w2.alloc (.cells #[.func (.func gf) #[] caps, .int .i64 f, .int .i64 y, .slice none 0 0] 79)) w.heap.size 1 _ _ _ hx3
  simp only [List.getElem?_toArray, List.getElem?_cons_zero, List.getElem?_cons_succ] at c0 c1
  have H3 := hide hB3
  clear hen hb2 hx2 hB2 hg3 hB3 hI3 hR3 hrp hs hx3 hy
  go_wp2_with fail
  refine hgo.mono ?_
  rintro e w4 ⟨rfl, hR4, hI4, hM4⟩
  have hM := (Mv.of (r := none) (ts := gts) H3.out hB).trans hM4 (Nx.refl _ _)
  obtain ⟨-, vd, hh4, hd4⟩ := hR4
  have hsl : Sl w4 vd s.data := sl_of_own hd4
  have d3 := cell_of_row w4 w2.heap.size 3 _ _ _ hh4
  simp only [List.getElem?_toArray, List.getElem?_cons_zero, List.getElem?_cons_succ] at d3
  have HF := hide (And.intro hI4 hM)
  clear hgo hI4 hM hM4 hh4
  by_cases hb : s.bad = 0
  · have hbb : (s.bad != 0) = false := by rw [hb]; rfl
    have HV : Hid (readV s = .tuple #[.string (strB s.data), .int .i64 0]) := hide (by unfold readV; rw [if_pos hb])
    clear hb
    obtain ⟨va, vm, vc, rfl⟩ := row_form hd4
    clear hd4
    go_wp2_with (refine wpList_str _ rfl (.tmp 40) rfl hsl (by first | rfl | (simp [go_sem]; done)) ?_)
    go_ret2
    rw [← HS.out, HV.out]
    exact ⟨rfl, HF.out.1, HF.out.2⟩
  · have hbb : (s.bad != 0) = true := by simpa using hb
    have HV : Hid (readV s = .tuple #[.string ⟨#[]⟩, .int .i64 s.bad]) := hide (by unfold readV; rw [if_neg hb])
    clear hb hd4 hsl
    go_wp2
    go_ret2
    rw [← HS.out, HV.out]
    exact ⟨rfl, HF.out.1, HF.out.2⟩
end Go.Proofs.YtokebnkgjchfaaaGreatDoor

/-
  The reference's walk in memory, and its parts: what is asked, met, read, bad. Conditions: it lies there; not too much.
-/
namespace Go.Proofs.YtokebnkgjchfaaaGreatDoor
open Go.RowKit

/-- The reference's walk g: the objects, what was asked, read, met (the row vp), the first error. -/
def RfW (B : Nat) (w : World) (g : Nat) (vo : Value) (objs : List Pair) (vp : Value) (s : Wk) : Prop :=
  B ≤ g ∧ Ls B w 2 pairC vo objs ∧ ∃ va vd, w.heap[g]? = some (.cells #[vo, va, vd, vp, .int .i64 s.bad] 76) ∧ Rw B w 9 1 idC va s.asked ∧ w.ownsRow B 5 1 vd s.data.length (bc s.data) ∧ Rw B w 25 2 partC vp s.parts
/-- What it moves. -/
abbrev fts : List TypeId := [9, 5, 76]
theorem RfW.le {B : Nat} {w : World} {g : Nat} {vo : Value} {objs : List Pair} {vp : Value} {s : Wk} (h : RfW B w g vo objs vp s) : B ≤ w.heap.size := by
  obtain ⟨hg, -, va, vd, hh, -⟩ := h
  have := lt_of_heap hh
  omega
theorem RfW.below {B : Nat} {w w' : World} {g : Nat} {vo : Value} {objs : List Pair} {vp : Value} {s : Wk} (h : RfW B w g vo objs vp s) (hb : Below w.heap.size w w') : RfW B w' g vo objs vp s := by
  have hB := h.le
  obtain ⟨hg, hl, va, vd, hh, h1, h2, h3⟩ := h
  exact ⟨hg, hl.keep (hb.mono hB), va, vd, (hb.block _ (lt_of_heap hh)).trans hh, own_same h1 (fun q hq => hb.block q (h1.lt q hq).2), own_same h2 (fun q hq => hb.block q (h2.lt q hq).2), own_same h3 (fun q hq => hb.block q (h3.lt q hq).2)⟩
theorem RfW.lt {B : Nat} {w : World} {g : Nat} {vo : Value} {objs : List Pair} {vp : Value} {s : Wk} (h : RfW B w g vo objs vp s) {q : Nat} (hq : vp.ownBlock = some q) : q < w.heap.size := by
  obtain ⟨-, -, va, vd, -, -, -, h3⟩ := h
  exact (h3.lt q hq).2
theorem set5 {w : World} {g : Nat} {v0 v1 v2 v3 v4 : Value} {t : TypeId} (h : w.heap[g]? = some (.cells #[v0, v1, v2, v3, v4] t)) (u : Value) :
    (w.setCell ⟨g, 1, none⟩ u).heap[g]? = some (.cells #[v0, u, v2, v3, v4] t) ∧ (w.setCell ⟨g, 2, none⟩ u).heap[g]? = some (.cells #[v0, v1, u, v3, v4] t) ∧ (w.setCell ⟨g, 3, none⟩ u).heap[g]? = some (.cells #[v0, v1, v2, u, v4] t) ∧ (w.setCell ⟨g, 4, none⟩ u).heap[g]? = some (.cells #[v0, v1, v2, v3, u] t) := by
  refine ⟨?_, ?_, ?_, ?_⟩ <;> (rw [heap_setCell _ _ _ _ _ _ _ h]; simp)
/-- One more is asked. -/
theorem RfW.ask {B : Nat} {w : World} {g : Nat} {vo : Value} {objs : List Pair} {vp : Value} {s : Wk} (h : RfW B w g vo objs vp s) (id : Bs) (hn : s.asked.length ≤ 4294967296) :
    ∃ va vd va' w1, w.heap[g]? = some (.cells #[vo, va, vd, vp, .int .i64 s.bad] 76) ∧ (∃ a m c, va' = .slice a m c) ∧
      (Builtin.append_ #[37, 37] 37 #[va, .slice (some ⟨w.heap.size, 0, none⟩) 1 1]).run Tryz.prog (w.alloc (.cells #[.string (strB id)] 9)).drew = .ok va' w1 ∧
      w1.heap[g]? = some (.cells #[vo, va, vd, vp, .int .i64 s.bad] 76) ∧ RfW B (w1.setCell ⟨g, 1, none⟩ va') g vo objs vp ⟨s.asked ++ [id], s.data, s.parts, s.bad⟩ ∧ Mv B fts none w w1 ∧ Mv B fts none w (w1.setCell ⟨g, 1, none⟩ va') := by
  have hB := h.le
  obtain ⟨hg, hl, va, vd, hh, h1, h2, h3⟩ := h
  obtain ⟨va', w1, hrun, hrow, hgr, -⟩ := app_id w.drew B va s.asked id h1 hB hn
  rw [drew_alloc] at hrun hgr
  rw [show w.drew.heap.size = w.heap.size from rfl] at hrun
  have h1' : Rw B (w.alloc (.cells #[.string (strB id)] 9)).drew 9 1 idC va s.asked := World.ownsRow.alloc h1 _
  have h2' : (w.alloc (.cells #[.string (strB id)] 9)).drew.ownsRow B 5 1 vd s.data.length (bc s.data) := World.ownsRow.alloc h2 _
  have h3' : Rw B (w.alloc (.cells #[.string (strB id)] 9)).drew 25 2 partC vp s.parts := World.ownsRow.alloc h3 _
  have hh' := (heap_past w (.cells #[.string (strB id)] 9) _ (lt_of_heap hh)).trans hh
  have hh1 := grow_keep h1' hgr (show (w.alloc _).drew.heap[g]? = _ from hh') (by decide)
  have hm1 : Mv B fts none w w1 := ((Mv.refl B fts none w).alloc hB _).drew.grown h1' hgr (by decide) (by simp; omega)
  have hm2 := hm1.set (j := 1) hh1 (by decide) hg va'
  refine ⟨va, vd, va', w1, hh, row_form hrow, hrun, hh1, ⟨hg, hl.keep hm2.b, va', vd, (set5 hh1 _).1, own_setCell hrow hh1 (by decide) _, own_setCell (grow_other h2' h1' hgr (own_ne h2' h1' (by decide))) hh1 (by decide) _, own_setCell (grow_other h3' h1' hgr (own_ne h3' h1' (by decide))) hh1 (by decide) _⟩, hm1, hm2⟩
/-- One more part is met. -/
theorem RfW.part {B : Nat} {w : World} {g : Nat} {vo : Value} {objs : List Pair} {vp : Value} {s : Wk} (h : RfW B w g vo objs vp s) (p : Part) (hn : s.parts.length ≤ 4294967296) :
    ∃ va vd vp' w1, w.heap[g]? = some (.cells #[vo, va, vd, vp, .int .i64 s.bad] 76) ∧ (∃ a m c, vp' = .slice a m c) ∧
      (Builtin.append_ #[38, 38] 38 #[vp, .slice (some ⟨w.heap.size, 0, none⟩) 1 1]).run Tryz.prog (w.alloc (.cells #[.string (strB p.1), .int .i64 p.2] 25)).drew = .ok vp' w1 ∧
      w1.heap[g]? = some (.cells #[vo, va, vd, vp, .int .i64 s.bad] 76) ∧ RfW B (w1.setCell ⟨g, 3, none⟩ vp') g vo objs vp' ⟨s.asked, s.data, s.parts ++ [p], s.bad⟩ ∧ Mv B fts vp.ownBlock w w1 ∧ Mv B fts vp.ownBlock w (w1.setCell ⟨g, 3, none⟩ vp') ∧ Nx w vp.ownBlock vp'.ownBlock := by
  have hB := h.le
  obtain ⟨hg, hl, va, vd, hh, h1, h2, h3⟩ := h
  obtain ⟨vp', w1, hrun, hrow, hgr, hloc⟩ := app_part w.drew B vp s.parts p h3 hB hn
  rw [drew_alloc] at hrun hgr
  rw [show w.drew.heap.size = w.heap.size from rfl] at hrun hloc
  have h1' : Rw B (w.alloc (.cells #[.string (strB p.1), .int .i64 p.2] 25)).drew 9 1 idC va s.asked := World.ownsRow.alloc h1 _
  have h2' : (w.alloc (.cells #[.string (strB p.1), .int .i64 p.2] 25)).drew.ownsRow B 5 1 vd s.data.length (bc s.data) := World.ownsRow.alloc h2 _
  have h3' : Rw B (w.alloc (.cells #[.string (strB p.1), .int .i64 p.2] 25)).drew 25 2 partC vp s.parts := World.ownsRow.alloc h3 _
  have hh' := (heap_past w (.cells #[.string (strB p.1), .int .i64 p.2] 25) _ (lt_of_heap hh)).trans hh
  have hh1 := grow_keep h3' hgr (show (w.alloc _).drew.heap[g]? = _ from hh') (by decide)
  have hm1 : Mv B fts vp.ownBlock w w1 := ((Mv.refl B fts vp.ownBlock w).alloc hB _).drew.grownRow h3' hgr (Nx.refl _ _) (by simp; omega)
  have hm2 := hm1.set (j := 3) hh1 (by decide) hg vp'
  refine ⟨va, vd, vp', w1, hh, row_form hrow, hrun, hh1, ⟨hg, hl.keep hm2.b, va, vd, (set5 hh1 _).2.2.1, own_setCell (grow_other h1' h3' hgr (own_ne h1' h3' (by decide))) hh1 (by decide) _, own_setCell (grow_other h2' h3' hgr (own_ne h2' h3' (by decide))) hh1 (by decide) _, own_setCell hrow hh1 (by decide) _⟩, hm1, hm2, ?_⟩
  rcases hloc with h | h
  · exact .inl h
  · exact .inr ⟨_, h, by omega⟩
/-- Some more is read. -/
theorem RfW.more {B : Nat} {w : World} {g : Nat} {vo : Value} {objs : List Pair} {vp : Value} {s : Wk} (h : RfW B w g vo objs vp s) (d : Bs) (hn : s.data.length + d.length ≤ 140737488355328) :
    ∃ va vd vd' w1, w.heap[g]? = some (.cells #[vo, va, vd, vp, .int .i64 s.bad] 76) ∧ (∃ a m c, vd' = .slice a m c) ∧
      (Builtin.append_ #[74, 9] 74 #[vd, .string (strB d)]).run Tryz.prog w.drew = .ok vd' w1 ∧
      w1.heap[g]? = some (.cells #[vo, va, vd, vp, .int .i64 s.bad] 76) ∧ RfW B (w1.setCell ⟨g, 2, none⟩ vd') g vo objs vp ⟨s.asked, s.data ++ d, s.parts, s.bad⟩ ∧ Mv B fts none w w1 ∧ Mv B fts none w (w1.setCell ⟨g, 2, none⟩ vd') := by
  have hB := h.le
  obtain ⟨hg, hl, va, vd, hh, h1, h2, h3⟩ := h
  obtain ⟨vd', w1, hrun, hrow, hgr⟩ := app_str (w := w.drew) (m := d) h2 hn hB
  have hh1 := grow_keep (w := w.drew) h2 hgr hh (by decide)
  have hm1 : Mv B fts none w w1 := (Mv.refl B fts none w).drew.grown h2 hgr (by decide) hB
  have hm2 := hm1.set (j := 2) hh1 (by decide) hg vd'
  refine ⟨va, vd, vd', w1, hh, row_form hrow, hrun, hh1, ⟨hg, hl.keep hm2.b, va, vd', (set5 hh1 _).2.1, own_setCell (grow_other (w := w.drew) h1 h2 hgr (own_ne (w := w.drew) h1 h2 (by decide))) hh1 (by decide) _, own_setCell hrow hh1 (by decide) _, own_setCell (grow_other (w := w.drew) h3 h2 hgr (own_ne (w := w.drew) h3 h2 (by decide))) hh1 (by decide) _⟩, hm1, hm2⟩
set_option maxRecDepth 20000 in
theorem fail_any (B : Nat) (w : World) (g : Nat) (vo : Value) (objs : List Pair) (vp : Value) (s : Wk) (e : Int) (h : RfW B w g vo objs vp s) (hs : s.bad = 0) :
    Calls Tryz.prog 45 #[.pointer (some ⟨g, 0, none⟩), .int .i64 e] w fun en w' => en = .returned (.tuple #[]) ∧ RfW B w' g vo objs vp ⟨s.asked, s.data, s.parts, e⟩ ∧ Mv B fts none w w' := by
  have hB := h.le
  obtain ⟨hg, hl, va, vd, hh, h1, h2, h3⟩ := h
  rw [hs] at hh
  have c4 := cell_of_row w g 4 _ _ _ hh
  simp only [List.getElem?_toArray, List.getElem?_cons_zero, List.getElem?_cons_succ] at c4
  have f4 := frozen0 (j := 4) hh
  have hm := (Mv.refl B fts none w).set (j := 4) hh (by decide) hg (.int .i64 e)
  have FIN := hide (show RfW B (w.setCell ⟨g, 4, none⟩ (.int .i64 e)) g vo objs vp ⟨s.asked, s.data, s.parts, e⟩ ∧ _ from ⟨⟨hg, hl.keep hm.b, va, vd, (set5 hh _).2.2.2, own_setCell h1 hh (by decide) _, own_setCell h2 hh (by decide) _, own_setCell h3 hh (by decide) _⟩, hm⟩)
  clear hl hh h1 h2 h3 hm hs
  go_enter Tryz.func45, Tryz.ntmps45
  go_wp2
  go_end0
  exact ⟨rfl, FIN.out.1, FIN.out.2⟩
end Go.Proofs.YtokebnkgjchfaaaGreatDoor
