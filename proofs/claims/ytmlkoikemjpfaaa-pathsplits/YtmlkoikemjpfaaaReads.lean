/-
  PathReads' walk: what is a name, and what parts a path has, is as the document says. Conditions: lengths within reach.
-/
import Derived.Test.YtmlkoikemjpfaaaSame
import Derived.Test.YtmlkoikemjpfaaaRefParse
import Derived.OneCell
namespace Go.Proofs.Ytmlkoikemjpfaaa
open Go.RowKit

/-- What Parse answers: the parts, and the error. -/
def ans (l : List UInt8) : List (List UInt8) := if Pt.path l = true then Pt.parts l else []
def err (l : List UInt8) : Int := if Pt.path l = true then 0 else 40
theorem ans_length (l : List UInt8) : (ans l).length ≤ 16 := by
  unfold ans
  split
  · next h => exact Pt.few_len h
  · simp
theorem parse_all (w : World) (l : List UInt8) (hl : l.length ≤ 4611686018427387000) :
    Calls Try.prog 10 #[.string (strB l)] w fun e w' => ∃ v, e = .returned (.tuple #[v, .int .i64 (err l)]) ∧ w'.ownsRow w.heap.size 9 1 v (ans l).length (tc (ans l)) ∧ Below w.heap.size w w' := by
  unfold ans err
  cases h : Pt.path l with
  | false =>
    refine (parse_bad w l hl h).mono ?_
    rintro e w' ⟨rfl, hb⟩
    exact ⟨_, rfl, World.ownsRow_nil _ _ _ _, hb⟩
  | true => exact parse_ok w l hl h
theorem rparse_all (w : World) (l : List UInt8) (hl : l.length ≤ 4611686018427387000) :
    Calls Try.prog 11 #[.string (strB l)] w fun e w' => ∃ v, e = .returned (.tuple #[v, .int .i64 (err l)]) ∧ w'.ownsRow w.heap.size 9 1 v (ans l).length (tc (ans l)) ∧ Below w.heap.size w w' := by
  have hr := rparse_any w l hl
  unfold ans err
  cases h : Pt.path l with
  | false =>
    rw [h] at hr
    refine hr.mono ?_
    rintro e w' ⟨he, hb⟩
    rw [if_neg (by simp)] at he
    subst he
    exact ⟨_, rfl, World.ownsRow_nil _ _ _ _, hb⟩
  | true =>
    rw [h] at hr
    refine hr.mono ?_
    rintro e w' ⟨he, hb⟩
    rw [if_pos rfl] at he
    obtain ⟨v, rfl, hv⟩ := he
    exact ⟨v, rfl, hv, hb⟩

theorem own_keep {w w' : World} {base : Nat} {e : TypeId} {s : Nat} {v : Value} {n : Nat} {xs : List Value} (h : w.ownsRow base e s v n xs) (hb : Below w.heap.size w w') : w'.ownsRow base e s v n xs := by
  obtain ⟨h1, h2⟩ := h
  refine ⟨h1, ?_⟩
  rcases h2 with h | ⟨g, cap, cur, hv, hg, hh, hr⟩
  · exact .inl h
  · exact .inr ⟨g, cap, cur, hv, hg, (hb.block g (Array.getElem?_eq_some_iff.1 hh).1).trans hh, hr⟩
theorem heap_set {w : World} {g : Nat} {c : Array Value} {t : TypeId} {fr : Nat × Nat} (h : w.heap[g]? = some (.cells c t fr)) (i : Nat) (u : Value) :
    (w.setCell ⟨g, i, none⟩ u).heap[g]? = some (.cells (c.setIfInBounds i u) t fr) := by
  simp [World.setCell, Array.getElem?_modify, h]

/-- Between two stores: the block g is still there, the other slice is as it was. -/
def Mine (w : World) (g n base : Nat) (u : Value) (ps : List (List UInt8)) (wr : World) : Prop :=
  (∃ cur : Array Value, wr.heap[g]? = some (.cells cur 9 (0, 0)) ∧ n ≤ cur.size) ∧ wr.ownsRow base 9 1 u ps.length (tc ps) ∧ Below w.heap.size w wr
theorem Mine.set {w : World} {g n base : Nat} {u : Value} {ps : List (List UInt8)} {wr : World} (h : Mine w g n base u ps wr) (hg : w.heap.size ≤ g) (hu : u.ownBlock ≠ some g) (i : Nat) (x : Value) : Mine w g n base u ps (wr.setCell ⟨g, i, none⟩ x) := by
  obtain ⟨⟨cur, hc, hn⟩, hr, hb⟩ := h
  exact ⟨⟨_, heap_set hc i x, by simpa using hn⟩, ownsRow_setCell_other hr hu x, hb.setCell (p := ⟨g, i, none⟩) hg x⟩
theorem Mine.cell {w : World} {g n base : Nat} {u : Value} {ps : List (List UInt8)} {wr : World} (h : Mine w g n base u ps wr) {i : Nat} (hi : i < n) : (∃ x, wr.cell? ⟨g, i, none⟩ = some x) ∧ wr.frozen? ⟨g, i, none⟩ = false := by
  obtain ⟨⟨cur, hc, hn⟩, _, _⟩ := h
  refine ⟨⟨cur[i]'(by omega), ?_⟩, ?_⟩
  · unfold World.cell?
    rw [hc]
    simp [show i < cur.size by omega]
  · unfold World.frozen?
    rw [hc]
    simp

set_option maxRecDepth 20000 in
theorem reads_any (w : World) (l : List UInt8) (hl : l.length ≤ 4611686018427387000) :
    Calls Try.prog 3 #[.string (strB l)] w fun e w' => e = .returned (.bool true) ∧ Below w.heap.size w w' := by
  have h16 := ans_length l
  go_enter Try.func3, Try.ntmps3
  go_wp2_with fail
  refine (shown_any w).mono ?_
  rintro e w1 ⟨rfl, hb1⟩
  go_wp2_with fail
  refine (parse_all w1 l hl).mono ?_
  rintro e w2 ⟨v, rfl, hv, hb2⟩
  have hB2 := hb1.trans (hb2.mono hb1.size)
  obtain ⟨ao, ca, rfl, -, -, -⟩ := ts_of_own hv
  go_wp2_with fail
  refine (rparse_all w2 l hl).mono ?_
  rintro e w3 ⟨u, rfl, hu, hb3⟩
  have hB3 := hB2.trans (hb3.mono hB2.size)
  obtain ⟨bo, cb, rfl, -, -, -⟩ := ts_of_own hu
  have hv3 := own_keep hv hb3
  have hs := same_any w3 _ _ _ _ (ts_of_own hv3) (ts_of_own hu) (by omega) (by omega)
  rw [decide_eq_true rfl] at hs
  go_wp2_with fail
  refine hs.mono ?_
  rintro e w4 ⟨rfl, hb4⟩
  have hB4 := hB3.trans (hb4.mono hB3.size)
  have hv4 := own_keep hv3 hb4
  have hu4 := own_keep hu hb4
  clear hs
  have hA : (ans l).length ≠ 0 → ∃ g, ao = some ⟨g, 0, none⟩ ∧ w.heap.size ≤ g ∧ g < w2.heap.size ∧ ∃ cur : Array Value, w4.heap[g]? = some (.cells cur 9 (0, 0)) ∧ (ans l).length ≤ cur.size := by
    intro hne
    rcases hv4.2 with ⟨_, h⟩ | ⟨g, cap, cur, hs, hg, hh, hc, _, hz, _⟩
    · exact absurd h hne
    · injection hs with e1 e2 e3
      refine ⟨g, e1, Nat.le_trans hb1.size hg, ?_, cur, hh, by omega⟩
      rcases hv.2 with ⟨_, h⟩ | ⟨g', cap', cur', hs', hg', hh', _⟩
      · exact absurd h hne
      · injection hs' with e1' e2' e3'
        rw [e1] at e1'
        injection e1' with e1'
        injection e1' with e1'
        subst e1'
        exact (Array.getElem?_eq_some_iff.1 hh').1
  clear hv hv3 hv4 hu
  go_wp2
  go_loopw [9] (fun i wr => ∃ k : Nat, i = .int .i64 (k : Int) ∧ k ≤ (ans l).length ∧ wr.ownsRow w2.heap.size 9 1 (.slice bo (ans l).length cb) (ans l).length (tc (ans l)) ∧ Below w.heap.size w wr ∧
      ((ans l).length ≠ 0 → ∃ g, ao = some ⟨g, 0, none⟩ ∧ w.heap.size ≤ g ∧ g < w2.heap.size ∧ ∃ cur : Array Value, wr.heap[g]? = some (.cells cur 9 (0, 0)) ∧ (ans l).length ≤ cur.size))
    (fun i _ => (ans l).length - (intOf i).toNat)
  case atStart => exact ⟨0, rfl, by omega, hu4, hB4, hA⟩
  case round =>
    obtain ⟨k, rfl, hk, hu5, hB5, hA5⟩ := hrel
    by_cases hlt : k < (ans l).length
    · obtain ⟨g, rfl, hg1, hg2, cur, hcur, hcn⟩ := hA5 (by omega)
      have hM : Mine w g (ans l).length w2.heap.size (.slice bo (ans l).length cb) (ans l) wr := ⟨⟨cur, hcur, hcn⟩, hu5, hB5⟩
      have hun : (Value.slice bo (ans l).length cb).ownBlock ≠ some g := fun e => by have := (hu5.lt g e).1; omega
      have hM' := hM.set hg1 hun k (.string ⟨#[109, 105, 110, 101]⟩)
      obtain ⟨⟨x, hcx⟩, hfx⟩ := hM.cell hlt
      clear hM hA5 hA hcur
      go_wp2_with fail
      obtain ⟨q1, q2, q3⟩ := hM'
      exact ⟨⟨k + 1, by go_num, by omega, q2, q3, fun _ => ⟨g, rfl, hg1, hg2, q1⟩⟩, by simp [intOf]; omega⟩
    · have hkn : k = (ans l).length := by omega
      subst hkn
      clear hA hA5 hlt
      go_wp2_with fail
      refine (parse_all wr l hl).mono ?_
      rintro e w6 ⟨v2, rfl, hv2, hb6⟩
      have hB6 := hB5.trans (hb6.mono hB5.size)
      have hu6 := own_keep hu5 hb6
      obtain ⟨a2, c2, rfl, -, -, -⟩ := ts_of_own hv2
      have hs := same_any w6 _ _ _ _ (ts_of_own hv2) (ts_of_own hu6) (by omega) (by omega)
      rw [decide_eq_true rfl] at hs
      clear hv2 hu6 hu5
      go_wp2_with fail
      refine (isName_any w6 l).mono ?_
      rintro e w7 ⟨rfl, rfl⟩
      go_wp2_with fail
      refine (rname_any w7 l).mono ?_
      rintro e w8 ⟨rfl, rfl⟩
      go_wp2_with fail
      refine hs.mono ?_
      rintro e w9 ⟨rfl, hb9⟩
      go_wp2
      go_ret
      exact ⟨rfl, hB6.trans (hb9.mono hB6.size)⟩
end Go.Proofs.Ytmlkoikemjpfaaa
