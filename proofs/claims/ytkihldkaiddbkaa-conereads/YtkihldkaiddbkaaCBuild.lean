/-
  strings.Builder at this program: what is written stands behind what was; lines' answers: isSilent, dirOf, lineOf. Conditions: within reach.
-/
import Derived.Test.YtkihldkaiddbkaaCIns
namespace Go.Proofs.Ytkihldkaiddbkaa
open Go.RowKit Go.Shelf

theorem Try.sizeB : (Try.prog.info? 53).map (·.size) = some 2 := by kernel_rfl
theorem Try.liesB : liesAt Try.prog Try.prog.depth 53 (2 / Try.prog.cellsOf 53) 0 53 1 = true := by kernel_rfl
set_option maxRecDepth 20000 in
/-- One that was written before: nothing is done. -/
theorem check_used (b : Nat) (w : World) (h0 : w.cell? ⟨b, 0, none⟩ = some (.pointer (some ⟨b, 0, none⟩))) :
    Calls Try.prog 56 #[.pointer (some ⟨b, 0, none⟩)] w fun e w' => e = .returned (.tuple #[]) ∧ w' = w := by
  obtain ⟨j, hj, -⟩ := Option.map_eq_some_iff.1 Try.sizeB
  have hne := Lib.run_neq_ptr_same (P := Try.prog) w ⟨b, 0, none⟩ Try.underlying50 hj
  go_enter Try.func56, Try.ntmps56
  go_wp2
  go_end0
  exact ⟨rfl, rfl⟩
set_option maxRecDepth 20000 in
/-- A new one: its own address is laid. -/
theorem check_fresh (b : Nat) (w : World) (h0 : w.cell? ⟨b, 0, none⟩ = some (.pointer none)) (hsh : w.shape? b = some (53, 2)) (hfz : w.frozen? ⟨b, 0, none⟩ = false) :
    Calls Try.prog 56 #[.pointer (some ⟨b, 0, none⟩)] w fun e w' => e = .returned (.tuple #[]) ∧ w' = w.setCell ⟨b, 0, none⟩ (.pointer (some ⟨b, 0, none⟩)) := by
  obtain ⟨j, hj, hjs⟩ := Option.map_eq_some_iff.1 Try.sizeB
  have h1 := Lib.run_to_unsafe (P := Try.prog) w ⟨b, 0, none⟩ Try.underlying50 Try.underlying83 hj (by rw [hjs]; decide) hsh (Nat.zero_lt_succ 1)
  have h2 := Lib.run_from_unsafe (P := Try.prog) w ⟨b, 0, none⟩ Try.underlying83 Try.underlying50 hj hsh Try.liesB
  go_enter Try.func56, Try.ntmps56
  go_wp2
  rw [run_callFunc_extern Try.func69 (by kernel_rfl) (by kernel_rfl) (by kernel_rfl) (e := Extern.AbiNoEscape.same) (by kernel_rfl)]
  rw [Lib.run_noEscape]
  simp only [Result.andThen]
  rw [Oper.upon_value]
  go_wp2
  go_end0
  exact ⟨rfl, rfl⟩
theorem check_any (B b : Nat) (bs : List Value) (w : World) (h : Lib.IsBuilder 53 5 B b bs w) :
    Calls Try.prog 56 #[.pointer (some ⟨b, 0, none⟩)] w fun e w' => e = .returned (.tuple #[]) ∧ Lib.BuilderAt 53 5 B b (.pointer (some ⟨b, 0, none⟩)) bs w' ∧ Below B w w' := by
  rcases h with h | h
  · refine (check_fresh b w h.cell0 h.shape h.frozen0).mono ?_
    rintro e w' ⟨rfl, rfl⟩
    exact ⟨rfl, h.used _, (Below.refl B w).setCell (p := ⟨b, 0, none⟩) h.1 _⟩
  · refine (check_used b w h.cell0).mono ?_
    rintro e w' ⟨rfl, rfl⟩
    exact ⟨rfl, h, Below.refl B _⟩
set_option maxRecDepth 20000 in
set_option maxHeartbeats 1000000 in
/-- Written behind what stands there. -/
theorem write_any (B b : Nat) (l s : Bs) (w : World) (h : Lib.IsBuilder 53 5 B b (bc l) w) (hlen : l.length + s.length ≤ 140737488355328) (hBw : B ≤ w.heap.size) :
    Calls Try.prog 35 #[.pointer (some ⟨b, 0, none⟩), .string (strB s)] w fun e w' => (∃ r, e = .returned (.tuple #[r, .nilIface])) ∧ Lib.IsBuilder 53 5 B b (bc (l ++ s)) w' ∧ Below B w w' := by
  obtain ⟨i0, hi, hz0, hz1, hz2⟩ := info_parts Try.info5
  have hck := check_any B b (bc l) w h
  have hss := strB_size s
  have hbl := bc_length l
  go_enter Try.func35, Try.ntmps35
  go_wp2_with fail
  refine hck.mono ?_
  rintro e w1 ⟨rfl, h1, hb1⟩
  obtain ⟨hB, v, hbk, hown, hne⟩ := h1
  have c0 : w1.cell? ⟨b, 0, none⟩ = some (.pointer (some ⟨b, 0, none⟩)) := by rw [Lib.cell_of_heap hbk]; rfl
  have c1 : w1.cell? ⟨b, 1, none⟩ = some v := by rw [Lib.cell_of_heap hbk]; rfl
  have hBw1 : B ≤ w1.heap.size := Nat.le_trans hBw hb1.size
  go_wp2_with (at_builtin; refine Lib.wpList_append_own_string _ rfl _ _ 51 9 rfl B 5 i0 Try.underlying51 Try.underlying9 hi hz0 hz1 hz2 _ _ _ rfl hown (strB s) rfl (by unfold maxLen; omega) (by omega) hBw1 ?_)
  intro v' w2 hown' hgrow _
  have hb2 : w2.heap[b]? = some (.cells #[.pointer (some ⟨b, 0, none⟩), v] 53 (0, 0)) := by
    rw [hgrow.block b (lt_of_heap hbk) (fun e => hne e.symm)]
    exact hbk
  have d0 : w2.cell? ⟨b, 0, none⟩ = some (.pointer (some ⟨b, 0, none⟩)) := by rw [Lib.cell_of_heap hb2]; rfl
  have d1 : w2.cell? ⟨b, 1, none⟩ = some v := by rw [Lib.cell_of_heap hb2]; rfl
  have f1 : w2.frozen? ⟨b, 1, none⟩ = false := Lib.frozen_of_heap hb2 1
  obtain ⟨ao, cap, rfl⟩ := own_shape hown'
  have HR := hide (And.intro hown' (And.intro hb2 (hb1.grown hgrow hBw1 (fun k hk => (hown.lt k hk).1))))
  clear hown' hb2 hgrow hbk hown hck h
  go_wp2
  go_ret2
  obtain ⟨hown', hb2, hbb⟩ := HR.out
  refine ⟨⟨_, rfl⟩, .inr ?_, hbb.setCell (p := ⟨b, 1, none⟩) hB _⟩
  have hcat : bc l ++ Lib.strCells (strB s) = bc (l ++ s) := by
    unfold Lib.strCells bc
    rw [strB_list, List.map_append]
  rw [← hcat]
  exact Lib.BuilderAt.put (T := 53) (e := 5) hB hb2 (bs' := bc l ++ Lib.strCells (strB s)) (by have hq := hown'; simp only [List.length_append, Lib.strCells_length, hss, hbl] at hq ⊢; exact hq) (by decide)
/-- What was written, read. -/
theorem string_any (B b : Nat) (l : Bs) (w : World) (h : Lib.IsBuilder 53 5 B b (bc l) w) (hBw : B ≤ w.heap.size) :
    Calls Try.prog 36 #[.pointer (some ⟨b, 0, none⟩)] w fun e w' => e = .returned (.string (strB l)) ∧ Below B w w' :=
  Try.Builder_String_any B b l w h hBw

theorem builder_keep {B b : Nat} {bs : List Value} {w w' : World} (h : Lib.IsBuilder 53 5 B b bs w) (hb : Below w.heap.size w w') : Lib.IsBuilder 53 5 B b bs w' := by
  have one : ∀ p, Lib.BuilderAt 53 5 B b p bs w → Lib.BuilderAt 53 5 B b p bs w' := by
    rintro p ⟨hB, v, hbk, hown, hne⟩
    exact ⟨hB, v, (hb.block b (lt_of_heap hbk)).trans hbk, own_keep hown hb, hne⟩
  rcases h with h | h
  · exact .inl (one _ h)
  · exact .inr (one _ h)
theorem Ts.at2 {w : World} {ao : Option Addr} {n cap : Nat} {xs : List Bs} (h : Ts w (.slice ao n cap) xs) (k : Nat) (hk : k < xs.length) :
    ∃ b off, ao = some ⟨b, off, none⟩ ∧ b < w.heap.size ∧ w.cell? ⟨b, off + k, none⟩ = some (.string (strB xs[k])) := by
  obtain ⟨ao', cap', e, h1, h2, h4⟩ := h
  injection e with e1 e2 e3
  subst e1
  obtain ⟨b, off, rfl, hb, hc⟩ := h4 (by rintro rfl; simp at hk)
  exact ⟨b, off, rfl, hb, hc k hk⟩

/-! ### lines -/
/-- Says a line nothing? -/
def silM (l : Bs) : Bool := decide (l = []) || decide (l.head? = some 35)
set_option maxRecDepth 20000 in
theorem silent_any (w : World) (l : Bs) : Calls Try.prog 59 #[.string (strB l)] w fun e w' => e = .returned (.bool (silM l)) ∧ w' = w := by
  have htl := toL l
  by_cases h0 : l = []
  · subst h0
    go_enter Try.func59, Try.ntmps59
    go_wp2
    go_ret
    exact ⟨rfl, rfl⟩
  · have b0 : (l == []) = false := by simp [h0]
    have hp := Try.strings_HasPrefix (strB l) ⟨#[35]⟩ w
    have he : Lib.hasPrefix (strB l).data.toList (ByteArray.mk #[35]).data.toList = decide (l.head? = some 35) := by
      rw [strB_list]
      show List.isPrefixOf [35] l = _
      cases l with
      | nil => rfl
      | cons c r =>
        rw [Bool.eq_iff_iff]
        simp [List.isPrefixOf]
        exact ⟨fun h => h.symm, fun h => h.symm⟩
    rw [he] at hp
    have hs : silM l = decide (l.head? = some 35) := by unfold silM; rw [decide_eq_false h0, Bool.false_or]
    rw [hs]
    clear he hs
    go_enter Try.func59, Try.ntmps59
    go_wp2_with fail
    refine hp.mono ?_
    rintro e w' ⟨rfl, rfl⟩
    go_wp2
    go_ret
    exact ⟨rfl, rfl⟩
/-- Which directory a line says. -/
def dirL (l : Bs) : Bs := if l = [42] then [] else l
def okL (l : Bs) : Bool := decide (l = [42]) || (!silM l && Pt.path l)
set_option maxRecDepth 20000 in
theorem dirOf_any (w : World) (l : Bs) (hl : l.length ≤ 4611686018427387000) : Calls Try.prog 38 #[.string (strB l)] w fun e w' => e = .returned (.tuple #[.string (strB (dirL l)), .bool (okL l)]) ∧ Below w.heap.size w w' := by
  have htl := toL l
  by_cases h1 : l = [42]
  · subst h1
    go_enter Try.func38, Try.ntmps38
    go_wp2
    go_ret2
    exact ⟨rfl, Below.refl _ _⟩
  · have b1 : (l == [42]) = false := by simp [h1]
    have hs := fun W => silent_any W l
    have hn := fun W => isNone_any W l hl
    unfold dirL okL
    rw [if_neg h1, decide_eq_false h1, Bool.false_or]
    generalize silM l = sb at *
    cases sb with
    | true =>
      go_enter Try.func38, Try.ntmps38
      go_wp2_with fail
      refine (hs _).mono ?_
      rintro e w' ⟨rfl, rfl⟩
      go_wp2
      go_ret2
      exact ⟨rfl, Below.refl _ _⟩
    | false =>
      generalize Pt.path l = p at *
      go_enter Try.func38, Try.ntmps38
      go_wp2_with fail
      refine (hs _).mono ?_
      rintro e w' ⟨rfl, rfl⟩
      go_wp2_with fail
      refine (hn _).mono ?_
      rintro e w1 ⟨rfl, hb⟩
      have HB := hide hb
      clear hb
      go_wp2
      go_ret2
      exact ⟨by simp, HB.out⟩
/-- The line that says a directory. -/
def lineM (l : Bs) : Bs := if l = [] then [42] else l
theorem said_ok {l : Bs} (_hp : Pt.path l = true) (h0 : l ≠ []) : Pt.saidM l = (decide (l ≠ [42]) && !silM l && decide (10 ∉ l)) := by
  unfold Pt.saidM silM
  rw [decide_eq_false h0, Bool.false_or]
  by_cases h : l.head? = some 35 <;> simp [h]
set_option maxRecDepth 20000 in
theorem lineOf_any (w : World) (l : Bs) (hp : Pt.path l = true) : Calls Try.prog 34 #[.string (strB l)] w fun e w' => e = .returned (.tuple #[.string (strB (lineM l)), .bool (Pt.saidM l)]) ∧ Below w.heap.size w w' := by
  have htl := toL l
  by_cases h0 : l = []
  · subst h0
    go_enter Try.func34, Try.ntmps34
    go_wp2
    go_ret2
    exact ⟨rfl, Below.refl _ _⟩
  · have b0 : (l == []) = false := by simp [h0]
    have hd := dirOf_any w l (by have := path_length hp; omega)
    rw [said_ok hp h0]
    unfold lineM
    rw [if_neg h0]
    unfold dirL okL at hd
    rw [hp, Bool.and_true] at hd
    by_cases h1 : l = [42]
    · subst h1
      have htd := toL []
      simp only [if_true] at hd
      go_enter Try.func34, Try.ntmps34
      go_wp2_with fail
      refine hd.mono ?_
      rintro e w1 ⟨rfl, hb⟩
      have HB := hide hb
      clear hb
      go_wp2
      go_ret2
      exact ⟨rfl, HB.out⟩
    · rw [if_neg h1, decide_eq_false h1, Bool.false_or] at hd
      rw [decide_eq_true h1, Bool.true_and]
      generalize silM l = sb at *
      cases sb with
      | true =>
        go_enter Try.func34, Try.ntmps34
        go_wp2_with fail
        refine hd.mono ?_
        rintro e w1 ⟨rfl, hb⟩
        have HB := hide hb
        clear hb
        go_wp2
        go_ret2
        exact ⟨rfl, HB.out⟩
      | false =>
        have hc := Try.strings_Contains_one (strB l) 10
        have he : decide (0 ≤ Lib.indexByte (strB l).data.toList 10) = decide (10 ∈ l) := by
          rw [strB_list]
          by_cases hm : (10 : UInt8) ∈ l
          · have := Pt.indexByte_neg l 10
            rw [decide_eq_false (show ¬ (10 : UInt8) ∉ l from fun h => h hm), decide_eq_false_iff_not] at this
            rw [decide_eq_true hm, decide_eq_true (by omega)]
          · have := Pt.indexByte_none hm
            rw [this, decide_eq_false hm]
            rfl
        simp only [he] at hc
        have hnn : decide (10 ∉ l) = !decide (10 ∈ l) := by simp
        rw [hnn]
        generalize decide (10 ∈ l) = mb at *
        clear he hnn
        go_enter Try.func34, Try.ntmps34
        go_wp2_with fail
        refine hd.mono ?_
        rintro e w1 ⟨rfl, hb⟩
        have HB := hide hb
        clear hb
        go_wp2_with fail
        refine (hc w1).mono ?_
        rintro e w2 ⟨rfl, rfl⟩
        go_wp2
        go_ret2
        exact ⟨by simp, HB.out⟩
end Go.Proofs.Ytkihldkaiddbkaa
