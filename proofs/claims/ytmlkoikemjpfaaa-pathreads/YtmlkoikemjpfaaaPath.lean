/-
  What Parse, Join, Split and Within answer. Conditions: lengths within reach.
-/
import Derived.Test.YtmlkoikemjpfaaaCollect
import Derived.Deep.Onto
namespace Go.Proofs.Ytmlkoikemjpfaaa
open Go.RowKit

theorem enter23 : ∀ args w, (callFunc 23 args).run Try.prog w = .ok (.enter 23 args) w := enters_of Try.func23 (by kernel_rfl) rfl
theorem enter37 : ∀ args w, (callFunc 37 args).run Try.prog w = .ok (.enter 37 args) w := enters_of Try.func37 (by kernel_rfl) rfl

theorem cut_length (l : List UInt8) : (Pt.cut l).length ≤ l.length + 1 := by
  induction l with
  | nil => simp [Pt.cut]
  | cons c t ih =>
    by_cases hc : c = 47
    · subst hc; rw [Pt.cut_slash]; simp; exact ih
    · cases he : Pt.cut t with
      | nil => exact absurd he (Pt.cut_ne t)
      | cons a b => rw [Pt.cut_cons hc he]; rw [he] at ih; simp at ih ⊢; omega
theorem parts_length (l : List UInt8) : (Pt.parts l).length ≤ l.length + 1 := by
  unfold Pt.parts
  split
  · simp
  · exact cut_length l

/-- fewNames of a text's parts. -/
theorem fewPath_any (w : World) (l : List UInt8) (hl : l.length ≤ 4611686018427387000) :
    Calls Try.prog 24 #[.func (.func 23) #[.string (strB l)] #[]] w fun e w' => e = .returned (.bool (Pt.path l)) ∧ Below w.heap.size w w' :=
  few_any w _ _ _ enter23 (Pt.parts l) (by have := parts_length l; omega) (parts_gives l (by omega) w)

set_option maxRecDepth 20000 in
theorem parse_bad (w : World) (l : List UInt8) (hl : l.length ≤ 4611686018427387000) (h : Pt.path l = false) :
    Calls Try.prog 10 #[.string (strB l)] w fun e w' => e = .returned (.tuple #[.slice none 0 0, .int .i64 40]) ∧ Below w.heap.size w w' := by
  have hf := fewPath_any w l hl
  rw [h] at hf
  go_enter Try.func10, Try.ntmps10
  go_wp2_with fail
  refine hf.mono ?_
  rintro e w1 ⟨rfl, hb⟩
  go_wp2
  go_ret2
  exact ⟨rfl, hb⟩
set_option maxRecDepth 20000 in
theorem parse_ok (w : World) (l : List UInt8) (hl : l.length ≤ 4611686018427387000) (h : Pt.path l = true) :
    Calls Try.prog 10 #[.string (strB l)] w fun e w' => ∃ v, e = .returned (.tuple #[v, .int .i64 0]) ∧ w'.ownsRow w.heap.size 9 1 v (Pt.parts l).length (tc (Pt.parts l)) ∧ Below w.heap.size w w' := by
  have hf := fewPath_any w l hl
  rw [h] at hf
  have hlen := Pt.few_len h
  have hc := fun W => collect_any W _ _ _ enter23 (Pt.parts l) hlen (parts_gives l (by omega) W)
  go_enter Try.func10, Try.ntmps10
  go_wp2_with fail
  refine hf.mono ?_
  rintro e w1 ⟨rfl, hb⟩
  go_wp2_with fail
  refine (hc w1).mono ?_
  rintro e w2 ⟨v, rfl, hv, hb2⟩
  go_wp2
  go_ret2
  refine ⟨v, rfl, ?_, hb.trans (hb2.mono hb.size)⟩
  exact World.ownsRow.mono hv hb.size

/-! ### Join -/
theorem joined_eq (ps : List (List UInt8)) : Lib.join ps [47] = Pt.joined ps := by
  induction ps with
  | nil => rfl
  | cons p q ih =>
    by_cases hq : q = []
    · subst hq; rw [Lib.join_one]; rfl
    · obtain ⟨a, b, rfl⟩ := List.exists_cons_of_ne_nil hq
      rw [Pt.joined_cons hq, ← ih, Lib.join_cons, Lib.join_cons]
      simp [Lib.joinTail]
theorem joined_length {ps : List (List UInt8)} (h : ∀ p ∈ ps, p.length ≤ 64) : (Pt.joined ps).length ≤ 65 * ps.length := by
  induction ps with
  | nil => simp [Pt.joined]
  | cons p q ih =>
    have h1 := h p (by simp)
    have h2 := ih fun x hx => h x (by simp [hx])
    by_cases hq : q = []
    · subst hq; simp [Pt.joined]; omega
    · rw [Pt.joined_cons hq]; simp; omega
theorem few_length {ps : List (List UInt8)} (h : Pt.few ps = true) : (Pt.joined ps).length ≤ 1040 := by
  have h1 := joined_length (ps := ps) fun p hp => Pt.name_le (Pt.few_all h p hp)
  have h2 := Pt.few_len h
  omega

/-- strings.Join of a slice's texts. -/
theorem joins_any (w : World) (v : Value) (ps : List (List UInt8)) (h : Ts w v ps) (hf : Pt.few ps = true) :
    Calls Try.prog 28 #[v, .string ⟨#[47]⟩] w fun e w' => e = .returned (.string (strB (Pt.joined ps))) ∧ Below w.heap.size w w' := by
  obtain ⟨ao, cap, rfl, h1, h2, h4⟩ := h
  by_cases h0 : ps = []
  · subst h0
    refine (Try.strings_Join_none ao cap ⟨#[47]⟩ w).mono ?_
    rintro e w' ⟨rfl, rfl⟩
    exact ⟨rfl, Below.refl _ _⟩
  · obtain ⟨b, off, rfl, hb, hc⟩ := h4 h0
    have hm : (ps.map strB).map (·.data.toList) = ps := by
      rw [List.map_map]
      exact (List.map_congr_left fun x _ => strB_list x).trans (List.map_id ps)
    have hj := Try.strings_Join b off cap (ps.map strB) ⟨#[47]⟩ w
      (fun j x hx => by
        obtain ⟨hlt, rfl⟩ := List.getElem?_eq_some_iff.1 hx
        simp at hlt
        rw [hc j hlt]
        simp) hb (by have := Pt.few_len hf; simp; omega) (by simpa using h1)
      (by rw [hm]; show (Lib.join ps [47]).length ≤ _; rw [joined_eq]; have := few_length hf; omega)
    rw [hm, List.length_map] at hj
    refine hj.mono ?_
    rintro e w' ⟨rfl, hb'⟩
    refine ⟨?_, hb'⟩
    rw [show (ByteArray.mk #[47]).data.toList = [47] from rfl, joined_eq]
    rfl

set_option maxRecDepth 20000 in
theorem join_any (w : World) (v : Value) (ps : List (List UInt8)) (h : Ts w v ps) (hx : ps.length ≤ 4611686018427387904) :
    Calls Try.prog 15 #[v] w fun e w' => (e = .returned (if Pt.few ps = true then .tuple #[.string (strB (Pt.joined ps)), .int .i64 0] else .tuple #[.string (strB []), .int .i64 40])) ∧ Below w.heap.size w w' := by
  have h' := h
  obtain ⟨ao, cap, rfl, -, -, -⟩ := h'
  have hb0 : Below w.heap.size w (w.alloc (.cells #[.slice ao ps.length cap] 23)) := (Below.refl _ w).alloc (Nat.le_refl _) _
  have h2 := h.keep hb0
  have hf := few_any _ _ _ _ enter37 ps hx (values_gives (w.alloc (.cells #[.slice ao ps.length cap] 23)) w.heap.size _ ps (by simp) (Boxed.new w 23 _).cell h2 hx)
  cases hp : Pt.few ps with
  | false =>
    rw [hp] at hf
    go_enter Try.func15, Try.ntmps15
    go_wp2_with fail
    refine (values_any w ao ps.length cap).mono ?_
    rintro e w1 ⟨rfl, rfl⟩
    go_wp2_with fail
    refine hf.mono ?_
    rintro e w2 ⟨rfl, hb2⟩
    go_wp2
    go_ret2
    exact ⟨rfl, hb0.trans (hb2.mono hb0.size)⟩
  | true =>
    rw [hp] at hf
    go_enter Try.func15, Try.ntmps15
    go_wp2_with fail
    refine (values_any w ao ps.length cap).mono ?_
    rintro e w1 ⟨rfl, rfl⟩
    go_wp2_with fail
    refine hf.mono ?_
    rintro e w2 ⟨rfl, hb2⟩
    have hb2' := hb0.trans (hb2.mono hb0.size)
    go_wp2_with fail
    refine (joins_any w2 _ ps (h.keep hb2') hp).mono ?_
    rintro e w3 ⟨rfl, hb3⟩
    go_wp2
    go_ret2
    exact ⟨rfl, hb2'.trans (hb3.mono hb2'.size)⟩
end Go.Proofs.Ytmlkoikemjpfaaa
