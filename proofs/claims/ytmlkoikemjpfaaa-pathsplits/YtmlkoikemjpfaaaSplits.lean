/-
  PathSplits' walk: which directory and last part a path has, and what lies within what, is as the document says. Conditions: lengths within reach.
-/
import Derived.Test.YtmlkoikemjpfaaaRefWithin
namespace Go.Proofs.Ytmlkoikemjpfaaa
open Go.RowKit

/-- What Split answers, part by part. -/
theorem splitA_form (l : List UInt8) : ∃ a b n, splitA l = .tuple #[.string (strB a), .string (strB b), .int .i64 n] := by
  unfold splitA
  split
  · exact ⟨_, _, _, rfl⟩
  · exact ⟨_, _, _, rfl⟩

set_option maxRecDepth 20000 in
theorem splits_any (w : World) (l d : List UInt8) (hl : l.length ≤ 4611686018427387000) (hd : d.length ≤ 4611686018427387000) :
    Calls Try.prog 5 #[.string (strB l), .string (strB d)] w fun e w' => e = .returned (.bool true) ∧ Below w.heap.size w w' := by
  have s1 := fun W => split_any W l hl
  have s2 := fun W => rsplit_any W l hl
  have p1 := fun W => within_any W d l hl
  have p2 := fun W => rwithin_any W d l hd hl
  have q1 := fun W => within_any W l d hd
  have q2 := fun W => rwithin_any W l d hl hd
  obtain ⟨a, b, n, hs⟩ := splitA_form l
  rw [hs] at s1 s2
  have ta := toL a
  have tb := toL b
  go_enter Try.func5, Try.ntmps5
  go_wp2_with fail
  refine (shown_any w).mono ?_
  rintro e w1 ⟨rfl, hB1⟩
  go_wp2_with fail
  refine (s1 w1).mono ?_
  rintro e w2 ⟨rfl, hb2⟩
  have hB2 := hB1.trans (hb2.mono hB1.size)
  go_wp2_with fail
  refine (s2 w2).mono ?_
  rintro e w3 ⟨rfl, hb3⟩
  have hB3 := hB2.trans (hb3.mono hB2.size)
  go_wp2_with fail
  refine (p1 w3).mono ?_
  rintro e w4 ⟨rfl, hb4⟩
  have hB4 := hB3.trans (hb4.mono hB3.size)
  go_wp2_with fail
  refine (p2 w4).mono ?_
  rintro e w5 ⟨rfl, hb5⟩
  have hB5 := hB4.trans (hb5.mono hB4.size)
  go_wp2_with fail
  refine (q1 w5).mono ?_
  rintro e w6 ⟨rfl, hb6⟩
  have hB6 := hB5.trans (hb6.mono hB5.size)
  go_wp2_with fail
  refine (q2 w6).mono ?_
  rintro e w7 ⟨rfl, hb7⟩
  have hB7 := hB6.trans (hb7.mono hB6.size)
  go_wp2
  go_ret
  exact ⟨rfl, hB7⟩
end Go.Proofs.Ytmlkoikemjpfaaa
