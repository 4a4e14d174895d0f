/-
  A chunk read by the reference; the answers' forms. Conditions: lengths within reach.
-/
import Derived.Test.YtdbmngbinhemeabGreatDoorRQ5
import Derived.Test.YtdbmngbinhemeabGreatDoorROSame
namespace Go.Proofs.YtdbmngbinhemeabGreatDoor
open Go.RowKit

/-- What TakeChunk answers. -/
def chunkV (b : Bs) : Value := match takenChunk b with | some d => .tuple #[.string (strB d), .int .i64 0] | none => .tuple #[.string (strB []), .int .i64 81]
theorem chunkV_form (b : Bs) : ∃ s k, chunkV b = .tuple #[.string (strB s), .int .i64 k] := by
  unfold chunkV
  cases takenChunk b with
  | none => exact ⟨[], 81, rfl⟩
  | some d => exact ⟨d, 0, rfl⟩
theorem chunkV_no {b : Bs} (h : takenChunk b = none) : chunkV b = .tuple #[.string ⟨#[]⟩, .int .i64 81] := by unfold chunkV; rw [h]; rfl
set_option maxRecDepth 20000 in
set_option maxHeartbeats 800000 in
theorem rtakeChunk_any (w : World) (b : Bs) (hb : b.length ≤ 140737488351232) :
    Calls Tryz.prog 14 #[.string (strB b)] w fun e w' => e = .returned (chunkV b) ∧ Below w.heap.size w w' := by
  have hs := strB_size b
  cases b with
  | nil =>
    rw [chunkV_no rfl]
    go_enter Tryz.func14, Tryz.ntmps14
    go_wp2
    go_ret2
    exact ⟨rfl, Below.refl _ _⟩
  | cons x r =>
    have hix : ∀ W, (Instr.index 9 (.string (strB (x :: r))) (.int .i64 0)).run Tryz.prog W = .ok (.int .u8 (x.toNat : Int)) W := fun W => index_str W (x :: r) .i64 0 (by simp)
    have hpos : 1 ≤ (x :: r).length := by simp
    by_cases hx : x = 67
    · subst hx
      by_cases hl : (67 :: r).length ≤ 1025
      · have hv : chunkV (67 :: r) = .tuple #[.string (strB r), .int .i64 0] := by
          have : takenChunk (67 :: r) = some r := (takenChunk_iff _ r).2 ⟨by unfold chunkOk; simp at hl ⊢; omega, rfl⟩
          unfold chunkV; rw [this]
        rw [hv]
        have hex := ext_strB (67 :: r) 1 (67 :: r).length
        rw [List.take_length, show (67 :: r).drop 1 = r from rfl] at hex
        generalize (67 :: r) = l at *
        have hz : ((l.length : Int) == 0) = false := by rw [beq_eq_false_iff_ne]; omega
        go_enter Tryz.func14, Tryz.ntmps14
        go_wp2
        go_ret2
        exact ⟨rfl, Below.refl _ _⟩
      · have hv : takenChunk (67 :: r) = none := by
          cases h' : takenChunk (67 :: r) with
          | none => rfl
          | some d =>
            obtain ⟨h1, h2⟩ := (takenChunk_iff _ d).1 h'
            unfold chunkOk at h1
            injection h2 with _ h2
            subst h2
            simp at h1 hl
            omega
        rw [chunkV_no hv]
        generalize (67 :: r) = l at *
        have hz : ((l.length : Int) == 0) = false := by rw [beq_eq_false_iff_ne]; omega
        go_enter Tryz.func14, Tryz.ntmps14
        go_wp2
        go_ret2
        exact ⟨rfl, Below.refl _ _⟩
    · have hv : takenChunk (x :: r) = none := by
        cases h' : takenChunk (x :: r) with
        | none => rfl
        | some d =>
          have h2 := ((takenChunk_iff _ d).1 h').2
          injection h2 with h2 _
          exact absurd h2 hx
      rw [chunkV_no hv]
      have hne : ¬ (((x.toNat : Nat) : Int) = 67) := fun h => hx ((bool_neq x 67).1 h)
      have hxc : (((x.toNat : Nat) : Int) != 67) = true := by simpa using hne
      generalize (x :: r) = l at *
      have hz : ((l.length : Int) == 0) = false := by rw [beq_eq_false_iff_ne]; omega
      go_enter Tryz.func14, Tryz.ntmps14
      go_wp2
      go_ret2
      exact ⟨rfl, Below.refl _ _⟩
theorem fanSaid_form (b : Bs) : ∃ (n : Int) (xs : List Part) (k : Int), ∀ B e w', fanSaid B b e w' → ∃ v, e = .returned (.tuple #[.agg #[.int .i64 n, v], .int .i64 k]) ∧ Ls w'.heap.size w' 2 partC v xs := by
  unfold fanSaid
  cases takenFan b with
  | none => exact ⟨0, [], 81, fun B e w' he => ⟨_, he, Ls.nil _ _ _ _⟩⟩
  | some f => exact ⟨f.1, f.2, 0, fun B e w' ⟨v, he, ho⟩ => ⟨v, he, ls_of_own partC_length ho⟩⟩
end Go.Proofs.YtdbmngbinhemeabGreatDoor
