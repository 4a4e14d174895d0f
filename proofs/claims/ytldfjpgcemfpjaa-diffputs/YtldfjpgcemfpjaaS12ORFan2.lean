/-
  Texts joined: ORFan2, ORBegun, ORTake.
-/
import Derived.Test.YtldfjpgcemfpjaaS11ORFan
/-
  A fan, made by the reference. Conditions: its parts lie there; its level is a number of 64 bits.
-/
namespace Go.Proofs.Ytldfjpgcemfpjaa
open Go.RowKit

/-- A row of its own, made since B. -/
def Ow (B : Nat) (w : World) (v : Value) (l : Bs) : Prop := w.ownsRow B 5 1 v l.length (bc l)
theorem Ow.sl {B : Nat} {w : World} {v : Value} {l : Bs} (h : Ow B w v l) : Sl w v l := sl_of_own h
theorem Ow.keep {B : Nat} {w w' : World} {v : Value} {l : Bs} (h : Ow B w v l) (hb : Below w.heap.size w w') : Ow B w' v l :=
  World.ownsRow.kept (row := none) h ⟨hb.os, hb.tape, hb.output, hb.size, fun k hk _ => hb.block k hk⟩ (by cases hq : v.ownBlock with | none => exact .inl rfl | some k => exact .inr (by simp))
theorem Ow.app {B B' : Nat} {w : World} {v u : Value} {l m : Bs} (h : Ow B w v l) (k : Ow B' w u m) (hm : 1 ≤ m.length) (hsz : l.length + m.length ≤ 140737488355328) (hB : B ≤ w.heap.size) :
    ∃ v' w', (Builtin.append_ #[93, 93] 93 #[v, u]).run Try.prog w = .ok v' w' ∧ Ow B w' v' (l ++ m) ∧ Below B w w' := by
  obtain ⟨i0, hi, hz0, hz1, hz2⟩ := info_parts Try.infoB
  have hk2 := k.2
  rcases hk2 with ⟨rfl, h0⟩ | ⟨g4, cap4, cur4, rfl, -, -, -, -, -, -⟩
  · omega
  obtain ⟨v5, w5, hrun5, own5, hgr5, -⟩ := run_append_own (P := Try.prog) w B 93 93 5 i0 (.int .u8 0) 1 1 Try.underlying93 hi hz0 hz1 hz2 rfl (by decide) v l.length (bc l) h ⟨g4, 0, none⟩ m.length cap4 (bc m) (by rw [bc_length]; omega) (World.ownsRow.cells k (g := g4) rfl) (bc_one _) (by unfold maxLen; omega) (by omega) hB
  rw [← bc_append, ← List.length_append] at own5
  exact ⟨v5, w5, hrun5, own5, (Below.refl _ _).grown hgr5 hB (fun q hq => (World.ownsRow.lt h q hq).1)⟩
theorem Ow.str {B : Nat} {w : World} {v : Value} {l m : Bs} (h : Ow B w v l) (hsz : l.length + m.length ≤ 140737488355328) (hB : B ≤ w.heap.size) :
    ∃ v' w', (Builtin.append_ #[93, 9] 93 #[v, .string (strB m)]).run Try.prog w = .ok v' w' ∧ Ow B w' v' (l ++ m) ∧ Below B w w' := by
  obtain ⟨i0, hi, hz0, hz1, hz2⟩ := info_parts Try.infoB
  have hds := strB_size m
  obtain ⟨v3, w3, hrun, own3, hgr3, -⟩ := Lib.run_append_own_string (P := Try.prog) w B 93 9 93 5 i0 Try.underlying93 Try.underlying9 hi hz0 hz1 hz2 v l.length (bc l) h (strB m) (by unfold maxLen; omega) (by omega) hB
  have e3 : Lib.strCells (strB m) = bc m := by show bc (strB m).data.toList = _; rw [strB_list]
  rw [e3, ← bc_append, hds, ← List.length_append] at own3
  exact ⟨v3, w3, hrun, own3, (Below.refl _ _).grown hgr3 hB (fun q hq => (World.ownsRow.lt h q hq).1)⟩
theorem Ow.form {B : Nat} {w : World} {v : Value} {l : Bs} (h : Ow B w v l) : ∃ a n c, v = .slice a n c := by
  obtain ⟨a, c, h1, -⟩ := own_form h
  exact ⟨a, _, c, h1⟩
theorem rnum_any (w : World) (n : Int) (h : In64 n) : Calls Try.prog 40 #[.int .i64 n] w fun e w' => ∃ v, e = .returned v ∧ Ow w.heap.size w' v (num n) ∧ Below w.heap.size w w' := rnumber_any w n h
theorem ow_one (w : World) (c : UInt8) : Ow w.heap.size (w.alloc (.cells #[.int .u8 (c.toNat : Int)] 5)) (.slice (some ⟨w.heap.size, 0, none⟩) 1 1) [c] := own_one w c
end Go.Proofs.Ytldfjpgcemfpjaa

/-
  The reference's reader begun, counts, a chunk read. Conditions: lengths within reach.
-/
namespace Go.Proofs.Ytldfjpgcemfpjaa
open Go.RowKit
variable {N : Nat}

end Go.Proofs.Ytldfjpgcemfpjaa

/-
  What bytes behind a mark say, as the reference reads them: the same. Conditions: lengths within reach.
-/
namespace Go.Proofs.Ytldfjpgcemfpjaa
open Go.RowKit
variable {N : Nat}

theorem Rr.grown {a b : World} {g : Nat} {l : Bs} {s : Pos} {row : Option Nat} (h : Rr N a g l s) (k : a.grownBy b row) (hrow : ∀ q, row = some q → g < q) : Rr N b g l s := by
  have hl := h.lt
  obtain ⟨v, p, h1, h2, h3⟩ := h
  exact ⟨v, p, (k.block g hl (fun e => by have := hrow g e.symm; omega)).trans h1, fun w' hu => h2 w' (und_trans ⟨k.size, fun j _ hj => k.block j (by omega) (fun e => by have := hrow j e.symm; omega)⟩ hu), h3⟩
theorem Rr.heap {w : World} {g : Nat} {l : Bs} {s : Pos} (h : Rr N w g l s) : ∃ cs, w.heap[g]? = some (.cells cs 143) := by
  obtain ⟨v, p, h1, _⟩ := h
  exact ⟨_, h1⟩
theorem Rr.bad {w : World} {g : Nat} {l : Bs} {s : Pos} (h : Rr N w g l s) : w.cell? ⟨g, 2, none⟩ = some (.bool s.isNone) := by
  obtain ⟨v, p, h1, _⟩ := h
  exact rc (i := 2) h1 rfl
end Go.Proofs.Ytldfjpgcemfpjaa
