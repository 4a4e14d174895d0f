/-
  An entry that came in, out of its reading. No condition.
-/
import Derived.Test.YtmlfonmdiimdfaaDoorODoor
namespace Go.Proofs.YtmlfonmdiimdfaaDoor
open Go.ChangeShapes Go.WideShapes Go.ChangeAt Go.RowKit
open Go.ChangeMaps (open_string shut_string)

theorem cellsEntry : Tryd.prog.cellsOf 61 = 4 := by kernel_rfl
set_option maxRecDepth 100000 in
theorem open_entry {H : Type} {enc : TypeId × Value → H} {W : World} {b0 : Nat} {v : Value} {d : DataW H} {ps : List MemPlace} (hval : Value.okWide Tryd.prog W .any b0 61 v) (h : DataW.Trod enc Tryd.prog W 0 (fun _ => true) true 61 v d ps) :
    ∃ c : Bs × Val, v = .agg #[.string (strB c.1), .int .i64 c.2.1, .string (strB c.2.2.1), .int .i64 c.2.2.2] := by
  obtain ⟨cs, rfl, hcs⟩ := okWide_struct Tryd.underlying61 hval
  obtain ⟨fuel, hf⟩ := h
  rw [cellsEntry] at hcs
  obtain ⟨cs⟩ := cs
  obtain ⟨xs, k, hk, hxy, _, hxl, hg⟩ := DataW.trod_struct Tryd.underlying61 hf
  match xs, hxl, cs, hcs with
  | [y0, y1, y2, y3], _, [v0, v1, v2, v3], _ =>
    have g0 := hg 0 _ rfl
    have g1 := hg 1 _ rfl
    have g2 := hg 2 _ rfl
    have g3 := hg 3 _ rfl
    simp [cellsS, cellsN, cellsI, Value.cells] at g0 g1 g2 g3
    obtain ⟨s0, e0, -⟩ := DataW.trod_string Tryd.underlying9 g0
    obtain ⟨n1, e1, -, w1⟩ := DataW.trod_int Tryd.underlying3 g1
    obtain ⟨s2, e2, -⟩ := DataW.trod_string Tryd.underlying9 g2
    obtain ⟨n3, e3, -, w3⟩ := DataW.trod_int Tryd.underlying2 g3
    simp at e0 e1 e2 e3
    subst e0 e1 e2 e3
    exact ⟨(s0.data.toList, (n1, (s2.data.toList, n3))), by simp [strB_of]⟩
end Go.Proofs.YtmlfonmdiimdfaaDoor
