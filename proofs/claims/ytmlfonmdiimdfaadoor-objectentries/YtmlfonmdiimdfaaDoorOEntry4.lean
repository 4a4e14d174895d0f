/-
  Values read by the reference; entries held against each other. Conditions: lengths within reach.
-/
import Derived.Test.YtmlfonmdiimdfaaDoorOEntry3
namespace Go.Proofs.YtmlfonmdiimdfaaDoor
open Go.RowKit

/-- As the reference reads them. -/
def hVal (l : Bs) : Pos → Val × Pos := rP (rI l) (rPart l)
theorem fmValI (l : Bs) : Fm l (hVal l) valB (fun v => In64 v.1 ∧ (v.2.1.length = 32 ∧ In64 v.2.2)) := (fmI l).both (fmPart l)
theorem entryOk_kind {name : Bs} {v : Val} (h : entryOk name v = true) : 0 ≤ v.1 ∧ v.1 ≤ 2 := by
  unfold entryOk valOk sizeOk at h
  simp only [Bool.and_eq_true] at h
  obtain ⟨_, _, h2⟩ := h
  split at h2
  · omega
  · split at h2
    · omega
    · cases h2
theorem takenEntry_said (name val : Bs) : takenEntry name val = said gVal (entryOk name) val := rfl
theorem taken_alike (name val : Bs) : said hVal (entryOk name) val = takenEntry name val := by
  rw [takenEntry_said]
  refine Option.ext fun v => ?_
  rw [said_iff (fmValI val) (fun x hx => ?_) v, said_iff (fmVal val) (fun x hx => ?_) v]
  · obtain ⟨_, h2, h3⟩ := entryOk_64 hx
    exact ⟨entryOk_kind hx, h3, h2⟩
  · obtain ⟨h1, h2, h3⟩ := entryOk_64 hx
    exact ⟨h1, h3, h2⟩

theorem Tryd.eqEnt : Tryd.prog.underlying 61 = some (.struct (Tryd.prog.fieldsOf 61)) ∧ Tryd.prog.stoodInHeld 61 = false ∧ Tryd.prog.eqGuardType Tryd.prog.depth 61 = false := ⟨by kernel_rfl, by kernel_rfl, by kernel_rfl⟩
theorem eql_Ent (W : World) (a0 : Bs) (a1 : Int) (a2 : Bs) (a3 : Int) : (binOp .eql 61 (.agg #[.string (strB a0), .int .i64 a1, .string (strB a2), .int .i64 a3]) (.agg #[.string (strB a0), .int .i64 a1, .string (strB a2), .int .i64 a3])).run Tryd.prog W = .ok (.bool true) W := by
  obtain ⟨h1, h2, h3⟩ := Tryd.eqEnt
  rw [run_eql_struct, run_equalIn_agg _ _ _ _ _ h1 h2]
  simp only [Program.fieldsOf, Tryd.underlying61]
  simp [Op.eqFields, go_sem, Tryd.underlying9, Tryd.underlying2, Tryd.underlying3, toL]
end Go.Proofs.YtmlfonmdiimdfaaDoor
