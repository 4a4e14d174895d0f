/-
  What Turn answers, and does. Condition: a disk within bounds.
-/
import Derived.Test.YtlejgdjkdbamkaaJStands
namespace Go.Proofs.Ytlejgdjkdbamkaa
open Go.RowKit

section
variable {w w' : World} {F : Nat → Prop} {d : Nat} {S : Dk} {G : Gh}

theorem rep_look (h : Rep w F d S G) (n : Nm) : (Instr.lookup 62 (.map G.now) (.string (strB n)) false).run Try.prog w = .ok (pv G.fb (look S.dir n)) w := by
  cases e : G.now with
  | some b => exact now_map h e n
  | none =>
    have hm := h.now
    rw [e] at hm
    have h2 : dv G.fb S.dir = [] := hm
    have h3 : S.dir = [] := List.map_eq_nil_iff.1 h2
    rw [h3]
    exact dir_look_nil w n

set_option maxRecDepth 20000 in
theorem turn_none (h : Rep w F d S G) (n : Nm) (at_ : Int) (b : UInt8) (hl : look S.dir n = none) : Calls Try.prog 32 #[.pointer (some ⟨d, 0, none⟩), .string (strB n), .int .i64 at_, .int .u8 (b.toNat : Int)] w fun e w' => e = .returned (.int .i64 2) ∧ w' = w := by
  have hd := h.disk
  unfold dcells at hd
  have x2 := cell_of hd 2
  have hlk := rep_look h n
  rw [hl] at hlk
  have hlk' : (Instr.lookup 62 (.map G.now) (.string (strB n)) false).run Try.prog w = .ok (.pointer none) w := hlk
  clear hlk
  go_enter Try.func32, Try.ntmps32
  go_wp2
  go_ret
  exact ⟨rfl, rfl⟩

set_option maxRecDepth 20000 in
theorem turn_out (h : Rep w F d S G) (n : Nm) (at_ : Int) (b : UInt8) {f : Nat} (hl : look S.dir n = some f) (ho : at_ < 0 ∨ ((S.bytes f).length : Int) ≤ at_) : Calls Try.prog 32 #[.pointer (some ⟨d, 0, none⟩), .string (strB n), .int .i64 at_, .int .u8 (b.toNat : Int)] w fun e w' => e = .returned (.int .i64 2) ∧ w' = w := by
  have hd := h.disk
  unfold dcells at hd
  have x2 := cell_of hd 2
  have hlk := rep_look h n
  rw [hl] at hlk
  have hlk' : (Instr.lookup 62 (.map G.now) (.string (strB n)) false).run Try.prog w = .ok (.pointer (some ⟨G.fb f, 0, none⟩)) w := hlk
  obtain ⟨x, hx, hbx, hlv, f2, b2⟩ := h.file hl
  obtain ⟨ra, rc, hrv⟩ := own_shape b2
  rw [hrv] at f2
  have y0 := cell_of f2 0
  rw [hbx] at ho
  clear hlk f2 b2 hrv hbx
  obtain ⟨len, hlen⟩ : ∃ len, len = x.b.length := ⟨_, rfl⟩
  rw [← hlen] at y0 ho
  clear hlen
  rcases Int.lt_or_le at_ 0 with hlt | hlt
  all_goals
    go_enter Try.func32, Try.ntmps32
    go_wp2
    go_ret
    exact ⟨rfl, rfl⟩
end
end Go.Proofs.Ytlejgdjkdbamkaa
