/-
  The document's examples at each statement's head answer true. Conditions: none.
-/
import Derived.Test.YthkhmjdenenikaaCuts
namespace Go.Proofs.Ythkhmjdenenikaa
open Go.RowKit

theorem cuts_short {l : List UInt8} (h : l.length ≤ 64) (h0 : l ≠ []) : cuts l = [l.length] := by
  have hd : Hd ([] ++ l) := fun n hn => ended_short (by simp; omega)
  unfold cuts chunks
  rw [spl_hd [] l [] hd]
  unfold Sp.all
  simp [h0, sums]

/-- Sixty-four letters. -/
def aaa : List UInt8 := [97, 97, 97, 97, 97, 97, 97, 97, 97, 97, 97, 97, 97, 97, 97, 97, 97, 97, 97, 97, 97, 97, 97, 97, 97, 97, 97, 97, 97, 97, 97, 97, 97, 97, 97, 97, 97, 97, 97, 97, 97, 97, 97, 97, 97, 97, 97, 97, 97, 97, 97, 97, 97, 97, 97, 97, 97, 97, 97, 97, 97, 97, 97, 97]
set_option maxRecDepth 20000 in
theorem shown_any (w : World) : Calls Try.prog 9 #[] w fun e w' => e = .returned (.bool true) ∧ Below w.heap.size w w' := by
  have hc := cuts_any w aaa (by decide)
  rw [cuts_short (by decide) (by decide)] at hc
  have ht := fun W => table_any W 0
  have h0 : u (tab 0) = 16294208416658607535 := by decide +kernel
  rw [h0] at ht
  have hl : aaa.length = 64 := rfl
  rw [hl] at hc
  have es : strB aaa = ⟨#[97, 97, 97, 97, 97, 97, 97, 97, 97, 97, 97, 97, 97, 97, 97, 97, 97, 97, 97, 97, 97, 97, 97, 97, 97, 97, 97, 97, 97, 97, 97, 97, 97, 97, 97, 97, 97, 97, 97, 97, 97, 97, 97, 97, 97, 97, 97, 97, 97, 97, 97, 97, 97, 97, 97, 97, 97, 97, 97, 97, 97, 97, 97, 97]⟩ := rfl
  rw [es] at hc
  clear es hl h0
  go_enter Try.func9, Try.ntmps9
  go_wp2_with fail
  refine hc.mono ?_
  rintro e w1 ⟨v, rfl, hv, hb⟩
  obtain ⟨ao, cap, rfl, c1, c2, hx⟩ := own_form hv
  obtain ⟨g, rfl, hg1, hg2, hcell⟩ := hx (by simp)
  have h64 := hcell 0 _ rfl
  simp only [List.length_singleton] at c1
  simp only [List.length_singleton]
  clear hv hcell hc hx
  go_wp2_with fail
  refine (ht _).mono ?_
  rintro e w2 ⟨rfl, rfl⟩
  go_wp2
  go_ret
  exact ⟨rfl, hb⟩
end Go.Proofs.Ythkhmjdenenikaa
