/-
  Objects of parts; chunks made and read. Conditions: the table holds its numbers; lengths within reach.
-/
import Derived.Test.YtdbmngbinhemeabGreatDoorROTop4
namespace Go.Proofs.YtdbmngbinhemeabGreatDoor
open Go.RowKit

set_option maxRecDepth 20000 in
theorem of_any (w : World) (v : Value) (ps : List Bs) (hv : Ls w.heap.size w 1 idC v ps) (hT : TabW w) (hsz : ps.flatten.length ≤ 140737488355328) :
    Calls Tryz.prog 8 #[v] w fun e w' => e = .returned (objV ps.flatten) ∧ Below w.heap.size w w' := by
  have h0 := hT.1
  have hb0 : Below w.heap.size w (w.alloc (.cells #[.string ⟨#[]⟩, .string ⟨#[]⟩] 30)) := (Below.refl _ _).alloc (Nat.le_refl _) _
  have hx0 := heap_last w (.cells #[.string ⟨#[]⟩, .string ⟨#[]⟩] 30) _ rfl
  have hw := write_any _ v ps (hv.past hb0) hsz
  have hob : ∀ (W : World) (g : Nat) (u : Value), W.cell? ⟨g, 0, none⟩ = some u → Sl W u ps.flatten → g < W.heap.size → TabW W → Calls Tryz.prog 22 #[.pointer (some ⟨g, 0, none⟩)] W fun e w' => e = .returned (objV ps.flatten) ∧ Below W.heap.size W w' := fun W g u h1 h2 h3 h4 => object_any W g u _ h1 h2 h3 h4 hsz
  rw [objV_def] at hob ⊢
  generalize sha ps.flatten = S at *
  have hn0 : (w.alloc (.cells #[.string ⟨#[]⟩, .string ⟨#[]⟩] 30)).heap.size = w.heap.size + 1 := by simp
  generalize hw0 : w.alloc (.cells #[.string ⟨#[]⟩, .string ⟨#[]⟩] 30) = w0 at *
  obtain ⟨ao, cap, rfl, -⟩ := hv
  go_enter Tryz.func8, Tryz.ntmps8
  go_wp2_with fail
  try rw [hw0]
  refine hw.mono ?_
  rintro e w1 ⟨g, rfl, hW1, hb1⟩
  have hx1 := (hb1.block _ (lt_of_heap hx0)).trans hx0
  have hB1 := hb0.trans (hb1.mono hb0.size)
  obtain ⟨u4, hc4, hsl4⟩ := hW1.sl
  have hOB := hob w1 g u4 hc4 hsl4 hW1.lt (hT.keep hB1 h0)
  clear hw hb1 hW1 hob hc4 hsl4
  go_wp2_with fail
  refine hOB.mono ?_
  rintro e w5 ⟨rfl, hb5⟩
  have hx5 := (hb5.block _ (lt_of_heap hx1)).trans hx1
  have hbA5 := hB1.trans (hb5.mono hB1.size)
  have c0 := cell_of_row w5 w.heap.size 0 _ _ _ hx5
  have c1 := cell_of_row w5 w.heap.size 1 _ _ _ hx5
  simp only [List.getElem?_toArray, List.getElem?_cons_zero, List.getElem?_cons_succ] at c0 c1
  have f0 := frozen0 (j := 0) hx5
  have f1 := frozen0 (j := 1) hx5
  clear hOB hb5
  go_wp2
  refine bodyPost_ret (results_cell_row rfl _ _ _ _ _ _ _ rfl (heap_set2 hx5) Tryz.underlying30 rfl Tryz.infoObj) rfl ⟨rfl, ?_⟩
  exact (hbA5.setCell (p := ⟨w.heap.size, 0, none⟩) (by simp) _).setCell (p := ⟨w.heap.size, 1, none⟩) (by simp) _
def chunkOk (d : Bs) : Bool := decide (d.length ≤ 1024)
/-- What a chunk's bytes say. -/
def takenChunk (b : Bs) : Option Bs := if List.isPrefixOf [67] b = true ∧ (b.drop 1).length ≤ 1024 then some (b.drop 1) else none
theorem takenChunk_iff (b d : Bs) : takenChunk b = some d ↔ chunkOk d = true ∧ b = 67 :: d := by
  unfold takenChunk chunkOk
  cases b with
  | nil => simp [List.isPrefixOf]
  | cons c l =>
    by_cases hc : c = 67
    · subst hc
      by_cases hl : l.length ≤ 1024
      · simp [List.isPrefixOf, hl]
        rintro rfl
        exact hl
      · simp [List.isPrefixOf, hl]
        rintro h rfl
        omega
    · have : List.isPrefixOf [67] (c :: l) = false := by simp [List.isPrefixOf, Ne.symm hc]
      simp [this]
      rintro _ h
      exact absurd h hc
set_option maxRecDepth 20000 in
theorem takeChunk_any (w : World) (b : Bs) (hb : b.length ≤ 140737488355328) :
    Calls Tryz.prog 31 #[.string (strB b)] w fun e w' => e = .returned (match takenChunk b with | some d => .tuple #[.string (strB d), .int .i64 0] | none => .tuple #[.string (strB []), .int .i64 81]) ∧ Below w.heap.size w w' := by
  have hcp := cutPrefix_any w b [67] hb (by simp)
  unfold takenChunk
  simp only [List.length_cons, List.length_nil, Nat.zero_add] at hcp
  by_cases h : List.isPrefixOf [67] b = true
  · rw [if_pos h] at hcp
    have hle : (b.drop 1).length ≤ b.length := by simp
    by_cases hl : (b.drop 1).length ≤ 1024
    · rw [if_pos ⟨h, hl⟩]
      simp only
      generalize b.drop 1 = d at *
      have hds := strB_size d
      go_enter Tryz.func31, Tryz.ntmps31
      go_wp2_with fail
      refine hcp.mono ?_
      rintro e w1 ⟨rfl, rfl⟩
      go_wp2_with fail
      refine (copyStr_any _ d (by omega)).mono ?_
      rintro e w2 ⟨rfl, hb2⟩
      go_wp2
      go_ret2
      exact ⟨rfl, hb2⟩
    · rw [if_neg (fun h => hl h.2)]
      simp only
      generalize b.drop 1 = d at *
      have hds := strB_size d
      go_enter Tryz.func31, Tryz.ntmps31
      go_wp2_with fail
      refine hcp.mono ?_
      rintro e w1 ⟨rfl, rfl⟩
      go_wp2
      go_ret2
      exact ⟨rfl, Below.refl _ _⟩
  · rw [if_neg (fun g => h g.1)]
    rw [if_neg h] at hcp
    simp only
    go_enter Tryz.func31, Tryz.ntmps31
    go_wp2_with fail
    refine hcp.mono ?_
    rintro e w1 ⟨rfl, rfl⟩
    go_wp2
    go_ret2
    exact ⟨rfl, Below.refl _ _⟩
end Go.Proofs.YtdbmngbinhemeabGreatDoor
