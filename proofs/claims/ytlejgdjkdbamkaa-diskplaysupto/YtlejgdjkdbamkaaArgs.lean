/-
  What came in: slices of bytes, of such slices, of texts, in memory that was there when the call began. No condition.
-/
import Derived.Test.YtlejgdjkdbamkaaJShown
import Derived.Test.YtlejgdjkdbamkaaSteps
namespace Go.Proofs.Ytlejgdjkdbamkaa
open Go.RowKit
variable {B : Nat} {w w' : World}

/-- The slice v has the bytes l, below B. -/
def Sb (B : Nat) (w : World) (v : Value) (l : List UInt8) : Prop :=
  ∃ ao cap, v = .slice ao l.length cap ∧ l.length ≤ cap ∧ cap ≤ maxLen ∧ (ao = none → cap = 0) ∧
    (l ≠ [] → ∃ b off, ao = some ⟨b, off, none⟩ ∧ b < B ∧ ∀ j (h : j < l.length), w.cell? ⟨b, off + j, none⟩ = some (.int .u8 ((l[j]'h).toNat : Int)))
theorem Sb.keep {v : Value} {l : List UInt8} (h : Sb B w v l) (hb : Below B w w') : Sb B w' v l := by
  obtain ⟨ao, cap, hv, h1, h2, h3, h4⟩ := h
  refine ⟨ao, cap, hv, h1, h2, h3, fun hl => ?_⟩
  obtain ⟨b, off, ha, hlt, hc⟩ := h4 hl
  exact ⟨b, off, ha, hlt, fun j hj => (hb.cell (p := ⟨b, off + j, none⟩) hlt).trans (hc j hj)⟩
theorem Sb.sl {v : Value} {l : List UInt8} (h : Sb B w v l) (hB : B ≤ w.heap.size) : Sl w v l := by
  obtain ⟨ao, cap, hv, h1, h2, h3, h4⟩ := h
  refine ⟨ao, cap, hv, h1, h2, h3, fun hl => ?_⟩
  obtain ⟨b, off, ha, hlt, hc⟩ := h4 hl
  exact ⟨b, off, ha, Nat.lt_of_lt_of_le hlt hB, hc⟩
theorem Sb.low {v : Value} {l : List UInt8} (h : Sb B w v l) (hl : l ≠ []) : ∀ g, v.ownBlock = some g → g < B := by
  obtain ⟨ao, cap, rfl, h1, h2, h3, h4⟩ := h
  obtain ⟨b, off, rfl, hlt, hc⟩ := h4 hl
  intro g hg
  cases hg
  exact hlt
/-- Its beginning. -/
theorem Sb.take {ao : Option Addr} {n cap : Nat} {l : List UInt8} (h : Sb B w (.slice ao n cap) l) {k : Nat} (hk : k ≤ l.length) : Sb B w (.slice ao k cap) (l.take k) := by
  obtain ⟨ao', cap', hv, h1, h2, h3, h4⟩ := h
  injection hv with e1 e2 e3
  subst e1 e2 e3
  have hlen : (l.take k).length = k := by simp; omega
  refine ⟨_, _, by rw [hlen], by omega, h2, h3, fun hl => ?_⟩
  obtain ⟨b, off, ha, hlt, hc⟩ := h4 (by rintro rfl; simp at hl)
  refine ⟨b, off, ha, hlt, fun j hj => ?_⟩
  rw [hc j (by rw [hlen] at hj; omega)]
  simp
/-- A slice of such slices. -/
def Bs (B : Nat) (w : World) (v : Value) (ls : List (List UInt8)) : Prop :=
  ∃ ao cap, v = .slice ao ls.length cap ∧ ls.length ≤ cap ∧ cap ≤ maxLen ∧
    (ls ≠ [] → ∃ b off, ao = some ⟨b, off, none⟩ ∧ b < B ∧ ∀ j (h : j < ls.length), ∃ u, w.cell? ⟨b, off + j, none⟩ = some u ∧ Sb B w u (ls[j]'h))
theorem Bs.keep {v : Value} {ls : List (List UInt8)} (h : Bs B w v ls) (hb : Below B w w') : Bs B w' v ls := by
  obtain ⟨ao, cap, hv, h1, h2, h4⟩ := h
  refine ⟨ao, cap, hv, h1, h2, fun hl => ?_⟩
  obtain ⟨b, off, ha, hlt, hc⟩ := h4 hl
  refine ⟨b, off, ha, hlt, fun j hj => ?_⟩
  obtain ⟨u, hu, hs⟩ := hc j hj
  exact ⟨u, (hb.cell (p := ⟨b, off + j, none⟩) hlt).trans hu, hs.keep hb⟩
theorem Bs.at {ao : Option Addr} {n cap : Nat} {ls : List (List UInt8)} (h : Bs B w (.slice ao n cap) ls) {j : Nat} (hj : j < ls.length) : ∃ b off, ao = some ⟨b, off, none⟩ ∧ b < B ∧ ∃ u, w.cell? ⟨b, off + j, none⟩ = some u ∧ Sb B w u (ls[j]'hj) := by
  obtain ⟨ao', cap', hv, h1, h2, h4⟩ := h
  injection hv with e1 e2 e3
  subst e1 e2 e3
  obtain ⟨b, off, ha, hlt, hc⟩ := h4 (by rintro rfl; simp at hj)
  exact ⟨b, off, ha, hlt, hc j hj⟩
/-- A slice of texts. -/
def Tb (B : Nat) (w : World) (v : Value) (ls : List (List UInt8)) : Prop :=
  ∃ ao cap, v = .slice ao ls.length cap ∧ ls.length ≤ cap ∧ cap ≤ maxLen ∧
    (ls ≠ [] → ∃ b off, ao = some ⟨b, off, none⟩ ∧ b < B ∧ ∀ j (h : j < ls.length), w.cell? ⟨b, off + j, none⟩ = some (.string (strB (ls[j]'h))))
theorem Tb.keep {v : Value} {ls : List (List UInt8)} (h : Tb B w v ls) (hb : Below B w w') : Tb B w' v ls := by
  obtain ⟨ao, cap, hv, h1, h2, h4⟩ := h
  refine ⟨ao, cap, hv, h1, h2, fun hl => ?_⟩
  obtain ⟨b, off, ha, hlt, hc⟩ := h4 hl
  exact ⟨b, off, ha, hlt, fun j hj => (hb.cell (p := ⟨b, off + j, none⟩) hlt).trans (hc j hj)⟩

theorem Tb.at {ao : Option Addr} {n cap : Nat} {ls : List (List UInt8)} (h : Tb B w (.slice ao n cap) ls) {j : Nat} (hj : j < ls.length) : ∃ b off, ao = some ⟨b, off, none⟩ ∧ b < B ∧ w.cell? ⟨b, off + j, none⟩ = some (.string (strB (ls[j]'hj))) := by
  obtain ⟨ao', cap', hv, h1, h2, h4⟩ := h
  injection hv with e1 e2 e3
  subst e1 e2 e3
  obtain ⟨b, off, ha, hlt, hc⟩ := h4 (by rintro rfl; simp at hj)
  exact ⟨b, off, ha, hlt, hc j hj⟩
/-- The first thousand bytes. -/
theorem Sb.thousand {ao : Option Addr} {n cap : Nat} {l : List UInt8} (h : Sb B w (.slice ao n cap) l) : ∃ o : List UInt8, o = l.take 1000 ∧ o.length ≤ 1000 ∧ (min (l.length : Int) 1000).toNat = o.length ∧ Sb B w (.slice ao o.length cap) o := by
  have e : (l.take 1000).length = min 1000 l.length := by simp
  have h1 := h.take (k := min 1000 l.length) (by omega)
  have e2 : l.take (min 1000 l.length) = l.take 1000 := by
    rcases Nat.le_total 1000 l.length with h | h
    · rw [Nat.min_eq_left h]
    · rw [Nat.min_eq_right h, List.take_length, List.take_of_length_le h]
  rw [e2] at h1
  exact ⟨_, rfl, by omega, by omega, by rw [e]; exact h1⟩
/-- Append of bytes that came in. -/
theorem append_in {F : Nat → Prop} {d : Nat} {S : Dk} (h : Stands B w F d S) (hB : B ≤ w.heap.size) (n : Nm) {v : Value} {b : List UInt8} (hb : S.bulk + b.length + 3 < 1099511627776) (hv : Sb B w v b) :
    Calls Try.prog 18 #[.pointer (some ⟨d, 0, none⟩), .string (strB n), v] w fun e w' => e = .returned (.int .i64 (S.append n b).2) ∧ After B w F d (S.append n b).1 w' :=
  append_lies h hB n hb (hv.sl hB) (fun hne g hg hF => by have := hv.low hne g hg; have := (h.2.1 g hF).1; omega)
/-- FailAt of one number. -/
theorem failAt_one {F : Nat → Prop} {d : Nat} {S : Dk} (h : Stands B w F d S) (hB : B ≤ w.heap.size) (k : Int) :
    Calls Try.prog 24 #[.pointer (some ⟨d, 0, none⟩), .slice (some ⟨w.heap.size, 0, none⟩) 1 1] (w.alloc (.cells #[.int .i64 k] 3)) fun e w' => e = .returned (.tuple #[]) ∧ After B w F d (S.failAt [k]) w' := by
  have hc : Chg (fun _ => False) w (w.alloc (.cells #[.int .i64 k] 3)) := (Chg.refl _ w).alloc _
  have h1 := h.keep hc (fun _ _ h => h)
  have hi : Is (w.alloc (.cells #[.int .i64 k] 3)) (.slice (some ⟨w.heap.size, 0, none⟩) 1 1) [k] := by
    refine ⟨w.heap.size, 0, 1, rfl, by simp, Nat.le_refl _, fun j hj => ?_⟩
    have hj0 : j = 0 := by simp at hj; omega
    subst hj0
    exact cell_new w _ _ _ 0
  refine (failAt_lies h1 (Nat.le_trans hB hc.size) hi (fun g hg hF => ?_) (by simp)).mono ?_
  · have := (h.2.1 g hF).2
    cases hg
    exact Nat.lt_irrefl _ this
  · rintro e w' ⟨rfl, F', h2, h3, h4⟩
    refine ⟨rfl, F', h2, fun k hk => ?_, (hc.mono fun _ _ h => h.elim).then h4⟩
    rcases h3 k hk with h | h
    · exact Or.inl h
    · exact Or.inr (Nat.le_trans hc.size h)
end Go.Proofs.Ytlejgdjkdbamkaa
