/-
  A script that came in. No condition.
-/
import Derived.Test.YthhmjoafoahpbaaShown
namespace Go.Proofs.Ythhmjoafoahpbaa
open Go.RowKit
variable {B : Nat} {w w' : World} {F : Nat → Prop} {c : Nat} {S : Lr}

/-- A slice of texts, below B. -/
def Tb (B : Nat) (w : World) (v : Value) (ks : List Bs) : Prop :=
  ∃ ao cap, v = .slice ao ks.length cap ∧ ks.length ≤ cap ∧ cap ≤ maxLen ∧ (ks ≠ [] → ∃ b off, ao = some ⟨b, off, none⟩ ∧ b < B ∧ ∀ j (h : j < ks.length), w.cell? ⟨b, off + j, none⟩ = some (.string (strB ks[j])))
theorem Tb.keep {v : Value} {ks : List Bs} (h : Tb B w v ks) (hb : Below B w w') : Tb B w' v ks := by
  obtain ⟨ao, cap, hv, h1, h2, h4⟩ := h
  refine ⟨ao, cap, hv, h1, h2, fun hl => ?_⟩
  obtain ⟨b, off, ha, hlt, hc⟩ := h4 hl
  exact ⟨b, off, ha, hlt, fun j hj => (hb.cell (p := ⟨b, off + j, none⟩) hlt).trans (hc j hj)⟩
theorem Tb.tf {v : Value} {ks : List Bs} (h : Tb B w v ks) (hB : B ≤ w.heap.size) (hF : ∀ k, F k → B ≤ k) : Tf F w v ks := by
  obtain ⟨ao, cap, hv, h1, h2, h4⟩ := h
  refine ⟨ao, cap, hv, h1, fun hl => ?_⟩
  obtain ⟨b, off, ha, hlt, hc⟩ := h4 hl
  exact ⟨b, off, ha, Nat.lt_of_lt_of_le hlt hB, (fun hf => by have := hF b hf; omega), hc⟩
structure Oq where
  kind : Int
  key : Bs
  val : Bs
  keys : List Bs
/-- One op, its four cells from here on. -/
def OpAt (B : Nat) (w : World) (b off : Nat) (o : Oq) : Prop :=
  w.cell? ⟨b, off, none⟩ = some (.int .i64 o.kind) ∧ w.cell? ⟨b, off + 1, none⟩ = some (.string (strB o.key)) ∧ w.cell? ⟨b, off + 2, none⟩ = some (.string (strB o.val)) ∧ (∃ u, w.cell? ⟨b, off + 3, none⟩ = some u ∧ Tb B w u o.keys) ∧ I64 o.kind
theorem OpAt.keep {b off : Nat} {o : Oq} (h : OpAt B w b off o) (hb : Below B w w') (hlt : b < B) : OpAt B w' b off o := by
  obtain ⟨h0, h1, h2, ⟨u, h3, h3'⟩, r⟩ := h
  have k := fun (i : Nat) => hb.cell (p := ⟨b, i, none⟩) hlt
  exact ⟨(k _).trans h0, (k _).trans h1, (k _).trans h2, ⟨u, (k _).trans h3, h3'.keep hb⟩, r⟩
/-- A script. -/
def Ob (B : Nat) (w : World) (v : Value) (os : List Oq) : Prop :=
  ∃ ao cap, v = .slice ao os.length cap ∧ os.length ≤ cap ∧ cap ≤ maxLen ∧ (os ≠ [] → ∃ b off, ao = some ⟨b, off, none⟩ ∧ b < B ∧ ∀ j (h : j < os.length), OpAt B w b (off + j * 4) os[j])
theorem Ob.keep {v : Value} {os : List Oq} (h : Ob B w v os) (hb : Below B w w') : Ob B w' v os := by
  obtain ⟨ao, cap, hv, h1, h2, h4⟩ := h
  refine ⟨ao, cap, hv, h1, h2, fun hl => ?_⟩
  obtain ⟨b, off, ha, hlt, hc⟩ := h4 hl
  exact ⟨b, off, ha, hlt, fun j hj => (hc j hj).keep hb hlt⟩
theorem Ob.at {ao : Option Addr} {n cap : Nat} {os : List Oq} (h : Ob B w (.slice ao n cap) os) {j : Nat} (hj : j < os.length) : ∃ b off, ao = some ⟨b, off, none⟩ ∧ b < B ∧ OpAt B w b (off + j * 4) os[j] := by
  obtain ⟨ao', cap', hv, h1, h2, h4⟩ := h
  injection hv with e1 e2 e3
  subst e1 e2 e3
  obtain ⟨b, off, ha, hlt, hc⟩ := h4 (by rintro rfl; simp at hj)
  exact ⟨b, off, ha, hlt, hc j hj⟩
/-- No op has a text that is too long. -/
def Small (os : List Oq) : Prop := ∀ o ∈ os, Short (o.key, o.val) ∧ o.keys.length ≤ 4611686018427387904
theorem put_len (S : Lr) (k v : Bs) : (S.put k v).l.length ≤ S.l.length + 1 := by
  unfold Lr.put
  split
  · have h1 := (fit_prefix S.budget ((k, v) :: del k S.l)).length_le
    have h2 : (del k S.l).length ≤ S.l.length := List.length_filter_le ..
    simp at h1 ⊢
    omega
  · omega
theorem get_len (S : Lr) (k : Bs) : (S.get k).l.length ≤ S.l.length + 1 := by
  unfold Lr.get
  split
  · have h2 : (del k S.l).length ≤ S.l.length := List.length_filter_le ..
    simp
    omega
  · omega
theorem put_budget (S : Lr) (k v : Bs) : (S.put k v).budget = S.budget := by
  unfold Lr.put
  split <;> rfl
theorem get_budget (S : Lr) (k : Bs) : (S.get k).budget = S.budget := by
  unfold Lr.get
  split <;> rfl
theorem dropAll_len (ks : List Bs) (l : List Tx) : (dropAll ks l).length ≤ l.length := by
  induction ks generalizing l with
  | nil => exact Nat.le_refl _
  | cons k r ih => exact Nat.le_trans (ih _) (List.length_filter_le ..)
end Go.Proofs.Ythhmjoafoahpbaa
