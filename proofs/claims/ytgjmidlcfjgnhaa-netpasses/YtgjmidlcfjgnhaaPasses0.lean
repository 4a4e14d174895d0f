/-
  What NetPasses rests on, plainly: with nothing held nothing waits. No program.
-/
import Derived.Test.YtgjmidlcfjgnhaaShown
namespace Go.Proofs.Ytgjmidlcfjgnhaa
open Go.RowKit

def passF (f : Ft) : Bool := okF f && decide (f.1 ≠ 3)
/-- Nothing waits, and no fate holds. -/
structure Loose (x : Nt) : Prop where
  th : x.th = []
  bk : x.bk = []
  fs : ∀ f ∈ x.fs, f.1 ≠ 3
theorem head_loose {fs : List Ft} (h : ∀ f ∈ fs, f.1 ≠ 3) : (fs.headD fz).1 ≠ 3 := by
  cases fs with
  | nil => simp [fz]
  | cons f r => exact h f (by simp)
theorem goP_loose {fs : List Ft} (h : ∀ f ∈ fs, f.1 ≠ 3) (s : Bs) : (goP fs [] s).2.2 = [] := by
  unfold goP
  rw [if_neg (head_loose h)]
  split <;> rfl
theorem serveL_loose (cs : List Bs) (y : Sg Unit) (h : ∀ f ∈ y.fs, f.1 ≠ 3) (hb : y.bk = []) : (∀ f ∈ (serveL estep cs y).fs, f.1 ≠ 3) ∧ (serveL estep cs y).bk = [] ∧ (serveL estep cs y).fs.length ≤ y.fs.length := by
  induction cs generalizing y with
  | nil => exact ⟨h, hb, Nat.le_refl _⟩
  | cons c r ih =>
    have e : serveL estep (c :: r) y = serveL estep r (stepS estep y c) := rfl
    rw [e, stepS_some (by simp [estep])]
    have ht := goP_tail y.fs y.bk (estep y.st c).1
    obtain ⟨h1, h2, h3⟩ := ih ⟨y.out ++ (goP y.fs y.bk (estep y.st c).1).1, (goP y.fs y.bk (estep y.st c).1).2.1, (goP y.fs y.bk (estep y.st c).1).2.2, (estep y.st c).2⟩ (fun f hf => h f (by
      have hf : f ∈ (goP y.fs y.bk (estep y.st c).1).2.1 := hf
      rw [ht] at hf
      exact List.mem_of_mem_tail hf)) (by show (goP y.fs y.bk (estep y.st c).1).2.2 = []; rw [hb]; exact goP_loose h _)
    refine ⟨h1, h2, Nat.le_trans h3 ?_⟩
    show (goP y.fs y.bk (estep y.st c).1).2.1.length ≤ _
    rw [ht, List.length_tail]
    omega
theorem Loose.ask {x : Nt} (h : Loose x) (s : Bs) : Loose (x.ask estep () s) ∧ (x.ask estep () s).fs.length ≤ x.fs.length - 1 := by
  have ht := goP_tail x.fs x.th s
  obtain ⟨h1, h2, h3⟩ := serveL_loose (x.come s) ⟨[], (goP x.fs x.th s).2.1, x.bk, ()⟩ (fun f hf => h.fs f (by
    have hf : f ∈ (goP x.fs x.th s).2.1 := hf
    rw [ht] at hf
    exact List.mem_of_mem_tail hf)) h.bk
  refine ⟨⟨?_, h2, h1⟩, Nat.le_trans h3 ?_⟩
  · show (goP x.fs x.th s).2.2 = []
    rw [h.th]
    exact goP_loose h.fs s
  · show (goP x.fs x.th s).2.1.length ≤ _
    rw [ht, List.length_tail]
    exact Nat.le_refl _
theorem goP_none (ws : List Bs) (s : Bs) : goP [] ws s = (s :: ws, [], []) := by
  unfold goP comeP
  simp [fz]
/-- With no fates left, and nothing waiting, what is served comes back. -/
theorem served_pass {x : Nt} (hf : x.fs = []) (ht : x.th = []) (hb : x.bk = []) (s : Bs) : (x.served estep () s).out = [s ++ [33]] := by
  unfold Nt.served Nt.come
  rw [hf, ht, hb, goP_none]
  show (stepS estep _ s).out = _
  rw [stepS_some (by simp [estep])]
  show [] ++ (goP [] [] (s ++ [33])).1 = _
  rw [goP_none]
  rfl
theorem take_filter {l : List Ft} {j : Nat} (h : j < l.length) : (l.take (j + 1)).filter passF = (l.take j).filter passF ++ (if passF l[j] then [l[j]] else []) := by
  rw [List.take_succ_eq_append_getElem h, List.filter_append]
  congr 1
  simp [List.filter_cons]
theorem filter_ok (l : List Ft) : (l.filter passF).all okF = true := by
  rw [List.all_eq_true]
  intro f hf
  have := (List.mem_filter.1 hf).2
  unfold passF at this
  rw [Bool.and_eq_true] at this
  exact this.1
theorem filter_loose (l : List Ft) : ∀ f ∈ l.filter passF, f.1 ≠ 3 := by
  intro f hf
  have := (List.mem_filter.1 hf).2
  unfold passF at this
  rw [Bool.and_eq_true] at this
  simpa using this.2
end Go.Proofs.Ytgjmidlcfjgnhaa
