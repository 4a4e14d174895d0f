/-
  Fates in a slice; takeFate. Conditions: what is told of memory.
-/
import Derived.Test.YtgjmidlcfjgnhaaWay
namespace Go.Proofs.Ytgjmidlcfjgnhaa
open Go.RowKit

/-- The slice v has these fates. -/
def Fs (w : World) (v : Value) (l : List Ft) : Prop :=
  ∃ ao cap, v = .slice ao l.length cap ∧ l.length ≤ cap ∧ cap ≤ maxLen ∧
    (l ≠ [] → ∃ b off, ao = some ⟨b, off, none⟩ ∧ b < w.heap.size ∧ ∀ j (h : j < l.length) i u, (fc (l[j]'h))[i]? = some u → w.cell? ⟨b, off + j * 3 + i, none⟩ = some u)
theorem Fs.nil (w : World) : Fs w (.slice none 0 0) [] := ⟨none, 0, rfl, Nat.le_refl _, by simp, fun h => absurd rfl h⟩
theorem Fs.keep {F : Nat → Prop} {w w' : World} {v : Value} {xs : List Ft} (h : Fs w v xs) (hc : Chg F w w') (hF : ∀ g, v.ownBlock = some g → ¬ F g) : Fs w' v xs := by
  obtain ⟨ao, cap, hv, h1, h2, h4⟩ := h
  refine ⟨ao, cap, hv, h1, h2, fun hl => ?_⟩
  obtain ⟨b, off, ha, hlt, hcl⟩ := h4 hl
  subst ha hv
  exact ⟨b, off, rfl, Nat.lt_of_lt_of_le hlt hc.size, fun j hj i u hu => (World.cell?_of_block (hc.block b hlt (hF b rfl))).trans (hcl j hj i u hu)⟩
/-- The net's block. -/
abbrev nob (sv th bk vf : Value) (sent : Nat) : Obj := .cells #[sv, th, bk, vf, .int .i64 (sent : Int)] 48
theorem Try.infoFt : (Try.prog.info? 35).map (·.size) = some 3 := by kernel_rfl

theorem take_end {w w1 : World} {n g : Nat} {sv th bk vf V a b c x y z : Value} {sent : Nat} (hc : Chg (· = n) w w1) (hn : w1.heap[n]? = some (nob sv th bk vf sent)) (hz : w1.heap[g]? = some (.cells #[x, y, z] 35)) (hg : w.heap.size ≤ g) (hne : n ≠ g) :
    ((((w1.setCell ⟨n, 3, none⟩ V).setCell ⟨g, 0, none⟩ a).setCell ⟨g, 1, none⟩ b).setCell ⟨g, 2, none⟩ c).heap[n]? = some (nob sv th bk V sent) ∧
    ((((w1.setCell ⟨n, 3, none⟩ V).setCell ⟨g, 0, none⟩ a).setCell ⟨g, 1, none⟩ b).setCell ⟨g, 2, none⟩ c).heap[g]? = some (.cells #[a, b, c] 35) ∧
    Chg (· = n) w ((((w1.setCell ⟨n, 3, none⟩ V).setCell ⟨g, 0, none⟩ a).setCell ⟨g, 1, none⟩ b).setCell ⟨g, 2, none⟩ c) ∧
    Chg (fun k => k = n ∨ k = g) w1 ((((w1.setCell ⟨n, 3, none⟩ V).setCell ⟨g, 0, none⟩ a).setCell ⟨g, 1, none⟩ b).setCell ⟨g, 2, none⟩ c) := by
  have h1 : (w1.setCell ⟨n, 3, none⟩ V).heap[n]? = some (nob sv th bk V sent) := heap_set hn 3 V
  have h2 : (w1.setCell ⟨n, 3, none⟩ V).heap[g]? = some (.cells #[x, y, z] 35) := heap_set_other hz (Ne.symm hne)
  refine ⟨heap_set_other (heap_set_other (heap_set_other h1 hne) hne) hne, heap_set (heap_set (heap_set h2 0 a) 1 b) 2 c, ?_, ?_⟩
  · exact (((hc.setCell (p := ⟨n, 3, none⟩) (.inl rfl) _).setCell (p := ⟨g, 0, none⟩) (.inr hg) _).setCell (p := ⟨g, 1, none⟩) (.inr hg) _).setCell (p := ⟨g, 2, none⟩) (.inr hg) _
  · exact ((((Chg.refl _ _).setCell (p := ⟨n, 3, none⟩) (.inl (.inl rfl)) _).setCell (p := ⟨g, 0, none⟩) (.inl (.inr rfl)) _).setCell (p := ⟨g, 1, none⟩) (.inl (.inr rfl)) _).setCell (p := ⟨g, 2, none⟩) (.inl (.inr rfl)) _
theorem heap_set3 {w : World} {g : Nat} {x y z a b c : Value} {t : TypeId} {fr : Nat × Nat} (h : w.heap[g]? = some (.cells #[x, y, z] t fr)) : (((w.setCell ⟨g, 0, none⟩ a).setCell ⟨g, 1, none⟩ b).setCell ⟨g, 2, none⟩ c).heap[g]? = some (.cells #[a, b, c] t fr) := heap_set (heap_set (heap_set h 0 a) 1 b) 2 c

set_option maxRecDepth 20000 in
set_option maxHeartbeats 1000000 in
theorem takeFate_any (w : World) (n : Nat) (sv th bk vf : Value) (sent : Nat) (fs : List Ft) (hn : w.heap[n]? = some (nob sv th bk vf sent)) (hf : Fs w vf fs) (hne : vf.ownBlock ≠ some n) :
    Calls Try.prog 22 #[.pointer (some ⟨n, 0, none⟩)] w fun e w' => e = .returned (fv (fs.headD fz)) ∧ ∃ vf', w'.heap[n]? = some (nob sv th bk vf' sent) ∧ Fs w' vf' fs.tail ∧ vf'.ownBlock = vf.ownBlock ∧ Chg (· = n) w w' := by
  have hlt := lt_of_heap hn
  have hz : (w.alloc (.cells #[.int .i64 0, .int .i64 0, .int .u8 0] 35)).heap[w.heap.size]? = _ := heap_last w _
  have hn0 : (w.alloc (.cells #[.int .i64 0, .int .i64 0, .int .u8 0] 35)).heap[n]? = _ := heap_past _ hn
  have hc0 : Chg (· = n) w (w.alloc (.cells #[.int .i64 0, .int .i64 0, .int .u8 0] 35)) := (Chg.refl _ _).alloc _
  have hs0 : (w.alloc (.cells #[.int .i64 0, .int .i64 0, .int .u8 0] 35)).heap.size = w.heap.size + 1 := by simp
  have hf0 : Fs (w.alloc (.cells #[.int .i64 0, .int .i64 0, .int .u8 0] 35)) vf fs := hf.keep ((Chg.refl (fun _ => False) _).alloc _) (fun _ _ h => h)
  generalize hw0 : w.alloc (.cells #[.int .i64 0, .int .i64 0, .int .u8 0] 35) = w0 at *
  have c3 := cell_of hn0 3
  have t3 := thawed hn0 3
  simp only [List.getElem?_toArray, List.getElem?_cons_zero, List.getElem?_cons_succ] at c3
  obtain ⟨ao, cap, rfl, h1, h2, h4⟩ := hf0
  cases fs with
  | nil =>
    have HF := hide (show Fs w0 (.slice ao 0 cap) [] from ⟨ao, cap, rfl, h1, h2, h4⟩)
    have HC := hide hc0
    have HN := hide hn0
    have z0 := cell_of hz 0
    have z1 := cell_of hz 1
    have z2 := cell_of hz 2
    have t0 := thawed hz 0
    have t1 := thawed hz 1
    have t2 := thawed hz 2
    simp only [List.getElem?_toArray, List.getElem?_cons_zero, List.getElem?_cons_succ] at z0 z1 z2
    clear hf h4 hn hc0 hn0
    go_enter Try.func22, Try.ntmps22
    go_wp2
    refine bodyPost_ret (results_cell_row rfl _ _ _ _ _ _ _ rfl (heap_set3 hz) Try.underlying35 rfl Try.infoFt) rfl ?_
    have hne0 : n ≠ w.heap.size := by omega
    have hk := (((Chg.refl (· = w.heap.size) w0).setCell (p := ⟨w.heap.size, 0, none⟩) (.inl rfl) (.int .i64 0)).setCell (p := ⟨w.heap.size, 1, none⟩) (.inl rfl) (.int .i64 0)).setCell (p := ⟨w.heap.size, 2, none⟩) (.inl rfl) (.int .u8 0)
    refine ⟨rfl, _, hk.keep HN.out hne0, ?_, rfl, HC.out.trans hk (fun i hi e => by omega)⟩
    exact ⟨ao, cap, rfl, h1, h2, fun h => absurd rfl h⟩
  | cons f r =>
    obtain ⟨b, off, rfl, hb, hcell⟩ := h4 (by simp)
    have hbw : b < w.heap.size := by
      obtain ⟨_, _, e, _, _, h⟩ := hf
      obtain ⟨b', off', e2, hb', _⟩ := h (by simp)
      subst e2
      injection e with e
      injection e with e
      injection e with e
      omega
    have hbn : b ≠ n := fun e => hne (by rw [e]; rfl)
    have l0 := hcell 0 (by simp) 0 _ rfl
    have l1 := hcell 0 (by simp) 1 _ rfl
    have l2 := hcell 0 (by simp) 2 _ rfl
    simp only [Nat.zero_mul, Nat.add_zero, List.getElem_cons_zero] at l0 l1 l2
    have hlen : (f :: r).length = r.length + 1 := rfl
    rw [hlen] at h1
    have hcap : ¬ cap = 0 := by omega
    have hF1 := heap_last w0 (.cells #[.int .i64 f.1, .int .i64 f.2.1, .int .u8 (f.2.2.toNat : Int)] 35)
    have hn1 := heap_past (.cells #[.int .i64 f.1, .int .i64 f.2.1, .int .u8 (f.2.2.toNat : Int)] 35) hn0
    have hz1 := heap_past (.cells #[.int .i64 f.1, .int .i64 f.2.1, .int .u8 (f.2.2.toNat : Int)] 35) hz
    have hc1 := hc0.alloc (.cells #[.int .i64 f.1, .int .i64 f.2.1, .int .u8 (f.2.2.toNat : Int)] 35)
    have hb1 : b < (w0.alloc (.cells #[.int .i64 f.1, .int .i64 f.2.1, .int .u8 (f.2.2.toNat : Int)] 35)).heap.size := by simp; omega
    have hcell1 : ∀ j (h : j < r.length) i u, (fc (r[j]'h))[i]? = some u → (w0.alloc (.cells #[.int .i64 f.1, .int .i64 f.2.1, .int .u8 (f.2.2.toNat : Int)] 35)).cell? ⟨b, off + 3 + j * 3 + i, none⟩ = some u := fun j hj i u hu => by
      have := hcell (j + 1) (by simpa using hj) i u (by simpa using hu)
      rw [show off + 3 + j * 3 + i = off + (j + 1) * 3 + i by omega, ← this]
      exact World.cell?_of_block (Below.heap_alloc _ _ _ hb)
    have hnn : ¬ n = w0.heap.size := by omega
    have hnn2 : ¬ w0.heap.size = n := by omega
    generalize hw1 : w0.alloc (.cells #[.int .i64 f.1, .int .i64 f.2.1, .int .u8 (f.2.2.toNat : Int)] 35) = w1 at *
    have d3 := cell_of hn1 3
    have u3 := thawed hn1 3
    have e0 := cell_of hF1 0
    have e1 := cell_of hF1 1
    have e2 := cell_of hF1 2
    have t0 := thawed hz1 0
    have t1 := thawed hz1 1
    have t2 := thawed hz1 2
    have z0 := cell_of hz1 0
    have z1 := cell_of hz1 1
    have z2 := cell_of hz1 2
    have hn2 : ¬ n = w.heap.size := by omega
    have hn3 : ¬ w.heap.size = n := by omega
    have hr1 : ((r.length : Int) + 1 == 0) = false := by simp; omega
    simp only [List.getElem?_toArray, List.getElem?_cons_zero, List.getElem?_cons_succ] at d3 e0 e1 e2 z0 z1 z2
    have HALL := hide (And.intro hcell1 (And.intro hn1 (And.intro hz1 (And.intro hc1 hb1))))
    have HS := hide hs0
    have H2 := hide h2
    clear hf h4 hn hc0 hn0 hcell hcell1 hn1 hz1 hc1 hz hF1 hlen hs0 hb1 hb
    by_cases hcc : cap = 1
    · subst hcc
      obtain rfl : r = [] := List.eq_nil_of_length_eq_zero (by omega)
      go_enter Try.func22, Try.ntmps22
      go_wp2
      obtain ⟨j1, j2, j3, j4⟩ := take_end (V := .slice (some ⟨b, off, none⟩) 0 0) (a := .int .i64 f.1) (b := .int .i64 f.2.1) (c := .int .u8 (f.2.2.toNat : Int)) HALL.out.2.2.2.1 HALL.out.2.1 HALL.out.2.2.1 (Nat.le_refl _) hn2
      refine bodyPost_ret (results_cell_row rfl _ _ _ _ _ _ _ rfl j2 Try.underlying35 rfl Try.infoFt) rfl ?_
      exact ⟨rfl, _, j1, ⟨some ⟨b, off, none⟩, 0, rfl, Nat.le_refl _, by unfold maxLen; omega, fun h => absurd rfl h⟩, rfl, j3⟩
    · go_enter Try.func22, Try.ntmps22
      go_wp2
      obtain ⟨j1, j2, j3, j4⟩ := take_end (V := .slice (some ⟨b, off + 3, none⟩) r.length (cap - 1)) (a := .int .i64 f.1) (b := .int .i64 f.2.1) (c := .int .u8 (f.2.2.toNat : Int)) HALL.out.2.2.2.1 HALL.out.2.1 HALL.out.2.2.1 (Nat.le_refl _) hn2
      refine bodyPost_ret (results_cell_row rfl _ _ _ _ _ _ _ rfl j2 Try.underlying35 rfl Try.infoFt) rfl ?_
      refine ⟨rfl, _, j1, ?_, rfl, j3⟩
      refine Fs.keep (w := w1) ⟨some ⟨b, off + 3, none⟩, cap - 1, rfl, by show r.length ≤ _; omega, by omega, fun _ => ⟨b, off + 3, rfl, HALL.out.2.2.2.2, HALL.out.1⟩⟩ j4 (fun g hg => ?_)
      injection hg with hg
      have hg' : b = g := hg
      omega
end Go.Proofs.Ytgjmidlcfjgnhaa
