/-
  What comes of frames on their ways, plainly. No program, no condition.
-/
import Derived.Test.YtgjmidlcfjgnhaaBase
namespace Go.Proofs.Ytgjmidlcfjgnhaa

/-- A fate: its kind, place, byte. -/
abbrev Ft := Int × Int × UInt8
def fz : Ft := (0, 0, 0)
/-- The place of a byte that is turned. -/
def spot (t : Int) (n : Nat) : Nat := ((if t < 0 then -1 - t else t) % (n : Int)).toNat
def turnP (f : Ft) (s : Bs) : Bs := s.modify (spot f.2.1 s.length) (· ^^^ f.2.2)
/-- What comes of a frame that does not wait. -/
def comeP (s : Bs) (f : Ft) : List Bs := if f.1 = 0 then [s] else if f.1 = 2 then [turnP f s] else if f.1 = 4 then [s, s] else []
/-- What comes of a frame, with these fates left, and these waiting: what comes, what is left, what waits. -/
def goP (fs : List Ft) (ws : List Bs) (s : Bs) : List Bs × List Ft × List Bs :=
  if (fs.headD fz).1 = 3 then ([], fs.tail, ws ++ [s])
  else if comeP s (fs.headD fz) = [] then ([], fs.tail, ws)
  else (comeP s (fs.headD fz) ++ ws, fs.tail, [])
theorem goP_hold {fs : List Ft} {ws : List Bs} {s : Bs} (h : (fs.headD fz).1 = 3) : goP fs ws s = ([], fs.tail, ws ++ [s]) := by unfold goP; rw [if_pos h]
theorem goP_lose {fs : List Ft} {ws : List Bs} {s : Bs} (h : (fs.headD fz).1 ≠ 3) (h2 : comeP s (fs.headD fz) = []) : goP fs ws s = ([], fs.tail, ws) := by unfold goP; rw [if_neg h, if_pos h2]
theorem goP_come {fs : List Ft} {ws : List Bs} {s : Bs} (h : (fs.headD fz).1 ≠ 3) (h2 : comeP s (fs.headD fz) ≠ []) : goP fs ws s = (comeP s (fs.headD fz) ++ ws, fs.tail, []) := by unfold goP; rw [if_neg h, if_neg h2]
theorem turnP_length (f : Ft) (s : Bs) : (turnP f s).length = s.length := by simp [turnP]
theorem spot_lt (t : Int) {n : Nat} (h : 0 < n) : spot t n < n := by
  unfold spot
  have h1 := Int.emod_nonneg (if t < 0 then -1 - t else t) (show (n : Int) ≠ 0 by omega)
  have h2 := Int.emod_lt_of_pos (if t < 0 then -1 - t else t) (show 0 < (n : Int) by omega)
  omega
theorem comeP_le (s : Bs) (f : Ft) : (comeP s f).length ≤ 2 := by
  unfold comeP
  split
  · simp
  · split
    · simp
    · split <;> simp
theorem goP_tail (fs : List Ft) (ws : List Bs) (s : Bs) : (goP fs ws s).2.1 = fs.tail := by
  unfold goP
  split
  · rfl
  · split <;> rfl
theorem goP_out (fs : List Ft) (ws : List Bs) (s : Bs) : (goP fs ws s).1.length ≤ ws.length + 2 := by
  unfold goP
  split
  · simp
  · split
    · simp
    · have := comeP_le s (fs.headD fz)
      simp only [List.length_append]
      omega
theorem goP_wait (fs : List Ft) (ws : List Bs) (s : Bs) : (goP fs ws s).2.2.length ≤ ws.length + 1 := by
  unfold goP
  split
  · simp
  · split
    · simp
    · simp
/-- What frames are, is kept. -/
theorem comeP_all {ok : Bs → Prop} (ht : ∀ f s, ok s → ok (turnP f s)) {s : Bs} (h : ok s) (f : Ft) : ∀ x ∈ comeP s f, ok x := by
  unfold comeP
  intro x hx
  split at hx
  · simp at hx; subst hx; exact h
  · split at hx
    · simp at hx; subst hx; exact ht f s h
    · split at hx
      · simp at hx; subst hx; exact h
      · simp at hx
theorem goP_all {ok : Bs → Prop} (ht : ∀ f s, ok s → ok (turnP f s)) {fs : List Ft} {ws : List Bs} {s : Bs} (h : ok s) (hw : ∀ x ∈ ws, ok x) : (∀ x ∈ (goP fs ws s).1, ok x) ∧ ∀ x ∈ (goP fs ws s).2.2, ok x := by
  unfold goP
  split
  · refine ⟨by simp, fun x hx => ?_⟩
    simp at hx
    rcases hx with hx | rfl
    · exact hw x hx
    · exact h
  · split
    · exact ⟨by simp, hw⟩
    · refine ⟨fun x hx => ?_, by simp⟩
      rcases List.mem_append.1 hx with hx | hx
      · exact comeP_all ht h _ x hx
      · exact hw x hx
/-- Serving: what came back, the fates left, what waits on the way back, who serves. -/
structure Sg (σ : Type) where
  out : List Bs
  fs : List Ft
  bk : List Bs
  st : σ
variable {σ : Type}
/-- One frame is served. -/
def stepS (step : σ → Bs → Bs × σ) (x : Sg σ) (c : Bs) : Sg σ :=
  if (step x.st c).1 = [] then ⟨x.out, x.fs, x.bk, (step x.st c).2⟩
  else ⟨x.out ++ (goP x.fs x.bk (step x.st c).1).1, (goP x.fs x.bk (step x.st c).1).2.1, (goP x.fs x.bk (step x.st c).1).2.2, (step x.st c).2⟩
theorem stepS_none {step : σ → Bs → Bs × σ} {x : Sg σ} {c : Bs} (h : (step x.st c).1 = []) : stepS step x c = ⟨x.out, x.fs, x.bk, (step x.st c).2⟩ := by unfold stepS; rw [if_pos h]
theorem stepS_some {step : σ → Bs → Bs × σ} {x : Sg σ} {c : Bs} (h : (step x.st c).1 ≠ []) : stepS step x c = ⟨x.out ++ (goP x.fs x.bk (step x.st c).1).1, (goP x.fs x.bk (step x.st c).1).2.1, (goP x.fs x.bk (step x.st c).1).2.2, (step x.st c).2⟩ := by unfold stepS; rw [if_neg h]
/-- Frames are served. -/
def serveL (step : σ → Bs → Bs × σ) (cs : List Bs) (x : Sg σ) : Sg σ := cs.foldl (stepS step) x
theorem serveL_take {step : σ → Bs → Bs × σ} {cs : List Bs} {x : Sg σ} {j : Nat} (h : j < cs.length) : serveL step (cs.take (j + 1)) x = stepS step (serveL step (cs.take j) x) cs[j] := by
  unfold serveL
  rw [List.take_succ_eq_append_getElem h, List.foldl_append]
  rfl
theorem stepS_bk (step : σ → Bs → Bs × σ) (x : Sg σ) (c : Bs) : (stepS step x c).bk.length ≤ x.bk.length + 1 := by
  unfold stepS
  split
  · simp
  · exact goP_wait ..
theorem stepS_out (step : σ → Bs → Bs × σ) (x : Sg σ) (c : Bs) : (stepS step x c).out.length ≤ x.out.length + x.bk.length + 2 := by
  unfold stepS
  split
  · simp; omega
  · have := goP_out x.fs x.bk (step x.st c).1
    simp
    omega
/-- How much there is behind some frames. -/
theorem serveL_few (step : σ → Bs → Bs × σ) (cs : List Bs) (x : Sg σ) : (serveL step cs x).bk.length ≤ x.bk.length + cs.length ∧ (serveL step cs x).out.length ≤ x.out.length + cs.length * (x.bk.length + cs.length + 2) := by
  induction cs generalizing x with
  | nil => simp [serveL]
  | cons c r ih =>
    have h1 := stepS_bk step x c
    have h2 := stepS_out step x c
    obtain ⟨h3, h4⟩ := ih (stepS step x c)
    have e : serveL step (c :: r) x = serveL step r (stepS step x c) := rfl
    rw [e, List.length_cons]
    refine ⟨by omega, Nat.le_trans h4 ?_⟩
    have h5 : r.length * ((stepS step x c).bk.length + r.length + 2) ≤ r.length * (x.bk.length + (r.length + 1) + 2) := Nat.mul_le_mul_left _ (by omega)
    rw [Nat.add_mul, Nat.one_mul]
    omega
/-- A net: the fates left, what waits there, and back, how many were sent. -/
structure Nt where
  fs : List Ft
  th : List Bs
  bk : List Bs
  sent : Nat
/-- What comes there. -/
def Nt.come (n : Nt) (s : Bs) : List Bs := (goP n.fs n.th s).1
/-- What is served of it. -/
def Nt.served (n : Nt) (step : σ → Bs → Bs × σ) (st : σ) (s : Bs) : Sg σ := serveL step (n.come s) ⟨[], (goP n.fs n.th s).2.1, n.bk, st⟩
/-- The net behind it. -/
def Nt.ask (n : Nt) (step : σ → Bs → Bs × σ) (st : σ) (s : Bs) : Nt := ⟨(n.served step st s).fs, (goP n.fs n.th s).2.2, (n.served step st s).bk, n.sent + 1⟩
end Go.Proofs.Ytgjmidlcfjgnhaa
