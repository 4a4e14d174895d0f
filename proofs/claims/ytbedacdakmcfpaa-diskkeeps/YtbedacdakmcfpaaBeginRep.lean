/-
  How an operation begins, of a disk as it lies in memory; names; beginOn. Condition: a disk within bounds.
-/
import Derived.Test.YtbedacdakmcfpaaBegin
namespace Go.Proofs.Ytbedacdakmcfpaa
open Go.RowKit

section
variable {w w' : World} {F F' X : Nat → Prop} {d : Nat} {S : Dk} {G : Gh}

/-- No block of a closure is among those that X names. -/
def Spares (w : World) (X : Nat → Prop) : Prop := ∀ c x t, w.heap[c]? = some (.cells x t (0, 0)) → (t = 81 ∨ t = 9) ∨ t = 3 ∨ t = 87 → ¬ X c
theorem Spares.or {Y : Nat → Prop} (h : Spares w X) (k : Spares w Y) : Spares w (fun c => X c ∨ Y c) := fun c x t h1 h2 h3 => h3.elim (h c x t h1 h2) (k c x t h1 h2)
theorem spares_none (w : World) : Spares w (fun _ => False) := fun _ _ _ _ _ h => h
theorem spares_cells {a : Nat} {x : Array Value} {t : TypeId} (h : w.heap[a]? = some (.cells x t (0, 0))) (ht : ¬ ((t = 81 ∨ t = 9) ∨ t = 3 ∨ t = 87)) : Spares w (· = a) := by
  rintro c y t' h1 h2 rfl
  rw [h] at h1
  injection h1 with h1
  injection h1 with _ h1
  exact ht (h1 ▸ h2)
theorem spares_map {a : Nat} {l : List (Value × Value)} (h : MapW w a l) : Spares w (· = a) := by
  rintro c y t' h1 h2 rfl
  exact h.ne h1 rfl
theorem spares_mapO {o : Option Nat} {l : List (Value × Value)} (h : MapO w F o l) : Spares w (fun k => some k = o) := by
  intro c y t' h1 h2 e
  rw [← e] at h
  exact h.2.ne h1 rfl
theorem spares_row {n size : Nat} {e : TypeId} {v : Value} {xs : List Value} (h : w.ownsRow 0 e size v n xs) (ht : ¬ ((e = 81 ∨ e = 9) ∨ e = 3 ∨ e = 87)) : Spares w (fun k => some k = v.ownBlock) := by
  intro c y t' h1 h2 hk
  obtain ⟨cur, hcur⟩ := own_block h hk.symm
  exact spares_cells hcur ht c y t' h1 h2 rfl
theorem Rep.actsKeep (h : Rep w F d S G) (hc : Chg X w w') (hX : Spares w X) (hF : ∀ k, F k → F' k) : ∀ (j : Nat) a p, S.acts[j]? = some a → G.vs[j]? = some p → ActW w' F' G.fb a p :=
  fun j a p ha hp => (h.acts j a p ha hp).keep hc (fun c x t h1 h2 _ => hX c x t h1 h2) hF (fun _ _ => rfl)

theorem Rep.ne_file (h : Rep w F d S G) {i : Nat} (hi : S.known i) : d ≠ G.fb i := ne_tag h.disk (h.files i hi).2 (by simp [tag])
theorem Rep.ne_now (h : Rep w F d S G) {b : Nat} (hb : G.now = some b) : d ≠ b := by
  have := h.now
  rw [hb] at this
  exact this.2.ne h.disk
theorem Rep.ne_sure (h : Rep w F d S G) {b : Nat} (hb : G.sure = some b) : d ≠ b := by
  have := h.sure
  rw [hb] at this
  exact this.2.ne h.disk
theorem Rep.ne_fls (h : Rep w F d S G) {b : Nat} (hb : G.fls = some b) : d ≠ b := by
  obtain ⟨l, h1, _⟩ := h.fails
  rw [hb] at h1
  exact h1.2.ne h.disk
theorem Rep.ne_row (h : Rep w F d S G) {b : Nat} (hb : G.lv.ownBlock = some b) : b ≠ d := by
  obtain ⟨cur, hcur⟩ := own_block h.row hb
  exact ne_tag hcur h.disk (show 104 ≠ 66 by decide)

/-- The parts of a disk that lie neither in its own block nor in that of the failing ones stay. -/
theorem Rep.stepped (h : Rep w F d S G) (hc : Chg (fun k => k = d ∨ some k = G.fls) w w') {now sure : Option Nat} (l' : List Int) (hF : ∀ k, F k → F' k)
    (hd : w'.heap[d]? = some (.cells (dcells S.next { G with now := now, sure := sure }) 66)) (hnow : MapO w' F' now (dv G.fb S.dir)) (hsure : MapO w' F' sure (dv G.fb S.sure)) (hboth : now = none ↔ sure = none) (hbare : now = none → S.acts = [])
    (hfl : MapO w' F' G.fls (fv l')) (hl : ∀ k : Nat, S.n + 1 ≤ k → (S.fails k = true ↔ (k : Int) ∈ l')) (h2 : ∀ b, now = some b → sure ≠ some b ∧ G.fls ≠ some b) (h3 : ∀ b, sure = some b → G.fls ≠ some b) :
    Rep w' F' d S.next { G with now := now, sure := sure } where
  ok := h.ok.next
  disk := hd
  inD := hF d h.inD
  roomy := h.roomy
  cutv := h.cutv
  now := hnow
  sure := hsure
  both := hboth
  bare := hbare
  fails := ⟨l', hfl, hl⟩
  two := h2
  three := h3
  row := own_keep h.row hc (fun k hk e => by
    rcases e with e | e
    · exact h.ne_row hk e
    · obtain ⟨cur, hcur⟩ := own_block h.row hk
      obtain ⟨l, h1, _⟩ := h.fails
      rw [← e] at h1
      exact h1.2.ne hcur rfl)
  rowF := fun k hk => hF k (h.rowF k hk)
  many := h.many
  acts := h.actsKeep hc (by
    obtain ⟨l, h1, _⟩ := h.fails
    exact (spares_cells h.disk (by decide)).or (spares_mapO h1)) hF
  files := fun i hi => by
    obtain ⟨f1, f2⟩ := h.files i hi
    refine ⟨hF _ f1, hc.keep f2 (fun e => ?_)⟩
    rcases e with e | e
    · exact h.ne_file hi e.symm
    · obtain ⟨l, h1, _⟩ := h.fails
      rw [← e] at h1
      exact h1.2.ne f2 rfl
  inj := h.inj
  bytes := fun i f hi hf => by
    obtain ⟨b1, b2, b3⟩ := h.bytes i f hi hf
    refine ⟨b1, own_keep b2 hc (fun k hk e => ?_), fun k hk => hF k (b3 k hk)⟩
    obtain ⟨cur, hcur⟩ := own_block b2 hk
    rcases e with e | e
    · exact ne_tag hcur h.disk (show 5 ≠ 66 by decide) e
    · obtain ⟨l, h1, _⟩ := h.fails
      rw [← e] at h1
      exact h1.2.ne hcur rfl
  apart := h.apart

theorem next_cells (S : Dk) (G : Gh) (now sure : Option Nat) : dcells S.next { G with now := now, sure := sure } = #[.int .i64 (S.room : Int), .int .i64 (S.used : Int), .map now, .map sure, G.lv, .int .i64 ((S.n : Int) + 1), .bool S.cut.isSome, .int .i64 G.cv, .map G.fls] := by
  unfold dcells
  show #[_, _, _, _, _, Value.int .i64 ((S.n + 1 : Nat) : Int), _, _, _] = _
  rw [show ((S.n + 1 : Nat) : Int) = (S.n : Int) + 1 by omega]
  rfl

/-- The power is gone: nothing changes. -/
theorem beginOff_rep (h : Rep w F d S G) (hon : S.on = false) : Calls Try.prog 45 #[.pointer (some ⟨d, 0, none⟩)] w fun e w' => e = .returned (.tuple #[.bool false, .int .i64 35]) ∧ Rep w' F d S G ∧ Chg (fun _ => False) w w' := by
  obtain ⟨c, hc, hle⟩ : ∃ c, S.cut = some c ∧ c ≤ S.n := by
    unfold Dk.on at hon
    cases hcut : S.cut with
    | none => rw [hcut] at hon; simp at hon
    | some c => rw [hcut] at hon; simp at hon; exact ⟨c, rfl, hon⟩
  have hd := h.disk
  unfold dcells at hd
  rw [hc, h.cutv c hc] at hd
  refine (begin_off w d _ _ _ _ _ _ _ _ hd (by omega)).mono ?_
  rintro e w' ⟨he, hcg⟩
  exact ⟨he, h.keep hcg (fun _ _ h => h) (fun _ h => h), hcg⟩

theorem beginOn_rep0 (h : Rep w F d S G) (hon : S.on = true) (hb : S.n < 4611686018427387904) : Calls Try.prog 45 #[.pointer (some ⟨d, 0, none⟩)] w fun e w' => e = .returned (.tuple #[.bool (S.fails S.n), .int .i64 0]) ∧ ∃ now sure, now ≠ none ∧
      Rep w' (Fx F w w') d S.next { G with now := now, sure := sure } ∧ Chg F w w' := by
  obtain ⟨l, hf, hl⟩ := h.fails
  have hfn : S.fails S.n = decide ((S.n : Int) ∈ l) := by
    rw [Bool.eq_iff_iff, hl S.n (Nat.le_refl _)]
    simp
  have hl' : ∀ k : Nat, S.n + 1 ≤ k → (S.fails k = true ↔ (k : Int) ∈ l.erase (S.n : Int)) := fun k hk => by
    rw [hl k (by omega), List.mem_erase_of_ne (by omega)]
  have hg : S.cut.isSome = false ∨ (S.cut.isSome = true ∧ (S.n : Int) < G.cv) := by
    unfold Dk.on at hon
    cases hcut : S.cut with
    | none => exact Or.inl rfl
    | some c =>
      rw [hcut] at hon
      simp at hon
      refine Or.inr ⟨rfl, ?_⟩
      rw [h.cutv c hcut]
      omega
  have hd := h.disk
  unfold dcells at hd
  rw [hfn]
  have hXF : ∀ w' : World, Chg (fun k => k = d ∨ some k = G.fls) w w' → Chg F w w' := fun w' hc => hc.mono fun k _ e => by
    rcases e with rfl | e
    · exact h.inD
    · rw [← e] at hf
      exact hf.1
  cases hn : G.now with
  | none =>
    have hs := h.both.1 hn
    rw [hn, hs] at hd
    refine (begin_nil w F d _ _ _ _ _ _ _ l hd hg hf (by omega) (by omega)).mono ?_
    rintro e w' ⟨he, bn, bs, hne, b1, b2, m1, m2, hd', hf', hc⟩
    have hnow := h.now
    have hsure := h.sure
    rw [hn] at hnow
    rw [hs] at hsure
    have hfb : ∀ b, G.fls = some b → b < w.heap.size := fun b e => by
      rw [e] at hf
      exact hf.2.lt
    have r1 : MapO w' (Fx F w w') (some bn) (dv G.fb S.dir) := by
      rw [show dv G.fb S.dir = [] from hnow]
      exact ⟨Or.inr ⟨b1, m1.lt⟩, m1⟩
    have r2 : MapO w' (Fx F w w') (some bs) (dv G.fb S.sure) := by
      rw [show dv G.fb S.sure = [] from hsure]
      exact ⟨Or.inr ⟨b2, m2.lt⟩, m2⟩
    refine ⟨he, some bn, some bs, by simp, h.stepped hc (l.erase (S.n : Int)) (fun _ h => Or.inl h) (by rw [next_cells]; exact hd') r1 r2 (by simp) (fun h => by cases h)
      (hf'.keep (Chg.refl (fun _ => False) w') (fun _ _ h => h) (fun _ h => Or.inl h)) hl' ?_ ?_, hXF w' hc⟩
    · intro b e
      injection e with e
      subst e
      refine ⟨fun e => hne (by injection e with e; exact e.symm), fun e => ?_⟩
      have := hfb _ e
      omega
    · intro b e e2
      injection e with e
      subst e
      have := hfb _ e2
      omega
  | some bn =>
    have hs : G.sure ≠ none := fun e => by rw [h.both.2 e] at hn; cases hn
    rw [hn] at hd
    refine (begin_some w F d bn _ _ _ _ _ _ _ _ l hd hg hf (by omega) (by omega)).mono ?_
    rintro e w' ⟨he, hd', hf', hc⟩
    have hnow := h.now
    rw [hn] at hnow
    have two := h.two bn hn
    have r1 : MapO w' (Fx F w w') (some bn) (dv G.fb S.dir) := hnow.keep hc (fun b e hX => by
      injection e with e
      subst e
      rcases hX with e | e
      · exact h.ne_now hn e.symm
      · exact two.2 e.symm) (fun _ h => Or.inl h)
    have r2 : MapO w' (Fx F w w') G.sure (dv G.fb S.sure) := h.sure.keep hc (fun b e hX => by
      rcases hX with e2 | e2
      · exact h.ne_sure e e2.symm
      · exact h.three b e e2.symm) (fun _ h => Or.inl h)
    exact ⟨he, some bn, G.sure, by simp, h.stepped hc (l.erase (S.n : Int)) (fun _ h => Or.inl h) (by rw [next_cells]; exact hd') r1 r2 (by simp [hs]) (fun h => by cases h)
      (hf'.keep (Chg.refl (fun _ => False) w') (fun _ _ h => h) (fun _ h => Or.inl h)) hl' (fun b e => by rw [← hn] at e; exact h.two b e) (fun b e => h.three b e), hXF w' hc⟩
end
end Go.Proofs.Ytbedacdakmcfpaa
