/-
  LruLast, plainly, and its map: what was put last of each key. No condition.
-/
import Derived.Test.YthhmjoafoahpbaaScript
namespace Go.Proofs.Ythhmjoafoahpbaa
open Go.RowKit

def setf (f : Bs → Nat) (k : Bs) (n : Nat) : Bs → Nat := fun x => if x = k then n else f x
def zero (f : Bs → Nat) (gl : List Bs) : Bs → Nat := fun x => if x ∈ gl then 0 else f x
theorem zero_nil (f : Bs → Nat) : zero f [] = f := by
  funext x
  simp [zero]
theorem zero_more (f : Bs → Nat) (gl : List Bs) {m : Nat} (h : m < gl.length) : zero f (gl.take (m + 1)) = setf (zero f (gl.take m)) gl[m] 0 := by
  funext x
  have e : gl.take (m + 1) = gl.take m ++ [gl[m]] := (take_more h).symm
  have hm : x ∈ gl.take (m + 1) ↔ x ∈ gl.take m ∨ x = gl[m] := by rw [e, List.mem_append, List.mem_singleton]
  unfold zero setf
  by_cases hx : x = gl[m]
  · rw [if_pos (hm.2 (Or.inr hx)), if_pos hx]
  · rw [if_neg hx]
    show _ = if x ∈ gl.take m then 0 else f x
    by_cases h2 : x ∈ gl.take m
    · rw [if_pos (hm.2 (Or.inl h2)), if_pos h2]
    · rw [if_neg (fun hh => (hm.1 hh).elim h2 hx), if_neg h2]
/-- The map m tells f: what it does not tell is 0. -/
def MapI (w : World) (m : Nat) (f : Bs → Nat) : Prop :=
  ∃ l, MapW w m l ∧ (∀ p ∈ l, ∃ k, p = (.string (strB k), .int .i64 (f k : Int))) ∧ ∀ k, f k ≠ 0 → (Value.string (strB k), Value.int .i64 (f k : Int)) ∈ l
theorem MapI.keep {F : Nat → Prop} {w w' : World} {m : Nat} {f : Bs → Nat} (h : MapI w m f) (hc : Chg F w w') (hn : ¬ F m) : MapI w' m f := by
  obtain ⟨l, h1, h2⟩ := h
  exact ⟨l, h1.keep hc hn, h2⟩
theorem MapI.lt {w : World} {m : Nat} {f : Bs → Nat} (h : MapI w m f) : m < w.heap.size := by
  obtain ⟨l, h1, h2⟩ := h
  exact h1.lt
theorem MapI.new (w : World) : MapI (w.alloc (.map #[] 0)) w.heap.size (fun _ => 0) := ⟨[], MapW.made w, (fun p hp => by cases hp), fun k hk => absurd rfl hk⟩
theorem MapI.keysK {l : List (Value × Value)} {f : Bs → Nat} (h : ∀ p ∈ l, ∃ k, p = (Value.string (strB k), Value.int .i64 (f k : Int))) : ∀ p ∈ l, KStr p.1 := by
  intro p hp
  obtain ⟨k, rfl⟩ := h p hp
  exact ⟨_, rfl⟩
theorem perm_of_mem {α : Type} {a : α} {l : List α} (h : a ∈ l) : ∃ l', l.Perm (a :: l') := by
  obtain ⟨s, t, rfl⟩ := List.append_of_mem h
  exact ⟨s ++ t, List.perm_middle⟩
theorem MapI.look {w : World} {m : Nat} {f : Bs → Nat} (h : MapI w m f) (k : Bs) : (Instr.lookup 43 (.map (some m)) (.string (strB k)) false).run Try.prog w = .ok (.int .i64 (f k : Int)) w := by
  obtain ⟨l, h1, h2, h3⟩ := h
  have hz : (zeroValue 3).run Try.prog w = .ok (.int .i64 0) w := by kernel_rfl
  by_cases hk : ∃ v, (Value.string (strB k), v) ∈ l
  · obtain ⟨v, hv⟩ := hk
    obtain ⟨k', hk'⟩ := h2 _ hv
    injection hk' with e1 e2
    injection e1 with e1
    obtain rfl := strB_inj e1
    subst e2
    obtain ⟨l', hp⟩ := perm_of_mem hv
    have := (h1.perm hp).look (kstr w) (fun p hp' => MapI.keysK h2 p (hp.mem_iff.2 (List.mem_cons_of_mem _ hp'))) Try.underlying43 ⟨strB k, rfl⟩ false
    simpa using this
  · have h0 : f k = 0 := by
      by_cases h : f k = 0
      · exact h
      · exact absurd ⟨_, h3 k h⟩ hk
    have := h1.look_none (kstr w) (MapI.keysK h2) Try.underlying43 ⟨strB k, rfl⟩ (fun p hp e => hk ⟨p.2, by rw [← e]; exact hp⟩) hz false
    rw [h0]
    simpa using this
theorem MapI.put {w : World} {m : Nat} {f : Bs → Nat} (h : MapI w m f) (k : Bs) (n : Nat) :
    ∃ w', (Instr.mapUpdate 43 (.map (some m)) (.string (strB k)) (.int .i64 (n : Int))).run Try.prog w = .ok () w' ∧ MapI w' m (setf f k n) ∧ Chg (· = m) w w' := by
  obtain ⟨l, h1, h2, h3⟩ := h
  by_cases hk : ∃ v, (Value.string (strB k), v) ∈ l
  · obtain ⟨v, hv⟩ := hk
    obtain ⟨l', hp⟩ := perm_of_mem hv
    have hm := h1.perm hp
    have hnd := hm.keys
    rw [List.map_cons, List.nodup_cons] at hnd
    obtain ⟨w', r1, r2, r3, _⟩ := hm.put_old (kstr w) (fun p hp' => MapI.keysK h2 p (hp.mem_iff.2 (List.mem_cons_of_mem _ hp'))) Try.underlying43 ⟨strB k, rfl⟩ (.int .i64 (n : Int))
    refine ⟨w', r1, ⟨_, r2, fun p hp' => ?_, fun x hx => ?_⟩, r3⟩
    · rcases List.mem_cons.1 hp' with rfl | hp'
      · exact ⟨k, by simp [setf]⟩
      · obtain ⟨x, rfl⟩ := h2 p (hp.mem_iff.2 (List.mem_cons_of_mem _ hp'))
        refine ⟨x, ?_⟩
        have : x ≠ k := fun e => hnd.1 (List.mem_map.2 ⟨_, hp', by rw [e]⟩)
        simp [setf, this]
    · by_cases e : x = k
      · subst e
        simp [setf]
      · simp only [setf, if_neg e] at hx ⊢
        have := hp.mem_iff.1 (h3 x hx)
        rcases List.mem_cons.1 this with hh | hh
        · injection hh with e1 _
          injection e1 with e1
          exact absurd (strB_inj e1) e
        · exact List.mem_cons_of_mem _ hh
  · obtain ⟨w', r1, r2, r3, _⟩ := h1.put_new (kstr w) (MapI.keysK h2) Try.underlying43 ⟨strB k, rfl⟩ (fun p hp e => hk ⟨p.2, by rw [← e]; exact hp⟩) (.int .i64 (n : Int))
    refine ⟨w', r1, ⟨_, r2, fun p hp' => ?_, fun x hx => ?_⟩, r3⟩
    · rcases List.mem_cons.1 hp' with rfl | hp'
      · exact ⟨k, by simp [setf]⟩
      · obtain ⟨x, rfl⟩ := h2 p hp'
        refine ⟨x, ?_⟩
        have : x ≠ k := fun e => hk ⟨_, by rw [← e]; exact hp'⟩
        simp [setf, this]
    · by_cases e : x = k
      · subst e
        simp [setf]
      · simp only [setf, if_neg e] at hx ⊢
        exact List.mem_cons_of_mem _ (h3 x hx)

/-! ### what a cache tells of a key -/
theorem seek_cons (x : Bs) (p : Tx) (r : List Tx) : seek x (p :: r) = if p.1 = x then some p.2 else seek x r := rfl
theorem seek_del (x k : Bs) (l : List Tx) : seek x (del k l) = if x = k then none else seek x l := by
  induction l with
  | nil => simp [del, seek]
  | cons p r ih =>
    unfold del at *
    by_cases hp : p.1 = k
    · rw [List.filter_cons_of_neg (by simp [hp]), ih]
      by_cases hx : x = k
      · rw [if_pos hx, if_pos hx]
      · rw [if_neg hx, if_neg hx]
        rw [seek_cons, if_neg (fun e => hx (e.symm.trans hp))]
    · rw [List.filter_cons_of_pos (by simp [hp]), seek_cons, seek_cons]
      by_cases hpx : p.1 = x
      · rw [if_pos hpx, if_pos hpx]
        rw [if_neg (fun e => hp (hpx.trans e))]
      · rw [if_neg hpx, if_neg hpx]
        exact ih
theorem seek_front (x k v : Bs) (l : List Tx) : seek x ((k, v) :: del k l) = if x = k then some v else seek x l := by
  rw [seek_cons]
  simp only
  by_cases h : k = x
  · rw [if_pos h, if_pos h.symm]
  · rw [if_neg h, if_neg (fun e => h e.symm), seek_del, if_neg (fun e => h e.symm)]
theorem seek_get (S : Lr) (k x : Bs) : seek x (S.get k).l = seek x S.l := by
  unfold Lr.get
  cases h : seek k S.l with
  | none => rfl
  | some v =>
    simp only
    rw [seek_front]
    by_cases e : x = k
    · rw [if_pos e, e, h]
    · rw [if_neg e]
theorem seek_mem {x : Bs} {l : List Tx} : seek x l ≠ none ↔ x ∈ l.map (·.1) := by
  induction l with
  | nil => simp [seek]
  | cons p r ih =>
    rw [seek_cons, List.map_cons, List.mem_cons]
    by_cases h : p.1 = x
    · rw [if_pos h]
      exact ⟨fun _ => Or.inl h.symm, fun _ => by simp⟩
    · rw [if_neg h, ih]
      exact ⟨fun hh => Or.inr hh, fun hh => hh.resolve_left (fun e => h e.symm)⟩
theorem seek_app {x : Bs} {a b : List Tx} : seek x (a ++ b) = (match seek x a with | some v => some v | none => seek x b) := by
  induction a with
  | nil => rfl
  | cons p r ih =>
    rw [List.cons_append, seek_cons, seek_cons]
    by_cases h : p.1 = x
    · rw [if_pos h, if_pos h]
    · rw [if_neg h, if_neg h]
      exact ih
theorem seek_dropAll (x : Bs) (ks : List Bs) (l : List Tx) : seek x (dropAll ks l) = if x ∈ ks then none else seek x l := by
  induction ks generalizing l with
  | nil => simp [dropAll]
  | cons k r ih =>
    unfold dropAll
    rw [ih, seek_del]
    by_cases h1 : x = k
    · simp [h1]
    · by_cases h2 : x ∈ r
      · simp [h2]
      · simp [h1, h2]
theorem gone_split (B : Nat) (L : List Tx) : ∃ R, L = fit B L ++ R ∧ gone B L = (R.map (·.1)).reverse := by
  obtain ⟨R, hR⟩ := fit_prefix B L
  refine ⟨R, hR.symm, ?_⟩
  unfold gone
  congr 2
  conv => lhs; rw [← hR]
  rw [hR]
  conv => lhs; arg 2; rw [← hR]
  rw [List.drop_append_of_le_length (Nat.le_refl _)]
  simp
theorem gone_nodup {B : Nat} {L : List Tx} (h : Uniq L) : (gone B L).Nodup := by
  obtain ⟨R, h1, h2⟩ := gone_split B L
  unfold Uniq at h
  rw [h1, List.map_append] at h
  rw [h2]
  unfold List.Nodup
  rw [List.pairwise_reverse]
  exact (List.nodup_append.1 h).2.1.imp fun hh => hh.symm
theorem gone_mem {B : Nat} {L : List Tx} {x : Bs} (h : x ∈ gone B L) : seek x L ≠ none := by
  obtain ⟨R, h1, h2⟩ := gone_split B L
  rw [h2, List.mem_reverse] at h
  rw [seek_mem, h1, List.map_append]
  exact List.mem_append.2 (Or.inr h)
theorem seek_fit {B : Nat} {L : List Tx} (h : Uniq L) (x : Bs) : seek x (fit B L) = if x ∈ gone B L then none else seek x L := by
  obtain ⟨R, h1, h2⟩ := gone_split B L
  by_cases hx : x ∈ gone B L
  · rw [if_pos hx]
    rw [h2, List.mem_reverse] at hx
    unfold Uniq at h
    rw [h1, List.map_append, List.nodup_append] at h
    cases hs : seek x (fit B L) with
    | none => rfl
    | some v =>
      have : x ∈ (fit B L).map (·.1) := seek_mem.1 (by rw [hs]; simp)
      exact absurd rfl (h.2.2 x this x hx)
  · rw [if_neg hx]
    rw [h2, List.mem_reverse] at hx
    have hn : seek x R = none := by
      cases hs : seek x R with
      | none => rfl
      | some v => exact absurd (seek_mem.1 (by rw [hs]; simp)) hx
    conv => rhs; rw [h1, seek_app, hn]
    cases seek x (fit B L) <;> rfl

/-- What f tells is what was put last, as far as it is there. -/
def Inv (os : List Oq) (j : Nat) (S : Lr) (f : Bs → Nat) : Prop := ∀ x, (seek x S.l = none ∧ f x = 0) ∨ ∃ i, ∃ h : i < os.length, i < j ∧ f x = i + 1 ∧ seek x S.l = some os[i].val
theorem Inv.get {os : List Oq} {j : Nat} {S : Lr} {f : Bs → Nat} (h : Inv os j S f) (k : Bs) : Inv os j (S.get k) f := by
  intro x
  rw [seek_get]
  exact h x
theorem Inv.on {os : List Oq} {j : Nat} {S : Lr} {f : Bs → Nat} (h : Inv os j S f) : Inv os (j + 1) S f := by
  intro x
  rcases h x with hh | ⟨i, h1, h2, h3⟩
  · exact Or.inl hh
  · exact Or.inr ⟨i, h1, by omega, h3⟩
theorem Inv.drop {os : List Oq} {j : Nat} {S : Lr} {f : Bs → Nat} (h : Inv os j S f) (ks : List Bs) : Inv os j (S.drop ks) (zero f ks) := by
  intro x
  have e : seek x (S.drop ks).l = if x ∈ ks then none else seek x S.l := seek_dropAll x ks S.l
  rw [e]
  unfold zero
  by_cases hx : x ∈ ks
  · rw [if_pos hx, if_pos hx]
    exact Or.inl ⟨rfl, rfl⟩
  · rw [if_neg hx, if_neg hx]
    exact h x
theorem Inv.put {os : List Oq} {j : Nat} {S : Lr} {f : Bs → Nat} (h : Inv os j S f) (hu : Uniq S.l) (hj : j < os.length) (hw : wt (os[j].key, os[j].val) ≤ S.budget) :
    (∀ x ∈ S.went os[j].key os[j].val, setf f os[j].key (j + 1) x ≠ 0) ∧ (S.went os[j].key os[j].val).Nodup ∧ Inv os (j + 1) (S.put os[j].key os[j].val) (zero (setf f os[j].key (j + 1)) (S.went os[j].key os[j].val)) := by
  have e1 : S.went os[j].key os[j].val = gone S.budget ((os[j].key, os[j].val) :: del os[j].key S.l) := by unfold Lr.went; rw [if_pos hw]
  have e2 : (S.put os[j].key os[j].val).l = fit S.budget ((os[j].key, os[j].val) :: del os[j].key S.l) := by unfold Lr.put; rw [if_pos hw]
  have hU := hu.front os[j].key os[j].val
  have hI : ∀ x, (seek x ((os[j].key, os[j].val) :: del os[j].key S.l) = none ∧ setf f os[j].key (j + 1) x = 0) ∨ ∃ i, ∃ h : i < os.length, i < j + 1 ∧ setf f os[j].key (j + 1) x = i + 1 ∧ seek x ((os[j].key, os[j].val) :: del os[j].key S.l) = some os[i].val := by
    intro x
    rw [seek_front]
    unfold setf
    by_cases e : x = os[j].key
    · rw [if_pos e, if_pos e]
      exact Or.inr ⟨j, hj, by omega, rfl, rfl⟩
    · rw [if_neg e, if_neg e]
      rcases h x with hh | ⟨i, h1, h2, h3⟩
      · exact Or.inl hh
      · exact Or.inr ⟨i, h1, by omega, h3⟩
  rw [e1]
  refine ⟨fun x hx => ?_, gone_nodup hU, fun x => ?_⟩
  · have := gone_mem hx
    rcases hI x with ⟨hh, _⟩ | ⟨i, _, _, h3, _⟩
    · exact absurd hh this
    · omega
  · rw [e2, seek_fit hU]
    unfold zero
    by_cases hx : x ∈ gone S.budget ((os[j].key, os[j].val) :: del os[j].key S.l)
    · rw [if_pos hx, if_pos hx]
      exact Or.inl ⟨rfl, rfl⟩
    · rw [if_neg hx, if_neg hx]
      exact hI x
theorem Inv.refused {os : List Oq} {j : Nat} {S : Lr} {f : Bs → Nat} (h : Inv os j S f) {k v : Bs} (hw : ¬ wt (k, v) ≤ S.budget) : S.went k v = [] ∧ S.put k v = S ∧ S.code k v = 70 ∧ Inv os (j + 1) (S.put k v) f := by
  have e1 : S.went k v = [] := by unfold Lr.went; rw [if_neg hw]
  have e2 : S.put k v = S := by unfold Lr.put; rw [if_neg hw]
  have e3 : S.code k v = 70 := by unfold Lr.code; rw [if_neg hw]
  rw [e2]
  exact ⟨e1, rfl, e3, h.on⟩
theorem Inv.keys {os : List Oq} {j : Nat} {S : Lr} {f : Bs → Nat} (h : Inv os j S f) {x : Bs} (hx : x ∈ S.l.map (·.1)) : f x ≠ 0 := by
  have := seek_mem.2 hx
  rcases h x with ⟨hh, _⟩ | ⟨i, _, _, h3, _⟩
  · exact absurd hh this
  · omega
end Go.Proofs.Ythhmjoafoahpbaa
