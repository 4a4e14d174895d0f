/-
  The document's examples at each statement's head answer true, and leave all that was there. Conditions: none.
-/
import Derived.Test.YtbedacdakmcfpaaNames
import Derived.Test.YtbedacdakmcfpaaBytes
namespace Go.Proofs.Ytbedacdakmcfpaa
open Go.RowKit
variable {B : Nat} {w w' : World} {F : Nat → Prop} {d : Nat} {S : Dk}

theorem few_ids (n : Nat) (l : List Nat) (h : l.Nodup) (hn : ∀ i ∈ l, i < n) : l.length ≤ n := by
  have h1 := lens_le (List.replicate n ⟨[0], 0⟩) l h
  have h2 : (l.map (lenOf (List.replicate n ⟨[0], 0⟩))).sum = l.length := by
    clear h h1
    induction l with
    | nil => rfl
    | cons a r ih =>
      have ha := hn a (by simp)
      have e : lenOf (List.replicate n ⟨[0], 0⟩) a = 1 := by simp [lenOf, ha]
      simp [e, ih (fun i hi => hn i (by simp [hi]))]
      omega
  have h3 : ((List.replicate n (⟨[0], 0⟩ : Fl)).map fun f => f.b.length).sum = n := by simp
  omega
theorem names_stands (h : Stands B w F d S) (hb : S.bulk < 1099511627776) :
    Calls Try.prog 27 #[.pointer (some ⟨d, 0, none⟩)] w fun e w' => ∃ v, e = .returned v ∧ w'.ownsRow w.heap.size 9 1 v S.dir.length (tc (S.dir.map (·.1))) ∧ Stands B w' F d S ∧ Chg (fun _ => False) w w' := by
  have h0 := h
  obtain ⟨⟨G, hr⟩, h2, h3⟩ := h
  have hl : S.dir.length ≤ S.files.length := by
    have := few_ids S.files.length (ids S.dir) hr.ok.oneD (fun i hi => hr.ok.idD hi)
    simpa [ids] using this
  have hf : S.files.length ≤ S.bulk := by unfold Dk.bulk; omega
  refine (names_rep hr (fun p hp => ?_) (by omega)).mono ?_
  · have := isNm_len (h3.dir hr.ok p hp)
    omega
  · rintro e w' ⟨v, rfl, hrow, hc⟩
    exact ⟨v, rfl, hrow, h0.keep hc (fun _ _ h => h), hc⟩

/-! ### the examples, plainly -/
def x1 : Dk := ((Dk.new 10).append [97] [120, 121, 122]).1
def x2 : Dk := (x1.sync [97]).1
def x3 : Dk := (x2.append [97] [117, 118]).1
def x4 : Dk := (x3.append [98] [49, 50, 51, 52, 53, 54]).1
theorem y1 : ((Dk.new 10).append [97] [120, 121, 122]).2 = 0 ∧ (x1.sync [97]).2 = 0 ∧ (x2.append [97] [117, 118]).2 = 0 ∧ (x3.append [98] [49, 50, 51, 52, 53, 54]).2 = 33 := by decide
theorem y2 : x4.acts.length = 2 ∧ x4.size [97] = 5 := by decide
theorem y3 : ((x4.crash 1 1).read [97]).1 = [120, 121, 122, 117] ∧ ((x4.crash 1 1).read [97]).2 = 0 ∧ (x4.crash 0 9).dir = [] := by decide
theorem y4 : (Dk.new 10).bulk ≤ 100 ∧ x1.bulk ≤ 100 ∧ x2.bulk ≤ 100 ∧ x3.bulk ≤ 100 ∧ x4.bulk ≤ 100 ∧ (x4.crash 1 1).bulk ≤ 100 ∧ (x4.crash 0 9).bulk ≤ 100 := by decide

theorem lit_sl (w : World) (l : List UInt8) (hl : l.length ≤ 1000) : Sl (w.alloc (.cells (bc l).toArray 5 ((bc l).toArray.size, (bc l).toArray.size + 1))) (.slice (some ⟨w.heap.size, 0, none⟩) l.length l.length) l :=
  slNew w l _ _ rfl (by unfold maxLen; omega)

/-- Append of a constant's bytes. -/
theorem append_lit (h : Stands B w F d S) (hB : B ≤ w.heap.size) (n : Nm) (l : List UInt8) (hl : l.length ≤ 1000) (hb : S.bulk + l.length + 3 < 1099511627776) (C : Array Value) (fr : Nat × Nat) (len : Nat) (hC : C = (bc l).toArray) (hlen : len = l.length) :
    Calls Try.prog 18 #[.pointer (some ⟨d, 0, none⟩), .string (strB n), .slice (some ⟨w.heap.size, 0, none⟩) len len] (w.alloc (.cells C 5 fr)) fun e w' => e = .returned (.int .i64 (S.append n l).2) ∧ After B w F d (S.append n l).1 w' := by
  subst hC hlen
  have hc : Chg (fun _ => False) w (w.alloc (.cells (bc l).toArray 5 fr)) := (Chg.refl _ w).alloc _
  have h1 := h.keep hc (fun _ _ h => h)
  refine (append_lies h1 (Nat.le_trans hB hc.size) n hb (slNew w l fr _ rfl (by unfold maxLen; omega)) (fun _ g hg hF => ?_)).mono ?_
  · have := (h.2.1 g hF).2
    cases hg
    exact Nat.lt_irrefl _ this
  · rintro e w' ⟨rfl, F', h2, h3, h4⟩
    refine ⟨rfl, F', h2, fun k hk => ?_, (hc.mono fun _ _ h => h.elim).then h4⟩
    rcases h3 k hk with h | h
    · exact Or.inl h
    · exact Or.inr (Nat.le_trans hc.size h)

theorem Stands.step {F2 : Nat → Prop} {d2 : Nat} {S2 S' : Dk} (h2 : Stands B w F2 d2 S2) (h : After B w F d S' w') (hd : ∀ k, F2 k → ¬ F k) : Stands B w' F2 d2 S2 := by
  obtain ⟨F', _, _, hc⟩ := h
  exact h2.keep hc hd
theorem After.stands (h : After B w F d S w') : ∃ F', Stands B w' F' d S ∧ (∀ k, F' k → F k ∨ w.heap.size ≤ k) := by
  obtain ⟨F', h1, h2, _⟩ := h
  exact ⟨F', h1, h2⟩
theorem After.size (h : After B w F d S w') : w.heap.size ≤ w'.heap.size := by
  obtain ⟨F', _, _, hc⟩ := h
  exact hc.size
theorem After.below {S0 : Dk} (h : After B w F d S w') (h0 : Stands B w F d S0) (hB : B ≤ w.heap.size) : Below B w w' := by
  obtain ⟨F', _, _, hc⟩ := h
  exact h0.below hB hc
theorem chg_below (h : Chg (fun _ => False) w w') (hB : B ≤ w.heap.size) : Below B w w' := h.below (fun _ h => h.elim) hB

set_option maxRecDepth 20000 in
set_option maxHeartbeats 800000 in
theorem shown_any (w : World) : Calls Try.prog 8 #[] w fun e w' => e = .returned (.bool true) ∧ Below w.heap.size w w' := by
  obtain ⟨e1, e2, e3, e4⟩ := y1
  obtain ⟨e5, e6⟩ := y2
  obtain ⟨e7, e8, e9⟩ := y3
  obtain ⟨k0, k1, k2, k3, k4, k5, k6⟩ := y4
  have hcv := fun (W : World) (C : Array Value) (l c : Nat) => conv33 W C l c W.heap.size rfl
  go_enter Try.func8, Try.ntmps8
  go_wp2_with fail
  refine (new_lies2 (B := w.heap.size) w (Nat.le_refl _) 10 (by decide)).mono ?_
  rintro e w1 ⟨rfl, hs0, hc0⟩
  have hz1 : w.heap.size ≤ w1.heap.size := hc0.size
  have hb1 := chg_below hc0 (Nat.le_refl _)
  go_wp2_with fail
  refine (append_lit hs0 hz1 [97] [120, 121, 122] (by decide) (by simp; omega) _ _ _ rfl rfl).mono ?_
  rintro e w2 ⟨rfl, ha⟩
  have hb2 := hb1.trans (ha.below hs0 hz1)
  have hz2 := hb2.size
  obtain ⟨F1, hs1, -⟩ := ha.stands
  change Stands _ _ _ _ x1 at hs1
  clear ha hs0
  rw [e1]
  go_wp2_with fail
  refine (sync_lies hs1 hz2 [97] (by omega)).mono ?_
  rintro e w3 ⟨rfl, ha⟩
  have hb3 := hb2.trans (ha.below hs1 hz2)
  have hz3 := hb3.size
  obtain ⟨F2, hs2, -⟩ := ha.stands
  change Stands _ _ _ _ x2 at hs2
  clear ha hs1
  rw [e2]
  go_wp2_with fail
  refine (append_lit hs2 hz3 [97] [117, 118] (by decide) (by simp; omega) _ _ _ rfl rfl).mono ?_
  rintro e w4 ⟨rfl, ha⟩
  have hb4 := hb3.trans (ha.below hs2 hz3)
  have hz4 := hb4.size
  obtain ⟨F3, hs3, -⟩ := ha.stands
  change Stands _ _ _ _ x3 at hs3
  clear ha hs2
  rw [e3]
  go_wp2_with fail
  refine (append_lit hs3 hz4 [98] [49, 50, 51, 52, 53, 54] (by decide) (by simp; omega) _ _ _ rfl rfl).mono ?_
  rintro e w5 ⟨rfl, ha⟩
  have hb5 := hb4.trans (ha.below hs3 hz4)
  have hz5 := hb5.size
  obtain ⟨F4, hs4, -⟩ := ha.stands
  change Stands _ _ _ _ x4 at hs4
  have hl4 := fun k hk => (hs4.2.1 k hk).2
  clear ha hs3
  rw [e4]
  go_wp2_with fail
  refine (crash_lies hs4 hz5 1 1 (by omega)).mono ?_
  rintro e w6 ⟨dx, FX, rfl, hsx, hxn, hc6⟩
  have hb6 := hb5.trans (chg_below hc6 hz5)
  have hz6 := hb6.size
  have hs4' := hs4.keep hc6 (fun _ _ h => h)
  clear hs4
  go_wp2_with fail
  refine (crash_lies hs4' hz6 0 9 (by omega)).mono ?_
  rintro e w7 ⟨dy, FY, rfl, hsy, hyn, hc7⟩
  have hb7 := hb6.trans (chg_below hc7 hz6)
  have hz7 := hb7.size
  have hs4'' := hs4'.keep hc7 (fun _ _ h => h)
  have hsx' := hsx.keep hc7 (fun _ _ h => h)
  have hlx := fun k hk => (hsx.2.1 k hk).2
  clear hs4' hsx
  go_wp2_with fail
  refine (read_lies hsx' hz7 [97] (by omega)).mono ?_
  rintro e w8 ⟨v, rfl, hrow, FX', hsx8, hxn8, hc8, -⟩
  have hb8 := hb7.trans (hsx'.below hz7 hc8)
  rw [e7] at hrow
  rw [e8]
  have hs48 := hs4''.keep hc8 (fun k hk hx => by have := hl4 k hk; have := hxn k hx; omega)
  have hsy8 := hsy.keep hc8 (fun k hk hx => by have := hyn k hk; have := hlx k hx; omega)
  have hstr := run_str w8 v _ (sl_of_own hrow)
  clear hs4'' hsx' hsx8 hrow hsy
  go_wp2_with fail
  refine (loose_lies hs48).mono ?_
  rintro e w9 ⟨rfl, rfl⟩
  rw [e5]
  go_wp2_with fail
  refine (size_lies hs48 [97]).mono ?_
  rintro e w10 ⟨rfl, rfl⟩
  rw [e6]
  go_wp2_with fail
  refine (names_stands hsy8 (by omega)).mono ?_
  rintro e w11 ⟨u, rfl, hu, -, hc11⟩
  rw [e9] at hu
  have hb11 := hb8.trans (chg_below hc11 hb8.size)
  obtain ⟨ua, uc, rfl⟩ := own_shape hu
  go_wp2
  go_ret
  exact ⟨rfl, hb11⟩
end Go.Proofs.Ytbedacdakmcfpaa
