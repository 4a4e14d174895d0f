/-
  How settling the directory ends: settle, forget. Condition: a disk within bounds.
-/
import Derived.Test.YtbedacdakmcfpaaDirRep
namespace Go.Proofs.Ytbedacdakmcfpaa
open Go.RowKit

section
variable {w w' wr : World} {F : Nat → Prop} {d : Nat} {S : Dk} {G : Gh}

theorem Rep.finish (h : Rep w F d S G) (hb : S.bulk < 1099511627776) {D : Dir} (hD : ∀ i ∈ ids D, S.live i) (hok : Ok (S.settled D)) {now sure : Option Nat}
    (hc : Chg (fun k => k = d ∨ some k = G.now ∨ some k = G.sure ∨ ∃ i, S.known i ∧ k = G.fb i) w wr)
    (hd : wr.heap[d]? = some (.cells #[.int .i64 (S.room : Int), .int .i64 ((usedOf S.files D : Nat) : Int), .map now, .map sure, G.lv, .int .i64 (S.n : Int), .bool S.cut.isSome, .int .i64 G.cv, .map G.fls] 66))
    (hnow : MapO wr (Fx F w wr) now (dv G.fb D)) (hsure : MapO wr (Fx F w wr) sure (dv G.fb D)) (hboth : now = none ↔ sure = none) (h1 : ∀ b, now = some b → sure ≠ some b ∧ G.fls ≠ some b) (h2 : ∀ b, sure = some b → G.fls ≠ some b)
    (hbare : now = none → S.acts = [])
    (hfiles : ∀ i, S.known i → wr.heap[G.fb i]? = some (.cells #[G.rv i, G.sv i, .bool (decide (i ∈ ids D))] 95)) :
    Calls Try.prog 71 #[.pointer (some ⟨d, 0, none⟩), .pointer none] wr fun e w1 => e = .returned (.tuple #[]) ∧
      Calls Try.prog 73 #[.pointer (some ⟨d, 0, none⟩)] w1 fun e w2 => e = .returned (.tuple #[]) ∧ (∃ G', Rep w2 (Fx F w w2) d (S.settled D) G') ∧ Chg F w w2 := by
  have hal := acts_le S
  have hmany := h.many
  have hrn : ∀ j, G.lv.ownBlock = some j → ¬ (j = d ∨ some j = G.now ∨ some j = G.sure ∨ ∃ i, S.known i ∧ j = G.fb i) := fun j hj e => by
    obtain ⟨cur, hcur⟩ := own_block h.row hj
    rcases e with rfl | e | e | ⟨i, hi, rfl⟩
    · exact ne_tag hcur h.disk (show 104 ≠ 66 by decide) rfl
    · have hm := h.now
      rw [← e] at hm
      exact hm.2.ne hcur rfl
    · have hm := h.sure
      rw [← e] at hm
      exact hm.2.ne hcur rfl
    · exact ne_tag hcur (h.files i hi).2 (show 104 ≠ 95 by decide) rfl
  have hrr := own_keep h.row hc hrn
  have hof : ∀ p ∈ G.vs, p.1 = .pointer none ∨ ∃ i, S.known i ∧ p.1 = .pointer (some ⟨G.fb i, 0, none⟩) := fun p hp => by
    obtain ⟨a, ha, hw⟩ := h.pair hp
    rcases hw.first with ⟨_, e2⟩ | ⟨f, j, rfl, e2⟩
    · exact Or.inl e2
    · exact Or.inr ⟨f, Or.inr (mem_more ha), e2⟩
  refine (settle_any wr d G.vs.length _ _ _ _ _ _ _ _ _ (.pointer none) G.vs hd rfl hrr (fun p hp => ?_) (Or.inl rfl) (by omega) h.pvn (fun b e => by cases e) h.funcs).mono ?_
  · rcases hof p hp with e | ⟨i, hi, e⟩
    · exact Or.inl e
    · exact Or.inr ⟨_, _, _, e, hfiles i hi⟩
  rintro e w1 ⟨rfl, lv', q1, q2, q3, q4⟩
  refine ⟨rfl, ?_⟩
  have hnf : ∀ i, S.known i → ¬ (G.fb i = d ∨ some (G.fb i) = G.lv.ownBlock) := fun i hi e => by
    rcases e with e | e
    · exact h.ne_file hi e.symm
    · obtain ⟨cur, hcur⟩ := own_block h.row e.symm
      exact ne_tag (h.files i hi).2 hcur (show 95 ≠ 104 by decide) rfl
  have hf1 : ∀ i, S.known i → w1.heap[G.fb i]? = some (.cells #[G.rv i, G.sv i, .bool (decide (i ∈ ids D))] 95) := fun i hi => q4.keep (hfiles i hi) (hnf i hi)
  have hfl : ∀ p ∈ G.vs.filter fun p => !sameP p.1 (.pointer none), ∃ i, S.known i ∧ p.1 = .pointer (some ⟨G.fb i, 0, none⟩) := fun p hp => by
    obtain ⟨hp1, hp2⟩ := List.mem_filter.1 hp
    rcases hof p hp1 with e | e
    · rw [e] at hp2
      cases hp2
    · exact e
  have hle := List.length_filter_le (fun p : Value × Value => !sameP p.1 (.pointer none)) G.vs
  refine (forget_any w1 d _ _ _ _ _ lv' _ _ _ _ (G.vs.filter fun p => !sameP p.1 (.pointer none)) q1 rfl q3 (by omega) (fun p hp => ?_) (fun p hp => h.funcs p (List.mem_filter.1 hp).1)).mono ?_
  · obtain ⟨i, hi, e⟩ := hfl p hp
    exact ⟨_, _, _, _, e, hf1 i hi⟩
  rintro e w2 ⟨rfl, q5, q6⟩
  have hb5 : ∀ k, Bare w1 (G.vs.filter fun p => !sameP p.1 (.pointer none)) k → ∃ i, S.known i ∧ k = G.fb i ∧ i ∉ ids D := fun k ⟨⟨p, hp, e⟩, r, s, hk⟩ => by
    obtain ⟨i, hi, e2⟩ := hfl p hp
    rw [e] at e2
    injection e2 with e2
    injection e2 with e2
    injection e2 with e2
    refine ⟨i, hi, e2, fun hiD => ?_⟩
    rw [e2, hf1 i hi, decide_eq_true hiD] at hk
    injection hk with hk
    injection hk with hk
    simp at hk
  have hX : Chg (fun k => k = d ∨ some k = G.now ∨ some k = G.sure ∨ some k = G.lv.ownBlock ∨ ∃ i, S.known i ∧ k = G.fb i) w w2 := by
    refine ((hc.mono fun k _ e => ?_).then (q4.mono fun k _ e => ?_)).then (q5.mono fun k _ e => ?_)
    · rcases e with e | e | e | e
      · exact Or.inl e
      · exact Or.inr (Or.inl e)
      · exact Or.inr (Or.inr (Or.inl e))
      · exact Or.inr (Or.inr (Or.inr (Or.inr e)))
    · rcases e with e | e
      · exact Or.inl e
      · exact Or.inr (Or.inr (Or.inr (Or.inl e)))
    · obtain ⟨i, hi, e, _⟩ := hb5 k e
      exact Or.inr (Or.inr (Or.inr (Or.inr ⟨i, hi, e⟩)))
  have hmo : ∀ {o : Option Nat} {l : List (Value × Value)}, MapO wr (Fx F w wr) o l → MapO w2 (Fx F w w2) o l := fun {o l} hm => by
    cases o with
    | none => exact hm
    | some b =>
      refine ⟨?_, (hm.2.keep q4 (fun e => ?_)).keep q5 (fun e => ?_)⟩
      · rcases hm.1 with hh | ⟨a1, a2⟩
        · exact Or.inl hh
        · exact Or.inr ⟨a1, Nat.lt_of_lt_of_le a2 (Nat.le_trans q4.size q5.size)⟩
      · rcases e with e | e
        · exact hm.2.ne hd e.symm
        · obtain ⟨cur, hcur⟩ := own_block hrr e.symm
          exact hm.2.ne hcur rfl
      · obtain ⟨i, hi, e, _⟩ := hb5 b e
        exact hm.2.ne (hfiles i hi) e.symm
  have hd2 := q5.keep q1 (fun e => by
    obtain ⟨i, hi, e, _⟩ := hb5 d e
    exact h.ne_file hi e)
  refine ⟨rfl, h.directed hD hok hX hd2 (hmo hnow) (hmo hsure) hboth h1 h2 hbare q2 (own_keep q3 q5 (fun k hk e => ?_)) (fun i hi => ?_), hX.mono fun k _ e => ?_⟩
  · obtain ⟨i, hi, e, _⟩ := hb5 k e
    rw [q2] at hk
    exact hnf i hi (Or.inr (by rw [← e, hk]))
  · by_cases hiD : i ∈ ids D
    · refine ⟨_, q5.keep (hf1 i hi) (fun e => ?_), fun _ => rfl⟩
      obtain ⟨j, hj, e, hn⟩ := hb5 _ e
      exact hn (h.inj i j hi hj e ▸ hiD)
    · obtain ⟨r', hr'⟩ := q6 _ _ _ _ (hf1 i hi)
      exact ⟨r', hr', fun e => absurd e hiD⟩
  · rcases e with rfl | e | e | e | ⟨i, hi, rfl⟩
    · exact h.inD
    · have hm := h.now
      rw [← e] at hm
      exact hm.1
    · have hm := h.sure
      rw [← e] at hm
      exact hm.1
    · exact h.rowF k e.symm
    · exact (h.files i hi).1
end
end Go.Proofs.Ytbedacdakmcfpaa
