/-
  How Crash ends: what came out is laid on a disk of its own. Condition: a disk within bounds.
-/
import Derived.Test.YtbedacdakmcfpaaCrash
namespace Go.Proofs.Ytbedacdakmcfpaa
open Go.RowKit

def Dk.surely (S : Dk) (i : Nat) : Nat := ((S.files[i]?).map (·.sure)).getD 0
theorem sumQ_mono {q q' : Nat → Nat} {l : Dir} (h : ∀ i ∈ ids l, q i ≤ q' i) : sumQ q l ≤ sumQ q' l := by
  induction l with
  | nil => exact Nat.le_refl _
  | cons p r ih =>
    have h1 := h p.2 (List.mem_cons.2 (Or.inl rfl))
    have h2 := ih fun i hi => h i (List.mem_cons.2 (Or.inr hi))
    unfold sumQ at h2 ⊢
    simp
    omega
theorem moreSum_take {ls : List Ac} {j : Nat} {a : Ac} (h : ls[j]? = some a) (i : Nat) : moreSum (ls.take (j + 1)) i = moreSum (ls.take j) i + moreSum [a] i := by
  rw [List.take_add_one, h, moreSum_append]
  rfl
theorem moreSum_other {f i k : Nat} (h : i ≠ f) : moreSum [.more f k] i = 0 := by
  simp only [moreSum, List.map_cons, List.map_nil, List.sum_cons, List.sum_nil, if_neg (fun e : f = i => h e.symm), Nat.add_zero]
theorem moreSum_self (f k : Nat) : moreSum [.more f k] f = k := by simp [moreSum]
theorem moreSum_upto (ls : List Ac) (j i : Nat) : moreSum (ls.take j) i ≤ moreSum ls i := by
  have h1 : moreSum ls i = moreSum (ls.take j) i + moreSum (ls.drop j) i := by
    rw [← moreSum_append, List.take_append_drop]
  omega

section
variable {w w' : World} {F : Nat → Prop} {d : Nat} {S : Dk} {G : Gh}
theorem more_le (h : Rep w F d S G) {f : Nat} (hf : f ∈ moreIds S.acts) : moreSum S.acts f ≤ S.bulk := by
  obtain ⟨x, hx⟩ : ∃ x, S.files[f]? = some x := ⟨_, List.getElem?_eq_getElem (h.ok.idM f hf)⟩
  have h1 := h.ok.lens f x hx
  have h2 := file_le hx
  omega

theorem crash_end (h : Rep w F d S G) (hb : S.bulk < 1099511627776) {keep t : Int} {W : World} {on om : Nat} {ml : List (Nat × Nat)} (hc : Chg (fun _ => False) w W) (hon : MapW W on (dv G.fb (appD S.sure (stay S.acts keep t)))) (hom : MapW W om (mv G.fb ml))
    (hml : ∀ p ∈ ml, p.1 ∈ ids S.sure ++ (madeIds S.acts ++ moreIds S.acts)) (hlk : ∀ i, mlook ml i = moreSum (stay S.acts keep t) i) :
    Calls Try.prog 56 #[.agg #[.map (some on), .map (some om)], .int .i64 (S.room : Int)] W fun e w' => ∃ d2 G2, e = .returned (.pointer (some ⟨d2, 0, none⟩)) ∧
      Rep w' (fun k => w.heap.size ≤ k ∧ k < w'.heap.size) d2 (S.crash keep t) G2 ∧ Chg (fun _ => False) W w' := by
  have hW := h.keep hc (fun _ _ h => h) (fun _ h => h)
  have hlive : ∀ i ∈ ids (appD S.sure (stay S.acts keep t)), S.live i := fun i hi => by
    rw [app_stay] at hi
    exact (h.ok.upto _).2.2 i hi
  have hfl : ∀ i ∈ ids (appD S.sure (stay S.acts keep t)), ∃ x, S.files[i]? = some x := fun i hi => ⟨_, List.getElem?_eq_getElem (h.ok.liveLt (hlive i hi))⟩
  have hsu : ∀ i x, S.files[i]? = some x → S.surely i = x.sure ∧ S.bytes i = x.b := fun i x hx => by
    unfold Dk.surely Dk.bytes
    rw [hx]
    exact ⟨rfl, rfl⟩
  have hq : ∀ i ∈ ids (appD S.sure (stay S.acts keep t)), S.surely i + mlook ml i ≤ (S.bytes i).length := fun i hi => by
    obtain ⟨x, hx⟩ := hfl i hi
    rw [(hsu i x hx).1, (hsu i x hx).2, hlk]
    exact h.ok.quota keep t hx
  have hsn : Sorted (appD S.sure (stay S.acts keep t)) ∧ (ids (appD S.sure (stay S.acts keep t))).Nodup := by
    rw [app_stay]
    exact ⟨(h.ok.upto _).1, (h.ok.upto _).2.1⟩
  refine (odisk_any W on om (S.room : Int) G.fb _ ml (appD S.sure (stay S.acts keep t)) S.surely S.bytes hsn.2 hon hom hW.lies hml (fun i hi => ?_) hsn.1 (fun i hi => ?_) hq (fun i hi => ?_) ?_).mono ?_
  · rcases hlive i hi with h1 | h1
    · exact List.mem_append.2 (Or.inl h1)
    · exact List.mem_append.2 (Or.inr (List.mem_append.2 (Or.inl h1)))
  · obtain ⟨x, hx⟩ := hfl i hi
    obtain ⟨b1, b2, b3⟩ := hW.bytes i x (hlive i hi) hx
    have f2 := (hW.files i (Or.inl (hlive i hi))).2
    rw [b1, ← (hsu i x hx).1] at f2
    exact ⟨_, _, f2, by rw [(hsu i x hx).2]; exact b2⟩
  · obtain ⟨x, hx⟩ := hfl i hi
    rw [(hsu i x hx).2]
    have := file_le hx
    omega
  · have h1 := lens_used (S := S) hsn.2
    have h2 : sumQ (fun i => S.surely i + mlook ml i) (appD S.sure (stay S.acts keep t)) ≤ usedOf S.files (appD S.sure (stay S.acts keep t)) := by
      refine sumQ_mono (q' := lenOf S.files) fun i hi => ?_
      obtain ⟨x, hx⟩ := hfl i hi
      have := hq i hi
      rw [(hsu i x hx).2] at this
      simpa [lenOf, hx] using this
    omega
  · rintro e w' ⟨d2, nm, sm, fb2, rv2, he, hnew, hsm, hs1, hs2⟩
    obtain ⟨G2, hr⟩ := New.rep hW (keep := keep) (t := t) (fun i x hx => by rw [(hsu i x hx).1, hlk]) (fun i x hx => by rw [(hsu i x hx).1, (hsu i x hx).2, hlk]) hnew hsm hs1 hs2
    refine ⟨d2, G2, he, hr.mono fun k hk => ⟨Nat.le_trans hc.size hk.1, hk.2⟩, hnew.chg⟩
end
end Go.Proofs.Ytbedacdakmcfpaa
