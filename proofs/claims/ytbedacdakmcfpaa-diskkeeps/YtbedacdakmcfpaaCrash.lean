/-
  What Crash answers. Condition: a disk within bounds.
-/
import Derived.Test.YtbedacdakmcfpaaCrashPure
namespace Go.Proofs.Ytbedacdakmcfpaa
open Go.RowKit

theorem enters68 : ∀ args w, (callFunc 68 args).run Try.prog w = .ok (.enter 68 args) w := enters_of Try.func68 (by kernel_rfl) rfl
theorem enters70 : ∀ args w, (callFunc 70 args).run Try.prog w = .ok (.enter 70 args) w := enters_of Try.func70 (by kernel_rfl) rfl

section
variable {w w' : World} {F : Nat → Prop} {d : Nat} {S : Dk} {G : Gh}

/-- A disk that was laid anew lies as a disk does. -/
theorem New.rep {d2 nm sm : Nat} {fb2 : Nat → Nat} {rv2 : Nat → Value} {q : Nat → Nat} {cut : Nat → List UInt8} (h : Rep w F d S G) {keep t : Int} (hq : ∀ i x, S.files[i]? = some x → q i = x.sure + moreSum (stay S.acts keep t) i) (hcut : ∀ i x, S.files[i]? = some x → cut i = x.b.take (x.sure + moreSum (stay S.acts keep t) i))
    (hn : New w d2 nm (S.room : Int) (some sm) fb2 rv2 q cut (appD S.sure (stay S.acts keep t)) w') (hsm : MapW w' sm (dv fb2 (appD S.sure (stay S.acts keep t)))) (hs1 : w.heap.size ≤ sm) (hs2 : sm ≠ nm) :
    ∃ G2, Rep w' (fun k => w.heap.size ≤ k ∧ k < w'.heap.size) d2 (S.crash keep t) G2 := by
  have hok := h.ok.crash keep t
  have hlv : ∀ i, (S.crash keep t).live i ↔ i ∈ ids (appD S.sure (stay S.acts keep t)) := fun i => by
    unfold Dk.live
    show i ∈ ids (appD S.sure (stay S.acts keep t)) ∨ i ∈ madeIds [] ↔ _
    simp [madeIds]
  have hkn : ∀ i, (S.crash keep t).known i → i ∈ ids (appD S.sure (stay S.acts keep t)) := fun i hi => by
    rcases hi with hi | hi
    · exact (hlv i).1 hi
    · cases hi
  have hlen : ∀ i ∈ ids (appD S.sure (stay S.acts keep t)), ∃ x, S.files[i]? = some x := fun i hi => by
    rw [app_stay] at hi
    exact ⟨_, List.getElem?_eq_getElem (h.ok.liveLt ((h.ok.upto _).2.2 i hi))⟩
  refine ⟨{ fb := fb2, rv := rv2, sv := fun i => .int .i64 (q i : Int), now := some nm, sure := some sm, fls := none, lv := .slice none 0 0, cv := 0, vs := [] },
    { ok := hok
      disk := ?_
      inD := ⟨hn.newD, lt_of_heap hn.disk⟩
      roomy := h.roomy
      cutv := fun c e => by cases e
      now := ⟨⟨hn.newM, hn.map.lt⟩, hn.map⟩
      sure := ⟨⟨hs1, hsm.lt⟩, hsm⟩
      both := by simp
      bare := fun e => by cases e
      fails := ⟨[], rfl, fun k _ => by show false = true ↔ _; simp⟩
      two := fun b e => ⟨fun e2 => hs2 (by injection e with e; injection e2 with e2; rw [e, e2]), fun e2 => by cases e2⟩
      three := fun b e e2 => by cases e2
      row := ⟨rfl, Or.inl ⟨rfl, rfl⟩⟩
      rowF := fun k hk => by cases hk
      many := rfl
      acts := fun j a p ha => by cases ha
      files := fun i hi => ?_
      inj := fun i j hi hj e => hn.inj i (hkn i hi) j (hkn j hj) e
      bytes := fun i y hi hy => ?_
      apart := fun i j k hi hj e1 e2 => hn.apart i ((hlv i).1 hi) j ((hlv j).1 hj) k e1 e2 }⟩
  · rw [hn.disk]
    unfold dcells
    have e1 : (S.crash keep t).used = sumQ q (appD S.sure (stay S.acts keep t)) := by
      unfold Dk.used usedOf sumQ
      show ((appD S.sure (stay S.acts keep t)).map fun p => lenOf (S.crash keep t).files p.2).sum = _
      congr 1
      refine List.map_congr_left fun p hp => ?_
      obtain ⟨x, hx⟩ := hlen p.2 (List.mem_map.2 ⟨p, hp, rfl⟩)
      have hc : (S.crash keep t).files[p.2]? = some ⟨x.b.take (x.sure + moreSum (stay S.acts keep t) p.2), x.sure + moreSum (stay S.acts keep t) p.2⟩ := by
        show (S.files.mapIdx _)[p.2]? = _
        rw [List.getElem?_mapIdx, hx]
        rfl
      have hle := h.ok.quota keep t hx
      rw [hq _ _ hx]
      simp only [lenOf, hc, Option.map_some, Option.getD_some, List.length_take]
      omega
    rw [e1]
    rfl
  · obtain ⟨g1, g2⟩ := hn.files i (hkn i hi)
    refine ⟨⟨g1, lt_of_heap g2⟩, ?_⟩
    show w'.heap[fb2 i]? = some (.cells #[rv2 i, .int .i64 (q i : Int), .bool (decide (i ∈ ids (appD S.sure (stay S.acts keep t))))] _)
    rw [decide_eq_true (hkn i hi)]
    exact g2
  · have hi' := (hlv i).1 hi
    obtain ⟨x, hx, rfl⟩ := crash_file hy
    obtain ⟨g1, g2⟩ := hn.rows i hi'
    refine ⟨?_, ?_, fun k hk => ⟨g2 k hk, ?_⟩⟩
    · show Value.int .i64 (q i : Int) = _
      rw [hq i x hx]
    · show w'.ownsRow 0 _ 1 (rv2 i) (x.b.take _).length (bc (x.b.take _))
      have hle := h.ok.quota keep t hx
      rw [List.length_take, Nat.min_eq_left hle, ← hq i x hx]
      rw [hcut i x hx, ← hq i x hx] at g1
      exact g1
    · obtain ⟨cur, hcur⟩ := own_block g1 hk
      exact lt_of_heap hcur

theorem Rep.lies (h : Rep w F d S G) : Lies w G.fb (ids S.sure ++ (madeIds S.acts ++ moreIds S.acts)) := by
  have hk : ∀ i ∈ ids S.sure ++ (madeIds S.acts ++ moreIds S.acts), S.known i := fun i hi => by
    rcases List.mem_append.1 hi with hi | hi
    · exact Or.inl (Or.inl hi)
    · rcases List.mem_append.1 hi with hi | hi
      · exact Or.inl (Or.inr hi)
      · exact Or.inr hi
  exact ⟨fun i hi => ⟨_, (h.files i (hk i hi)).2⟩, fun i hi j hj e => h.inj i j (hk i hi) (hk j hj) e⟩

theorem mcopy_rep {W : World} {o : Option Nat} {c : Nat} {fb : Nat → Nat} {l : Dir} (hs : Sorted l) (hm : MapO W F o (dv fb l)) (hc : MapW W c []) (hne : o ≠ some c) :
    Calls Try.prog 55 #[.map (some c), .map o] W fun e w' => e = .returned (.tuple #[]) ∧ MapW w' c (dv fb l) ∧ Chg (· = c) W w' := by
  cases o with
  | none =>
    have h0 : dv fb l = [] := hm
    refine (mcopy_nil W c).mono ?_
    rintro e w' ⟨he, hcg⟩
    rw [h0]
    exact ⟨he, hc.keep hcg (fun h => h), hcg.mono fun _ _ h => h.elim⟩
  | some b => exact mcopy_some W b c fb l hs hm.2 hc (fun e => hne (by rw [e]))
end
end Go.Proofs.Ytbedacdakmcfpaa
