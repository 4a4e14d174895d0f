/-
  What the document's own Parse answers. Conditions: lengths within reach.
-/
import Derived.Test.YtkihldkaiddbkaaRefName
import Derived.Laws.AppendOwn
import Derived.Maps.AppendAt
namespace Go.Proofs.Ytkihldkaiddbkaa
open Go.RowKit

theorem cut_step {l : List UInt8} {f i : Nat} (hf : f ≤ i) (hi : i < l.length) (hno : 47 ∉ (l.drop f).take (i - f)) (h47 : l[i] = 47) : Pt.cut (l.drop f) = (l.drop f).take (i - f) :: Pt.cut (l.drop (i + 1)) := by
  have e : l.drop f = (l.drop f).take (i - f) ++ 47 :: l.drop (i + 1) := by
    conv => lhs; rw [← List.take_append_drop (i - f) (l.drop f)]
    congr 1
    rw [List.drop_drop, show f + (i - f) = i by omega, List.drop_eq_getElem_cons hi, h47]
  exact (congrArg Pt.cut e).trans (Pt.cut_app _ hno)
theorem cut_last {l : List UInt8} {f : Nat} (_hf : f ≤ l.length) (hno : 47 ∉ (l.drop f).take (l.length - f)) : Pt.cut (l.drop f) = [(l.drop f).take (l.length - f)] := by
  have e : (l.drop f).take (l.length - f) = l.drop f := List.take_of_length_le (by simp)
  rw [e] at hno ⊢
  exact Pt.cut_no hno
theorem few_hit {ps q : List (List UInt8)} {p : List UInt8} (h : Pt.name p = false ∨ ps.length = 16) : Pt.few (ps ++ p :: q) = false := by
  rcases h with h | h
  · exact few_bad (j := ps.length) (by simp) (by simpa using h)
  · exact few_long (by simp; omega)
theorem ext_mid (l : List UInt8) (f i : Nat) : (strB l).extract f i = strB ((l.drop f).take (i - f)) := by rw [ext_strB, List.drop_take]

/-- Between two rounds: out holds ps, from and i stand so. -/
def Scan (l : List UInt8) (ps : List (List UInt8)) (f i : Nat) : Prop :=
  ps.length ≤ 16 ∧ (∀ p ∈ ps, Pt.name p = true) ∧
    ((f ≤ i ∧ i ≤ l.length ∧ ps ++ Pt.cut (l.drop f) = Pt.cut l ∧ 47 ∉ (l.drop f).take (i - f)) ∨ (i = l.length + 1 ∧ f = i ∧ ps = Pt.cut l))
theorem Scan.start (l : List UInt8) : Scan l [] 0 0 := ⟨by simp, by simp, .inl ⟨Nat.le_refl _, Nat.zero_le _, by simp, by simp⟩⟩
theorem Scan.on {l : List UInt8} {ps : List (List UInt8)} {f i : Nat} (h : Scan l ps f i) (hi : i < l.length) (hc : l[i] ≠ 47) : Scan l ps f (i + 1) := by
  obtain ⟨h1, h2, ⟨h3, h4, h5, h6⟩ | ⟨h3, _⟩⟩ := h
  · refine ⟨h1, h2, .inl ⟨by omega, by omega, h5, ?_⟩⟩
    rw [show i + 1 - f = (i - f) + 1 by omega, List.take_add_one]
    rw [List.getElem?_drop, show f + (i - f) = i by omega, List.getElem?_eq_getElem hi]
    simp only [Option.toList_some, List.mem_append, List.mem_singleton, not_or]
    exact ⟨h6, fun e => hc e.symm⟩
  · omega
theorem Scan.cut {l : List UInt8} {ps : List (List UInt8)} {f i : Nat} (h : Scan l ps f i) (hi : i ≤ l.length) (hc : ∀ h : i < l.length, l[i] = 47) :
    f ≤ i ∧ (∃ q, ps ++ (l.drop f).take (i - f) :: q = Pt.cut l) ∧ (Pt.name ((l.drop f).take (i - f)) = true → ps.length < 16 → Scan l (ps ++ [(l.drop f).take (i - f)]) (i + 1) (i + 1)) := by
  obtain ⟨h1, h2, ⟨h3, h4, h5, h6⟩ | ⟨h3, _⟩⟩ := h
  · refine ⟨h3, ?_⟩
    by_cases hlt : i < l.length
    · have e := cut_step h3 hlt h6 (hc hlt)
      rw [e] at h5
      refine ⟨⟨_, h5⟩, fun hn hl => ⟨by simp; omega, fun p hp => ?_, .inl ⟨Nat.le_refl _, by omega, by rw [← h5]; simp, by simp⟩⟩⟩
      rcases List.mem_append.1 hp with hp | hp
      · exact h2 p hp
      · simp at hp; subst hp; exact hn
    · have hi' : i = l.length := by omega
      subst hi'
      have e := cut_last h3 h6
      rw [e] at h5
      refine ⟨⟨_, h5⟩, fun hn hl => ⟨by simp; omega, fun p hp => ?_, .inr ⟨rfl, rfl, h5⟩⟩⟩
      rcases List.mem_append.1 hp with hp | hp
      · exact h2 p hp
      · simp at hp; subst hp; exact hn
  · omega

set_option maxRecDepth 20000 in
theorem rparse_any (w : World) (l : List UInt8) (hl : l.length ≤ 4611686018427387000) :
    Calls Try.prog 31 #[.string (strB l)] w fun e w' => (if Pt.path l = true then ∃ v, e = .returned (.tuple #[v, .int .i64 0]) ∧ w'.ownsRow w.heap.size 9 1 v (Pt.parts l).length (tc (Pt.parts l)) else e = .returned (.tuple #[.slice none 0 0, .int .i64 40])) ∧ Below w.heap.size w w' := by
  obtain ⟨i0, hi0, hz0, hz1, hz2⟩ := info_parts Try.info9
  have tl := toL l
  have hs := strB_size l
  by_cases h0 : l = []
  · subst h0
    go_enter Try.func31, Try.ntmps31
    go_wp2
    go_ret2
    refine ⟨?_, Below.refl _ _⟩
    exact ⟨_, rfl, World.ownsRow_nil _ _ _ _⟩
  have b0 : (l == []) = false := by simp [h0]
  have hparts : Pt.parts l = Pt.cut l := by unfold Pt.parts; rw [if_neg h0]
  go_enter Try.func31, Try.ntmps31
  go_wp2
  go_loopw [2, 3, 4, 5, 6] (fun r2 r3 out from_ i wr => ∃ (ps : List (List UInt8)) (f k : Nat), r2 = .slice none 0 0 ∧ r3 = .int .i64 0 ∧ from_ = .int .i64 (f : Int) ∧ i = .int .i64 (k : Int) ∧ Scan l ps f k ∧ wr.ownsRow w.heap.size 9 1 out ps.length (tc ps) ∧ Below w.heap.size w wr)
    (fun _ _ _ _ i _ => l.length + 1 - (intOf i).toNat)
  case atStart => exact ⟨[], 0, 0, rfl, rfl, rfl, rfl, Scan.start l, World.ownsRow_nil _ _ _ _, Below.refl _ _⟩
  case round =>
    obtain ⟨ps, f, k, rfl, rfl, rfl, rfl, hsc, hrow, hB⟩ := hrel
    by_cases hk : k ≤ l.length
    · by_cases hlt : k < l.length
      · have hix := fun W => index_str 9 (.inl rfl) W l .i64 k hlt
        by_cases hc : l[k] = 47
        · have hcut := hsc.cut hk (fun _ => hc)
          rw [hc] at hix
          obtain ⟨hfk, ⟨q, hq⟩, hstep⟩ := hcut
          have x1 := ext_mid l f k
          generalize (l.drop f).take (k - f) = part at *
          have hrow' := hrow
          obtain ⟨ao, cap, rfl, c1, c2, -⟩ := ts_of_own hrow
          cases hnm : Pt.name part with
          | false =>
            have hpath : Pt.path l = false := by unfold Pt.path; rw [hparts, ← hq]; exact few_hit (.inl hnm)
            go_wp2_with fail
            refine (rname_any _ _).mono ?_
            rintro e w1 ⟨rfl, rfl⟩
            rw [hnm]
            go_wp2
            all_goals (go_ret2; exact ⟨rfl, hB⟩)
          | true =>
            by_cases h16 : ps.length = 16
            · have hpath : Pt.path l = false := by unfold Pt.path; rw [hparts, ← hq]; exact few_hit (.inr h16)
              go_wp2_with fail
              refine (rname_any _ _).mono ?_
              rintro e w1 ⟨rfl, rfl⟩
              rw [hnm]
              go_wp2
              all_goals (go_ret2; exact ⟨rfl, hB⟩)
            · have hstep := hstep hnm (by have := hsc.1; omega)
              have h16' : ps.length < 16 := by have := hsc.1; omega
              go_wp2_with fail
              refine (rname_any _ _).mono ?_
              rintro e w1 ⟨rfl, rfl⟩
              rw [hnm]
              go_wp2_with (at_builtin; refine wpList_append_own _ rfl (.tmp 40) (.tmp 42) 22 rfl w.heap.size 9 i0 (.string ⟨#[]⟩) 1 16 Try.underlying22 hi0 hz0 hz1 hz2 rfl (by decide) _ _ _ rfl (hrow.alloc _) ⟨w1.heap.size, 0, none⟩ 1 1 [.string (strB part)] rfl rfl (cell_one_new _ _ _) (by simp [Value.oneCell']) (by unfold maxLen; omega) (by omega) (by have := hB.size; simp; omega) ?_)
              intro v2 w2 hown2 hgrow2 _
              have hb2 : Below w.heap.size w w2 := (hB.alloc hB.size _).grown hgrow2 (by have := hB.size; simp; omega) (fun k hk => (hrow.lt k hk).1)
              obtain ⟨g', cap', rfl⟩ := ownsRow_succ hown2
              clear hgrow2 hrow
              go_wp2
              go_roundw
              case rel => exact ⟨ps ++ [part], _, _, rfl, rfl, by go_num, by go_num, hstep, by simpa [tc] using hown2, hb2⟩
              case measure => simp [intOf] <;> omega
        · have hc' : ((l[k].toNat : Int) == 47) = false := beq_eq_false_iff_ne.2 (fun e => hc (UInt8.toNat_inj.1 (by simpa using Int.ofNat.inj e)))
          have hon := hsc.on hlt hc
          generalize l[k] = c at *
          go_wp2_with fail
          exact ⟨⟨ps, f, k + 1, rfl, rfl, rfl, by go_num, hon, hrow, hB⟩, by simp [intOf]; omega⟩
      · obtain rfl : k = l.length := by omega
        have hcut := hsc.cut hk (fun h => absurd h hlt)
        clear hlt
        obtain ⟨hfk, ⟨q, hq⟩, hstep⟩ := hcut
        have x1 := ext_mid l f l.length
        generalize (l.drop f).take (l.length - f) = part at *
        have hrow' := hrow
        obtain ⟨ao, cap, rfl, c1, c2, -⟩ := ts_of_own hrow
        cases hnm : Pt.name part with
        | false =>
          have hpath : Pt.path l = false := by unfold Pt.path; rw [hparts, ← hq]; exact few_hit (.inl hnm)
          go_wp2_with fail
          refine (rname_any _ _).mono ?_
          rintro e w1 ⟨rfl, rfl⟩
          rw [hnm]
          go_wp2
          all_goals (go_ret2; exact ⟨rfl, hB⟩)
        | true =>
          by_cases h16 : ps.length = 16
          · have hpath : Pt.path l = false := by unfold Pt.path; rw [hparts, ← hq]; exact few_hit (.inr h16)
            go_wp2_with fail
            refine (rname_any _ _).mono ?_
            rintro e w1 ⟨rfl, rfl⟩
            rw [hnm]
            go_wp2
            all_goals (go_ret2; exact ⟨rfl, hB⟩)
          · have hstep := hstep hnm (by have := hsc.1; omega)
            have h16' : ps.length < 16 := by have := hsc.1; omega
            go_wp2_with fail
            refine (rname_any _ _).mono ?_
            rintro e w1 ⟨rfl, rfl⟩
            rw [hnm]
            go_wp2_with (at_builtin; refine wpList_append_own _ rfl (.tmp 40) (.tmp 42) 22 rfl w.heap.size 9 i0 (.string ⟨#[]⟩) 1 16 Try.underlying22 hi0 hz0 hz1 hz2 rfl (by decide) _ _ _ rfl (hrow.alloc _) ⟨w1.heap.size, 0, none⟩ 1 1 [.string (strB part)] rfl rfl (cell_one_new _ _ _) (by simp [Value.oneCell']) (by unfold maxLen; omega) (by omega) (by have := hB.size; simp; omega) ?_)
            intro v2 w2 hown2 hgrow2 _
            have hb2 : Below w.heap.size w w2 := (hB.alloc hB.size _).grown hgrow2 (by have := hB.size; simp; omega) (fun k hk => (hrow.lt k hk).1)
            obtain ⟨g', cap', rfl⟩ := ownsRow_succ hown2
            clear hgrow2 hrow
            go_wp2
            go_roundw
            case rel => exact ⟨ps ++ [part], _, _, rfl, rfl, by go_num, by go_num, hstep, by simpa [tc] using hown2, hb2⟩
            case measure => simp [intOf] <;> omega
    · obtain ⟨h1, h2, ⟨_, h4, _⟩ | ⟨h3, h4, h5⟩⟩ := hsc
      · omega
      · have hpath : Pt.path l = true := by
          unfold Pt.path
          rw [hparts, ← h5]
          exact few_true h1 (fun j hj => h2 _ (List.getElem_mem hj))
        subst h5
        obtain ⟨ao, cap, rfl, c1, c2, -⟩ := ts_of_own hrow
        go_wp2
        all_goals (go_ret2; exact ⟨⟨_, rfl, hrow⟩, hB⟩)
end Go.Proofs.Ytkihldkaiddbkaa
