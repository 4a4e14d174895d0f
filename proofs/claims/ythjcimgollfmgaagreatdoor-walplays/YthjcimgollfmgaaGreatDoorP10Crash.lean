/-
  Texts joined: Crash, CrashEnd, CrashRun, Asks, FailAt.
-/
import Derived.Test.YthjcimgollfmgaaGreatDoorP9ODisk
/-
  What Crash answers. Condition: a disk within bounds.
-/
namespace Go.Proofs.YthjcimgollfmgaaGreatDoor
open Go.RowKit

theorem enters68 : ∀ args w, (callFunc 104 args).run Tryz.prog w = .ok (.enter 104 args) w := enters_of Tryz.func104 (by kernel_rfl) rfl
theorem enters70 : ∀ args w, (callFunc 102 args).run Tryz.prog w = .ok (.enter 102 args) w := enters_of Tryz.func102 (by kernel_rfl) rfl

section
variable {w w' : World} {F : Nat → Prop} {d : Nat} {S : Dk} {G : Gh}

/-- A disk that was laid anew lies as a disk does. -/
theorem New.rep {d2 nm sm : Nat} {fb2 : Nat → Nat} {rv2 : Nat → Value} {q : Nat → Nat} {cut : Nat → List UInt8} (h : Rep w F d S G) {keep t : Int} (hq : ∀ i x, S.files[i]? = some x → q i = x.sure + moreSum (stay S.acts keep t) i) (hcut : ∀ i x, S.files[i]? = some x → cut i = x.b.take (x.sure + moreSum (stay S.acts keep t) i))
    (hn : New w d2 nm (S.room : Int) (some sm) fb2 rv2 q cut (appD S.sure (stay S.acts keep t)) w') (hsm : MapW w' sm (dv fb2 (appD S.sure (stay S.acts keep t)))) (hs1 : w.heap.size ≤ sm) (hs2 : sm ≠ nm) :
    ∃ G2, Rep w' (fun k => w.heap.size ≤ k ∧ k < w'.heap.size) d2 (S.crash keep t) G2 := by
  have hok := h.ok.crash keep t
  have hlv : ∀ i, (S.crash keep t).live i ↔ i ∈ ids (appD S.sure (stay S.acts keep t)) := fun i => by
    unfold Dk.live
    show i ∈ ids (appD S.sure (stay S.acts keep t)) ∨ i ∈ madeIds [] ↔ _
    simp [madeIds]
  have hkn : ∀ i, (S.crash keep t).known i → i ∈ ids (appD S.sure (stay S.acts keep t)) := fun i hi => by
    rcases hi with hi | hi
    · exact (hlv i).1 hi
    · cases hi
  have hlen : ∀ i ∈ ids (appD S.sure (stay S.acts keep t)), ∃ x, S.files[i]? = some x := fun i hi => by
    rw [app_stay] at hi
    exact ⟨_, List.getElem?_eq_getElem (h.ok.liveLt ((h.ok.upto _).2.2 i hi))⟩
  refine ⟨{ fb := fb2, rv := rv2, sv := fun i => .int .i64 (q i : Int), now := some nm, sure := some sm, fls := none, lv := .slice none 0 0, cv := 0, vs := [] },
    { ok := hok
      disk := ?_
      inD := ⟨hn.newD, lt_of_heap hn.disk⟩
      roomy := h.roomy
      cutv := fun c e => by cases e
      now := ⟨⟨hn.newM, hn.map.lt⟩, hn.map⟩
      sure := ⟨⟨hs1, hsm.lt⟩, hsm⟩
      both := by simp
      bare := fun e => by cases e
      fails := ⟨[], rfl, fun k _ => by show false = true ↔ _; simp⟩
      two := fun b e => ⟨fun e2 => hs2 (by injection e with e; injection e2 with e2; rw [e, e2]), fun e2 => by cases e2⟩
      three := fun b e e2 => by cases e2
      row := ⟨rfl, Or.inl ⟨rfl, rfl⟩⟩
      rowF := fun k hk => by cases hk
      many := rfl
      acts := fun j a p ha => by cases ha
      files := fun i hi => ?_
      inj := fun i j hi hj e => hn.inj i (hkn i hi) j (hkn j hj) e
      bytes := fun i y hi hy => ?_
      apart := fun i j k hi hj e1 e2 => hn.apart i ((hlv i).1 hi) j ((hlv j).1 hj) k e1 e2 }⟩
  · rw [hn.disk]
    unfold dcells
    have e1 : (S.crash keep t).used = sumQ q (appD S.sure (stay S.acts keep t)) := by
      unfold Dk.used usedOf sumQ
      show ((appD S.sure (stay S.acts keep t)).map fun p => lenOf (S.crash keep t).files p.2).sum = _
      congr 1
      refine List.map_congr_left fun p hp => ?_
      obtain ⟨x, hx⟩ := hlen p.2 (List.mem_map.2 ⟨p, hp, rfl⟩)
      have hc : (S.crash keep t).files[p.2]? = some ⟨x.b.take (x.sure + moreSum (stay S.acts keep t) p.2), x.sure + moreSum (stay S.acts keep t) p.2⟩ := by
        show (S.files.mapIdx _)[p.2]? = _
        rw [List.getElem?_mapIdx, hx]
        rfl
      have hle := h.ok.quota keep t hx
      rw [hq _ _ hx]
      simp only [lenOf, hc, Option.map_some, Option.getD_some, List.length_take]
      omega
    rw [e1]
    rfl
  · obtain ⟨g1, g2⟩ := hn.files i (hkn i hi)
    refine ⟨⟨g1, lt_of_heap g2⟩, ?_⟩
    show w'.heap[fb2 i]? = some (.cells #[rv2 i, .int .i64 (q i : Int), .bool (decide (i ∈ ids (appD S.sure (stay S.acts keep t))))] _)
    rw [decide_eq_true (hkn i hi)]
    exact g2
  · have hi' := (hlv i).1 hi
    obtain ⟨x, hx, rfl⟩ := crash_file hy
    obtain ⟨g1, g2⟩ := hn.rows i hi'
    refine ⟨?_, ?_, fun k hk => ⟨g2 k hk, ?_⟩⟩
    · show Value.int .i64 (q i : Int) = _
      rw [hq i x hx]
    · show w'.ownsRow 0 _ 1 (rv2 i) (x.b.take _).length (bc (x.b.take _))
      have hle := h.ok.quota keep t hx
      rw [List.length_take, Nat.min_eq_left hle, ← hq i x hx]
      rw [hcut i x hx, ← hq i x hx] at g1
      exact g1
    · obtain ⟨cur, hcur⟩ := own_block g1 hk
      exact lt_of_heap hcur

theorem Rep.lies (h : Rep w F d S G) : Lies w G.fb (ids S.sure ++ (madeIds S.acts ++ moreIds S.acts)) := by
  have hk : ∀ i ∈ ids S.sure ++ (madeIds S.acts ++ moreIds S.acts), S.known i := fun i hi => by
    rcases List.mem_append.1 hi with hi | hi
    · exact Or.inl (Or.inl hi)
    · rcases List.mem_append.1 hi with hi | hi
      · exact Or.inl (Or.inr hi)
      · exact Or.inr hi
  exact ⟨fun i hi => ⟨_, (h.files i (hk i hi)).2⟩, fun i hi j hj e => h.inj i j (hk i hi) (hk j hj) e⟩

theorem mcopy_rep {W : World} {o : Option Nat} {c : Nat} {fb : Nat → Nat} {l : Dir} (hs : Sorted l) (hm : MapO W F o (dv fb l)) (hc : MapW W c []) (hne : o ≠ some c) :
    Calls Tryz.prog 33 #[.map (some c), .map o] W fun e w' => e = .returned (.tuple #[]) ∧ MapW w' c (dv fb l) ∧ Chg (· = c) W w' := by
  cases o with
  | none =>
    have h0 : dv fb l = [] := hm
    refine (mcopy_nil W c).mono ?_
    rintro e w' ⟨he, hcg⟩
    rw [h0]
    exact ⟨he, hc.keep hcg (fun h => h), hcg.mono fun _ _ h => h.elim⟩
  | some b => exact mcopy_some W b c fb l hs hm.2 hc (fun e => hne (by rw [e]))
end
end Go.Proofs.YthjcimgollfmgaaGreatDoor

/-
  How Crash ends: what came out is laid on a disk of its own. Condition: a disk within bounds.
-/
namespace Go.Proofs.YthjcimgollfmgaaGreatDoor
open Go.RowKit

def Dk.surely (S : Dk) (i : Nat) : Nat := ((S.files[i]?).map (·.sure)).getD 0
theorem sumQ_mono {q q' : Nat → Nat} {l : Dir} (h : ∀ i ∈ ids l, q i ≤ q' i) : sumQ q l ≤ sumQ q' l := by
  induction l with
  | nil => exact Nat.le_refl _
  | cons p r ih =>
    have h1 := h p.2 (List.mem_cons.2 (Or.inl rfl))
    have h2 := ih fun i hi => h i (List.mem_cons.2 (Or.inr hi))
    unfold sumQ at h2 ⊢
    simp
    omega
theorem moreSum_take {ls : List Ac} {j : Nat} {a : Ac} (h : ls[j]? = some a) (i : Nat) : moreSum (ls.take (j + 1)) i = moreSum (ls.take j) i + moreSum [a] i := by
  rw [List.take_add_one, h, moreSum_append]
  rfl
theorem moreSum_other {f i k : Nat} (h : i ≠ f) : moreSum [.more f k] i = 0 := by
  simp only [moreSum, List.map_cons, List.map_nil, List.sum_cons, List.sum_nil, if_neg (fun e : f = i => h e.symm), Nat.add_zero]
theorem moreSum_self (f k : Nat) : moreSum [.more f k] f = k := by simp [moreSum]
theorem moreSum_upto (ls : List Ac) (j i : Nat) : moreSum (ls.take j) i ≤ moreSum ls i := by
  have h1 : moreSum ls i = moreSum (ls.take j) i + moreSum (ls.drop j) i := by
    rw [← moreSum_append, List.take_append_drop]
  omega

section
variable {w w' : World} {F : Nat → Prop} {d : Nat} {S : Dk} {G : Gh}
theorem more_le (h : Rep w F d S G) {f : Nat} (hf : f ∈ moreIds S.acts) : moreSum S.acts f ≤ S.bulk := by
  obtain ⟨x, hx⟩ : ∃ x, S.files[f]? = some x := ⟨_, List.getElem?_eq_getElem (h.ok.idM f hf)⟩
  have h1 := h.ok.lens f x hx
  have h2 := file_le hx
  omega

theorem crash_end (h : Rep w F d S G) (hb : S.bulk < 1099511627776) {keep t : Int} {W : World} {on om : Nat} {ml : List (Nat × Nat)} (hc : Chg (fun _ => False) w W) (hon : MapW W on (dv G.fb (appD S.sure (stay S.acts keep t)))) (hom : MapW W om (mv G.fb ml))
    (hml : ∀ p ∈ ml, p.1 ∈ ids S.sure ++ (madeIds S.acts ++ moreIds S.acts)) (hlk : ∀ i, mlook ml i = moreSum (stay S.acts keep t) i) :
    Calls Tryz.prog 34 #[.agg #[.map (some on), .map (some om)], .int .i64 (S.room : Int)] W fun e w' => ∃ d2 G2, e = .returned (.pointer (some ⟨d2, 0, none⟩)) ∧
      Rep w' (fun k => w.heap.size ≤ k ∧ k < w'.heap.size) d2 (S.crash keep t) G2 ∧ Chg (fun _ => False) W w' := by
  have hW := h.keep hc (fun _ _ h => h) (fun _ h => h)
  have hlive : ∀ i ∈ ids (appD S.sure (stay S.acts keep t)), S.live i := fun i hi => by
    rw [app_stay] at hi
    exact (h.ok.upto _).2.2 i hi
  have hfl : ∀ i ∈ ids (appD S.sure (stay S.acts keep t)), ∃ x, S.files[i]? = some x := fun i hi => ⟨_, List.getElem?_eq_getElem (h.ok.liveLt (hlive i hi))⟩
  have hsu : ∀ i x, S.files[i]? = some x → S.surely i = x.sure ∧ S.bytes i = x.b := fun i x hx => by
    unfold Dk.surely Dk.bytes
    rw [hx]
    exact ⟨rfl, rfl⟩
  have hq : ∀ i ∈ ids (appD S.sure (stay S.acts keep t)), S.surely i + mlook ml i ≤ (S.bytes i).length := fun i hi => by
    obtain ⟨x, hx⟩ := hfl i hi
    rw [(hsu i x hx).1, (hsu i x hx).2, hlk]
    exact h.ok.quota keep t hx
  have hsn : Sorted (appD S.sure (stay S.acts keep t)) ∧ (ids (appD S.sure (stay S.acts keep t))).Nodup := by
    rw [app_stay]
    exact ⟨(h.ok.upto _).1, (h.ok.upto _).2.1⟩
  refine (odisk_any W on om (S.room : Int) G.fb _ ml (appD S.sure (stay S.acts keep t)) S.surely S.bytes hsn.2 hon hom hW.lies hml (fun i hi => ?_) hsn.1 (fun i hi => ?_) hq (fun i hi => ?_) ?_).mono ?_
  · rcases hlive i hi with h1 | h1
    · exact List.mem_append.2 (Or.inl h1)
    · exact List.mem_append.2 (Or.inr (List.mem_append.2 (Or.inl h1)))
  · obtain ⟨x, hx⟩ := hfl i hi
    obtain ⟨b1, b2, b3⟩ := hW.bytes i x (hlive i hi) hx
    have f2 := (hW.files i (Or.inl (hlive i hi))).2
    rw [b1, ← (hsu i x hx).1] at f2
    exact ⟨_, _, f2, by rw [(hsu i x hx).2]; exact b2⟩
  · obtain ⟨x, hx⟩ := hfl i hi
    rw [(hsu i x hx).2]
    have := file_le hx
    omega
  · have h1 := lens_used (S := S) hsn.2
    have h2 : sumQ (fun i => S.surely i + mlook ml i) (appD S.sure (stay S.acts keep t)) ≤ usedOf S.files (appD S.sure (stay S.acts keep t)) := by
      refine sumQ_mono (q' := lenOf S.files) fun i hi => ?_
      obtain ⟨x, hx⟩ := hfl i hi
      have := hq i hi
      rw [(hsu i x hx).2] at this
      simpa [lenOf, hx] using this
    omega
  · rintro e w' ⟨d2, nm, sm, fb2, rv2, he, hnew, hsm, hs1, hs2⟩
    obtain ⟨G2, hr⟩ := New.rep hW (keep := keep) (t := t) (fun i x hx => by rw [(hsu i x hx).1, hlk]) (fun i x hx => by rw [(hsu i x hx).1, (hsu i x hx).2, hlk]) hnew hsm hs1 hs2
    refine ⟨d2, G2, he, hr.mono fun k hk => ⟨Nat.le_trans hc.size hk.1, hk.2⟩, hnew.chg⟩
end
end Go.Proofs.YthjcimgollfmgaaGreatDoor

/-
  What Crash answers: the walk. Condition: a disk within bounds.
-/
namespace Go.Proofs.YthjcimgollfmgaaGreatDoor
open Go.RowKit

section
variable {w w' : World} {F : Nat → Prop} {d : Nat} {S : Dk} {G : Gh}

set_option maxRecDepth 20000 in
set_option maxHeartbeats 1600000 in
/-- Crash. -/
theorem crash_rep (h : Rep w F d S G) (hb : S.bulk < 1099511627776) (keep t : Int) : Calls Tryz.prog 20 #[.pointer (some ⟨d, 0, none⟩), .int .i64 keep, .int .i64 t] w fun e w' => ∃ d2 G2, e = .returned (.pointer (some ⟨d2, 0, none⟩)) ∧
    Rep w' (fun k => w.heap.size ≤ k ∧ k < w'.heap.size) d2 (S.crash keep t) G2 ∧ Chg (fun _ => False) w w' := by
  have hmm := @run_makeMap Tryz.prog
  have hd := h.disk
  unfold dcells at hd
  obtain ⟨a, cap, hlv⟩ := own_shape h.row
  obtain ⟨n, hn⟩ : ∃ n, n = G.vs.length := ⟨_, rfl⟩
  have hna : S.acts.length = n := by rw [hn, h.many]
  have hal := acts_le S
  rw [← hn] at hlv
  have hd' := hd
  rw [hlv] at hd'
  have x4 := cell_of hd' 4
  have hrow := h.row
  rw [hlv, ← hn] at hrow
  obtain ⟨kk, hkk⟩ : ∃ kk : Nat, kk = min keep.toNat n := ⟨_, rfl⟩
  have hkn : kk ≤ n := by omega
  have hcap : n ≤ cap ∧ (a = none → cap = 0) := by
    rcases hrow.2 with ⟨e, h0⟩ | ⟨g, cap', cur, e, q1, q2, q3, q4, q5, q6⟩
    · injection e with e1 e2 e3
      exact ⟨by omega, fun _ => e3⟩
    · injection e with e1 e2 e3
      exact ⟨by omega, fun h => by rw [h] at e1; cases e1⟩
  obtain ⟨hnc, hnil⟩ := hcap
  have hkc : kk ≤ cap := by omega
  have hroom := h.roomy
  have H := hide h
  have HD := hide hd
  have HHD := hide hd'
  have HROW := hide hrow
  have HN := hide hn
  have HKK := hide hkk
  clear h hd hd' hrow hn hkk
  go_enter Tryz.func20, Tryz.ntmps20
  go_wp2_with fail
  all_goals
    have hz : keep = (kk : Int) ∨ (keep < 0 ∧ kk = 0) ∨ ((n : Int) < keep ∧ kk = n) := by
      have := HKK.out
      omega
    first
      | (rw [show Value.int IntKind.i64 0 = Value.int IntKind.i64 (kk : Int) by congr 1; have := HKK.out; omega])
      | (rw [if_neg (by omega)] at *; rw [show Value.int IntKind.i64 keep = Value.int IntKind.i64 (kk : Int) by congr 1; omega])
      | (rw [show Value.int IntKind.i64 (n : Int) = Value.int IntKind.i64 (kk : Int) by congr 1; have := HKK.out; omega])
    have hA : Chg (fun _ => False) w (((w.alloc (.map #[] 0)).alloc (.map #[] 0)).alloc (.cells #[.map (some w.heap.size), .map (some (w.heap.size + 1))] 84)) := (((Chg.refl _ w).alloc _).alloc _).alloc _
    have hon : MapW (((w.alloc (.map #[] 0)).alloc (.map #[] 0)).alloc (.cells #[.map (some w.heap.size), .map (some (w.heap.size + 1))] 84)) w.heap.size [] := ((MapW.made w).keep ((Chg.refl (fun _ => False) _).alloc _) (fun h => h)).keep ((Chg.refl (fun _ => False) _).alloc _) (fun h => h)
    have hom : MapW (((w.alloc (.map #[] 0)).alloc (.map #[] 0)).alloc (.cells #[.map (some w.heap.size), .map (some (w.heap.size + 1))] 84)) (w.heap.size + 1) [] := by
      have h1 := MapW.made (w.alloc (.map #[] 0))
      rw [show (w.alloc (.map #[] 0)).heap.size = w.heap.size + 1 by simp] at h1
      exact h1.keep ((Chg.refl (fun _ => False) _).alloc _) (fun h => h)
    have hob : (((w.alloc (.map #[] 0)).alloc (.map #[] 0)).alloc (.cells #[.map (some w.heap.size), .map (some (w.heap.size + 1))] 84)).heap[w.heap.size + 2]? = some (.cells #[.map (some w.heap.size), .map (some (w.heap.size + 1))] 84) := by
      have h1 := heap_last ((w.alloc (.map #[] 0)).alloc (.map #[] 0)) (.cells #[.map (some w.heap.size), .map (some (w.heap.size + 1))] 84)
      rw [show ((w.alloc (.map #[] 0)).alloc (.map #[] 0)).heap.size = w.heap.size + 2 by simp] at h1
      exact h1
    generalize ((w.alloc (.map #[] 0)).alloc (.map #[] 0)).alloc (.cells #[.map (some w.heap.size), .map (some (w.heap.size + 1))] 84) = W0 at *
    have hA' := hA.drew
    have hd0 := hA'.keep HHD.out (fun h => h)
    have hob' : W0.drew.heap[w.heap.size + 2]? = _ := hob
    have hcp := mcopy_rep (W := W0.drew) (c := w.heap.size) H.out.ok.sortS (H.out.sure.keep hA' (fun _ _ h => h) (fun _ h => h)) (hon.keep ((Chg.refl (fun _ => False) _).drew) (fun h => h)) (fun e => by
      have := H.out.sure
      rw [e] at this
      exact Nat.lt_irrefl _ this.2.lt)
    have hdlt := H.out.lt
    have y0 := cell_of hob' 0
    have y3 := cell_of hd0 3
    have HOB := hide hob'
    have HD0 := hide hd0
    have HOM := hide (hom.keep ((Chg.refl (fun _ => False) _).drew) (fun h => h))
    have HA0 := hide hA'
    clear hA hA' hon hom hob hob' hd0 hz
    refine wp_region_held_drew (S := fun W => W.cell? ⟨w.heap.size + 2, 0, none⟩ = some (.map (some w.heap.size)) ∧ W.cell? ⟨d, 3, none⟩ = some (.map G.sure)) (by kernel_rfl) (⟨y0, y3⟩) (fun hHeld => ?_)
    refine takeH (i := 0) (v := ?_) rfl (by kernel_rfl) (by kernel_rfl) (by kernel_rfl) (fun _ _ _ h => h) rfl ?_ hHeld ?_
    rotate_left
    · intro w hS; (try dsimp only at hS); obtain ⟨hS0, hS1⟩ := hS; go_simp; first | done | (with_reducible rfl)
    try simp only [Act.put, ly1, ly2, ly3]
    refine takeH (i := 1) (v := ?_) rfl (by kernel_rfl) (by kernel_rfl) (by kernel_rfl) (fun _ _ _ h => h) rfl ?_ hHeld ?_
    rotate_left
    · intro w hS; (try dsimp only at hS); obtain ⟨hS0, hS1⟩ := hS; go_simp; first | done | (with_reducible rfl)
    try simp only [Act.put, ly1, ly2, ly3]
    refine takeH (i := 2) (v := ?_) rfl (by kernel_rfl) (by kernel_rfl) (by kernel_rfl) (fun _ _ _ h => h) rfl ?_ hHeld ?_
    rotate_left
    · intro w hS; (try dsimp only at hS); obtain ⟨hS0, hS1⟩ := hS; go_simp; first | done | (with_reducible rfl)
    try simp only [Act.put, ly1, ly2, ly3]
    refine takeH (i := 3) (v := ?_) rfl (by kernel_rfl) (by kernel_rfl) (by kernel_rfl) (fun _ _ _ h => h) rfl ?_ hHeld ?_
    rotate_left
    · intro w hS; (try dsimp only at hS); obtain ⟨hS0, hS1⟩ := hS; go_simp; first | done | (with_reducible rfl)
    try simp only [Act.put, ly1, ly2, ly3]
    refine takeH (i := 4) (v := ?_) rfl (by kernel_rfl) (by kernel_rfl) (by kernel_rfl) (fun _ _ _ h => h) rfl ?_ hHeld ?_
    rotate_left
    · intro w hS; (try dsimp only at hS); obtain ⟨hS0, hS1⟩ := hS; go_simp; first | done | (with_reducible rfl)
    try simp only [Act.put, ly1, ly2, ly3]
    refine takeH (i := 5) (v := ?_) rfl (by kernel_rfl) (by kernel_rfl) (by kernel_rfl) (fun _ _ _ h => h) rfl ?_ hHeld ?_
    rotate_left
    · intro w hS; (try dsimp only at hS); obtain ⟨hS0, hS1⟩ := hS; go_simp; first | done | (with_reducible rfl)
    try simp only [Act.put, ly1, ly2, ly3]
    refine onlyH (i := 6) rfl (by kernel_rfl) rfl (fun K hK => ?_)
    go_simp
    refine hcp.mono ?_
    rintro e w1 ⟨rfl, hm1, hc1⟩
    have hd1 := hc1.keep HD0.out (by omega)
    have hob1 := hc1.keep HOB.out (by omega)
    refine hK.out _ _ (⟨cell_of hob1 0, cell_of hd1 3⟩) (fun hHeld => ?_)
    clear hK K
    try simp only [Act.put, ly1, ly2, ly3]
    refine wpAnyH_done (by kernel_rfl) ?_ _
    clear hHeld
    have z4 := cell_of hd1 4
    have HM1 := hide hm1
    have HD1 := hide hd1
    have HOB1 := hide hob1
    have HOM1 := hide (HOM.out.keep hc1 (by omega))
    have HC1 : Hid (Chg (fun _ => False) w w1) := hide (HA0.out.trans hc1 (fun i hi e => by omega))
    clear hm1 hd1 hob1 hc1 hcp y0 y3 HOM HOB HD0 HA0
    go_wp2_with fail
    go_loopw [37] (fun x wr => ∃ (j : Nat) (ml : List (Nat × Nat)), j ≤ kk ∧ x = .int .i64 (j : Int) ∧ MapW wr w.heap.size (dv G.fb (appD S.sure (S.acts.take j))) ∧ MapW wr (w.heap.size + 1) (mv G.fb ml) ∧ (∀ p ∈ ml, p.1 ∈ ids S.sure ++ (madeIds S.acts ++ moreIds S.acts)) ∧ (∀ i, mlook ml i = moreSum (S.acts.take j) i) ∧ Chg (fun _ => False) w wr ∧ wr.heap[w.heap.size + 2]? = some (.cells #[.map (some w.heap.size), .map (some (w.heap.size + 1))] 84)) (fun x _ => kk - (intOf x).toNat)
    case atStart => exact ⟨0, [], Nat.zero_le _, rfl, HM1.out, HOM1.out, (fun p hp => by cases hp), (fun i => rfl), HC1.out, HOB1.out⟩
    case round =>
      obtain ⟨j, ml, hj, rfl, hmn, hmo, hml, hlk, hc, hobr⟩ := hrel
      by_cases hlt : j < kk
      · obtain ⟨p, hpk⟩ : ∃ p, G.vs[j]? = some p := ⟨_, List.getElem?_eq_getElem (by rw [← HN.out]; omega)⟩
        obtain ⟨ac, hak⟩ : ∃ ac, S.acts[j]? = some ac := ⟨_, List.getElem?_eq_getElem (by omega)⟩
        obtain ⟨o, v⟩ := p
        have hrr := own_keep HROW.out hc (fun _ _ h => h)
        obtain ⟨g, hg⟩ : ∃ g, a = some ⟨g, 0, none⟩ := by
          rcases hrr.2 with ⟨e1, e2⟩ | ⟨g, cap, cur, e1, _⟩
          · omega
          · injection e1 with e1
            exact ⟨g, e1⟩
        subst hg
        have hnl := HN.out
        have z0 := hrr.cellAt (j * 2) (by omega)
        have z1 := hrr.cellAt (j * 2 + 1) (by omega)
        rw [(vc_get hpk).1] at z0
        rw [(vc_get hpk).2] at z1
        clear hnl
        have hw := (H.out.actsKeep hc (fun _ _ _ _ _ h => h) (F' := F) (fun _ h => h)) j ac (o, v) hak hpk
        obtain ⟨hv1, hv2⟩ := valid_take H.out.ok.valid hak
        have hms := fun i => moreSum_take hak i
        by_cases hm : isMore ac = true
        · cases ac with
          | made n f => cases hm
          | ren x y => cases hm
          | rem n => cases hm
          | more f k =>
            obtain ⟨ho, cf, cn, hv, _, _, hcf, hcn⟩ := hw
            simp only at ho hv
            subst ho hv
            have hfm : f ∈ moreIds S.acts := mem_more (List.mem_of_getElem? hak)
            have hle1 := more_le H.out hfm
            have hle2 := moreSum_upto S.acts (j + 1) f
            have hle3 := hms f
            rw [show moreSum [Ac.more f k] f = k by simp [moreSum]] at hle3
            have hA : Chg (fun _ => False) wr (wr.alloc (.cells #[.pointer (some ⟨G.fb f, 0, none⟩), .func (.func 102) #[] #[.pointer (some ⟨cf, 0, none⟩), .pointer (some ⟨cn, 0, none⟩)]] 88)) := (Chg.refl _ _).alloc _
            have hlf := hlk f
            have hcall := more1_any _ (w.heap.size + 1) cf cn (.map (some w.heap.size)) G.fb _ ml f k 9223372036854775807 (hmo.keep hA (fun h => h)) ((H.out.lies.keep hc (fun _ _ h => h)).keep hA (fun _ _ h => h)) hml (List.mem_append.2 (Or.inr (List.mem_append.2 (Or.inr hfm)))) (by omega) (by omega) (by omega) (hA.keep hcf (fun h => h)) (hA.keep hcn (fun h => h))
            have hnb := hA.keep hobr (fun h => h)
            have b0 := cell_of hnb 0
            have b1 := cell_of hnb 1
            have HMN := hide (hmn.keep hA (fun h => h))
            have HML := hide hml
            have HLK := hide hlk
            have HHC := hide (hc.then hA)
            have HNB := hide hnb
            have HMS := hide hms
            have hkk2 : k < 4611686018427387904 := by omega
            have HL1 := hide hle1
            have HL2 := hide hle2
            have HL3 := hide hle3
            have HLF := hide hlf
            clear hmn hmo hml hlk hc hobr hA hnb hrr hcf hcn hms hle1 hle2 hle3 hlf
            go_wp2_with (go_at_call 102; refine hcall.mono ?_; rintro e w3 ⟨rfl, hm3, hc3⟩; have HM3 := hide hm3; have HC3 := hide hc3; clear hm3 hc3)
            go_roundw
            case rel =>
              refine ⟨j + 1, _, by omega, by go_num, ?_, HM3.out, fun p hp => ?_, fun i => ?_, HHC.out.trans HC3.out (fun i hi e => by omega), HC3.out.keep HNB.out (by omega)⟩
              · rw [app_take hak]
                exact HMN.out.keep HC3.out (by omega)
              · unfold mput at hp
                rcases List.mem_cons.1 hp with rfl | hp
                · exact List.mem_append.2 (Or.inr (List.mem_append.2 (Or.inr hfm)))
                · exact HML.out p (List.mem_filter.1 hp).1
              · rw [mlook_put, HMS.out i]
                by_cases e : i = f
                · subst e
                  rw [if_pos rfl, HLF.out, show moreSum [Ac.more i k] i = k by simp [moreSum]]
                  omega
                · rw [if_neg e, HLK.out i, moreSum_other e]
                  omega
            case measure => simp [intOf]; omega
        · obtain ⟨ho, c, u, hv, hcc, hdo⟩ := hw.dir (by simpa using hm)
          subst ho hv
          have hA : Chg (fun _ => False) wr (wr.alloc (.cells #[.pointer none, .func (.func 104) #[] #[.pointer (some ⟨c, 0, none⟩)]] 88)) := (Chg.refl _ _).alloc _
          have hcall := dirDo_any _ w.heap.size c (.map (some (w.heap.size + 1))) 9223372036854775807 u F G.fb _ ac (sorted_app H.out.ok.sortS hv1) (hmn.keep hA (fun h => h)) hv2 (hdo.keep hA (fun _ _ _ _ _ _ h => h) (fun _ h => h) (fun _ _ => rfl)) (hA.keep hcc (fun h => h))
          have hnb := hA.keep hobr (fun h => h)
          have b0 := cell_of hnb 0
          have b1 := cell_of hnb 1
          have HMO := hide (hmo.keep hA (fun h => h))
          have HML := hide hml
          have HLK := hide hlk
          have HHC := hide (hc.then hA)
          have HNB := hide hnb
          have HMS := hide hms
          have HNM := hide hm
          clear hmn hmo hml hlk hc hobr hA hnb hrr hcc hdo hms hm hw
          go_wp2_with (go_at_call 104; refine hcall.mono ?_; rintro e w3 ⟨rfl, hm3, hc3⟩; have HM3 := hide hm3; have HC3 := hide hc3; clear hm3 hc3)
          go_roundw
          case rel =>
            refine ⟨j + 1, ml, by omega, by go_num, ?_, HMO.out.keep HC3.out (by omega), HML.out, fun i => ?_, HHC.out.trans HC3.out (fun i hi e => by omega), HC3.out.keep HNB.out (by omega)⟩
            · rw [app_take hak]
              exact HM3.out
            · rw [HMS.out i, HLK.out i]
              have h0 : moreSum [ac] i = 0 := by
                have := HNM.out
                cases ac <;> first | rfl | simp [isMore] at this
              omega
          case measure => simp [intOf]; omega
      · have hjk : j = kk := by omega
        rw [hjk] at hmn hlk
        have htk : S.acts.take keep.toNat = S.acts.take kk := List.take_eq_take_iff.2 (by have := HKK.out; rw [hna]; omega)
        have hdk : S.acts.drop keep.toNat = S.acts.drop kk := by
          have := HKK.out
          by_cases hle : keep.toNat ≤ n
          · rw [show kk = keep.toNat by omega]
          · rw [List.drop_eq_nil_of_le (by omega), List.drop_eq_nil_of_le (by omega)]
        have hst : stay S.acts keep t = S.acts.take kk ++ torn t.toNat (S.acts.drop kk) := by
          unfold stay
          rw [htk, hdk]
        have happ : appD S.sure (S.acts.take kk) = appD S.sure (stay S.acts keep t) := by rw [app_stay, htk]
        rw [happ] at hmn
        have hdr := hc.keep HHD.out (fun h => h)
        have c0 := cell_of hdr 0
        have c4 := cell_of hdr 4
        have b0 := cell_of hobr 0
        have b1 := cell_of hobr 1
        have HST := hide hst
        have HDR := hide hdr
        have HOBR := hide hobr
        have HMN := hide hmn
        have HMO := hide hmo
        have HML := hide hml
        have HLK := hide hlk
        have HHC := hide hc
        clear htk hdk hst happ hdr hobr hmn hmo hml hlk hc hj hlt
        by_cases hkn2 : kk < n
        · obtain ⟨p, hpk⟩ : ∃ p, G.vs[kk]? = some p := ⟨_, List.getElem?_eq_getElem (by rw [← HN.out]; omega)⟩
          obtain ⟨ac, hak⟩ : ∃ ac, S.acts[kk]? = some ac := ⟨_, List.getElem?_eq_getElem (by omega)⟩
          obtain ⟨o, v⟩ := p
          have hdrop : S.acts.drop kk = ac :: S.acts.drop (kk + 1) := by
            have hlt2 : kk < S.acts.length := by omega
            rw [List.drop_eq_getElem_cons hlt2]
            rw [List.getElem?_eq_getElem hlt2] at hak
            injection hak with hak
            rw [hak]
          have hrr := own_keep HROW.out HHC.out (fun _ _ h => h)
          obtain ⟨g, hg⟩ : ∃ g, a = some ⟨g, 0, none⟩ := by
            rcases hrr.2 with ⟨e1, e2⟩ | ⟨g, cap, cur, e1, _⟩
            · omega
            · injection e1 with e1
              exact ⟨g, e1⟩
          subst hg
          have hnl := HN.out
          have hgcell := hrr.2
          have z0 := hrr.cellAt (kk * 2) (by omega)
          have z1 := hrr.cellAt (kk * 2 + 1) (by omega)
          rw [(vc_get hpk).1] at z0
          rw [(vc_get hpk).2] at z1
          clear hnl hgcell
          have hw := (H.out.actsKeep HHC.out (fun _ _ _ _ _ h => h) (F' := F) (fun _ h => h)) kk ac (o, v) hak hpk
          by_cases hm : isMore ac = true
          · cases ac with
            | made n f => cases hm
            | ren x y => cases hm
            | rem n => cases hm
            | more f k =>
              obtain ⟨ho, cf, cn, hv, _, _, hcf, hcn⟩ := hw
              simp only at ho hv
              subst ho hv
              have hfm : f ∈ moreIds S.acts := mem_more (List.mem_of_getElem? hak)
              have hle1 := more_le H.out hfm
              have hle2 := moreSum_upto S.acts (kk + 1) f
              have hle3 := moreSum_take hak f
              rw [moreSum_self] at hle3
              have hlf := HLK.out f
              have hT : Chg (fun _ => False) wr wr.drew := (Chg.refl _ _).drew
              have hcallm : ∀ m : Int, 0 ≤ m → m.toNat = t.toNat → Calls Tryz.prog 102 #[.agg #[.map (some w.heap.size), .map (some (w.heap.size + 1))], .int .i64 m, .pointer (some ⟨cf, 0, none⟩), .pointer (some ⟨cn, 0, none⟩)] wr.drew fun e w' => e = .returned (.tuple #[]) ∧ MapW w' (w.heap.size + 1) (mv G.fb (mput ml f (mlook ml f + min k t.toNat))) ∧ Chg (· = w.heap.size + 1) wr.drew w' := fun m h0 h1 => by
                rw [← h1]
                exact more1_any wr.drew (w.heap.size + 1) cf cn (.map (some w.heap.size)) G.fb _ ml f k m (HMO.out.keep hT (fun h => h)) ((H.out.lies.keep HHC.out (fun _ _ h => h)).keep hT (fun _ _ h => h)) HML.out (List.mem_append.2 (Or.inr (List.mem_append.2 (Or.inr hfm)))) h0 (by omega) (by omega) hcf hcn
              have HRR := hide hrr
              have HDROP := hide hdrop
              have HLF := hide hlf
              clear hrr hcf hcn hdrop hle1 hle2 hle3 hlf hT
              rcases Int.lt_or_le t 0 with ht | ht
              all_goals
                go_wp2_with fail
                refine wp_region_held_drew (S := fun W => W.cell? ⟨d, 4, none⟩ = some (.slice (some ⟨g, 0, none⟩) n cap) ∧ W.cell? ⟨g, kk * 2 + 1, none⟩ = some (.func (.func 102) #[] #[.pointer (some ⟨cf, 0, none⟩), .pointer (some ⟨cn, 0, none⟩)]) ∧ W.cell? ⟨w.heap.size + 2, 0, none⟩ = some (.map (some w.heap.size)) ∧ W.cell? ⟨w.heap.size + 2, 1, none⟩ = some (.map (some (w.heap.size + 1)))) (by kernel_rfl) (⟨c4, z1, b0, b1⟩) (fun hHeld => ?_)
                refine takeH (i := 0) (v := ?_) rfl (by kernel_rfl) (by kernel_rfl) (by kernel_rfl) (fun _ _ _ h => h) rfl ?_ hHeld ?_
                rotate_left
                · intro w hS; (try dsimp only at hS); obtain ⟨hS0, hS1, hS2, hS3⟩ := hS; go_simp; first | done | (with_reducible rfl)
                try simp only [Act.put, ly1, ly2, ly3]
                refine takeH (i := 1) (v := ?_) rfl (by kernel_rfl) (by kernel_rfl) (by kernel_rfl) (fun _ _ _ h => h) rfl ?_ hHeld ?_
                rotate_left
                · intro w hS; (try dsimp only at hS); obtain ⟨hS0, hS1, hS2, hS3⟩ := hS; go_simp; first | done | (with_reducible rfl)
                try simp only [Act.put, ly1, ly2, ly3]
                refine takeH (i := 2) (v := ?_) rfl (by kernel_rfl) (by kernel_rfl) (by kernel_rfl) (fun _ _ _ h => h) rfl ?_ hHeld ?_
                rotate_left
                · intro w hS; (try dsimp only at hS); obtain ⟨hS0, hS1, hS2, hS3⟩ := hS; go_simp; first | done | (with_reducible rfl)
                try simp only [Act.put, ly1, ly2, ly3]
                refine takeH (i := 3) (v := ?_) rfl (by kernel_rfl) (by kernel_rfl) (by kernel_rfl) (fun _ _ _ h => h) rfl ?_ hHeld ?_
                rotate_left
                · intro w hS; (try dsimp only at hS); obtain ⟨hS0, hS1, hS2, hS3⟩ := hS; go_simp; first | done | (with_reducible rfl)
                try simp only [Act.put, ly1, ly2, ly3]
                refine takeH (i := 4) (v := ?_) rfl (by kernel_rfl) (by kernel_rfl) (by kernel_rfl) (fun _ _ _ h => h) rfl ?_ hHeld ?_
                rotate_left
                · intro w hS; (try dsimp only at hS); obtain ⟨hS0, hS1, hS2, hS3⟩ := hS; go_simp; first | done | (with_reducible rfl)
                try simp only [Act.put, ly1, ly2, ly3]
                refine takeH (i := 5) (v := ?_) rfl (by kernel_rfl) (by kernel_rfl) (by kernel_rfl) (fun _ _ _ h => h) rfl ?_ hHeld ?_
                rotate_left
                · intro w hS; (try dsimp only at hS); obtain ⟨hS0, hS1, hS2, hS3⟩ := hS; go_simp; first | done | (with_reducible rfl)
                try simp only [Act.put, ly1, ly2, ly3]
                refine takeH (i := 6) (v := ?_) rfl (by kernel_rfl) (by kernel_rfl) (by kernel_rfl) (fun _ _ _ h => h) rfl ?_ hHeld ?_
                rotate_left
                · intro w hS; (try dsimp only at hS); obtain ⟨hS0, hS1, hS2, hS3⟩ := hS; go_simp; first | done | (with_reducible rfl)
                try simp only [Act.put, ly1, ly2, ly3]
                refine takeH (i := 7) (v := ?_) rfl (by kernel_rfl) (by kernel_rfl) (by kernel_rfl) (fun _ _ _ h => h) rfl ?_ hHeld ?_
                rotate_left
                · intro w hS; (try dsimp only at hS); obtain ⟨hS0, hS1, hS2, hS3⟩ := hS; go_simp; first | done | (with_reducible rfl)
                try simp only [Act.put, ly1, ly2, ly3]
                refine takeH (i := 8) (v := ?_) rfl (by kernel_rfl) (by kernel_rfl) (by kernel_rfl) (fun _ _ _ h => h) rfl ?_ hHeld ?_
                rotate_left
                · intro w hS; (try dsimp only at hS); obtain ⟨hS0, hS1, hS2, hS3⟩ := hS; go_simp; first | done | (with_reducible rfl)
                try simp only [Act.put, ly1, ly2, ly3]
                refine takeH (i := 9) (v := ?_) rfl (by kernel_rfl) (by kernel_rfl) (by kernel_rfl) (fun _ _ _ h => h) rfl ?_ hHeld ?_
                rotate_left
                · intro w hS; (try dsimp only at hS); obtain ⟨hS0, hS1, hS2, hS3⟩ := hS; go_simp; first | done | (with_reducible rfl)
                try simp only [Act.put, ly1, ly2, ly3]
                refine takeH (i := 10) (v := ?_) rfl (by kernel_rfl) (by kernel_rfl) (by kernel_rfl) (fun _ _ _ h => h) rfl ?_ hHeld ?_
                rotate_left
                · intro w hS; (try dsimp only at hS); obtain ⟨hS0, hS1, hS2, hS3⟩ := hS; go_simp; first | done | (with_reducible rfl)
                try simp only [Act.put, ly1, ly2, ly3]
                refine onlyH (i := 11) rfl (by kernel_rfl) rfl (fun K hK => ?_)
                go_simp
                refine (hcallm _ (by omega) (by omega)).mono ?_
                rintro e w3 ⟨rfl, hm3, hc3⟩
                have hc3' := hc3.undrew
                have hd3 := hc3'.keep HDR.out (by omega)
                have hob3 := hc3'.keep HOBR.out (by omega)
                have hrr3 := own_keep HRR.out hc3' (fun q hq e => by
                  obtain ⟨cur, hcur⟩ := own_block HROW.out hq
                  have := lt_of_heap hcur
                  omega)
                have hnl := HN.out
                have y1 := hrr3.cellAt (kk * 2 + 1) (by omega)
                rw [(vc_get hpk).2] at y1
                refine hK.out _ _ (⟨cell_of hd3 4, y1, cell_of hob3 0, cell_of hob3 1⟩) (fun hHeld => ?_)
                clear hK K
                try simp only [Act.put, ly1, ly2, ly3]
                refine wpAnyH_done (by kernel_rfl) ?_ _
                clear hHeld hnl y1 hrr3
                have hch3 : Chg (fun _ => False) w w3 := HHC.out.trans hc3' (fun i hi e => by omega)
                have hend := crash_end H.out hb (keep := keep) (t := t) (W := w3.drew) hch3.drew ((HMN.out.keep hc3' (by omega)).keep ((Chg.refl (fun _ => False) _).drew) (fun h => h)) (hm3.keep ((Chg.refl (fun _ => False) _).drew) (fun h => h)) (fun p hp => by
                    unfold mput at hp
                    rcases List.mem_cons.1 hp with rfl | hp
                    · exact List.mem_append.2 (Or.inr (List.mem_append.2 (Or.inr hfm)))
                    · exact HML.out p (List.mem_filter.1 hp).1) (fun i => by
                    rw [mlook_put, HST.out, HDROP.out]
                    show _ = moreSum (_ ++ [.more f (min k t.toNat)]) i
                    rw [moreSum_append]
                    by_cases e : i = f
                    · subst e
                      rw [if_pos rfl, HLF.out, moreSum_self]
                    · rw [if_neg e, HLK.out i, moreSum_other e, Nat.add_zero])
                have c0' := cell_of hd3 0
                have b0' := cell_of hob3 0
                have b1' := cell_of hob3 1
                have HD3 := hide hd3
                have HOB3 := hide hob3
                have HCH3 := hide hch3
                clear hc3 hc3' hm3 hd3 hob3 hch3 hcallm
                go_wp2_with fail
                refine wp_region_held_drew (S := fun W => W.cell? ⟨w.heap.size + 2, 0, none⟩ = some (.map (some w.heap.size)) ∧ W.cell? ⟨w.heap.size + 2, 1, none⟩ = some (.map (some (w.heap.size + 1))) ∧ W.cell? ⟨d, 0, none⟩ = some (.int .i64 (S.room : Int))) (by kernel_rfl) (⟨b0', b1', c0'⟩) (fun hHeld => ?_)
                refine takeH (i := 0) (v := ?_) rfl (by kernel_rfl) (by kernel_rfl) (by kernel_rfl) (fun _ _ _ h => h) rfl ?_ hHeld ?_
                rotate_left
                · intro w hS; (try dsimp only at hS); obtain ⟨hS0, hS1, hS2⟩ := hS; go_simp; first | done | (with_reducible rfl)
                try simp only [Act.put, ly1, ly2, ly3]
                refine takeH (i := 1) (v := ?_) rfl (by kernel_rfl) (by kernel_rfl) (by kernel_rfl) (fun _ _ _ h => h) rfl ?_ hHeld ?_
                rotate_left
                · intro w hS; (try dsimp only at hS); obtain ⟨hS0, hS1, hS2⟩ := hS; go_simp; first | done | (with_reducible rfl)
                try simp only [Act.put, ly1, ly2, ly3]
                refine takeH (i := 2) (v := ?_) rfl (by kernel_rfl) (by kernel_rfl) (by kernel_rfl) (fun _ _ _ h => h) rfl ?_ hHeld ?_
                rotate_left
                · intro w hS; (try dsimp only at hS); obtain ⟨hS0, hS1, hS2⟩ := hS; go_simp; first | done | (with_reducible rfl)
                try simp only [Act.put, ly1, ly2, ly3]
                refine takeH (i := 3) (v := ?_) rfl (by kernel_rfl) (by kernel_rfl) (by kernel_rfl) (fun _ _ _ h => h) rfl ?_ hHeld ?_
                rotate_left
                · intro w hS; (try dsimp only at hS); obtain ⟨hS0, hS1, hS2⟩ := hS; go_simp; first | done | (with_reducible rfl)
                try simp only [Act.put, ly1, ly2, ly3]
                refine takeH (i := 4) (v := ?_) rfl (by kernel_rfl) (by kernel_rfl) (by kernel_rfl) (fun _ _ _ h => h) rfl ?_ hHeld ?_
                rotate_left
                · intro w hS; (try dsimp only at hS); obtain ⟨hS0, hS1, hS2⟩ := hS; go_simp; first | done | (with_reducible rfl)
                try simp only [Act.put, ly1, ly2, ly3]
                refine onlyH (i := 5) rfl (by kernel_rfl) rfl (fun K hK => ?_)
                go_simp
                refine hend.mono ?_
                rintro e w5 ⟨d2, G2, rfl, hr5, hc5⟩
                have hob5 := hc5.undrew.keep HOB3.out (fun h => h)
                have hd5 := hc5.undrew.keep HD3.out (fun h => h)
                refine hK.out _ _ (⟨cell_of hob5 0, cell_of hob5 1, cell_of hd5 0⟩) (fun hHeld => ?_)
                clear hK K
                try simp only [Act.put, ly1, ly2, ly3]
                refine takeH (i := 6) (v := ?_) rfl (by kernel_rfl) (by kernel_rfl) (by kernel_rfl) (fun _ _ _ h => h) rfl ?_ hHeld ?_
                rotate_left
                · intro w hS; (try dsimp only at hS); obtain ⟨hS0, hS1, hS2⟩ := hS; go_simp; first | done | (with_reducible rfl)
                try simp only [Act.put, ly1, ly2, ly3]
                refine wpAnyH_done (by kernel_rfl) ?_ _
                clear hHeld
                have HR5 := hide hr5
                have HC5 := hide (HCH3.out.then hc5.undrew)
                clear hr5 hc5 hob5 hd5 hend
                go_wp2
                go_ret
                exact ⟨d2, G2, rfl, HR5.out, HC5.out⟩
          · obtain ⟨ho, c, u, hv, hcc, hdo⟩ := hw.dir (by simpa using hm)
            subst ho hv
            have hend := crash_end H.out hb (keep := keep) (t := t) (W := wr.drew) HHC.out.drew (HMN.out.keep ((Chg.refl (fun _ => False) _).drew) (fun h => h)) (HMO.out.keep ((Chg.refl (fun _ => False) _).drew) (fun h => h)) HML.out (fun i => by
              rw [HLK.out i, HST.out, hdrop]
              have h0 : torn t.toNat (ac :: S.acts.drop (kk + 1)) = [] := by
                cases ac <;> first | rfl | simp [isMore] at hm
              rw [h0, List.append_nil])
            clear hrr hw hcc hdo hdrop
            go_wp2_with fail
            refine wp_region_held_drew (S := fun W => W.cell? ⟨w.heap.size + 2, 0, none⟩ = some (.map (some w.heap.size)) ∧ W.cell? ⟨w.heap.size + 2, 1, none⟩ = some (.map (some (w.heap.size + 1))) ∧ W.cell? ⟨d, 0, none⟩ = some (.int .i64 (S.room : Int))) (by kernel_rfl) (⟨b0, b1, c0⟩) (fun hHeld => ?_)
            refine takeH (i := 0) (v := ?_) rfl (by kernel_rfl) (by kernel_rfl) (by kernel_rfl) (fun _ _ _ h => h) rfl ?_ hHeld ?_
            rotate_left
            · intro w hS; (try dsimp only at hS); obtain ⟨hS0, hS1, hS2⟩ := hS; go_simp; first | done | (with_reducible rfl)
            try simp only [Act.put, ly1, ly2, ly3]
            refine takeH (i := 1) (v := ?_) rfl (by kernel_rfl) (by kernel_rfl) (by kernel_rfl) (fun _ _ _ h => h) rfl ?_ hHeld ?_
            rotate_left
            · intro w hS; (try dsimp only at hS); obtain ⟨hS0, hS1, hS2⟩ := hS; go_simp; first | done | (with_reducible rfl)
            try simp only [Act.put, ly1, ly2, ly3]
            refine takeH (i := 2) (v := ?_) rfl (by kernel_rfl) (by kernel_rfl) (by kernel_rfl) (fun _ _ _ h => h) rfl ?_ hHeld ?_
            rotate_left
            · intro w hS; (try dsimp only at hS); obtain ⟨hS0, hS1, hS2⟩ := hS; go_simp; first | done | (with_reducible rfl)
            try simp only [Act.put, ly1, ly2, ly3]
            refine takeH (i := 3) (v := ?_) rfl (by kernel_rfl) (by kernel_rfl) (by kernel_rfl) (fun _ _ _ h => h) rfl ?_ hHeld ?_
            rotate_left
            · intro w hS; (try dsimp only at hS); obtain ⟨hS0, hS1, hS2⟩ := hS; go_simp; first | done | (with_reducible rfl)
            try simp only [Act.put, ly1, ly2, ly3]
            refine takeH (i := 4) (v := ?_) rfl (by kernel_rfl) (by kernel_rfl) (by kernel_rfl) (fun _ _ _ h => h) rfl ?_ hHeld ?_
            rotate_left
            · intro w hS; (try dsimp only at hS); obtain ⟨hS0, hS1, hS2⟩ := hS; go_simp; first | done | (with_reducible rfl)
            try simp only [Act.put, ly1, ly2, ly3]
            refine onlyH (i := 5) rfl (by kernel_rfl) rfl (fun K hK => ?_)
            go_simp
            refine hend.mono ?_
            rintro e w5 ⟨d2, G2, rfl, hr5, hc5⟩
            have hob5 := hc5.undrew.keep HOBR.out (fun h => h)
            have hd5 := hc5.undrew.keep HDR.out (fun h => h)
            refine hK.out _ _ (⟨cell_of hob5 0, cell_of hob5 1, cell_of hd5 0⟩) (fun hHeld => ?_)
            clear hK K
            try simp only [Act.put, ly1, ly2, ly3]
            refine takeH (i := 6) (v := ?_) rfl (by kernel_rfl) (by kernel_rfl) (by kernel_rfl) (fun _ _ _ h => h) rfl ?_ hHeld ?_
            rotate_left
            · intro w hS; (try dsimp only at hS); obtain ⟨hS0, hS1, hS2⟩ := hS; go_simp; first | done | (with_reducible rfl)
            try simp only [Act.put, ly1, ly2, ly3]
            refine wpAnyH_done (by kernel_rfl) ?_ _
            clear hHeld
            have HR5 := hide hr5
            have HC5 := hide (HHC.out.then hc5.undrew)
            clear hr5 hc5 hob5 hd5 hend
            go_wp2
            go_ret
            exact ⟨d2, G2, rfl, HR5.out, HC5.out⟩
        · have hkn3 : kk = n := by omega
          have hend := crash_end H.out hb (keep := keep) (t := t) (W := wr.drew) HHC.out.drew (HMN.out.keep ((Chg.refl (fun _ => False) _).drew) (fun h => h)) (HMO.out.keep ((Chg.refl (fun _ => False) _).drew) (fun h => h)) HML.out (fun i => by
            rw [HLK.out i, HST.out, List.drop_eq_nil_of_le (by omega)]
            show _ = moreSum (_ ++ []) i
            rw [List.append_nil])
          go_wp2_with fail
          refine wp_region_held_drew (S := fun W => W.cell? ⟨w.heap.size + 2, 0, none⟩ = some (.map (some w.heap.size)) ∧ W.cell? ⟨w.heap.size + 2, 1, none⟩ = some (.map (some (w.heap.size + 1))) ∧ W.cell? ⟨d, 0, none⟩ = some (.int .i64 (S.room : Int))) (by kernel_rfl) (⟨b0, b1, c0⟩) (fun hHeld => ?_)
          refine takeH (i := 0) (v := ?_) rfl (by kernel_rfl) (by kernel_rfl) (by kernel_rfl) (fun _ _ _ h => h) rfl ?_ hHeld ?_
          rotate_left
          · intro w hS; (try dsimp only at hS); obtain ⟨hS0, hS1, hS2⟩ := hS; go_simp; first | done | (with_reducible rfl)
          try simp only [Act.put, ly1, ly2, ly3]
          refine takeH (i := 1) (v := ?_) rfl (by kernel_rfl) (by kernel_rfl) (by kernel_rfl) (fun _ _ _ h => h) rfl ?_ hHeld ?_
          rotate_left
          · intro w hS; (try dsimp only at hS); obtain ⟨hS0, hS1, hS2⟩ := hS; go_simp; first | done | (with_reducible rfl)
          try simp only [Act.put, ly1, ly2, ly3]
          refine takeH (i := 2) (v := ?_) rfl (by kernel_rfl) (by kernel_rfl) (by kernel_rfl) (fun _ _ _ h => h) rfl ?_ hHeld ?_
          rotate_left
          · intro w hS; (try dsimp only at hS); obtain ⟨hS0, hS1, hS2⟩ := hS; go_simp; first | done | (with_reducible rfl)
          try simp only [Act.put, ly1, ly2, ly3]
          refine takeH (i := 3) (v := ?_) rfl (by kernel_rfl) (by kernel_rfl) (by kernel_rfl) (fun _ _ _ h => h) rfl ?_ hHeld ?_
          rotate_left
          · intro w hS; (try dsimp only at hS); obtain ⟨hS0, hS1, hS2⟩ := hS; go_simp; first | done | (with_reducible rfl)
          try simp only [Act.put, ly1, ly2, ly3]
          refine takeH (i := 4) (v := ?_) rfl (by kernel_rfl) (by kernel_rfl) (by kernel_rfl) (fun _ _ _ h => h) rfl ?_ hHeld ?_
          rotate_left
          · intro w hS; (try dsimp only at hS); obtain ⟨hS0, hS1, hS2⟩ := hS; go_simp; first | done | (with_reducible rfl)
          try simp only [Act.put, ly1, ly2, ly3]
          refine onlyH (i := 5) rfl (by kernel_rfl) rfl (fun K hK => ?_)
          go_simp
          refine hend.mono ?_
          rintro e w5 ⟨d2, G2, rfl, hr5, hc5⟩
          have hob5 := hc5.undrew.keep HOBR.out (fun h => h)
          have hd5 := hc5.undrew.keep HDR.out (fun h => h)
          refine hK.out _ _ (⟨cell_of hob5 0, cell_of hob5 1, cell_of hd5 0⟩) (fun hHeld => ?_)
          clear hK K
          try simp only [Act.put, ly1, ly2, ly3]
          refine takeH (i := 6) (v := ?_) rfl (by kernel_rfl) (by kernel_rfl) (by kernel_rfl) (fun _ _ _ h => h) rfl ?_ hHeld ?_
          rotate_left
          · intro w hS; (try dsimp only at hS); obtain ⟨hS0, hS1, hS2⟩ := hS; go_simp; first | done | (with_reducible rfl)
          try simp only [Act.put, ly1, ly2, ly3]
          refine wpAnyH_done (by kernel_rfl) ?_ _
          clear hHeld
          have HR5 := hide hr5
          have HC5 := hide (HHC.out.then hc5.undrew)
          clear hr5 hc5 hob5 hd5 hend
          go_wp2
          go_ret
          exact ⟨d2, G2, rfl, HR5.out, HC5.out⟩
end
end Go.Proofs.YthjcimgollfmgaaGreatDoor

/-
  What Size, Ops and Loose answer; SetRoom, CutAt, New. Condition: a disk within bounds.
-/
namespace Go.Proofs.YthjcimgollfmgaaGreatDoor
open Go.RowKit

section
variable {w w' : World} {F : Nat → Prop} {d : Nat} {S : Dk} {G : Gh}

set_option maxRecDepth 20000 in
theorem ops_rep (h : Rep w F d S G) : Calls Tryz.prog 9 #[.pointer (some ⟨d, 0, none⟩)] w fun e w' => e = .returned (.int .i64 (S.n : Int)) ∧ w' = w := by
  have hd := h.disk
  unfold dcells at hd
  have x5 := cell_of hd 5
  go_enter Tryz.func9, Tryz.ntmps9
  go_wp2
  go_ret
  exact ⟨rfl, rfl⟩

set_option maxRecDepth 20000 in
theorem size_rep (h : Rep w F d S G) (n : Nm) : Calls Tryz.prog 15 #[.pointer (some ⟨d, 0, none⟩), .string (strB n)] w fun e w' => e = .returned (.int .i64 (S.size n)) ∧ w' = w := by
  have hd := h.disk
  unfold dcells at hd
  have x2 := cell_of hd 2
  have hlk : (Instr.lookup 59 (.map G.now) (.string (strB n)) false).run Tryz.prog w = .ok (pv G.fb (look S.dir n)) w := by
    cases e : G.now with
    | some b => exact now_map h e n
    | none =>
      have hm := h.now
      rw [e] at hm
      have h2 : dv G.fb S.dir = [] := hm
      have h3 : S.dir = [] := List.map_eq_nil_iff.1 h2
      rw [h3]
      exact dir_look_nil w n
  unfold Dk.size
  cases hl : look S.dir n with
  | none =>
    rw [hl] at hlk
    have hlk' : (Instr.lookup 59 (.map G.now) (.string (strB n)) false).run Tryz.prog w = .ok (.pointer none) w := hlk
    clear hlk
    go_enter Tryz.func15, Tryz.ntmps15
    go_wp2
    go_ret
    exact ⟨rfl, rfl⟩
  | some f =>
    rw [hl] at hlk
    have hlk' : (Instr.lookup 59 (.map G.now) (.string (strB n)) false).run Tryz.prog w = .ok (.pointer (some ⟨G.fb f, 0, none⟩)) w := hlk
    obtain ⟨x, hx, hbx, hlv, f2, b2⟩ := h.file hl
    obtain ⟨ra, rc, hrv⟩ := own_shape b2
    rw [hrv] at f2
    have y0 := cell_of f2 0
    dsimp only
    rw [hbx]
    clear hlk f2 b2 hrv hbx
    obtain ⟨len, hlen⟩ : ∃ len, len = x.b.length := ⟨_, rfl⟩
    rw [← hlen] at y0 ⊢
    clear hlen
    go_enter Tryz.func15, Tryz.ntmps15
    go_wp2
    go_ret
    exact ⟨rfl, rfl⟩

/-- Of a disk, only what it was told is another: the room, the cut, which operations fail. -/
theorem Rep.told {F' : Nat → Prop} (h : Rep w F d S G) (hc : Chg (fun k => k = d ∨ some k = G.fls) w w') {room : Nat} {cut : Option Nat} {fails : Nat → Bool} {cv : Int} {fls : Option Nat} (l' : List Int) (hroom : room < 9223372036854775808) (hcut : ∀ c, cut = some c → cv = (c : Int)) (hF : ∀ k, F k → F' k)
    (hd : w'.heap[d]? = some (.cells (dcells { S with room := room, cut := cut, fails := fails } { G with cv := cv, fls := fls }) 63))
    (hfl : MapO w' F' fls (fv l')) (hl : ∀ k : Nat, S.n ≤ k → (fails k = true ↔ (k : Int) ∈ l')) (h2 : ∀ b, G.now = some b → fls ≠ some b) (h3 : ∀ b, G.sure = some b → fls ≠ some b) :
    Rep w' F' d { S with room := room, cut := cut, fails := fails } { G with cv := cv, fls := fls } where
  ok := ⟨h.ok.sortS, h.ok.valid, h.ok.dir, h.ok.one, h.ok.idS, h.ok.idA, h.ok.idM, h.ok.lens⟩
  disk := hd
  inD := hF d h.inD
  roomy := hroom
  cutv := hcut
  now := h.now.keep hc (fun b e e2 => by
    have hm := h.now
    rw [e] at hm
    rcases e2 with e2 | e2
    · exact hm.2.ne h.disk e2.symm
    · exact (h.two b e).2 e2.symm) hF
  sure := h.sure.keep hc (fun b e e2 => by
    rcases e2 with e2 | e2
    · exact h.ne_sure e e2.symm
    · exact h.three b e e2.symm) hF
  both := h.both
  bare := h.bare
  fails := ⟨l', hfl, hl⟩
  two := fun b e => ⟨(h.two b e).1, h2 b e⟩
  three := h3
  row := own_keep h.row hc (fun k hk e => by
    rcases e with e | e
    · exact h.ne_row hk e
    · obtain ⟨cur, hcur⟩ := own_block h.row hk
      obtain ⟨l, h1, _⟩ := h.fails
      rw [← e] at h1
      exact h1.2.ne hcur rfl)
  rowF := fun k hk => hF k (h.rowF k hk)
  many := h.many
  acts := h.actsKeep hc (by
    obtain ⟨l, h1, _⟩ := h.fails
    exact (spares_cells h.disk (by decide)).or (spares_mapO h1)) hF
  files := fun i hi => by
    obtain ⟨f1, f2⟩ := h.files i hi
    refine ⟨hF _ f1, hc.keep f2 (fun e => ?_)⟩
    rcases e with e | e
    · exact h.ne_file hi e.symm
    · obtain ⟨l, h1, _⟩ := h.fails
      rw [← e] at h1
      exact h1.2.ne f2 rfl
  inj := h.inj
  bytes := fun i f hi hf => by
    obtain ⟨b1, b2, b3⟩ := h.bytes i f hi hf
    refine ⟨b1, own_keep b2 hc (fun k hk e => ?_), fun k hk => hF k (b3 k hk)⟩
    obtain ⟨cur, hcur⟩ := own_block b2 hk
    rcases e with e | e
    · exact ne_tag hcur h.disk (show 5 ≠ 63 by decide) e
    · obtain ⟨l, h1, _⟩ := h.fails
      rw [← e] at h1
      exact h1.2.ne hcur rfl
  apart := h.apart

/-- Told, without a word of failing. -/
theorem Rep.told1 (h : Rep w F d S G) (hc : Chg (· = d) w w') {room : Nat} {cut : Option Nat} {cv : Int} (hroom : room < 9223372036854775808) (hcut : ∀ c, cut = some c → cv = (c : Int))
    (hd : w'.heap[d]? = some (.cells (dcells { S with room := room, cut := cut } { G with cv := cv }) 63)) : Rep w' F d { S with room := room, cut := cut } { G with cv := cv } := by
  obtain ⟨l, h1, h2⟩ := h.fails
  exact h.told (hc.mono fun _ _ e => Or.inl e) l hroom hcut (fun _ h => h) hd (h1.keep hc (fun b e e2 => h.ne_fls e e2.symm) (fun _ h => h)) h2 (fun b e => (h.two b e).2) h.three

set_option maxRecDepth 20000 in
theorem cutAt_rep (h : Rep w F d S G) (op : Int) : Calls Tryz.prog 22 #[.pointer (some ⟨d, 0, none⟩), .int .i64 op] w fun e w' => e = .returned (.tuple #[]) ∧ (∃ G', Rep w' F d (S.cutAt op) G') ∧ Chg F w w' := by
  have hd := h.disk
  unfold dcells at hd
  have t6 := thawed hd 6
  have t7 := thawed hd 7
  have x6 := cell_of hd 6
  have x7 := cell_of hd 7
  have hfin : ∀ v : Bool, v = decide (0 ≤ op) → (∃ G', Rep ((w.setCell ⟨d, 6, none⟩ (.bool v)).setCell ⟨d, 7, none⟩ (.int .i64 op)) F d (S.cutAt op) G') ∧ Chg F w ((w.setCell ⟨d, 6, none⟩ (.bool v)).setCell ⟨d, 7, none⟩ (.int .i64 op)) := fun v hv => by
    have hc : Chg (· = d) w ((w.setCell ⟨d, 6, none⟩ (.bool v)).setCell ⟨d, 7, none⟩ (.int .i64 op)) := (chg_set w d 6 _).then (chg_set _ d 7 _)
    refine ⟨⟨_, h.told1 hc (room := S.room) (cut := if op < 0 then none else some op.toNat) (cv := op) h.roomy (fun c e => ?_) ?_⟩, hc.mono fun k _ e => by rw [e]; exact h.inD⟩
    · split at e
      · cases e
      · injection e with e
        omega
    · rw [heap_set (heap_set hd 6 _) 7 _, hv]
      unfold dcells
      rcases Int.lt_or_le op 0 with h1 | h1
      · rw [if_pos h1, decide_eq_false (by omega)]
        rfl
      · rw [if_neg (by omega), decide_eq_true h1]
        rfl
  have HF := hide hfin
  clear hfin hd h
  go_enter Tryz.func22, Tryz.ntmps22
  go_wp2
  go_end0
  exact ⟨rfl, HF.out _ rfl⟩
end
end Go.Proofs.YthjcimgollfmgaaGreatDoor

/-
  FailAt: which operations fail, told. Conditions: the disk lies there; the numbers lie in a slice of its own.
-/
namespace Go.Proofs.YthjcimgollfmgaaGreatDoor
open Go.RowKit
variable {w : World} {F : Nat → Prop} {d : Nat} {S : Dk} {G : Gh}

/-- The slice v has the numbers ks, in the world w. -/
def Is (w : World) (v : Value) (ks : List Int) : Prop :=
  ∃ b off cap, v = .slice (some ⟨b, off, none⟩) ks.length cap ∧ b < w.heap.size ∧ ks.length ≤ cap ∧ ∀ j (h : j < ks.length), w.cell? ⟨b, off + j, none⟩ = some (.int .i64 ks[j])

theorem fails_put {w : World} {F : Nat → Prop} {b : Nat} {l : List Int} (h : MapO w F (some b) (fv l)) (n : Int) :
    ∃ w' l', (Instr.mapUpdate 61 (.map (some b)) (.int .i64 n) (.agg #[])).run Tryz.prog w = .ok () w' ∧ MapO w' F (some b) (fv l') ∧ (∀ k, k ∈ l' ↔ k = n ∨ k ∈ l) ∧ Chg (· = b) w w' := by
  by_cases hn : n ∈ l
  · have hp : (fv l).Perm ((.int .i64 n, .agg #[]) :: fv (l.erase n)) := (List.perm_cons_erase hn).map _
    obtain ⟨w', h1, h2, h3, _⟩ := (h.2.perm hp).put_old (kint w) (fv_keys _) Tryz.underlying61 ⟨n, rfl⟩ (.agg #[])
    refine ⟨w', l, h1, ⟨h.1, h2.perm hp.symm⟩, fun k => ⟨Or.inr, ?_⟩, h3⟩
    rintro (rfl | h)
    · exact hn
    · exact h
  · obtain ⟨w', h1, h2, h3, _⟩ := h.2.put_new (kint w) (fv_keys _) Tryz.underlying61 ⟨n, rfl⟩ (fv_ne hn) (.agg #[])
    exact ⟨w', n :: l, h1, ⟨h.1, h2⟩, fun k => by simp, h3⟩

end Go.Proofs.YthjcimgollfmgaaGreatDoor
