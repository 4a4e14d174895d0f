/-
  Which ids bytes name, and whether they are an object's. Conditions: lengths within reach.
-/
import Derived.Test.YtdbmngbinhemeabGreatDoorRORefs
namespace Go.Proofs.YtdbmngbinhemeabGreatDoor
open Go.RowKit

/-- Are they an object's bytes? -/
def objB : Bs → Bool
  | [] => false
  | c :: l => if c = 67 then (takenChunk (c :: l)).isSome else if c = 70 then (takenFan (c :: l)).isSome else if c = 76 then (takenLeaf (c :: l)).isSome else if c = 66 then (takenBranch (c :: l)).isSome else if c = 75 then (takenCommit (c :: l)).isSome else false
theorem app_ids (W : World) (B : Nat) (t : TypeId) (tree : Bs) (v : Value) (ps : List Bs) (hB : B ≤ W.heap.size) (hown : W.ownsRow B 9 1 v ps.length (ps.flatMap idC)) (hn : ps.length ≤ 100) :
    ∃ v' w', (Builtin.append_ #[22, 22] t #[.slice (some ⟨W.heap.size, 0, none⟩) 1 1, v]).run Tryz.prog (W.alloc (.cells #[.string (strB tree)] 9)) = .ok v' w' ∧ w'.ownsRow B 9 1 v' (ps.length + 1) ((tree :: ps).flatMap idC) ∧ (W.alloc (.cells #[.string (strB tree)] 9)).grownBy w' (some W.heap.size) := by
  obtain ⟨i0, hi, hz0, hz1, hz2⟩ := info_parts Tryz.zStr
  have ho : (W.alloc (.cells #[.string (strB tree)] 9)).ownsRow B 9 1 (.slice (some ⟨W.heap.size, 0, none⟩) 1 1) 1 [.string (strB tree)] := World.ownsRow_lit W #[.string (strB tree)] 1 hB (by unfold maxLen; omega) rfl
  have hoA := hown.alloc (.cells #[.string (strB tree)] 9)
  have hl := hown.1
  rcases hown.2 with ⟨rfl, hn0⟩ | ⟨g, cap, cur, rfl, hgB, _⟩
  · obtain rfl : ps = [] := List.eq_nil_of_length_eq_zero hn0
    have hrun := run_append_room_src (P := Tryz.prog) (W.alloc (.cells #[.string (strB tree)] 9)) 22 22 t 9 i0 Tryz.underlying22 hi W.heap.size 0 1 1 (.slice none 0 0) 0 [] (by rw [hz1]; exact Src.ofNil _ Tryz.underlying22 0) (by omega) (by simp) (by simp)
    refine ⟨_, _, hrun, ?_, ?_⟩
    · simpa [World.setCells, idC] using ho
    · simpa [World.setCells] using gb_refl (W.alloc (.cells #[.string (strB tree)] 9)) (some W.heap.size)
  · obtain ⟨v', w', hrun, hown', hgr, -⟩ := run_append_own (P := Tryz.prog) (W.alloc (.cells #[.string (strB tree)] 9)) B 22 t 9 i0 (.string ⟨#[]⟩) 1 16 Tryz.underlying22 hi hz0 hz1 hz2 rfl (by decide) _ _ _ ho ⟨g, 0, none⟩ ps.length cap (ps.flatMap idC) (by simpa using hl) (hoA.cells rfl) (by
      intro u hu
      obtain ⟨x, _, hx⟩ := List.mem_flatMap.1 hu
      simp [idC] at hx
      subst hx
      rfl) (by unfold maxLen; omega) (by omega) (by simp; omega)
    refine ⟨v', w', hrun, ?_, hgr⟩
    rw [Nat.add_comm]
    exact hown'

set_option maxRecDepth 20000 in
set_option maxHeartbeats 400000 in
theorem names_chunk (w : World) (b l : Bs) (hbl : b = 67 :: l) (hb : b.length ≤ 140737488355328) :
    Calls Tryz.prog 12 #[.string (strB b)] w fun e w' => ∃ (v : Value) (L : List Bs), e = .returned (.tuple #[v, .int .i64 (if objB b then 0 else 81)]) ∧ w'.ownsRow w.heap.size 9 1 v L.length (L.flatMap idC) ∧ L.length ≤ 100 ∧ Below w.heap.size w w' := by
  have hsz := strB_size b
  have hex : (strB b).extract 0 1 = strB [67] := by rw [ext_strB, hbl]; rfl
  have htl := toL [67]
  have hl1 : 1 ≤ b.length := by rw [hbl]; simp
  have hmin : min (b.length : Int) 1 = 1 := by omega
  have q67 : (([67] : List UInt8) == [67]) = true := by simp
  have q70 : (([67] : List UInt8) == [70]) = false := by simp; try (intro h; simp_all)
  have q76 : (([67] : List UInt8) == [76]) = false := by simp; try (intro h; simp_all)
  have q66 : (([67] : List UInt8) == [66]) = false := by simp; try (intro h; simp_all)
  have q75 : (([67] : List UInt8) == [75]) = false := by simp; try (intro h; simp_all)
  have hK := takeChunk_any w b hb
  have hobj : objB b = (takenChunk b).isSome := by rw [hbl]; rfl
  clear hbl
  skip
  cases ht : takenChunk b with
  | none =>
    rw [ht] at hK hobj
    rw [hobj]
    simp only [Option.isSome_none, Bool.false_eq_true, if_false] at hK ⊢
    clear hobj ht
    go_enter Tryz.func12, Tryz.ntmps12
    go_wp2_with fail
    refine hK.mono ?_
    rintro e w1 ⟨rfl, hb1⟩
    clear hK
    go_wp2
    go_ret2
    exact ⟨_, [], rfl, World.ownsRow_nil _ _ _ _, by simp, hb1⟩
  | some f =>
    skip
    rw [ht] at hK hobj
    rw [hobj]
    simp only [Option.isSome_some, if_true] at hK ⊢
    clear hobj ht
    go_enter Tryz.func12, Tryz.ntmps12
    go_wp2_with fail
    refine hK.mono ?_
    rintro e w1 ⟨rfl, hb1⟩
    clear hK
    go_wp2
    go_ret2
    exact ⟨_, [], rfl, World.ownsRow_nil _ _ _ _, by simp, hb1⟩

set_option maxRecDepth 20000 in
set_option maxHeartbeats 400000 in
theorem names_fan (w : World) (b l : Bs) (hbl : b = 70 :: l) (hb : b.length ≤ 140737488355328) :
    Calls Tryz.prog 12 #[.string (strB b)] w fun e w' => ∃ (v : Value) (L : List Bs), e = .returned (.tuple #[v, .int .i64 (if objB b then 0 else 81)]) ∧ w'.ownsRow w.heap.size 9 1 v L.length (L.flatMap idC) ∧ L.length ≤ 100 ∧ Below w.heap.size w w' := by
  have hsz := strB_size b
  have hex : (strB b).extract 0 1 = strB [70] := by rw [ext_strB, hbl]; rfl
  have htl := toL [70]
  have hl1 : 1 ≤ b.length := by rw [hbl]; simp
  have hmin : min (b.length : Int) 1 = 1 := by omega
  have q67 : (([70] : List UInt8) == [67]) = false := by simp; try (intro h; simp_all)
  have q70 : (([70] : List UInt8) == [70]) = true := by simp
  have q76 : (([70] : List UInt8) == [76]) = false := by simp; try (intro h; simp_all)
  have q66 : (([70] : List UInt8) == [66]) = false := by simp; try (intro h; simp_all)
  have q75 : (([70] : List UInt8) == [75]) = false := by simp; try (intro h; simp_all)
  have hK := takeFan_any w b hb
  have hobj : objB b = (takenFan b).isSome := by rw [hbl]; rfl
  clear hbl
  unfold fanSaid at hK
  cases ht : takenFan b with
  | none =>
    rw [ht] at hK hobj
    rw [hobj]
    simp only [Option.isSome_none, Bool.false_eq_true, if_false] at hK ⊢
    clear hobj ht
    go_enter Tryz.func12, Tryz.ntmps12
    go_wp2_with fail
    refine hK.mono ?_
    rintro e w1 ⟨rfl, hb1⟩
    clear hK
    have hq : Below w1.heap.size w1 (w1.alloc (.cells #[.int .i64 0, .slice none 0 0] 46)) := (Below.refl _ _).alloc (Nat.le_refl _) _
    have hI := idsParts_any (w1.alloc (.cells #[.int .i64 0, .slice none 0 0] 46)) (.slice none 0 0) [] (Ls.nil _ _ _ _) (by simp)
    have hB1 := hb1.trans (hq.mono hb1.size)
    go_wp2_with fail
    refine hI.mono ?_
    rintro e w2 ⟨v2, rfl, hown2, hb2⟩
    have hB := hB1.trans (hb2.mono hB1.size)
    obtain ⟨a2, c2, rfl, -⟩ := own_form hown2
    go_wp2
    go_ret2
    exact ⟨_, _, rfl, World.ownsRow.mono hown2 hB1.size, by simp, hB⟩
  | some f =>
    have hfl := (fanB_le ((takenFan_iff b f).1 ht).1).2.1
    rw [ht] at hK hobj
    rw [hobj]
    simp only [Option.isSome_some, if_true] at hK ⊢
    clear hobj ht
    go_enter Tryz.func12, Tryz.ntmps12
    go_wp2_with fail
    refine hK.mono ?_
    rintro e w1 ⟨⟨v1, rfl, hown1⟩, hb1⟩
    clear hK
    obtain ⟨a1, c1, rfl, -⟩ := own_form hown1
    have hq : Below w1.heap.size w1 (w1.alloc (.cells #[.int .i64 f.1, .slice a1 f.2.length c1] 46)) := (Below.refl _ _).alloc (Nat.le_refl _) _
    have hI := idsParts_any (w1.alloc (.cells #[.int .i64 f.1, .slice a1 f.2.length c1] 46)) _ f.2 ((ls_of_own partC_length hown1).past hq) (by omega)
    have hB1 := hb1.trans (hq.mono hb1.size)
    clear hown1
    go_wp2_with fail
    refine hI.mono ?_
    rintro e w2 ⟨v2, rfl, hown2, hb2⟩
    have hB := hB1.trans (hb2.mono hB1.size)
    have hle := fm_le (fun p : Part => some p.1) f.2
    generalize f.2.filterMap (fun p : Part => some p.1) = L at hown2 hle
    obtain ⟨a2, c2, rfl, -⟩ := own_form hown2
    go_wp2
    go_ret2
    exact ⟨_, L, rfl, World.ownsRow.mono hown2 hB1.size, by omega, hB⟩

set_option maxRecDepth 20000 in
set_option maxHeartbeats 400000 in
theorem names_leaf (w : World) (b l : Bs) (hbl : b = 76 :: l) (hb : b.length ≤ 140737488355328) :
    Calls Tryz.prog 12 #[.string (strB b)] w fun e w' => ∃ (v : Value) (L : List Bs), e = .returned (.tuple #[v, .int .i64 (if objB b then 0 else 81)]) ∧ w'.ownsRow w.heap.size 9 1 v L.length (L.flatMap idC) ∧ L.length ≤ 100 ∧ Below w.heap.size w w' := by
  have hsz := strB_size b
  have hex : (strB b).extract 0 1 = strB [76] := by rw [ext_strB, hbl]; rfl
  have htl := toL [76]
  have hl1 : 1 ≤ b.length := by rw [hbl]; simp
  have hmin : min (b.length : Int) 1 = 1 := by omega
  have q67 : (([76] : List UInt8) == [67]) = false := by simp; try (intro h; simp_all)
  have q70 : (([76] : List UInt8) == [70]) = false := by simp; try (intro h; simp_all)
  have q76 : (([76] : List UInt8) == [76]) = true := by simp
  have q66 : (([76] : List UInt8) == [66]) = false := by simp; try (intro h; simp_all)
  have q75 : (([76] : List UInt8) == [75]) = false := by simp; try (intro h; simp_all)
  have hK := takeLeaf_any w b hb
  have hobj : objB b = (takenLeaf b).isSome := by rw [hbl]; rfl
  clear hbl
  unfold LeafSaid at hK
  cases ht : takenLeaf b with
  | none =>
    rw [ht] at hK hobj
    rw [hobj]
    simp only [Option.isSome_none, Bool.false_eq_true, if_false] at hK ⊢
    clear hobj ht
    go_enter Tryz.func12, Tryz.ntmps12
    go_wp2_with fail
    refine hK.mono ?_
    rintro e w1 ⟨rfl, hb1⟩
    clear hK
    have hI := idsPairs_any w1 (.slice none 0 0) [] (Ls.nil _ _ _ _) (by simp) (fun x hx => by cases hx)
    go_wp2_with fail
    refine hI.mono ?_
    rintro e w2 ⟨v2, rfl, hown2, hb2⟩
    have hB := hb1.trans (hb2.mono hb1.size)
    obtain ⟨a2, c2, rfl, -⟩ := own_form hown2
    go_wp2
    go_ret2
    exact ⟨_, _, rfl, World.ownsRow.mono hown2 hb1.size, by simp, hB⟩
  | some f =>
    have hok := ((takenLeaf_iff b hb f).1 ht).1
    simp only [leafOk, isKeyB, Bool.and_eq_true, decide_eq_true_eq, List.all_eq_true] at hok
    have hfl : f.length ≤ 64 := hok.1.1
    have hfp : ∀ x ∈ f, x.1.length ≤ 140737488355328 ∧ x.2.length ≤ 140737488355328 := fun x hx => by have := hok.1.2 x hx; omega
    clear hok
    rw [ht] at hK hobj
    rw [hobj]
    simp only [Option.isSome_some, if_true] at hK ⊢
    clear hobj ht
    go_enter Tryz.func12, Tryz.ntmps12
    go_wp2_with fail
    refine hK.mono ?_
    rintro e w1 ⟨⟨v1, rfl, hown1⟩, hb1⟩
    clear hK
    obtain ⟨a1, c1, rfl, -⟩ := own_form hown1
    have hI := idsPairs_any w1 _ f (ls_of_own pairC_length hown1) (by omega) hfp
    clear hown1
    go_wp2_with fail
    refine hI.mono ?_
    rintro e w2 ⟨v2, rfl, hown2, hb2⟩
    have hB := hb1.trans (hb2.mono hb1.size)
    have hle := fm_le entryIdOf f
    generalize f.filterMap entryIdOf = L at hown2 hle
    obtain ⟨a2, c2, rfl, -⟩ := own_form hown2
    go_wp2
    go_ret2
    exact ⟨_, L, rfl, World.ownsRow.mono hown2 hb1.size, by omega, hB⟩

set_option maxRecDepth 20000 in
set_option maxHeartbeats 400000 in
theorem names_branch (w : World) (b l : Bs) (hbl : b = 66 :: l) (hb : b.length ≤ 140737488355328) :
    Calls Tryz.prog 12 #[.string (strB b)] w fun e w' => ∃ (v : Value) (L : List Bs), e = .returned (.tuple #[v, .int .i64 (if objB b then 0 else 81)]) ∧ w'.ownsRow w.heap.size 9 1 v L.length (L.flatMap idC) ∧ L.length ≤ 100 ∧ Below w.heap.size w w' := by
  have hsz := strB_size b
  have hex : (strB b).extract 0 1 = strB [66] := by rw [ext_strB, hbl]; rfl
  have htl := toL [66]
  have hl1 : 1 ≤ b.length := by rw [hbl]; simp
  have hmin : min (b.length : Int) 1 = 1 := by omega
  have q67 : (([66] : List UInt8) == [67]) = false := by simp; try (intro h; simp_all)
  have q70 : (([66] : List UInt8) == [70]) = false := by simp; try (intro h; simp_all)
  have q76 : (([66] : List UInt8) == [76]) = false := by simp; try (intro h; simp_all)
  have q66 : (([66] : List UInt8) == [66]) = true := by simp
  have q75 : (([66] : List UInt8) == [75]) = false := by simp; try (intro h; simp_all)
  have hK := takeBranch_any w b hb
  have hobj : objB b = (takenBranch b).isSome := by rw [hbl]; rfl
  clear hbl
  unfold branchSaid at hK
  cases ht : takenBranch b with
  | none =>
    rw [ht] at hK hobj
    rw [hobj]
    simp only [Option.isSome_none, Bool.false_eq_true, if_false] at hK ⊢
    clear hobj ht
    go_enter Tryz.func12, Tryz.ntmps12
    go_wp2_with fail
    refine hK.mono ?_
    rintro e w1 ⟨rfl, hb1⟩
    clear hK
    have hq : Below w1.heap.size w1 (w1.alloc (.cells #[.int .i64 0, .slice none 0 0] 54)) := (Below.refl _ _).alloc (Nat.le_refl _) _
    have hI := idsLinks_any (w1.alloc (.cells #[.int .i64 0, .slice none 0 0] 54)) (.slice none 0 0) [] (Ls.nil _ _ _ _) (by simp)
    have hB1 := hb1.trans (hq.mono hb1.size)
    go_wp2_with fail
    refine hI.mono ?_
    rintro e w2 ⟨v2, rfl, hown2, hb2⟩
    have hB := hB1.trans (hb2.mono hB1.size)
    obtain ⟨a2, c2, rfl, -⟩ := own_form hown2
    go_wp2
    go_ret2
    exact ⟨_, _, rfl, World.ownsRow.mono hown2 hB1.size, by simp, hB⟩
  | some f =>
    have hfl := (branchB_le ((takenBranch_iff b hb f).1 ht).1).2.1
    rw [ht] at hK hobj
    rw [hobj]
    simp only [Option.isSome_some, if_true] at hK ⊢
    clear hobj ht
    go_enter Tryz.func12, Tryz.ntmps12
    go_wp2_with fail
    refine hK.mono ?_
    rintro e w1 ⟨⟨v1, rfl, hown1⟩, hb1⟩
    clear hK
    obtain ⟨a1, c1, rfl, -⟩ := own_form hown1
    have hq : Below w1.heap.size w1 (w1.alloc (.cells #[.int .i64 f.1, .slice a1 f.2.length c1] 54)) := (Below.refl _ _).alloc (Nat.le_refl _) _
    have hI := idsLinks_any (w1.alloc (.cells #[.int .i64 f.1, .slice a1 f.2.length c1] 54)) _ f.2 ((ls_of_own linkC_length hown1).past hq) (by omega)
    have hB1 := hb1.trans (hq.mono hb1.size)
    clear hown1
    go_wp2_with fail
    refine hI.mono ?_
    rintro e w2 ⟨v2, rfl, hown2, hb2⟩
    have hB := hB1.trans (hb2.mono hB1.size)
    have hle := fm_le (fun p : Link => some p.2.1) f.2
    generalize f.2.filterMap (fun p : Link => some p.2.1) = L at hown2 hle
    obtain ⟨a2, c2, rfl, -⟩ := own_form hown2
    go_wp2
    go_ret2
    exact ⟨_, L, rfl, World.ownsRow.mono hown2 hB1.size, by omega, hB⟩

set_option maxRecDepth 20000 in
set_option maxHeartbeats 400000 in
theorem names_commit (w : World) (b l : Bs) (hbl : b = 75 :: l) (hb : b.length ≤ 140737488355328) :
    Calls Tryz.prog 12 #[.string (strB b)] w fun e w' => ∃ (v : Value) (L : List Bs), e = .returned (.tuple #[v, .int .i64 (if objB b then 0 else 81)]) ∧ w'.ownsRow w.heap.size 9 1 v L.length (L.flatMap idC) ∧ L.length ≤ 100 ∧ Below w.heap.size w w' := by
  have hsz := strB_size b
  have hex : (strB b).extract 0 1 = strB [75] := by rw [ext_strB, hbl]; rfl
  have htl := toL [75]
  have hl1 : 1 ≤ b.length := by rw [hbl]; simp
  have hmin : min (b.length : Int) 1 = 1 := by omega
  have q67 : (([75] : List UInt8) == [67]) = false := by simp; try (intro h; simp_all)
  have q70 : (([75] : List UInt8) == [70]) = false := by simp; try (intro h; simp_all)
  have q76 : (([75] : List UInt8) == [76]) = false := by simp; try (intro h; simp_all)
  have q66 : (([75] : List UInt8) == [66]) = false := by simp; try (intro h; simp_all)
  have q75 : (([75] : List UInt8) == [75]) = true := by simp
  have hK := takeCommit_any w b hb
  have hobj : objB b = (takenCommit b).isSome := by rw [hbl]; rfl
  clear hbl
  unfold commitSaid at hK
  cases ht : takenCommit b with
  | none =>
    rw [ht] at hK hobj
    rw [hobj]
    simp only [Option.isSome_none, Bool.false_eq_true, if_false] at hK ⊢
    clear hobj ht
    go_enter Tryz.func12, Tryz.ntmps12
    go_wp2_with fail
    refine hK.mono ?_
    rintro e w1 ⟨rfl, hb1⟩
    clear hK
    have hq : Below w1.heap.size w1 (w1.alloc (.cells #[.string ⟨#[]⟩, .slice none 0 0, .string ⟨#[]⟩, .int .i64 0, .string ⟨#[]⟩] 64)) := (Below.refl _ _).alloc (Nat.le_refl _) _
    have hB1 := hb1.trans (hq.mono hb1.size)
    have happ := fun t => app_ids (w1.alloc (.cells #[.string ⟨#[]⟩, .slice none 0 0, .string ⟨#[]⟩, .int .i64 0, .string ⟨#[]⟩] 64)) w.heap.size t [] (.slice none 0 0) [] hB1.size (World.ownsRow_nil _ _ _ _) (by simp)
    have hnn : (w1.alloc (.cells #[.string ⟨#[]⟩, .slice none 0 0, .string ⟨#[]⟩, .int .i64 0, .string ⟨#[]⟩] 64)).heap.size = w1.heap.size + 1 := by simp
    rw [hnn] at happ
    go_wp2_with (at_builtin; refine wpList_plain rfl fun K hK => ?_; obtain ⟨v', w', hrun, hown', hgr⟩ := happ _; obtain ⟨a2, c2, rfl, -⟩ := own_form hown'; refine wp_append_run (.tmp 68) (.tmp 70) 22 rfl rfl rfl hrun ?_; refine hK _ _ ?_)
    go_ret2
    have hB2 := (hB1.alloc hB1.size (.cells #[.string (strB [])] 9)).grown hgr (Nat.le_trans hB1.size (by simp)) (fun k hk => by injection hk with hk; have := hb1.size; omega)
    have hll : ([] :: [] : List Bs).length ≤ 100 := by simp
    first | exact ⟨_, ([] :: [] : List Bs), rfl, hown', hll, hB2⟩ | exact ⟨_, rfl, ([] :: [] : List Bs), hown', hll, hB2⟩
  | some f =>
    have hfl := (commitB_le ((takenCommit_iff b hb f).1 ht).1).2.1
    rw [ht] at hK hobj
    rw [hobj]
    simp only [Option.isSome_some, if_true] at hK ⊢
    clear hobj ht
    go_enter Tryz.func12, Tryz.ntmps12
    go_wp2_with fail
    refine hK.mono ?_
    rintro e w1 ⟨⟨v1, rfl, hown1⟩, hb1⟩
    clear hK
    obtain ⟨a1, c1, rfl, -⟩ := own_form hown1
    have hq : Below w1.heap.size w1 (w1.alloc (.cells #[.string (strB f.1), .slice a1 f.2.1.length c1, .string (strB f.2.2.1), .int .i64 f.2.2.2.1, .string (strB f.2.2.2.2)] 64)) := (Below.refl _ _).alloc (Nat.le_refl _) _
    have hB1 := hb1.trans (hq.mono hb1.size)
    have happ := fun t => app_ids (w1.alloc (.cells #[.string (strB f.1), .slice a1 f.2.1.length c1, .string (strB f.2.2.1), .int .i64 f.2.2.2.1, .string (strB f.2.2.2.2)] 64)) w.heap.size t f.1 (.slice a1 f.2.1.length c1) f.2.1 hB1.size (own_below hown1 hq) (by omega)
    have hnn : (w1.alloc (.cells #[.string (strB f.1), .slice a1 f.2.1.length c1, .string (strB f.2.2.1), .int .i64 f.2.2.2.1, .string (strB f.2.2.2.2)] 64)).heap.size = w1.heap.size + 1 := by simp
    rw [hnn] at happ
    go_wp2_with (at_builtin; refine wpList_plain rfl fun K hK => ?_; obtain ⟨v', w', hrun, hown', hgr⟩ := happ _; obtain ⟨a2, c2, rfl, -⟩ := own_form hown'; refine wp_append_run (.tmp 68) (.tmp 70) 22 rfl rfl rfl hrun ?_; refine hK _ _ ?_)
    go_ret2
    have hB2 := (hB1.alloc hB1.size (.cells #[.string (strB f.1)] 9)).grown hgr (Nat.le_trans hB1.size (by simp)) (fun k hk => by injection hk with hk; have := hb1.size; omega)
    have hll : (f.1 :: f.2.1 : List Bs).length ≤ 100 := by simp; omega
    first | exact ⟨_, (f.1 :: f.2.1 : List Bs), rfl, hown', hll, hB2⟩ | exact ⟨_, rfl, (f.1 :: f.2.1 : List Bs), hown', hll, hB2⟩

set_option maxRecDepth 20000 in
theorem names_any (w : World) (b : Bs) (hb : b.length ≤ 140737488355328) : Calls Tryz.prog 12 #[.string (strB b)] w fun e w' => ∃ (v : Value) (L : List Bs), e = .returned (.tuple #[v, .int .i64 (if objB b then 0 else 81)]) ∧ w'.ownsRow w.heap.size 9 1 v L.length (L.flatMap idC) ∧ L.length ≤ 100 ∧ Below w.heap.size w w' := by
  cases b with
  | nil =>
    have hsz : (strB []).size = 0 := rfl
    have hex : (strB []).extract 0 0 = strB [] := by rw [ext_strB]; rfl
    have htl := toL []
    have hmin : min (0 : Int) 1 = 0 := by decide
    rw [show objB [] = false from rfl]
    simp only [Bool.false_eq_true, if_false]
    generalize strB [] = s0 at *
    have q67 : (([] : List UInt8) == [67]) = false := rfl
    have q70 : (([] : List UInt8) == [70]) = false := rfl
    have q76 : (([] : List UInt8) == [76]) = false := rfl
    have q66 : (([] : List UInt8) == [66]) = false := rfl
    have q75 : (([] : List UInt8) == [75]) = false := rfl
    go_enter Tryz.func12, Tryz.ntmps12
    go_wp2
    go_ret2
    exact ⟨_, [], rfl, World.ownsRow_nil _ _ _ _, by simp, Below.refl _ _⟩
  | cons c l =>
    by_cases h1 : c = 67
    · subst h1; exact names_chunk w _ l rfl hb
    by_cases h2 : c = 70
    · subst h2; exact names_fan w _ l rfl hb
    by_cases h3 : c = 76
    · subst h3; exact names_leaf w _ l rfl hb
    by_cases h4 : c = 66
    · subst h4; exact names_branch w _ l rfl hb
    by_cases h5 : c = 75
    · subst h5; exact names_commit w _ l rfl hb
    have hsz := strB_size (c :: l)
    have hex : (strB (c :: l)).extract 0 1 = strB [c] := by rw [ext_strB]; rfl
    have htl := toL [c]
    have hl1 : 1 ≤ (c :: l).length := by simp
    have hmin : min ((c :: l).length : Int) 1 = 1 := by omega
    have q67 : (([c] : List UInt8) == [67]) = false := by simpa using h1
    have q70 : (([c] : List UInt8) == [70]) = false := by simpa using h2
    have q76 : (([c] : List UInt8) == [76]) = false := by simpa using h3
    have q66 : (([c] : List UInt8) == [66]) = false := by simpa using h4
    have q75 : (([c] : List UInt8) == [75]) = false := by simpa using h5
    have hobj : objB (c :: l) = false := by simp [objB, h1, h2, h3, h4, h5]
    rw [hobj]
    simp only [Bool.false_eq_true, if_false]
    clear hobj
    generalize (c :: l) = b at *
    go_enter Tryz.func12, Tryz.ntmps12
    go_wp2
    go_ret2
    exact ⟨_, [], rfl, World.ownsRow_nil _ _ _ _, by simp, Below.refl _ _⟩
set_option maxRecDepth 20000 in
theorem refs_any (w : World) (b : Bs) (hb : b.length ≤ 140737488355328) : Calls Tryz.prog 5 #[.string (strB b)] w fun e w' => (∃ v, e = .returned (.tuple #[v, .int .i64 (if objB b then 0 else 81)])) ∧ Below w.heap.size w w' := by
  have hN := names_any w b hb
  by_cases ho : objB b = true
  · rw [ho] at hN ⊢
    simp only [if_true] at hN ⊢
    go_enter Tryz.func5, Tryz.ntmps5
    go_wp2_with fail
    refine hN.mono ?_
    rintro e w1 ⟨v, L, rfl, hown, hL, hb1⟩
    have hE := eachOnce_any w1 v L (ls_of_own idC_length hown) (by omega)
    obtain ⟨a1, c1, rfl, -⟩ := own_form hown
    clear hN hown
    go_wp2_with fail
    refine hE.mono ?_
    rintro e w2 ⟨v2, rfl, hown2, hb2⟩
    obtain ⟨a2, c2, rfl, -⟩ := own_form hown2
    go_wp2
    go_ret2
    exact ⟨⟨_, rfl⟩, hb1.trans (hb2.mono hb1.size)⟩
  · have ho := Bool.eq_false_iff.2 ho
    rw [ho] at hN ⊢
    simp only [Bool.false_eq_true, if_false] at hN ⊢
    go_enter Tryz.func5, Tryz.ntmps5
    go_wp2_with fail
    refine hN.mono ?_
    rintro e w1 ⟨v, L, rfl, hown, hL, hb1⟩
    obtain ⟨a1, c1, rfl, -⟩ := own_form hown
    clear hN hown
    go_wp2
    go_ret2
    exact ⟨⟨_, rfl⟩, hb1⟩
end Go.Proofs.YtdbmngbinhemeabGreatDoor
