/-
  Names; entries' values read. Conditions: lengths within reach.
-/
import Derived.Test.YtdbmngbinhemeabGreatDoorROTop4
import Derived.Test.YtdbmngbinhemeabGreatDoorShelf
import Derived.Lib.Bytealg
namespace Go.Proofs.YtdbmngbinhemeabGreatDoor
open Go.RowKit

namespace Pt
def name (l : List UInt8) : Bool := decide (1 ≤ l.length ∧ l.length ≤ 64 ∧ l ≠ [46] ∧ l ≠ [46, 46] ∧ 47 ∉ l ∧ 0 ∉ l)
theorem indexByte_none {l : List UInt8} {c : UInt8} (h : c ∉ l) : Lib.indexByte l c = -1 := by
  induction l with
  | nil => rfl
  | cons b t ih =>
    simp only [List.mem_cons, not_or] at h
    unfold Lib.indexByte
    rw [ih h.2]
    simp [show ¬ b = c from fun e => h.1 e.symm]
theorem indexByte_app {p r : List UInt8} {c : UInt8} (h : c ∉ p) : Lib.indexByte (p ++ c :: r) c = p.length := by
  induction p with
  | nil => simp [Lib.indexByte]
  | cons b t ih =>
    simp only [List.mem_cons, not_or] at h
    show Lib.indexByte (b :: (t ++ c :: r)) c = _
    unfold Lib.indexByte
    rw [ih h.2]
    simp only [beq_iff_eq, show ¬ b = c from fun e => h.1 e.symm, if_false, List.length_cons]
    rw [if_neg (by omega)]
    omega
theorem indexByte_neg (l : List UInt8) (c : UInt8) : decide (Lib.indexByte l c < 0) = decide (c ∉ l) := by
  by_cases h : c ∈ l
  · obtain ⟨p, r, rfl, hp⟩ : ∃ p r, l = p ++ c :: r ∧ c ∉ p := by
      induction l with
      | nil => simp at h
      | cons b t ih =>
        by_cases e : b = c
        · exact ⟨[], t, by simp [e], by simp⟩
        · obtain ⟨p, r, rfl, hp⟩ := ih (by simpa [show ¬ c = b from fun x => e x.symm] using h)
          exact ⟨b :: p, r, rfl, by simp [hp]; exact fun x => e x.symm⟩
    rw [indexByte_app hp]
    simp
  · rw [indexByte_none h]
    simp [h]
end Pt
set_option maxRecDepth 20000 in
theorem isName_any (w : World) (l : List UInt8) :
    Calls Tryz.prog 122 #[.string (strB l)] w fun e w' => e = .returned (.bool (Pt.name l)) ∧ w' = w := by
  have hsz := strB_size l
  have hl := toL l
  by_cases h1 : l.length < 1
  · go_enter Tryz.func122, Tryz.ntmps122
    go_wp2
    go_ret
    exact ⟨ret_bool (by simp [Pt.name]; omega), rfl⟩
  by_cases h2 : 64 < l.length
  · go_enter Tryz.func122, Tryz.ntmps122
    go_wp2
    go_ret
    exact ⟨ret_bool (by simp [Pt.name]; omega), rfl⟩
  by_cases h3 : l = [46]
  · subst h3
    go_enter Tryz.func122, Tryz.ntmps122
    go_wp2
    go_ret
    exact ⟨ret_bool (by simp [Pt.name]), rfl⟩
  by_cases h4 : l = [46, 46]
  · subst h4
    go_enter Tryz.func122, Tryz.ntmps122
    go_wp2
    go_ret
    exact ⟨ret_bool (by simp [Pt.name]), rfl⟩
  have e1 : Lib.indexByte (strB l).data.toList (47 : Int).toNat.toUInt8 = Lib.indexByte l 47 := by rw [strB_list]; rfl
  have e2 : Lib.indexByte (strB l).data.toList (0 : Int).toNat.toUInt8 = Lib.indexByte l 0 := by rw [strB_list]; rfl
  have b3 : (l == [46]) = false := by simp [h3]
  have b4 : (l == [46, 46]) = false := by simp [h4]
  have n1 := Pt.indexByte_neg l 47
  have n2 := Pt.indexByte_neg l 0
  by_cases h5 : 47 ∈ l
  · have h6 : ¬ Lib.indexByte l 47 < 0 := by simpa [h5] using n1
    go_enter Tryz.func122, Tryz.ntmps122
    go_wp2_with fail
    refine (Tryz.strings_IndexByte (strB l) 47 w).mono ?_
    rintro e w' ⟨rfl, rfl⟩
    rw [e1]
    go_wp2
    go_ret
    exact ⟨ret_bool (by simp [Pt.name, h5]), rfl⟩
  · have h6 : Lib.indexByte l 47 < 0 := by simpa [h5] using n1
    go_enter Tryz.func122, Tryz.ntmps122
    go_wp2_with fail
    refine (Tryz.strings_IndexByte (strB l) 47 w).mono ?_
    rintro e w' ⟨rfl, rfl⟩
    rw [e1]
    go_wp2_with fail
    refine (Tryz.strings_IndexByte (strB l) 0 w').mono ?_
    rintro e w ⟨rfl, rfl⟩
    rw [e2]
    go_wp2
    go_ret
    refine ⟨ret_bool ?_, rfl⟩
    have q1 : 1 ≤ l.length := by omega
    have q2 : l.length ≤ 64 := by omega
    simp [Pt.name, h3, h4, h5, q1, q2]


def entryOk (name : Bs) (v : Val) : Bool := Pt.name name && valOk v
set_option maxRecDepth 20000 in
theorem entryRight_any (w : World) (name : Bs) (v : Val) :
    Calls Tryz.prog 105 #[.agg #[.string (strB name), .int .i64 v.1, .string (strB v.2.1), .int .i64 v.2.2]] w fun e w' => e = .returned (.bool (entryOk name v)) ∧ Below w.heap.size w w' := by
  have hb : Below w.heap.size w (w.alloc (.cells #[.string (strB name), .int .i64 v.1, .string (strB v.2.1), .int .i64 v.2.2] 60)) := (Below.refl _ _).alloc (Nat.le_refl _) _
  have hn := fun W => isName_any W name
  have hi := fun W => isId_any W v.2.1
  have hs := fun W => sizeRight_any W v.1 v.2.2
  unfold entryOk valOk
  generalize Pt.name name = q0 at *
  generalize isIdB v.2.1 = q1 at *
  generalize sizeOk v.1 v.2.2 = q2 at *
  cases q0
  · go_enter Tryz.func105, Tryz.ntmps105
    go_wp2_with fail
    refine (hn _).mono ?_
    rintro e w1 ⟨rfl, rfl⟩
    go_wp2
    go_ret
    exact ⟨ret_bool (by simp), hb⟩
  cases q1
  · go_enter Tryz.func105, Tryz.ntmps105
    go_wp2_with fail
    refine (hn _).mono ?_
    rintro e w1 ⟨rfl, rfl⟩
    go_wp2_with fail
    refine (hi _).mono ?_
    rintro e w1 ⟨rfl, rfl⟩
    go_wp2
    go_ret
    exact ⟨ret_bool (by simp), hb⟩
  go_enter Tryz.func105, Tryz.ntmps105
  go_wp2_with fail
  refine (hn _).mono ?_
  rintro e w1 ⟨rfl, rfl⟩
  go_wp2_with fail
  refine (hi _).mono ?_
  rintro e w1 ⟨rfl, rfl⟩
  go_wp2_with fail
  refine (hs _).mono ?_
  rintro e w1 ⟨rfl, rfl⟩
  go_wp2
  go_ret
  exact ⟨ret_bool (by simp), hb⟩
theorem Tryz.infoEntry : (Tryz.prog.info? 60).map (·.size) = some 4 := by kernel_rfl
theorem heap_set4 {w : World} {g : Nat} {v0 v1 v2 v3 u0 u1 u2 u3 : Value} {t : TypeId} (h : w.heap[g]? = some (.cells #[v0, v1, v2, v3] t)) : ((((w.setCell ⟨g, 0, none⟩ u0).setCell ⟨g, 1, none⟩ u1).setCell ⟨g, 2, none⟩ u2).setCell ⟨g, 3, none⟩ u3).heap[g]? = some (.cells #[u0, u1, u2, u3] t) := by
  rw [heap_setCell _ _ _ _ _ _ _ (heap_setCell _ _ _ _ _ _ _ (heap_setCell _ _ _ _ _ _ _ (heap_setCell _ _ _ _ _ _ _ h)))]
  simp
/-- What a value says, under a name. -/
def takenEntry (name val : Bs) : Option Val := if (gVal val (some 0)).2 = some val.length ∧ entryOk name (gVal val (some 0)).1 = true then some (gVal val (some 0)).1 else none
/-- What TakeEntry answers. -/
def entrySaid (name val : Bs) (e : Ending) : Prop :=
  match takenEntry name val with
  | some v => e = .returned (.tuple #[.agg #[.string (strB name), .int .i64 v.1, .string (strB v.2.1), .int .i64 v.2.2], .int .i64 0])
  | none => e = .returned (.tuple #[.agg #[.string ⟨#[]⟩, .int .i64 0, .string ⟨#[]⟩, .int .i64 0], .int .i64 81])
theorem rc {w : World} {k i : Nat} {cs : Array Value} {t : TypeId} {fr : Nat × Nat} {u : Value} (h : w.heap[k]? = some (Obj.cells cs t fr)) (hu : cs[i]? = some u) : w.cell? ⟨k, i, none⟩ = some u := by rw [cell_of_row w k i _ _ _ h, hu]
theorem begin_nil (b : Bs) : begin [] b = (b, some 0) := by
  unfold begin
  rw [if_pos (by simp [List.isPrefixOf])]
  simp

set_option maxRecDepth 20000 in
set_option maxHeartbeats 3200000 in
theorem takeEntry_any (w : World) (name val : Bs) (hn : name.length ≤ 140737488355328) (hv : val.length ≤ 140737488355328) :
    Calls Tryz.prog 75 #[.string (strB name), .string (strB val)] w fun e w' => entrySaid name val e ∧ Below w.heap.size w w' := by
  have hbE : Below w.heap.size w (w.alloc (.cells #[.string ⟨#[]⟩, .int .i64 0, .string ⟨#[]⟩, .int .i64 0] 60)) := (Below.refl _ _).alloc (Nat.le_refl _) _
  have hx0 := heap_last w (.cells #[.string ⟨#[]⟩, .int .i64 0, .string ⟨#[]⟩, .int .i64 0] 60) _ rfl
  have hn0 : (w.alloc (.cells #[.string ⟨#[]⟩, .int .i64 0, .string ⟨#[]⟩, .int .i64 0] 60)).heap.size = w.heap.size + 1 := by simp
  generalize hw0 : w.alloc (.cells #[.string ⟨#[]⟩, .int .i64 0, .string ⟨#[]⟩, .int .i64 0] 60) = w0 at *
  have hrd := read_any w0 val [] hv (by simp)
  rw [begin_nil] at hrd
  simp only at hrd
  unfold entrySaid takenEntry
  obtain ⟨kind, s1, ht1⟩ : ∃ t s1, rC val 2 (some 0) = (t, s1) := ⟨_, _, rfl⟩
  obtain ⟨⟨id, size⟩, s2, ht2⟩ : ∃ t s2, rPart val s1 = (t, s2) := ⟨_, _, rfl⟩
  have hg : gVal val (some 0) = ((kind, (id, size)), s2) := by
    unfold gVal
    simp only [rP, ht1, ht2]
  rw [hg]
  simp only
  have H1 := hide ht1
  have H2 := hide ht2
  clear hg ht1 ht2
  have hcl := fun W => copyStr_any W name hn
  by_cases h1 : s2 = some val.length
  · have hdec := decide_eq_true h1
    by_cases h2 : entryOk name (kind, (id, size)) = true
    · rw [if_pos ⟨h1, h2⟩]
      simp only
      go_enter Tryz.func75, Tryz.ntmps75
      go_wp2_with fail
      try rw [hw0]
      refine hrd.mono ?_
      rintro e w1 ⟨g, rfl, R1, hg1, hb1⟩
      have x1 := (hb1.block _ (by omega)).trans hx0
      have B1 := hbE.trans (hb1.mono hbE.size)
      have hT := takeSmall_any w1 g val (some 0) 2 R1 hv
      unfold Took at hT
      rw [H1.out] at hT
      simp only at hT
      clear hrd hb1 R1
      go_wp2_with fail
      refine hT.mono ?_
      rintro e w2 ⟨rfl, R2, gb2⟩
      have x2 := (gb2.block _ (lt_of_heap x1) (fun e => by injection e with e; omega)).trans x1
      have B2 := B1.grown gb2 B1.size (fun k hk => by injection hk with hk; omega)
      have hT2 := takePart_any w2 g val s1 R2 hv
      unfold Took at hT2
      rw [H2.out] at hT2
      simp only at hT2
      clear hT gb2 R2 x1 B1
      go_wp2_with fail
      refine hT2.mono ?_
      rintro e w3 ⟨rfl, R3, gb3⟩
      have x3 := (gb3.block _ (lt_of_heap x2) (fun e => by injection e with e; omega)).trans x2
      have B3 := B2.grown gb3 B2.size (fun k hk => by injection hk with hk; omega)
      have hq4 : Below w3.heap.size w3 (w3.alloc (.cells #[.string (strB id), .int .i64 size] 51)).drew := ((Below.refl _ _).alloc (Nat.le_refl _) _).drew
      have p4 : (w3.alloc (.cells #[.string (strB id), .int .i64 size] 51)).drew.heap[w3.heap.size]? = some (.cells #[.string (strB id), .int .i64 size] 51) := heap_last w3 (.cells #[.string (strB id), .int .i64 size] 51) _ rfl
      have R4 := R3.keep hq4
      have x4 := (hq4.block _ (lt_of_heap x3)).trans x3
      have B4 := B3.trans (hq4.mono B3.size)
      have s4 := lt_of_heap p4
      have g4 := R3.lt
      clear hT2 gb3 R3 x2 B2 x3 B3 hq4
      go_wp2_with fail
      generalize hpb : w3.heap.size = pb at *
      have c0 := rc (i := 0) p4 rfl
      have c1 := rc (i := 1) p4 rfl
      refine wp_region_held_drew (S := fun W => W.cell? ⟨pb, 0, none⟩ = some (.string (strB id)) ∧ W.cell? ⟨pb, 1, none⟩ = some (.int .i64 size)) (by kernel_rfl) (⟨c0, c1⟩) (fun hHeld => ?_)
      refine takeH (i := 0) (v := ?_) rfl (by kernel_rfl) (by kernel_rfl) (by kernel_rfl) (fun _ _ _ h => h) rfl ?_ hHeld ?_
      rotate_left
      · intro w hS; (try dsimp only at hS); obtain ⟨hS0, hS1⟩ := hS; go_simp; first | done | (with_reducible rfl)
      try simp only [Act.put, List.setIfInBounds_toArray, List.set_cons_zero, List.set_cons_succ]
      refine takeH (i := 2) (v := ?_) rfl (by kernel_rfl) (by kernel_rfl) (by kernel_rfl) (fun _ _ _ h => h) rfl ?_ hHeld ?_
      rotate_left
      · intro w hS; (try dsimp only at hS); obtain ⟨hS0, hS1⟩ := hS; go_simp; first | done | (with_reducible rfl)
      try simp only [Act.put, List.setIfInBounds_toArray, List.set_cons_zero, List.set_cons_succ]
      refine takeH (i := 3) (v := ?_) rfl (by kernel_rfl) (by kernel_rfl) (by kernel_rfl) (fun _ _ _ h => h) rfl ?_ hHeld ?_
      rotate_left
      · intro w hS; (try dsimp only at hS); obtain ⟨hS0, hS1⟩ := hS; go_simp; first | done | (with_reducible rfl)
      try simp only [Act.put, List.setIfInBounds_toArray, List.set_cons_zero, List.set_cons_succ]
      refine takeH (i := 4) (v := ?_) rfl (by kernel_rfl) (by kernel_rfl) (by kernel_rfl) (fun _ _ _ h => h) rfl ?_ hHeld ?_
      rotate_left
      · intro w hS; (try dsimp only at hS); obtain ⟨hS0, hS1⟩ := hS; go_simp; first | done | (with_reducible rfl)
      try simp only [Act.put, List.setIfInBounds_toArray, List.set_cons_zero, List.set_cons_succ]
      refine takeH (i := 5) (v := ?_) rfl (by kernel_rfl) (by kernel_rfl) (by kernel_rfl) (fun _ _ _ h => h) rfl ?_ hHeld ?_
      rotate_left
      · intro w hS; (try dsimp only at hS); obtain ⟨hS0, hS1⟩ := hS; go_simp; first | done | (with_reducible rfl)
      try simp only [Act.put, List.setIfInBounds_toArray, List.set_cons_zero, List.set_cons_succ]
      refine takeH (i := 6) (v := ?_) rfl (by kernel_rfl) (by kernel_rfl) (by kernel_rfl) (fun _ _ _ h => h) rfl ?_ hHeld ?_
      rotate_left
      · intro w hS; (try dsimp only at hS); obtain ⟨hS0, hS1⟩ := hS; go_simp; first | done | (with_reducible rfl)
      try simp only [Act.put, List.setIfInBounds_toArray, List.set_cons_zero, List.set_cons_succ]
      generalize hw4 : (w3.alloc (.cells #[.string (strB id), .int .i64 size] 51)).drew = w4 at *
      refine twoH (i := 1) (j := 8) rfl rfl (by kernel_rfl) rfl rfl (fun K hK => ?_) (fun K hK => ?_)
      · skip
        go_simp
        refine (hcl w4).mono ?_
        rintro e w5 ⟨rfl, hb5⟩
        have p5 := (hb5.block _ (lt_of_heap p4)).trans p4
        have R5 := R4.keep hb5
        have x5 := (hb5.block _ (lt_of_heap x4)).trans x4
        have B5 := B4.trans (hb5.mono B4.size)
        have s5 := lt_of_heap p5
        have g5 := R5.lt
        refine hK.out _ _ (⟨rc (i := 0) p5 rfl, rc (i := 1) p5 rfl⟩) (fun hHeld => ?_)
        clear hK K
        try simp only [Act.put, List.setIfInBounds_toArray, List.set_cons_zero, List.set_cons_succ]
        refine takeH (i := 7) (v := ?_) rfl (by kernel_rfl) (by kernel_rfl) (by kernel_rfl) (fun _ _ _ h => h) rfl ?_ hHeld ?_
        rotate_left
        · intro w hS; (try dsimp only at hS); obtain ⟨hS0, hS1⟩ := hS; go_simp; first | done | (with_reducible rfl)
        try simp only [Act.put, List.setIfInBounds_toArray, List.set_cons_zero, List.set_cons_succ]
        refine onlyH (i := 8) rfl (by kernel_rfl) rfl (fun K hK => ?_)
        go_simp
        have hqA : Below w5.heap.size w5 (w5.alloc (.cells #[.string ⟨#[]⟩, .int .i64 0, .string ⟨#[]⟩, .int .i64 0] 60)) := (Below.refl _ _).alloc (Nat.le_refl _) _
        have p6 := (hqA.block _ (lt_of_heap p5)).trans p5
        have R6 := R5.keep hqA
        have x6 := (hqA.block _ (lt_of_heap x5)).trans x5
        have B6 := B5.trans (hqA.mono B5.size)
        have hE := heap_last w5 (.cells #[.string ⟨#[]⟩, .int .i64 0, .string ⟨#[]⟩, .int .i64 0] 60) _ rfl
        refine hK.out _ _ (⟨rc (i := 0) p6 rfl, rc (i := 1) p6 rfl⟩) (fun hHeld => ?_)
        clear hK K
        try simp only [Act.put, List.setIfInBounds_toArray, List.set_cons_zero, List.set_cons_succ]
        have d0 := rc (i := 0) hE rfl
        have d1 := rc (i := 1) hE rfl
        have d2 := rc (i := 2) hE rfl
        have d3 := rc (i := 3) hE rfl
        have e0 := frozen0 (j := 0) hE
        have e1 := frozen0 (j := 1) hE
        have e2 := frozen0 (j := 2) hE
        have e3 := frozen0 (j := 3) hE
        clear hb5 hqA
        have hqV : Below w5.heap.size w5 (w5.alloc (.cells #[.string (strB name), .int .i64 kind, .string (strB id), .int .i64 size] 60)) := (Below.refl _ _).alloc (Nat.le_refl _) _
        have zE := heap_last w5 (.cells #[.string (strB name), .int .i64 kind, .string (strB id), .int .i64 size] 60) _ rfl
        have RE := R5.keep hqV
        have xE := (hqV.block _ (lt_of_heap x5)).trans x5
        have BE := B5.trans (hqV.mono B5.size)
        have pE := (hqV.block _ (lt_of_heap p5)).trans p5
        clear hE x6 R6 B6 p6 R5 x5 B5 p5 hqV
        refine onlyH (i := 9) rfl (by kernel_rfl) rfl (fun K hK => ?_)
        go_simp
        refine hK.out _ _ (⟨rc (i := 0) pE rfl, rc (i := 1) pE rfl⟩) (fun hHeld => ?_)
        clear hK K
        try simp only [Act.put, List.setIfInBounds_toArray, List.set_cons_zero, List.set_cons_succ]
        refine wpAnyH_done (by kernel_rfl) ?_ _
        clear hHeld
        generalize hwE : (w5.alloc (.cells #[.string (strB name), .int .i64 kind, .string (strB id), .int .i64 size] 60)) = wE at *
        have k0 := rc (i := 0) zE rfl
        have k1 := rc (i := 1) zE rfl
        have k2 := rc (i := 2) zE rfl
        have k3 := rc (i := 3) zE rfl
        have hW := wasAll_any wE g val s2 RE
        rw [hdec] at hW
        go_wp2_with fail
        refine hW.mono ?_
        rintro e w6 ⟨rfl, hb6⟩
        have z6 := (hb6.block _ (lt_of_heap zE)).trans zE
        have x6 := (hb6.block _ (lt_of_heap xE)).trans xE
        have B6 := BE.trans (hb6.mono BE.size)
        have l0 := rc (i := 0) z6 rfl
        have l1 := rc (i := 1) z6 rfl
        have l2 := rc (i := 2) z6 rfl
        have l3 := rc (i := 3) z6 rfl
        clear hW hb6 zE xE k0 k1 k2 k3 RE hwE BE
        have hr := entryRight_any w6 name (kind, (id, size))
        rw [h2] at hr
        simp only at hr
        go_wp2_with fail
        refine hr.mono ?_
        rintro e w7 ⟨rfl, hb7⟩
        have z7 := (hb7.block _ (lt_of_heap z6)).trans z6
        have x7 := (hb7.block _ (lt_of_heap x6)).trans x6
        have B7 := B6.trans (hb7.mono B6.size)
        have m0 := rc (i := 0) z7 rfl
        have m1 := rc (i := 1) z7 rfl
        have m2 := rc (i := 2) z7 rfl
        have m3 := rc (i := 3) z7 rfl
        clear hr hb7 z6 x6 B6 l0 l1 l2 l3
        have n0 := rc (i := 0) x7 rfl
        have f0 := frozen0 (j := 0) x7
        have n1 := rc (i := 1) x7 rfl
        have f1 := frozen0 (j := 1) x7
        have n2 := rc (i := 2) x7 rfl
        have f2 := frozen0 (j := 2) x7
        have n3 := rc (i := 3) x7 rfl
        have f3 := frozen0 (j := 3) x7
        go_wp2
        exact bodyPost_ret (results_cell_tmp_row rfl _ _ _ _ _ _ _ rfl (heap_set4 x7) Tryz.underlying60 rfl Tryz.infoEntry) rfl ⟨rfl, ((((B7.setCell (p := ⟨w.heap.size, 0, none⟩) (by simp) _).setCell (p := ⟨w.heap.size, 1, none⟩) (by simp) _).setCell (p := ⟨w.heap.size, 2, none⟩) (by simp) _).setCell (p := ⟨w.heap.size, 3, none⟩) (by simp) _)⟩
      · skip
        go_simp
        have hqA : Below w4.heap.size w4 (w4.alloc (.cells #[.string ⟨#[]⟩, .int .i64 0, .string ⟨#[]⟩, .int .i64 0] 60)) := (Below.refl _ _).alloc (Nat.le_refl _) _
        have p5 := (hqA.block _ (lt_of_heap p4)).trans p4
        have R5 := R4.keep hqA
        have x5 := (hqA.block _ (lt_of_heap x4)).trans x4
        have B5 := B4.trans (hqA.mono B4.size)
        have hE5 := heap_last w4 (.cells #[.string ⟨#[]⟩, .int .i64 0, .string ⟨#[]⟩, .int .i64 0] 60) _ rfl
        refine hK.out _ _ (⟨rc (i := 0) p5 rfl, rc (i := 1) p5 rfl⟩) (fun hHeld => ?_)
        clear hK K
        try simp only [Act.put, List.setIfInBounds_toArray, List.set_cons_zero, List.set_cons_succ]
        refine onlyH (i := 1) rfl (by kernel_rfl) rfl (fun K hK => ?_)
        go_simp
        refine (hcl _).mono ?_
        rintro e w5 ⟨rfl, hb5⟩
        have p6 := (hb5.block _ (lt_of_heap p5)).trans p5
        have R6 := R5.keep hb5
        have x6 := (hb5.block _ (lt_of_heap x5)).trans x5
        have B6 := B5.trans (hb5.mono B5.size)
        have hE := (hb5.block _ (lt_of_heap hE5)).trans hE5
        have s5 : pb < w4.heap.size := s4
        have g5 : g < w4.heap.size := R4.lt
        have sE := lt_of_heap hE
        refine hK.out _ _ (⟨rc (i := 0) p6 rfl, rc (i := 1) p6 rfl⟩) (fun hHeld => ?_)
        clear hK K
        try simp only [Act.put, List.setIfInBounds_toArray, List.set_cons_zero, List.set_cons_succ]
        refine takeH (i := 7) (v := ?_) rfl (by kernel_rfl) (by kernel_rfl) (by kernel_rfl) (fun _ _ _ h => h) rfl ?_ hHeld ?_
        rotate_left
        · intro w hS; (try dsimp only at hS); obtain ⟨hS0, hS1⟩ := hS; go_simp; first | done | (with_reducible rfl)
        try simp only [Act.put, List.setIfInBounds_toArray, List.set_cons_zero, List.set_cons_succ]
        have d0 := rc (i := 0) hE rfl
        have d1 := rc (i := 1) hE rfl
        have d2 := rc (i := 2) hE rfl
        have d3 := rc (i := 3) hE rfl
        have e0 := frozen0 (j := 0) hE
        have e1 := frozen0 (j := 1) hE
        have e2 := frozen0 (j := 2) hE
        have e3 := frozen0 (j := 3) hE
        clear hb5 hqA R5 x5 B5 p5 hE5
        have zE : ((((w5.setCell ⟨w4.heap.size, 0, none⟩ (.string (strB name))).setCell ⟨w4.heap.size, 1, none⟩ (.int .i64 kind)).setCell ⟨w4.heap.size, 2, none⟩ (.string (strB id))).setCell ⟨w4.heap.size, 3, none⟩ (.int .i64 size)).heap[w4.heap.size]? = some (.cells #[.string (strB name), .int .i64 kind, .string (strB id), .int .i64 size] 60) := heap_set4 hE
        have RE : Rd w0.heap.size ((((w5.setCell ⟨w4.heap.size, 0, none⟩ (.string (strB name))).setCell ⟨w4.heap.size, 1, none⟩ (.int .i64 kind)).setCell ⟨w4.heap.size, 2, none⟩ (.string (strB id))).setCell ⟨w4.heap.size, 3, none⟩ (.int .i64 size)) g val s2 := ((((R6.set (.inl (by omega))).set (.inl (by omega))).set (.inl (by omega))).set (.inl (by omega)))
        have BE : Below w.heap.size w ((((w5.setCell ⟨w4.heap.size, 0, none⟩ (.string (strB name))).setCell ⟨w4.heap.size, 1, none⟩ (.int .i64 kind)).setCell ⟨w4.heap.size, 2, none⟩ (.string (strB id))).setCell ⟨w4.heap.size, 3, none⟩ (.int .i64 size)) := ((((B6.setCell (p := ⟨w4.heap.size, 0, none⟩) (by simp; omega) _).setCell (p := ⟨w4.heap.size, 1, none⟩) (by simp; omega) _).setCell (p := ⟨w4.heap.size, 2, none⟩) (by simp; omega) _).setCell (p := ⟨w4.heap.size, 3, none⟩) (by simp; omega) _)
        have xE : ((((w5.setCell ⟨w4.heap.size, 0, none⟩ (.string (strB name))).setCell ⟨w4.heap.size, 1, none⟩ (.int .i64 kind)).setCell ⟨w4.heap.size, 2, none⟩ (.string (strB id))).setCell ⟨w4.heap.size, 3, none⟩ (.int .i64 size)).heap[w.heap.size]? = some (.cells #[.string ⟨#[]⟩, .int .i64 0, .string ⟨#[]⟩, .int .i64 0] 60) := ((gb_set ((((w5.setCell ⟨w4.heap.size, 0, none⟩ (.string (strB name))).setCell ⟨w4.heap.size, 1, none⟩ (.int .i64 kind)).setCell ⟨w4.heap.size, 2, none⟩ (.string (strB id)))) (w4.heap.size) 3 (.int .i64 size)).block _ (by have := lt_of_heap x6; simp [World.setCell]; try omega) (fun e => by injection e with e; omega)).trans (((gb_set (((w5.setCell ⟨w4.heap.size, 0, none⟩ (.string (strB name))).setCell ⟨w4.heap.size, 1, none⟩ (.int .i64 kind))) (w4.heap.size) 2 (.string (strB id))).block _ (by have := lt_of_heap x6; simp [World.setCell]; try omega) (fun e => by injection e with e; omega)).trans (((gb_set ((w5.setCell ⟨w4.heap.size, 0, none⟩ (.string (strB name)))) (w4.heap.size) 1 (.int .i64 kind)).block _ (by have := lt_of_heap x6; simp [World.setCell]; try omega) (fun e => by injection e with e; omega)).trans (((gb_set (w5) (w4.heap.size) 0 (.string (strB name))).block _ (by have := lt_of_heap x6; simp; try omega) (fun e => by injection e with e; omega)).trans (x6))))
        have pE : ((((w5.setCell ⟨w4.heap.size, 0, none⟩ (.string (strB name))).setCell ⟨w4.heap.size, 1, none⟩ (.int .i64 kind)).setCell ⟨w4.heap.size, 2, none⟩ (.string (strB id))).setCell ⟨w4.heap.size, 3, none⟩ (.int .i64 size)).heap[pb]? = some (.cells #[.string (strB id), .int .i64 size] 51) := ((gb_set ((((w5.setCell ⟨w4.heap.size, 0, none⟩ (.string (strB name))).setCell ⟨w4.heap.size, 1, none⟩ (.int .i64 kind)).setCell ⟨w4.heap.size, 2, none⟩ (.string (strB id)))) (w4.heap.size) 3 (.int .i64 size)).block _ (by have := lt_of_heap p6; simp [World.setCell]; try omega) (fun e => by injection e with e; omega)).trans (((gb_set (((w5.setCell ⟨w4.heap.size, 0, none⟩ (.string (strB name))).setCell ⟨w4.heap.size, 1, none⟩ (.int .i64 kind))) (w4.heap.size) 2 (.string (strB id))).block _ (by have := lt_of_heap p6; simp [World.setCell]; try omega) (fun e => by injection e with e; omega)).trans (((gb_set ((w5.setCell ⟨w4.heap.size, 0, none⟩ (.string (strB name)))) (w4.heap.size) 1 (.int .i64 kind)).block _ (by have := lt_of_heap p6; simp [World.setCell]; try omega) (fun e => by injection e with e; omega)).trans (((gb_set (w5) (w4.heap.size) 0 (.string (strB name))).block _ (by have := lt_of_heap p6; simp; try omega) (fun e => by injection e with e; omega)).trans (p6))))
        clear hE x6 R6 B6 p6
        refine onlyH (i := 9) rfl (by kernel_rfl) rfl (fun K hK => ?_)
        go_simp
        refine hK.out _ _ (⟨rc (i := 0) pE rfl, rc (i := 1) pE rfl⟩) (fun hHeld => ?_)
        clear hK K
        try simp only [Act.put, List.setIfInBounds_toArray, List.set_cons_zero, List.set_cons_succ]
        refine wpAnyH_done (by kernel_rfl) ?_ _
        clear hHeld
        generalize hwE : ((((w5.setCell ⟨w4.heap.size, 0, none⟩ (.string (strB name))).setCell ⟨w4.heap.size, 1, none⟩ (.int .i64 kind)).setCell ⟨w4.heap.size, 2, none⟩ (.string (strB id))).setCell ⟨w4.heap.size, 3, none⟩ (.int .i64 size)) = wE at *
        have k0 := rc (i := 0) zE rfl
        have k1 := rc (i := 1) zE rfl
        have k2 := rc (i := 2) zE rfl
        have k3 := rc (i := 3) zE rfl
        have hW := wasAll_any wE g val s2 RE
        rw [hdec] at hW
        go_wp2_with fail
        refine hW.mono ?_
        rintro e w6 ⟨rfl, hb6⟩
        have z6 := (hb6.block _ (lt_of_heap zE)).trans zE
        have x6 := (hb6.block _ (lt_of_heap xE)).trans xE
        have B6 := BE.trans (hb6.mono BE.size)
        have l0 := rc (i := 0) z6 rfl
        have l1 := rc (i := 1) z6 rfl
        have l2 := rc (i := 2) z6 rfl
        have l3 := rc (i := 3) z6 rfl
        clear hW hb6 zE xE k0 k1 k2 k3 RE hwE BE
        have hr := entryRight_any w6 name (kind, (id, size))
        rw [h2] at hr
        simp only at hr
        go_wp2_with fail
        refine hr.mono ?_
        rintro e w7 ⟨rfl, hb7⟩
        have z7 := (hb7.block _ (lt_of_heap z6)).trans z6
        have x7 := (hb7.block _ (lt_of_heap x6)).trans x6
        have B7 := B6.trans (hb7.mono B6.size)
        have m0 := rc (i := 0) z7 rfl
        have m1 := rc (i := 1) z7 rfl
        have m2 := rc (i := 2) z7 rfl
        have m3 := rc (i := 3) z7 rfl
        clear hr hb7 z6 x6 B6 l0 l1 l2 l3
        have n0 := rc (i := 0) x7 rfl
        have f0 := frozen0 (j := 0) x7
        have n1 := rc (i := 1) x7 rfl
        have f1 := frozen0 (j := 1) x7
        have n2 := rc (i := 2) x7 rfl
        have f2 := frozen0 (j := 2) x7
        have n3 := rc (i := 3) x7 rfl
        have f3 := frozen0 (j := 3) x7
        go_wp2
        exact bodyPost_ret (results_cell_tmp_row rfl _ _ _ _ _ _ _ rfl (heap_set4 x7) Tryz.underlying60 rfl Tryz.infoEntry) rfl ⟨rfl, ((((B7.setCell (p := ⟨w.heap.size, 0, none⟩) (by simp) _).setCell (p := ⟨w.heap.size, 1, none⟩) (by simp) _).setCell (p := ⟨w.heap.size, 2, none⟩) (by simp) _).setCell (p := ⟨w.heap.size, 3, none⟩) (by simp) _)⟩
    · have h2 := Bool.eq_false_iff.2 h2
      rw [if_neg (by rw [h2]; simp)]
      simp only
      go_enter Tryz.func75, Tryz.ntmps75
      go_wp2_with fail
      try rw [hw0]
      refine hrd.mono ?_
      rintro e w1 ⟨g, rfl, R1, hg1, hb1⟩
      have x1 := (hb1.block _ (by omega)).trans hx0
      have B1 := hbE.trans (hb1.mono hbE.size)
      have hT := takeSmall_any w1 g val (some 0) 2 R1 hv
      unfold Took at hT
      rw [H1.out] at hT
      simp only at hT
      clear hrd hb1 R1
      go_wp2_with fail
      refine hT.mono ?_
      rintro e w2 ⟨rfl, R2, gb2⟩
      have x2 := (gb2.block _ (lt_of_heap x1) (fun e => by injection e with e; omega)).trans x1
      have B2 := B1.grown gb2 B1.size (fun k hk => by injection hk with hk; omega)
      have hT2 := takePart_any w2 g val s1 R2 hv
      unfold Took at hT2
      rw [H2.out] at hT2
      simp only at hT2
      clear hT gb2 R2 x1 B1
      go_wp2_with fail
      refine hT2.mono ?_
      rintro e w3 ⟨rfl, R3, gb3⟩
      have x3 := (gb3.block _ (lt_of_heap x2) (fun e => by injection e with e; omega)).trans x2
      have B3 := B2.grown gb3 B2.size (fun k hk => by injection hk with hk; omega)
      have hq4 : Below w3.heap.size w3 (w3.alloc (.cells #[.string (strB id), .int .i64 size] 51)).drew := ((Below.refl _ _).alloc (Nat.le_refl _) _).drew
      have p4 : (w3.alloc (.cells #[.string (strB id), .int .i64 size] 51)).drew.heap[w3.heap.size]? = some (.cells #[.string (strB id), .int .i64 size] 51) := heap_last w3 (.cells #[.string (strB id), .int .i64 size] 51) _ rfl
      have R4 := R3.keep hq4
      have x4 := (hq4.block _ (lt_of_heap x3)).trans x3
      have B4 := B3.trans (hq4.mono B3.size)
      have s4 := lt_of_heap p4
      have g4 := R3.lt
      clear hT2 gb3 R3 x2 B2 x3 B3 hq4
      go_wp2_with fail
      generalize hpb : w3.heap.size = pb at *
      have c0 := rc (i := 0) p4 rfl
      have c1 := rc (i := 1) p4 rfl
      refine wp_region_held_drew (S := fun W => W.cell? ⟨pb, 0, none⟩ = some (.string (strB id)) ∧ W.cell? ⟨pb, 1, none⟩ = some (.int .i64 size)) (by kernel_rfl) (⟨c0, c1⟩) (fun hHeld => ?_)
      refine takeH (i := 0) (v := ?_) rfl (by kernel_rfl) (by kernel_rfl) (by kernel_rfl) (fun _ _ _ h => h) rfl ?_ hHeld ?_
      rotate_left
      · intro w hS; (try dsimp only at hS); obtain ⟨hS0, hS1⟩ := hS; go_simp; first | done | (with_reducible rfl)
      try simp only [Act.put, List.setIfInBounds_toArray, List.set_cons_zero, List.set_cons_succ]
      refine takeH (i := 2) (v := ?_) rfl (by kernel_rfl) (by kernel_rfl) (by kernel_rfl) (fun _ _ _ h => h) rfl ?_ hHeld ?_
      rotate_left
      · intro w hS; (try dsimp only at hS); obtain ⟨hS0, hS1⟩ := hS; go_simp; first | done | (with_reducible rfl)
      try simp only [Act.put, List.setIfInBounds_toArray, List.set_cons_zero, List.set_cons_succ]
      refine takeH (i := 3) (v := ?_) rfl (by kernel_rfl) (by kernel_rfl) (by kernel_rfl) (fun _ _ _ h => h) rfl ?_ hHeld ?_
      rotate_left
      · intro w hS; (try dsimp only at hS); obtain ⟨hS0, hS1⟩ := hS; go_simp; first | done | (with_reducible rfl)
      try simp only [Act.put, List.setIfInBounds_toArray, List.set_cons_zero, List.set_cons_succ]
      refine takeH (i := 4) (v := ?_) rfl (by kernel_rfl) (by kernel_rfl) (by kernel_rfl) (fun _ _ _ h => h) rfl ?_ hHeld ?_
      rotate_left
      · intro w hS; (try dsimp only at hS); obtain ⟨hS0, hS1⟩ := hS; go_simp; first | done | (with_reducible rfl)
      try simp only [Act.put, List.setIfInBounds_toArray, List.set_cons_zero, List.set_cons_succ]
      refine takeH (i := 5) (v := ?_) rfl (by kernel_rfl) (by kernel_rfl) (by kernel_rfl) (fun _ _ _ h => h) rfl ?_ hHeld ?_
      rotate_left
      · intro w hS; (try dsimp only at hS); obtain ⟨hS0, hS1⟩ := hS; go_simp; first | done | (with_reducible rfl)
      try simp only [Act.put, List.setIfInBounds_toArray, List.set_cons_zero, List.set_cons_succ]
      refine takeH (i := 6) (v := ?_) rfl (by kernel_rfl) (by kernel_rfl) (by kernel_rfl) (fun _ _ _ h => h) rfl ?_ hHeld ?_
      rotate_left
      · intro w hS; (try dsimp only at hS); obtain ⟨hS0, hS1⟩ := hS; go_simp; first | done | (with_reducible rfl)
      try simp only [Act.put, List.setIfInBounds_toArray, List.set_cons_zero, List.set_cons_succ]
      generalize hw4 : (w3.alloc (.cells #[.string (strB id), .int .i64 size] 51)).drew = w4 at *
      refine twoH (i := 1) (j := 8) rfl rfl (by kernel_rfl) rfl rfl (fun K hK => ?_) (fun K hK => ?_)
      · skip
        go_simp
        refine (hcl w4).mono ?_
        rintro e w5 ⟨rfl, hb5⟩
        have p5 := (hb5.block _ (lt_of_heap p4)).trans p4
        have R5 := R4.keep hb5
        have x5 := (hb5.block _ (lt_of_heap x4)).trans x4
        have B5 := B4.trans (hb5.mono B4.size)
        have s5 := lt_of_heap p5
        have g5 := R5.lt
        refine hK.out _ _ (⟨rc (i := 0) p5 rfl, rc (i := 1) p5 rfl⟩) (fun hHeld => ?_)
        clear hK K
        try simp only [Act.put, List.setIfInBounds_toArray, List.set_cons_zero, List.set_cons_succ]
        refine takeH (i := 7) (v := ?_) rfl (by kernel_rfl) (by kernel_rfl) (by kernel_rfl) (fun _ _ _ h => h) rfl ?_ hHeld ?_
        rotate_left
        · intro w hS; (try dsimp only at hS); obtain ⟨hS0, hS1⟩ := hS; go_simp; first | done | (with_reducible rfl)
        try simp only [Act.put, List.setIfInBounds_toArray, List.set_cons_zero, List.set_cons_succ]
        refine onlyH (i := 8) rfl (by kernel_rfl) rfl (fun K hK => ?_)
        go_simp
        have hqA : Below w5.heap.size w5 (w5.alloc (.cells #[.string ⟨#[]⟩, .int .i64 0, .string ⟨#[]⟩, .int .i64 0] 60)) := (Below.refl _ _).alloc (Nat.le_refl _) _
        have p6 := (hqA.block _ (lt_of_heap p5)).trans p5
        have R6 := R5.keep hqA
        have x6 := (hqA.block _ (lt_of_heap x5)).trans x5
        have B6 := B5.trans (hqA.mono B5.size)
        have hE := heap_last w5 (.cells #[.string ⟨#[]⟩, .int .i64 0, .string ⟨#[]⟩, .int .i64 0] 60) _ rfl
        refine hK.out _ _ (⟨rc (i := 0) p6 rfl, rc (i := 1) p6 rfl⟩) (fun hHeld => ?_)
        clear hK K
        try simp only [Act.put, List.setIfInBounds_toArray, List.set_cons_zero, List.set_cons_succ]
        have d0 := rc (i := 0) hE rfl
        have d1 := rc (i := 1) hE rfl
        have d2 := rc (i := 2) hE rfl
        have d3 := rc (i := 3) hE rfl
        have e0 := frozen0 (j := 0) hE
        have e1 := frozen0 (j := 1) hE
        have e2 := frozen0 (j := 2) hE
        have e3 := frozen0 (j := 3) hE
        clear hb5 hqA
        have hqV : Below w5.heap.size w5 (w5.alloc (.cells #[.string (strB name), .int .i64 kind, .string (strB id), .int .i64 size] 60)) := (Below.refl _ _).alloc (Nat.le_refl _) _
        have zE := heap_last w5 (.cells #[.string (strB name), .int .i64 kind, .string (strB id), .int .i64 size] 60) _ rfl
        have RE := R5.keep hqV
        have xE := (hqV.block _ (lt_of_heap x5)).trans x5
        have BE := B5.trans (hqV.mono B5.size)
        have pE := (hqV.block _ (lt_of_heap p5)).trans p5
        clear hE x6 R6 B6 p6 R5 x5 B5 p5 hqV
        refine onlyH (i := 9) rfl (by kernel_rfl) rfl (fun K hK => ?_)
        go_simp
        refine hK.out _ _ (⟨rc (i := 0) pE rfl, rc (i := 1) pE rfl⟩) (fun hHeld => ?_)
        clear hK K
        try simp only [Act.put, List.setIfInBounds_toArray, List.set_cons_zero, List.set_cons_succ]
        refine wpAnyH_done (by kernel_rfl) ?_ _
        clear hHeld
        generalize hwE : (w5.alloc (.cells #[.string (strB name), .int .i64 kind, .string (strB id), .int .i64 size] 60)) = wE at *
        have k0 := rc (i := 0) zE rfl
        have k1 := rc (i := 1) zE rfl
        have k2 := rc (i := 2) zE rfl
        have k3 := rc (i := 3) zE rfl
        have hW := wasAll_any wE g val s2 RE
        rw [hdec] at hW
        go_wp2_with fail
        refine hW.mono ?_
        rintro e w6 ⟨rfl, hb6⟩
        have z6 := (hb6.block _ (lt_of_heap zE)).trans zE
        have x6 := (hb6.block _ (lt_of_heap xE)).trans xE
        have B6 := BE.trans (hb6.mono BE.size)
        have l0 := rc (i := 0) z6 rfl
        have l1 := rc (i := 1) z6 rfl
        have l2 := rc (i := 2) z6 rfl
        have l3 := rc (i := 3) z6 rfl
        clear hW hb6 zE xE k0 k1 k2 k3 RE hwE BE
        have hr := entryRight_any w6 name (kind, (id, size))
        rw [h2] at hr
        simp only at hr
        go_wp2_with fail
        refine hr.mono ?_
        rintro e w7 ⟨rfl, hb7⟩
        have z7 := (hb7.block _ (lt_of_heap z6)).trans z6
        have x7 := (hb7.block _ (lt_of_heap x6)).trans x6
        have B7 := B6.trans (hb7.mono B6.size)
        have m0 := rc (i := 0) z7 rfl
        have m1 := rc (i := 1) z7 rfl
        have m2 := rc (i := 2) z7 rfl
        have m3 := rc (i := 3) z7 rfl
        clear hr hb7 z6 x6 B6 l0 l1 l2 l3
        have n0 := rc (i := 0) x7 rfl
        have f0 := frozen0 (j := 0) x7
        have n1 := rc (i := 1) x7 rfl
        have f1 := frozen0 (j := 1) x7
        have n2 := rc (i := 2) x7 rfl
        have f2 := frozen0 (j := 2) x7
        have n3 := rc (i := 3) x7 rfl
        have f3 := frozen0 (j := 3) x7
        go_wp2
        exact bodyPost_ret (results_cell_tmp_row rfl _ _ _ _ _ _ _ rfl (heap_set4 x7) Tryz.underlying60 rfl Tryz.infoEntry) rfl ⟨rfl, ((((B7.setCell (p := ⟨w.heap.size, 0, none⟩) (by simp) _).setCell (p := ⟨w.heap.size, 1, none⟩) (by simp) _).setCell (p := ⟨w.heap.size, 2, none⟩) (by simp) _).setCell (p := ⟨w.heap.size, 3, none⟩) (by simp) _)⟩
      · skip
        go_simp
        have hqA : Below w4.heap.size w4 (w4.alloc (.cells #[.string ⟨#[]⟩, .int .i64 0, .string ⟨#[]⟩, .int .i64 0] 60)) := (Below.refl _ _).alloc (Nat.le_refl _) _
        have p5 := (hqA.block _ (lt_of_heap p4)).trans p4
        have R5 := R4.keep hqA
        have x5 := (hqA.block _ (lt_of_heap x4)).trans x4
        have B5 := B4.trans (hqA.mono B4.size)
        have hE5 := heap_last w4 (.cells #[.string ⟨#[]⟩, .int .i64 0, .string ⟨#[]⟩, .int .i64 0] 60) _ rfl
        refine hK.out _ _ (⟨rc (i := 0) p5 rfl, rc (i := 1) p5 rfl⟩) (fun hHeld => ?_)
        clear hK K
        try simp only [Act.put, List.setIfInBounds_toArray, List.set_cons_zero, List.set_cons_succ]
        refine onlyH (i := 1) rfl (by kernel_rfl) rfl (fun K hK => ?_)
        go_simp
        refine (hcl _).mono ?_
        rintro e w5 ⟨rfl, hb5⟩
        have p6 := (hb5.block _ (lt_of_heap p5)).trans p5
        have R6 := R5.keep hb5
        have x6 := (hb5.block _ (lt_of_heap x5)).trans x5
        have B6 := B5.trans (hb5.mono B5.size)
        have hE := (hb5.block _ (lt_of_heap hE5)).trans hE5
        have s5 : pb < w4.heap.size := s4
        have g5 : g < w4.heap.size := R4.lt
        have sE := lt_of_heap hE
        refine hK.out _ _ (⟨rc (i := 0) p6 rfl, rc (i := 1) p6 rfl⟩) (fun hHeld => ?_)
        clear hK K
        try simp only [Act.put, List.setIfInBounds_toArray, List.set_cons_zero, List.set_cons_succ]
        refine takeH (i := 7) (v := ?_) rfl (by kernel_rfl) (by kernel_rfl) (by kernel_rfl) (fun _ _ _ h => h) rfl ?_ hHeld ?_
        rotate_left
        · intro w hS; (try dsimp only at hS); obtain ⟨hS0, hS1⟩ := hS; go_simp; first | done | (with_reducible rfl)
        try simp only [Act.put, List.setIfInBounds_toArray, List.set_cons_zero, List.set_cons_succ]
        have d0 := rc (i := 0) hE rfl
        have d1 := rc (i := 1) hE rfl
        have d2 := rc (i := 2) hE rfl
        have d3 := rc (i := 3) hE rfl
        have e0 := frozen0 (j := 0) hE
        have e1 := frozen0 (j := 1) hE
        have e2 := frozen0 (j := 2) hE
        have e3 := frozen0 (j := 3) hE
        clear hb5 hqA R5 x5 B5 p5 hE5
        have zE : ((((w5.setCell ⟨w4.heap.size, 0, none⟩ (.string (strB name))).setCell ⟨w4.heap.size, 1, none⟩ (.int .i64 kind)).setCell ⟨w4.heap.size, 2, none⟩ (.string (strB id))).setCell ⟨w4.heap.size, 3, none⟩ (.int .i64 size)).heap[w4.heap.size]? = some (.cells #[.string (strB name), .int .i64 kind, .string (strB id), .int .i64 size] 60) := heap_set4 hE
        have RE : Rd w0.heap.size ((((w5.setCell ⟨w4.heap.size, 0, none⟩ (.string (strB name))).setCell ⟨w4.heap.size, 1, none⟩ (.int .i64 kind)).setCell ⟨w4.heap.size, 2, none⟩ (.string (strB id))).setCell ⟨w4.heap.size, 3, none⟩ (.int .i64 size)) g val s2 := ((((R6.set (.inl (by omega))).set (.inl (by omega))).set (.inl (by omega))).set (.inl (by omega)))
        have BE : Below w.heap.size w ((((w5.setCell ⟨w4.heap.size, 0, none⟩ (.string (strB name))).setCell ⟨w4.heap.size, 1, none⟩ (.int .i64 kind)).setCell ⟨w4.heap.size, 2, none⟩ (.string (strB id))).setCell ⟨w4.heap.size, 3, none⟩ (.int .i64 size)) := ((((B6.setCell (p := ⟨w4.heap.size, 0, none⟩) (by simp; omega) _).setCell (p := ⟨w4.heap.size, 1, none⟩) (by simp; omega) _).setCell (p := ⟨w4.heap.size, 2, none⟩) (by simp; omega) _).setCell (p := ⟨w4.heap.size, 3, none⟩) (by simp; omega) _)
        have xE : ((((w5.setCell ⟨w4.heap.size, 0, none⟩ (.string (strB name))).setCell ⟨w4.heap.size, 1, none⟩ (.int .i64 kind)).setCell ⟨w4.heap.size, 2, none⟩ (.string (strB id))).setCell ⟨w4.heap.size, 3, none⟩ (.int .i64 size)).heap[w.heap.size]? = some (.cells #[.string ⟨#[]⟩, .int .i64 0, .string ⟨#[]⟩, .int .i64 0] 60) := ((gb_set ((((w5.setCell ⟨w4.heap.size, 0, none⟩ (.string (strB name))).setCell ⟨w4.heap.size, 1, none⟩ (.int .i64 kind)).setCell ⟨w4.heap.size, 2, none⟩ (.string (strB id)))) (w4.heap.size) 3 (.int .i64 size)).block _ (by have := lt_of_heap x6; simp [World.setCell]; try omega) (fun e => by injection e with e; omega)).trans (((gb_set (((w5.setCell ⟨w4.heap.size, 0, none⟩ (.string (strB name))).setCell ⟨w4.heap.size, 1, none⟩ (.int .i64 kind))) (w4.heap.size) 2 (.string (strB id))).block _ (by have := lt_of_heap x6; simp [World.setCell]; try omega) (fun e => by injection e with e; omega)).trans (((gb_set ((w5.setCell ⟨w4.heap.size, 0, none⟩ (.string (strB name)))) (w4.heap.size) 1 (.int .i64 kind)).block _ (by have := lt_of_heap x6; simp [World.setCell]; try omega) (fun e => by injection e with e; omega)).trans (((gb_set (w5) (w4.heap.size) 0 (.string (strB name))).block _ (by have := lt_of_heap x6; simp; try omega) (fun e => by injection e with e; omega)).trans (x6))))
        have pE : ((((w5.setCell ⟨w4.heap.size, 0, none⟩ (.string (strB name))).setCell ⟨w4.heap.size, 1, none⟩ (.int .i64 kind)).setCell ⟨w4.heap.size, 2, none⟩ (.string (strB id))).setCell ⟨w4.heap.size, 3, none⟩ (.int .i64 size)).heap[pb]? = some (.cells #[.string (strB id), .int .i64 size] 51) := ((gb_set ((((w5.setCell ⟨w4.heap.size, 0, none⟩ (.string (strB name))).setCell ⟨w4.heap.size, 1, none⟩ (.int .i64 kind)).setCell ⟨w4.heap.size, 2, none⟩ (.string (strB id)))) (w4.heap.size) 3 (.int .i64 size)).block _ (by have := lt_of_heap p6; simp [World.setCell]; try omega) (fun e => by injection e with e; omega)).trans (((gb_set (((w5.setCell ⟨w4.heap.size, 0, none⟩ (.string (strB name))).setCell ⟨w4.heap.size, 1, none⟩ (.int .i64 kind))) (w4.heap.size) 2 (.string (strB id))).block _ (by have := lt_of_heap p6; simp [World.setCell]; try omega) (fun e => by injection e with e; omega)).trans (((gb_set ((w5.setCell ⟨w4.heap.size, 0, none⟩ (.string (strB name)))) (w4.heap.size) 1 (.int .i64 kind)).block _ (by have := lt_of_heap p6; simp [World.setCell]; try omega) (fun e => by injection e with e; omega)).trans (((gb_set (w5) (w4.heap.size) 0 (.string (strB name))).block _ (by have := lt_of_heap p6; simp; try omega) (fun e => by injection e with e; omega)).trans (p6))))
        clear hE x6 R6 B6 p6
        refine onlyH (i := 9) rfl (by kernel_rfl) rfl (fun K hK => ?_)
        go_simp
        refine hK.out _ _ (⟨rc (i := 0) pE rfl, rc (i := 1) pE rfl⟩) (fun hHeld => ?_)
        clear hK K
        try simp only [Act.put, List.setIfInBounds_toArray, List.set_cons_zero, List.set_cons_succ]
        refine wpAnyH_done (by kernel_rfl) ?_ _
        clear hHeld
        generalize hwE : ((((w5.setCell ⟨w4.heap.size, 0, none⟩ (.string (strB name))).setCell ⟨w4.heap.size, 1, none⟩ (.int .i64 kind)).setCell ⟨w4.heap.size, 2, none⟩ (.string (strB id))).setCell ⟨w4.heap.size, 3, none⟩ (.int .i64 size)) = wE at *
        have k0 := rc (i := 0) zE rfl
        have k1 := rc (i := 1) zE rfl
        have k2 := rc (i := 2) zE rfl
        have k3 := rc (i := 3) zE rfl
        have hW := wasAll_any wE g val s2 RE
        rw [hdec] at hW
        go_wp2_with fail
        refine hW.mono ?_
        rintro e w6 ⟨rfl, hb6⟩
        have z6 := (hb6.block _ (lt_of_heap zE)).trans zE
        have x6 := (hb6.block _ (lt_of_heap xE)).trans xE
        have B6 := BE.trans (hb6.mono BE.size)
        have l0 := rc (i := 0) z6 rfl
        have l1 := rc (i := 1) z6 rfl
        have l2 := rc (i := 2) z6 rfl
        have l3 := rc (i := 3) z6 rfl
        clear hW hb6 zE xE k0 k1 k2 k3 RE hwE BE
        have hr := entryRight_any w6 name (kind, (id, size))
        rw [h2] at hr
        simp only at hr
        go_wp2_with fail
        refine hr.mono ?_
        rintro e w7 ⟨rfl, hb7⟩
        have z7 := (hb7.block _ (lt_of_heap z6)).trans z6
        have x7 := (hb7.block _ (lt_of_heap x6)).trans x6
        have B7 := B6.trans (hb7.mono B6.size)
        have m0 := rc (i := 0) z7 rfl
        have m1 := rc (i := 1) z7 rfl
        have m2 := rc (i := 2) z7 rfl
        have m3 := rc (i := 3) z7 rfl
        clear hr hb7 z6 x6 B6 l0 l1 l2 l3
        have n0 := rc (i := 0) x7 rfl
        have f0 := frozen0 (j := 0) x7
        have n1 := rc (i := 1) x7 rfl
        have f1 := frozen0 (j := 1) x7
        have n2 := rc (i := 2) x7 rfl
        have f2 := frozen0 (j := 2) x7
        have n3 := rc (i := 3) x7 rfl
        have f3 := frozen0 (j := 3) x7
        go_wp2
        exact bodyPost_ret (results_cell_tmp_row rfl _ _ _ _ _ _ _ rfl (heap_set4 x7) Tryz.underlying60 rfl Tryz.infoEntry) rfl ⟨rfl, ((((B7.setCell (p := ⟨w.heap.size, 0, none⟩) (by simp) _).setCell (p := ⟨w.heap.size, 1, none⟩) (by simp) _).setCell (p := ⟨w.heap.size, 2, none⟩) (by simp) _).setCell (p := ⟨w.heap.size, 3, none⟩) (by simp) _)⟩
  · have hdec := decide_eq_false h1
    rw [if_neg (fun h => h1 h.1)]
    simp only
    go_enter Tryz.func75, Tryz.ntmps75
    go_wp2_with fail
    try rw [hw0]
    refine hrd.mono ?_
    rintro e w1 ⟨g, rfl, R1, hg1, hb1⟩
    have x1 := (hb1.block _ (by omega)).trans hx0
    have B1 := hbE.trans (hb1.mono hbE.size)
    have hT := takeSmall_any w1 g val (some 0) 2 R1 hv
    unfold Took at hT
    rw [H1.out] at hT
    simp only at hT
    clear hrd hb1 R1
    go_wp2_with fail
    refine hT.mono ?_
    rintro e w2 ⟨rfl, R2, gb2⟩
    have x2 := (gb2.block _ (lt_of_heap x1) (fun e => by injection e with e; omega)).trans x1
    have B2 := B1.grown gb2 B1.size (fun k hk => by injection hk with hk; omega)
    have hT2 := takePart_any w2 g val s1 R2 hv
    unfold Took at hT2
    rw [H2.out] at hT2
    simp only at hT2
    clear hT gb2 R2 x1 B1
    go_wp2_with fail
    refine hT2.mono ?_
    rintro e w3 ⟨rfl, R3, gb3⟩
    have x3 := (gb3.block _ (lt_of_heap x2) (fun e => by injection e with e; omega)).trans x2
    have B3 := B2.grown gb3 B2.size (fun k hk => by injection hk with hk; omega)
    have hq4 : Below w3.heap.size w3 (w3.alloc (.cells #[.string (strB id), .int .i64 size] 51)).drew := ((Below.refl _ _).alloc (Nat.le_refl _) _).drew
    have p4 : (w3.alloc (.cells #[.string (strB id), .int .i64 size] 51)).drew.heap[w3.heap.size]? = some (.cells #[.string (strB id), .int .i64 size] 51) := heap_last w3 (.cells #[.string (strB id), .int .i64 size] 51) _ rfl
    have R4 := R3.keep hq4
    have x4 := (hq4.block _ (lt_of_heap x3)).trans x3
    have B4 := B3.trans (hq4.mono B3.size)
    have s4 := lt_of_heap p4
    have g4 := R3.lt
    clear hT2 gb3 R3 x2 B2 x3 B3 hq4
    go_wp2_with fail
    generalize hpb : w3.heap.size = pb at *
    have c0 := rc (i := 0) p4 rfl
    have c1 := rc (i := 1) p4 rfl
    refine wp_region_held_drew (S := fun W => W.cell? ⟨pb, 0, none⟩ = some (.string (strB id)) ∧ W.cell? ⟨pb, 1, none⟩ = some (.int .i64 size)) (by kernel_rfl) (⟨c0, c1⟩) (fun hHeld => ?_)
    refine takeH (i := 0) (v := ?_) rfl (by kernel_rfl) (by kernel_rfl) (by kernel_rfl) (fun _ _ _ h => h) rfl ?_ hHeld ?_
    rotate_left
    · intro w hS; (try dsimp only at hS); obtain ⟨hS0, hS1⟩ := hS; go_simp; first | done | (with_reducible rfl)
    try simp only [Act.put, List.setIfInBounds_toArray, List.set_cons_zero, List.set_cons_succ]
    refine takeH (i := 2) (v := ?_) rfl (by kernel_rfl) (by kernel_rfl) (by kernel_rfl) (fun _ _ _ h => h) rfl ?_ hHeld ?_
    rotate_left
    · intro w hS; (try dsimp only at hS); obtain ⟨hS0, hS1⟩ := hS; go_simp; first | done | (with_reducible rfl)
    try simp only [Act.put, List.setIfInBounds_toArray, List.set_cons_zero, List.set_cons_succ]
    refine takeH (i := 3) (v := ?_) rfl (by kernel_rfl) (by kernel_rfl) (by kernel_rfl) (fun _ _ _ h => h) rfl ?_ hHeld ?_
    rotate_left
    · intro w hS; (try dsimp only at hS); obtain ⟨hS0, hS1⟩ := hS; go_simp; first | done | (with_reducible rfl)
    try simp only [Act.put, List.setIfInBounds_toArray, List.set_cons_zero, List.set_cons_succ]
    refine takeH (i := 4) (v := ?_) rfl (by kernel_rfl) (by kernel_rfl) (by kernel_rfl) (fun _ _ _ h => h) rfl ?_ hHeld ?_
    rotate_left
    · intro w hS; (try dsimp only at hS); obtain ⟨hS0, hS1⟩ := hS; go_simp; first | done | (with_reducible rfl)
    try simp only [Act.put, List.setIfInBounds_toArray, List.set_cons_zero, List.set_cons_succ]
    refine takeH (i := 5) (v := ?_) rfl (by kernel_rfl) (by kernel_rfl) (by kernel_rfl) (fun _ _ _ h => h) rfl ?_ hHeld ?_
    rotate_left
    · intro w hS; (try dsimp only at hS); obtain ⟨hS0, hS1⟩ := hS; go_simp; first | done | (with_reducible rfl)
    try simp only [Act.put, List.setIfInBounds_toArray, List.set_cons_zero, List.set_cons_succ]
    refine takeH (i := 6) (v := ?_) rfl (by kernel_rfl) (by kernel_rfl) (by kernel_rfl) (fun _ _ _ h => h) rfl ?_ hHeld ?_
    rotate_left
    · intro w hS; (try dsimp only at hS); obtain ⟨hS0, hS1⟩ := hS; go_simp; first | done | (with_reducible rfl)
    try simp only [Act.put, List.setIfInBounds_toArray, List.set_cons_zero, List.set_cons_succ]
    generalize hw4 : (w3.alloc (.cells #[.string (strB id), .int .i64 size] 51)).drew = w4 at *
    refine twoH (i := 1) (j := 8) rfl rfl (by kernel_rfl) rfl rfl (fun K hK => ?_) (fun K hK => ?_)
    · skip
      go_simp
      refine (hcl w4).mono ?_
      rintro e w5 ⟨rfl, hb5⟩
      have p5 := (hb5.block _ (lt_of_heap p4)).trans p4
      have R5 := R4.keep hb5
      have x5 := (hb5.block _ (lt_of_heap x4)).trans x4
      have B5 := B4.trans (hb5.mono B4.size)
      have s5 := lt_of_heap p5
      have g5 := R5.lt
      refine hK.out _ _ (⟨rc (i := 0) p5 rfl, rc (i := 1) p5 rfl⟩) (fun hHeld => ?_)
      clear hK K
      try simp only [Act.put, List.setIfInBounds_toArray, List.set_cons_zero, List.set_cons_succ]
      refine takeH (i := 7) (v := ?_) rfl (by kernel_rfl) (by kernel_rfl) (by kernel_rfl) (fun _ _ _ h => h) rfl ?_ hHeld ?_
      rotate_left
      · intro w hS; (try dsimp only at hS); obtain ⟨hS0, hS1⟩ := hS; go_simp; first | done | (with_reducible rfl)
      try simp only [Act.put, List.setIfInBounds_toArray, List.set_cons_zero, List.set_cons_succ]
      refine onlyH (i := 8) rfl (by kernel_rfl) rfl (fun K hK => ?_)
      go_simp
      have hqA : Below w5.heap.size w5 (w5.alloc (.cells #[.string ⟨#[]⟩, .int .i64 0, .string ⟨#[]⟩, .int .i64 0] 60)) := (Below.refl _ _).alloc (Nat.le_refl _) _
      have p6 := (hqA.block _ (lt_of_heap p5)).trans p5
      have R6 := R5.keep hqA
      have x6 := (hqA.block _ (lt_of_heap x5)).trans x5
      have B6 := B5.trans (hqA.mono B5.size)
      have hE := heap_last w5 (.cells #[.string ⟨#[]⟩, .int .i64 0, .string ⟨#[]⟩, .int .i64 0] 60) _ rfl
      refine hK.out _ _ (⟨rc (i := 0) p6 rfl, rc (i := 1) p6 rfl⟩) (fun hHeld => ?_)
      clear hK K
      try simp only [Act.put, List.setIfInBounds_toArray, List.set_cons_zero, List.set_cons_succ]
      have d0 := rc (i := 0) hE rfl
      have d1 := rc (i := 1) hE rfl
      have d2 := rc (i := 2) hE rfl
      have d3 := rc (i := 3) hE rfl
      have e0 := frozen0 (j := 0) hE
      have e1 := frozen0 (j := 1) hE
      have e2 := frozen0 (j := 2) hE
      have e3 := frozen0 (j := 3) hE
      clear hb5 hqA
      have hqV : Below w5.heap.size w5 (w5.alloc (.cells #[.string (strB name), .int .i64 kind, .string (strB id), .int .i64 size] 60)) := (Below.refl _ _).alloc (Nat.le_refl _) _
      have zE := heap_last w5 (.cells #[.string (strB name), .int .i64 kind, .string (strB id), .int .i64 size] 60) _ rfl
      have RE := R5.keep hqV
      have xE := (hqV.block _ (lt_of_heap x5)).trans x5
      have BE := B5.trans (hqV.mono B5.size)
      have pE := (hqV.block _ (lt_of_heap p5)).trans p5
      clear hE x6 R6 B6 p6 R5 x5 B5 p5 hqV
      refine onlyH (i := 9) rfl (by kernel_rfl) rfl (fun K hK => ?_)
      go_simp
      refine hK.out _ _ (⟨rc (i := 0) pE rfl, rc (i := 1) pE rfl⟩) (fun hHeld => ?_)
      clear hK K
      try simp only [Act.put, List.setIfInBounds_toArray, List.set_cons_zero, List.set_cons_succ]
      refine wpAnyH_done (by kernel_rfl) ?_ _
      clear hHeld
      generalize hwE : (w5.alloc (.cells #[.string (strB name), .int .i64 kind, .string (strB id), .int .i64 size] 60)) = wE at *
      have k0 := rc (i := 0) zE rfl
      have k1 := rc (i := 1) zE rfl
      have k2 := rc (i := 2) zE rfl
      have k3 := rc (i := 3) zE rfl
      have hW := wasAll_any wE g val s2 RE
      rw [hdec] at hW
      go_wp2_with fail
      refine hW.mono ?_
      rintro e w6 ⟨rfl, hb6⟩
      have z6 := (hb6.block _ (lt_of_heap zE)).trans zE
      have x6 := (hb6.block _ (lt_of_heap xE)).trans xE
      have B6 := BE.trans (hb6.mono BE.size)
      have l0 := rc (i := 0) z6 rfl
      have l1 := rc (i := 1) z6 rfl
      have l2 := rc (i := 2) z6 rfl
      have l3 := rc (i := 3) z6 rfl
      clear hW hb6 zE xE k0 k1 k2 k3 RE hwE BE
      have n0 := rc (i := 0) x6 rfl
      have f0 := frozen0 (j := 0) x6
      have n1 := rc (i := 1) x6 rfl
      have f1 := frozen0 (j := 1) x6
      have n2 := rc (i := 2) x6 rfl
      have f2 := frozen0 (j := 2) x6
      have n3 := rc (i := 3) x6 rfl
      have f3 := frozen0 (j := 3) x6
      go_wp2
      exact bodyPost_ret (results_cell_tmp_row rfl _ _ _ _ _ _ _ rfl (heap_set4 x6) Tryz.underlying60 rfl Tryz.infoEntry) rfl ⟨rfl, ((((B6.setCell (p := ⟨w.heap.size, 0, none⟩) (by simp) _).setCell (p := ⟨w.heap.size, 1, none⟩) (by simp) _).setCell (p := ⟨w.heap.size, 2, none⟩) (by simp) _).setCell (p := ⟨w.heap.size, 3, none⟩) (by simp) _)⟩
    · skip
      go_simp
      have hqA : Below w4.heap.size w4 (w4.alloc (.cells #[.string ⟨#[]⟩, .int .i64 0, .string ⟨#[]⟩, .int .i64 0] 60)) := (Below.refl _ _).alloc (Nat.le_refl _) _
      have p5 := (hqA.block _ (lt_of_heap p4)).trans p4
      have R5 := R4.keep hqA
      have x5 := (hqA.block _ (lt_of_heap x4)).trans x4
      have B5 := B4.trans (hqA.mono B4.size)
      have hE5 := heap_last w4 (.cells #[.string ⟨#[]⟩, .int .i64 0, .string ⟨#[]⟩, .int .i64 0] 60) _ rfl
      refine hK.out _ _ (⟨rc (i := 0) p5 rfl, rc (i := 1) p5 rfl⟩) (fun hHeld => ?_)
      clear hK K
      try simp only [Act.put, List.setIfInBounds_toArray, List.set_cons_zero, List.set_cons_succ]
      refine onlyH (i := 1) rfl (by kernel_rfl) rfl (fun K hK => ?_)
      go_simp
      refine (hcl _).mono ?_
      rintro e w5 ⟨rfl, hb5⟩
      have p6 := (hb5.block _ (lt_of_heap p5)).trans p5
      have R6 := R5.keep hb5
      have x6 := (hb5.block _ (lt_of_heap x5)).trans x5
      have B6 := B5.trans (hb5.mono B5.size)
      have hE := (hb5.block _ (lt_of_heap hE5)).trans hE5
      have s5 : pb < w4.heap.size := s4
      have g5 : g < w4.heap.size := R4.lt
      have sE := lt_of_heap hE
      refine hK.out _ _ (⟨rc (i := 0) p6 rfl, rc (i := 1) p6 rfl⟩) (fun hHeld => ?_)
      clear hK K
      try simp only [Act.put, List.setIfInBounds_toArray, List.set_cons_zero, List.set_cons_succ]
      refine takeH (i := 7) (v := ?_) rfl (by kernel_rfl) (by kernel_rfl) (by kernel_rfl) (fun _ _ _ h => h) rfl ?_ hHeld ?_
      rotate_left
      · intro w hS; (try dsimp only at hS); obtain ⟨hS0, hS1⟩ := hS; go_simp; first | done | (with_reducible rfl)
      try simp only [Act.put, List.setIfInBounds_toArray, List.set_cons_zero, List.set_cons_succ]
      have d0 := rc (i := 0) hE rfl
      have d1 := rc (i := 1) hE rfl
      have d2 := rc (i := 2) hE rfl
      have d3 := rc (i := 3) hE rfl
      have e0 := frozen0 (j := 0) hE
      have e1 := frozen0 (j := 1) hE
      have e2 := frozen0 (j := 2) hE
      have e3 := frozen0 (j := 3) hE
      clear hb5 hqA R5 x5 B5 p5 hE5
      have zE : ((((w5.setCell ⟨w4.heap.size, 0, none⟩ (.string (strB name))).setCell ⟨w4.heap.size, 1, none⟩ (.int .i64 kind)).setCell ⟨w4.heap.size, 2, none⟩ (.string (strB id))).setCell ⟨w4.heap.size, 3, none⟩ (.int .i64 size)).heap[w4.heap.size]? = some (.cells #[.string (strB name), .int .i64 kind, .string (strB id), .int .i64 size] 60) := heap_set4 hE
      have RE : Rd w0.heap.size ((((w5.setCell ⟨w4.heap.size, 0, none⟩ (.string (strB name))).setCell ⟨w4.heap.size, 1, none⟩ (.int .i64 kind)).setCell ⟨w4.heap.size, 2, none⟩ (.string (strB id))).setCell ⟨w4.heap.size, 3, none⟩ (.int .i64 size)) g val s2 := ((((R6.set (.inl (by omega))).set (.inl (by omega))).set (.inl (by omega))).set (.inl (by omega)))
      have BE : Below w.heap.size w ((((w5.setCell ⟨w4.heap.size, 0, none⟩ (.string (strB name))).setCell ⟨w4.heap.size, 1, none⟩ (.int .i64 kind)).setCell ⟨w4.heap.size, 2, none⟩ (.string (strB id))).setCell ⟨w4.heap.size, 3, none⟩ (.int .i64 size)) := ((((B6.setCell (p := ⟨w4.heap.size, 0, none⟩) (by simp; omega) _).setCell (p := ⟨w4.heap.size, 1, none⟩) (by simp; omega) _).setCell (p := ⟨w4.heap.size, 2, none⟩) (by simp; omega) _).setCell (p := ⟨w4.heap.size, 3, none⟩) (by simp; omega) _)
      have xE : ((((w5.setCell ⟨w4.heap.size, 0, none⟩ (.string (strB name))).setCell ⟨w4.heap.size, 1, none⟩ (.int .i64 kind)).setCell ⟨w4.heap.size, 2, none⟩ (.string (strB id))).setCell ⟨w4.heap.size, 3, none⟩ (.int .i64 size)).heap[w.heap.size]? = some (.cells #[.string ⟨#[]⟩, .int .i64 0, .string ⟨#[]⟩, .int .i64 0] 60) := ((gb_set ((((w5.setCell ⟨w4.heap.size, 0, none⟩ (.string (strB name))).setCell ⟨w4.heap.size, 1, none⟩ (.int .i64 kind)).setCell ⟨w4.heap.size, 2, none⟩ (.string (strB id)))) (w4.heap.size) 3 (.int .i64 size)).block _ (by have := lt_of_heap x6; simp [World.setCell]; try omega) (fun e => by injection e with e; omega)).trans (((gb_set (((w5.setCell ⟨w4.heap.size, 0, none⟩ (.string (strB name))).setCell ⟨w4.heap.size, 1, none⟩ (.int .i64 kind))) (w4.heap.size) 2 (.string (strB id))).block _ (by have := lt_of_heap x6; simp [World.setCell]; try omega) (fun e => by injection e with e; omega)).trans (((gb_set ((w5.setCell ⟨w4.heap.size, 0, none⟩ (.string (strB name)))) (w4.heap.size) 1 (.int .i64 kind)).block _ (by have := lt_of_heap x6; simp [World.setCell]; try omega) (fun e => by injection e with e; omega)).trans (((gb_set (w5) (w4.heap.size) 0 (.string (strB name))).block _ (by have := lt_of_heap x6; simp; try omega) (fun e => by injection e with e; omega)).trans (x6))))
      have pE : ((((w5.setCell ⟨w4.heap.size, 0, none⟩ (.string (strB name))).setCell ⟨w4.heap.size, 1, none⟩ (.int .i64 kind)).setCell ⟨w4.heap.size, 2, none⟩ (.string (strB id))).setCell ⟨w4.heap.size, 3, none⟩ (.int .i64 size)).heap[pb]? = some (.cells #[.string (strB id), .int .i64 size] 51) := ((gb_set ((((w5.setCell ⟨w4.heap.size, 0, none⟩ (.string (strB name))).setCell ⟨w4.heap.size, 1, none⟩ (.int .i64 kind)).setCell ⟨w4.heap.size, 2, none⟩ (.string (strB id)))) (w4.heap.size) 3 (.int .i64 size)).block _ (by have := lt_of_heap p6; simp [World.setCell]; try omega) (fun e => by injection e with e; omega)).trans (((gb_set (((w5.setCell ⟨w4.heap.size, 0, none⟩ (.string (strB name))).setCell ⟨w4.heap.size, 1, none⟩ (.int .i64 kind))) (w4.heap.size) 2 (.string (strB id))).block _ (by have := lt_of_heap p6; simp [World.setCell]; try omega) (fun e => by injection e with e; omega)).trans (((gb_set ((w5.setCell ⟨w4.heap.size, 0, none⟩ (.string (strB name)))) (w4.heap.size) 1 (.int .i64 kind)).block _ (by have := lt_of_heap p6; simp [World.setCell]; try omega) (fun e => by injection e with e; omega)).trans (((gb_set (w5) (w4.heap.size) 0 (.string (strB name))).block _ (by have := lt_of_heap p6; simp; try omega) (fun e => by injection e with e; omega)).trans (p6))))
      clear hE x6 R6 B6 p6
      refine onlyH (i := 9) rfl (by kernel_rfl) rfl (fun K hK => ?_)
      go_simp
      refine hK.out _ _ (⟨rc (i := 0) pE rfl, rc (i := 1) pE rfl⟩) (fun hHeld => ?_)
      clear hK K
      try simp only [Act.put, List.setIfInBounds_toArray, List.set_cons_zero, List.set_cons_succ]
      refine wpAnyH_done (by kernel_rfl) ?_ _
      clear hHeld
      generalize hwE : ((((w5.setCell ⟨w4.heap.size, 0, none⟩ (.string (strB name))).setCell ⟨w4.heap.size, 1, none⟩ (.int .i64 kind)).setCell ⟨w4.heap.size, 2, none⟩ (.string (strB id))).setCell ⟨w4.heap.size, 3, none⟩ (.int .i64 size)) = wE at *
      have k0 := rc (i := 0) zE rfl
      have k1 := rc (i := 1) zE rfl
      have k2 := rc (i := 2) zE rfl
      have k3 := rc (i := 3) zE rfl
      have hW := wasAll_any wE g val s2 RE
      rw [hdec] at hW
      go_wp2_with fail
      refine hW.mono ?_
      rintro e w6 ⟨rfl, hb6⟩
      have z6 := (hb6.block _ (lt_of_heap zE)).trans zE
      have x6 := (hb6.block _ (lt_of_heap xE)).trans xE
      have B6 := BE.trans (hb6.mono BE.size)
      have l0 := rc (i := 0) z6 rfl
      have l1 := rc (i := 1) z6 rfl
      have l2 := rc (i := 2) z6 rfl
      have l3 := rc (i := 3) z6 rfl
      clear hW hb6 zE xE k0 k1 k2 k3 RE hwE BE
      have n0 := rc (i := 0) x6 rfl
      have f0 := frozen0 (j := 0) x6
      have n1 := rc (i := 1) x6 rfl
      have f1 := frozen0 (j := 1) x6
      have n2 := rc (i := 2) x6 rfl
      have f2 := frozen0 (j := 2) x6
      have n3 := rc (i := 3) x6 rfl
      have f3 := frozen0 (j := 3) x6
      go_wp2
      exact bodyPost_ret (results_cell_tmp_row rfl _ _ _ _ _ _ _ rfl (heap_set4 x6) Tryz.underlying60 rfl Tryz.infoEntry) rfl ⟨rfl, ((((B6.setCell (p := ⟨w.heap.size, 0, none⟩) (by simp) _).setCell (p := ⟨w.heap.size, 1, none⟩) (by simp) _).setCell (p := ⟨w.heap.size, 2, none⟩) (by simp) _).setCell (p := ⟨w.heap.size, 3, none⟩) (by simp) _)⟩
end Go.Proofs.YtdbmngbinhemeabGreatDoor
