/-
  Asking for what a part stands for, by any get. Conditions: the get keeps its word; texts within reach.
-/
import Derived.Test.YtokebnkgjchfaaaGreatDoorS17ORTakeC
namespace Go.Proofs.YtokebnkgjchfaaaGreatDoor
open Go.RowKit

theorem Mv.setNew {B : Nat} {ts : List TypeId} {r : Option Nat} {w w' : World} (h : Mv B ts r w w') {g j : Nat} (hg : w.heap.size ≤ g) (hB : B ≤ w.heap.size) (u : Value) : Mv B ts r w (w'.setCell ⟨g, j, Option.none⟩ u) :=
  ⟨h.b.setCell (p := ⟨g, j, Option.none⟩) (Nat.le_trans hB hg) _, fun k cs t fr hk ht hr => by
    rw [heap_setOther (by have := lt_of_heap hk; omega)]
    exact h.k k cs t fr hk ht hr⟩
/-- A get that keeps its word: it answers what fd says, and notes what is asked; what it knows (I) stays where blocks of the types ts move, or a row of parts. -/
structure GetOk (g : Nat) (caps : Array Value) (fd : Bs → Option Bs) (B : Nat) (ts : List TypeId) (I : World → List Bs → Prop) : Prop where
  eg : ∀ args w, (callFunc g args).run Tryz.prog w = .ok (.enter g args) w
  le : ∀ W a, I W a → B ≤ W.heap.size
  keep : ∀ W W' a r, I W a → Mv B ts r W W' → (∀ q, r = some q → ∃ c fr, W.heap[q]? = some (.cells c 25 fr)) → I W' a
  call : ∀ W a id, I W a → a.length ≤ 4294967296 → Calls Tryz.prog g (#[.string (strB id)] ++ caps) W fun e w' => e = .returned (foundV (fd id)) ∧ I w' (a ++ [id]) ∧ Mv B ats none W w'
  node : 96 ∈ ts
  short : ∀ id b, fd id = some b → b.length ≤ 140737488351232
theorem GetOk.below {g : Nat} {caps : Array Value} {fd : Bs → Option Bs} {B : Nat} {ts : List TypeId} {I : World → List Bs → Prop} (h : GetOk g caps fd B ts I) {W W' : World} {a : List Bs} (hI : I W a) (hb : Below W.heap.size W W') : I W' a :=
  h.keep W W' a none hI (Mv.of hb (h.le W a hI)) (by simp)
theorem GetOk.mv {g : Nat} {caps : Array Value} {fd : Bs → Option Bs} {B : Nat} {ts : List TypeId} {I : World → List Bs → Prop} (h : GetOk g caps fd B ts I) {W W' : World} {a : List Bs} (hI : I W a) (hm : Mv B ts none W W') : I W' a :=
  h.keep W W' a none hI hm (by simp)
/-- What ask answers. -/
def askSaid (B : Nat) (r : Int × Node) (e : Ending) (w' : World) : Prop :=
  ∃ v, e = .returned (.tuple #[.agg #[.int .i64 r.2.1, v, .string (strB r.2.2.1)], .int .i64 r.1]) ∧ w'.ownsRow B 25 2 v r.2.2.2.length (r.2.2.2.flatMap partC)
theorem askN_none {fd : Bs → Option Bs} {p : Part} {level : Int} (h : fd p.1 = none) : askN fd p level = (3, 0, [], []) := by unfold askN; rw [h]
theorem askN_no {fd : Bs → Option Bs} {p : Part} {level : Int} {b : Bs} (h : fd p.1 = some b) (h2 : nodeOf b = none) : askN fd p level = (101, 0, [], []) := by unfold askN; rw [h]; simp only [h2]
theorem askN_not {fd : Bs → Option Bs} {p : Part} {level : Int} {b : Bs} {n : Node} (h : fd p.1 = some b) (h2 : nodeOf b = some n) (h3 : ¬ (sizeN n = p.2 ∧ (level = -1 ∨ level = n.1))) : askN fd p level = (101, 0, [], []) := by unfold askN; rw [h]; simp only [h2]; rw [if_neg h3]
theorem askN_yes {fd : Bs → Option Bs} {p : Part} {level : Int} {b : Bs} {n : Node} (h : fd p.1 = some b) (h2 : nodeOf b = some n) (h3 : sizeN n = p.2 ∧ (level = -1 ∨ level = n.1)) : askN fd p level = (0, n) := by unfold askN; rw [h]; simp only [h2]; rw [if_pos h3]
set_option maxRecDepth 40000 in
set_option maxHeartbeats 3200000 in
theorem ask_any (w : World) (g : Nat) (caps : Array Value) (fd : Bs → Option Bs) (B : Nat) (ts : List TypeId) (I : World → List Bs → Prop) (hG : GetOk g caps fd B ts I) (p : Part) (level : Int) (asked : List Bs) (hI : I w asked) (hn : asked.length ≤ 4294967296) :
    Calls Tryz.prog 42 #[.agg #[.func (.func g) #[] caps], .agg #[.string (strB p.1), .int .i64 p.2], .int .i64 level] w fun e w' => askSaid w.heap.size (askN fd p level) e w' ∧ I w' (asked ++ [p.1]) ∧ Mv B ats none w w' := by
  have hB := hG.le _ _ hI
  have eg := hG.eg
  have hb0 : Below w.heap.size w (((w.alloc (.cells #[.func (.func g) #[] caps] 69)).alloc (.cells #[.string (strB p.1), .int .i64 p.2] 25)).alloc (.cells #[.int .i64 0, .slice none 0 0, .string ⟨#[]⟩] 96)) := (((Below.refl _ _).alloc (Nat.le_refl _) _).alloc (by simp) _).alloc (by simp; omega) _
  have hx0 : (((w.alloc (.cells #[.func (.func g) #[] caps] 69)).alloc (.cells #[.string (strB p.1), .int .i64 p.2] 25)).alloc (.cells #[.int .i64 0, .slice none 0 0, .string ⟨#[]⟩] 96)).heap[w.heap.size + 2]? = some (.cells #[.int .i64 0, .slice none 0 0, .string ⟨#[]⟩] 96) := heap_last _ _ _ (by simp)
  have hp0 : (((w.alloc (.cells #[.func (.func g) #[] caps] 69)).alloc (.cells #[.string (strB p.1), .int .i64 p.2] 25)).alloc (.cells #[.int .i64 0, .slice none 0 0, .string ⟨#[]⟩] 96)).heap[w.heap.size + 1]? = some (.cells #[.string (strB p.1), .int .i64 p.2] 25) := (heap_past _ _ _ (by simp)).trans (heap_last (w.alloc (.cells #[.func (.func g) #[] caps] 69)) _ _ (by simp))
  have ha0 : (((w.alloc (.cells #[.func (.func g) #[] caps] 69)).alloc (.cells #[.string (strB p.1), .int .i64 p.2] 25)).alloc (.cells #[.int .i64 0, .slice none 0 0, .string ⟨#[]⟩] 96)).heap[w.heap.size]? = some (.cells #[.func (.func g) #[] caps] 69) := (heap_past _ _ _ (by simp; omega)).trans ((heap_past _ _ _ (by simp)).trans (heap_last w _ _ rfl))
  generalize hw0 : ((w.alloc (.cells #[.func (.func g) #[] caps] 69)).alloc (.cells #[.string (strB p.1), .int .i64 p.2] 25)).alloc (.cells #[.int .i64 0, .slice none 0 0, .string ⟨#[]⟩] 96) = w0 at *
  have k0 := cell_of_row w0 w.heap.size 0 _ _ _ ha0
  have k1 := cell_of_row w0 (w.heap.size + 1) 0 _ _ _ hp0
  simp only [List.getElem?_toArray, List.getElem?_cons_zero] at k0 k1
  have hI0 := hG.below hI hb0
  have hcl := hG.call w0 asked p.1 hI0 hn
  have H0 := hide hb0
  have HX := hide (And.intro hx0 hp0)
  have HG := hide hG
  clear hb0 hx0 hp0 ha0 hI0
  unfold askSaid
  cases hf : fd p.1 with
  | none =>
    rw [askN_none hf]
    rw [hf] at hcl
    unfold foundV at hcl
    simp only at hcl ⊢
    go_enter Tryz.func42, Tryz.ntmps42
    go_wp2_with fail
    try rw [hw0]
    refine hcl.mono ?_
    rintro e w1 ⟨rfl, hI1, hm1⟩
    have hM1 : Mv B ats none w w1 := (Mv.of H0.out hB).trans hm1 (Nx.refl _ _)
    have hx1 := hm1.k _ _ _ _ HX.out.1 (by decide) (by simp)
    have hp1 := hm1.k _ _ _ _ HX.out.2 (by decide) (by simp)
    have hs1 : w.heap.size ≤ w1.heap.size := Nat.le_trans H0.out.size hm1.size
    clear hcl hm1 k0 k1
    have c0 := cell_of_row w1 (w.heap.size + 2) 0 _ _ _ hx1
    have c1 := cell_of_row w1 (w.heap.size + 2) 1 _ _ _ hx1
    have c2 := cell_of_row w1 (w.heap.size + 2) 2 _ _ _ hx1
    simp only [List.getElem?_toArray, List.getElem?_cons_zero, List.getElem?_cons_succ] at c0 c1 c2
    have f0 := frozen0 (j := 0) hx1
    have f1 := frozen0 (j := 1) hx1
    have f2 := frozen0 (j := 2) hx1
    have HI := hide hI1
    clear hI1
    go_wp2
    refine bodyPost_ret (results_cell_tmp_row rfl _ _ _ _ _ _ _ rfl (heap_set3all hx1) Tryz.underlying96 rfl Tryz.infoNode) rfl ⟨⟨_, rfl, World.ownsRow_nil _ _ _ _⟩, ?_, ?_⟩
    · exact HG.out.mv HI.out ((((Mv.refl B ts none w1).set (j := 0) hx1 HG.out.node (by omega) _).set (j := 1) (heap_set3a hx1) HG.out.node (by omega) _).set (j := 2) (heap_set3 (heap_set3a hx1)) HG.out.node (by omega) _)
    · exact ((hM1.setNew (j := 0) (by omega) hB _).setNew (j := 1) (by omega) hB _).setNew (j := 2) (by omega) hB _
  | some b =>
    have hbl := HG.out.short _ _ hf
    rw [hf] at hcl
    unfold foundV at hcl
    simp only at hcl ⊢
    cases hno : nodeOf b with
    | none =>
      rw [askN_no hf hno]
      simp only
      go_enter Tryz.func42, Tryz.ntmps42
      go_wp2_with fail
      try rw [hw0]
      refine hcl.mono ?_
      rintro e w1 ⟨rfl, hI1, hm1⟩
      have hM1 : Mv B ats none w w1 := (Mv.of H0.out hB).trans hm1 (Nx.refl _ _)
      have hx1 := hm1.k _ _ _ _ HX.out.1 (by decide) (by simp)
      have hp1 := hm1.k _ _ _ _ HX.out.2 (by decide) (by simp)
      have hs1 : w.heap.size ≤ w1.heap.size := Nat.le_trans H0.out.size hm1.size
      clear hcl hm1 k0 k1
      have htn := takeNode_any w1 b (by omega)
      unfold nodeSaid at htn
      rw [hno] at htn
      simp only at htn
      go_wp2_with fail
      refine htn.mono ?_
      rintro e w2 ⟨⟨v, rfl, hov⟩, hb2⟩
      have hx2 := (hb2.block _ (lt_of_heap hx1)).trans hx1
      have hp2 := (hb2.block _ (lt_of_heap hp1)).trans hp1
      have hI2 := HG.out.below hI1 hb2
      have hM2 := hM1.more hb2 (Nat.le_trans hB hs1)
      have hov2 := own_down hov hs1
      have hs2 : w.heap.size ≤ w2.heap.size := Nat.le_trans hs1 hb2.size
      obtain ⟨va, vm, vc, rfl⟩ := row_form hov
      have hx3 := (heap_past w2 (.cells #[.int .i64 0, .slice va vm vc, .string (strB [])] 96) _ (lt_of_heap hx2)).trans hx2
      have hp3 := (heap_past w2 (.cells #[.int .i64 0, .slice va vm vc, .string (strB [])] 96) _ (lt_of_heap hp2)).trans hp2
      have hy3 := heap_last w2 (.cells #[.int .i64 0, .slice va vm vc, .string (strB [])] 96) _ rfl
      have hov3 := hov2.alloc (.cells #[.int .i64 0, .slice va vm vc, .string (strB [])] 96)
      have hI3 := HG.out.below hI2 ((Below.refl _ _).alloc (Nat.le_refl _) (.cells #[.int .i64 0, .slice va vm vc, .string (strB [])] 96))
      have hM3 := hM2.alloc (Nat.le_trans hB hs2) (.cells #[.int .i64 0, .slice va vm vc, .string (strB [])] 96)
      have hs3 : w.heap.size ≤ (w2.alloc (.cells #[.int .i64 0, .slice va vm vc, .string (strB [])] 96)).heap.size := by simp; omega
      generalize hw3 : w2.alloc (.cells #[.int .i64 0, .slice va vm vc, .string (strB [])] 96) = w3 at *
      have n0 := cell_of_row w3 w2.heap.size 0 _ _ _ hy3
      have n1 := cell_of_row w3 w2.heap.size 1 _ _ _ hy3
      have n2 := cell_of_row w3 w2.heap.size 2 _ _ _ hy3
      have p1 := cell_of_row w3 (w.heap.size + 1) 1 _ _ _ hp3
      simp only [List.getElem?_toArray, List.getElem?_cons_zero, List.getElem?_cons_succ] at n0 n1 n2 p1
      have HALL := hide (And.intro hx3 (And.intro hI3 hM3))
      clear hI1 hI2 hI3 hM1 hM2 hM3 hov hov2 hov3 hb2 htn
      go_wp2_with fail
      refine wp_region_held_drew (S := fun W => W.cell? ⟨w2.heap.size, 0, none⟩ = some (.int .i64 0) ∧ W.cell? ⟨w2.heap.size, 1, none⟩ = some (.slice va vm vc) ∧ W.cell? ⟨w2.heap.size, 2, none⟩ = some (.string (strB [])) ∧ W.cell? ⟨w.heap.size + 1, 1, none⟩ = some (.int .i64 p.2)) (by kernel_rfl) (⟨n0, n1, n2, p1⟩) (fun hHeld => ?_)
      refine takeJ 0 (v := ?_) ?_ hHeld ?_
      rotate_left
      · rintro w ⟨_, _, _, _⟩; go_simp; try with_reducible rfl
      refine takeJ 1 (v := ?_) ?_ hHeld ?_
      rotate_left
      · rintro w ⟨_, _, _, _⟩; go_simp; try with_reducible rfl
      refine takeJ 2 (v := ?_) ?_ hHeld ?_
      rotate_left
      · rintro w ⟨_, _, _, _⟩; go_simp; try with_reducible rfl
      refine skipH (i := 3) rfl (by kernel_rfl) (by kernel_rfl) (by kernel_rfl) (fun _ _ _ h => h) rfl hHeld ?_
      try simp only [Act.put, List.setIfInBounds_toArray, List.set_cons_zero, List.set_cons_succ]
      refine skipH (i := 4) rfl (by kernel_rfl) (by kernel_rfl) (by kernel_rfl) (fun _ _ _ h => h) rfl hHeld ?_
      try simp only [Act.put, List.setIfInBounds_toArray, List.set_cons_zero, List.set_cons_succ]
      refine skipH (i := 5) rfl (by kernel_rfl) (by kernel_rfl) (by kernel_rfl) (fun _ _ _ h => h) rfl hHeld ?_
      try simp only [Act.put, List.setIfInBounds_toArray, List.set_cons_zero, List.set_cons_succ]
      refine skipH (i := 6) rfl (by kernel_rfl) (by kernel_rfl) (by kernel_rfl) (fun _ _ _ h => h) rfl hHeld ?_
      try simp only [Act.put, List.setIfInBounds_toArray, List.set_cons_zero, List.set_cons_succ]
      refine skipH (i := 7) rfl (by kernel_rfl) (by kernel_rfl) (by kernel_rfl) (fun _ _ _ h => h) rfl hHeld ?_
      try simp only [Act.put, List.setIfInBounds_toArray, List.set_cons_zero, List.set_cons_succ]
      refine takeJ 8 (v := ?_) ?_ hHeld ?_
      rotate_left
      · rintro w ⟨_, _, _, _⟩; go_simp; try with_reducible rfl
      refine takeJ 9 (v := ?_) ?_ hHeld ?_
      rotate_left
      · rintro w ⟨_, _, _, _⟩; go_simp; try with_reducible rfl
      refine skipH (i := 10) rfl (by kernel_rfl) (by kernel_rfl) (by kernel_rfl) (fun _ _ _ h => h) rfl hHeld ?_
      try simp only [Act.put, List.setIfInBounds_toArray, List.set_cons_zero, List.set_cons_succ]
      refine skipH (i := 11) rfl (by kernel_rfl) (by kernel_rfl) (by kernel_rfl) (fun _ _ _ h => h) rfl hHeld ?_
      try simp only [Act.put, List.setIfInBounds_toArray, List.set_cons_zero, List.set_cons_succ]
      refine skipH (i := 12) rfl (by kernel_rfl) (by kernel_rfl) (by kernel_rfl) (fun _ _ _ h => h) rfl hHeld ?_
      try simp only [Act.put, List.setIfInBounds_toArray, List.set_cons_zero, List.set_cons_succ]
      refine skipH (i := 13) rfl (by kernel_rfl) (by kernel_rfl) (by kernel_rfl) (fun _ _ _ h => h) rfl hHeld ?_
      try simp only [Act.put, List.setIfInBounds_toArray, List.set_cons_zero, List.set_cons_succ]
      refine skipH (i := 14) rfl (by kernel_rfl) (by kernel_rfl) (by kernel_rfl) (fun _ _ _ h => h) rfl hHeld ?_
      try simp only [Act.put, List.setIfInBounds_toArray, List.set_cons_zero, List.set_cons_succ]
      refine skipH (i := 15) rfl (by kernel_rfl) (by kernel_rfl) (by kernel_rfl) (fun _ _ _ h => h) rfl hHeld ?_
      try simp only [Act.put, List.setIfInBounds_toArray, List.set_cons_zero, List.set_cons_succ]
      refine skipH (i := 16) rfl (by kernel_rfl) (by kernel_rfl) (by kernel_rfl) (fun _ _ _ h => h) rfl hHeld ?_
      try simp only [Act.put, List.setIfInBounds_toArray, List.set_cons_zero, List.set_cons_succ]
      refine skipH (i := 17) rfl (by kernel_rfl) (by kernel_rfl) (by kernel_rfl) (fun _ _ _ h => h) rfl hHeld ?_
      try simp only [Act.put, List.setIfInBounds_toArray, List.set_cons_zero, List.set_cons_succ]
      refine skipH (i := 18) rfl (by kernel_rfl) (by kernel_rfl) (by kernel_rfl) (fun _ _ _ h => h) rfl hHeld ?_
      try simp only [Act.put, List.setIfInBounds_toArray, List.set_cons_zero, List.set_cons_succ]
      refine takeJ 19 (v := ?_) ?_ hHeld ?_
      rotate_left
      · rintro w ⟨_, _, _, _⟩; go_simp; try with_reducible rfl
      refine wpAnyH_done (by kernel_rfl) ?_ _
      clear hHeld
      have hx4 : w3.drew.heap[w.heap.size + 2]? = some (.cells #[.int .i64 0, .slice none 0 0, .string ⟨#[]⟩] 96) := HALL.out.1
      have HI := hide (HG.out.mv HALL.out.2.1 ((Mv.refl B ts none w3).drew))
      have hM4 := HALL.out.2.2.drew
      generalize w3.drew = w5 at *
      have c0 := cell_of_row w5 (w.heap.size + 2) 0 _ _ _ hx4
      have c1 := cell_of_row w5 (w.heap.size + 2) 1 _ _ _ hx4
      have c2 := cell_of_row w5 (w.heap.size + 2) 2 _ _ _ hx4
      simp only [List.getElem?_toArray, List.getElem?_cons_zero, List.getElem?_cons_succ] at c0 c1 c2
      have f0 := frozen0 (j := 0) hx4
      have f1 := frozen0 (j := 1) hx4
      have f2 := frozen0 (j := 2) hx4
      go_wp2
      refine bodyPost_ret (results_cell_tmp_row rfl _ _ _ _ _ _ _ rfl (heap_set3all hx4) Tryz.underlying96 rfl Tryz.infoNode) rfl ⟨⟨_, rfl, World.ownsRow_nil _ _ _ _⟩, ?_, ?_⟩
      · exact HG.out.mv HI.out ((((Mv.refl B ts none w5).set (j := 0) hx4 HG.out.node (by omega) _).set (j := 1) (heap_set3a hx4) HG.out.node (by omega) _).set (j := 2) (heap_set3 (heap_set3a hx4)) HG.out.node (by omega) _)
      · exact ((hM4.setNew (j := 0) (by omega) hB _).setNew (j := 1) (by omega) hB _).setNew (j := 2) (by omega) hB _
    | some n =>
      have hr := nodeOf_right hno
      by_cases hsz : sizeN n = p.2
      · by_cases hl1 : level = -1
        · rw [askN_yes hf hno ⟨hsz, .inl hl1⟩]
          have b1 : (level != -1) = false := by rw [hl1]; rfl
          have b2 : (sizeN n != p.2) = false := by rw [hsz]; simp
          simp only
          clear hsz hl1
          go_enter Tryz.func42, Tryz.ntmps42
          go_wp2_with fail
          try rw [hw0]
          refine hcl.mono ?_
          rintro e w1 ⟨rfl, hI1, hm1⟩
          have hM1 : Mv B ats none w w1 := (Mv.of H0.out hB).trans hm1 (Nx.refl _ _)
          have hx1 := hm1.k _ _ _ _ HX.out.1 (by decide) (by simp)
          have hp1 := hm1.k _ _ _ _ HX.out.2 (by decide) (by simp)
          have hs1 : w.heap.size ≤ w1.heap.size := Nat.le_trans H0.out.size hm1.size
          clear hcl hm1 k0 k1
          have htn := takeNode_any w1 b (by omega)
          unfold nodeSaid at htn
          rw [hno] at htn
          simp only at htn
          go_wp2_with fail
          refine htn.mono ?_
          rintro e w2 ⟨⟨v, rfl, hov⟩, hb2⟩
          have hx2 := (hb2.block _ (lt_of_heap hx1)).trans hx1
          have hp2 := (hb2.block _ (lt_of_heap hp1)).trans hp1
          have hI2 := HG.out.below hI1 hb2
          have hM2 := hM1.more hb2 (Nat.le_trans hB hs1)
          have hov2 := own_down hov hs1
          have hs2 : w.heap.size ≤ w2.heap.size := Nat.le_trans hs1 hb2.size
          obtain ⟨va, vm, vc, rfl⟩ := row_form hov
          have hx3 := (heap_past w2 (.cells #[.int .i64 n.1, .slice va vm vc, .string (strB n.2.1)] 96) _ (lt_of_heap hx2)).trans hx2
          have hp3 := (heap_past w2 (.cells #[.int .i64 n.1, .slice va vm vc, .string (strB n.2.1)] 96) _ (lt_of_heap hp2)).trans hp2
          have hy3 := heap_last w2 (.cells #[.int .i64 n.1, .slice va vm vc, .string (strB n.2.1)] 96) _ rfl
          have hov3 := hov2.alloc (.cells #[.int .i64 n.1, .slice va vm vc, .string (strB n.2.1)] 96)
          have hI3 := HG.out.below hI2 ((Below.refl _ _).alloc (Nat.le_refl _) (.cells #[.int .i64 n.1, .slice va vm vc, .string (strB n.2.1)] 96))
          have hM3 := hM2.alloc (Nat.le_trans hB hs2) (.cells #[.int .i64 n.1, .slice va vm vc, .string (strB n.2.1)] 96)
          have hs3 : w.heap.size ≤ (w2.alloc (.cells #[.int .i64 n.1, .slice va vm vc, .string (strB n.2.1)] 96)).heap.size := by simp; omega
          generalize hw3 : w2.alloc (.cells #[.int .i64 n.1, .slice va vm vc, .string (strB n.2.1)] 96) = w3 at *
          have n0 := cell_of_row w3 w2.heap.size 0 _ _ _ hy3
          have n1 := cell_of_row w3 w2.heap.size 1 _ _ _ hy3
          have n2 := cell_of_row w3 w2.heap.size 2 _ _ _ hy3
          have p1 := cell_of_row w3 (w.heap.size + 1) 1 _ _ _ hp3
          simp only [List.getElem?_toArray, List.getElem?_cons_zero, List.getElem?_cons_succ] at n0 n1 n2 p1
          have hns := nsize_any w3.drew (.slice va vm vc) n (ls_of_own partC_length hov3) hr
          have HALL := hide (And.intro hx3 (And.intro hI3 (And.intro hM3 (And.intro hov3 hy3))))
          have HS3 := hide (And.intro hp3 hy3)
          clear hI1 hI2 hI3 hM1 hM2 hM3 hov hov2 hov3 hb2 htn
          go_wp2_with fail
          refine wp_region_held_drew (S := fun W => W.cell? ⟨w2.heap.size, 0, none⟩ = some (.int .i64 n.1) ∧ W.cell? ⟨w2.heap.size, 1, none⟩ = some (.slice va vm vc) ∧ W.cell? ⟨w2.heap.size, 2, none⟩ = some (.string (strB n.2.1)) ∧ W.cell? ⟨w.heap.size + 1, 1, none⟩ = some (.int .i64 p.2)) (by kernel_rfl) (⟨n0, n1, n2, p1⟩) (fun hHeld => ?_)
          refine takeJ 0 (v := ?_) ?_ hHeld ?_
          rotate_left
          · rintro w ⟨_, _, _, _⟩; go_simp; try with_reducible rfl
          refine takeJ 1 (v := ?_) ?_ hHeld ?_
          rotate_left
          · rintro w ⟨_, _, _, _⟩; go_simp; try with_reducible rfl
          refine takeJ 2 (v := ?_) ?_ hHeld ?_
          rotate_left
          · rintro w ⟨_, _, _, _⟩; go_simp; try with_reducible rfl
          refine takeJ 3 (v := ?_) ?_ hHeld ?_
          rotate_left
          · rintro w ⟨_, _, _, _⟩; go_simp; try with_reducible rfl
          refine takeJ 5 (v := ?_) ?_ hHeld ?_
          rotate_left
          · rintro w ⟨_, _, _, _⟩; go_simp; try with_reducible rfl
          refine takeJ 6 (v := ?_) ?_ hHeld ?_
          rotate_left
          · rintro w ⟨_, _, _, _⟩; go_simp; try with_reducible rfl
          refine onlyH (i := 4) rfl (by kernel_rfl) rfl (fun K hK => ?_)
          go_simp
          refine hns.mono ?_
          rintro e w4 ⟨rfl, hb4⟩
          have hx4 := (hb4.block _ (lt_of_heap HALL.out.1)).trans HALL.out.1
          have hp4 := (hb4.block _ (lt_of_heap HS3.out.1)).trans HS3.out.1
          have hy4 := (hb4.block _ (lt_of_heap HS3.out.2)).trans HS3.out.2
          have n0 := cell_of_row w4 w2.heap.size 0 _ _ _ hy4
          have n1 := cell_of_row w4 w2.heap.size 1 _ _ _ hy4
          have n2 := cell_of_row w4 w2.heap.size 2 _ _ _ hy4
          have p1 := cell_of_row w4 (w.heap.size + 1) 1 _ _ _ hp4
          simp only [List.getElem?_toArray, List.getElem?_cons_zero, List.getElem?_cons_succ] at n0 n1 n2 p1
          have hI5 := HG.out.below HALL.out.2.1 (show Below w3.heap.size w3 w4 from (Below.refl _ _).drew.trans hb4)
          have hM5 := HALL.out.2.2.1.more (show Below w3.heap.size w3 w4 from (Below.refl _ _).drew.trans hb4) (Nat.le_trans hB hs3)
          have hov5 := own_below HALL.out.2.2.2.1 (show Below w3.heap.size w3 w4 from (Below.refl _ _).drew.trans hb4)
          have HALL2 := hide (And.intro hx4 (And.intro hI5 (And.intro hM5 hov5)))
          clear hI5 hM5 hov5 hx4 hp4 hy4 hb4
          refine hK.out _ _ (⟨n0, n1, n2, p1⟩) (fun hHeld => ?_)
          clear hK K
          try simp only [Act.put, List.setIfInBounds_toArray, List.set_cons_zero, List.set_cons_succ]
          refine takeJ 7 (v := ?_) ?_ hHeld ?_
          rotate_left
          · rintro w ⟨_, _, _, _⟩; go_simp; try with_reducible rfl
          refine takeJ 8 (v := ?_) ?_ hHeld ?_
          rotate_left
          · rintro w ⟨_, _, _, _⟩; go_simp; try with_reducible rfl
          refine takeJ 9 (v := ?_) ?_ hHeld ?_
          rotate_left
          · rintro w ⟨_, _, _, _⟩; go_simp; try with_reducible rfl
          refine takeJ 10 (v := ?_) ?_ hHeld ?_
          rotate_left
          · rintro w ⟨_, _, _, _⟩; go_simp; try with_reducible rfl
          refine takeJ 11 (v := ?_) ?_ hHeld ?_
          rotate_left
          · rintro w ⟨_, _, _, _⟩; go_simp; try with_reducible rfl
          refine takeJ 12 (v := ?_) ?_ hHeld ?_
          rotate_left
          · rintro w ⟨_, _, _, _⟩; go_simp; try with_reducible rfl
          refine skipH (i := 13) rfl (by kernel_rfl) (by kernel_rfl) (by kernel_rfl) (fun _ _ _ h => h) rfl hHeld ?_
          try simp only [Act.put, List.setIfInBounds_toArray, List.set_cons_zero, List.set_cons_succ]
          refine skipH (i := 14) rfl (by kernel_rfl) (by kernel_rfl) (by kernel_rfl) (fun _ _ _ h => h) rfl hHeld ?_
          try simp only [Act.put, List.setIfInBounds_toArray, List.set_cons_zero, List.set_cons_succ]
          refine skipH (i := 15) rfl (by kernel_rfl) (by kernel_rfl) (by kernel_rfl) (fun _ _ _ h => h) rfl hHeld ?_
          try simp only [Act.put, List.setIfInBounds_toArray, List.set_cons_zero, List.set_cons_succ]
          refine skipH (i := 16) rfl (by kernel_rfl) (by kernel_rfl) (by kernel_rfl) (fun _ _ _ h => h) rfl hHeld ?_
          try simp only [Act.put, List.setIfInBounds_toArray, List.set_cons_zero, List.set_cons_succ]
          refine skipH (i := 17) rfl (by kernel_rfl) (by kernel_rfl) (by kernel_rfl) (fun _ _ _ h => h) rfl hHeld ?_
          try simp only [Act.put, List.setIfInBounds_toArray, List.set_cons_zero, List.set_cons_succ]
          refine takeJ 18 (v := ?_) ?_ hHeld ?_
          rotate_left
          · rintro w ⟨_, _, _, _⟩; go_simp; try with_reducible rfl
          refine takeJ 19 (v := ?_) ?_ hHeld ?_
          rotate_left
          · rintro w ⟨_, _, _, _⟩; go_simp; try with_reducible rfl
          refine wpAnyH_done (by kernel_rfl) ?_ _
          clear hHeld
          obtain ⟨hx6, hI6, hM6, hov6⟩ := HALL2.out
          have c0 := cell_of_row w4 (w.heap.size + 2) 0 _ _ _ hx6
          have c1 := cell_of_row w4 (w.heap.size + 2) 1 _ _ _ hx6
          have c2 := cell_of_row w4 (w.heap.size + 2) 2 _ _ _ hx6
          simp only [List.getElem?_toArray, List.getElem?_cons_zero, List.getElem?_cons_succ] at c0 c1 c2
          have f0 := frozen0 (j := 0) hx6
          have f1 := frozen0 (j := 1) hx6
          have f2 := frozen0 (j := 2) hx6
          have HI := hide hI6
          clear hI6
          go_wp2
          refine bodyPost_ret (results_cell_tmp_row rfl _ _ _ _ _ _ _ rfl (heap_set3all hx6) Tryz.underlying96 rfl Tryz.infoNode) rfl ⟨⟨_, rfl, own_setCell (own_setCell (own_setCell hov6 hx6 (by decide) _) (heap_set3a hx6) (by decide) _) (heap_set3 (heap_set3a hx6)) (by decide) _⟩, ?_, ?_⟩
          · exact HG.out.mv HI.out ((((Mv.refl B ts none w4).set (j := 0) hx6 HG.out.node (by omega) _).set (j := 1) (heap_set3a hx6) HG.out.node (by omega) _).set (j := 2) (heap_set3 (heap_set3a hx6)) HG.out.node (by omega) _)
          · exact ((hM6.setNew (j := 0) (by omega) hB _).setNew (j := 1) (by omega) hB _).setNew (j := 2) (by omega) hB _
        · by_cases hl2 : level = n.1
          · rw [askN_yes hf hno ⟨hsz, .inr hl2⟩]
            have b1 : (level != -1) = true := by simpa using hl1
            have b2 : (sizeN n != p.2) = false := by rw [hsz]; simp
            have b3 : (level != n.1) = false := by rw [hl2]; simp
            simp only
            clear hsz hl1 hl2
            go_enter Tryz.func42, Tryz.ntmps42
            go_wp2_with fail
            try rw [hw0]
            refine hcl.mono ?_
            rintro e w1 ⟨rfl, hI1, hm1⟩
            have hM1 : Mv B ats none w w1 := (Mv.of H0.out hB).trans hm1 (Nx.refl _ _)
            have hx1 := hm1.k _ _ _ _ HX.out.1 (by decide) (by simp)
            have hp1 := hm1.k _ _ _ _ HX.out.2 (by decide) (by simp)
            have hs1 : w.heap.size ≤ w1.heap.size := Nat.le_trans H0.out.size hm1.size
            clear hcl hm1 k0 k1
            have htn := takeNode_any w1 b (by omega)
            unfold nodeSaid at htn
            rw [hno] at htn
            simp only at htn
            go_wp2_with fail
            refine htn.mono ?_
            rintro e w2 ⟨⟨v, rfl, hov⟩, hb2⟩
            have hx2 := (hb2.block _ (lt_of_heap hx1)).trans hx1
            have hp2 := (hb2.block _ (lt_of_heap hp1)).trans hp1
            have hI2 := HG.out.below hI1 hb2
            have hM2 := hM1.more hb2 (Nat.le_trans hB hs1)
            have hov2 := own_down hov hs1
            have hs2 : w.heap.size ≤ w2.heap.size := Nat.le_trans hs1 hb2.size
            obtain ⟨va, vm, vc, rfl⟩ := row_form hov
            have hx3 := (heap_past w2 (.cells #[.int .i64 n.1, .slice va vm vc, .string (strB n.2.1)] 96) _ (lt_of_heap hx2)).trans hx2
            have hp3 := (heap_past w2 (.cells #[.int .i64 n.1, .slice va vm vc, .string (strB n.2.1)] 96) _ (lt_of_heap hp2)).trans hp2
            have hy3 := heap_last w2 (.cells #[.int .i64 n.1, .slice va vm vc, .string (strB n.2.1)] 96) _ rfl
            have hov3 := hov2.alloc (.cells #[.int .i64 n.1, .slice va vm vc, .string (strB n.2.1)] 96)
            have hI3 := HG.out.below hI2 ((Below.refl _ _).alloc (Nat.le_refl _) (.cells #[.int .i64 n.1, .slice va vm vc, .string (strB n.2.1)] 96))
            have hM3 := hM2.alloc (Nat.le_trans hB hs2) (.cells #[.int .i64 n.1, .slice va vm vc, .string (strB n.2.1)] 96)
            have hs3 : w.heap.size ≤ (w2.alloc (.cells #[.int .i64 n.1, .slice va vm vc, .string (strB n.2.1)] 96)).heap.size := by simp; omega
            generalize hw3 : w2.alloc (.cells #[.int .i64 n.1, .slice va vm vc, .string (strB n.2.1)] 96) = w3 at *
            have n0 := cell_of_row w3 w2.heap.size 0 _ _ _ hy3
            have n1 := cell_of_row w3 w2.heap.size 1 _ _ _ hy3
            have n2 := cell_of_row w3 w2.heap.size 2 _ _ _ hy3
            have p1 := cell_of_row w3 (w.heap.size + 1) 1 _ _ _ hp3
            simp only [List.getElem?_toArray, List.getElem?_cons_zero, List.getElem?_cons_succ] at n0 n1 n2 p1
            have hns := nsize_any w3.drew (.slice va vm vc) n (ls_of_own partC_length hov3) hr
            have HALL := hide (And.intro hx3 (And.intro hI3 (And.intro hM3 (And.intro hov3 hy3))))
            have HS3 := hide (And.intro hp3 hy3)
            clear hI1 hI2 hI3 hM1 hM2 hM3 hov hov2 hov3 hb2 htn
            go_wp2_with fail
            refine wp_region_held_drew (S := fun W => W.cell? ⟨w2.heap.size, 0, none⟩ = some (.int .i64 n.1) ∧ W.cell? ⟨w2.heap.size, 1, none⟩ = some (.slice va vm vc) ∧ W.cell? ⟨w2.heap.size, 2, none⟩ = some (.string (strB n.2.1)) ∧ W.cell? ⟨w.heap.size + 1, 1, none⟩ = some (.int .i64 p.2)) (by kernel_rfl) (⟨n0, n1, n2, p1⟩) (fun hHeld => ?_)
            refine takeJ 0 (v := ?_) ?_ hHeld ?_
            rotate_left
            · rintro w ⟨_, _, _, _⟩; go_simp; try with_reducible rfl
            refine takeJ 1 (v := ?_) ?_ hHeld ?_
            rotate_left
            · rintro w ⟨_, _, _, _⟩; go_simp; try with_reducible rfl
            refine takeJ 2 (v := ?_) ?_ hHeld ?_
            rotate_left
            · rintro w ⟨_, _, _, _⟩; go_simp; try with_reducible rfl
            refine takeJ 3 (v := ?_) ?_ hHeld ?_
            rotate_left
            · rintro w ⟨_, _, _, _⟩; go_simp; try with_reducible rfl
            refine takeJ 5 (v := ?_) ?_ hHeld ?_
            rotate_left
            · rintro w ⟨_, _, _, _⟩; go_simp; try with_reducible rfl
            refine takeJ 6 (v := ?_) ?_ hHeld ?_
            rotate_left
            · rintro w ⟨_, _, _, _⟩; go_simp; try with_reducible rfl
            refine onlyH (i := 4) rfl (by kernel_rfl) rfl (fun K hK => ?_)
            go_simp
            refine hns.mono ?_
            rintro e w4 ⟨rfl, hb4⟩
            have hx4 := (hb4.block _ (lt_of_heap HALL.out.1)).trans HALL.out.1
            have hp4 := (hb4.block _ (lt_of_heap HS3.out.1)).trans HS3.out.1
            have hy4 := (hb4.block _ (lt_of_heap HS3.out.2)).trans HS3.out.2
            have n0 := cell_of_row w4 w2.heap.size 0 _ _ _ hy4
            have n1 := cell_of_row w4 w2.heap.size 1 _ _ _ hy4
            have n2 := cell_of_row w4 w2.heap.size 2 _ _ _ hy4
            have p1 := cell_of_row w4 (w.heap.size + 1) 1 _ _ _ hp4
            simp only [List.getElem?_toArray, List.getElem?_cons_zero, List.getElem?_cons_succ] at n0 n1 n2 p1
            have hI5 := HG.out.below HALL.out.2.1 (show Below w3.heap.size w3 w4 from (Below.refl _ _).drew.trans hb4)
            have hM5 := HALL.out.2.2.1.more (show Below w3.heap.size w3 w4 from (Below.refl _ _).drew.trans hb4) (Nat.le_trans hB hs3)
            have hov5 := own_below HALL.out.2.2.2.1 (show Below w3.heap.size w3 w4 from (Below.refl _ _).drew.trans hb4)
            have HALL2 := hide (And.intro hx4 (And.intro hI5 (And.intro hM5 hov5)))
            clear hI5 hM5 hov5 hx4 hp4 hy4 hb4
            refine hK.out _ _ (⟨n0, n1, n2, p1⟩) (fun hHeld => ?_)
            clear hK K
            try simp only [Act.put, List.setIfInBounds_toArray, List.set_cons_zero, List.set_cons_succ]
            refine takeJ 7 (v := ?_) ?_ hHeld ?_
            rotate_left
            · rintro w ⟨_, _, _, _⟩; go_simp; try with_reducible rfl
            refine takeJ 8 (v := ?_) ?_ hHeld ?_
            rotate_left
            · rintro w ⟨_, _, _, _⟩; go_simp; try with_reducible rfl
            refine takeJ 9 (v := ?_) ?_ hHeld ?_
            rotate_left
            · rintro w ⟨_, _, _, _⟩; go_simp; try with_reducible rfl
            refine takeJ 10 (v := ?_) ?_ hHeld ?_
            rotate_left
            · rintro w ⟨_, _, _, _⟩; go_simp; try with_reducible rfl
            refine takeJ 11 (v := ?_) ?_ hHeld ?_
            rotate_left
            · rintro w ⟨_, _, _, _⟩; go_simp; try with_reducible rfl
            refine takeJ 12 (v := ?_) ?_ hHeld ?_
            rotate_left
            · rintro w ⟨_, _, _, _⟩; go_simp; try with_reducible rfl
            refine takeJ 13 (v := ?_) ?_ hHeld ?_
            rotate_left
            · rintro w ⟨_, _, _, _⟩; go_simp; try with_reducible rfl
            refine takeJ 14 (v := ?_) ?_ hHeld ?_
            rotate_left
            · rintro w ⟨_, _, _, _⟩; go_simp; try with_reducible rfl
            refine takeJ 15 (v := ?_) ?_ hHeld ?_
            rotate_left
            · rintro w ⟨_, _, _, _⟩; go_simp; try with_reducible rfl
            refine takeJ 16 (v := ?_) ?_ hHeld ?_
            rotate_left
            · rintro w ⟨_, _, _, _⟩; go_simp; try with_reducible rfl
            refine takeJ 17 (v := ?_) ?_ hHeld ?_
            rotate_left
            · rintro w ⟨_, _, _, _⟩; go_simp; try with_reducible rfl
            refine takeJ 18 (v := ?_) ?_ hHeld ?_
            rotate_left
            · rintro w ⟨_, _, _, _⟩; go_simp; try with_reducible rfl
            refine takeJ 19 (v := ?_) ?_ hHeld ?_
            rotate_left
            · rintro w ⟨_, _, _, _⟩; go_simp; try with_reducible rfl
            refine wpAnyH_done (by kernel_rfl) ?_ _
            clear hHeld
            obtain ⟨hx6, hI6, hM6, hov6⟩ := HALL2.out
            have c0 := cell_of_row w4 (w.heap.size + 2) 0 _ _ _ hx6
            have c1 := cell_of_row w4 (w.heap.size + 2) 1 _ _ _ hx6
            have c2 := cell_of_row w4 (w.heap.size + 2) 2 _ _ _ hx6
            simp only [List.getElem?_toArray, List.getElem?_cons_zero, List.getElem?_cons_succ] at c0 c1 c2
            have f0 := frozen0 (j := 0) hx6
            have f1 := frozen0 (j := 1) hx6
            have f2 := frozen0 (j := 2) hx6
            have HI := hide hI6
            clear hI6
            go_wp2
            refine bodyPost_ret (results_cell_tmp_row rfl _ _ _ _ _ _ _ rfl (heap_set3all hx6) Tryz.underlying96 rfl Tryz.infoNode) rfl ⟨⟨_, rfl, own_setCell (own_setCell (own_setCell hov6 hx6 (by decide) _) (heap_set3a hx6) (by decide) _) (heap_set3 (heap_set3a hx6)) (by decide) _⟩, ?_, ?_⟩
            · exact HG.out.mv HI.out ((((Mv.refl B ts none w4).set (j := 0) hx6 HG.out.node (by omega) _).set (j := 1) (heap_set3a hx6) HG.out.node (by omega) _).set (j := 2) (heap_set3 (heap_set3a hx6)) HG.out.node (by omega) _)
            · exact ((hM6.setNew (j := 0) (by omega) hB _).setNew (j := 1) (by omega) hB _).setNew (j := 2) (by omega) hB _
          · rw [askN_not hf hno (fun h => h.2.elim hl1 hl2)]
            have b1 : (level != -1) = true := by simpa using hl1
            have b2 : (sizeN n != p.2) = false := by rw [hsz]; simp
            have b3 : (level != n.1) = true := by simpa using hl2
            simp only
            clear hsz hl1 hl2
            go_enter Tryz.func42, Tryz.ntmps42
            go_wp2_with fail
            try rw [hw0]
            refine hcl.mono ?_
            rintro e w1 ⟨rfl, hI1, hm1⟩
            have hM1 : Mv B ats none w w1 := (Mv.of H0.out hB).trans hm1 (Nx.refl _ _)
            have hx1 := hm1.k _ _ _ _ HX.out.1 (by decide) (by simp)
            have hp1 := hm1.k _ _ _ _ HX.out.2 (by decide) (by simp)
            have hs1 : w.heap.size ≤ w1.heap.size := Nat.le_trans H0.out.size hm1.size
            clear hcl hm1 k0 k1
            have htn := takeNode_any w1 b (by omega)
            unfold nodeSaid at htn
            rw [hno] at htn
            simp only at htn
            go_wp2_with fail
            refine htn.mono ?_
            rintro e w2 ⟨⟨v, rfl, hov⟩, hb2⟩
            have hx2 := (hb2.block _ (lt_of_heap hx1)).trans hx1
            have hp2 := (hb2.block _ (lt_of_heap hp1)).trans hp1
            have hI2 := HG.out.below hI1 hb2
            have hM2 := hM1.more hb2 (Nat.le_trans hB hs1)
            have hov2 := own_down hov hs1
            have hs2 : w.heap.size ≤ w2.heap.size := Nat.le_trans hs1 hb2.size
            obtain ⟨va, vm, vc, rfl⟩ := row_form hov
            have hx3 := (heap_past w2 (.cells #[.int .i64 n.1, .slice va vm vc, .string (strB n.2.1)] 96) _ (lt_of_heap hx2)).trans hx2
            have hp3 := (heap_past w2 (.cells #[.int .i64 n.1, .slice va vm vc, .string (strB n.2.1)] 96) _ (lt_of_heap hp2)).trans hp2
            have hy3 := heap_last w2 (.cells #[.int .i64 n.1, .slice va vm vc, .string (strB n.2.1)] 96) _ rfl
            have hov3 := hov2.alloc (.cells #[.int .i64 n.1, .slice va vm vc, .string (strB n.2.1)] 96)
            have hI3 := HG.out.below hI2 ((Below.refl _ _).alloc (Nat.le_refl _) (.cells #[.int .i64 n.1, .slice va vm vc, .string (strB n.2.1)] 96))
            have hM3 := hM2.alloc (Nat.le_trans hB hs2) (.cells #[.int .i64 n.1, .slice va vm vc, .string (strB n.2.1)] 96)
            have hs3 : w.heap.size ≤ (w2.alloc (.cells #[.int .i64 n.1, .slice va vm vc, .string (strB n.2.1)] 96)).heap.size := by simp; omega
            generalize hw3 : w2.alloc (.cells #[.int .i64 n.1, .slice va vm vc, .string (strB n.2.1)] 96) = w3 at *
            have n0 := cell_of_row w3 w2.heap.size 0 _ _ _ hy3
            have n1 := cell_of_row w3 w2.heap.size 1 _ _ _ hy3
            have n2 := cell_of_row w3 w2.heap.size 2 _ _ _ hy3
            have p1 := cell_of_row w3 (w.heap.size + 1) 1 _ _ _ hp3
            simp only [List.getElem?_toArray, List.getElem?_cons_zero, List.getElem?_cons_succ] at n0 n1 n2 p1
            have hns := nsize_any w3.drew (.slice va vm vc) n (ls_of_own partC_length hov3) hr
            have HALL := hide (And.intro hx3 (And.intro hI3 (And.intro hM3 (And.intro hov3 hy3))))
            have HS3 := hide (And.intro hp3 hy3)
            clear hI1 hI2 hI3 hM1 hM2 hM3 hov hov2 hov3 hb2 htn
            go_wp2_with fail
            refine wp_region_held_drew (S := fun W => W.cell? ⟨w2.heap.size, 0, none⟩ = some (.int .i64 n.1) ∧ W.cell? ⟨w2.heap.size, 1, none⟩ = some (.slice va vm vc) ∧ W.cell? ⟨w2.heap.size, 2, none⟩ = some (.string (strB n.2.1)) ∧ W.cell? ⟨w.heap.size + 1, 1, none⟩ = some (.int .i64 p.2)) (by kernel_rfl) (⟨n0, n1, n2, p1⟩) (fun hHeld => ?_)
            refine takeJ 0 (v := ?_) ?_ hHeld ?_
            rotate_left
            · rintro w ⟨_, _, _, _⟩; go_simp; try with_reducible rfl
            refine takeJ 1 (v := ?_) ?_ hHeld ?_
            rotate_left
            · rintro w ⟨_, _, _, _⟩; go_simp; try with_reducible rfl
            refine takeJ 2 (v := ?_) ?_ hHeld ?_
            rotate_left
            · rintro w ⟨_, _, _, _⟩; go_simp; try with_reducible rfl
            refine takeJ 3 (v := ?_) ?_ hHeld ?_
            rotate_left
            · rintro w ⟨_, _, _, _⟩; go_simp; try with_reducible rfl
            refine takeJ 5 (v := ?_) ?_ hHeld ?_
            rotate_left
            · rintro w ⟨_, _, _, _⟩; go_simp; try with_reducible rfl
            refine takeJ 6 (v := ?_) ?_ hHeld ?_
            rotate_left
            · rintro w ⟨_, _, _, _⟩; go_simp; try with_reducible rfl
            refine onlyH (i := 4) rfl (by kernel_rfl) rfl (fun K hK => ?_)
            go_simp
            refine hns.mono ?_
            rintro e w4 ⟨rfl, hb4⟩
            have hx4 := (hb4.block _ (lt_of_heap HALL.out.1)).trans HALL.out.1
            have hp4 := (hb4.block _ (lt_of_heap HS3.out.1)).trans HS3.out.1
            have hy4 := (hb4.block _ (lt_of_heap HS3.out.2)).trans HS3.out.2
            have n0 := cell_of_row w4 w2.heap.size 0 _ _ _ hy4
            have n1 := cell_of_row w4 w2.heap.size 1 _ _ _ hy4
            have n2 := cell_of_row w4 w2.heap.size 2 _ _ _ hy4
            have p1 := cell_of_row w4 (w.heap.size + 1) 1 _ _ _ hp4
            simp only [List.getElem?_toArray, List.getElem?_cons_zero, List.getElem?_cons_succ] at n0 n1 n2 p1
            have hI5 := HG.out.below HALL.out.2.1 (show Below w3.heap.size w3 w4 from (Below.refl _ _).drew.trans hb4)
            have hM5 := HALL.out.2.2.1.more (show Below w3.heap.size w3 w4 from (Below.refl _ _).drew.trans hb4) (Nat.le_trans hB hs3)
            have hov5 := own_below HALL.out.2.2.2.1 (show Below w3.heap.size w3 w4 from (Below.refl _ _).drew.trans hb4)
            have HALL2 := hide (And.intro hx4 (And.intro hI5 (And.intro hM5 hov5)))
            clear hI5 hM5 hov5 hx4 hp4 hy4 hb4
            refine hK.out _ _ (⟨n0, n1, n2, p1⟩) (fun hHeld => ?_)
            clear hK K
            try simp only [Act.put, List.setIfInBounds_toArray, List.set_cons_zero, List.set_cons_succ]
            refine takeJ 7 (v := ?_) ?_ hHeld ?_
            rotate_left
            · rintro w ⟨_, _, _, _⟩; go_simp; try with_reducible rfl
            refine takeJ 8 (v := ?_) ?_ hHeld ?_
            rotate_left
            · rintro w ⟨_, _, _, _⟩; go_simp; try with_reducible rfl
            refine takeJ 9 (v := ?_) ?_ hHeld ?_
            rotate_left
            · rintro w ⟨_, _, _, _⟩; go_simp; try with_reducible rfl
            refine takeJ 10 (v := ?_) ?_ hHeld ?_
            rotate_left
            · rintro w ⟨_, _, _, _⟩; go_simp; try with_reducible rfl
            refine takeJ 11 (v := ?_) ?_ hHeld ?_
            rotate_left
            · rintro w ⟨_, _, _, _⟩; go_simp; try with_reducible rfl
            refine takeJ 12 (v := ?_) ?_ hHeld ?_
            rotate_left
            · rintro w ⟨_, _, _, _⟩; go_simp; try with_reducible rfl
            refine takeJ 13 (v := ?_) ?_ hHeld ?_
            rotate_left
            · rintro w ⟨_, _, _, _⟩; go_simp; try with_reducible rfl
            refine takeJ 14 (v := ?_) ?_ hHeld ?_
            rotate_left
            · rintro w ⟨_, _, _, _⟩; go_simp; try with_reducible rfl
            refine takeJ 15 (v := ?_) ?_ hHeld ?_
            rotate_left
            · rintro w ⟨_, _, _, _⟩; go_simp; try with_reducible rfl
            refine takeJ 16 (v := ?_) ?_ hHeld ?_
            rotate_left
            · rintro w ⟨_, _, _, _⟩; go_simp; try with_reducible rfl
            refine takeJ 17 (v := ?_) ?_ hHeld ?_
            rotate_left
            · rintro w ⟨_, _, _, _⟩; go_simp; try with_reducible rfl
            refine takeJ 18 (v := ?_) ?_ hHeld ?_
            rotate_left
            · rintro w ⟨_, _, _, _⟩; go_simp; try with_reducible rfl
            refine takeJ 19 (v := ?_) ?_ hHeld ?_
            rotate_left
            · rintro w ⟨_, _, _, _⟩; go_simp; try with_reducible rfl
            refine wpAnyH_done (by kernel_rfl) ?_ _
            clear hHeld
            obtain ⟨hx6, hI6, hM6, hov6⟩ := HALL2.out
            have c0 := cell_of_row w4 (w.heap.size + 2) 0 _ _ _ hx6
            have c1 := cell_of_row w4 (w.heap.size + 2) 1 _ _ _ hx6
            have c2 := cell_of_row w4 (w.heap.size + 2) 2 _ _ _ hx6
            simp only [List.getElem?_toArray, List.getElem?_cons_zero, List.getElem?_cons_succ] at c0 c1 c2
            have f0 := frozen0 (j := 0) hx6
            have f1 := frozen0 (j := 1) hx6
            have f2 := frozen0 (j := 2) hx6
            have HI := hide hI6
            clear hI6
            go_wp2
            refine bodyPost_ret (results_cell_tmp_row rfl _ _ _ _ _ _ _ rfl (heap_set3all hx6) Tryz.underlying96 rfl Tryz.infoNode) rfl ⟨⟨_, rfl, World.ownsRow_nil _ _ _ _⟩, ?_, ?_⟩
            · exact HG.out.mv HI.out ((((Mv.refl B ts none w4).set (j := 0) hx6 HG.out.node (by omega) _).set (j := 1) (heap_set3a hx6) HG.out.node (by omega) _).set (j := 2) (heap_set3 (heap_set3a hx6)) HG.out.node (by omega) _)
            · exact ((hM6.setNew (j := 0) (by omega) hB _).setNew (j := 1) (by omega) hB _).setNew (j := 2) (by omega) hB _
      · rw [askN_not hf hno (fun h => hsz h.1)]
        have b2 : (sizeN n != p.2) = true := by simpa using hsz
        simp only
        clear hsz
        go_enter Tryz.func42, Tryz.ntmps42
        go_wp2_with fail
        try rw [hw0]
        refine hcl.mono ?_
        rintro e w1 ⟨rfl, hI1, hm1⟩
        have hM1 : Mv B ats none w w1 := (Mv.of H0.out hB).trans hm1 (Nx.refl _ _)
        have hx1 := hm1.k _ _ _ _ HX.out.1 (by decide) (by simp)
        have hp1 := hm1.k _ _ _ _ HX.out.2 (by decide) (by simp)
        have hs1 : w.heap.size ≤ w1.heap.size := Nat.le_trans H0.out.size hm1.size
        clear hcl hm1 k0 k1
        have htn := takeNode_any w1 b (by omega)
        unfold nodeSaid at htn
        rw [hno] at htn
        simp only at htn
        go_wp2_with fail
        refine htn.mono ?_
        rintro e w2 ⟨⟨v, rfl, hov⟩, hb2⟩
        have hx2 := (hb2.block _ (lt_of_heap hx1)).trans hx1
        have hp2 := (hb2.block _ (lt_of_heap hp1)).trans hp1
        have hI2 := HG.out.below hI1 hb2
        have hM2 := hM1.more hb2 (Nat.le_trans hB hs1)
        have hov2 := own_down hov hs1
        have hs2 : w.heap.size ≤ w2.heap.size := Nat.le_trans hs1 hb2.size
        obtain ⟨va, vm, vc, rfl⟩ := row_form hov
        have hx3 := (heap_past w2 (.cells #[.int .i64 n.1, .slice va vm vc, .string (strB n.2.1)] 96) _ (lt_of_heap hx2)).trans hx2
        have hp3 := (heap_past w2 (.cells #[.int .i64 n.1, .slice va vm vc, .string (strB n.2.1)] 96) _ (lt_of_heap hp2)).trans hp2
        have hy3 := heap_last w2 (.cells #[.int .i64 n.1, .slice va vm vc, .string (strB n.2.1)] 96) _ rfl
        have hov3 := hov2.alloc (.cells #[.int .i64 n.1, .slice va vm vc, .string (strB n.2.1)] 96)
        have hI3 := HG.out.below hI2 ((Below.refl _ _).alloc (Nat.le_refl _) (.cells #[.int .i64 n.1, .slice va vm vc, .string (strB n.2.1)] 96))
        have hM3 := hM2.alloc (Nat.le_trans hB hs2) (.cells #[.int .i64 n.1, .slice va vm vc, .string (strB n.2.1)] 96)
        have hs3 : w.heap.size ≤ (w2.alloc (.cells #[.int .i64 n.1, .slice va vm vc, .string (strB n.2.1)] 96)).heap.size := by simp; omega
        generalize hw3 : w2.alloc (.cells #[.int .i64 n.1, .slice va vm vc, .string (strB n.2.1)] 96) = w3 at *
        have n0 := cell_of_row w3 w2.heap.size 0 _ _ _ hy3
        have n1 := cell_of_row w3 w2.heap.size 1 _ _ _ hy3
        have n2 := cell_of_row w3 w2.heap.size 2 _ _ _ hy3
        have p1 := cell_of_row w3 (w.heap.size + 1) 1 _ _ _ hp3
        simp only [List.getElem?_toArray, List.getElem?_cons_zero, List.getElem?_cons_succ] at n0 n1 n2 p1
        have hns := nsize_any w3.drew (.slice va vm vc) n (ls_of_own partC_length hov3) hr
        have HALL := hide (And.intro hx3 (And.intro hI3 (And.intro hM3 (And.intro hov3 hy3))))
        have HS3 := hide (And.intro hp3 hy3)
        clear hI1 hI2 hI3 hM1 hM2 hM3 hov hov2 hov3 hb2 htn
        go_wp2_with fail
        refine wp_region_held_drew (S := fun W => W.cell? ⟨w2.heap.size, 0, none⟩ = some (.int .i64 n.1) ∧ W.cell? ⟨w2.heap.size, 1, none⟩ = some (.slice va vm vc) ∧ W.cell? ⟨w2.heap.size, 2, none⟩ = some (.string (strB n.2.1)) ∧ W.cell? ⟨w.heap.size + 1, 1, none⟩ = some (.int .i64 p.2)) (by kernel_rfl) (⟨n0, n1, n2, p1⟩) (fun hHeld => ?_)
        refine takeJ 0 (v := ?_) ?_ hHeld ?_
        rotate_left
        · rintro w ⟨_, _, _, _⟩; go_simp; try with_reducible rfl
        refine takeJ 1 (v := ?_) ?_ hHeld ?_
        rotate_left
        · rintro w ⟨_, _, _, _⟩; go_simp; try with_reducible rfl
        refine takeJ 2 (v := ?_) ?_ hHeld ?_
        rotate_left
        · rintro w ⟨_, _, _, _⟩; go_simp; try with_reducible rfl
        refine takeJ 3 (v := ?_) ?_ hHeld ?_
        rotate_left
        · rintro w ⟨_, _, _, _⟩; go_simp; try with_reducible rfl
        refine takeJ 5 (v := ?_) ?_ hHeld ?_
        rotate_left
        · rintro w ⟨_, _, _, _⟩; go_simp; try with_reducible rfl
        refine takeJ 6 (v := ?_) ?_ hHeld ?_
        rotate_left
        · rintro w ⟨_, _, _, _⟩; go_simp; try with_reducible rfl
        refine onlyH (i := 4) rfl (by kernel_rfl) rfl (fun K hK => ?_)
        go_simp
        refine hns.mono ?_
        rintro e w4 ⟨rfl, hb4⟩
        have hx4 := (hb4.block _ (lt_of_heap HALL.out.1)).trans HALL.out.1
        have hp4 := (hb4.block _ (lt_of_heap HS3.out.1)).trans HS3.out.1
        have hy4 := (hb4.block _ (lt_of_heap HS3.out.2)).trans HS3.out.2
        have n0 := cell_of_row w4 w2.heap.size 0 _ _ _ hy4
        have n1 := cell_of_row w4 w2.heap.size 1 _ _ _ hy4
        have n2 := cell_of_row w4 w2.heap.size 2 _ _ _ hy4
        have p1 := cell_of_row w4 (w.heap.size + 1) 1 _ _ _ hp4
        simp only [List.getElem?_toArray, List.getElem?_cons_zero, List.getElem?_cons_succ] at n0 n1 n2 p1
        have hI5 := HG.out.below HALL.out.2.1 (show Below w3.heap.size w3 w4 from (Below.refl _ _).drew.trans hb4)
        have hM5 := HALL.out.2.2.1.more (show Below w3.heap.size w3 w4 from (Below.refl _ _).drew.trans hb4) (Nat.le_trans hB hs3)
        have hov5 := own_below HALL.out.2.2.2.1 (show Below w3.heap.size w3 w4 from (Below.refl _ _).drew.trans hb4)
        have HALL2 := hide (And.intro hx4 (And.intro hI5 (And.intro hM5 hov5)))
        clear hI5 hM5 hov5 hx4 hp4 hy4 hb4
        refine hK.out _ _ (⟨n0, n1, n2, p1⟩) (fun hHeld => ?_)
        clear hK K
        try simp only [Act.put, List.setIfInBounds_toArray, List.set_cons_zero, List.set_cons_succ]
        refine takeJ 7 (v := ?_) ?_ hHeld ?_
        rotate_left
        · rintro w ⟨_, _, _, _⟩; go_simp; try with_reducible rfl
        refine takeJ 8 (v := ?_) ?_ hHeld ?_
        rotate_left
        · rintro w ⟨_, _, _, _⟩; go_simp; try with_reducible rfl
        refine takeJ 9 (v := ?_) ?_ hHeld ?_
        rotate_left
        · rintro w ⟨_, _, _, _⟩; go_simp; try with_reducible rfl
        refine skipH (i := 10) rfl (by kernel_rfl) (by kernel_rfl) (by kernel_rfl) (fun _ _ _ h => h) rfl hHeld ?_
        try simp only [Act.put, List.setIfInBounds_toArray, List.set_cons_zero, List.set_cons_succ]
        refine skipH (i := 11) rfl (by kernel_rfl) (by kernel_rfl) (by kernel_rfl) (fun _ _ _ h => h) rfl hHeld ?_
        try simp only [Act.put, List.setIfInBounds_toArray, List.set_cons_zero, List.set_cons_succ]
        refine skipH (i := 12) rfl (by kernel_rfl) (by kernel_rfl) (by kernel_rfl) (fun _ _ _ h => h) rfl hHeld ?_
        try simp only [Act.put, List.setIfInBounds_toArray, List.set_cons_zero, List.set_cons_succ]
        refine skipH (i := 13) rfl (by kernel_rfl) (by kernel_rfl) (by kernel_rfl) (fun _ _ _ h => h) rfl hHeld ?_
        try simp only [Act.put, List.setIfInBounds_toArray, List.set_cons_zero, List.set_cons_succ]
        refine skipH (i := 14) rfl (by kernel_rfl) (by kernel_rfl) (by kernel_rfl) (fun _ _ _ h => h) rfl hHeld ?_
        try simp only [Act.put, List.setIfInBounds_toArray, List.set_cons_zero, List.set_cons_succ]
        refine skipH (i := 15) rfl (by kernel_rfl) (by kernel_rfl) (by kernel_rfl) (fun _ _ _ h => h) rfl hHeld ?_
        try simp only [Act.put, List.setIfInBounds_toArray, List.set_cons_zero, List.set_cons_succ]
        refine skipH (i := 16) rfl (by kernel_rfl) (by kernel_rfl) (by kernel_rfl) (fun _ _ _ h => h) rfl hHeld ?_
        try simp only [Act.put, List.setIfInBounds_toArray, List.set_cons_zero, List.set_cons_succ]
        refine skipH (i := 17) rfl (by kernel_rfl) (by kernel_rfl) (by kernel_rfl) (fun _ _ _ h => h) rfl hHeld ?_
        try simp only [Act.put, List.setIfInBounds_toArray, List.set_cons_zero, List.set_cons_succ]
        refine skipH (i := 18) rfl (by kernel_rfl) (by kernel_rfl) (by kernel_rfl) (fun _ _ _ h => h) rfl hHeld ?_
        try simp only [Act.put, List.setIfInBounds_toArray, List.set_cons_zero, List.set_cons_succ]
        refine takeJ 19 (v := ?_) ?_ hHeld ?_
        rotate_left
        · rintro w ⟨_, _, _, _⟩; go_simp; try with_reducible rfl
        refine wpAnyH_done (by kernel_rfl) ?_ _
        clear hHeld
        obtain ⟨hx6, hI6, hM6, hov6⟩ := HALL2.out
        have c0 := cell_of_row w4 (w.heap.size + 2) 0 _ _ _ hx6
        have c1 := cell_of_row w4 (w.heap.size + 2) 1 _ _ _ hx6
        have c2 := cell_of_row w4 (w.heap.size + 2) 2 _ _ _ hx6
        simp only [List.getElem?_toArray, List.getElem?_cons_zero, List.getElem?_cons_succ] at c0 c1 c2
        have f0 := frozen0 (j := 0) hx6
        have f1 := frozen0 (j := 1) hx6
        have f2 := frozen0 (j := 2) hx6
        have HI := hide hI6
        clear hI6
        go_wp2
        refine bodyPost_ret (results_cell_tmp_row rfl _ _ _ _ _ _ _ rfl (heap_set3all hx6) Tryz.underlying96 rfl Tryz.infoNode) rfl ⟨⟨_, rfl, World.ownsRow_nil _ _ _ _⟩, ?_, ?_⟩
        · exact HG.out.mv HI.out ((((Mv.refl B ts none w4).set (j := 0) hx6 HG.out.node (by omega) _).set (j := 1) (heap_set3a hx6) HG.out.node (by omega) _).set (j := 2) (heap_set3 (heap_set3a hx6)) HG.out.node (by omega) _)
        · exact ((hM6.setNew (j := 0) (by omega) hB _).setNew (j := 1) (by omega) hB _).setNew (j := 2) (by omega) hB _
end Go.Proofs.YtokebnkgjchfaaaGreatDoor
