/-
  Lists, read. Conditions: lengths within reach; at most 64 of a list.
-/
import Derived.Test.YtdbmngbinhemeabGreatDoorRP2
namespace Go.Proofs.YtdbmngbinhemeabGreatDoor
open Go.RowKit
variable {N : Nat}

theorem flat_one {α : Type} (cs : α → List Value) (xs : List α) (x : α) : (xs ++ [x]).flatMap cs = xs.flatMap cs ++ cs x := by simp
theorem Tryz.zPart : (Tryz.prog.info? 51).map (fun i => (i.zero, i.size, i.bytes)) = some (some (.agg #[.string ⟨#[]⟩, .int .i64 0]), 2, 24) := by kernel_rfl
theorem Tryz.zPair : (Tryz.prog.info? 37).map (fun i => (i.zero, i.size, i.bytes)) = some (some (.agg #[.string ⟨#[]⟩, .string ⟨#[]⟩]), 2, 32) := by kernel_rfl
theorem Tryz.zLink : (Tryz.prog.info? 58).map (fun i => (i.zero, i.size, i.bytes)) = some (some (.agg #[.string ⟨#[]⟩, .string ⟨#[]⟩, .int .i64 0]), 3, 40) := by kernel_rfl
theorem Tryz.zStr : (Tryz.prog.info? 9).map (fun i => (i.zero, i.size, i.bytes)) = some (some (.string ⟨#[]⟩), 1, 16) := by kernel_rfl
theorem news_at (w : World) (cs : List Value) (t : TypeId) : ∀ j u, cs[j]? = some u → (w.alloc (.cells cs.toArray t)).cell? ((⟨w.heap.size, 0, none⟩ : Addr).add j) = some u := by
  intro j u hu
  rw [Addr.add_lit, Nat.zero_add, cell_of_row _ _ _ _ _ _ (heap_last w _ _ rfl), List.getElem?_toArray]
  exact hu

set_option maxRecDepth 20000 in
theorem takeParts_any (w : World) (g : Nat) (l : Bs) (s : Pos) (most : Nat) (hm : most ≤ 64) (h : Rd N w g l s) (hl : l.length ≤ 140737488355328) :
    Calls Tryz.prog 72 #[.pointer (some ⟨g, 0, none⟩), .int .i64 (most : Int), .func (.func 73) #[.pointer (some ⟨g, 0, none⟩)] #[]] w fun e w' => ∃ v, e = .returned v ∧
      w'.ownsRow w.heap.size 51 2 v (rL l most (rPart l) s).1.length ((rL l most (rPart l) s).1.flatMap partC) ∧ Rd N w' g l (rL l most (rPart l) s).2 ∧ w.grownBy w' (some g) := by
  obtain ⟨i0, hi, hz0, hz1, hz2⟩ := info_parts Tryz.zPart
  have hgn := h.lt
  have hS := takeSmall_any w g l s most h hl
  have hrc := rC_le l most s (by omega)
  unfold Took at hS
  unfold rL
  generalize hx : rC l most s = x at *
  obtain ⟨c, s1⟩ := x
  obtain ⟨n, rfl⟩ := Int.eq_ofNat_of_zero_le hrc.1
  simp only [Int.toNat_natCast] at *
  have hn : n ≤ 64 := by omega
  have hlen := rN_length (rPart l) n s1
  clear h hx
  go_enter Tryz.func72, Tryz.ntmps72
  go_wp2_with fail
  refine hS.mono ?_
  rintro e w1 ⟨rfl, hR1, hg1⟩
  have HR1 := hide hR1
  have HG1 := hide hg1
  clear hS hR1 hg1
  go_wp2_with fail
  go_loopw [11, 7] (fun t v wr => ∃ k : Nat, k ≤ n ∧ t = .int .i64 k ∧ wr.ownsRow w.heap.size 51 2 v k ((rN (rPart l) k s1).1.flatMap partC) ∧ Rd N wr g l (rN (rPart l) k s1).2 ∧ w.grownBy wr (some g))
    (fun t _ _ => n - (intOf t).toNat)
  case atStart => exact ⟨0, by omega, rfl, World.ownsRow_nil _ _ _ _, HR1.out, HG1.out⟩
  case round =>
    clear HR1 HG1
    obtain ⟨k, hk, rfl, hown, hR, hg⟩ := hrel
    by_cases hlt : k < n
    · have hT := takePart_any wr g l (rN (rPart l) k s1).2 hR hl
      have hsn := rN_snoc (rPart l) k s1
      have hne : ∃ cs, wr.heap[g]? = some (.cells cs 117) := hR.heap
      unfold Took at hT
      generalize hx : (rPart l) (rN (rPart l) k s1).2 = x at *
      obtain ⟨p, s2⟩ := x
      simp only at hT hsn
      have HSN := hide hsn
      have HX := hide hx
      have HOWN := hide hown
      have HG := hide hg
      have HNE := hide hne
      clear hsn hx hown hg hR hne
      go_wp2_with fail
      refine hT.mono ?_
      rintro e w2 ⟨rfl, hR2, hg2⟩
      obtain ⟨csg, hcsg⟩ := HNE.out
      have hown2 := HOWN.out.kept hg2 (.inr (ne_own' HOWN.out hcsg (by decide)))
      have hg2' := gb_trans HG.out hg2
      have hsz2 := hg2'.size
      have hownA := hown2.alloc (.cells #[.string (strB p.1), .int .i64 p.2] 51)
      have hgA := gb_trans hg2' (gb_alloc w2 (.cells #[.string (strB p.1), .int .i64 p.2] 51) (some g))
      have hRA := hR2.alloc (.cells #[.string (strB p.1), .int .i64 p.2] 51)
      have HRA := hide hRA
      have HGA := hide hgA
      have HOA := hide hownA
      have hnw := news_at w2 [.string (strB p.1), .int .i64 p.2] 51
      clear hT hR2 hg2 hcsg csg hown2 hRA hgA hownA hg2'
      go_wp2_with (at_builtin; refine wpList_append_own _ rfl (.tmp 13) (.tmp 16) 44 rfl w.heap.size 51 i0 (.agg #[.string ⟨#[]⟩, .int .i64 0]) 2 24 Tryz.underlying44 hi hz0 hz1 hz2 rfl (by decide) _ _ _ rfl HOA.out ⟨w2.heap.size, 0, none⟩ 1 1 [.string (strB p.1), .int .i64 p.2] rfl rfl hnw (by simp [Value.oneCell']) (by unfold maxLen; omega) (by omega) (by simp; omega) ?_; intro v3 w3 hown3 hgr3 _; have HO3 := hide hown3; obtain ⟨a3, c3, rfl, -⟩ := own_form hown3; clear hown3)
      have hR3 := HRA.out.grown hgr3 (fun q hq => by have := (HOA.out.lt q hq).1; omega)
      have hg3 := gb_new HGA.out hgr3 (fun q hq => (HOA.out.lt q hq).1)
      have HR3 := hide hR3
      have HG3 := hide hg3
      clear hgr3 hR3 hg3 hnw
      go_wp2
      go_roundw
      case rel =>
        refine ⟨k + 1, by omega, by go_num, ?_, by rw [HSN.out]; exact HR3.out, HG3.out⟩
        rw [HSN.out, flat_one]
        exact HO3.out
      case measure => simp [intOf]; omega
    · obtain rfl : k = n := by omega
      have HO := hide hown
      obtain ⟨a3, c3, rfl, -⟩ := own_form hown
      clear hown
      go_wp2
      go_ret
      refine ⟨_, rfl, ?_, hR, hg⟩
      rw [hlen]
      exact HO.out

set_option maxRecDepth 20000 in
theorem takePairs_any (w : World) (g : Nat) (l : Bs) (s : Pos) (most : Nat) (hm : most ≤ 64) (h : Rd N w g l s) (hl : l.length ≤ 140737488355328) :
    Calls Tryz.prog 28 #[.pointer (some ⟨g, 0, none⟩), .int .i64 (most : Int), .func (.func 29) #[.pointer (some ⟨g, 0, none⟩)] #[]] w fun e w' => ∃ v, e = .returned v ∧
      w'.ownsRow w.heap.size 37 2 v (rL l most (rPair l l.length l.length) s).1.length ((rL l most (rPair l l.length l.length) s).1.flatMap pairC) ∧ Rd N w' g l (rL l most (rPair l l.length l.length) s).2 ∧ w.grownBy w' (some g) := by
  obtain ⟨i0, hi, hz0, hz1, hz2⟩ := info_parts Tryz.zPair
  have hgn := h.lt
  have hS := takeSmall_any w g l s most h hl
  have hrc := rC_le l most s (by omega)
  unfold Took at hS
  unfold rL
  generalize hx : rC l most s = x at *
  obtain ⟨c, s1⟩ := x
  obtain ⟨n, rfl⟩ := Int.eq_ofNat_of_zero_le hrc.1
  simp only [Int.toNat_natCast] at *
  have hn : n ≤ 64 := by omega
  have hlen := rN_length (rPair l l.length l.length) n s1
  clear h hx
  go_enter Tryz.func28, Tryz.ntmps28
  go_wp2_with fail
  refine hS.mono ?_
  rintro e w1 ⟨rfl, hR1, hg1⟩
  have HR1 := hide hR1
  have HG1 := hide hg1
  clear hS hR1 hg1
  go_wp2_with fail
  go_loopw [11, 7] (fun t v wr => ∃ k : Nat, k ≤ n ∧ t = .int .i64 k ∧ wr.ownsRow w.heap.size 37 2 v k ((rN (rPair l l.length l.length) k s1).1.flatMap pairC) ∧ Rd N wr g l (rN (rPair l l.length l.length) k s1).2 ∧ w.grownBy wr (some g))
    (fun t _ _ => n - (intOf t).toNat)
  case atStart => exact ⟨0, by omega, rfl, World.ownsRow_nil _ _ _ _, HR1.out, HG1.out⟩
  case round =>
    clear HR1 HG1
    obtain ⟨k, hk, rfl, hown, hR, hg⟩ := hrel
    by_cases hlt : k < n
    · have hT := takePair_any wr g l (rN (rPair l l.length l.length) k s1).2 hR hl
      have hsn := rN_snoc (rPair l l.length l.length) k s1
      have hne : ∃ cs, wr.heap[g]? = some (.cells cs 117) := hR.heap
      unfold Took at hT
      generalize hx : (rPair l l.length l.length) (rN (rPair l l.length l.length) k s1).2 = x at *
      obtain ⟨p, s2⟩ := x
      simp only at hT hsn
      have HSN := hide hsn
      have HX := hide hx
      have HOWN := hide hown
      have HG := hide hg
      have HNE := hide hne
      clear hsn hx hown hg hR hne
      go_wp2_with fail
      refine hT.mono ?_
      rintro e w2 ⟨rfl, hR2, hg2⟩
      obtain ⟨csg, hcsg⟩ := HNE.out
      have hown2 := HOWN.out.kept hg2 (.inr (ne_own' HOWN.out hcsg (by decide)))
      have hg2' := gb_trans HG.out hg2
      have hsz2 := hg2'.size
      have hownA := hown2.alloc (.cells #[.string (strB p.1), .string (strB p.2)] 37)
      have hgA := gb_trans hg2' (gb_alloc w2 (.cells #[.string (strB p.1), .string (strB p.2)] 37) (some g))
      have hRA := hR2.alloc (.cells #[.string (strB p.1), .string (strB p.2)] 37)
      have HRA := hide hRA
      have HGA := hide hgA
      have HOA := hide hownA
      have hnw := news_at w2 [.string (strB p.1), .string (strB p.2)] 37
      clear hT hR2 hg2 hcsg csg hown2 hRA hgA hownA hg2'
      go_wp2_with (at_builtin; refine wpList_append_own _ rfl (.tmp 13) (.tmp 16) 38 rfl w.heap.size 37 i0 (.agg #[.string ⟨#[]⟩, .string ⟨#[]⟩]) 2 32 Tryz.underlying38 hi hz0 hz1 hz2 rfl (by decide) _ _ _ rfl HOA.out ⟨w2.heap.size, 0, none⟩ 1 1 [.string (strB p.1), .string (strB p.2)] rfl rfl hnw (by simp [Value.oneCell']) (by unfold maxLen; omega) (by omega) (by simp; omega) ?_; intro v3 w3 hown3 hgr3 _; have HO3 := hide hown3; obtain ⟨a3, c3, rfl, -⟩ := own_form hown3; clear hown3)
      have hR3 := HRA.out.grown hgr3 (fun q hq => by have := (HOA.out.lt q hq).1; omega)
      have hg3 := gb_new HGA.out hgr3 (fun q hq => (HOA.out.lt q hq).1)
      have HR3 := hide hR3
      have HG3 := hide hg3
      clear hgr3 hR3 hg3 hnw
      go_wp2
      go_roundw
      case rel =>
        refine ⟨k + 1, by omega, by go_num, ?_, by rw [HSN.out]; exact HR3.out, HG3.out⟩
        rw [HSN.out, flat_one]
        exact HO3.out
      case measure => simp [intOf]; omega
    · obtain rfl : k = n := by omega
      have HO := hide hown
      obtain ⟨a3, c3, rfl, -⟩ := own_form hown
      clear hown
      go_wp2
      go_ret
      refine ⟨_, rfl, ?_, hR, hg⟩
      rw [hlen]
      exact HO.out

set_option maxRecDepth 20000 in
theorem takeLinks_any (w : World) (g : Nat) (l : Bs) (s : Pos) (most : Nat) (hm : most ≤ 64) (h : Rd N w g l s) (hl : l.length ≤ 140737488355328) :
    Calls Tryz.prog 76 #[.pointer (some ⟨g, 0, none⟩), .int .i64 (most : Int), .func (.func 77) #[.pointer (some ⟨g, 0, none⟩)] #[]] w fun e w' => ∃ v, e = .returned v ∧
      w'.ownsRow w.heap.size 58 3 v (rL l most (rLink l l.length) s).1.length ((rL l most (rLink l l.length) s).1.flatMap linkC) ∧ Rd N w' g l (rL l most (rLink l l.length) s).2 ∧ w.grownBy w' (some g) := by
  obtain ⟨i0, hi, hz0, hz1, hz2⟩ := info_parts Tryz.zLink
  have hgn := h.lt
  have hS := takeSmall_any w g l s most h hl
  have hrc := rC_le l most s (by omega)
  unfold Took at hS
  unfold rL
  generalize hx : rC l most s = x at *
  obtain ⟨c, s1⟩ := x
  obtain ⟨n, rfl⟩ := Int.eq_ofNat_of_zero_le hrc.1
  simp only [Int.toNat_natCast] at *
  have hn : n ≤ 64 := by omega
  have hlen := rN_length (rLink l l.length) n s1
  clear h hx
  go_enter Tryz.func76, Tryz.ntmps76
  go_wp2_with fail
  refine hS.mono ?_
  rintro e w1 ⟨rfl, hR1, hg1⟩
  have HR1 := hide hR1
  have HG1 := hide hg1
  clear hS hR1 hg1
  go_wp2_with fail
  go_loopw [11, 7] (fun t v wr => ∃ k : Nat, k ≤ n ∧ t = .int .i64 k ∧ wr.ownsRow w.heap.size 58 3 v k ((rN (rLink l l.length) k s1).1.flatMap linkC) ∧ Rd N wr g l (rN (rLink l l.length) k s1).2 ∧ w.grownBy wr (some g))
    (fun t _ _ => n - (intOf t).toNat)
  case atStart => exact ⟨0, by omega, rfl, World.ownsRow_nil _ _ _ _, HR1.out, HG1.out⟩
  case round =>
    clear HR1 HG1
    obtain ⟨k, hk, rfl, hown, hR, hg⟩ := hrel
    by_cases hlt : k < n
    · have hT := takeLink_any wr g l (rN (rLink l l.length) k s1).2 hR hl
      have hsn := rN_snoc (rLink l l.length) k s1
      have hne : ∃ cs, wr.heap[g]? = some (.cells cs 117) := hR.heap
      unfold Took at hT
      generalize hx : (rLink l l.length) (rN (rLink l l.length) k s1).2 = x at *
      obtain ⟨p, s2⟩ := x
      simp only at hT hsn
      have HSN := hide hsn
      have HX := hide hx
      have HOWN := hide hown
      have HG := hide hg
      have HNE := hide hne
      clear hsn hx hown hg hR hne
      go_wp2_with fail
      refine hT.mono ?_
      rintro e w2 ⟨rfl, hR2, hg2⟩
      obtain ⟨csg, hcsg⟩ := HNE.out
      have hown2 := HOWN.out.kept hg2 (.inr (ne_own' HOWN.out hcsg (by decide)))
      have hg2' := gb_trans HG.out hg2
      have hsz2 := hg2'.size
      have hownA := hown2.alloc (.cells #[.string (strB p.1), .string (strB p.2.1), .int .i64 p.2.2] 58)
      have hgA := gb_trans hg2' (gb_alloc w2 (.cells #[.string (strB p.1), .string (strB p.2.1), .int .i64 p.2.2] 58) (some g))
      have hRA := hR2.alloc (.cells #[.string (strB p.1), .string (strB p.2.1), .int .i64 p.2.2] 58)
      have HRA := hide hRA
      have HGA := hide hgA
      have HOA := hide hownA
      have hnw := news_at w2 [.string (strB p.1), .string (strB p.2.1), .int .i64 p.2.2] 58
      clear hT hR2 hg2 hcsg csg hown2 hRA hgA hownA hg2'
      go_wp2_with (at_builtin; refine wpList_append_own _ rfl (.tmp 13) (.tmp 16) 52 rfl w.heap.size 58 i0 (.agg #[.string ⟨#[]⟩, .string ⟨#[]⟩, .int .i64 0]) 3 40 Tryz.underlying52 hi hz0 hz1 hz2 rfl (by decide) _ _ _ rfl HOA.out ⟨w2.heap.size, 0, none⟩ 1 1 [.string (strB p.1), .string (strB p.2.1), .int .i64 p.2.2] rfl rfl hnw (by simp [Value.oneCell']) (by unfold maxLen; omega) (by omega) (by simp; omega) ?_; intro v3 w3 hown3 hgr3 _; have HO3 := hide hown3; obtain ⟨a3, c3, rfl, -⟩ := own_form hown3; clear hown3)
      have hR3 := HRA.out.grown hgr3 (fun q hq => by have := (HOA.out.lt q hq).1; omega)
      have hg3 := gb_new HGA.out hgr3 (fun q hq => (HOA.out.lt q hq).1)
      have HR3 := hide hR3
      have HG3 := hide hg3
      clear hgr3 hR3 hg3 hnw
      go_wp2
      go_roundw
      case rel =>
        refine ⟨k + 1, by omega, by go_num, ?_, by rw [HSN.out]; exact HR3.out, HG3.out⟩
        rw [HSN.out, flat_one]
        exact HO3.out
      case measure => simp [intOf]; omega
    · obtain rfl : k = n := by omega
      have HO := hide hown
      obtain ⟨a3, c3, rfl, -⟩ := own_form hown
      clear hown
      go_wp2
      go_ret
      refine ⟨_, rfl, ?_, hR, hg⟩
      rw [hlen]
      exact HO.out

set_option maxRecDepth 20000 in
theorem takeIds_any (w : World) (g : Nat) (l : Bs) (s : Pos) (most : Nat) (hm : most ≤ 64) (h : Rd N w g l s) (hl : l.length ≤ 140737488355328) :
    Calls Tryz.prog 80 #[.pointer (some ⟨g, 0, none⟩), .int .i64 (most : Int), .func (.func 79) #[.pointer (some ⟨g, 0, none⟩)] #[]] w fun e w' => ∃ v, e = .returned v ∧
      w'.ownsRow w.heap.size 9 1 v (rL l most (rD l) s).1.length ((rL l most (rD l) s).1.flatMap idC) ∧ Rd N w' g l (rL l most (rD l) s).2 ∧ w.grownBy w' (some g) := by
  obtain ⟨i0, hi, hz0, hz1, hz2⟩ := info_parts Tryz.zStr
  have hgn := h.lt
  have hS := takeSmall_any w g l s most h hl
  have hrc := rC_le l most s (by omega)
  unfold Took at hS
  unfold rL
  generalize hx : rC l most s = x at *
  obtain ⟨c, s1⟩ := x
  obtain ⟨n, rfl⟩ := Int.eq_ofNat_of_zero_le hrc.1
  simp only [Int.toNat_natCast] at *
  have hn : n ≤ 64 := by omega
  have hlen := rN_length (rD l) n s1
  clear h hx
  go_enter Tryz.func80, Tryz.ntmps80
  go_wp2_with fail
  refine hS.mono ?_
  rintro e w1 ⟨rfl, hR1, hg1⟩
  have HR1 := hide hR1
  have HG1 := hide hg1
  clear hS hR1 hg1
  go_wp2_with fail
  go_loopw [11, 7] (fun t v wr => ∃ k : Nat, k ≤ n ∧ t = .int .i64 k ∧ wr.ownsRow w.heap.size 9 1 v k ((rN (rD l) k s1).1.flatMap idC) ∧ Rd N wr g l (rN (rD l) k s1).2 ∧ w.grownBy wr (some g))
    (fun t _ _ => n - (intOf t).toNat)
  case atStart => exact ⟨0, by omega, rfl, World.ownsRow_nil _ _ _ _, HR1.out, HG1.out⟩
  case round =>
    clear HR1 HG1
    obtain ⟨k, hk, rfl, hown, hR, hg⟩ := hrel
    by_cases hlt : k < n
    · have hT := takeId_any wr g l (rN (rD l) k s1).2 hR hl
      have hsn := rN_snoc (rD l) k s1
      have hne : ∃ cs, wr.heap[g]? = some (.cells cs 117) := hR.heap
      unfold Took at hT
      generalize hx : (rD l) (rN (rD l) k s1).2 = x at *
      obtain ⟨p, s2⟩ := x
      simp only at hT hsn
      have HSN := hide hsn
      have HX := hide hx
      have HOWN := hide hown
      have HG := hide hg
      have HNE := hide hne
      clear hsn hx hown hg hR hne
      go_wp2_with fail
      refine hT.mono ?_
      rintro e w2 ⟨rfl, hR2, hg2⟩
      obtain ⟨csg, hcsg⟩ := HNE.out
      have hown2 := HOWN.out.kept hg2 (.inr (ne_own' HOWN.out hcsg (by decide)))
      have hg2' := gb_trans HG.out hg2
      have hsz2 := hg2'.size
      have hownA := hown2.alloc (.cells #[.string (strB p)] 9)
      have hgA := gb_trans hg2' (gb_alloc w2 (.cells #[.string (strB p)] 9) (some g))
      have hRA := hR2.alloc (.cells #[.string (strB p)] 9)
      have HRA := hide hRA
      have HGA := hide hgA
      have HOA := hide hownA
      have hnw := news_at w2 [.string (strB p)] 9
      clear hT hR2 hg2 hcsg csg hown2 hRA hgA hownA hg2'
      go_wp2_with (at_builtin; refine wpList_append_own _ rfl (.tmp 13) (.tmp 16) 22 rfl w.heap.size 9 i0 (.string ⟨#[]⟩) 1 16 Tryz.underlying22 hi hz0 hz1 hz2 rfl (by decide) _ _ _ rfl HOA.out ⟨w2.heap.size, 0, none⟩ 1 1 [.string (strB p)] rfl rfl hnw (by simp [Value.oneCell']) (by unfold maxLen; omega) (by omega) (by simp; omega) ?_; intro v3 w3 hown3 hgr3 _; have HO3 := hide hown3; obtain ⟨a3, c3, rfl, -⟩ := own_form hown3; clear hown3)
      have hR3 := HRA.out.grown hgr3 (fun q hq => by have := (HOA.out.lt q hq).1; omega)
      have hg3 := gb_new HGA.out hgr3 (fun q hq => (HOA.out.lt q hq).1)
      have HR3 := hide hR3
      have HG3 := hide hg3
      clear hgr3 hR3 hg3 hnw
      go_wp2
      go_roundw
      case rel =>
        refine ⟨k + 1, by omega, by go_num, ?_, by rw [HSN.out]; exact HR3.out, HG3.out⟩
        rw [HSN.out, flat_one]
        exact HO3.out
      case measure => simp [intOf]; omega
    · obtain rfl : k = n := by omega
      have HO := hide hown
      obtain ⟨a3, c3, rfl, -⟩ := own_form hown
      clear hown
      go_wp2
      go_ret
      refine ⟨_, rfl, ?_, hR, hg⟩
      rw [hlen]
      exact HO.out
end Go.Proofs.YtdbmngbinhemeabGreatDoor
