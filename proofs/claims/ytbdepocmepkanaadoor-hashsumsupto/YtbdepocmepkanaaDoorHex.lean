/-
  What writing bytes as digits answers: the program's Hex, the reference's. Condition: a text within the reach.
-/
import Derived.Test.YtbdepocmepkanaaDoorEnds
import Derived.Deep.RegionLaw
namespace Go.Proofs.YtbdepocmepkanaaDoor
open Go.RowKit

theorem hex_length (l : List UInt8) : (hex l).length = 2 * l.length := by
  induction l with
  | nil => rfl
  | cons c r ih => simp only [hex, List.flatMap_cons, List.length_append, List.length_cons, List.length_nil] at ih ⊢; omega
theorem hex_take (l : List UInt8) (k : Nat) (h : k < l.length) : hex (l.take (k + 1)) = hex (l.take k) ++ [dig ((l.getD k 0).toNat / 16), dig ((l.getD k 0).toNat % 16)] := by
  unfold hex
  rw [List.take_succ_eq_append_getElem h, List.flatMap_append]
  simp [List.getD, h]

theorem index9 (w : World) (l : List UInt8) (kd : IntKind) (k : Nat) (h : k < l.length) : (Instr.index 9 (.string (strB l)) (.int kd (k : Int))).run Tryd.prog w = .ok (.int .u8 ((l.getD k 0).toNat : Int)) w := by
  have a1 : (0 : Int) ≤ (k : Int) := by omega
  have h1 : (strB l)[k]? = some (l.getD k 0) := by
    have hs : k < (strB l).size := by rw [strB_size]; exact h
    rw [getElem?_pos (strB l) k hs]
    simp only [strB, List.getD, List.getElem?_eq_getElem h]
    rfl
  unfold Instr.index
  simp only [asIntOf, Sem.run_bind, Sem.run_pure, Result.andThen_ok, run_underlying Tryd.underlying9 w]
  rw [if_pos a1, Int.toNat_natCast, h1]
  rfl
theorem digAt (w : World) (k : Nat) (h : k < 16) : (Instr.index 9 (.string { data := #[48, 49, 50, 51, 52, 53, 54, 55, 56, 57, 97, 98, 99, 100, 101, 102] }) (.int .u8 (k : Int))).run Tryd.prog w = .ok (.int .u8 ((dig k).toNat : Int)) w :=
  index9 w [48, 49, 50, 51, 52, 53, 54, 55, 56, 57, 97, 98, 99, 100, 101, 102] .u8 k h

/-- What the row holds behind two digits more. -/
theorem append2 (w : World) (base g cap m : Nat) (l : List UInt8) (d1 d2 : UInt8) (_hm : l.length = m) (hbase : base ≤ w.heap.size)
    (hown : w.ownsRow base 5 1 (.slice (some ⟨g, 0, none⟩) m cap) m (bc l)) (hfit : m + 2 ≤ cap) :
    ∃ w', (Builtin.append_ #[25, 25] 25 #[.slice (some ⟨g, 0, none⟩) m cap, .slice (some ⟨w.heap.size, 0, none⟩) 2 2]).run Tryd.prog (w.alloc (.cells #[.int .u8 (d1.toNat : Int), .int .u8 (d2.toNat : Int)] 5)).drew = .ok (.slice (some ⟨g, 0, none⟩) (m + 2) cap) w' ∧
      w'.ownsRow base 5 1 (.slice (some ⟨g, 0, none⟩) (m + 2) cap) (m + 2) (bc (l ++ [d1, d2])) ∧ Below base w w' := by
  obtain ⟨i0, hi, hz0, hz1, hz2⟩ := info_parts Tryd.info5
  have hg : base ≤ g := (hown.lt g rfl).1
  have ho : (w.alloc (.cells #[.int .u8 (d1.toNat : Int), .int .u8 (d2.toNat : Int)] 5)).drew.ownsRow base 5 1 (.slice (some ⟨g, 0, none⟩) m cap) m (bc l) := (hown.alloc _).drew
  obtain ⟨w', hrun, r1, r2⟩ := run_append_fits (P := Tryd.prog) (w.alloc (.cells #[.int .u8 (d1.toNat : Int), .int .u8 (d2.toNat : Int)] 5)).drew base 25 25 5 i0 1 Tryd.underlying25 hi hz1 g m cap (bc l) ho ⟨w.heap.size, 0, none⟩ 2 2 (bc [d1, d2]) rfl (fun j x hj => by
    show (w.alloc _).cell? _ = _
    match j, hj with
    | 0, hj => simp [bc] at hj; subst hj; simp [Addr.add_lit, World.cell?_alloc_at]
    | 1, hj => simp [bc] at hj; subst hj; simp [Addr.add_lit, World.cell?_alloc_at]) (bc_one _) hfit
  refine ⟨w', hrun, by rw [bc_append]; exact r1, ?_⟩
  exact (((Below.refl _ _).alloc hbase _).drew).grown r2 (by show base ≤ (w.alloc _).heap.size; simp; omega) (by intro k hk; injection hk with hk; omega)

/-- append, as one step of a region that draws, where its run is known. -/
theorem step_append_run {P : Program} {ops : Array Oper} {o : Oper} {a : Act} {w : World} {K : Act → World → Prop} {Q : Exit → Act → World → Prop} {E : Prop}
    (hg : o.guard = none) (s x : Operand) (t : TypeId) (hop : o.op = Op.call { callee := Callee.builtin Builtin.append, args := #[s, x], argTypes := #[t, t] })
    {v1 v2 v' : Value} {w' : World} (hs : a.eval s = v1) (hx : a.eval x = v2) (hrun : (Builtin.append_ #[t, t] o.type #[v1, v2]).run P w = .ok v' w')
    (hK : K (a.put o.dst v') w') : if Region.wanted o (yielded ops a.tmps) = true then Oper.wp P o a w K Q else E := by
  have hw : Region.wanted o (yielded ops a.tmps) = true := by simp [Region.wanted, hg]
  rw [if_pos hw]
  unfold Oper.wp
  simp [execOp, hop, resolve, invoke, builtin, hs, hx, hrun, Result.andThen]
  exact hK

theorem shr4 (c : UInt8) : ((c.toNat : Nat) : Int) / (16 : Int) = ((c.toNat / 16 : Nat) : Int) := by omega
theorem and15 (c : UInt8) : bits .and .u8 ((c.toNat : Nat) : Int) 15 = ((c.toNat % 16 : Nat) : Int) := by
  rw [show (15 : Int) = ((15 : Nat) : Int) from rfl, u8_and_nat _ _ c.toNat_lt (by omega)]
  have := Nat.and_two_pow_sub_one_eq_mod c.toNat 4
  simp at this
  rw [this]

set_option maxRecDepth 20000 in
set_option maxHeartbeats 800000 in
theorem hex_any (w : World) (l : List UInt8) (hl : l.length ≤ 140737488351232) :
    Calls Tryd.prog 13 #[.string (strB l)] w fun e w' => e = .returned (.string (strB (hex l))) ∧ Below w.heap.size w w' := by
  obtain ⟨i0, hi, hz0, hz1, hz2⟩ := info_parts Tryd.info5
  have hss := strB_size l
  go_enter Tryd.func13, Tryd.ntmps13
  go_wp2_with (at_make; refine wpList_make_own _ rfl _ _ 25 rfl w.heap.size 5 i0 (.int .u8 0) 1 Tryd.underlying25 hi hz0 hz1 .i64 .i64 _ (2 * l.length) rfl rfl (by omega) (by rw [hz2]; omega) (by unfold maxLen; omega) (Nat.le_refl _) ?_; intro w1 hown1 hgrow1)
  have hb1 : Below w.heap.size w w1 := (Below.refl _ _).grown hgrow1 (Nat.le_refl _) (by intro k hk; cases hk)
  clear hgrow1
  go_loopw [3, 11] (fun v t wr => ∃ k : Nat, k ≤ l.length ∧ t = .int .i64 k ∧ v = .slice (some ⟨w.heap.size, 0, none⟩) (2 * k) (2 * l.length) ∧
      wr.ownsRow w.heap.size 5 1 (.slice (some ⟨w.heap.size, 0, none⟩) (2 * k) (2 * l.length)) (2 * k) (bc (hex (l.take k))) ∧ Below w.heap.size w wr)
    (fun _ t _ => l.length - (intOf t).toNat)
  case atStart => exact ⟨0, by omega, rfl, rfl, hown1, hb1⟩
  case round =>
    clear hown1 hb1
    obtain ⟨k, hk, rfl, rfl, hown, hb⟩ := hrel
    have hlen : (hex (l.take k)).length = 2 * k := by rw [hex_length]; simp; omega
    by_cases hlt : k < l.length
    · have hS := hide (hex_take l k hlt)
      have hix := fun W => index9 W l .i64 k hlt
      have hc := (l.getD k 0).toNat_lt
      have ha := and15 (l.getD k 0)
      have hs := shr4 (l.getD k 0)
      have hd1 := fun W => digAt W ((l.getD k 0).toNat / 16) (by omega)
      have hd2 := fun W => digAt W ((l.getD k 0).toNat % 16) (by omega)
      obtain ⟨w2, hap, hown2, hb2⟩ := append2 wr w.heap.size w.heap.size (2 * l.length) (2 * k) _ (dig ((l.getD k 0).toNat / 16)) (dig ((l.getD k 0).toNat % 16)) hlen hb.size hown (by omega)
      have HO := hide hown2
      have HB := hide (hb.trans hb2)
      have hc0 : (0 : Int) ≤ ((l.getD k 0).toNat : Int) := by omega
      have hc1 : ((l.getD k 0).toNat : Int) ≤ 255 := by omega
      clear hlen hown hb hown2 hb2 hc
      generalize l.getD k 0 = c at *
      generalize hj1 : c.toNat / 16 = j1 at *
      generalize hj2 : c.toNat % 16 = j2 at *
      have HAP := hide hap
      clear hj1 hj2 hap
      go_wp2_with fail
      go_region_law (refine step_append_run rfl (.tmp 14) (.tmp 25) 25 rfl (by simp [Act.eval]) (by simp [Act.eval]) HAP.out ?_)
      all_goals go_wp2
      all_goals exact ⟨⟨k + 1, by omega, by go_num, rfl, by rw [hS.out]; exact HO.out, HB.out⟩, by simp [intOf]; omega⟩
    · obtain rfl : k = l.length := by omega
      have hsl := sl_at hlen hown
      rw [List.take_length] at hsl
      clear hlen hown
      go_wp2_with (refine wpList_strB _ rfl (.tmp 28) rfl hsl rfl ?_)
      go_ret
      exact ⟨rfl, hb⟩
end Go.Proofs.YtbdepocmepkanaaDoor
