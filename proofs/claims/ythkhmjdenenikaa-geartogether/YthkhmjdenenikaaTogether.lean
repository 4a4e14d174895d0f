/-
  GearTogether is true. Conditions: lengths within reach.
-/
import Derived.Test.YthkhmjdenenikaaPieces
import Derived.Deep.AppendSrc
import Derived.Laws.MakeOwn
namespace Go.Proofs.Ythkhmjdenenikaa
open Go.RowKit

/-- What is taken of the pieces. -/
def few (ps : List (List UInt8)) (k : Nat) : List (List UInt8) := (ps.take k).map (·.take 10000)
theorem few_succ {ps : List (List UInt8)} {k : Nat} (h : k < ps.length) : few ps (k + 1) = few ps k ++ [ps[k].take 10000] := by
  unfold few
  rw [List.take_add_one, List.getElem?_eq_getElem h, List.map_append]
  rfl
theorem few_length {ps : List (List UInt8)} {k : Nat} (h : k ≤ ps.length) : (few ps k).length = k := by simp [few, h]
theorem few_flat {ps : List (List UInt8)} : ∀ (k : Nat), k ≤ ps.length → (few ps k).flatten.length ≤ 10000 * k
  | 0, _ => by simp [few]
  | k + 1, h => by
    have := few_flat (ps := ps) k (by omega)
    rw [few_succ (ps := ps) (k := k) (by omega), List.flatten_append, List.length_append]
    have h2 : [ps[k].take 10000].flatten.length ≤ 10000 := by simp; omega
    omega

theorem tc_one (xs : List (List UInt8)) : ∀ u ∈ tc xs, u.oneCell' = true := by
  intro u hu
  obtain ⟨_, _, rfl⟩ := List.mem_map.1 hu
  rfl
/-- A row of texts behind an own one that has room. -/
theorem wpList_append_any (w : World) {ops : Array Oper} {rest : List Oper} {o : Oper} {a : Act} {Q : Exit → Act → World → Prop} (hgd : o.guard = none) (s x : Operand)
    (ho : o.op = .call { callee := .builtin .append, args := #[s, x], argTypes := #[30, 30] })
    (base : Nat) (g n cap : Nat) (xs : List (List UInt8)) (hs : a.eval s = .slice (some ⟨g, 0, none⟩) n cap) (hown : w.ownsRow base 9 1 (.slice (some ⟨g, 0, none⟩) n cap) n (tc xs))
    (base' : Nat) (xv : Value) (m : Nat) (ys : List (List UInt8)) (hx : a.eval x = xv) (hown' : w.ownsRow base' 9 1 xv m (tc ys)) (h63 : n + m ≤ maxLen) (hbytes : (n + m) * 16 ≤ 140737488355328) (hbase : base ≤ w.heap.size)
    (h : ∀ g' cap' w', w'.ownsRow base 9 1 (.slice (some ⟨g', 0, none⟩) (n + m) cap') (n + m) (tc (xs ++ ys)) → w.grownBy w' (some g) → wpList Try.prog ops Q rest (a.put o.dst (.slice (some ⟨g', 0, none⟩) (n + m) cap')) w') : wpList Try.prog ops Q (o :: rest) a w := by
  obtain ⟨i0, hi0, hz0, hz1, hz2⟩ := info_parts Try.infoT
  rcases hown'.2 with ⟨rfl, rfl⟩ | ⟨b, c, cur, rfl, -⟩
  · obtain rfl : ys = [] := by
      have := hown'.1
      rw [tc_length] at this
      exact List.eq_nil_of_length_eq_zero (by omega)
    refine wpList_plain hgd fun K hK => ?_
    have hn : n ≤ cap := by
      obtain ⟨_, _, e, h1, _⟩ := own_form hown
      injection e with _ _ e
      omega
    have hr : (Builtin.append_ #[30, 30] o.type #[.slice (some ⟨g, 0, none⟩) n cap, .slice none 0 0]).run Try.prog w = .ok (.slice (some ⟨g, 0, none⟩) n cap) w := by
      have hsrc := Src.ofNil (P := Try.prog) (w := w) (size := i0.size) (tx := 30) (e' := 9) Try.underlying30 0
      have := run_append_room_src w 30 30 o.type 9 i0 Try.underlying30 hi0 g 0 n cap (.slice none 0 0) 0 [] hsrc (by omega) (by simp) (by simp)
      simpa [World.setCells] using this
    unfold Oper.wp execOp
    simp only [ho, resolve, invoke, builtin, Sem.run_bind, Sem.run_pure, Result.andThen_ok, List.map_toArray, List.map_cons, List.map_nil, hs, hx, hr]
    exact hK _ _ (h g cap w (by simpa using hown) ⟨rfl, rfl, rfl, Nat.le_refl _, fun _ _ _ => rfl⟩)
  · refine wpList_append_own w hgd s x 30 ho base 9 i0 (.string ⟨#[]⟩) 1 16 Try.underlying30 hi0 hz0 hz1 hz2 rfl (by decide) _ n (tc xs) hs hown ⟨b, 0, none⟩ m c (tc ys) hx hown'.1 (World.ownsRow.cells hown' rfl) (tc_one ys) h63 hbytes hbase ?_
    intro v' w' h1 h2 h3
    rcases h1.2 with ⟨rfl, _⟩ | ⟨g', cap', cur', rfl, _⟩
    · have := h3.1 rfl
      cases this.1
    · exact h g' cap' w' (by rw [tc_append]; exact h1) h2
/-- What is held, as Close tells it. -/
def rest1 (h : List UInt8) : List (List UInt8) := if h = [] then [] else [h]
theorem close_any (w : World) (g : Nat) (h : List UInt8) (v : Value) (hC : CuW w g h h v) :
    Calls Try.prog 19 #[.pointer (some ⟨g, 0, none⟩)] w fun e w' => ∃ v', e = .returned v' ∧ w'.ownsRow 0 9 1 v' (rest1 h).length (tc (rest1 h)) ∧ Chg (fun k => k = g) w w' := by
  by_cases hne : h = []
  · subst hne
    refine (close_none w g v hC).mono ?_
    rintro e w' ⟨rfl, rfl⟩
    exact ⟨_, rfl, World.ownsRow_nil _ _ _ _, Chg.refl _ _⟩
  · refine (close_some w g h v hne hC).mono ?_
    rintro e w' ⟨v', rfl, h1, -, h2⟩
    refine ⟨v', rfl, ?_, h2⟩
    unfold rest1
    rw [if_neg hne]
    exact own_down h1 (Nat.zero_le _)
theorem chunks_rest (l : List UInt8) : chunks l = (spl ⟨[], []⟩ l).t ++ rest1 (spl ⟨[], []⟩ l).h := rfl
theorem below_chg {w w' : World} (hb : Below w.heap.size w w') : Chg (fun _ => False) w w' := ⟨hb.os, hb.tape, hb.output, hb.size, fun k hk _ => hb.block k hk⟩

set_option maxRecDepth 20000 in
set_option maxHeartbeats 2000000 in
theorem together_any (w : World) (vp : Value) (ps : List (List UInt8)) (hP : Ts w vp ps) (hpl : ps.length ≤ 140737488351232) :
    Calls Try.prog 5 #[vp] w fun e w' => e = .returned (.bool true) ∧ Below w.heap.size w w' := by
  obtain ⟨i0, hi0, hz0, hz1, hz2⟩ := info_parts Try.infoT
  have hsn := shown_any w
  obtain ⟨ap, cp, rfl, p1, p2, p4⟩ := hP
  have P4 := hide p4
  clear p4
  go_enter Try.func5, Try.ntmps5
  go_wp2_with fail
  refine hsn.mono ?_
  rintro e w1 ⟨rfl, hb1⟩
  go_upto_block 0 with fail
  go_cut [4, 5] from 13 to 42 (fun vf all wx => ∃ k, k ≤ ps.length ∧ k ≤ 100 ∧ all = .string (strB (few ps k).flatten) ∧ wx.ownsRow w.heap.size 9 1 vf k (tc (few ps k)) ∧ Below w.heap.size w wx)
  case first =>
    go_wp2_with fail
    go_loopw [6, 4, 5] (fun i vf all wr => ∃ (k : Nat), i = .int .i64 (k : Int) ∧ k ≤ ps.length ∧ k ≤ 100 ∧ all = .string (strB (few ps k).flatten) ∧ wr.ownsRow w.heap.size 9 1 vf k (tc (few ps k)) ∧ Below w.heap.size w wr)
      (fun i _ _ _ => ps.length - (intOf i).toNat)
    case atStart => exact ⟨0, rfl, Nat.zero_le _, by omega, rfl, World.ownsRow_nil _ _ _ _, hb1⟩
    case round =>
      obtain ⟨k, rfl, hk, hk2, rfl, hrow, hB⟩ := hrel
      by_cases hlt : k < ps.length ∧ k < 100
      · obtain ⟨hlt, hlt2⟩ := hlt
        obtain ⟨b, off, rfl, hb, hc⟩ := P4.out (by rintro rfl; simp at hlt)
        have hckw := hc k hlt
        have hck := (hB.cell (p := ⟨b, off + k, none⟩) hb).trans (hc k hlt)
        have hbw : b < wr.heap.size := Nat.lt_of_lt_of_le hb hB.size
        have hfs := few_succ hlt
        have hfl := few_flat k (by omega)
        clear hc
        have hmi : (if (10000 : Int) < (ps[k].length : Int) then (10000 : Int) else (ps[k].length : Int)) = ((min ps[k].length 10000 : Nat) : Int) := min_int ps[k].length 10000
        have hsl := slice_to ps[k] (min ps[k].length 10000) (Nat.min_le_left _ _)
        rw [take_min] at hsl
        have hpz : (ps[k].take 10000).length ≤ 10000 := by simp; omega
        have hsz := strB_size ps[k]
        generalize min ps[k].length 10000 = N at *
        generalize ps[k].take 10000 = p at *
        generalize ps[k] = p0 at *
        have hs1 := strB_size (few ps k).flatten
        have hs2 := strB_size p
        have hap := app_strB (few ps k).flatten p
        have hff : (few ps (k + 1)).flatten = (few ps k).flatten ++ p := by rw [hfs]; simp
        have HFS := hide hfs
        have HFF := hide hff
        clear hfs hff
        have hrow' := hrow
        obtain ⟨ao, cap, rfl, c1, c2, -⟩ := own_form hrow
        clear hrow
        go_wp2_with fail
        refine wp_region_held_drew (S := fun W => W.cell? ⟨b, off + k, none⟩ = some (.string (strB p0))) (by kernel_rfl) (hck) (fun hHeld => ?_)
        refine takeH (i := 0) (v := ?_) rfl (by kernel_rfl) (by kernel_rfl) (by kernel_rfl) (fun _ _ _ h => h) rfl ?_ hHeld ?_
        rotate_left
        · intro w hS; (try dsimp only at hS); obtain hS0 := hS; go_simp; first | done | (with_reducible rfl)
        try simp only [Act.put, List.setIfInBounds_toArray, List.set_cons_zero, List.set_cons_succ]
        refine takeH (i := 1) (v := ?_) rfl (by kernel_rfl) (by kernel_rfl) (by kernel_rfl) (fun _ _ _ h => h) rfl ?_ hHeld ?_
        rotate_left
        · intro w hS; (try dsimp only at hS); obtain hS0 := hS; go_simp; first | done | (with_reducible rfl)
        try simp only [Act.put, List.setIfInBounds_toArray, List.set_cons_zero, List.set_cons_succ]
        refine takeH (i := 2) (v := ?_) rfl (by kernel_rfl) (by kernel_rfl) (by kernel_rfl) (fun _ _ _ h => h) rfl ?_ hHeld ?_
        rotate_left
        · intro w hS; (try dsimp only at hS); obtain hS0 := hS; go_simp; first | done | (with_reducible rfl)
        try simp only [Act.put, List.setIfInBounds_toArray, List.set_cons_zero, List.set_cons_succ]
        refine takeH (i := 3) (v := ?_) rfl (by kernel_rfl) (by kernel_rfl) (by kernel_rfl) (fun _ _ _ h => h) rfl ?_ hHeld ?_
        rotate_left
        · intro w hS; (try dsimp only at hS); obtain hS0 := hS; go_simp; first | done | (with_reducible rfl)
        try simp only [Act.put, List.setIfInBounds_toArray, List.set_cons_zero, List.set_cons_succ]
        refine takeH (i := 4) (v := ?_) rfl (by kernel_rfl) (by kernel_rfl) (by kernel_rfl) (fun _ _ _ h => h) rfl ?_ hHeld ?_
        rotate_left
        · intro w hS; (try dsimp only at hS); obtain hS0 := hS; go_simp; first | done | (with_reducible rfl)
        try simp only [Act.put, List.setIfInBounds_toArray, List.set_cons_zero, List.set_cons_succ]
        refine takeH (i := 5) (v := ?_) rfl (by kernel_rfl) (by kernel_rfl) (by kernel_rfl) (fun _ _ _ h => h) rfl ?_ hHeld ?_
        rotate_left
        · intro w hS; (try dsimp only at hS); obtain hS0 := hS; go_simp; first | done | (with_reducible rfl)
        try simp only [Act.put, List.setIfInBounds_toArray, List.set_cons_zero, List.set_cons_succ]
        refine takeH (i := 6) (v := ?_) rfl (by kernel_rfl) (by kernel_rfl) (by kernel_rfl) (fun _ _ _ h => h) rfl ?_ hHeld ?_
        rotate_left
        · intro w hS; (try dsimp only at hS); obtain hS0 := hS; go_simp; first | done | (with_reducible rfl)
        try simp only [Act.put, List.setIfInBounds_toArray, List.set_cons_zero, List.set_cons_succ]
        refine takeH (i := 7) (v := ?_) rfl (by kernel_rfl) (by kernel_rfl) (by kernel_rfl) (fun _ _ _ h => h) rfl ?_ hHeld ?_
        rotate_left
        · intro w hS; (try dsimp only at hS); obtain hS0 := hS; go_simp; first | done | (with_reducible rfl)
        try simp only [Act.put, List.setIfInBounds_toArray, List.set_cons_zero, List.set_cons_succ]
        refine takeH (i := 8) (v := ?_) rfl (by kernel_rfl) (by kernel_rfl) (by kernel_rfl) (fun _ _ _ h => h) rfl ?_ hHeld ?_
        rotate_left
        · intro w hS; (try dsimp only at hS); obtain hS0 := hS; go_simp; first | done | (with_reducible rfl)
        try simp only [Act.put, List.setIfInBounds_toArray, List.set_cons_zero, List.set_cons_succ]
        refine takeH (i := 9) (v := ?_) rfl (by kernel_rfl) (by kernel_rfl) (by kernel_rfl) (fun _ _ _ h => h) rfl ?_ hHeld ?_
        rotate_left
        · intro w hS; (try dsimp only at hS); obtain hS0 := hS; go_simp; first | done | (with_reducible rfl)
        try simp only [Act.put, List.setIfInBounds_toArray, List.set_cons_zero, List.set_cons_succ]
        refine takeH (i := 10) (v := ?_) rfl (by kernel_rfl) (by kernel_rfl) (by kernel_rfl) (fun _ _ _ h => h) rfl ?_ hHeld ?_
        rotate_left
        · intro w hS; (try dsimp only at hS); obtain hS0 := hS; go_simp; first | done | (with_reducible rfl)
        try simp only [Act.put, List.setIfInBounds_toArray, List.set_cons_zero, List.set_cons_succ]
        refine takeH (i := 11) (v := ?_) rfl (by kernel_rfl) (by kernel_rfl) (by kernel_rfl) (fun _ _ _ h => h) rfl ?_ hHeld ?_
        rotate_left
        · intro w hS; (try dsimp only at hS); obtain hS0 := hS; go_simp; first | done | (with_reducible rfl)
        try simp only [Act.put, List.setIfInBounds_toArray, List.set_cons_zero, List.set_cons_succ]
        refine onlyH (i := 12) rfl (by kernel_rfl) rfl (fun K hK => ?_)
        go_simp
        refine hK.out _ _ ((((Below.refl wr.heap.size wr).alloc (Nat.le_refl _) (.cells #[.string (strB p)] 9)).cell (p := ⟨b, off + k, none⟩) hbw).trans hck) (fun hHeld => ?_)
        clear hK K
        try simp only [Act.put, List.setIfInBounds_toArray, List.set_cons_zero, List.set_cons_succ]
        refine onlyH (i := 13) rfl (by kernel_rfl) rfl (fun K hK => ?_)
        refine wp_append_own (wr.alloc (.cells #[.string (strB p)] 9)).drew (.tmp 23) (.tmp 35) 30 rfl w.heap.size 9 i0 (.string ⟨#[]⟩) 1 16 Try.underlying30 hi0 hz0 hz1 hz2 rfl (by decide) _ _ _ rfl (hrow'.alloc _) ⟨wr.heap.size, 0, none⟩ 1 1 [.string (strB p)] rfl rfl (cell_one_new wr _ _) (by simp [Value.oneCell']) (by unfold maxLen; omega) (by omega) (by have := hB.size; simp; omega) ?_
        intro v2 w2 hown2 hgrow2 _
        have hb2 : Below w.heap.size w w2 := ((hB.alloc hB.size _).drew).grown hgrow2 (by have := hB.size; simp; omega) (fun j hj => (hrow'.lt j hj).1)
        have hck2 : w2.cell? ⟨b, off + k, none⟩ = some (.string (strB p0)) := (hb2.cell (p := ⟨b, off + k, none⟩) hb).trans hckw
        refine hK.out _ _ (hck2) (fun hHeld => ?_)
        clear hK K
        try simp only [Act.put, List.setIfInBounds_toArray, List.set_cons_zero, List.set_cons_succ]
        refine takeH (i := 14) (v := ?_) rfl (by kernel_rfl) (by kernel_rfl) (by kernel_rfl) (fun _ _ _ h => h) rfl ?_ hHeld ?_
        rotate_left
        · intro w hS; (try dsimp only at hS); obtain hS0 := hS; go_simp; first | done | (with_reducible rfl)
        try simp only [Act.put, List.setIfInBounds_toArray, List.set_cons_zero, List.set_cons_succ]
        refine wpAnyH_done (by kernel_rfl) ?_ _
        obtain ⟨ao2, cap2, rfl, d1, d2, d3⟩ := own_form hown2
        obtain ⟨g2, rfl, -, -, hcg⟩ := d3 (by omega)
        have hck3 := hcg k (.string (strB p)) (by simp [tc_length, few_length hk])
        clear hgrow2 hcg d3
        go_wp2_with fail
        refine ⟨⟨k + 1, by go_num, by omega, by omega, by rw [HFF.out], ?_, hb2⟩, by simp [intOf]; omega⟩
        rw [HFS.out, tc_append]
        exact hown2
      · by_cases hlt4 : k < ps.length
        · obtain rfl : k = 100 := by omega
          clear hlt
          obtain ⟨ao, cap, rfl, -⟩ := own_form hrow
          go_wp2
          go_meet
          exact ⟨100, hk, hk2, rfl, hrow, hB⟩
        · obtain rfl : k = ps.length := by omega
          clear hlt hlt4
          obtain ⟨ao, cap, rfl, -⟩ := own_form hrow
          go_wp2
          go_meet
          exact ⟨ps.length, hk, hk2, rfl, hrow, hB⟩
  case rest =>
    obtain ⟨k, hk, hk2, rfl, hrow, hB⟩ := hcut
    have hfl := few_flat k hk
    have hfn := few_length hk
    generalize few ps k = fw at *
    clear P4 hb1
    subst hfn
    have hn := new_any wc
    have hrow' := hrow
    obtain ⟨af, cf, rfl, f1, f2, -⟩ := own_form hrow
    clear hrow
    go_wp2_with fail
    refine hn.mono ?_
    rintro e w2 ⟨rfl, hcu2, hb2⟩
    have hB2 : Below w.heap.size w w2 := hB.trans (hb2.mono hB.size)
    have hrow2 := own_keep hrow' (below_chg hb2) (fun _ _ e => e)
    have hgB : w.heap.size ≤ wc.heap.size := hB.size
    have hwr := write_any w2 wc.heap.size [] _ _ fw hcu2 Hd.nil (own_down hrow2 (Nat.zero_le _)) (by simp only [List.length_nil]; omega)
    generalize wc.heap.size = g at *
    have hch := chunks_rest fw.flatten
    have hTl : (spl ⟨[], []⟩ fw.flatten).t.length ≤ 1000000 := by
      have h1 := congrArg List.length (spl_all fw.flatten ⟨[], []⟩)
      simp only [List.flatten_nil, List.nil_append, List.length_append] at h1
      have := told_le (Sp.ok.nil.spl (l := fw.flatten)) h1
      omega
    clear hn hrow' hrow2 hcu2 hb2
    go_wp2_with fail
    refine hwr.mono ?_
    rintro e w3 ⟨vt, v', rfl, hW⟩
    have hB3 : Below w.heap.size w w3 := hB2.trans (hW.below.mono hgB)
    have htold := own_down hW.told (Nat.zero_le _)
    have hcu3 := hW.cu
    have hg3 : g < w3.heap.size := hcu3.lt
    generalize spl ⟨[], []⟩ fw.flatten = x at *
    generalize hA : fw.flatten = A at *
    obtain ⟨at', ct, rfl, t1, t2, -⟩ := own_form htold
    have HT := hide htold
    have HC := hide hcu3
    clear hwr hW htold hcu3
    go_wp2_with first
      | (at_make; refine wpList_make_own _ rfl _ _ 30 rfl w3.heap.size 9 i0 (.string ⟨#[]⟩) 1 Try.underlying30 hi0 hz0 hz1 .i64 .i64 _ (x.t.length + 1) rfl rfl (by omega) (by rw [hz2]; omega) (by unfold maxLen; omega) (Nat.le_refl _) ?_; intro w4 hown4 hgrow4)
      | (at_builtin; refine wpList_append_any _ rfl (.tmp 50) (.tmp 51) rfl w3.heap.size w3.heap.size 0 (x.t.length + 1) [] rfl hown4 0 _ x.t.length x.t rfl (own_keep HT.out (Chg.of_grown hgrow4) (fun _ _ e => by cases e)) (by unfold maxLen; omega) (by omega) hgrow4.size ?_; intro g5 c5 w5 hown5 hgrow5)
      | fail
    have hb5 : Below w3.heap.size w3 w5 := ((Below.refl _ w3).grown hgrow4 (Nat.le_refl _) (fun k hk => by cases hk)).grown hgrow5 hgrow4.size (fun k hk => by injection hk with hk; omega)
    have hcu5 := HC.out.keep hb5
    have hB5 : Below w.heap.size w w5 := hB3.trans (hb5.mono hB3.size)
    rw [List.nil_append, Nat.zero_add] at hown5
    have hcl := close_any w5 g x.h v' hcu5
    have H5 := hide hown5
    have hg5 : w3.heap.size ≤ w5.heap.size := hb5.size
    clear hgrow4 hgrow5 hown4 hown5 hb5 hcu5 HT HC
    have hrl : (rest1 x.h).length ≤ 1 := by unfold rest1; split <;> simp
    go_wp2_with fail
    refine hcl.mono ?_
    rintro e w6 ⟨vc, rfl, hrc, hC6⟩
    have hB6 : Below w.heap.size w w6 := hB5.trans (hC6.below (fun k e => by omega) hB5.size)
    have h6 := own_keep H5.out hC6 (fun k hk e => by have := (H5.out.lt k hk).1; omega)
    have hg6 : w3.heap.size ≤ w6.heap.size := Nat.le_trans hg5 hC6.size
    have h65 := (h6.lt g5 rfl).1
    obtain ⟨ac, cc, rfl, e1, e2, -⟩ := own_form hrc
    clear hcl hC6 H5
    go_wp2_with first
      | (at_builtin; refine wpList_append_any _ rfl (.tmp 52) (.tmp 54) rfl w3.heap.size g5 x.t.length c5 x.t rfl h6 0 _ (rest1 x.h).length (rest1 x.h) rfl hrc (by unfold maxLen; omega) (by omega) hg6 ?_; intro g7 c7 w7 hown7 hgrow7)
      | fail
    have hB7 : Below w.heap.size w w7 := hB6.grown hgrow7 hB6.size (fun k hk => by injection hk with hk; have := hB3.size; omega)
    rw [← hch] at hown7
    have hlen : x.t.length + (rest1 x.h).length = (chunks A).length := by rw [hch, List.length_append]
    rw [hlen] at hown7 ⊢
    have hcut := cuts_any w7 A (by omega)
    have H7 := hide hown7
    have hcl7 := (chunks_tail A).count
    rw [flat_len] at hcl7
    clear hown7 hgrow7 h6 hrc hch hlen hrl
    go_wp2_with fail
    refine hcut.mono ?_
    rintro e w8 ⟨ve, rfl, hve, hb8⟩
    have hB8 : Below w.heap.size w w8 := hB7.trans (hb8.mono hB7.size)
    have hv8 := own_keep H7.out (below_chg hb8) (fun _ _ e => e)
    obtain ⟨ae, ce, rfl, i1, i2, i3⟩ := own_cut hve
    obtain ⟨a8, c8, j0, j1, j2, j3⟩ := own_form hv8
    injection j0 with j4 j5 j6
    subst j4 j6
    have hpa := pre_all (chunks A)
    rw [flat_len] at hpa
    have hpl := pre_le (chunks A)
    rw [flat_len] at hpl
    have hps := fun k (h : k < (chunks A).length) => pre_succ h
    have hT := chunks_tail A
    have hdf := drop_flat (chunks A)
    rw [chunks_flat] at hdf
    have hsA := strB_size A
    generalize chunks A = R at *
    have I3 := hide i3
    have J3 := hide j3
    have HP := hide hps
    have HT := hide hT
    have HL := hide hpl
    have HD := hide hdf
    clear hcut hve hv8 i3 j3 H7 hb8 hps hT hpl hdf
    go_wp2_with fail
    go_loopw [11, 10] (fun i f wr => ∃ k : Nat, i = .int .i64 (k : Int) ∧ k ≤ R.length ∧ f = .int .i64 (pre R k : Int) ∧ Below w8.heap.size w8 wr)
      (fun i _ _ => R.length - (intOf i).toNat)
    case atStart => exact ⟨0, rfl, Nat.zero_le _, by rw [pre_zero]; rfl, Below.refl _ _⟩
    case round =>
      obtain ⟨k, rfl, hk5, rfl, hbq⟩ := hrel
      by_cases hlt : k < R.length
      · obtain ⟨ge, rfl, -, hge, hce⟩ := I3.out (by omega)
        obtain ⟨gg, hgg, -, hgl, hcg⟩ := J3.out (by omega)
        injection hgg with hgg
        injection hgg with hgg _ _
        subst hgg
        have c1 := (hbq.cell (p := ⟨ge, k, none⟩) hge).trans (hce k hlt)
        have c2 := (hbq.cell (p := ⟨g7, k, none⟩) hgl).trans (hcg k _ (tc_get R k hlt))
        have hsz := (HT.out.size hlt).1
        have hq := HP.out k hlt
        have hql := HL.out (k + 1)
        have hsl := slice_mid A (pre R k) (pre R (k + 1)) (pre R (k + 1) : Int) (by omega) hql rfl
        have hpiece : (A.drop (pre R k)).take (pre R (k + 1) - pre R k) = R[k] := by
          rw [← HD.out, List.drop_eq_getElem_cons hlt, hq, List.flatten_cons, show pre R k + R[k].length - pre R k = R[k].length by omega, List.take_left]
        rw [hpiece] at hsl
        have n1 : decide (pre R (k + 1) ≤ pre R k) = false := decide_eq_false (by omega)
        have n2 : decide (A.length < pre R (k + 1)) = false := decide_eq_false (by omega)
        have HBQ := hide hbq
        clear hce hcg hq hsz hpiece hbq
        generalize R[k] = r at *
        generalize hpk : pre R (k + 1) = q at *
        generalize pre R k = p at *
        go_wp2_with fail
        refine wp_region_held_drew (S := fun W => W.cell? ⟨ge, k, none⟩ = some (.int .i64 (q : Int)) ∧ W.cell? ⟨g7, k, none⟩ = some (.string (strB r))) (by kernel_rfl) (⟨c1, c2⟩) (fun hHeld => ?_)
        refine takeH (i := 0) (v := ?_) rfl (by kernel_rfl) (by kernel_rfl) (by kernel_rfl) (fun _ _ _ h => h) rfl ?_ hHeld ?_
        rotate_left
        · intro w hS; (try dsimp only at hS); obtain ⟨hS0, hS1⟩ := hS; go_simp; first | done | (with_reducible rfl)
        try simp only [Act.put, List.setIfInBounds_toArray, List.set_cons_zero, List.set_cons_succ]
        refine takeH (i := 1) (v := ?_) rfl (by kernel_rfl) (by kernel_rfl) (by kernel_rfl) (fun _ _ _ h => h) rfl ?_ hHeld ?_
        rotate_left
        · intro w hS; (try dsimp only at hS); obtain ⟨hS0, hS1⟩ := hS; go_simp; first | done | (with_reducible rfl)
        try simp only [Act.put, List.setIfInBounds_toArray, List.set_cons_zero, List.set_cons_succ]
        refine takeH (i := 2) (v := ?_) rfl (by kernel_rfl) (by kernel_rfl) (by kernel_rfl) (fun _ _ _ h => h) rfl ?_ hHeld ?_
        rotate_left
        · intro w hS; (try dsimp only at hS); obtain ⟨hS0, hS1⟩ := hS; go_simp; first | done | (with_reducible rfl)
        try simp only [Act.put, List.setIfInBounds_toArray, List.set_cons_zero, List.set_cons_succ]
        refine takeH (i := 3) (v := ?_) rfl (by kernel_rfl) (by kernel_rfl) (by kernel_rfl) (fun _ _ _ h => h) rfl ?_ hHeld ?_
        rotate_left
        · intro w hS; (try dsimp only at hS); obtain ⟨hS0, hS1⟩ := hS; go_simp; first | done | (with_reducible rfl)
        try simp only [Act.put, List.setIfInBounds_toArray, List.set_cons_zero, List.set_cons_succ]
        refine takeH (i := 4) (v := ?_) rfl (by kernel_rfl) (by kernel_rfl) (by kernel_rfl) (fun _ _ _ h => h) rfl ?_ hHeld ?_
        rotate_left
        · intro w hS; (try dsimp only at hS); obtain ⟨hS0, hS1⟩ := hS; go_simp; first | done | (with_reducible rfl)
        try simp only [Act.put, List.setIfInBounds_toArray, List.set_cons_zero, List.set_cons_succ]
        refine takeH (i := 5) (v := ?_) rfl (by kernel_rfl) (by kernel_rfl) (by kernel_rfl) (fun _ _ _ h => h) rfl ?_ hHeld ?_
        rotate_left
        · intro w hS; (try dsimp only at hS); obtain ⟨hS0, hS1⟩ := hS; go_simp; first | done | (with_reducible rfl)
        try simp only [Act.put, List.setIfInBounds_toArray, List.set_cons_zero, List.set_cons_succ]
        refine takeH (i := 6) (v := ?_) rfl (by kernel_rfl) (by kernel_rfl) (by kernel_rfl) (fun _ _ _ h => h) rfl ?_ hHeld ?_
        rotate_left
        · intro w hS; (try dsimp only at hS); obtain ⟨hS0, hS1⟩ := hS; go_simp; first | done | (with_reducible rfl)
        try simp only [Act.put, List.setIfInBounds_toArray, List.set_cons_zero, List.set_cons_succ]
        refine takeH (i := 7) (v := ?_) rfl (by kernel_rfl) (by kernel_rfl) (by kernel_rfl) (fun _ _ _ h => h) rfl ?_ hHeld ?_
        rotate_left
        · intro w hS; (try dsimp only at hS); obtain ⟨hS0, hS1⟩ := hS; go_simp; first | done | (with_reducible rfl)
        try simp only [Act.put, List.setIfInBounds_toArray, List.set_cons_zero, List.set_cons_succ]
        refine takeH (i := 8) (v := ?_) rfl (by kernel_rfl) (by kernel_rfl) (by kernel_rfl) (fun _ _ _ h => h) rfl ?_ hHeld ?_
        rotate_left
        · intro w hS; (try dsimp only at hS); obtain ⟨hS0, hS1⟩ := hS; go_simp; first | done | (with_reducible rfl)
        try simp only [Act.put, List.setIfInBounds_toArray, List.set_cons_zero, List.set_cons_succ]
        refine takeH (i := 9) (v := ?_) rfl (by kernel_rfl) (by kernel_rfl) (by kernel_rfl) (fun _ _ _ h => h) rfl ?_ hHeld ?_
        rotate_left
        · intro w hS; (try dsimp only at hS); obtain ⟨hS0, hS1⟩ := hS; go_simp; first | done | (with_reducible rfl)
        try simp only [Act.put, List.setIfInBounds_toArray, List.set_cons_zero, List.set_cons_succ]
        refine takeH (i := 10) (v := ?_) rfl (by kernel_rfl) (by kernel_rfl) (by kernel_rfl) (fun _ _ _ h => h) rfl ?_ hHeld ?_
        rotate_left
        · intro w hS; (try dsimp only at hS); obtain ⟨hS0, hS1⟩ := hS; go_simp; first | done | (with_reducible rfl)
        try simp only [Act.put, List.setIfInBounds_toArray, List.set_cons_zero, List.set_cons_succ]
        refine takeH (i := 11) (v := ?_) rfl (by kernel_rfl) (by kernel_rfl) (by kernel_rfl) (fun _ _ _ h => h) rfl ?_ hHeld ?_
        rotate_left
        · intro w hS; (try dsimp only at hS); obtain ⟨hS0, hS1⟩ := hS; go_simp; first | done | (with_reducible rfl)
        try simp only [Act.put, List.setIfInBounds_toArray, List.set_cons_zero, List.set_cons_succ]
        refine takeH (i := 12) (v := ?_) rfl (by kernel_rfl) (by kernel_rfl) (by kernel_rfl) (fun _ _ _ h => h) rfl ?_ hHeld ?_
        rotate_left
        · intro w hS; (try dsimp only at hS); obtain ⟨hS0, hS1⟩ := hS; go_simp; first | done | (with_reducible rfl)
        try simp only [Act.put, List.setIfInBounds_toArray, List.set_cons_zero, List.set_cons_succ]
        refine takeH (i := 13) (v := ?_) rfl (by kernel_rfl) (by kernel_rfl) (by kernel_rfl) (fun _ _ _ h => h) rfl ?_ hHeld ?_
        rotate_left
        · intro w hS; (try dsimp only at hS); obtain ⟨hS0, hS1⟩ := hS; go_simp; first | done | (with_reducible rfl)
        try simp only [Act.put, List.setIfInBounds_toArray, List.set_cons_zero, List.set_cons_succ]
        refine takeH (i := 14) (v := ?_) rfl (by kernel_rfl) (by kernel_rfl) (by kernel_rfl) (fun _ _ _ h => h) rfl ?_ hHeld ?_
        rotate_left
        · intro w hS; (try dsimp only at hS); obtain ⟨hS0, hS1⟩ := hS; go_simp; first | done | (with_reducible rfl)
        try simp only [Act.put, List.setIfInBounds_toArray, List.set_cons_zero, List.set_cons_succ]
        refine takeH (i := 15) (v := ?_) rfl (by kernel_rfl) (by kernel_rfl) (by kernel_rfl) (fun _ _ _ h => h) rfl ?_ hHeld ?_
        rotate_left
        · intro w hS; (try dsimp only at hS); obtain ⟨hS0, hS1⟩ := hS; go_simp; first | done | (with_reducible rfl)
        try simp only [Act.put, List.setIfInBounds_toArray, List.set_cons_zero, List.set_cons_succ]
        refine takeH (i := 16) (v := ?_) rfl (by kernel_rfl) (by kernel_rfl) (by kernel_rfl) (fun _ _ _ h => h) rfl ?_ hHeld ?_
        rotate_left
        · intro w hS; (try dsimp only at hS); obtain ⟨hS0, hS1⟩ := hS; go_simp; first | done | (with_reducible rfl)
        try simp only [Act.put, List.setIfInBounds_toArray, List.set_cons_zero, List.set_cons_succ]
        refine takeH (i := 17) (v := ?_) rfl (by kernel_rfl) (by kernel_rfl) (by kernel_rfl) (fun _ _ _ h => h) rfl ?_ hHeld ?_
        rotate_left
        · intro w hS; (try dsimp only at hS); obtain ⟨hS0, hS1⟩ := hS; go_simp; first | done | (with_reducible rfl)
        try simp only [Act.put, List.setIfInBounds_toArray, List.set_cons_zero, List.set_cons_succ]
        refine takeH (i := 18) (v := ?_) rfl (by kernel_rfl) (by kernel_rfl) (by kernel_rfl) (fun _ _ _ h => h) rfl ?_ hHeld ?_
        rotate_left
        · intro w hS; (try dsimp only at hS); obtain ⟨hS0, hS1⟩ := hS; go_simp; first | done | (with_reducible rfl)
        try simp only [Act.put, List.setIfInBounds_toArray, List.set_cons_zero, List.set_cons_succ]
        refine takeH (i := 19) (v := ?_) rfl (by kernel_rfl) (by kernel_rfl) (by kernel_rfl) (fun _ _ _ h => h) rfl ?_ hHeld ?_
        rotate_left
        · intro w hS; (try dsimp only at hS); obtain ⟨hS0, hS1⟩ := hS; go_simp; first | done | (with_reducible rfl)
        try simp only [Act.put, List.setIfInBounds_toArray, List.set_cons_zero, List.set_cons_succ]
        refine takeH (i := 20) (v := ?_) rfl (by kernel_rfl) (by kernel_rfl) (by kernel_rfl) (fun _ _ _ h => h) rfl ?_ hHeld ?_
        rotate_left
        · intro w hS; (try dsimp only at hS); obtain ⟨hS0, hS1⟩ := hS; go_simp; first | done | (with_reducible rfl)
        try simp only [Act.put, List.setIfInBounds_toArray, List.set_cons_zero, List.set_cons_succ]
        refine takeH (i := 21) (v := ?_) rfl (by kernel_rfl) (by kernel_rfl) (by kernel_rfl) (fun _ _ _ h => h) rfl ?_ hHeld ?_
        rotate_left
        · intro w hS; (try dsimp only at hS); obtain ⟨hS0, hS1⟩ := hS; go_simp; first | done | (with_reducible rfl)
        try simp only [Act.put, List.setIfInBounds_toArray, List.set_cons_zero, List.set_cons_succ]
        refine takeH (i := 22) (v := ?_) rfl (by kernel_rfl) (by kernel_rfl) (by kernel_rfl) (fun _ _ _ h => h) rfl ?_ hHeld ?_
        rotate_left
        · intro w hS; (try dsimp only at hS); obtain ⟨hS0, hS1⟩ := hS; go_simp; first | done | (with_reducible rfl)
        try simp only [Act.put, List.setIfInBounds_toArray, List.set_cons_zero, List.set_cons_succ]
        refine takeH (i := 23) (v := ?_) rfl (by kernel_rfl) (by kernel_rfl) (by kernel_rfl) (fun _ _ _ h => h) rfl ?_ hHeld ?_
        rotate_left
        · intro w hS; (try dsimp only at hS); obtain ⟨hS0, hS1⟩ := hS; go_simp; first | done | (with_reducible rfl)
        try simp only [Act.put, List.setIfInBounds_toArray, List.set_cons_zero, List.set_cons_succ]
        refine takeH (i := 24) (v := ?_) rfl (by kernel_rfl) (by kernel_rfl) (by kernel_rfl) (fun _ _ _ h => h) rfl ?_ hHeld ?_
        rotate_left
        · intro w hS; (try dsimp only at hS); obtain ⟨hS0, hS1⟩ := hS; go_simp; first | done | (with_reducible rfl)
        try simp only [Act.put, List.setIfInBounds_toArray, List.set_cons_zero, List.set_cons_succ]
        refine takeH (i := 25) (v := ?_) rfl (by kernel_rfl) (by kernel_rfl) (by kernel_rfl) (fun _ _ _ h => h) rfl ?_ hHeld ?_
        rotate_left
        · intro w hS; (try dsimp only at hS); obtain ⟨hS0, hS1⟩ := hS; go_simp; first | done | (with_reducible rfl)
        try simp only [Act.put, List.setIfInBounds_toArray, List.set_cons_zero, List.set_cons_succ]
        refine takeH (i := 26) (v := ?_) rfl (by kernel_rfl) (by kernel_rfl) (by kernel_rfl) (fun _ _ _ h => h) rfl ?_ hHeld ?_
        rotate_left
        · intro w hS; (try dsimp only at hS); obtain ⟨hS0, hS1⟩ := hS; go_simp; first | done | (with_reducible rfl)
        try simp only [Act.put, List.setIfInBounds_toArray, List.set_cons_zero, List.set_cons_succ]
        refine takeH (i := 27) (v := ?_) rfl (by kernel_rfl) (by kernel_rfl) (by kernel_rfl) (fun _ _ _ h => h) rfl ?_ hHeld ?_
        rotate_left
        · intro w hS; (try dsimp only at hS); obtain ⟨hS0, hS1⟩ := hS; go_simp; first | done | (with_reducible rfl)
        try simp only [Act.put, List.setIfInBounds_toArray, List.set_cons_zero, List.set_cons_succ]
        refine takeH (i := 28) (v := ?_) rfl (by kernel_rfl) (by kernel_rfl) (by kernel_rfl) (fun _ _ _ h => h) rfl ?_ hHeld ?_
        rotate_left
        · intro w hS; (try dsimp only at hS); obtain ⟨hS0, hS1⟩ := hS; go_simp; first | done | (with_reducible rfl)
        try simp only [Act.put, List.setIfInBounds_toArray, List.set_cons_zero, List.set_cons_succ]
        refine wpAnyH_done (by kernel_rfl) ?_ _
        go_wp2_with fail
        exact ⟨⟨k + 1, by go_num, by omega, by rw [hpk], HBQ.out.drew⟩, by simp [intOf]; omega⟩
      · obtain rfl : k = R.length := by omega
        rw [hpa]
        go_wp2
        go_ret
        exact ⟨rfl, hB8.trans (hbq.mono hB8.size)⟩
end Go.Proofs.Ythkhmjdenenikaa
